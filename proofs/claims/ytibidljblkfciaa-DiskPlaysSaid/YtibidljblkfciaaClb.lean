/-
What is proved here: the laws' helpers on a row of calls and on the pair of disks.
What is proved here: the laws' helper 'call', for a flush and for a crash, on the pair of disks.
-/
import Derived.Test.YtibidljblkfciaaOpn
import Derived.Test.YtibidljblkfciaaRkg
set_option linter.unusedSimpArgs false
namespace Go.Proofs.Ytibidljblkfciaa
open Go.Word Go.RowKit

def SomeBool (w : World) (e : Ending) (w' : World) : Prop := ∃ b : Bool, e = .returned (.bool b) ∧ w = w'
set_option maxHeartbeats 1000000 in
theorem long_any (A : Option Addr) (k c : Nat) (od : Nat → OpD) (w : World) (hk : k ≤ c) (hc : c ≤ maxLen) (h : Opss w A k od) :
    Calls Try.prog 12 #[.slice A k c] w (SomeBool w) := by
  have hkm : k ≤ 9223372036854775807 := by unfold maxLen at hc; omega
  have H := Lib.hid h
  clear h
  go_enter Try.func12, Try.ntmps12
  go_wp2
  go_loop [3, 4] (fun v3 v4 => ∃ (i : Nat) (m : Int), i ≤ k ∧ v4 = .int .i64 (i : Int) ∧ v3 = .int .i64 m) (fun _ v4 => k - (intOf v4).toNat)
  case atStart => exact ⟨0, 0, Nat.zero_le _, rfl, rfl⟩
  case round =>
    obtain ⟨i, m, hi, rfl, rfl⟩ := hrel
    by_cases hlt : i < k
    · have lk : decide (i < k) = true := decide_eq_true hlt
      have li : (i : Int) < (k : Int) := by omega
      by_cases h2 : m ≤ 2000
      · have lm : decide (m ≤ 2000) = true := decide_eq_true h2
        obtain ⟨b, o, eA, _, _, _, _, hc3, hk1, hk2, _⟩ := H.out i hlt
        subst eA
        obtain ⟨kl, hkl⟩ : ∃ kl, kl = (od i).kl := ⟨_, rfl⟩
        rw [← hkl] at hc3 hk1
        have hkl2 : kl ≤ 9223372036854775807 := by unfold maxLen at hk2; omega
        clear hkl hk1 hk2 hc
        go_wp2
        go_round
        case rel => exact ⟨i + 1, _, by omega, by go_num, rfl⟩
        case measure => first | (simp [intOf]; done) | (simp [intOf]; omega)
      · have lm : decide (m ≤ 2000) = false := decide_eq_false h2
        go_wp2
        go_ret
        exact ⟨_, rfl, rfl⟩
    · have lk : decide (i < k) = false := decide_eq_false hlt
      have li : ¬ (i : Int) < (k : Int) := by omega
      by_cases h2 : m ≤ 2000
      · have lm : decide (2000 < m) = false := decide_eq_false (by omega)
        go_wp2
        go_ret
        exact ⟨_, rfl, rfl⟩
      · have lm : decide (2000 < m) = true := decide_eq_true (by omega)
        go_wp2
        go_ret
        exact ⟨_, rfl, rfl⟩
set_option maxHeartbeats 1000000 in
theorem pair_any (z : Int) (n : Nat) (hz : z = n) (w : World) (h1 : 1 ≤ n) (h2 : n ≤ 4096) :
    Calls Try.prog 13 #[.int .i64 z] w fun e w' => ∃ g fp r fq, e = .returned (.tuple #[.pointer (some ⟨g, 0, none⟩), .pointer (some ⟨r, 0, none⟩), .bool true]) ∧ DK w' g n (fun _ => 0) [] true (-1) fp ∧ RD w' r n (fun _ => 0) [] true (-1) fq ∧ Apart fp fq ∧ (∀ i, fp i → w.heap.size ≤ i) ∧ (∀ i, fq i → w.heap.size ≤ i) ∧ Below w.heap.size w w' := by
  have D := Lib.hid (dk_new z n hz w h1 h2)
  have R := Lib.hid (fun W : World => rd_new z n hz W h1 h2)
  clear hz
  go_enter Try.func13, Try.ntmps13
  go_wp2_with (first
    | (go_at_call 18; (with_reducible refine D.out.mono ?_); rintro e w1 ⟨g, fp, rfl, hd, hf, hb⟩; have HD := Lib.hid hd; have HF := Lib.hid hf; have HB := Lib.hid hb; clear hd hf hb)
    | (go_at_call 31; (with_reducible refine (R.out _).mono ?_); rintro e w2 ⟨r, fq, rfl, hd, hf, hb⟩; have HR := Lib.hid hd; have HG := Lib.hid hf; have HC := Lib.hid hb; clear hd hf hb)
    | (go_at_call 24; (with_reducible refine (num_any _ _).mono ?_); rintro e w' ⟨rfl, rfl⟩))
  go_ret3
  exact ⟨g, fp, r, fq, rfl, dk_below HD.out HC.out, HR.out, fun i h1 h2 => by have := dk_all HD.out i h1; have := HG.out i h2; omega, HF.out, fun i h => Nat.le_trans HB.out.size (HG.out i h), up HB.out HC.out⟩
end Go.Proofs.Ytibidljblkfciaa

set_option linter.unusedSimpArgs false
namespace Go.Proofs.Ytibidljblkfciaa
open Go.Word Go.RowKit

/-- both disks hold the same -/
structure Two2 (w : World) (g r n : Nat) (F : Bytes) (ws : List (Nat × Bytes)) (on : Bool) (lf : Int) (fp fq : Nat → Prop) : Prop where
  d : DK w g n F ws on lf fp
  r : RD w r n F ws on lf fq
  apart : Apart fp fq
section
variable {w w' : World} {g r n : Nat} {F : Bytes} {ws : List (Nat × Bytes)} {on : Bool} {lf : Int} {fp fq : Nat → Prop}
theorem two_below (h : Two2 w g r n F ws on lf fp fq) (hb : Below w.heap.size w w') : Two2 w' g r n F ws on lf fp fq := ⟨dk_below h.d hb, rd_below h.r hb, h.apart⟩
theorem keeps_both {w1 w2 : World} (h1 : Keeps fp w w1) (h2 : Keeps fq w1 w2) : Keeps (fun i => fp i ∨ fq i) w w2 :=
  ⟨h2.os.trans h1.os, h2.tape.trans h1.tape, h2.output.trans h1.output, Nat.le_trans h1.size h2.size, fun i hi hn => (h2.block i (Nat.lt_of_lt_of_le hi h1.size) (fun h => hn (.inr h))).trans (h1.block i hi (fun h => hn (.inl h)))⟩
theorem keeps_pre {w1 : World} (hb : Below w.heap.size w w1) (h : Keeps fp w1 w') : Keeps fp w w' :=
  ⟨h.os.trans hb.os, h.tape.trans hb.tape, h.output.trans hb.output, Nat.le_trans hb.size h.size, fun i hi hn => (h.block i (Nat.lt_of_lt_of_le hi hb.size) hn).trans (hb.block i hi)⟩

set_option maxRecDepth 100000 in
set_option maxHeartbeats 4000000 in
theorem call_flush (a b : Int) (kv : Value) (w : World) (hN : ws.length ≤ 70000) (h : Two2 w g r n F ws true (-1) fp fq) :
    Calls Try.prog 16 #[.pointer (some ⟨g, 0, none⟩), .pointer (some ⟨r, 0, none⟩), .agg #[.int .i64 2, .int .i64 a, .int .i64 b, kv]] w fun e w' => e = .returned (.bool true) ∧ Two2 w' g r n (now F ws) [] true (-1) fp fq ∧ Keeps (fun i => fp i ∨ fq i) w w' := by
  have bb := (Below.refl w.heap.size w).alloc (Nat.le_refl _) (.cells #[.int .i64 2, .int .i64 a, .int .i64 b, kv] 33)
  have H1 := Lib.hid (two_below h bb)
  have BB := Lib.hid bb
  clear h bb
  go_enter Try.func16, Try.ntmps16
  go_upto_region 28 with (fail)
  generalize w.alloc (.cells #[.int .i64 2, .int .i64 a, .int .i64 b, kv] 33) = W at *
  go_wp2_with (first
    | (go_at_call 25; (with_reducible refine (dk_flush W (by decide) (by decide) H1.out.d).mono ?_); rintro e w1 ⟨rfl, hd, hk⟩; have HD := Lib.hid (show DK w1 g n (now F ws) [] true (-1) fp from hd); have HK := Lib.hid hk; have HR := Lib.hid (rd_frame H1.out.r hk (apart_symm H1.out.apart)); clear hd hk)
    | (go_at_call 24; (with_reducible refine (num_any _ _).mono ?_); rintro e w' ⟨rfl, rfl⟩)
    | (go_at_call 36; (with_reducible refine (rd_flush w1 hN (by decide) (by decide) (by decide) HR.out).mono ?_); rintro e w2 ⟨rfl, hd, hk⟩; have HR2 := Lib.hid (show RD w2 r n (now F ws) [] true (-1) fq from hd); have HK2 := Lib.hid hk; clear hd hk))
  go_ret
  exact ⟨rfl, ⟨dk_frame HD.out HK2.out H1.out.apart, HR2.out, H1.out.apart⟩, keeps_pre BB.out (keeps_both HK.out HK2.out)⟩
end
end Go.Proofs.Ytibidljblkfciaa
