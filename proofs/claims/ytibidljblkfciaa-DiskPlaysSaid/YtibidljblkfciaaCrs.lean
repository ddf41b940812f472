/-
What is proved here: the law DiskCrash's walk.
-/
import Derived.Test.YtibidljblkfciaaCle
import Derived.Test.YtibidljblkfciaaFra
set_option linter.unusedSimpArgs false
namespace Go.Proofs.Ytibidljblkfciaa
open Go.Word Go.RowKit

/-- the pair of disks in the law: its memory is the law's own -/
structure Pair (w0 w : World) (g r n m : Nat) : Prop where
  two : ∃ F ws fp fq, Two2 w g r n F ws true (-1) fp fq ∧ ws.length ≤ m ∧ (∀ i, fp i → w0.heap.size ≤ i) ∧ (∀ i, fq i → w0.heap.size ≤ i)
  low : Below w0.heap.size w0 w
theorem low_keeps {w0 w w' : World} {fp fq : Nat → Prop} (h : Below w0.heap.size w0 w) (hk : Keeps (fun i => fp i ∨ fq i) w w') (h1 : ∀ i, fp i → w0.heap.size ≤ i) (h2 : ∀ i, fq i → w0.heap.size ≤ i) : Below w0.heap.size w0 w' :=
  ⟨hk.os.trans h.os, hk.tape.trans h.tape, hk.output.trans h.output, Nat.le_trans h.size hk.size, fun k hk2 => (hk.block k (Nat.lt_of_lt_of_le hk2 h.size) (fun hh => by rcases hh with hh | hh; have := h1 k hh; omega; have := h2 k hh; omega)).trans (h.block k hk2)⟩

theorem pair_flush {w0 : World} {g r n m : Nat} (kv : Value) (w : World) (hm : m ≤ 60000) (h : Pair w0 w g r n m) :
    Calls Try.prog 16 #[.pointer (some ⟨g, 0, none⟩), .pointer (some ⟨r, 0, none⟩), .agg #[.int .i64 2, .int .i64 0, .int .i64 0, kv]] w fun e w' => e = .returned (.bool true) ∧ Pair w0 w' g r n (m + 1) := by
  obtain ⟨⟨F, ws, fp, fq, ht, hl, h1, h2⟩, hb⟩ := h
  exact (call_flush 0 0 kv w (by omega) ht).mono fun e w' ⟨he, ht', hk⟩ => ⟨he, ⟨_, _, fp, fq, ht', by simp, h1, h2⟩, low_keeps hb hk h1 h2⟩
theorem pair_write {w0 : World} {g r n m : Nat} (z b : Int) (kv : Value) (w : World) (h0 : 0 ≤ z) (hz : z < n) (hm : m ≤ 60000) (h : Pair w0 w g r n m) :
    Calls Try.prog 16 #[.pointer (some ⟨g, 0, none⟩), .pointer (some ⟨r, 0, none⟩), .agg #[.int .i64 1, .int .i64 z, .int .i64 b, kv]] w fun e w' => e = .returned (.bool true) ∧ Pair w0 w' g r n (m + 1) := by
  obtain ⟨⟨F, ws, fp, fq, ht, hl, h1, h2⟩, hb⟩ := h
  exact (call_write z z.toNat (by omega) b kv w (by omega) (by omega) ht).mono fun e w' ⟨he, ⟨fp', fq', s1, s2, ht'⟩, hk⟩ => ⟨he, ⟨_, _, fp', fq', ht', by simp; omega, fun i hi => (s1 i hi).elim (h1 i) (fun hh => Nat.le_trans hb.size hh), fun i hi => (s2 i hi).elim (h2 i) (fun hh => Nat.le_trans hb.size hh)⟩, low_keeps hb hk h1 h2⟩
theorem pair_crash {w0 : World} {g r n m : Nat} (KA : Option Addr) (kl kc : Nat) (ks : Nat → Int) (w : World) (hm : m ≤ 60000) (hkl : kl ≤ 17592186043904) (hK : Nums w0 KA kl ks) (hcap : KA = none → kl = 0 ∧ kc = 0) (h : Pair w0 w g r n m) :
    Calls Try.prog 16 #[.pointer (some ⟨g, 0, none⟩), .pointer (some ⟨r, 0, none⟩), .agg #[.int .i64 4, .int .i64 0, .int .i64 0, .slice KA kl kc]] w fun e w' => e = .returned (.bool true) ∧ Pair w0 w' g r n 0 := by
  obtain ⟨⟨F, ws, fp, fq, ht, hl, h1, h2⟩, hb⟩ := h
  refine (call_crash 0 0 KA kl kc ks w (by omega) hkl (fun i hi => ?_) hcap ht).mono fun e w' ⟨he, ht', hk⟩ => ⟨he, ⟨_, _, fp, fq, ht', by simp, h1, h2⟩, low_keeps hb hk h1 h2⟩
  obtain ⟨b, o, e, hlt, hc, _⟩ := hK i hi
  exact ⟨b, o, e, Nat.lt_of_lt_of_le hlt hb.size, fun hh => by have := h1 b hh; omega, fun hh => by have := h2 b hh; omega, (hb.cell (p := ⟨b, o + i, none⟩) hlt).trans hc⟩
theorem pair_read {w0 : World} {g r n m : Nat} (z : Int) (kv : Value) (w : World) (h0 : 0 ≤ z) (hz : z < n) (hm : m ≤ 60000) (h : Pair w0 w g r n m) :
    Calls Try.prog 16 #[.pointer (some ⟨g, 0, none⟩), .pointer (some ⟨r, 0, none⟩), .agg #[.int .i64 0, .int .i64 z, .int .i64 0, kv]] w fun e w' => e = .returned (.bool true) ∧ Pair w0 w' g r n m := by
  obtain ⟨⟨F, ws, fp, fq, ht, hl, h1, h2⟩, hb⟩ := h
  exact (call_read z z.toNat (by omega) 0 kv w (by omega) (by omega) ht).mono fun e w' ⟨he, hb'⟩ => ⟨he, ⟨F, ws, fp, fq, two_below ht hb', hl, h1, h2⟩, hb.trans (hb'.mono hb.size)⟩
theorem pair_alike {w0 : World} {g r n m : Nat} (w : World) (hm : m ≤ 60000) (h : Pair w0 w g r n m) :
    Calls Try.prog 17 #[.pointer (some ⟨g, 0, none⟩), .pointer (some ⟨r, 0, none⟩)] w fun e w' => e = .returned (.bool true) ∧ Below w0.heap.size w0 w' := by
  obtain ⟨⟨F, ws, fp, fq, ht, hl, h1, h2⟩, hb⟩ := h
  exact (alike_any w (by omega) ht).mono fun e w' ⟨he, hb'⟩ => ⟨he, hb.trans (hb'.mono hb.size)⟩
theorem pair_new (w0 w : World) (hb : Below w0.heap.size w0 w) : Calls Try.prog 13 #[.int .i64 8] w fun e w' => ∃ g r, e = .returned (.tuple #[.pointer (some ⟨g, 0, none⟩), .pointer (some ⟨r, 0, none⟩), .bool true]) ∧ Pair w0 w' g r 8 0 :=
  (pair_any 8 8 rfl w (by decide) (by decide)).mono fun e w' ⟨g, fp, r, fq, he, hd, hr, ha, l1, l2, hb'⟩ => ⟨g, r, he, ⟨_, [], fp, fq, ⟨hd, hr, ha⟩, by simp, fun i hi => Nat.le_trans hb.size (l1 i hi), fun i hi => Nat.le_trans hb.size (l2 i hi)⟩, hb.trans (hb'.mono hb.size)⟩

set_option maxRecDepth 100000 in
set_option maxHeartbeats 4000000 in
theorem crash_law (A KA : Option Addr) (k c kl kc : Nat) (od : Nat → OpD) (ks : Nat → Int) (w : World) (hk : k ≤ c) (hc : c ≤ maxLen) (hO : Opss w A k od) (hkl : kl ≤ kc) (hkc : kc ≤ maxLen) (hK : Nums w KA kl ks) (hcap : KA = none → kl = 0 ∧ kc = 0) :
    Calls Try.prog 4 #[.slice A k c, .slice KA kl kc] w fun e w' => e = .returned (.bool true) ∧ Below w.heap.size w w' := by
  have hkm : k ≤ 9223372036854775807 := by unfold maxLen at hc; omega
  have hlm : kl ≤ 9223372036854775807 := by unfold maxLen at hkc; omega
  have LG := fun w' (hb : Below w.heap.size w w') => Lib.hid (long_any A k c od w' hk hc (fun i hi => by
    obtain ⟨b, o, e, hlt, c0, c1, c2, c3, r1, r2, r3, r4, r5, r6⟩ := hO i hi
    exact ⟨b, o, e, Nat.lt_of_lt_of_le hlt hb.size, (hb.cell (p := ⟨b, o + i * 4, none⟩) hlt).trans c0, (hb.cell (p := ⟨b, o + i * 4 + 1, none⟩) hlt).trans c1, (hb.cell (p := ⟨b, o + i * 4 + 2, none⟩) hlt).trans c2, (hb.cell (p := ⟨b, o + i * 4 + 3, none⟩) hlt).trans c3, r1, r2, nums_below r3 hb, r4, r5, r6⟩))
  by_cases h100 : 100 < k
  · have h100' : 100 < (k : Int) := by omega
    clear hO hK hcap
    go_enter Try.func4, Try.ntmps4
    go_upto_region 3 with (first
      | (go_at_call 11; (with_reducible refine (alive_any _).mono ?_); rintro e w1 ⟨rfl, hb⟩; have H1 := Lib.hid hb; clear hb)
      | (go_at_call 12; (with_reducible refine (LG _ H1.out).out.mono ?_); rintro e w2 ⟨much, rfl, rfl⟩))
    cases much with
    | true =>
      go_wp2
      go_ret
      exact ⟨rfl, H1.out⟩
    | false =>
      go_wp2
      go_ret
      exact ⟨rfl, H1.out⟩
  by_cases h200 : 200 < kl
  · have h200' : 200 < (kl : Int) := by omega
    clear hO hK hcap
    go_enter Try.func4, Try.ntmps4
    go_upto_region 3 with (first
      | (go_at_call 11; (with_reducible refine (alive_any _).mono ?_); rintro e w1 ⟨rfl, hb⟩; have H1 := Lib.hid hb; clear hb)
      | (go_at_call 12; (with_reducible refine (LG _ H1.out).out.mono ?_); rintro e w2 ⟨much, rfl, rfl⟩))
    cases much with
    | true =>
      go_wp2
      go_ret
      exact ⟨rfl, H1.out⟩
    | false =>
      go_wp2
      go_ret
      exact ⟨rfl, H1.out⟩
  have h100' : ¬ 100 < (k : Int) := by omega
  have h200' : ¬ 200 < (kl : Int) := by omega
  have HO := Lib.hid hO
  have HK := Lib.hid hK
  have HCAP := Lib.hid hcap
  clear hO hK hcap
  go_enter Try.func4, Try.ntmps4
  go_upto_region 3 with (first
    | (go_at_call 11; (with_reducible refine (alive_any _).mono ?_); rintro e w1 ⟨rfl, hb⟩; have H1 := Lib.hid hb; clear hb)
    | (go_at_call 12; (with_reducible refine (LG _ H1.out).out.mono ?_); rintro e w2 ⟨much, rfl, rfl⟩))
  cases much with
  | true =>
    go_wp2
    go_ret
    exact ⟨rfl, H1.out⟩
  | false =>
    go_wp2_with (go_at_call 13; (with_reducible refine (pair_new w _ H1.out).mono ?_); rintro e w3 ⟨g, r, rfl, hp⟩; have HP := Lib.hid hp; clear hp)
    go_loopw [10] (fun v wr => ∃ i : Nat, i ≤ k ∧ v = .int .i64 (i : Int) ∧ Pair w wr g r 8 i) (fun v _ => k - (intOf v).toNat)
    case atStart => exact ⟨0, Nat.zero_le _, rfl, HP.out⟩
    case round =>
      obtain ⟨i, hi, rfl, hp⟩ := hrel
      have HQ := Lib.hid hp
      clear hp
      by_cases hlt : i < k
      · have lk : decide (i < k) = true := decide_eq_true hlt
        have li : (i : Int) < (k : Int) := by omega
        obtain ⟨b, o, eA, hl, c0, c1, c2, _⟩ := HO.out i hlt
        subst eA
        have d0 := (HQ.out.low.cell (p := ⟨b, o + i * 4, none⟩) hl).trans c0
        have d1 := (HQ.out.low.cell (p := ⟨b, o + i * 4 + 1, none⟩) hl).trans c1
        have d2 := (HQ.out.low.cell (p := ⟨b, o + i * 4 + 2, none⟩) hl).trans c2
        clear c0 c1 c2
        generalize (od i).kind = kd at d0
        generalize (od i).a = za at d1
        generalize (od i).b = zb at d2
        have e7 := and7 za
        by_cases h2 : kd = 2
        · subst h2
          go_wp2_with (first
            | (refine wpList_built rfl 33 _ rfl #[.int .i64 2, .int .i64 0, .int .i64 0, .slice none 0 0] (by kernel_rfl) ?_)
            | (go_at_call 16; (with_reducible refine (pair_flush _ _ (by omega) HQ.out).mono ?_); rintro e w4 ⟨rfl, hp⟩; have HR := Lib.hid hp; clear hp))
          go_roundw
          case rel => exact ⟨i + 1, by omega, by go_num, HR.out⟩
          case measure => first | (simp [intOf]; done) | (simp [intOf]; omega)
        · have l2 : decide (kd = 2) = false := decide_eq_false h2
          go_wp2_with (first
            | (refine wpList_built rfl 33 _ rfl #[.int .i64 1, .int .i64 (za % 8), .int .i64 zb, .slice none 0 0] (by kernel_rfl) ?_)
            | (go_at_call 16; (with_reducible refine (pair_write _ _ _ _ (by omega) (by omega) (by omega) HQ.out).mono ?_); rintro e w4 ⟨rfl, hp⟩; have HR := Lib.hid hp; clear hp))
          go_roundw
          case rel => exact ⟨i + 1, by omega, by go_num, HR.out⟩
          case measure => first | (simp [intOf]; done) | (simp [intOf]; omega)
      · have lk : decide (i < k) = false := decide_eq_false hlt
        have li : ¬ (i : Int) < (k : Int) := by omega
        go_wp2_with (first
          | (refine wpList_built rfl 33 _ rfl #[.int .i64 4, .int .i64 0, .int .i64 0, .slice KA kl kc] (by kernel_rfl) ?_)
          | (go_at_call 16; (with_reducible refine (pair_crash KA kl kc ks _ (by omega) (by omega) HK.out HCAP.out HQ.out).mono ?_); rintro e w4 ⟨rfl, hp⟩; have HR := Lib.hid hp; clear hp))
        go_loopw [12, 13] (fun v12 v13 wr => ∃ j : Nat, j ≤ 8 ∧ v12 = .bool true ∧ v13 = .int .i64 (j : Int) ∧ Pair w wr g r 8 0) (fun _ v _ => 8 - (intOf v).toNat)
        case atStart => exact ⟨0, Nat.zero_le _, rfl, rfl, HR.out⟩
        case round =>
          obtain ⟨j, hj, rfl, rfl, hp⟩ := hrel
          have HS := Lib.hid hp
          clear hp
          by_cases h8 : j < 8
          · have lj : decide (j < 8) = true := decide_eq_true h8
            have ljj : (j : Int) < 8 := by omega
            go_wp2_with (first
              | (refine wpList_built rfl 33 _ rfl #[.int .i64 0, .int .i64 (j : Int), .int .i64 0, .slice none 0 0] (by kernel_rfl) ?_)
              | (go_at_call 16; (with_reducible refine (pair_read _ _ _ (by omega) (by omega) (by omega) HS.out).mono ?_); rintro e w5 ⟨rfl, hp⟩; have HT := Lib.hid hp; clear hp))
            go_roundw
            case rel => exact ⟨j + 1, by omega, rfl, by go_num, HT.out⟩
            case measure => first | (simp [intOf]; done) | (simp [intOf]; omega)
          · have lj : decide (j < 8) = false := decide_eq_false h8
            have ljj : ¬ (j : Int) < 8 := by omega
            go_wp2_with (go_at_call 17; (with_reducible refine (pair_alike _ (by omega) HS.out).mono ?_); rintro e w5 ⟨rfl, hb⟩; have HU := Lib.hid hb; clear hb)
            go_ret
            exact ⟨rfl, HU.out⟩
end Go.Proofs.Ytibidljblkfciaa
