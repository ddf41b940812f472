/-
What is proved here: the laws' helper 'call', for a read, on the pair of disks.
-/
import Derived.Test.YtibidljblkfciaaAlk
set_option linter.unusedSimpArgs false
namespace Go.Proofs.Ytibidljblkfciaa
open Go.Word Go.RowKit

section
variable {w w' : World} {g r n : Nat} {F : Bytes} {ws : List (Nat × Bytes)} {lf : Int} {fp fq : Nat → Prop}
set_option maxRecDepth 100000 in
set_option maxHeartbeats 4000000 in
theorem call_read (z : Int) (at_ : Nat) (hz : z = at_) (b : Int) (kv : Value) (w : World) (ha : at_ < n) (hN : ws.length ≤ 70000) (h : Two2 w g r n F ws true lf fp fq) :
    Calls Try.prog 16 #[.pointer (some ⟨g, 0, none⟩), .pointer (some ⟨r, 0, none⟩), .agg #[.int .i64 0, .int .i64 z, .int .i64 b, kv]] w fun e w' => e = .returned (.bool true) ∧ Below w.heap.size w w' := by
  subst hz
  have bb := (Below.refl w.heap.size w).alloc (Nat.le_refl _) (.cells #[.int .i64 0, .int .i64 (at_ : Int), .int .i64 b, kv] 33)
  have H1 := Lib.hid (two_below h bb)
  have BB := Lib.hid bb
  have cA : (w.alloc (.cells #[.int .i64 0, .int .i64 (at_ : Int), .int .i64 b, kv] 33)).cell? ⟨w.heap.size, 1, none⟩ = some (.int .i64 (at_ : Int)) := lies_cell (lies_new w 33 _) 1
  have LB := Lib.hid (lies_new w 33 #[.int .i64 0, .int .i64 (at_ : Int), .int .i64 b, kv])
  have hz := zero78
  have hm := (dk_most h.d).2
  clear h bb
  obtain ⟨q, hq⟩ : ∃ q : Bytes, q = fun j => now F ws (512 * at_ + j) := ⟨_, rfl⟩
  go_enter Try.func16, Try.ntmps16
  go_upto_region 3 with (fail)
  generalize w.alloc (.cells #[.int .i64 0, .int .i64 (at_ : Int), .int .i64 b, kv] 33) = W at *
  have R1 := Lib.hid (by have := dk_read (at_ : Int) at_ rfl W ha H1.out.d; rw [← hq] at this; exact this)
  go_upto_region 4 with (go_at_call 21; (with_reducible refine R1.out.mono ?_); rintro e w1 ⟨r1, rfl, hr, hl, hb⟩; have HRW := Lib.hid (show W.heap.size ≤ r1 from Nat.le_of_eq hr); have HL := Lib.hid hl; have H2 := Lib.hid hb; have cA1 := (hb.cell (p := ⟨w.heap.size, 1, none⟩) (lies_lt LB.out)).trans cA; clear hr hl hb)
  have R2 := Lib.hid (by have := rd_read (at_ : Int) at_ rfl w1 ha hN (rd_below H1.out.r H2.out); rw [← hq] at this; exact this)
  have B1 := Lib.hid (up BB.out H2.out)
  clear cA R1 hq
  go_upto_region 9 with (first
    | (go_at_call 34; (with_reducible refine R2.out.mono ?_); rintro e w2 ⟨rfl, hb⟩; have H3 := Lib.hid hb; have LN := Lib.hid (lies_new w2 78 (yRow nil8 512)); have ES := Lib.hid (setRow_alloc w2 78 (yRow nil8 512) (yRow q 512)); clear hb)
    | (go_at_call 24; (with_reducible refine (num_any _ _).mono ?_); rintro e w' ⟨rfl, rfl⟩)
    | (refine wpList_store_row rfl 78 _ _ rfl w2.heap.size (yRow q 512) rfl rfl 78 _ LN.out (by rw [yRow_size]; exact size78) (by rw [yRow_size, yRow_size]) (yRow_one _ _) ?_; rw [ES.out]))
  have hr1 := lies_lt HL.out
  have l1 := lies_alloc (lies_below HL.out H3.out hr1) (.cells (yRow q 512) 78)
  have l2 := lies_new w2 78 (yRow q 512)
  have bX : Below w.heap.size w (w2.alloc (.cells (yRow q 512) 78)) := (up B1.out H3.out).alloc (up B1.out H3.out).size _
  have hr1w : w.heap.size ≤ r1 := by
    have := H2.out.size
    have := BB.out.size
    have e := HRW.out
    omega
  obtain ⟨m2, hm2⟩ : ∃ m2, w2.heap.size = m2 := ⟨_, rfl⟩
  rw [hm2] at l2 ⊢
  clear LN ES hm2
  generalize w2.alloc (.cells (yRow q 512) 78) = X at l1 l2 bX ⊢
  obtain ⟨T, hT⟩ : ∃ T, T = text8 q 512 := ⟨_, rfl⟩
  have CV1 : ∀ k, (convert 44 9 (.slice (some ⟨r1, 0, none⟩) 512 512)).run Try.prog (X.drewN k) = .ok (.string T) (X.drewN k) := fun k => by rw [hT]; exact run_text ⟨r1, 0, none⟩ 512 512 q (X.drewN k) (src_row (lies_drewN l1 k))
  have src2 : Src8 X ⟨m2, 0, none⟩ q 512 := fun j hj => by rw [Addr.add_mid, Nat.zero_add, lies_cell l2, yRow_at q hj]
  have CV2 : ∀ k, (convert 44 9 (.slice (some ⟨m2, 0, none⟩) 512 512)).run Try.prog (X.drewN k) = .ok (.string T) (X.drewN k) := fun k => by rw [hT]; exact run_text ⟨m2, 0, none⟩ 512 512 q (X.drewN k) src2
  have L1 := Lib.hid l1
  have BX := Lib.hid bX
  clear hT src2 l1 l2 bX cA1 hz
  go_quiet (fail)
  have L1N := Lib.hid (fun k : Nat => lies_drewN L1.out k)
  clear CV1 CV2
  go_wp2
  go_loopw [12] (fun v wr => ∃ (i : Nat) (cs : Array Value), i ≤ 512 ∧ v = .int .i64 (i : Int) ∧ Lies wr r1 5 cs ∧ cs.size = 512 ∧ (∀ j, j < 512 → ∃ y : Int, cs[j]? = some (.int .u8 y)) ∧ Below w.heap.size w wr) (fun v _ => 512 - (intOf v).toNat)
  case atStart => exact ⟨0, yRow q 512, by omega, rfl, L1N.out _, yRow_size _ _, fun j hj => ⟨_, yRow_at q hj⟩, below_drewN BX.out _⟩
  case round =>
    obtain ⟨i, cs, hi, rfl, hl, hs, hc, hb⟩ := hrel
    have HLr := Lib.hid hl
    have HS := Lib.hid hs
    have HC := Lib.hid hc
    have HBr := Lib.hid hb
    clear hl hs hc hb
    by_cases hlt : i < 512
    · have li : (i : Int) < 512 := by omega
      obtain ⟨y, hy⟩ := HC.out i hlt
      have cc : wr.cell? ⟨r1, i, none⟩ = some (.int .u8 y) := (lies_cell HLr.out i).trans hy
      have ff := lies_free HLr.out i
      clear hy
      go_wp2
      go_roundw
      case rel =>
        refine ⟨i + 1, _, by omega, by go_num, lies_set HLr.out i _, by rw [Array.size_setIfInBounds]; exact HS.out, fun j hj => ?_, HBr.out.setCell (p := ⟨r1, i, none⟩) hr1w _⟩
        rw [Array.getElem?_setIfInBounds]
        by_cases e : i = j
        · rw [if_pos e, if_pos (by rw [HS.out]; exact hlt)]; exact ⟨_, rfl⟩
        · rw [if_neg e]; exact HC.out j hj
      case measure => first | (simp [intOf]; done) | (simp [intOf]; omega)
    · have li : ¬ (i : Int) < 512 := by omega
      go_wp2
      go_ret
      exact ⟨rfl, HBr.out⟩
end
end Go.Proofs.Ytibidljblkfciaa
