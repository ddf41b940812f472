/-
What is proved here: the document's own Sum of one content, by a contract.
-/
import Derived.Test.YtlnmaejpchncoaaDoorRefC
set_option linter.unusedSimpArgs false
namespace Go.Proofs.YtlnmaejpchncoaaDoor
open Go.Word Go.RowKit
set_option maxRecDepth 100000 in
theorem refsum_any (A : Option Addr) (k c : Nat) (b : List (BitVec 8)) (w : World) (hb : b.length = k) (hA : A = none → c = 0) (hs : Byt w A b) (hn : k ≤ 20000) :
    Calls Tryd.prog 11 #[.slice A k c] w fun e w' => e = .returned (.agg (yRow (sha key b) 32)) ∧ Below w.heap.size w w' := by
  have HB := Lib.hid hb
  have HA := Lib.hid hA
  have HS := Lib.hid hs
  clear hb hA hs
  go_enter Tryd.func11, Tryd.ntmps11
  go_upto_region 1 with (fail)
  obtain ⟨Z, hZ⟩ : ∃ Z : Array Value, Z = #[.int .u8 0, .int .u8 0, .int .u8 0, .int .u8 0, .int .u8 0, .int .u8 0, .int .u8 0, .int .u8 0, .int .u8 0, .int .u8 0, .int .u8 0, .int .u8 0, .int .u8 0, .int .u8 0, .int .u8 0, .int .u8 0, .int .u8 0, .int .u8 0, .int .u8 0, .int .u8 0, .int .u8 0, .int .u8 0, .int .u8 0, .int .u8 0, .int .u8 0, .int .u8 0, .int .u8 0, .int .u8 0, .int .u8 0, .int .u8 0, .int .u8 0, .int .u8 0] := ⟨_, rfl⟩
  have zs : Z.size = 32 := by rw [hZ]; rfl
  rw [← hZ]
  have LW := Lib.hid (lies_new w 34 Z)
  have BW := Lib.hid (below_new w (.cells Z 34))
  have ZS := Lib.hid zs
  have H := Lib.hid (refsha_any A k c b (w.alloc (.cells Z 34)) HB.out HA.out (byt_below HS.out BW.out) hn)
  clear hZ zs
  go_wp2_with (first
    | (go_at_call 18; (with_reducible refine H.out.mono ?_); rintro e w1 ⟨rfl, hb⟩; have B := Lib.hid hb; have L1 := Lib.hid (lies_below LW.out hb (lies_lt LW.out)); clear hb)
    | (refine wpList_store_row rfl 34 _ _ rfl w.heap.size (yRow (sha key b) 32) rfl rfl 34 Z L1.out (by rw [yRow_size]; kernel_rfl) (by rw [yRow_size]; exact ZS.out) (yRow_one _ _) ?_))
  refine bodyPost_ret (results_cell_row rfl _ _ w.heap.size 34 (yRow (sha key b) 32) (0, 0) _ rfl (lies_setRow L1.out _) Tryd.underlying34 rfl (by rw [yRow_size]; kernel_rfl)) rfl ⟨rfl, below_setRow (BW.out.trans (B.out.mono BW.out.size)) (Nat.le_refl _) _⟩
end Go.Proofs.YtlnmaejpchncoaaDoor
