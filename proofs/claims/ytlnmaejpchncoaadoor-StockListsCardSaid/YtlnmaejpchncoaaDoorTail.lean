/-
What is proved here: start, New, Size and tail, by a contract each.
-/
import Derived.Test.YtlnmaejpchncoaaDoorMix
import Derived.Test.YtlnmaejpchncoaaDoorChain
import Derived.Deep.Cut
import Derived.Deep.CutBlock
namespace Go.Proofs.YtlnmaejpchncoaaDoor
open Go.Word Go.RowKit
attribute [local go_sem] u_xor u_and u_or u_add u_not byte_word

theorem start_any (w : World) : Calls Tryd.prog 27 #[] w fun e w' => e = .returned (.agg (stRow st0)) ∧ Below w.heap.size w w' := by
  go_enter Tryd.func27, Tryd.ntmps27
  go_wp2_with (first | (refine wpList_built rfl 59 _ rfl (stRow st0) (by kernel_rfl) ?_) | (refine wpList_store_row rfl 59 _ _ rfl w.heap.size (stRow st0) rfl rfl 59 _ (lies_new _ _ _) (by kernel_rfl) (by kernel_rfl) (stRow_one _) ?_))
  refine bodyPost_ret (results_cell_row rfl _ _ w.heap.size 59 (stRow st0) (0, 0) _ rfl (lies_setRow (lies_new _ _ _) _) Tryd.underlying59 rfl (by kernel_rfl)) rfl ⟨rfl, below_setRow ((Below.refl _ _).alloc (Nat.le_refl _) _) (Nat.le_refl _) _⟩

/-- the cells of a Hash -/
def hRow (s : St) (r : Nat → BitVec 8) (n : Nat) : Array Value := stRow s ++ yRow r 64 ++ #[.int .i64 (n : Int)]
theorem new_any (w : World) : Calls Tryd.prog 21 #[] w fun e w' => e = .returned (.pointer (some ⟨w.heap.size, 0, none⟩)) ∧ Lies w' w.heap.size 66 (hRow ⟨0, 0, 0, 0, 0, 0, 0, 0⟩ (fun _ => 0) 0) ∧ Below w.heap.size w w' ∧ w.heap.size < w'.heap.size := by
  go_enter Tryd.func21, Tryd.ntmps21
  go_wp2_with (refine wpList_built rfl 66 _ rfl (hRow ⟨0, 0, 0, 0, 0, 0, 0, 0⟩ (fun _ => 0) 0) (by kernel_rfl) ?_)
  go_ret
  exact ⟨rfl, lies_new _ _ _, (Below.refl _ _).alloc (Nat.le_refl _) _, by simp⟩

theorem hRow_size (s : St) (r : Nat → BitVec 8) (n : Nat) : (hRow s r n).size = 73 := by simp [hRow, stRow, yRow]
theorem hRow_72 (s : St) (r : Nat → BitVec 8) (n : Nat) : (hRow s r n)[72]? = some (.int .i64 (n : Int)) := by
  unfold hRow
  rw [Array.getElem?_append_right (by simp [stRow, yRow])]
  simp [stRow, yRow]

theorem byte_info : (Tryd.prog.info? 5).map (fun i => (i.zero, i.size, i.bytes)) = some (some (.int .u8 0), 1, 1) := by kernel_rfl
theorem made_tail (n : Nat) (W : World) : (Instr.makeSlice 24 (.int .i64 ((gap n : Int) + 8)) (.int .i64 ((gap n : Int) + 8))).run Tryd.prog W =
    .ok (.slice (some ⟨W.heap.size, 0, none⟩) (gap n + 8) (gap n + 8)) (W.alloc (.cells (madeCells #[.int .u8 0] (gap n + 8)) 5)) := by
  have hg := gap_pos n
  obtain ⟨i, hi, hz0, hz1, hz2⟩ := info_parts byte_info
  have := run_make (P := Tryd.prog) W 24 5 i (.int .u8 0) Tryd.underlying24 hi hz0 .i64 .i64 ((gap n : Int) + 8) ((gap n : Int) + 8) (by omega) (by omega) (by rw [hz2]; omega) (by omega)
  rw [this, hz1, show ((gap n : Int) + 8).toNat = gap n + 8 by omega, Nat.mul_one]
  rfl
theorem made_at {m j : Nat} (h : j < m) : (madeCells #[.int .u8 0] m)[j]? = some (.int .u8 0) := by
  simp [madeCells, h, Nat.mod_one]
theorem row_tail {w : World} {g n : Nat} (h : Lies w g 5 (madeCells #[.int .u8 0] (gap n + 8))) : Row (w.setCell ⟨g, 0, none⟩ (.int .u8 128)) g 5 (gap n + 8) (fun j => Y (padAt n j)) (gap n + 0) := by
  refine ⟨_, lies_set h 0 _, by simp [madeCells], fun j hj => ?_⟩
  rw [Array.getElem?_setIfInBounds]
  by_cases e : 0 = j
  · subst e
    rw [if_pos rfl, if_pos (by simp [madeCells])]
    rfl
  · rw [if_neg e, made_at (by omega)]
    show _ = some (Y (padAt n j))
    rw [show padAt n j = 0 by unfold padAt; rw [if_neg (by omega), if_pos (by omega)]]
    rfl
theorem last_byte (n i : Nat) : Value.int .u8 ((n : Int) * 8 / 2 ^ (56 - 8 * i) % 256) = Y (padAt n (gap n + i)) := by
  have hg := gap_pos n
  have e : padAt n (gap n + i) = BitVec.ofNat 8 (n * 8 / 2 ^ (56 - 8 * i)) := by
    unfold padAt
    rw [if_neg (by omega), if_neg (by omega), show gap n + i - gap n = i by omega]
  rw [e]
  unfold Y
  rw [BitVec.toNat_ofNat, Int.natCast_emod, Int.natCast_ediv, Int.natCast_mul, Int.natCast_pow]
  rfl
set_option maxHeartbeats 400000 in
theorem tail_any (n : Nat) (w : World) (hn : n < 2 ^ 60) :
    Calls Tryd.prog 29 #[.int .i64 (n : Int)] w fun e w' => ∃ g, e = .returned (.slice (some ⟨g, 0, none⟩) (gap n + 8) (gap n + 8)) ∧ w.heap.size ≤ g ∧ Row w' g 5 (gap n + 8) (fun j => Y (padAt n j)) (gap n + 8) ∧ Below w.heap.size w w' := by
  have hn' : n < 1152921504606846976 := hn
  clear hn
  have hg := gap_pos n
  have hz : (64 - ((n : Int) + 8) % 64) = (gap n : Int) := by unfold gap; omega
  have hmk := fun W => made_tail n W
  go_enter Tryd.func29, Tryd.ntmps29
  go_upto_region 3 with (fail)
  clear hmk hz
  have h1 := lies_new w 5 (madeCells #[.int .u8 0] (gap n + 8))
  have hb : Below w.heap.size w (w.alloc (.cells (madeCells #[.int .u8 0] (gap n + 8)) 5)) := (Below.refl _ _).alloc (Nat.le_refl _) _
  generalize w.alloc (.cells (madeCells #[.int .u8 0] (gap n + 8)) 5) = w1 at *
  have c0 : w1.cell? ⟨w.heap.size, 0, none⟩ = some (.int .u8 0) := (lies_cell h1 0).trans (made_at (by omega))
  have f0 := lies_free h1 0
  have hpos : 0 < gap n + 8 := by omega
  go_wp2
  clear c0 f0
  go_loopw [19] (fun v wr => ∃ i : Nat, i ≤ 8 ∧ v = .int .i64 i ∧ Row wr w.heap.size 5 (gap n + 8) (fun j => Y (padAt n j)) (gap n + i) ∧ Below w.heap.size w wr) (fun v _ => 8 - (intOf v).toNat)
  case atStart => exact ⟨0, by omega, rfl, row_tail h1, hb.setCell (Nat.le_refl _) _⟩
  case round =>
    clear h1 hb
    obtain ⟨i, hi, rfl, h1, hb⟩ := hrel
    by_cases hlt : i < 8
    · obtain ⟨v, c⟩ := row_some h1 (i := gap n + i) (by omega)
      have f := row_free h1 (gap n + i)
      go_wp2
      go_roundw
      case rel => exact ⟨i + 1, by omega, by go_num, by rw [show gap n + (i + 1) = gap n + i + 1 by omega]; exact row_more h1 (by omega) (last_byte n i), hb.setCell (by simp) _⟩
      case measure => simp [intOf]; omega
    · have h2 := row_less h1 (m := gap n + 8) (by omega)
      clear h1
      go_wp2
      go_ret
      exact ⟨_, rfl, Nat.le_refl _, h2, hb⟩
end Go.Proofs.YtlnmaejpchncoaaDoor
