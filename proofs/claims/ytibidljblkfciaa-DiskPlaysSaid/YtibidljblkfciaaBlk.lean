/-
What is proved here: the law's block of bytes, by a contract.
-/
import Derived.Test.YtibidljblkfciaaMake
set_option linter.unusedSimpArgs false
namespace Go.Proofs.Ytibidljblkfciaa
open Go.Word Go.RowKit

/-- the bytes of a block that come of a number -/
def blk (z : Int) (j : Nat) : BitVec 8 := BitVec.ofInt 8 (wrap64 (z + wrap64 ((j : Int) * bits .or .i64 z 1) / 8))
theorem blk_y (z : Int) (j : Nat) : Value.int .u8 (wrap64 (z + wrap64 ((j : Int) * bits .or .i64 z 1) / 8) % 256) = Y (blk z j) := by
  unfold Y blk
  rw [BitVec.toNat_ofInt]
  congr 1
  omega
set_option maxHeartbeats 400000 in
theorem blk_any (z : Int) (w : World) :
    Calls Try.prog 23 #[.int .i64 z] w fun e w' => ∃ g, e = .returned (.slice (some ⟨g, 0, none⟩) 512 512) ∧ w.heap.size = g ∧ Lies w' g 5 (yRow (blk z) 512) ∧ Below w.heap.size w w' := by
  have hmk : ∀ W, (Instr.makeSlice 44 (.int .i64 512) (.int .i64 512)).run Try.prog W = .ok (.slice (some ⟨W.heap.size, 0, none⟩) 512 512) (W.alloc (.cells (madeCells #[.int .u8 0] 512) 5)) := fun W => made_n 512 (by omega) W
  go_enter Try.func23, Try.ntmps23
  go_upto_region 2 with (fail)
  have l1 := lies_new w 5 (madeCells #[.int .u8 0] 512)
  have b1 : Below w.heap.size w (w.alloc (.cells (madeCells #[.int .u8 0] 512) 5)) := (Below.refl _ _).alloc (Nat.le_refl _) _
  obtain ⟨G, hG⟩ : ∃ G, w.heap.size = G := ⟨_, rfl⟩
  have HG := Lib.hid hG
  rw [hG] at l1 ⊢
  generalize w.alloc (.cells (madeCells #[.int .u8 0] 512) 5) = W at *
  have r1 : Row W G 5 512 (fun j => Y (blk z j)) 0 := ⟨_, l1, made_size _, fun j hj => by omega⟩
  clear l1 hmk hG
  go_wp2
  go_loopw [4] (fun v wr => ∃ j : Nat, j ≤ 512 ∧ v = .int .i64 (j : Int) ∧ Row wr G 5 512 (fun j => Y (blk z j)) j ∧ Below w.heap.size w wr) (fun v _ => 512 - (intOf v).toNat)
  case atStart => exact ⟨0, by omega, rfl, r1, b1⟩
  case round =>
    clear r1 b1
    obtain ⟨j, hj, rfl, hr, hb⟩ := hrel
    by_cases hlt : j < 512
    · obtain ⟨v, d⟩ := row_some hr hlt
      have f := row_free hr j
      have li : (j : Int) < 512 := by omega
      go_wp2
      go_roundw
      case rel => exact ⟨j + 1, by omega, by go_num, row_more hr hlt (blk_y z j), hb.setCell (p := ⟨G, j, none⟩) (by have := HG.out; show _ ≤ G; omega) _⟩
      case measure => first | (simp [intOf]; done) | (simp [intOf]; omega)
    · have H2 := Lib.hid (row_whole (row_less hr (m := 512) (by omega)))
      have li : ¬ (j : Int) < 512 := by omega
      clear hr
      go_wp2
      go_ret
      exact ⟨G, rfl, HG.out, H2.out, hb⟩
end Go.Proofs.Ytibidljblkfciaa
