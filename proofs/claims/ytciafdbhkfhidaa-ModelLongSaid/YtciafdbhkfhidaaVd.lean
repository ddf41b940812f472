/-
What is proved here: the empty tree cloned, by a contract.
-/
import Derived.Test.YtciafdbhkfhidaaVc
set_option linter.unusedSimpArgs false
set_option linter.unusedVariables false
namespace Go.Proofs.Ytciafdbhkfhidaa
open Go.Pth Go.Tre Go.RowKit Go.Word Go.Mod
/-- what stands behind the first statement of Clone -/
def Cn (w : World) (v : Value) (wx : World) : Prop := ∃ b, v = .pointer (some ⟨b, 0, none⟩) ∧ w.heap.size + 1 < b ∧ Lies wx b 29 #[.slice none 0 0, .slice none 0 0] ∧ Below w.heap.size w wx ∧ Lies wx (w.heap.size + 1) 29 #[.slice none 0 0, .slice none 0 0]
set_option maxRecDepth 100000 in
set_option maxHeartbeats 8000000 in
theorem clone_nil (w : World) :
    Calls Try.prog 10 #[.agg #[.slice none 0 0, .slice none 0 0]] w fun e w' => e = .returned (.agg #[.slice none 0 0, .slice none 0 0]) ∧ Below w.heap.size w w' := by
  have hz := zero29
  have LT := lies_alloc (lies_new w 29 #[.slice none 0 0, .slice none 0 0]) o29
  have LR := lies_new (w.alloc o29) 29 #[.slice none 0 0, .slice none 0 0]
  rw [World.size_alloc] at LR
  have HB := Lib.hid (show Below w.heap.size w ((w.alloc o29).alloc o29) from ((Below.refl _ _).alloc (Nat.le_refl _) _).alloc (by simp) _)
  have SZ := Lib.hid (show ((w.alloc o29).alloc o29).heap.size = w.heap.size + 2 by simp)
  have t0 := lies_cell LT 0
  have t1 := lies_cell LT 1
  have t0a := lies_cell (lies_alloc LT o29) 0
  have t1a := lies_cell (lies_alloc LT o29) 1
  simp only [List.getElem?_toArray, List.getElem?_cons_zero, List.getElem?_cons_succ] at t0 t1 t0a t1a
  have LR := Lib.hid LR
  clear LT
  go_enter Try.func10, Try.ntmps10
  go_upto_region 1 with (fail)
  generalize (w.alloc o29).alloc o29 = X at *
  go_cut [3] from 6 to 12 (fun v3 wx => Cn w v3 wx)
  case first =>
    have HE := Lib.hid (show Cn w (.pointer (some ⟨X.heap.size, 0, none⟩)) (X.alloc o29) from ⟨X.heap.size, rfl, by have := SZ.out; omega, lies_new X 29 _, HB.out.alloc HB.out.size o29, lies_alloc LR.out o29⟩)
    have HD := Lib.hid (show Cn w (.pointer (some ⟨X.heap.size, 0, none⟩)) (X.alloc o29).drew from ⟨X.heap.size, rfl, by have := SZ.out; omega, lies_new X 29 _, (HB.out.alloc HB.out.size o29).drew, lies_alloc LR.out o29⟩)
    go_region
    all_goals (go_wp2_with fail; go_meet; first | exact HE.out | exact HD.out)
  case rest =>
    obtain ⟨b, rfl, hb, hL, hBB, hR⟩ := hcut
    clear t0 t1 t0a t1a LR HB SZ hz
    have y0 := lies_cell hL 0
    have y1 := lies_cell hL 1
    simp only [List.getElem?_toArray, List.getElem?_cons_zero, List.getElem?_cons_succ] at y0 y1
    have HW := Lib.hid (below_setRow hBB (g := w.heap.size + 1) (by omega) #[.slice none 0 0, .slice none 0 0])
    have HR := Lib.hid hR
    clear hL hBB hR
    go_wp2
    go_loopw [4, 5, 16] (fun _ _ v16 wr => v16 = .int .i64 0 ∧ wc = wr) (fun _ _ _ _ => 0)
    case atStart => exact ⟨rfl, rfl⟩
    case round =>
      obtain ⟨rfl, hw⟩ := hrel
      subst hw
      go_wp2_with (refine wpList_store_row rfl 29 _ _ rfl (w.heap.size + 1) #[.slice none 0 0, .slice none 0 0] rfl rfl 29 _ HR.out (by kernel_rfl) rfl (by simp [Value.oneCell']) ?_)
      (try simp only [Exit.inBlock, Exit.then])
      refine bodyPost_ret (results_cell_row rfl _ _ (w.heap.size + 1) 29 #[.slice none 0 0, .slice none 0 0] (0, 0) _ rfl (lies_setRow HR.out _) Try.underlying29 rfl (by kernel_rfl)) rfl ?_
      exact ⟨rfl, HW.out⟩
end Go.Proofs.Ytciafdbhkfhidaa
