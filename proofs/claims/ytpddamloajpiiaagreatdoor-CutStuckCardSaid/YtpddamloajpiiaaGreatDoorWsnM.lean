/-
What is proved here: cut's looks at one action (takes, movable), by contracts.
-/
import Derived.Test.YtpddamloajpiiaaGreatDoorWsmM
set_option linter.unusedSimpArgs false
set_option linter.unusedVariables false
namespace Go.Proofs.YtpddamloajpiiaaGreatDoor
open Go.Cmp Go.RowKit Go.Cut Go.Pth Go.Word Go.Shelf
attribute [local go_sem] guard_eq guard_ne st_eql st_neq store_fn
theorem takes_any (f s : Int) (to : Bt) (a : Ac) (w : World) :
    Calls Tryz.prog 63 #[.agg #[.int .i64 f, .int .i64 s, St to], acV a] w fun e w' => e = .returned (.bool (takes to a)) ∧ Below w.heap.size w w' := by
  obtain ⟨z, p, t, m, r⟩ := a
  unfold acV takes
  dsimp only
  have L1 := lies_new w 47 #[.int .i64 f, .int .i64 s, St to]
  have L2 := lies_new (w.alloc (.cells #[.int .i64 f, .int .i64 s, St to] 47)) 29 #[.int .i64 z, St p, St t, .int .i64 m, .int .i64 r]
  rw [show (w.alloc (.cells #[.int .i64 f, .int .i64 s, St to] 47)).heap.size = w.heap.size + 1 by simp] at L2
  have L3 := lies_alloc L1 (.cells #[.int .i64 z, St p, St t, .int .i64 m, .int .i64 r] 29)
  have y2 := lies_cell L3 2
  have x0 := lies_cell L2 0
  have x1 := lies_cell L2 1
  simp only [List.getElem?_toArray, List.getElem?_cons_zero, List.getElem?_cons_succ] at x0 x1 y2
  have HB := Lib.hid (show Below w.heap.size w ((w.alloc (.cells #[.int .i64 f, .int .i64 s, St to] 47)).alloc (.cells #[.int .i64 z, St p, St t, .int .i64 m, .int .i64 r] 29)) from ((Below.refl _ w).alloc (Nat.le_refl _) _).alloc (by simp) _)
  clear L1 L2 L3
  by_cases h4 : z = 4
  · subst h4
    go_enter Tryz.func63, Tryz.ntmps63
    go_wp2
    go_ret
    exact ⟨by simp [same], HB.out⟩
  have e4 : (z == 4) = false := by simpa using h4
  by_cases h7 : z = 7
  · subst h7
    go_enter Tryz.func63, Tryz.ntmps63
    go_wp2
    go_ret
    exact ⟨by simp [same], HB.out⟩
  have e7 : (z == 7) = false := by simpa using h7
  by_cases h8 : z = 8
  · subst h8
    go_enter Tryz.func63, Tryz.ntmps63
    go_wp2
    go_ret
    exact ⟨by simp [same], HB.out⟩
  have e8 : (z == 8) = false := by simpa using h8
  go_enter Tryz.func63, Tryz.ntmps63
  go_wp2
  go_ret
  exact ⟨by simp [h4, h7, h8], HB.out⟩
end Go.Proofs.YtpddamloajpiiaaGreatDoor
