/-
What is proved here: how many parts so many things fill; the toll of one inode; complex sums of whole numbers.
-/
import Derived.Test.YtiglakhfkgeefaaFil
import Derived.Test.YtiglakhfkgeefaaFl
import Derived.Laws.ComplexArith
set_option linter.unusedSimpArgs false
namespace Go.Proofs.Ytiglakhfkgeefaa
open Go.Pth Go.Tre Go.RowKit Go.Word Go.Fl

theorem rep_one : Rep 4607182418800017408 1 := ⟨false, 52, by decide +kernel, by decide⟩
theorem rep_zero : Rep 0 0 := ⟨false, 1074, by decide +kernel, by decide⟩
theorem cadd {x y a b : Nat} {X Y A B : Int} (hx : Rep x X) (hy : Rep y Y) (ha : Rep a A) (hb : Rep b B) (h1 : (X + A).natAbs < 2 ^ 53) (h2 : (Y + B).natAbs < 2 ^ 53) :
    ∃ x' y', Rep x' (X + A) ∧ Rep y' (Y + B) ∧ ∀ t w, (binOp .add t (.complex .f64 x y) (.complex .f64 a b)).run Try.prog w = .ok (.complex .f64 x' y') w := by
  obtain ⟨x', e1, r1⟩ := add_rep hx ha h1
  obtain ⟨y', e2, r2⟩ := add_rep hy hb h2
  exact ⟨x', y', r1, r2, fun t w => run_complex_sum w .add (Or.inl rfl) t .f64 x y a b _ _ (by simp [cSumBits, e1, e2])⟩
end Go.Proofs.Ytiglakhfkgeefaa
