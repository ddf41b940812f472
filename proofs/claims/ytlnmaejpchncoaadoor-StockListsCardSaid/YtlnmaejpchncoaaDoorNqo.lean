/-
What is proved here: an operation that holds a digest against itself.
-/
import Derived.Test.YtlnmaejpchncoaaDoorSms
set_option linter.unusedSimpArgs false
set_option linter.unusedVariables false
namespace Go.Proofs.YtlnmaejpchncoaaDoor
open Go.Word Go.RowKit
theorem neq_op {ρ : Operand → Value} {oi : Oper} {w : World} {f : Nat → BitVec 8} (x y : Operand) (ho : oi.op = .binOp .neq 35 x y 35) (hx : ρ x = .agg (yRow f 32)) (hy : ρ y = .agg (yRow f 32)) : (execOp ρ oi).run Tryd.prog w = .ok (.value (.bool false)) w := by
  have h1 := neq_digest f w
  have h2 := fun xs ys => guard_digest .neq x y xs ys w
  unfold execOp
  simp only [ho, hx, hy]
  simp only [Sem.run_bind, h2, h1, Result.andThen_ok]
  rfl
end Go.Proofs.YtlnmaejpchncoaaDoor
