/-
What is proved here: a list of bytes, a row of calls, as a row of this seat hands them in.
-/
import Derived.Test.YtlnmaejpchncoaaOpn
import Derived.OpenShut
set_option linter.unusedSimpArgs false
set_option linter.unusedVariables false
namespace Go.Proofs.Ytlnmaejpchncoaa
open Go.Stk Go.Word Go.ChangeShapes Go.WideShapes Go.ChangeAt Go.RowKit Go.Deep
section
variable {H : Type} {enc : TypeId × Value → H}
theorem open_list {W : World} {base : Nat} {v : Value} {d : DataW H} {p : List MemPlace} (hval : Value.okWide Try.prog W .any base 30 v) (h : DataW.Trod enc Try.prog W 0 (fun _ => true) true 30 v d p) :
    ∃ (A : Option Addr) (c : Nat) (ls : List Bt), v = .slice A ls.length c ∧ ListAt W A ls ∧ ((∀ m ∈ d.weights Try.prog 30, m ≤ reachBytes) → ls.length ≤ reachBytes ∧ ∀ y ∈ ls, y.length ≤ reachBytes) := by
  obtain ⟨a1, len, cap, rfl⟩ := okWide_slice Try.underlying30 hval
  obtain ⟨fuel, hf⟩ := h
  exact open_listsw hf
theorem open_calls {W : World} {base : Nat} {v : Value} {d : DataW H} {p : List MemPlace} (hval : Value.okWide Try.prog W .any base 22 v) (h : DataW.Trod enc Try.prog W 0 (fun _ => true) true 22 v d p) :
    ∃ (A : Option Addr) (c : Nat) (os : List Opr), v = .slice A os.length c ∧ OpsAt W A os ∧ ((∀ m ∈ d.weights Try.prog 22, m ≤ reachBytes) → os.length ≤ reachBytes ∧ ∀ y ∈ os, y.data.length ≤ reachBytes) := by
  obtain ⟨a1, len, cap, rfl⟩ := okWide_slice Try.underlying22 hval
  obtain ⟨fuel, hf⟩ := h
  exact open_opsw hf
end
end Go.Proofs.Ytlnmaejpchncoaa
