/-
What is proved here: slices.EqualFunc of files, by a contract; tree's Same.
-/
import Derived.Test.YtiglakhfkgeefaaEqb
import Derived.Test.YtiglakhfkgeefaaIns
import Derived.Test.YtiglakhfkgeefaaWgn
set_option linter.unusedSimpArgs false
namespace Go.Proofs.Ytiglakhfkgeefaa
open Go.Pth Go.Tre Go.RowKit Go.Word Go.Shelf

theorem file_range {w : World} {b o : Nat} {m : Int} {v : Value} (d1 : w.cell? ⟨b, o, none⟩ = some (.int .i64 m)) (d2 : w.cell? ⟨b, o + 1, none⟩ = some v) : w.rangeAt b o [.int .i64 m, v] := fun j u hj => by
  match j, hj with
  | 0, hj => injection hj with hj; subst hj; exact d1
  | 1, hj => injection hj with hj; subst hj; exact d2
  | j + 2, hj => simp at hj
theorem sameFl_iff (x y : Fl) : sameFl x y = decide (x = y) := by
  obtain ⟨m, a⟩ := x
  obtain ⟨k, b⟩ := y
  unfold sameFl same
  by_cases h1 : m = k <;> by_cases h2 : a = b <;> simp [h1, h2]
/-- are two trees one, and loose -/
def sameT (ns : List Nd) (fs : List Fl) (ms : List Nd) (gs : List Fl) : Bool := decide (looseE ns fs = 0) && (decide (ns = ms) && decide (fs = gs))
end Go.Proofs.Ytiglakhfkgeefaa
