/-
What is proved here: ordered's closure that puts a number among those that are ready, by a contract.
-/
import Derived.Test.YtnbjfmkckebfgaaGreatWin
import Derived.BigQuiet
import Derived.Deep.QuietTactic
set_option linter.unusedSimpArgs false
set_option linter.unusedVariables false
namespace Go.Proofs.YtnbjfmkckebfgaaGreat
open Go.Cmp Go.RowKit Go.Shelf
/-- how many are less -/
def less (l : List Int) (g : Int) : Nat := l.countP (· < g)
theorem less_le (l : List Int) (g : Int) : less l g ≤ l.length := List.countP_le_length
/-- a number put in its place -/
def ins (l : List Int) (g : Int) : List Int := insAt l (less l g) g
structure AddE (w : World) (B RB : Nat) (v : Value) (l' : List Int) (w' : World) : Prop where
  ex : ∃ v', Lies w' RB 27 #[v'] ∧ Win w' B v' l' ∧ (wblk v' = wblk v ∨ ∃ k, wblk v' = some k ∧ w.heap.size ≤ k)
  but : But (fun k => k = RB ∨ some k = wblk v) w w'
end Go.Proofs.YtnbjfmkckebfgaaGreat
