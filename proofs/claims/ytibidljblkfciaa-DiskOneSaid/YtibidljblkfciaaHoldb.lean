/-
What is proved here: what Write leaves as it was.
-/
import Derived.Test.YtibidljblkfciaaWrt
set_option linter.unusedSimpArgs false
namespace Go.Proofs.Ytibidljblkfciaa
open Go.Word Go.RowKit

theorem behind_others {w w1 w2 w4 : World} {g : Nat} {hv v' : Value} {cs : Array Value} (b1 : Below w.heap.size w w1) (b2 : Below w1.heap.size w1 w2) (hg : (w2.alloc (.cells cs 73)).grownBy w4 hv.ownBlock) :
    ∀ i, i < w.heap.size → i ≠ g → hv.ownBlock ≠ some i → (w4.setCell ⟨g, 1, none⟩ v').heap[i]? = w.heap[i]? := fun i hi h1 h2 => by
  have z1 := b1.size
  have b3 : Below w.heap.size w (w2.alloc (.cells cs 73)) := (b1.trans (b2.mono z1)).alloc (by have := b2.size; omega) _
  have z3 := b3.size
  rw [Below.heap_setCell w4 ⟨g, 1, none⟩ v' i h1, hg.block i (by omega) (fun e => h2 e.symm), b3.block i hi]
end Go.Proofs.Ytibidljblkfciaa
