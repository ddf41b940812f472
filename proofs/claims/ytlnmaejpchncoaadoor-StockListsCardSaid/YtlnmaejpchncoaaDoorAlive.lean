/-
What is proved here: the law's own look at two answers that the document fixes, by a contract.
-/
import Derived.Test.YtlnmaejpchncoaaDoorCrc
import Derived.Lib.SlBytesConst
set_option linter.unusedSimpArgs false
namespace Go.Proofs.YtlnmaejpchncoaaDoor
open Go.Word Go.RowKit

def nine : List (BitVec 8) := [49#8, 50#8, 51#8, 52#8, 53#8, 54#8, 55#8, 56#8, 57#8]
def three : List (BitVec 8) := [97#8, 98#8, 99#8]
theorem crc_nine : more 0 nine = 3421780262 := by decide +kernel
theorem sha_three : sha key three 0 = 186#8 := by decide +kernel
theorem byt_new (w : World) (t : TypeId) (fr : Nat × Nat) (b : List (BitVec 8)) (cs : Array Value) (h : cs = (b.map Y).toArray) : Byt (w.alloc (.cells cs t fr)) (some ⟨w.heap.size, 0, none⟩) b := fun _ =>
  ⟨_, rfl, by simp, fun j hj => by
    rw [Addr.add_mid, Nat.zero_add, cell_of_row _ w.heap.size j cs t fr (heap_alloc_new w _), h]
    simp [hj, List.getD_eq_getElem?_getD]⟩
/-- the table lies in its block -/
def Tabs (w : World) : Prop := Keyed w
theorem tabs_below {w w' : World} (h : Tabs w) (hb : Below w.heap.size w w') : Tabs w' := keyed_below h hb
theorem below_new (w : World) (o : Obj) : Below w.heap.size w (w.alloc o) := (Below.refl _ _).alloc (Nat.le_refl _) o

theorem below_eq {w w1 : World} {o : Obj} (h : w.alloc o = w1) : Below w.heap.size w w1 := h ▸ below_new w o
end Go.Proofs.YtlnmaejpchncoaaDoor
