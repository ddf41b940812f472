/-
What is proved here: the library's sort of numbers in a row of one's own, by a contract.
-/
import Derived.Test.YtnbjfmkckebfgaaGreatRws
import Derived.Test.YtnbjfmkckebfgaaGreatShl
set_option linter.unusedSimpArgs false
set_option linter.unusedVariables false
namespace Go.Proofs.YtnbjfmkckebfgaaGreat
open Go.Cmp Go.RowKit Go.Sort Go.Shelf
section
variable {α : Type} [Inhabited α]
theorem heap_put {enc : α → Value} {w : World} {g n : Nat} {os : Array Obj} {cur : Array Value} {e : TypeId} {fr : Nat × Nat} (d : Array α) (hb : w.heap[g]? = some (.cells cur e fr)) :
    (grow (putRow enc (Sort.ahead w n) g 0 d) os).heap[g]? = some (.cells (putCells enc 0 d cur) e fr) := by
  have hg : g < w.heap.size := (Array.getElem?_eq_some_iff.1 hb).1
  rw [heap_grow_old _ _ (by simpa using hg)]
  simp [putRow, mapBlock, Sort.ahead, Array.getElem?_modify, hb, onCells]
theorem but_put {enc : α → Value} {w : World} {g n : Nat} {os : Array Obj} (d : Array α) : But (· = g) w (grow (putRow enc (Sort.ahead w n) g 0 d) os) := by
  refine ⟨rfl, rfl, rfl, by simp, fun k hk hne => ?_⟩
  rw [heap_grow_old _ _ (by simpa using hk)]
  have : g ≠ k := fun e => hne e.symm
  simp [putRow, mapBlock, Sort.ahead, Array.getElem?_modify, this]
theorem take_put (enc : α → Value) (cur : Array Value) (d : Array α) (h : d.size ≤ cur.size) : (putCells enc 0 d cur).toList.take d.size = d.toList.map enc := by
  apply List.ext_getElem?
  intro j
  by_cases hj : j < d.size
  · rw [List.getElem?_take_of_lt hj, Array.getElem?_toList, List.getElem?_map, Array.getElem?_toList, Array.getElem?_eq_getElem hj]
    simp [putCells, hj, show j < cur.size by omega, getElem!_pos d j hj]
  · rw [List.getElem?_take_eq_none (by omega), List.getElem?_eq_none (by simp; omega)]
theorem own_put {enc : α → Value} {w : World} {B g cap n t : Nat} {xs : List Value} {d : Array α} {os : Array Obj} {k : Nat} (h : w.ownsRow B t 1 (.slice (some ⟨g, 0, none⟩) k cap) k xs) (hd : d.size = k) :
    (grow (putRow enc (Sort.ahead w n) g 0 d) os).ownsRow B t 1 (.slice (some ⟨g, 0, none⟩) k cap) k (d.toList.map enc) := by
  rcases h.2 with ⟨h0, _⟩ | ⟨g', cap', cur, hv, hg, hb, hn, hcap, hs, _⟩
  · cases h0
  · injection hv with e1 e2 e3
    injection e1 with e1
    injection e1 with e1
    subst e1 e3
    refine ⟨by simp [hd], .inr ⟨g, cap, _, rfl, hg, heap_put _ hb, hn, hcap, by simp [putCells, hs], ?_⟩⟩
    have := take_put enc cur d (by omega)
    rw [hd] at this
    rw [Nat.mul_one]
    exact this
end
def sortZ (l : List Int) : List Int := l.mergeSort fun x y => decide (x ≤ y)
theorem sortI_any (B : Nat) (A : Option Addr) (C : Nat) (l : List Int) (w : World) (h : OwnI w B (.slice A l.length C) l) (h0 : 0 < l.length) (hl : l.length ≤ 100000) :
    Calls Tryz.prog 65 #[.slice A l.length C] w fun e w' => e = .returned (.tuple #[]) ∧ OwnI w' B (.slice A l.length C) (sortZ l) ∧ But (fun k => some k = (Value.slice A l.length C).ownBlock) w w' := by
  obtain ⟨g, cap, hv, hBg, hgl⟩ := World.ownsRow.form h (by omega)
  injection hv with e1 e2 e3
  subst e1 e3
  have hlen : (sortZ l).length = l.length := by unfold sortZ; exact List.length_mergeSort l
  have hcon := Any.slices_Sort_int sortI g 0 C l w (fun j hj => by
    have hj' : j < l.length := by simpa using hj
    refine ⟨?_, h.frozenAt _⟩
    rw [Nat.zero_add, h.cellAt j (by omega)]
    rw [List.getElem?_map, List.getElem?_eq_getElem hj']
    simp [iV, getElem!_pos l j hj']) hgl (by omega)
  refine (show Calls Tryz.prog 65 _ _ _ from hcon).mono ?_
  rintro e w' ⟨rfl, n, os, rfl⟩
  refine ⟨rfl, ?_, (but_put _).mono (fun k _ hk => by subst hk; rfl)⟩
  have := own_put (enc := Value.int .i64) (n := n) (os := os) (d := (sortZ l).toArray) h (by simp [hlen])
  unfold OwnI
  rw [hlen]
  exact this
end Go.Proofs.YtnbjfmkckebfgaaGreat
