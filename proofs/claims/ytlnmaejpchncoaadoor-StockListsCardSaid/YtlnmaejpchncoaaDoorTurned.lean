/-
What is proved here: the law SumTurned's walk.
-/
import Derived.Test.YtlnmaejpchncoaaDoorTell
set_option linter.unusedSimpArgs false
namespace Go.Proofs.YtlnmaejpchncoaaDoor
open Go.Word Go.RowKit

theorem own_some {w : World} {base n c : Nat} {A : Option Addr} {b : List (BitVec 8)} (h : Own w base (.slice A n c) b) (hb : 0 < b.length) :
    ∃ g, A = some ⟨g, 0, none⟩ ∧ base ≤ g ∧ g < w.heap.size ∧ ∀ j, j < b.length → w.cell? ⟨g, j, none⟩ = some (Y (b.getD j 0)) ∧ w.frozen? ⟨g, j, none⟩ = false := by
  have hy := own_byt h hb
  rcases h.2 with ⟨_, h1⟩ | ⟨g, cap, cur, hv, hB, hg, _⟩
  · omega
  · injection hv with hA _ _
    subst hA
    obtain ⟨ad, e, hl, hc⟩ := hy
    injection e with e
    subst e
    refine ⟨g, rfl, hB, hl, fun j hj => ⟨?_, lies_free (t := 5) (cs := cur) hg j⟩⟩
    have := hc j hj
    rw [Addr.add_mid, Nat.zero_add] at this
    exact this
theorem byt_set {w : World} {g m : Nat} {b : List (BitVec 8)} (hg : g < w.heap.size) (hc : ∀ j, j < b.length → w.cell? ⟨g, j, none⟩ = some (Y (b.getD j 0)) ∧ w.frozen? ⟨g, j, none⟩ = false) (hm : m < b.length) (y : BitVec 8) :
    Byt (w.setCell ⟨g, m, none⟩ (Y y)) (some ⟨g, 0, none⟩) (b.set m y) := fun _ => by
  refine ⟨_, rfl, by simpa [World.setCell] using hg, fun j hj => ?_⟩
  rw [List.length_set] at hj
  rw [Addr.add_mid, Nat.zero_add]
  by_cases e : m = j
  · subst e
    rw [World.cell?_setCell_same _ _ _ (hc m hm).1, List.getD_eq_getElem?_getD, List.getElem?_set_self (by omega)]
    rfl
  · rw [World.cell?_setCell_other _ _ _ _ (by intro h; injection h with _ h2; omega), (hc j hj).1, List.getD_eq_getElem?_getD, List.getD_eq_getElem?_getD, List.getElem?_set_ne e]
attribute [local go_sem] y_xor

end Go.Proofs.YtlnmaejpchncoaaDoor
