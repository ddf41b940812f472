/-
What is proved here: a list among lists of numbers, where it lies.
-/
import Derived.Test.YtpddamloajpiiaaGreatDoorMa3
set_option linter.unusedSimpArgs false
set_option linter.unusedVariables false
namespace Go.Proofs.YtpddamloajpiiaaGreatDoor
open Go.Cmp Go.RowKit
theorem zrow_at {W : World} {LA : Option Addr} {G : Gr} (hL : LsAt W LA (zg G)) {v : Nat} (h : v < G.length) : ∃ b o A c, LA = some ⟨b, o, none⟩ ∧ b < W.heap.size ∧ W.cell? ⟨b, o + v, none⟩ = some (.slice A (nx G v).length c) ∧ (nx G v).length ≤ c ∧ IntsAt W A (zs (nx G v)) := by
  obtain ⟨b, o, A', c, e, hl, hc, hk, hi⟩ := hL v (by simpa [zg] using h)
  have e2 : (zg G)[v]'(by simpa [zg] using h) = zs (nx G v) := by
    unfold zg nx
    rw [List.getElem_map, List.getD_eq_getElem?_getD, List.getElem?_eq_getElem h]
    rfl
  rw [e2] at hc hk hi
  rw [zs_len] at hc hk
  exact ⟨b, o, A', c, e, hl, hc, hk, hi⟩
end Go.Proofs.YtpddamloajpiiaaGreatDoor
