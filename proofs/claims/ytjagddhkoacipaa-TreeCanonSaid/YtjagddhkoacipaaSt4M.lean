/-
What is proved here: the world of a region with four writes one behind the other, by what has come up.
-/
import Derived.Test.YtjagddhkoacipaaStcM
set_option linter.unusedSimpArgs false
set_option linter.unusedVariables false
namespace Go.Proofs.Ytjagddhkoacipaa
open Go.Pth Go.Tre Go.RowKit Go.Word Go.Shelf

def St4 (i j k m : Nat) (A B C D E : World) (l : Array Bool) : World := if l.getD m false = true then E else if l.getD k false = true then D else if l.getD j false = true then C else if l.getD i false = true then B else A
section
variable {i j k m : Nat} {A B C D E : World} {l : Array Bool}
theorem st4_keep {p : Nat} (h1 : p ≠ i) (h2 : p ≠ j) (h3 : p ≠ k) (h4 : p ≠ m) : St4 i j k m A B C D E (l.setIfInBounds p true) = St4 i j k m A B C D E l := by
  unfold St4
  simp only [getD_set, h1, h2, h3, h4, false_and, if_false]
theorem st4_all (p : World → Prop) (hA : p A) (hB : p B) (hC : p C) (hD : p D) (hE : l.getD m false = true → p E) : p (St4 i j k m A B C D E l) := by
  unfold St4
  split
  · exact hE (by assumption)
  · split
    · exact hD
    · split
      · exact hC
      · split
        · exact hB
        · exact hA
theorem st4_0 (ij : i ≠ j) (ik : i ≠ k) (im : i ≠ m) (uj : l.getD j false = true → l.getD i false = true) (uk : l.getD k false = true → l.getD j false = true) (um : l.getD m false = true → l.getD k false = true) (hs : i < l.size) (hu : l.getD i false = false) : St4 i j k m A B C D E l = A ∧ St4 i j k m A B C D E (l.setIfInBounds i true) = B := by
  have h2 : l.getD j false = false := no_of uj (by simp [hu])
  have h3 : l.getD k false = false := no_of uk (by simp [h2])
  have h4 : l.getD m false = false := no_of um (by simp [h3])
  unfold St4
  simp only [getD_set, hs, h2, h3, h4, hu, ij, ik, im, false_and, true_and, and_self, if_false, if_true, Bool.false_eq_true, reduceIte]
theorem st4_1 (ji : j ≠ i) (jk : j ≠ k) (jm : j ≠ m) (uk : l.getD k false = true → l.getD j false = true) (um : l.getD m false = true → l.getD k false = true) (hs : j < l.size) (hu : l.getD j false = false) (h : l.getD i false = true) : St4 i j k m A B C D E l = B ∧ St4 i j k m A B C D E (l.setIfInBounds j true) = C := by
  have h3 : l.getD k false = false := no_of uk (by simp [hu])
  have h4 : l.getD m false = false := no_of um (by simp [h3])
  unfold St4
  simp only [getD_set, hs, h, h3, h4, hu, ji, jk, jm, false_and, true_and, and_self, if_false, if_true, Bool.false_eq_true, reduceIte]
theorem st4_2 (kj : k ≠ j) (km : k ≠ m) (um : l.getD m false = true → l.getD k false = true) (hs : k < l.size) (hu : l.getD k false = false) (h : l.getD j false = true) : St4 i j k m A B C D E l = C ∧ St4 i j k m A B C D E (l.setIfInBounds k true) = D := by
  have h4 : l.getD m false = false := no_of um (by simp [hu])
  unfold St4
  simp only [getD_set, hs, h, h4, hu, kj, km, false_and, true_and, and_self, if_false, if_true, Bool.false_eq_true, reduceIte]
theorem st4_3 (mk : m ≠ k) (hs : m < l.size) (hu : l.getD m false = false) (h : l.getD k false = true) : St4 i j k m A B C D E l = D ∧ St4 i j k m A B C D E (l.setIfInBounds m true) = E := by
  unfold St4
  simp only [getD_set, hs, h, hu, mk, false_and, true_and, and_self, if_false, if_true, Bool.false_eq_true, reduceIte]
theorem st4_end (h : l.getD m false = true) : St4 i j k m A B C D E l = E := by
  unfold St4
  rw [if_pos h]
end
end Go.Proofs.Ytjagddhkoacipaa
