/-
What is proved here: the world of a region with three writes one behind the other, by what has come up.
-/
import Derived.Test.YtjagddhkoacipaaMa11
set_option linter.unusedSimpArgs false
set_option linter.unusedVariables false
namespace Go.Word
theorem tabd_unlisted {own : Nat → Option Nat} {vals : Nat → Value} {a0 : Act} {listed : Array Bool} {a : Act} (h : Tabd own vals a0 listed a) {t i : Nat} (ht : t < a0.tmps.size) (ho : own t = some i) (hi : listed.getD i false = false) : a.eval (.tmp t) = a0.eval (.tmp t) := by
  have := h.2.2 t ht
  rw [ho] at this
  simp only [hi, Bool.false_eq_true, if_false] at this
  show a.tmps.getD t undef = a0.tmps.getD t undef
  rw [Array.getD_eq_getD_getElem?, Array.getD_eq_getD_getElem?, this]
end Go.Word
namespace Go.Proofs.Ytjagddhkoacipaa
open Go.Pth Go.Tre Go.RowKit Go.Word Go.Shelf

def Stc (i j k : Nat) (A B C D : World) (l : Array Bool) : World := if l.getD k false = true then D else if l.getD j false = true then C else if l.getD i false = true then B else A
section
variable {i j k : Nat} {A B C D : World} {l : Array Bool}
theorem stc_keep {p : Nat} (h1 : p ≠ i) (h2 : p ≠ j) (h3 : p ≠ k) : Stc i j k A B C D (l.setIfInBounds p true) = Stc i j k A B C D l := by
  unfold Stc
  simp only [getD_set, h1, h2, h3, false_and, if_false]
theorem stc_all (p : World → Prop) (hA : p A) (hB : p B) (hC : p C) (hD : l.getD k false = true → p D) : p (Stc i j k A B C D l) := by
  unfold Stc
  split
  · exact hD (by assumption)
  · split
    · exact hC
    · split
      · exact hB
      · exact hA
theorem no_of {b : Bool} {p : Prop} (h : b = true → p) (hp : ¬ p) : b = false := by
  cases b with
  | false => rfl
  | true => exact absurd (h rfl) hp
theorem stc_0 (ij : i ≠ j) (ik : i ≠ k) (uj : l.getD j false = true → l.getD i false = true) (uk : l.getD k false = true → l.getD j false = true) (hs : i < l.size) (hu : l.getD i false = false) : Stc i j k A B C D l = A ∧ Stc i j k A B C D (l.setIfInBounds i true) = B := by
  have h2 : l.getD j false = false := no_of uj (by simp [hu])
  have h3 : l.getD k false = false := no_of uk (by simp [h2])
  unfold Stc
  simp only [getD_set, hs, h2, h3, hu, ij, ik, false_and, true_and, and_self, if_false, if_true, Bool.false_eq_true, reduceIte]
theorem stc_1 (ji : j ≠ i) (jk : j ≠ k) (uk : l.getD k false = true → l.getD j false = true) (hs : j < l.size) (hu : l.getD j false = false) (h : l.getD i false = true) : Stc i j k A B C D l = B ∧ Stc i j k A B C D (l.setIfInBounds j true) = C := by
  have h3 : l.getD k false = false := no_of uk (by simp [hu])
  unfold Stc
  simp only [getD_set, hs, h, h3, hu, ji, jk, false_and, true_and, and_self, if_false, if_true, Bool.false_eq_true, reduceIte]
theorem stc_2 (kj : k ≠ j) (hs : k < l.size) (hu : l.getD k false = false) (h : l.getD j false = true) : Stc i j k A B C D l = C ∧ Stc i j k A B C D (l.setIfInBounds k true) = D := by
  unfold Stc
  simp only [getD_set, hs, h, hu, kj, false_and, true_and, and_self, if_false, if_true, Bool.false_eq_true, reduceIte]
theorem stc_end (h : l.getD k false = true) : Stc i j k A B C D l = D := by
  unfold Stc
  rw [if_pos h]
theorem stc_end2 (hk : l.getD k false = false) (h : l.getD j false = true) : Stc i j k A B C D l = C := by
  unfold Stc
  rw [if_neg (by simp [hk]), if_pos h]
theorem stc_end3 (h : l.getD j false = true) : Stc i j k A B C C l = C := by
  unfold Stc
  simp only [h, if_true, ite_self]
end
end Go.Proofs.Ytjagddhkoacipaa
