/-
What is proved here: a path's bytes are ASCII; its parts one by one.
-/
import Derived.Test.YtdnagkgblmcojaaPure2
namespace Go.Pth

def namesP (l : Bt) : List Bt := if isPath l then parts l else []
theorem mem_cut (l : Bt) (c : UInt8) (h : c ∈ l) : c = 47 ∨ c ∈ (cutAt l).1 ∨ ∃ p ∈ (cutAt l).2, c ∈ p := by
  induction l with
  | nil => cases h
  | cons d r ih =>
    by_cases h47 : d = 47
    · subst h47
      simp only [cutAt, if_true]
      rcases List.mem_cons.1 h with rfl | h
      · exact Or.inl rfl
      · rcases ih h with h1 | h1 | ⟨p, hp, h1⟩
        · exact Or.inl h1
        · exact Or.inr (Or.inr ⟨_, by simp, h1⟩)
        · exact Or.inr (Or.inr ⟨p, by simp [hp], h1⟩)
    · simp only [cutAt, h47, if_false]
      rcases List.mem_cons.1 h with rfl | h
      · exact Or.inr (Or.inl (by simp))
      · rcases ih h with h1 | h1 | ⟨p, hp, h1⟩
        · exact Or.inl h1
        · exact Or.inr (Or.inl (by simp [h1]))
        · exact Or.inr (Or.inr ⟨p, hp, h1⟩)
theorem okb_low (c : UInt8) (h : okb c = true) : c.toNat < 128 := by
  unfold okb at h
  have := of_decide_eq_true h
  omega
theorem path_low (l : Bt) (h : isPath l = true) : ∀ c ∈ l, c.toNat < 128 := fun c hc => by
  unfold isPath at h
  rw [Bool.and_eq_true] at h
  have ha := List.all_eq_true.1 h.2
  have hn : ∀ p ∈ parts l, c ∈ p → c.toNat < 128 := fun p hp hcp => by
    have := ha p hp
    unfold isName at this
    rw [Bool.and_eq_true] at this
    exact okb_low c (List.all_eq_true.1 this.2 c hcp)
  rcases mem_cut l c hc with rfl | h1 | ⟨p, hp, h1⟩
  · decide
  · exact hn _ (by simp [parts]) h1
  · exact hn p (by simp [parts, hp]) h1
theorem parts_pos (l : Bt) : 1 ≤ (parts l).length := by simp [parts]
theorem names_six (l : Bt) : (namesP l).length ≤ 6 := by
  unfold namesP
  split
  · rename_i h
    unfold isPath at h
    rw [Bool.and_eq_true] at h
    exact of_decide_eq_true h.1
  · simp
theorem cut_len (l : Bt) : ∀ p, p ∈ parts l → p.length ≤ l.length := by
  induction l with
  | nil => intro p hp; simp [parts, cutAt] at hp; subst hp; simp
  | cons c r ih =>
    intro p hp
    unfold parts at hp
    by_cases h : c = 47
    · subst h
      simp only [cutAt, if_true, List.mem_cons] at hp
      rcases hp with rfl | hp
      · simp
      · have := ih p (by unfold parts; exact List.mem_cons.2 hp)
        simp; omega
    · simp only [cutAt, h, if_false, List.mem_cons] at hp
      rcases hp with rfl | hp
      · have := ih (cutAt r).1 (by simp [parts])
        simp; omega
      · have := ih p (by simp [parts, hp])
        simp; omega
end Go.Pth
