/-
What is proved here: the document's own search from a number: it marks all that the number leads to. On lists alone.
-/
import Derived.Test.YtfgpaffcfkbjlaaPwh
set_option linter.unusedSimpArgs false
set_option linter.unusedVariables false
namespace Go.Proofs.Ytfgpaffcfkbjlaa
open Go.Cmp Go.RowKit
structure RcI (G : Gr) (f : Nat) (m : List Bool) (l : List Nat) : Prop where
  len : m.length = G.length
  mrk : ∀ v, m.getD v false = true → R1 G f v
  ls : ∀ v ∈ l, R1 G f v
  first : ∀ x ∈ nx G f, m.getD x false = true ∨ x ∈ l
  shut : ∀ u, m.getD u false = true → ∀ x ∈ nx G u, m.getD x false = true ∨ x ∈ l
  big : todo G m + l.length ≤ todo G (List.replicate G.length false) + (nx G f).length
theorem r1_lt {G : Gr} (hG : Ok G) {u v : Nat} (h : R1 G u v) : v < G.length := by
  obtain ⟨x, hx, hr⟩ := h
  cases hr with
  | refl => exact (nx_lt hG hx).1
  | step h1 h2 => exact (nx_lt hG h2).1
theorem rcI_0 (G : Gr) (f : Nat) : RcI G f (List.replicate G.length false) (nx G f) := by
  have no : ∀ v, (List.replicate G.length false).getD v false = false := fun v => by
    rw [List.getD_eq_getElem?_getD, List.getElem?_replicate]; split <;> rfl
  exact ⟨by simp, (fun v hv => by rw [no] at hv; cases hv), fun v hv => ⟨v, hv, .refl⟩, fun x hx => .inr hx, (fun u hu => by rw [no] at hu; cases hu), Nat.le_refl _⟩
theorem rcI_seen {G : Gr} {f : Nat} {m : List Bool} {l : List Nat} {v : Nat} (h : RcI G f m (l ++ [v])) (hv : m.getD v false = true) : RcI G f m l := by
  have cut : ∀ x, m.getD x false = true ∨ x ∈ l ++ [v] → m.getD x false = true ∨ x ∈ l := fun x hx => by
    rcases hx with h1 | h1
    · exact .inl h1
    · rcases List.mem_append.1 h1 with h2 | h2
      · exact .inr h2
      · rw [List.mem_singleton.1 h2]; exact .inl hv
  have hb := h.big
  rw [List.length_append, List.length_singleton] at hb
  exact ⟨h.len, h.mrk, fun x hx => h.ls x (List.mem_append_left _ hx), fun x hx => cut x (h.first x hx), fun u hu x hx => cut x (h.shut u hu x hx), by omega⟩
theorem rcI_mark {G : Gr} (hG : Ok G) {f : Nat} {m : List Bool} {l : List Nat} {v : Nat} (h : RcI G f m (l ++ [v])) (hv : m.getD v false = false) : RcI G f (m.set v true) (l ++ nx G v) := by
  have hr := h.ls v (by simp)
  have hvl : v < m.length := by rw [h.len]; exact r1_lt hG hr
  have cut : ∀ x, m.getD x false = true ∨ x ∈ l ++ [v] → (m.set v true).getD x false = true ∨ x ∈ l ++ nx G v := fun x hx => by
    rw [getD_set m v x hvl]
    by_cases e : x = v
    · rw [if_pos e]; exact .inl rfl
    · rw [if_neg e]
      rcases hx with h1 | h1
      · exact .inl h1
      · rcases List.mem_append.1 h1 with h2 | h2
        · exact .inr (List.mem_append_left _ h2)
        · exact absurd (List.mem_singleton.1 h2) e
  have hb := h.big
  have ht := todo_set G m v hvl hv
  refine ⟨by rw [List.length_set]; exact h.len, fun x hx => ?_, fun x hx => ?_, fun x hx => cut x (h.first x hx), fun u hu x hx => ?_, ?_⟩
  · rw [getD_set m v x hvl] at hx
    by_cases e : x = v
    · rw [e]; exact hr
    · rw [if_neg e] at hx; exact h.mrk x hx
  · rcases List.mem_append.1 hx with h1 | h1
    · exact h.ls x (List.mem_append_left _ h1)
    · obtain ⟨y, hy, h2⟩ := hr
      exact ⟨y, hy, h2.step h1⟩
  · rw [getD_set m v u hvl] at hu
    by_cases e : u = v
    · rw [e] at hx; exact .inr (List.mem_append_right _ hx)
    · rw [if_neg e] at hu; exact cut x (h.shut u hu x hx)
  · rw [List.length_append] at hb ⊢
    rw [List.length_singleton] at hb
    omega
theorem rcI_end {G : Gr} {f : Nat} {m : List Bool} (h : RcI G f m []) (v : Nat) : m.getD v false = true ↔ R1 G f v := by
  refine ⟨h.mrk v, fun ⟨x, hx, hr⟩ => ?_⟩
  have hx2 : m.getD x false = true := (h.first x hx).resolve_right (by simp)
  exact rch_closed (fun y => m.getD y false = true) (fun u hu y hy => (h.shut u hu y hy).resolve_right (by simp)) hr hx2
/-- what the document's own search marks -/
def Rea (G : Gr) (f : Nat) (m : List Bool) : Prop := m.length = G.length ∧ ∀ v, m.getD v false = true ↔ R1 G f v
theorem rea_lt {G : Gr} {f : Nat} {m m' : List Bool} (h : Rea G f m) (h' : Rea G f m') : m = m' := by
  refine List.ext_getElem (by rw [h.1, h'.1]) fun i h1 h2 => ?_
  have a := h.2 i
  have b := h'.2 i
  rw [List.getD_eq_getElem?_getD, List.getElem?_eq_getElem h1] at a
  rw [List.getD_eq_getElem?_getD, List.getElem?_eq_getElem h2] at b
  simp only [Option.getD_some] at a b
  exact Bool.eq_iff_iff.2 (a.trans b.symm)
end Go.Proofs.Ytfgpaffcfkbjlaa
