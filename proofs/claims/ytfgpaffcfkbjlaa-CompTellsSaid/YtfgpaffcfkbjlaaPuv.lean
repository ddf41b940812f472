/-
What is proved here: that components are told in one order only; and that needs named twice, or of oneself, turn none of it. On lists alone.
-/
import Derived.Test.YtfgpaffcfkbjlaaPuu
set_option linter.unusedSimpArgs false
set_option linter.unusedVariables false
namespace Go.Cmp
open Go.Proofs.Ytfgpaffcfkbjlaa
theorem turn_uniq {T T' : Gr} {K : Nat} (hT : ∀ h g, g ∈ nx T h ↔ g ∈ nx T' h) {out out' : List Nat} (h : InTurn T K out) (h' : InTurn T' K out') (hl : out.length = out'.length) : out = out' := by
  have key : ∀ k, k ≤ out.length → out.take k = out'.take k := by
    intro k
    induction k with
    | zero => intro _; simp
    | succ k ih =>
      intro hk
      have e := ih (by omega)
      have k1 : k < out.length := by omega
      have k2 : k < out'.length := by omega
      have d1 : out = out.take k ++ out[k] :: out.drop (k + 1) := by rw [List.getElem_cons_drop, List.take_append_drop]
      have d2 : out' = out.take k ++ out'[k] :: out'.drop (k + 1) := by rw [e, List.getElem_cons_drop, List.take_append_drop]
      obtain ⟨a1, a2, a3, a4⟩ := h _ _ _ d1
      obtain ⟨b1, b2, b3, b4⟩ := h' _ _ _ d2
      have c1 := a4 _ b1 b2 (fun x hx => b3 x ((hT x _).1 hx))
      have c2 := b4 _ a1 a2 (fun x hx => a3 x ((hT x _).2 hx))
      rw [List.take_succ_eq_append_getElem k1, List.take_succ_eq_append_getElem k2, e]
      congr 2
      omega
  have := key out.length (Nat.le_refl _)
  rwa [List.take_length, hl, List.take_length] at this
/-- needs of the same numbers, but for those of oneself -/
def Alike (G G' : Gr) : Prop := G'.length = G.length ∧ ∀ u v, u ≠ v → (v ∈ nx G u ↔ v ∈ nx G' u)
theorem alike_rch {G G' : Gr} (h : Alike G G') {u v : Nat} (k : Rch G u v) : Rch G' u v := by
  induction k with
  | refl => exact .refl
  | @step a b _ hx ih =>
    by_cases e : a = b
    · subst e; exact ih
    · exact ih.step ((h.2 a b e).1 hx)
theorem alike_symm {G G' : Gr} (h : Alike G G') : Alike G' G := ⟨h.1.symm, fun u v e => (h.2 u v e).symm⟩
theorem alike_groups {G G' : Gr} (h : Alike G G') {S : List (List Nat)} (k : Groups G S) : Groups G' S := by
  refine ⟨fun g hg => ?_, k.up, fun v hv => k.all v (by rw [← h.1]; exact hv), fun g hg v hv => by rw [h.1]; exact k.lt g hg v hv, k.ord, k.dis⟩
  obtain ⟨r, hr, hm⟩ := k.scc g hg
  refine ⟨r, hr, fun v => ?_⟩
  rw [hm v]
  exact ⟨fun x => ⟨alike_rch h x.1, alike_rch h x.2⟩, fun x => ⟨alike_rch (alike_symm h) x.1, alike_rch (alike_symm h) x.2⟩⟩
/-- the same components, in the same order -/
theorem alike_same {G G' : Gr} (h : Alike G G') {S S' T T' : List (List Nat)} {out out' : List Nat} (k : Cmps G S T out) (k' : Cmps G' S' T' out') : S = S' ∧ out = out' := by
  have hS : S = S' := groups_eq (alike_groups h k.grp) k'.grp
  subst hS
  obtain ⟨op, a⟩ := k.ask
  obtain ⟨op', a'⟩ := k'.ask
  refine ⟨rfl, turn_uniq (fun x g => ?_) k.turn k'.turn (by rw [cmps_len k, cmps_len k'])⟩
  rw [a.mem, a'.mem]
  constructor
  · rintro ⟨h1, h2, h3, u, hu, v, hv, huv⟩
    exact ⟨h1, h2, h3, u, hu, v, hv, (h.2 u v (fun e => by subst e; exact h1 (groups_ne k.grp hu hv))).1 huv⟩
  · rintro ⟨h1, h2, h3, u, hu, v, hv, huv⟩
    exact ⟨h1, h2, h3, u, hu, v, hv, (h.2 u v (fun e => by subst e; exact h1 (groups_ne k.grp hu hv))).2 huv⟩
end Go.Cmp
