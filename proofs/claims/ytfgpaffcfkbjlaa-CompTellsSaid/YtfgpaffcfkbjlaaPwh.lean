/-
What is proved here: of components told in turn: each number stands in one of them, none is ahead of what it needs, and its numbers reach one another. On lists alone.
-/
import Derived.Test.YtfgpaffcfkbjlaaPuv
import Derived.Test.YtfgpaffcfkbjlaaCps
set_option linter.unusedSimpArgs false
set_option linter.unusedVariables false
namespace Go.Proofs.Ytfgpaffcfkbjlaa
open Go.Cmp Go.RowKit
/-- the components as they are told -/
def toldL (S : List (List Nat)) (out : List Nat) : List (List Nat) := out.map fun k => nx S k
theorem told_at {S : List (List Nat)} {out : List Nat} {i : Nat} (h : i < out.length) : nx (toldL S out) i = nx S out[i] := by
  unfold toldL nx
  rw [List.getD_eq_getElem?_getD, List.getElem?_map, List.getElem?_eq_getElem h]
  rfl
theorem told_pos {S : List (List Nat)} {out : List Nat} {i v : Nat} (h : v ∈ nx (toldL S out) i) : i < out.length := by
  have := nx_pos h
  simpa [toldL] using this
/-- what is told in turn -/
structure Wl (G L : List (List Nat)) : Prop where
  up : ∀ i, (nx L i).Pairwise (· < ·)
  lt : ∀ i v, v ∈ nx L i → v < G.length
  all : ∀ v, v < G.length → ∃ i, v ∈ nx L i
  one : ∀ i j v, v ∈ nx L i → v ∈ nx L j → i = j
  ord : ∀ i j u v, u ∈ nx L i → v ∈ nx L j → v ∈ nx G u → j ≤ i
  rch : ∀ i u v, u ∈ nx L i → (v ∈ nx L i ↔ Rch G u v ∧ Rch G v u)
  sm : (L.map List.length).sum = G.length
  ne : ∀ i, i < L.length → nx L i ≠ []
theorem nd_idx {l : List Nat} (h : l.Nodup) {i j : Nat} (hi : i < l.length) (hj : j < l.length) (e : l[i] = l[j]) : i = j := (List.getElem_inj h).1 e
theorem grp_one {G S : List (List Nat)} (h : Groups G S) {a b v : Nat} (ha : v ∈ nx S a) (hb : v ∈ nx S b) : a = b := by
  have h1 := nx_pos ha
  have h2 := nx_pos hb
  have e1 : nx S a = S[a] := by unfold nx; rw [List.getD_eq_getElem?_getD, List.getElem?_eq_getElem h1]; rfl
  have e2 : nx S b = S[b] := by unfold nx; rw [List.getD_eq_getElem?_getD, List.getElem?_eq_getElem h2]; rfl
  rw [e1] at ha
  rw [e2] at hb
  have hp := List.pairwise_iff_getElem.1 h.dis
  rcases Nat.lt_trichotomy a b with h3 | h3 | h3
  · exact absurd hb (hp a b h1 h2 h3 v ha)
  · exact h3
  · exact absurd ha (hp b a h2 h1 h3 v hb)
theorem sum_flat (L : List (List Nat)) : L.flatten.length = (L.map List.length).sum := List.length_flatten
theorem wl_of {G S T : List (List Nat)} {out : List Nat} (h : Cmps G S T out) : Wl G (toldL S out) := by
  have hlen := cmps_len h
  have hlt := cmps_lt h
  obtain ⟨op, hA⟩ := h.ask
  have hin : ∀ i (hi : i < out.length), nx S out[i] ∈ S := fun i hi => nx_mem (hlt _ (List.getElem_mem hi))
  have one : ∀ i j v, v ∈ nx (toldL S out) i → v ∈ nx (toldL S out) j → i = j := fun i j v hi hj => by
    have h1 := told_pos hi
    have h2 := told_pos hj
    rw [told_at h1] at hi
    rw [told_at h2] at hj
    exact nd_idx h.nd h1 h2 (grp_one h.grp hi hj)
  have up : ∀ i, (nx (toldL S out) i).Pairwise (· < ·) := fun i => by
    rcases Nat.lt_or_ge i out.length with h1 | h1
    · rw [told_at h1]; exact h.grp.up _ (hin i h1)
    · have : nx (toldL S out) i = [] := by unfold nx; rw [List.getD_eq_getElem?_getD, List.getElem?_eq_none (by simpa [toldL] using h1)]; rfl
      rw [this]; exact .nil
  have lt : ∀ i v, v ∈ nx (toldL S out) i → v < G.length := fun i v hv => by
    have h1 := told_pos hv
    rw [told_at h1] at hv
    exact h.grp.lt _ (hin i h1) v hv
  have all : ∀ v, v < G.length → ∃ i, v ∈ nx (toldL S out) i := fun v hv => by
    obtain ⟨g, hg, hvg⟩ := h.grp.all v hv
    obtain ⟨k, hk, rfl⟩ := List.getElem_of_mem hg
    obtain ⟨i, hi, e⟩ := List.getElem_of_mem (h.all k hk)
    refine ⟨i, ?_⟩
    rw [told_at hi, e]
    unfold nx
    rw [List.getD_eq_getElem?_getD, List.getElem?_eq_getElem hk]
    exact hvg
  have mem : ∀ v, v ∈ (toldL S out).flatten ↔ v < G.length := fun v => by
    constructor
    · intro hv
      obtain ⟨g, hg, hvg⟩ := List.mem_flatten.1 hv
      obtain ⟨i, hi, rfl⟩ := List.getElem_of_mem hg
      refine lt i v ?_
      unfold nx
      rw [List.getD_eq_getElem?_getD, List.getElem?_eq_getElem hi]
      exact hvg
    · intro hv
      obtain ⟨i, hi⟩ := all v hv
      have := nx_pos hi
      exact List.mem_flatten.2 ⟨_, nx_mem this, hi⟩
  have nd : (toldL S out).flatten.Nodup := by
    unfold List.Nodup
    rw [List.pairwise_flatten]
    refine ⟨fun g hg => ?_, List.pairwise_iff_getElem.2 fun i j hi hj hij x hx y hy e => ?_⟩
    · obtain ⟨i, hi, rfl⟩ := List.getElem_of_mem hg
      have := up i
      unfold nx at this
      rw [List.getD_eq_getElem?_getD, List.getElem?_eq_getElem hi] at this
      exact (show ((toldL S out)[i]).Pairwise (· < ·) from this).imp (fun {a b} h => Nat.ne_of_lt h)
    · subst e
      have e1 : x ∈ nx (toldL S out) i := by unfold nx; rw [List.getD_eq_getElem?_getD, List.getElem?_eq_getElem hi]; exact hx
      have e2 : x ∈ nx (toldL S out) j := by unfold nx; rw [List.getD_eq_getElem?_getD, List.getElem?_eq_getElem hj]; exact hy
      have := one i j x e1 e2
      omega
  refine ⟨up, lt, all, one, fun i j u v hu hv huv => ?_, fun i u v hu => ?_, ?_, fun i hi e => ?_⟩
  · have h1 := told_pos hu
    have h2 := told_pos hv
    rw [told_at h1] at hu
    rw [told_at h2] at hv
    by_cases e : out[i] = out[j]
    · have := nd_idx h.nd h1 h2 e; omega
    · have hm : out[i] ∈ nx T out[j] := (hA.mem _ _).2 ⟨e, hlt _ (List.getElem_mem h1), hlt _ (List.getElem_mem h2), u, hu, v, hv, huv⟩
      have hs : out = out.take i ++ out[i] :: out.drop (i + 1) := by
        rw [← List.drop_eq_getElem_cons h1, List.take_append_drop]
      have hp := (h.turn _ _ _ hs).2.2.1 _ hm
      obtain ⟨j', hj', e'⟩ := List.getElem_of_mem hp
      rw [List.getElem_take] at e'
      have hl : j' < i ∧ j' < out.length := by simp at hj'; omega
      have := nd_idx h.nd hl.2 h2 e'
      omega
  · have h1 := told_pos hu
    rw [told_at h1] at hu ⊢
    exact scc_all (h.grp.scc _ (hin i h1)) hu
  · rw [← sum_flat]
    have hp : (toldL S out).flatten.length ≤ (List.range G.length).length := len_sub _ _ nd (fun x hx => List.mem_range.2 ((mem x).1 hx))
    have hq : (List.range G.length).length ≤ (toldL S out).flatten.length := len_sub _ _ List.nodup_range (fun x hx => (mem x).2 (List.mem_range.1 hx))
    rw [List.length_range] at hp hq
    omega
  · have h1 : i < out.length := by simpa [toldL] using hi
    rw [told_at h1] at e
    obtain ⟨r, hr, _⟩ := h.grp.scc _ (hin i h1)
    rw [e] at hr
    cases hr
/-- the places told, when those of the first i components are, and of the next the first k -/
structure AtI (G L : List (List Nat)) (i k : Nat) (f : List Nat) : Prop where
  len : f.length = G.length
  old : ∀ j, j < i → ∀ v ∈ nx L j, f.getD v 0 = j + 1
  now : ∀ v ∈ (nx L i).take k, f.getD v 0 = i + 1
  no : ∀ v, (∀ j, j < i → v ∉ nx L j) → v ∉ (nx L i).take k → f.getD v 0 = 0
theorem atI_0 (G L : List (List Nat)) : AtI G L 0 0 (List.replicate G.length 0) :=
  ⟨by simp, fun j hj => absurd hj (Nat.not_lt_zero j), (fun v hv => by simp at hv), fun v _ _ => by rw [List.getD_eq_getElem?_getD, List.getElem?_replicate]; split <;> rfl⟩
theorem atI_free {G L : List (List Nat)} (hW : Wl G L) {i k : Nat} {f : List Nat} (h : AtI G L i k f) (hk : k < (nx L i).length) : f.getD (nx L i)[k] 0 = 0 := by
  refine h.no _ (fun j hj hm => ?_) (fun hm => ?_)
  · have := hW.one j i _ hm (List.getElem_mem hk); omega
  · obtain ⟨a, ha, e⟩ := List.getElem_of_mem hm
    rw [List.getElem_take] at e
    have h1 : a < k ∧ a < (nx L i).length := by simp at ha; omega
    have := List.pairwise_iff_getElem.1 (hW.up i) a k h1.2 hk h1.1
    omega
theorem atI_set {G L : List (List Nat)} (hW : Wl G L) {i k : Nat} {f : List Nat} (h : AtI G L i k f) (hk : k < (nx L i).length) : AtI G L i (k + 1) (f.set (nx L i)[k] (i + 1)) := by
  have hl : (nx L i)[k] < f.length := by rw [h.len]; exact hW.lt i _ (List.getElem_mem hk)
  have et : (nx L i).take (k + 1) = (nx L i).take k ++ [(nx L i)[k]] := by rw [List.take_succ_eq_append_getElem hk]
  refine ⟨by rw [List.length_set]; exact h.len, fun j hj v hv => ?_, fun v hv => ?_, fun v h1 h2 => ?_⟩
  · rw [getD_setV]
    by_cases e : (nx L i)[k] = v
    · have := hW.one i j v (e ▸ List.getElem_mem hk) hv; omega
    · rw [if_neg (fun x => e x.1)]; exact h.old j hj v hv
  · rw [getD_setV]
    rw [et] at hv
    by_cases e : (nx L i)[k] = v
    · rw [if_pos ⟨e, by omega⟩]
    · rw [if_neg (fun x => e x.1)]
      rcases List.mem_append.1 hv with h3 | h3
      · exact h.now v h3
      · exact absurd (List.mem_singleton.1 h3).symm e
  · rw [et] at h2
    rw [getD_setV, if_neg (fun x => h2 (List.mem_append_right _ (List.mem_singleton.2 x.1.symm)))]
    exact h.no v h1 (fun x => h2 (List.mem_append_left _ x))
theorem atI_next {G L : List (List Nat)} {i : Nat} {f : List Nat} (h : AtI G L i (nx L i).length f) : AtI G L (i + 1) 0 f := by
  refine ⟨h.len, fun j hj v hv => ?_, (fun v hv => by simp at hv), fun v h1 _ => h.no v (fun j hj => h1 j (by omega)) (fun x => h1 i (by omega) (List.take_subset _ _ x))⟩
  rcases Nat.lt_or_ge j i with h1 | h1
  · exact h.old j h1 v hv
  · obtain rfl : j = i := by omega
    exact h.now v (by rw [List.take_length]; exact hv)
theorem atI_end {G L : List (List Nat)} (hW : Wl G L) {k : Nat} {f : List Nat} (h : AtI G L L.length k f) {u v : Nat} (hu : u < G.length) (hv : v ∈ nx G u) (hv' : v < G.length) : f.getD v 0 ≤ f.getD u 0 := by
  obtain ⟨i, hi⟩ := hW.all u hu
  obtain ⟨j, hj⟩ := hW.all v hv'
  rw [h.old i (nx_pos hi) u hi, h.old j (nx_pos hj) v hj]
  have := hW.ord i j u v hi hj hv
  omega
theorem sum_take {L : List (List Nat)} {i : Nat} (h : i < L.length) : ((L.take (i + 1)).map List.length).sum = ((L.take i).map List.length).sum + (nx L i).length := by
  have e : nx L i = L[i] := by unfold nx; rw [List.getD_eq_getElem?_getD, List.getElem?_eq_getElem h]; rfl
  rw [List.take_succ_eq_append_getElem h, List.map_append, List.sum_append, e]
  simp
/-- one leads to another, by one step at least -/
def R1 (G : Gr) (u v : Nat) : Prop := ∃ x ∈ nx G u, Rch G x v
theorem r1_of {G : Gr} {u v : Nat} (h : Rch G u v) (hne : u ≠ v) : R1 G u v := by
  induction h with
  | refl => exact absurd rfl hne
  | @step a b h1 h2 ih =>
    by_cases e : u = a
    · subst e; exact ⟨b, h2, .refl⟩
    · obtain ⟨x, hx, hr⟩ := ih e
      exact ⟨x, hx, hr.step h2⟩
theorem r1_rch {G : Gr} {u v : Nat} (h : R1 G u v) : Rch G u v := by
  obtain ⟨x, hx, hr⟩ := h
  exact (Rch.one hx).trans hr
end Go.Proofs.Ytfgpaffcfkbjlaa
