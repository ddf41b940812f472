/-
What is proved here: of each number the least one of its component, as the document's own answer finds it. On lists alone.
-/
import Derived.Test.YtfgpaffcfkbjlaaPre
import Derived.Test.YtfgpaffcfkbjlaaDel
set_option linter.unusedSimpArgs false
set_option linter.unusedVariables false
namespace Go.Proofs.Ytfgpaffcfkbjlaa
open Go.Cmp Go.RowKit
/-- t is the least number of i's component -/
def Lst (G : Gr) (i t : Nat) : Prop := t ≤ i ∧ Rch G i t ∧ Rch G t i ∧ ∀ k, k < t → ¬ (Rch G i k ∧ Rch G k i)
theorem lst_uniq {G : Gr} {i t t' : Nat} (h : Lst G i t) (h' : Lst G i t') : t = t' := by
  rcases Nat.lt_trichotomy t t' with h1 | h1 | h1
  · exact absurd ⟨h.2.1, h.2.2.1⟩ (h'.2.2.2 t h1)
  · exact h1
  · exact absurd ⟨h'.2.1, h'.2.2.1⟩ (h.2.2.2 t' h1)
theorem lst_self {G : Gr} {i : Nat} (h : ∀ k, k < i → ¬ (R1 G i k ∧ R1 G k i)) : Lst G i i :=
  ⟨Nat.le_refl _, .refl, .refl, fun k hk ⟨a, b⟩ => h k hk ⟨r1_of a (by omega), r1_of b (by omega)⟩⟩
theorem lst_at {G : Gr} {i k : Nat} (hk : k < i) (h1 : R1 G i k) (h2 : R1 G k i) (h : ∀ j, j < k → ¬ (R1 G i j ∧ R1 G j i)) : Lst G i k :=
  ⟨by omega, r1_rch h1, r1_rch h2, fun j hj ⟨a, b⟩ => h j hj ⟨r1_of a (by omega), r1_of b (by omega)⟩⟩
/-- each number's least one -/
def Tos (G : Gr) (to' : List Nat) : Prop := to'.length = G.length ∧ ∀ i, i < G.length → Lst G i (to'.getD i 0)
/-- those numbers of which one is the least -/
def memL (to' : List Nat) (i : Nat) : List Nat := (List.range to'.length).filter fun v => to'.getD v 0 == i
theorem memL_up (to' : List Nat) (i : Nat) : (memL to' i).Pairwise (· < ·) := (List.pairwise_lt_range (n := to'.length)).filter _
theorem mem_memL {to' : List Nat} {i v : Nat} : v ∈ memL to' i ↔ v < to'.length ∧ to'.getD v 0 = i := by
  unfold memL
  rw [List.mem_filter, List.mem_range]
  simp
/-- a component's least number -/
def hd (S : Gr) (g : Nat) : Nat := (nx S g).headD 0
theorem hd_mem {G S : Gr} (h : Groups G S) {g : Nat} (hg : g < S.length) : hd S g ∈ nx S g := by
  obtain ⟨r, hr, _⟩ := h.scc _ (nx_mem hg)
  unfold hd
  cases e : nx S g with
  | nil => rw [e] at hr; cases hr
  | cons a t => simp
theorem hd_le {G S : Gr} (h : Groups G S) {g v : Nat} (hv : v ∈ nx S g) : hd S g ≤ v := by
  have hu := h.up _ (nx_mem (nx_pos hv))
  unfold hd
  cases e : nx S g with
  | nil => rw [e] at hv; cases hv
  | cons a t =>
    rw [e] at hv hu
    rcases List.mem_cons.1 hv with rfl | h1
    · exact Nat.le_refl _
    · have := (List.pairwise_cons.1 hu).1 v h1
      simp; omega
theorem hd_lt {G S : Gr} (h : Groups G S) {a b : Nat} (ha : a < b) (hb : b < S.length) : hd S a < hd S b := by
  have h1 := List.pairwise_iff_getElem.1 h.ord a b (by omega) hb ha
  have e1 : nx S a = S[a] := by unfold nx; rw [List.getD_eq_getElem?_getD, List.getElem?_eq_getElem (by omega)]; rfl
  have e2 : nx S b = S[b] := by unfold nx; rw [List.getD_eq_getElem?_getD, List.getElem?_eq_getElem hb]; rfl
  have m1 := hd_mem h (g := a) (by omega)
  have m2 := hd_mem h (g := b) hb
  rw [← e1, ← e2] at h1
  unfold hd at m1 m2 ⊢
  cases x1 : nx S a with
  | nil => rw [x1] at m1; cases m1
  | cons p t =>
    cases x2 : nx S b with
    | nil => rw [x2] at m2; cases m2
    | cons q u => rw [x1, x2] at h1; simpa using h1 p q rfl rfl
theorem grp_lst {G S : Gr} (h : Groups G S) {g v : Nat} (hv : v ∈ nx S g) : Lst G v (hd S g) := by
  have hg := nx_pos hv
  have hm := hd_mem h hg
  have hs := scc_all (h.scc _ (nx_mem hg)) hv (v := hd S g)
  have h2 := hs.1 hm
  refine ⟨hd_le h hv, h2.1, h2.2, fun k hk hr => ?_⟩
  have h3 := (scc_all (h.scc _ (nx_mem hg)) hv (v := k)).2 hr
  have := hd_le h h3
  omega
theorem to_grp {G S : Gr} (h : Groups G S) {to' : List Nat} (ht : Tos G to') {g v : Nat} (hv : v ∈ nx S g) : to'.getD v 0 = hd S g :=
  lst_uniq (ht.2 v (h.lt _ (nx_mem (nx_pos hv)) v hv)) (grp_lst h hv)
theorem grp_at {G S : Gr} (h : Groups G S) {v : Nat} (hv : v < G.length) : ∃ g, g < S.length ∧ v ∈ nx S g := by
  obtain ⟨l, hl, hvl⟩ := h.all v hv
  obtain ⟨g, hg, rfl⟩ := List.getElem_of_mem hl
  refine ⟨g, hg, ?_⟩
  unfold nx
  rw [List.getD_eq_getElem?_getD, List.getElem?_eq_getElem hg]
  exact hvl
theorem hd_inj {G S : Gr} (h : Groups G S) {a b : Nat} (ha : a < S.length) (hb : b < S.length) (e : hd S a = hd S b) : a = b := by
  rcases Nat.lt_trichotomy a b with h1 | h1 | h1
  · have := hd_lt h h1 hb; omega
  · exact h1
  · have := hd_lt h h1 ha; omega
theorem memL_hd {G S : Gr} (h : Groups G S) {to' : List Nat} (ht : Tos G to') {g : Nat} (hg : g < S.length) : memL to' (hd S g) = nx S g := by
  refine up_eq (memL_up _ _) (h.up _ (nx_mem hg)) fun v => ?_
  rw [mem_memL, ht.1]
  constructor
  · rintro ⟨h1, h2⟩
    obtain ⟨g', hg', hv⟩ := grp_at h h1
    rw [to_grp h ht hv] at h2
    rw [← hd_inj h hg' hg h2]
    exact hv
  · intro hv
    exact ⟨h.lt _ (nx_mem hg) v hv, to_grp h ht hv⟩
/-- a component that may be told next, by its least number -/
def Cand (G : Gr) (to' : List Nat) (told : List Bool) (i : Nat) : Prop := to'.getD i 0 = i ∧ told.getD i false = false ∧ ∀ u ∈ memL to' i, ∀ x ∈ nx G u, to'.getD x 0 = i ∨ told.getD (to'.getD x 0) false = true
/-- those told are the first p -/
def ToldP (S : Gr) (n : Nat) (out : List Nat) (p : Nat) (told : List Bool) : Prop := told.length = n ∧ ∀ g, g < S.length → (told.getD (hd S g) false = true ↔ g ∈ out.take p)
theorem cand_iff {G S T : Gr} (hG : Ok G) {out : List Nat} (h : Cmps G S T out) {to' : List Nat} (ht : Tos G to') {p : Nat} {told : List Bool} (hp : ToldP S G.length out p told) {i : Nat} (hi : i < G.length) :
    Cand G to' told i ↔ ∃ g, g < S.length ∧ i = hd S g ∧ g ∉ out.take p ∧ ∀ h, g ∈ nx T h → h ∈ out.take p := by
  obtain ⟨op, hA⟩ := h.ask
  have hS := h.grp
  constructor
  · rintro ⟨h1, h2, h3⟩
    obtain ⟨g, hg, hv⟩ := grp_at hS hi
    have e := to_grp hS ht hv
    rw [h1] at e
    refine ⟨g, hg, e, fun hm => ?_, fun k hk => ?_⟩
    · have := (hp.2 g hg).2 hm
      rw [← e, h2] at this
      cases this
    · obtain ⟨hne, _, hkl, a, ha, b, hb, hab⟩ := (hA.mem k g).1 hk
      have ha2 : a ∈ memL to' i := by rw [e, memL_hd hS ht hg]; exact ha
      have e2 := to_grp hS ht hb
      rcases h3 a ha2 b hab with h4 | h4
      · rw [e2, e] at h4
        exact absurd (hd_inj hS hkl hg h4).symm hne
      · rw [e2] at h4
        exact (hp.2 k hkl).1 h4
  · rintro ⟨g, hg, rfl, h2, h3⟩
    have hm := hd_mem hS hg
    refine ⟨to_grp hS ht hm, ?_, fun u hu x hx => ?_⟩
    · rw [Bool.eq_false_iff]
      intro h4
      exact h2 ((hp.2 g hg).1 h4)
    · rw [memL_hd hS ht hg] at hu
      obtain ⟨k, hk, hxk⟩ := grp_at hS (nx_lt hG hx).1
      rw [to_grp hS ht hxk]
      by_cases e : k = g
      · rw [e]; exact .inl rfl
      · exact .inr ((hp.2 k hk).2 (h3 k ((hA.mem k g).2 ⟨fun x => e x.symm, hg, hk, u, hu, x, hxk, hx⟩)))
/-- the next one told is the first that may be -/
theorem cand_next {G S T : Gr} (hG : Ok G) {out : List Nat} (h : Cmps G S T out) {to' : List Nat} (ht : Tos G to') {p : Nat} {told : List Bool} (hp : ToldP S G.length out p told) (hpl : p < out.length) :
    Cand G to' told (hd S out[p]) ∧ ∀ i, i < hd S out[p] → ¬ Cand G to' told i := by
  have hg := cmps_lt h _ (List.getElem_mem hpl)
  have hn : hd S out[p] < G.length := h.grp.lt _ (nx_mem hg) _ (hd_mem h.grp hg)
  have hs : out = out.take p ++ out[p] :: out.drop (p + 1) := by rw [← List.drop_eq_getElem_cons hpl, List.take_append_drop]
  obtain ⟨_, h2, h3, h4⟩ := h.turn _ _ _ hs
  refine ⟨(cand_iff hG h ht hp hn).2 ⟨out[p], hg, rfl, h2, h3⟩, fun i hi hc => ?_⟩
  obtain ⟨g, hg2, rfl, h5, h6⟩ := (cand_iff hG h ht hp (by omega)).1 hc
  have h7 := h4 g hg2 h5 h6
  rcases Nat.lt_or_eq_of_le h7 with h8 | h8
  · have := hd_lt h.grp h8 hg2; omega
  · rw [h8] at hi; omega
theorem cand_none {G S T : Gr} (hG : Ok G) {out : List Nat} (h : Cmps G S T out) {to' : List Nat} (ht : Tos G to') {told : List Bool} (hp : ToldP S G.length out out.length told) {i : Nat} (hi : i < G.length) : ¬ Cand G to' told i := fun hc => by
  obtain ⟨g, hg, _, h5, _⟩ := (cand_iff hG h ht hp hi).1 hc
  rw [List.take_length] at h5
  exact h5 (h.all g hg)
theorem toldP_0 {G S : Gr} (out : List Nat) : ToldP S G.length out 0 (List.replicate G.length false) :=
  ⟨by simp, fun g hg => by rw [List.getD_eq_getElem?_getD, List.getElem?_replicate]; split <;> simp⟩
theorem toldP_next {G S T : Gr} {out : List Nat} (h : Cmps G S T out) {p : Nat} {told : List Bool} (hp : ToldP S G.length out p told) (hpl : p < out.length) : ToldP S G.length out (p + 1) (told.set (hd S out[p]) true) := by
  have hg := cmps_lt h _ (List.getElem_mem hpl)
  have hn : hd S out[p] < told.length := by rw [hp.1]; exact h.grp.lt _ (nx_mem hg) _ (hd_mem h.grp hg)
  refine ⟨by rw [List.length_set]; exact hp.1, fun g hg2 => ?_⟩
  rw [getD_set told _ _ hn, List.take_succ_eq_append_getElem hpl, List.mem_append, List.mem_singleton]
  by_cases e : hd S g = hd S out[p]
  · rw [if_pos e]; simp [hd_inj h.grp hg2 hg e]
  · rw [if_neg e, hp.2 g hg2]
    constructor
    · exact .inl
    · rintro (h1 | h1)
      · exact h1
      · exact absurd (by rw [h1]) e
/-- what goes round, as the document's own answer finds it -/
theorem round_iff {G S : Gr} (h : Groups G S) {to' : List Nat} (ht : Tos G to') {g : Nat} (hg : g < S.length) : stillP G (nx S g) = false ↔ R1 G (hd S g) (hd S g) := by
  have hm := hd_mem h hg
  unfold stillP
  by_cases h1 : (nx S g).length = 1
  · obtain ⟨a, e⟩ := List.length_eq_one_iff.1 h1
    have e2 : hd S g = a := by unfold hd; rw [e]; rfl
    rw [e2, e]
    simp only [List.length_singleton, decide_true, Bool.true_and, List.headD_cons]
    rw [Bool.not_eq_false', List.contains_iff_mem]
    constructor
    · intro hc
      obtain ⟨x, hx, e3⟩ := List.mem_map.1 hc
      have : x = a := by have : (x : Int) = (a : Int) := e3; omega
      subst this
      exact ⟨x, hx, .refl⟩
    · rintro ⟨x, hx, hr⟩
      have hxa : x ∈ nx S g := (scc_all (h.scc _ (nx_mem hg)) (u := a) (by rw [e]; simp)).2 ⟨.one hx, hr⟩
      rw [e] at hxa
      have := List.mem_singleton.1 hxa
      subst this
      exact List.mem_map.2 ⟨x, hx, rfl⟩
  · simp only [h1, decide_false, Bool.false_and, true_iff]
    cases e : nx S g with
    | nil => rw [e] at hm; cases hm
    | cons a t =>
      cases t with
      | nil => rw [e] at h1; exact absurd rfl h1
      | cons b t =>
        have e2 : hd S g = a := by unfold hd; rw [e]; rfl
        rw [e2]
        have hu := h.up _ (nx_mem hg)
        rw [e] at hu
        have hab : a < b := (List.pairwise_cons.1 hu).1 b (by simp)
        have hs := (scc_all (h.scc _ (nx_mem hg)) (u := a) (v := b) (by rw [e]; simp)).1 (by rw [e]; simp)
        obtain ⟨x, hx, hr⟩ := r1_of hs.1 (by omega)
        exact ⟨x, hx, hr.trans hs.2⟩
end Go.Proofs.Ytfgpaffcfkbjlaa
