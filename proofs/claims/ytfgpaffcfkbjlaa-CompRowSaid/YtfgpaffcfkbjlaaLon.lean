/-
What is proved here: needs one behind the other and needs that go round, in memory; what Components and Round tell of them.
-/
import Derived.Test.YtfgpaffcfkbjlaaLiv
set_option linter.unusedSimpArgs false
set_option linter.unusedVariables false
namespace Go.Proofs.Ytfgpaffcfkbjlaa
open Go.Cmp Go.RowKit
def pre (N i : Nat) : Gr := (List.range N).map fun j => if j < i ∧ j + 1 < N then [j + 1] else []
theorem pre_len (N i : Nat) : (pre N i).length = N := by simp [pre]
theorem pre_0 (N : Nat) : pre N 0 = List.replicate N [] := by
  unfold pre
  refine List.ext_getElem (by simp) (fun j h1 h2 => ?_)
  simp
theorem pre_step {N i : Nat} (h : i + 1 < N) : (pre N i).set i [i + 1] = pre N (i + 1) := by
  unfold pre
  refine List.ext_getElem (by simp) (fun j h1 h2 => ?_)
  rw [List.getElem_set]
  simp only [List.getElem_map, List.getElem_range]
  by_cases e : i = j
  · subst e; rw [if_pos rfl, if_pos ⟨by omega, h⟩]
  · rw [if_neg e]
    by_cases h3 : j < i ∧ j + 1 < N
    · rw [if_pos h3, if_pos ⟨by omega, h3.2⟩]
    · rw [if_neg h3, if_neg (by omega)]
theorem pre_end {N i : Nat} (h : N ≤ i + 1) : pre N i = chain N := by
  unfold pre chain
  refine List.ext_getElem (by simp) (fun j h1 h2 => ?_)
  simp only [List.getElem_map, List.getElem_range]
  by_cases h3 : j + 1 < N
  · rw [if_pos ⟨by omega, h3⟩, if_pos h3]
  · rw [if_neg (by omega), if_neg h3]
theorem ring_set {N : Nat} (h : 0 < N) : (chain N).set (N - 1) [0] = ring N := by
  unfold chain ring
  refine List.ext_getElem (by simp) (fun j h1 h2 => ?_)
  rw [List.getElem_set]
  simp only [List.getElem_map, List.getElem_range]
  have hj : j < N := by simpa using h2
  by_cases e : N - 1 = j
  · rw [if_pos e, if_neg (by omega)]
  · rw [if_neg e, if_pos (by omega), if_pos (by omega)]
/-- needs that are being written -/
structure LM (W : World) (G : Gr) (vs : List Value) (wr : World) : Prop where
  row : Lies wr W.heap.size 33 vs.toArray
  sep : Sep wr (W.heap.size + 1) vs (zg G)
  low : Below W.heap.size W wr
theorem lm_0 (W : World) (N : Nat) : LM W (pre N 0) (List.replicate N nilV) (W.alloc (.cells (Array.replicate N (.slice none 0 0)) 33)) := by
  refine ⟨by have := lies_new W 33 (Array.replicate N (.slice none 0 0)); rw [← List.toArray_replicate] at this ⊢; exact this, ?_, below_alloc _ _⟩
  rw [pre_0]
  have := sep_made (W.alloc (.cells (Array.replicate N (.slice none 0 0)) 33)) (W.heap.size + 1) N
  simpa [zg, zs] using this
theorem lm_set {W wr : World} {G : Gr} {vs : List Value} (h : LM W G vs wr) {i z : Nat} (hi : i < G.length) :
    LM W (G.set i [z]) (vs.set i (.slice (some ⟨wr.heap.size, 0, none⟩) 1 1)) ((wr.alloc (.cells #[.int .i64 (z : Int)] 3)).setCell ⟨W.heap.size, i, none⟩ (.slice (some ⟨wr.heap.size, 0, none⟩) 1 1)) := by
  have hiz : i < (zg G).length := by simpa using hi
  have hs := lies_lt h.row
  have hb : But (fun k => some k = (vs.getD i undef).ownBlock) wr (wr.alloc (.cells #[.int .i64 (z : Int)] 3)) := (But.refl _ _).alloc _
  have h1 := h.sep.turn hiz hb (one_own wr (W.heap.size + 1) (z : Int) (by omega)) (.inr (fun k hk => by injection hk with hk; have hk' : wr.heap.size = k := hk; omega))
  have hw : But (· = W.heap.size) (wr.alloc (.cells #[.int .i64 (z : Int)] 3)) ((wr.alloc (.cells #[.int .i64 (z : Int)] 3)).setCell ⟨W.heap.size, i, none⟩ (.slice (some ⟨wr.heap.size, 0, none⟩) 1 1)) := (But.refl (· = W.heap.size) _).setCell (p := ⟨W.heap.size, i, none⟩) (fun _ => rfl) _
  refine ⟨?_, ?_, (h.low.alloc (by omega) _).setCell (p := ⟨W.heap.size, i, none⟩) (Nat.le_refl _) _⟩
  · have := lies_set (lies_alloc h.row (.cells #[.int .i64 (z : Int)] 3)) i (.slice (some ⟨wr.heap.size, 0, none⟩) 1 1)
    rwa [List.setIfInBounds_toArray] at this
  · have e : zg (G.set i [z]) = (zg G).set i [(z : Int)] := by rw [zg_set]; simp [zs]
    rw [e]
    exact h1.but hw (fun u k hu hk x => by have := (own_heap (h1.own u hu) k hk).1; omega)
theorem lm_ls {W wr : World} {G : Gr} {vs : List Value} (h : LM W G vs wr) : LsAt wr (some ⟨W.heap.size, 0, none⟩) (zg G) :=
  sep_ls h.sep (lies_lt h.row) (fun j u hu => by rw [Nat.zero_add, lies_cell h.row, List.getElem?_toArray]; exact hu)
theorem getD_r (es : List Ent) (k : Nat) : (es.getD k dE).r = nx (es.map Ent.r) k := by
  unfold nx
  rw [List.getD_eq_getElem?_getD, List.getD_eq_getElem?_getD, List.getElem?_map]
  cases es[k]? <;> rfl
theorem grps_firstR {w : World} {B : Nat} {A : Option Addr} {C : Nat} {es : List Ent} (h : Grps w B (.slice A es.length C) es) {k : Nat} (hk : k < es.length) {x : Nat} {t : List Nat} (hx : es[k].r = x :: t) : ∃ g b o c, A = some ⟨g, 0, none⟩ ∧ w.cell? ⟨g, k, none⟩ = some (.slice (some ⟨b, o, none⟩) (t.length + 1) c) ∧ w.cell? ⟨b, o, none⟩ = some (.int .i64 (x : Int)) := by
  obtain ⟨g, e, hc, hi⟩ := grps_first h hk
  rw [hx] at hi
  obtain ⟨b, o, eA, _, cc⟩ := hi 0 (by simp [zs])
  rw [hx, eA] at hc
  exact ⟨g, b, o, _, e, hc, cc⟩
/-- what is told of needs one behind the other -/
theorem chain_out {N : Nat} (hN : 1 < N) {w w' : World} {e : Ending} (h : CpsE (chain N) w e w') : ∃ g C b o C0 b2 o2 C2, e = .returned (.tuple #[.slice (some ⟨g, 0, none⟩) N C, .int .i64 0]) ∧ w'.cell? ⟨g, 0, none⟩ = some (.slice (some ⟨b, o, none⟩) 1 C0) ∧ w'.cell? ⟨b, o, none⟩ = some (.int .i64 ((N - 1 : Nat) : Int)) ∧
    w'.cell? ⟨g, N - 1, none⟩ = some (.slice (some ⟨b2, o2, none⟩) 1 C2) ∧ w'.cell? ⟨b2, o2, none⟩ = some (.int .i64 0) ∧ Below w.heap.size w w' := by
  obtain ⟨A, C, es, T, out, rfl, hC, hG, hB⟩ := h
  obtain ⟨hS, ⟨t, ht⟩, ⟨p, hp⟩⟩ := chain_turn hC (by omega)
  have hlen := cmps_len hC
  rw [hS] at hlen
  simp only [List.length_map, List.length_range] at hlen
  have hl2 : (out.map fun k => es.getD k dE).length = N := by simp [hlen]
  have e0 : ((out.map fun k => es.getD k dE)[0]'(by omega)).r = [N - 1] := by
    rw [List.getElem_map, getD_r, hS, nx_single]
    have : out[0]'(by omega) = N - 1 := by simp [ht]
    rw [this, if_pos (by omega)]
  have e1 : ((out.map fun k => es.getD k dE)[N - 1]'(by omega)).r = [0] := by
    rw [List.getElem_map, getD_r, hS, nx_single]
    have hpl : p.length = N - 1 := by rw [hp] at hlen; simp at hlen; omega
    have : out[N - 1]'(by omega) = 0 := by
      have : out[N - 1]? = some 0 := by rw [hp, List.getElem?_append_right (by omega), hpl, Nat.sub_self]; rfl
      rw [List.getElem?_eq_getElem (by omega)] at this
      injection this
    rw [this, if_pos (by omega)]
  obtain ⟨g, b, o, c, rfl, c1, c2⟩ := grps_firstR hG (k := 0) (by omega) e0
  obtain ⟨g', b2, o2, c3, eg, c4, c5⟩ := grps_firstR hG (k := N - 1) (by omega) e1
  injection eg with eg
  injection eg with eg
  subst eg
  rw [hlen]
  exact ⟨g, C, b, o, _, b2, o2, _, rfl, c1, c2, c4, c5, hB⟩
theorem chain_rnd {N : Nat} {w w' : World} {e : Ending} (h : RndE (chain N) w e w') : ∃ A C, e = .returned (.tuple #[.slice A 0 C, .int .i64 0]) ∧ Below w.heap.size w w' := by
  obtain ⟨A, C, es, rfl, hS, hG, hB⟩ := h
  have hS2 := groups_eq hS (chain_groups N)
  have hf : (es.filter fun e => !stillP (chain N) e.r) = [] := by
    rw [List.filter_eq_nil_iff]
    intro e he
    have : e.r ∈ (List.range N).map (fun i => [i]) := by rw [← hS2]; exact List.mem_map.2 ⟨e, he, rfl⟩
    obtain ⟨i, hi, hi2⟩ := List.mem_map.1 this
    rw [← hi2]
    have : ¬ (i : Int) ∈ zs (nx (chain N) i) := fun hm => by
      obtain ⟨v, hv, hv2⟩ := List.mem_map.1 hm
      rw [nx_chain] at hv
      split at hv
      · have := List.mem_singleton.1 hv; omega
      · cases hv
    simp [stillP, this]
  rw [hf]
  exact ⟨A, C, rfl, hB⟩
/-- what is told of needs that go round -/
theorem ring_out {N : Nat} (hN : 1 < N) {w w' : World} {e : Ending} (h : CpsE (ring N) w e w') : ∃ g C b o C0, e = .returned (.tuple #[.slice (some ⟨g, 0, none⟩) 1 C, .int .i64 0]) ∧ w'.cell? ⟨g, 0, none⟩ = some (.slice (some ⟨b, o, none⟩) N C0) ∧ Below w.heap.size w w' := by
  obtain ⟨A, C, es, T, out, rfl, hC, hG, hB⟩ := h
  have hS := groups_eq hC.grp (ring_groups (by omega))
  have hlen := cmps_len hC
  rw [hS] at hlen
  have hlen : out.length = 1 := hlen
  have hl2 : (out.map fun k => es.getD k dE).length = 1 := by simp [hlen]
  have e0 : ((out.map fun k => es.getD k dE)[0]'(by omega)).r = 0 :: (List.range (N - 1)).map (· + 1) := by
    rw [List.getElem_map, getD_r, hS]
    have h0 := cmps_lt hC (out[0]'(by omega)) (List.getElem_mem _)
    rw [hS] at h0
    have h0 : out[0]'(by omega) = 0 := by simpa using h0
    rw [h0]
    show List.range N = _
    obtain ⟨m, rfl⟩ : ∃ m, N = m + 1 := ⟨N - 1, by omega⟩
    rw [List.range_succ_eq_map]
    rfl
  obtain ⟨g, b, o, c, rfl, c1, c2⟩ := grps_firstR hG (k := 0) (by omega) e0
  rw [hlen]
  refine ⟨g, C, b, o, c, rfl, ?_, hB⟩
  rw [c1]
  simp
  omega
theorem ring_rnd {N : Nat} (hN : 1 < N) {w w' : World} {e : Ending} (h : RndE (ring N) w e w') : ∃ g C b o C0, e = .returned (.tuple #[.slice (some ⟨g, 0, none⟩) 1 C, .int .i64 0]) ∧ w'.cell? ⟨g, 0, none⟩ = some (.slice (some ⟨b, o, none⟩) N C0) ∧ Below w.heap.size w w' := by
  obtain ⟨A, C, es, rfl, hS, hG, hB⟩ := h
  have hS2 := groups_eq hS (ring_groups (by omega))
  obtain ⟨e0, rfl⟩ : ∃ e0, es = [e0] := by
    have hl : es.length = 1 := by have := congrArg List.length hS2; simpa using this
    clear hS2 hS hG
    match es, hl with
    | [a], _ => exact ⟨a, rfl⟩
  have hr : e0.r = List.range N := by simpa using hS2
  have hf : ([e0].filter fun e => !stillP (ring N) e.r) = [e0] := by
    rw [List.filter_eq_self]
    intro e he
    obtain rfl := List.mem_singleton.1 he
    rw [hr]
    have : ¬ (List.range N).length = 1 := by simp; omega
    simp [stillP]
    omega
  rw [hf] at hG ⊢
  have e1 : ([e0][0]'(by simp)).r = 0 :: (List.range (N - 1)).map (· + 1) := by
    show e0.r = _
    rw [hr]
    obtain ⟨m, rfl⟩ : ∃ m, N = m + 1 := ⟨N - 1, by omega⟩
    rw [List.range_succ_eq_map]
    rfl
  obtain ⟨g, b, o, c, rfl, c1, c2⟩ := grps_firstR hG (k := 0) (by simp) e1
  refine ⟨g, C, b, o, c, rfl, ?_, hB⟩
  rw [c1]
  simp
  omega
end Go.Proofs.Ytfgpaffcfkbjlaa
