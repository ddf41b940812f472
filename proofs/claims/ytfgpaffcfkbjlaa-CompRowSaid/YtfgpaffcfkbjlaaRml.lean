/-
What is proved here: one number put behind a list among lists of one's own, in memory.
-/
import Derived.Test.YtfgpaffcfkbjlaaRmm
import Derived.Laws.OwnMore
set_option linter.unusedSimpArgs false
set_option linter.unusedVariables false
namespace Go.Proofs.Ytfgpaffcfkbjlaa
open Go.Cmp Go.RowKit
theorem rm_row {W0 W : World} {A : Option Addr} {n C : Nat} {es : List Ent} {V5 : Value} {F : List Nat} (h : RM W0 (.slice A n C) es V5 F W) {f : Nat} (hf : f < es.length) : ∃ g, A = some ⟨g, 0, none⟩ ∧ n = es.length ∧ W.cell? ⟨g, f, none⟩ = some es[f].rv ∧ W.frozen? ⟨g, f, none⟩ = false := by
  have hr := h.grp.row
  obtain ⟨g, cap, hv, hB, hlt⟩ := World.ownsRow.form hr (by omega)
  injection hv with e1 e2 e3
  subst e1 e2 e3
  refine ⟨g, rfl, rfl, ?_, hr.frozenAt f⟩
  rw [hr.cellAt f (by omega), List.getElem?_map, List.getElem?_eq_getElem hf]
  rfl
theorem own5_at {W : World} {B : Nat} {A : Option Addr} {n C : Nat} {F : List Nat} (h : OwnI W B (.slice A n C) (zs F)) {j : Nat} (hj : j < F.length) : ∃ g, A = some ⟨g, 0, none⟩ ∧ W.cell? ⟨g, j, none⟩ = some (.int .i64 (F[j] : Int)) := by
  obtain ⟨e, hi⟩ := ownI_ints h
  obtain ⟨g, cap, hv, _, _⟩ := World.ownsRow.form h (by simp [zs]; omega)
  injection hv with e1 _ _
  subst e1
  obtain ⟨b, o, eA, _, hc⟩ := hi j (by simp [zs]; exact hj)
  injection eA with eA
  injection eA with e2 e3
  subst e2 e3
  rw [Nat.zero_add] at hc
  exact ⟨g, rfl, by rw [hc]; simp [zs, iV]⟩
structure LnkE (W0 : World) (g n C4 : Nat) (es : List Ent) (V5 : Value) (F : List Nat) (f x GB C : Nat) (r : List Nat) (W1 : World) : Prop where
  five : OwnI W1 W0.heap.size V5 (zs F)
  cell : ∀ v, (es.map Ent.rv)[f]? = some v → W1.cell? ⟨g, f, none⟩ = some v
  free : W1.frozen? ⟨g, f, none⟩ = false
  rm : RM W0 (.slice (some ⟨g, 0, none⟩) n C4) (es.set f ⟨0, some ⟨GB, 0, none⟩, r ++ [x], C⟩) V5 F (W1.setCell ⟨g, f, none⟩ (.slice (some ⟨GB, 0, none⟩) (r.length + 1) C))
theorem rm_link {W0 W W1 : World} {g n C4 : Nat} {es : List Ent} {V5 : Value} {F : List Nat} (h : RM W0 (.slice (some ⟨g, 0, none⟩) n C4) es V5 F W) {f x GB C : Nat} (hf : f < es.length) {o : Obj} (hg : (W.alloc o).grownBy W1 es[f].rv.ownBlock)
    (ho : OwnI W1 W0.heap.size (.slice (some ⟨GB, 0, none⟩) (es[f].r.length + 1) C) (zs es[f].r ++ [(x : Int)])) (hat : es[f].rv.ownBlock = some GB ∨ W.heap.size < GB) : LnkE W0 g n C4 es V5 F f x GB C es[f].r W1 := by
  have hof := h.grp.own _ (List.getElem_mem hf)
  have hb : But (fun k => some k = es[f].rv.ownBlock) W W1 := ((But.refl _ W).alloc o).trans (But.grown hg)
  have hrow := own_but h.grp.row hb (fun k hk e => ne_row h.grp.row hof (by decide) k hk e.symm)
  have h5 := own_but h.own5 hb (fun k hk e => h.sep _ (List.getElem_mem hf) k e.symm hk)
  obtain ⟨g', cap, hv, hBg, _⟩ := World.ownsRow.form h.grp.row (by omega)
  injection hv with e1 e2 e3
  injection e1 with e1
  injection e1 with e1
  subst e1 e2 e3
  have hw : But (· = g) W1 (W1.setCell ⟨g, f, none⟩ (.slice (some ⟨GB, 0, none⟩) (es[f].r.length + 1) C)) := (But.refl (· = g) W1).setCell (p := ⟨g, f, none⟩) (fun _ => rfl) _
  have hgb : (Value.slice (some ⟨g, 0, none⟩) es.length C4).ownBlock = some g := rfl
  have hcell : ∀ v, (es.map Ent.rv)[f]? = some v → W1.cell? ⟨g, f, none⟩ = some v := fun v hv => by rw [hrow.cellAt f (by omega)]; exact hv
  have hi : ∀ i (hi : i < es.length), i ≠ f → OwnI W1 W0.heap.size es[i].rv (zs es[i].r) := fun i hi hne => by
    refine own_but (h.grp.own _ (List.getElem_mem hi)) hb (fun k hk e => ?_)
    have hp := List.pairwise_iff_getElem.1 h.grp.sep
    rcases Nat.lt_or_gt_of_ne hne with h3 | h3
    · exact hp i f hi hf h3 k hk e.symm
    · exact hp f i hf hi h3 k e.symm hk
  have hall : ∀ i (hi' : i < (es.set f ⟨0, some ⟨GB, 0, none⟩, es[f].r ++ [x], C⟩).length), OwnI W1 W0.heap.size ((es.set f ⟨0, some ⟨GB, 0, none⟩, es[f].r ++ [x], C⟩)[i]).rv (zs ((es.set f ⟨0, some ⟨GB, 0, none⟩, es[f].r ++ [x], C⟩)[i]).r) := fun i hi' => by
    rw [List.getElem_set]
    by_cases e : f = i
    · rw [if_pos e]
      have ez : zs (es[f].r ++ [x]) = zs es[f].r ++ [(x : Int)] := by simp [zs]
      show OwnI W1 W0.heap.size (.slice (some ⟨GB, 0, none⟩) (es[f].r ++ [x]).length C) (zs (es[f].r ++ [x]))
      rw [ez, List.length_append]
      exact ho
    · rw [if_neg e]
      exact hi i (by simpa using hi') (fun x => e x.symm)
  refine ⟨h5, hcell, hrow.frozenAt f, ⟨?_, fun e he => ?_, ?_⟩, own_but h5 hw (fun k hk e => by subst e; exact ne_row hrow h5 (by decide) _ rfl hk), fun e he k hk e2 => ?_, (h.low.trans (hb.below h.low.size (fun k hk => (own_heap hof k hk.symm).1))).setCell (p := ⟨g, f, none⟩) hBg _⟩
  · have := hrow.stored f (.slice (some ⟨GB, 0, none⟩) (es[f].r.length + 1) C)
    rw [List.length_set, List.map_set]
    have e4 : Ent.rv ⟨0, some ⟨GB, 0, none⟩, es[f].r ++ [x], C⟩ = .slice (some ⟨GB, 0, none⟩) (es[f].r.length + 1) C := by simp [Ent.rv]
    rw [e4]
    exact this.1
  · obtain ⟨i, hi', rfl⟩ := List.getElem_of_mem he
    exact own_but (hall i hi') hw (fun k hk e => by subst e; exact ne_row hrow (hall i hi') (by decide) _ rfl hk)
  · refine List.pairwise_iff_getElem.2 fun i j hi' hj' hij k hk hk2 => ?_
    have hp := List.pairwise_iff_getElem.1 h.grp.sep
    simp only [List.length_set] at hi' hj'
    have hnew : ∀ (i : Nat) (hi' : i < es.length), i ≠ f → ∀ k, es[i].rv.ownBlock = some k → GB ≠ k := fun i hi' hne k hk e => by
      subst e
      rcases hat with h1 | h1
      · rcases Nat.lt_or_gt_of_ne hne with h3 | h3
        · exact hp i f hi' hf h3 _ hk h1
        · exact hp f i hf hi' h3 _ h1 hk
      · have := (own_heap (h.grp.own _ (List.getElem_mem hi')) _ hk).2.1; omega
    rw [List.getElem_set] at hk hk2
    by_cases ei : f = i
    · subst ei
      rw [if_pos rfl] at hk
      rw [if_neg (by omega)] at hk2
      have e : GB = k := by simpa [Ent.rv, Value.ownBlock] using hk
      exact hnew j hj' (by omega) k hk2 e
    · rw [if_neg ei] at hk
      by_cases ej : f = j
      · subst ej
        rw [if_pos rfl] at hk2
        have e : GB = k := by simpa [Ent.rv, Value.ownBlock] using hk2
        exact hnew i hi' (by omega) k hk e
      · rw [if_neg ej] at hk2
        exact hp i j hi' hj' hij k hk hk2
  · obtain ⟨i, hi', rfl⟩ := List.getElem_of_mem he
    rw [List.getElem_set] at hk
    by_cases ei : f = i
    · rw [if_pos ei] at hk
      have e : GB = k := by simpa [Ent.rv, Value.ownBlock] using hk
      subst e
      rcases hat with h1 | h1
      · exact h.sep _ (List.getElem_mem hf) _ h1 e2
      · have := (own_heap h.own5 _ e2).2.1; omega
    · rw [if_neg ei] at hk
      exact h.sep _ (List.getElem_mem (by simpa using hi')) k hk e2
end Go.Proofs.Ytfgpaffcfkbjlaa
