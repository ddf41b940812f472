/-
What is proved here: rows of the call's own of which single cells are written over: what they hold is not asked.
-/
import Derived.Test.YtjagddhkoacipaaMa12
import Derived.Deep.MidRow
set_option linter.unusedSimpArgs false
set_option linter.unusedVariables false
namespace Go.Proofs.Ytjagddhkoacipaa
open Go.Pth Go.Tre Go.RowKit Go.Word Go.Shelf
/-- a row of the call's own, whatever it holds -/
def Rowed (w : World) (B : Nat) (e : TypeId) (size : Nat) (v : Value) (n : Nat) : Prop := ∃ xs, w.ownsRow B e size v n xs
theorem rowed_cell {w : World} {B e size n C g : Nat} (h : Rowed w B e size (.slice (some ⟨g, 0, none⟩) n C) n) (j : Nat) (hj : j < n * size) : (∃ u, w.cell? ⟨g, j, none⟩ = some u) ∧ w.frozen? ⟨g, j, none⟩ = false := by
  obtain ⟨xs, h⟩ := h
  have hl : j < xs.length := by rw [h.1]; exact hj
  exact ⟨⟨xs[j], by rw [h.cellAt j hj, List.getElem?_eq_getElem hl]⟩, h.frozenAt j⟩
theorem rowed_set {w : World} {B e size n C g : Nat} (h : Rowed w B e size (.slice (some ⟨g, 0, none⟩) n C) n) (j : Nat) (u : Value) : Rowed (w.setCell ⟨g, j, none⟩ u) B e size (.slice (some ⟨g, 0, none⟩) n C) n := by
  obtain ⟨xs, h⟩ := h
  exact ⟨_, (h.stored j u).1⟩
theorem rowed_kept {w w' : World} {B e size n : Nat} {v : Value} {row : Option Nat} (h : Rowed w B e size v n) (hg : w.grownBy w' row) (hr : ∀ r, row = some r → ∃ cs t, w.heap[r]? = some (.cells cs t (0, 0)) ∧ t ≠ e) : Rowed w' B e size v n := by
  obtain ⟨xs, h⟩ := h
  exact ⟨xs, h.kept hg (own_other h hr)⟩
theorem rowed_there {w : World} {B e size n C g : Nat} (h : Rowed w B e size (.slice (some ⟨g, 0, none⟩) n C) n) (o k : Nat) (hk : o + k ≤ n * size) : w.there g o k := fun j hj => by
  obtain ⟨⟨u, h1⟩, h2⟩ := rowed_cell h (o + j) (by omega)
  exact ⟨by rw [h1]; rfl, h2⟩
/-- a tree of the call's own, whatever it holds -/
structure SpAt (w : World) (B : Nat) (vN vF : Value) (D : Nat → Value) (n m : Nat) (len : Nat → Nat) : Prop where
  nodes : Rowed w B 54 3 vN n
  files : ∃ gs : List Fl, gs.length = m ∧ w.ownsRow B 57 2 vF m (fcells D gs)
  data : ∀ i, i < m → ∃ l : Bt, l.length = len i ∧ OwnB w B (D i) l
  apart : ∀ i k, i < k → k < m → ∀ b, (D i).ownBlock = some b → (D k).ownBlock ≠ some b
theorem sp_of_copy {w : World} {B : Nat} {vN vF : Value} {D : Nat → Value} {ns : List Nd} {fs : List Fl} (h : CopyAt w B vN vF D ns fs) : SpAt w B vN vF D ns.length fs.length (fun i => (fs.getD i ⟨0, []⟩).data.length) :=
  ⟨⟨_, h.nodes⟩, ⟨fs, rfl, h.files⟩, fun i hi => ⟨_, rfl, h.data i hi⟩, h.apart⟩
section
variable {w w' : World} {B n m : Nat} {vN vF : Value} {D : Nat → Value} {len : Nat → Nat}
theorem sp_below (h : SpAt w B vN vF D n m len) (hb : Below w.heap.size w w') : SpAt w' B vN vF D n m len := by
  obtain ⟨xs, hx⟩ := h.nodes
  obtain ⟨gs, hg, hf⟩ := h.files
  exact ⟨⟨xs, ownsRow_below hx hb⟩, ⟨gs, hg, ownsRow_below hf hb⟩, fun i hi => by obtain ⟨l, hl, ho⟩ := h.data i hi; exact ⟨l, hl, ownsRow_below ho hb⟩, h.apart⟩
theorem sp_node {g C : Nat} (h : SpAt w B (.slice (some ⟨g, 0, none⟩) n C) vF D n m len) (j : Nat) (u : Value) : SpAt (w.setCell ⟨g, j, none⟩ u) B (.slice (some ⟨g, 0, none⟩) n C) vF D n m len := by
  obtain ⟨xs, hx⟩ := h.nodes
  obtain ⟨_, cs, hg⟩ := own_heap hx g rfl
  have ot : ∀ (t : TypeId) (r : Nat), t ≠ 54 → some g = some r → ∃ cs t', w.heap[r]? = some (.cells cs t' (0, 0)) ∧ t' ≠ t := fun t r ht e => by
    injection e with e
    subst e
    exact ⟨cs, 54, hg, fun e => ht e.symm⟩
  obtain ⟨gs, hgs, hf⟩ := h.files
  exact ⟨rowed_set h.nodes j u, ⟨gs, hgs, hf.kept (grown_setCell w g j u) (own_other hf (fun r e => ot 57 r (by decide) e))⟩, fun i hi => by
    obtain ⟨l, hl, ho⟩ := h.data i hi
    exact ⟨l, hl, World.ownsRow.kept ho (grown_setCell w g j u) (own_other ho (fun r e => ot 5 r (by decide) e))⟩, h.apart⟩
theorem sp_mode {g C i : Nat} (h : SpAt w B vN (.slice (some ⟨g, 0, none⟩) m C) D n m len) (hi : i < m) (u : Int) : SpAt (w.setCell ⟨g, i * 2, none⟩ (.int .i64 u)) B vN (.slice (some ⟨g, 0, none⟩) m C) D n m len := by
  obtain ⟨gs, hgs, hf⟩ := h.files
  obtain ⟨_, cs, hg⟩ := own_heap hf g rfl
  have ot : ∀ (t : TypeId) (r : Nat), t ≠ 57 → some g = some r → ∃ cs t', w.heap[r]? = some (.cells cs t' (0, 0)) ∧ t' ≠ t := fun t r ht e => by
    injection e with e
    subst e
    exact ⟨cs, 57, hg, fun e => ht e.symm⟩
  have s1 := (hf.stored (i * 2) (.int .i64 u)).1
  rw [fcells_set D u gs i (by omega)] at s1
  exact ⟨rowed_kept h.nodes (grown_setCell w g (i * 2) _) (fun r e => ot 54 r (by decide) e), ⟨_, by rw [List.length_set]; exact hgs, s1⟩, fun k hk => by
    obtain ⟨l, hl, ho⟩ := h.data k hk
    exact ⟨l, hl, World.ownsRow.kept ho (grown_setCell w g (i * 2) _) (own_other ho (fun r e => ot 5 r (by decide) e))⟩, h.apart⟩
theorem sp_byte {g C i k : Nat} (h : SpAt w B vN vF D n m len) (hi : i < m) (hd : D i = .slice (some ⟨g, 0, none⟩) (len i) C) (c : UInt8) : SpAt (w.setCell ⟨g, k, none⟩ (.int .u8 (c.toNat : Int))) B vN vF D n m len := by
  obtain ⟨l0, hl0, ho0⟩ := h.data i hi
  have hob : (D i).ownBlock = some g := by rw [hd]; rfl
  obtain ⟨_, cs, hg⟩ := own_heap ho0 g hob
  have ot : ∀ (t : TypeId) (r : Nat), t ≠ 5 → some g = some r → ∃ cs t', w.heap[r]? = some (.cells cs t' (0, 0)) ∧ t' ≠ t := fun t r ht e => by
    injection e with e
    subst e
    exact ⟨cs, 5, hg, fun e => ht e.symm⟩
  obtain ⟨gs, hgs, hf⟩ := h.files
  refine ⟨rowed_kept h.nodes (grown_setCell w g k _) (fun r e => ot 54 r (by decide) e), ⟨gs, hgs, hf.kept (grown_setCell w g k _) (own_other hf (fun r e => ot 57 r (by decide) e))⟩, fun q hq => ?_, h.apart⟩
  obtain ⟨l, hl, ho⟩ := h.data q hq
  by_cases e : q = i
  · subst e
    refine ⟨l.set k c, by rw [List.length_set]; exact hl, ?_⟩
    have ho1 : w.ownsRow B 5 1 (D q) l.length (l.map yB) := ho
    rw [hd, hl] at ho1
    have s1 := (ho1.stored k (.int .u8 (c.toNat : Int))).1
    unfold OwnB
    rw [List.length_set, List.map_set, hd, hl]
    exact s1
  · refine ⟨l, hl, World.ownsRow.kept ho (grown_setCell w g k _) ?_⟩
    cases hv : (D q).ownBlock with
    | none => exact .inl rfl
    | some b =>
      refine .inr (fun e2 => ?_)
      injection e2 with e2
      subst e2
      rcases Nat.lt_or_gt_of_ne e with h1 | h1
      · exact h.apart q i h1 hi b hv hob
      · exact h.apart i q h1 hq b hob hv
end
end Go.Proofs.Ytjagddhkoacipaa
