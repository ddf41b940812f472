/-
What is proved here: several rows of numbers of one's own, each in a block of its own, and one number more behind one of them.
-/
import Derived.Test.YtnbjfmkckebfgaaGreatBas
import Derived.Deep.AppendLies
set_option linter.unusedSimpArgs false
set_option linter.unusedVariables false
namespace Go.Proofs.YtnbjfmkckebfgaaGreat
open Go.Cmp Go.RowKit
theorem getD_setV {α : Type} (l : List α) (v k : Nat) (x d : α) : (l.set v x).getD k d = if v = k ∧ k < l.length then x else l.getD k d := by
  rw [List.getD_eq_getElem?_getD, List.getElem?_set]
  by_cases e : v = k
  · subst e
    by_cases h : v < l.length
    · simp [h]
    · simp [h, List.getD_eq_getElem?_getD]
  · rw [if_neg e, if_neg (fun h => e h.1), ← List.getD_eq_getElem?_getD]
theorem getD_app {α : Type} (l : List α) (k : Nat) (x d : α) : (l ++ [x]).getD k d = if k < l.length then l.getD k d else if k = l.length then x else d := by
  rw [List.getD_eq_getElem?_getD]
  by_cases h : k < l.length
  · rw [List.getElem?_append_left h, if_pos h, ← List.getD_eq_getElem?_getD]
  · rw [if_neg h, List.getElem?_append_right (by omega)]
    by_cases e : k = l.length
    · subst e; simp
    · rw [if_neg e, List.getElem?_eq_none (by simp; omega)]; rfl
/-- rows of numbers of one's own, each in a block of its own -/
structure Sep (w : World) (B : Nat) (vs : List Value) (T : List (List Int)) : Prop where
  len : vs.length = T.length
  own : ∀ v, v < T.length → OwnI w B (vs.getD v undef) (T.getD v [])
  sep : ∀ v v' k, v < T.length → v' < T.length → v ≠ v' → (vs.getD v undef).ownBlock = some k → (vs.getD v' undef).ownBlock ≠ some k
section
variable {w w' : World} {B : Nat} {vs : List Value} {T : List (List Int)}
theorem Sep.but {P : Nat → Prop} (h : Sep w B vs T) (hb : But P w w') (hn : ∀ v k, v < T.length → (vs.getD v undef).ownBlock = some k → ¬ P k) : Sep w' B vs T :=
  ⟨h.len, fun v hv => own_but (h.own v hv) hb (fun k hk => hn v k hv hk), h.sep⟩
theorem Sep.below (h : Sep w B vs T) (hb : Below w.heap.size w w') : Sep w' B vs T :=
  h.but (But.of_below (P := fun _ => False) hb) (fun _ _ _ _ x => x)
theorem Sep.nil (w : World) (B : Nat) : Sep w B [] [] := ⟨rfl, fun v hv => absurd hv (Nat.not_lt_zero v), fun v _ _ hv _ _ _ => absurd hv (Nat.not_lt_zero v)⟩
theorem Sep.snoc (h : Sep w B vs T) {x : Value} {l : List Int} (hx : OwnI w B x l) (hn : ∀ v k, v < T.length → (vs.getD v undef).ownBlock = some k → x.ownBlock ≠ some k) : Sep w B (vs ++ [x]) (T ++ [l]) := by
  have hl := h.len
  refine ⟨by simp [hl], fun v hv => ?_, fun v v' k hv hv' hne hk => ?_⟩
  · rw [getD_app, getD_app, hl]
    simp at hv
    by_cases h1 : v < T.length
    · rw [if_pos h1, if_pos h1]; exact h.own v h1
    · rw [if_neg h1, if_neg h1, if_pos (by omega), if_pos (by omega)]; exact hx
  · rw [getD_app, hl] at hk ⊢
    simp at hv hv'
    by_cases h1 : v < T.length
    · rw [if_pos h1] at hk
      by_cases h2 : v' < T.length
      · rw [if_pos h2]; exact h.sep v v' k h1 h2 hne hk
      · rw [if_neg h2, if_pos (by omega)]; exact hn v k h1 hk
    · rw [if_neg h1, if_pos (by omega)] at hk
      rw [if_pos (by omega)]
      intro e
      exact hn v' k (by omega) e hk
theorem Sep.turn (h : Sep w B vs T) {v : Nat} (hv : v < T.length) {x : Value} {l : List Int} (hb : But (fun k => some k = (vs.getD v undef).ownBlock) w w') (hx : OwnI w' B x l)
    (hw : x.ownBlock = (vs.getD v undef).ownBlock ∨ ∀ k, x.ownBlock = some k → w.heap.size ≤ k) : Sep w' B (vs.set v x) (T.set v l) := by
  have hl := h.len
  refine ⟨by simp [hl], fun u hu => ?_, fun u u' k hu hu' hne hk => ?_⟩
  · rw [getD_setV, getD_setV, hl]
    simp at hu
    by_cases e : v = u
    · subst e; rw [if_pos ⟨rfl, hu⟩, if_pos ⟨rfl, hu⟩]; exact hx
    · rw [if_neg (fun x => e x.1), if_neg (fun x => e x.1)]
      exact own_but (h.own u hu) hb (fun k hk x => h.sep v u k hv hu e x.symm hk)
  · rw [getD_setV, hl] at hk ⊢
    simp at hu hu'
    by_cases e : v = u
    · subst e
      rw [if_pos ⟨rfl, hu⟩] at hk
      rw [if_neg (fun x => hne x.1)]
      rcases hw with hw | hw
      · exact h.sep v u' k hv hu' hne (hw ▸ hk)
      · intro e2
        have := (own_heap (h.own u' hu') k e2).2.1
        have := hw k hk
        omega
    · rw [if_neg (fun x => e x.1)] at hk
      by_cases e2 : v = u'
      · subst e2
        rw [if_pos ⟨rfl, hu'⟩]
        rcases hw with hw | hw
        · rw [hw]; exact h.sep u v k hu hv hne hk
        · intro e3
          have := (own_heap (h.own u hu) k hk).2.1
          have := hw k e3
          omega
      · rw [if_neg (fun x => e2 x.1)]; exact h.sep u u' k hu hu' hne hk
end
theorem ownI_cap {w : World} {B : Nat} {v : Value} {l : List Int} (h : OwnI w B v l) : ∃ A c, v = .slice A l.length c ∧ l.length ≤ c ∧ IntsAt w A l := by
  obtain ⟨A, c, rfl⟩ := own_slice h
  refine ⟨A, c, rfl, ?_, (ownI_ints h).2⟩
  rcases h.2 with ⟨e, e0⟩ | ⟨g, cap, cur, e, hg, hb, hc, _⟩
  · omega
  · injection e with a b d
    subst d; exact hc
theorem sep_ls {w : World} {B : Nat} {vs : List Value} {T : List (List Int)} {R off : Nat} (h : Sep w B vs T) (hR : R < w.heap.size) (hc : ∀ j u, vs[j]? = some u → w.cell? ⟨R, off + j, none⟩ = some u) : LsAt w (some ⟨R, off, none⟩) T := fun i hi => by
  have hv : i < vs.length := by rw [h.len]; exact hi
  have ho := h.own i hi
  rw [List.getD_eq_getElem?_getD, List.getElem?_eq_getElem hv, List.getD_eq_getElem?_getD, List.getElem?_eq_getElem hi] at ho
  obtain ⟨A, c, e, h1, h2⟩ := ownI_cap ho
  refine ⟨R, off, A, c, rfl, hR, ?_, h1, h2⟩
  rw [hc i _ (List.getElem?_eq_getElem hv)]
  exact congrArg some e
set_option maxRecDepth 100000 in
/-- one number more behind a row of one's own, and where the row then lies -/
theorem wpList_app_at {w : World} {ops : Array Oper} {rest : List Oper} {o : Oper} {a : Act} {Q : Exit → Act → World → Prop} (hgd : o.guard = none) (s x : Operand)
    (ho : o.op = .call { callee := .builtin .append, args := #[s, x], argTypes := #[27, 27] }) (B g : Nat) (z : Int) (v : Value) (l : List Int) (hs : a.eval s = v) (hown : OwnI w B v l) (hx : a.eval x = .slice (some ⟨g, 0, none⟩) 1 1) (hg : Lies w g 3 #[iV z])
    (hb : l.length ≤ 100000000) (hbase : B ≤ w.heap.size)
    (h : ∀ G cap w', OwnI w' B (.slice (some ⟨G, 0, none⟩) (l.length + 1) cap) (l ++ [z]) → w.grownBy w' v.ownBlock → (v.ownBlock = some G ∨ G = w.heap.size) → wpList Tryz.prog ops Q rest (a.put o.dst (.slice (some ⟨G, 0, none⟩) (l.length + 1) cap)) w') : wpList Tryz.prog ops Q (o :: rest) a w := by
  obtain ⟨i0, hi, hz0, hz1, hz2⟩ := info_parts int_info
  refine wpList_append_lies w hgd s x 27 ho B 3 i0 (.int .i64 0) 1 8 Tryz.underlying27 hi hz0 hz1 hz2 rfl (by decide) v l.length (l.map iV) hs hown ⟨g, 0, none⟩ 1 1 [iV z] hx (by simp) (fun j u hj => by
    match j, hj with
    | 0, hj => injection hj with hj; subst hj; exact lies_cell hg 0
    | j + 1, hj => simp at hj) (fun u hu => by simp at hu; subst hu; rfl) (by decide) (by unfold maxLen; omega) (by omega) hbase w.heap.size rfl (fun G cap w' h1 h2 h3 _ => h G cap w' ?_ h2 h3)
  unfold OwnI
  rw [List.length_append, List.map_append]
  exact h1
end Go.Proofs.YtnbjfmkckebfgaaGreat
