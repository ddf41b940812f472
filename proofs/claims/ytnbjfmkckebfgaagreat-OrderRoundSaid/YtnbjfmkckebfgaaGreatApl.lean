/-
What is proved here: a list put behind a row of one's own; a slice put behind a row of slices of one's own; marks cleared.
-/
import Derived.Test.YtnbjfmkckebfgaaGreatGrp
import Derived.Test.YtnbjfmkckebfgaaGreatApq
import Derived.Lib.SliceRun
set_option linter.unusedSimpArgs false
set_option linter.unusedVariables false
namespace Go.Proofs.YtnbjfmkckebfgaaGreat
open Go.Cmp Go.RowKit
set_option maxRecDepth 100000 in
/-- one slice more behind a row of slices of one's own, and where the row then lies -/
theorem wpList_app_slice {w : World} {ops : Array Oper} {rest : List Oper} {o : Oper} {a : Act} {Q : Exit → Act → World → Prop} (hgd : o.guard = none) (s x : Operand)
    (ho : o.op = .call { callee := .builtin .append, args := #[s, x], argTypes := #[24, 24] }) (B g : Nat) (u v : Value) (n : Nat) (xs : List Value) (hs : a.eval s = v) (hown : w.ownsRow B 27 1 v n xs) (hx : a.eval x = .slice (some ⟨g, 0, none⟩) 1 1) (hg : Lies w g 27 #[u]) (hu : u.oneCell' = true)
    (hb : n ≤ 1000000) (hbase : B ≤ w.heap.size)
    (h : ∀ G cap w', w'.ownsRow B 27 1 (.slice (some ⟨G, 0, none⟩) (n + 1) cap) (n + 1) (xs ++ [u]) → w.grownBy w' v.ownBlock → (v.ownBlock = some G ∨ G = w.heap.size) → wpList Tryz.prog ops Q rest (a.put o.dst (.slice (some ⟨G, 0, none⟩) (n + 1) cap)) w') : wpList Tryz.prog ops Q (o :: rest) a w := by
  obtain ⟨i0, hi, hz0, hz1, hz2⟩ := info_parts list_info
  refine wpList_append_lies w hgd s x 24 ho B 27 i0 (.slice none 0 0) 1 24 Tryz.underlying24 hi hz0 hz1 hz2 rfl (by decide) v n xs hs hown ⟨g, 0, none⟩ 1 1 [u] hx (by simp) (fun j y hj => by
    match j, hj with
    | 0, hj => injection hj with hj; subst hj; exact lies_cell hg 0
    | j + 1, hj => simp at hj) (fun y hy => by simp at hy; subst hy; exact hu) (by decide) (by unfold maxLen; omega) (by omega) hbase w.heap.size rfl (fun G cap w' h1 h2 h3 _ => h G cap w' h1 h2 h3)
theorem lies_setCells (g : Nat) (t : TypeId) : ∀ (vs : List Value) (o : Nat) (w : World) (cs : Array Value), Lies w g t cs → o + vs.length ≤ cs.size →
    ∃ cs', Lies (w.setCells g o vs) g t cs' ∧ cs'.size = cs.size ∧ ∀ j, cs'[j]? = if o ≤ j ∧ j < o + vs.length then vs[j - o]? else cs[j]?
  | [], o, w, cs => fun h _ => ⟨cs, h, rfl, fun j => by rw [if_neg (by simp)]⟩
  | v :: r, o, w, cs => fun h hs => by
    simp only [List.length_cons] at hs
    obtain ⟨cs', h1, h2, h3⟩ := lies_setCells g t r (o + 1) (w.setCell ⟨g, o, none⟩ v) _ (lies_set h o v) (by simp; omega)
    refine ⟨cs', h1, by rw [h2]; simp, fun j => ?_⟩
    rw [h3 j]
    by_cases e : j = o
    · subst e
      rw [if_neg (by omega), if_pos (by simp), Array.getElem?_setIfInBounds, if_pos rfl, if_pos (by omega), Nat.sub_self]
      rfl
    · by_cases e2 : o + 1 ≤ j ∧ j < o + 1 + r.length
      · rw [if_pos e2, if_pos (by simp; omega), show j - o = (j - (o + 1)) + 1 by omega]
        simp
      · rw [if_neg e2, if_neg (by simp; omega), Array.getElem?_setIfInBounds, if_neg (by omega)]
theorem but_setCells (g : Nat) : ∀ (vs : List Value) (o : Nat) (w : World), But (· = g) w (w.setCells g o vs)
  | [], o, w => .refl _ _
  | v :: r, o, w => ((But.refl (· = g) w).setCell (p := ⟨g, o, none⟩) (fun _ => rfl) v).trans (but_setCells g r (o + 1) _)
theorem zero4 : ∀ w, (zeroValue 4).run Tryz.prog w = .ok (.bool false) w := Tryz.zeroValue4
theorem run_clear_marks (w : World) (ty : TypeId) (M n : Nat) (m : List Bool) (hm : Lies w M 4 (bRow m)) (hl : m.length = n) : ∃ w', (Builtin.clear_ #[119] ty #[.slice (some ⟨M, 0, none⟩) n n]).run Tryz.prog w = .ok (.tuple #[]) w' ∧ Lies w' M 4 (bRow (List.replicate n false)) ∧ But (· = M) w w' := by
  by_cases h0 : n = 0
  · subst h0
    have : m = [] := List.length_eq_zero_iff.1 hl
    subst this
    refine ⟨w, ?_, hm, .refl _ _⟩
    simp [Builtin.clear_, run_underlying Tryz.underlying119]
  · have hr := Lib.run_clear_slice (P := Tryz.prog) w 119 4 ty (.bool false) Tryz.underlying119 zero4 rfl rfl M 0 n n (by omega) (fun j hj => by rw [Nat.zero_add, lies_cell hm]; simp [bRow, hl, hj]) (fun j hj => by exact lies_free hm _)
    obtain ⟨cs', h1, h2, h3⟩ := lies_setCells M 4 (List.replicate n (.bool false)) 0 w _ hm (by simp [bRow, hl])
    refine ⟨_, hr, ?_, but_setCells M _ _ _⟩
    have e : cs' = bRow (List.replicate n false) := by
      refine Array.ext_getElem? fun j => ?_
      rw [h3 j]
      by_cases hj : j < n
      · rw [if_pos (by simp; omega)]
        simp [bRow, bV, hj]
      · rw [if_neg (by simp; omega)]
        simp [bRow, hl, hj]
    rw [← e]
    exact h1
end Go.Proofs.YtnbjfmkckebfgaaGreat
