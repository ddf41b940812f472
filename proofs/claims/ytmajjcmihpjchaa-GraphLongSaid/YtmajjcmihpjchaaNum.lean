/-
What is proved here: a map of numbers by text, by its operations.
-/
import Derived.Test.YtmajjcmihpjchaaSet
set_option linter.unusedSimpArgs false
set_option linter.unusedVariables false
namespace Go.Mat
open Go.Pth
def updF {α : Type} (F : Bt → α) (l : Bt) (z : α) : Bt → α := fun x => if x = l then z else F x
theorem updF_same {α : Type} (F : Bt → α) (l : Bt) (z : α) : updF F l z l = z := if_pos rfl
theorem updF_other {α : Type} {F : Bt → α} {l x : Bt} {z : α} (h : x ≠ l) : updF F l z x = F x := if_neg h
end Go.Mat
namespace Go.Proofs.Ytmajjcmihpjchaa
open Go.Pth Go.Tre Go.RowKit Go.Word Go.Mat
open Go.ChangeShapes (lits)
theorem wf_int {z : Int} (h1 : -9223372036854775808 ≤ z) (h2 : z ≤ 9223372036854775807) : (Lit.int .i64 z).wf = true := by
  have e1 : IntKind.i64.min = -9223372036854775808 := by decide
  have e2 : IntKind.i64.max = 9223372036854775807 := by decide
  simp only [Lit.wf, Bool.and_eq_true, decide_eq_true_eq, e1, e2]
  exact ⟨h1, h2⟩
/-- block b is a map of at most n numbers by text, F -/
def NumM (w : World) (b n : Nat) (F : Bt → Option Int) : Prop := ∃ D : DataW Unit, w.ownsMap Try.prog 9 (plainElem Try.prog 3) b n D ∧ ∀ x : Bt, x.length ≤ 100000 → Maps.has D (.string x) = (F x).isSome ∧ ∀ z, F x = some z → D.atKey (.string x) (.lit (.int .i64 0)) = .lit (.int .i64 z)
section
variable {w w' : World} {b n : Nat} {F : Bt → Option Int}
theorem numM_made (w : World) : NumM (w.alloc (.map #[] 0)) w.heap.size 0 (fun _ => none) := ⟨.map [], World.ownsMap_made _ _ _ _, fun l _ => ⟨by simp; rfl, fun z h => by cases h⟩⟩
theorem numM_same (h : NumM w b n F) (hb : w'.heap[b]? = w.heap[b]?) : NumM w' b n F := by
  obtain ⟨D, ⟨es, clock, h1, h2⟩, h3⟩ := h
  exact ⟨D, ⟨es, clock, hb.trans h1, h2⟩, h3⟩
theorem numM_lt (h : NumM w b n F) : b < w.heap.size := by
  obtain ⟨D, h1, _⟩ := h
  exact h1.lt
theorem numM_below (h : NumM w b n F) (hb : Below w.heap.size w w') : NumM w' b n F := numM_same h (hb.block b (numM_lt h))
set_option maxRecDepth 100000 in
theorem numM_look (h : NumM w b n F) (l : Bt) (hl : l.length ≤ 100000) : ∃ c : Int, (Instr.lookup 47 (.map (some b)) (St l) true).run Try.prog w = .ok (.tuple #[.int .i64 c, .bool (F l).isSome]) w ∧ ∀ z, F l = some z → c = z := by
  obtain ⟨D, h1, h2⟩ := h
  obtain ⟨v, ps, hr, hv⟩ := h1.look_ok keyed9 Try.underlying47 (Try.zeroValue3 w) (plainElem_int Try.underlying3 (by decide)) (key_st l hl)
  obtain ⟨c, rfl, hc, hwc⟩ := plainElem_int_inv Try.underlying3 hv
  simp only [Prod.mk.injEq] at hc
  refine ⟨c, by rw [hr, (h2 l hl).1], fun z hm => ?_⟩
  have := hc.1.symm.trans ((h2 l hl).2 z hm)
  simp only [DataW.lit.injEq, Lit.int.injEq, true_and] at this
  exact this
set_option maxRecDepth 100000 in
theorem numM_put (h : NumM w b n F) (l : Bt) (hl : l.length ≤ 100000) (hn : n ≤ 100000) (z : Int) (hz : (Lit.int .i64 z).wf = true) : ∃ w', (Instr.mapUpdate 47 (.map (some b)) (St l) (.int .i64 z)).run Try.prog w = .ok () w' ∧ NumM w' b (n + 1) (updF F l (some z)) ∧ w.grownBy w' (some b) := by
  obtain ⟨D, h1, h2⟩ := h
  obtain ⟨w', hr, h3, h4⟩ := h1.update keyed9 Try.underlying47 (by unfold maxLen; omega) (key_st l hl) (plainElem_int Try.underlying3 hz)
  refine ⟨w', hr, ⟨_, h3, fun x hx => ?_⟩, h4⟩
  by_cases e : x = l
  · subst e
    rw [Maps.has_put_same h1.isMap (is_key x), Maps.atKey_put_same h1.isMap (is_key x), updF_same]
    exact ⟨rfl, fun y hy => by injection hy with hy; rw [hy]⟩
  · have hne : (Lit.string x) ≠ (Lit.string l) := by simpa using e
    rw [Maps.has_put_other hne, Maps.atKey_put_other hne, updF_other e]
    exact h2 x hx
end
end Go.Proofs.Ytmajjcmihpjchaa
