/-
What is proved here: a map that holds for each of some numbers its place in their order, by its operations.
-/
import Derived.Test.YtaanihmbnjjhcaaMa4
import Derived.Test.YtaanihmbnjjhcaaCn1M
set_option linter.unusedSimpArgs false
set_option linter.unusedVariables false
namespace Go.Proofs.Ytaanihmbnjjhcaa
open Go.Pth Go.Tre Go.RowKit Go.Word

theorem keyed3 : Maps.Keyed Try.prog 3 := Maps.int_keyed Try.underlying3
def NumAt (w : World) (b n : Nat) (o : List Int) : Prop := ∃ D : DataW Unit, w.ownsMap Try.prog 3 (plainElem Try.prog 3) b n D ∧ ∀ f : Int, Maps.has D (.int .i64 f) = decide (f ∈ o) ∧ (f ∈ o → D.atKey (.int .i64 f) (.lit (.int .i64 0)) = .lit (.int .i64 (o.idxOf f : Nat)))
theorem int_key (f : Int) : WideAt.IsKeyLit (.int .i64 f) := by simp [WideAt.IsKeyLit]
theorem wf_int {z : Int} (h1 : -9223372036854775808 ≤ z) (h2 : z ≤ 9223372036854775807) : (Lit.int .i64 z).wf = true := by
  have e1 : IntKind.i64.min = -9223372036854775808 := by decide
  have e2 : IntKind.i64.max = 9223372036854775807 := by decide
  simp only [Lit.wf, Bool.and_eq_true, decide_eq_true_eq, e1, e2]
  exact ⟨h1, h2⟩
section
variable {w w' : World} {b n : Nat} {o : List Int}
theorem num_made (w : World) : NumAt (w.alloc (.map #[] 0)) w.heap.size 0 [] := ⟨.map [], World.ownsMap_made _ _ _ _, fun f => ⟨by simp; rfl, fun h => by simp at h⟩⟩
theorem num_same (h : NumAt w b n o) (hb : w'.heap[b]? = w.heap[b]?) : NumAt w' b n o := by
  obtain ⟨D, ⟨es, clock, h1, h2⟩, h3⟩ := h
  exact ⟨D, ⟨es, clock, hb.trans h1, h2⟩, h3⟩
theorem num_lt (h : NumAt w b n o) : b < w.heap.size := by
  obtain ⟨D, h1, _⟩ := h
  exact h1.lt
theorem num_map (h : NumAt w b n o) : ∃ q : Obj, w.heap[b]? = some q ∧ q.isWalk = true := by
  obtain ⟨D, ⟨es, clock, h1, _⟩, _⟩ := h
  exact ⟨_, h1, rfl⟩
set_option maxRecDepth 100000 in
theorem num_look (h : NumAt w b n o) (f : Int) (hf : (Lit.int .i64 f).wf = true) : ∃ c : Int, (Instr.lookup 78 (.map (some b)) (.int .i64 f) true).run Try.prog w = .ok (.tuple #[.int .i64 c, .bool (decide (f ∈ o))]) w ∧ (f ∈ o → c = (o.idxOf f : Nat)) := by
  obtain ⟨D, h1, h2⟩ := h
  obtain ⟨v, ps, hr, hv⟩ := h1.look_ok keyed3 Try.underlying78 (Try.zeroValue3 w) (plainElem_int Try.underlying3 (by decide)) (Maps.keyOf_int_mk Try.underlying3 hf)
  obtain ⟨c, rfl, hc, hwc⟩ := plainElem_int_inv Try.underlying3 hv
  simp only [Prod.mk.injEq] at hc
  refine ⟨c, by rw [hr, (h2 f).1], fun hm => ?_⟩
  have := hc.1.symm.trans ((h2 f).2 hm)
  simp only [DataW.lit.injEq, Lit.int.injEq, true_and] at this
  exact this
theorem num_put (h : NumAt w b n o) (f : Int) (hf : (Lit.int .i64 f).wf = true) (hn : n ≤ 100000) (hl : o.length ≤ 100000) (hno : f ∉ o) : ∃ w', (Instr.mapUpdate 78 (.map (some b)) (.int .i64 f) (.int .i64 (o.length : Nat))).run Try.prog w = .ok () w' ∧ NumAt w' b (n + 1) (o ++ [f]) ∧ w.grownBy w' (some b) := by
  obtain ⟨D, h1, h2⟩ := h
  obtain ⟨w', hr, h3, h4⟩ := h1.update keyed3 Try.underlying78 (by unfold maxLen; omega) (Maps.keyOf_int_mk Try.underlying3 hf) (plainElem_int Try.underlying3 (wf_int (z := (o.length : Nat)) (by omega) (by omega)))
  refine ⟨w', hr, ⟨_, h3, fun x => ?_⟩, h4⟩
  by_cases e : x = f
  · subst e
    rw [Maps.has_put_same h1.isMap (int_key x), Maps.atKey_put_same h1.isMap (int_key x)]
    refine ⟨by simp, fun _ => ?_⟩
    rw [List.idxOf_append, if_neg hno]
    simp
  · have hne : (Lit.int .i64 x) ≠ (Lit.int .i64 f) := by simpa using e
    rw [Maps.has_put_other hne, Maps.atKey_put_other hne, (h2 x).1]
    refine ⟨by simp [e], fun hm => ?_⟩
    have hm' : x ∈ o := by
      rcases List.mem_append.1 hm with h | h
      · exact h
      · exact absurd (List.mem_singleton.1 h) e
    rw [List.idxOf_append, if_pos hm']
    exact (h2 x).2 hm'
end
end Go.Proofs.Ytaanihmbnjjhcaa
