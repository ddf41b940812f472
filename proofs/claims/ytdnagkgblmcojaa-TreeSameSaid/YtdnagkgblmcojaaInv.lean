/-
What is proved here: a region whose order is open: where each operation yields a fixed value and keeps a property of the world, every order comes to the same frame, in some world of that property. Of whatever program.
-/
import Derived.Test.YtdnagkgblmcojaaTbl
set_option linter.unusedSimpArgs false
namespace Go.Word
section
variable {F : Fence} {n : Nat} {P : Program} {md : Region.Mode} {ops : Array Oper} {Q : Exit → Act → World → Prop} {own : Nat → Option Nat} {vals : Nat → Value} {a0 : Act}
theorem every_inv (rank : Nat → Nat) (Inv : World → Prop)
    (hac : ∀ (i : Nat) (oi : Oper), ops[i]? = some oi → ∀ e ∈ oi.after, Region.binds md e = true → rank e.on < rank i)
    (hon : ∀ (i : Nat) (oi : Oper), ops[i]? = some oi → ∀ e ∈ oi.after, e.on < ops.size)
    (hdst : ∀ i oi, ops[i]? = some oi → (oi.dst = none ∧ ∀ t, own t ≠ some i) ∨ ∃ d, oi.dst = some d ∧ d < a0.tmps.size ∧ own d = some i ∧ ∀ t, own t = some i → t = d)
    (hop : ∀ i oi a w listed, ops[i]? = some oi → (∀ e ∈ oi.after, Region.binds md e = true → listed.getD e.on false = true) → Tabd own vals a0 listed a → Inv w →
      (Region.wanted oi (yielded ops a.tmps) = true ∧ ∀ K : Act → World → Prop, (∀ w', Inv w' → K (a.put oi.dst (vals i)) w') → Oper.wp P oi a w K Q) ∨ (Region.wanted oi (yielded ops a.tmps) = false ∧ vals i = undef))
    (hend : ∀ a w listed, (∀ i, i < ops.size → listed.getD i false = true) → Tabd own vals a0 listed a → Inv w → Q .normal a w) :
    ∀ (fuel : Nat) (listed : Array Bool) (a : Act) (w : World), listed.size = ops.size → listed.toList.count false ≤ fuel → Tabd own vals a0 listed a → Inv w → wpAny P md ops Q fuel listed a w := by
  intro fuel
  induction fuel with
  | zero =>
    intro listed a w hs hc ht hI
    have hr : Region.ready md ops listed = [] := List.eq_nil_iff_forall_not_mem.2 fun j hj => by
      obtain ⟨hun, oj, hoj, _⟩ := mem_ready.1 hj
      have hjlt : j < ops.size := (Array.getElem?_eq_some_iff.1 hoj).1
      have := count_pos (by omega) hun
      omega
    exact ⟨hr, hend a w listed (all_listed hac hs hon hr) ht hI⟩
  | succ fuel ih =>
    intro listed a w hs hc ht hI
    refine ⟨fun hr => hend a w listed (all_listed hac hs hon hr) ht hI, fun i hi => ?_⟩
    obtain ⟨hun, oi, hoi, hdeps⟩ := mem_ready.1 hi
    have hilt : i < ops.size := (Array.getElem?_eq_some_iff.1 hoi).1
    have ht' : Tabd own vals a0 (listed.setIfInBounds i true) (a.put oi.dst (vals i)) := by
      rcases hdst i oi hoi with ⟨hd, hno⟩ | ⟨d, hd, hdl, hod, hinj⟩
      · rw [hd]; exact tabd_skip ht hno
      · rw [hd]; exact tabd_put ht (by omega) hdl hod hinj
    unfold wpOp
    rw [hoi]
    rcases hop i oi a w listed hoi hdeps ht hI with ⟨hw, hK⟩ | ⟨hw, hv⟩
    · simp only [hw, if_true]
      exact .inl (hK _ (fun w' hw' => ih _ _ _ (by simp [hs]) (count_set (by omega) hun hc) ht' hw'))
    · simp only [hw, Bool.false_eq_true, if_false]
      rw [hv] at ht'
      exact ih _ _ _ (by simp [hs]) (count_set (by omega) hun hc) ht' hI
/-- the same, within a round or a fence -/
theorem every_inv_in (rank : Nat → Nat) (Inv : World → Prop)
    (hac : ∀ (i : Nat) (oi : Oper), ops[i]? = some oi → ∀ e ∈ oi.after, Region.binds md e = true → rank e.on < rank i)
    (hon : ∀ (i : Nat) (oi : Oper), ops[i]? = some oi → ∀ e ∈ oi.after, e.on < ops.size)
    (hdst : ∀ i oi, ops[i]? = some oi → (oi.dst = none ∧ ∀ t, own t ≠ some i) ∨ ∃ d, oi.dst = some d ∧ d < a0.tmps.size ∧ own d = some i ∧ ∀ t, own t = some i → t = d)
    (hop : ∀ i oi a w listed, ops[i]? = some oi → (∀ e ∈ oi.after, Region.binds md e = true → listed.getD e.on false = true) → Tabd own vals a0 listed a → Inv w →
      (Region.wanted oi (yielded ops a.tmps) = true ∧ ∀ K : Act → World → Prop, (∀ w', Inv w' → K (a.put oi.dst (vals i)) w') → Oper.wpIn F n P oi a w K Q) ∨ (Region.wanted oi (yielded ops a.tmps) = false ∧ (∀ f, oi.about P w a.eval = some f → F.fn f) ∧ vals i = undef))
    (hend : ∀ a w listed, (∀ i, i < ops.size → listed.getD i false = true) → Tabd own vals a0 listed a → Inv w → Q .normal a w) :
    ∀ (fuel : Nat) (listed : Array Bool) (a : Act) (w : World), listed.size = ops.size → listed.toList.count false ≤ fuel → Tabd own vals a0 listed a → Inv w → wpAnyIn F n P md ops Q fuel listed a w := by
  intro fuel
  induction fuel with
  | zero =>
    intro listed a w hs hc ht hI
    have hr : Region.ready md ops listed = [] := List.eq_nil_iff_forall_not_mem.2 fun j hj => by
      obtain ⟨hun, oj, hoj, _⟩ := mem_ready.1 hj
      have hjlt : j < ops.size := (Array.getElem?_eq_some_iff.1 hoj).1
      have := count_pos (by omega) hun
      omega
    exact ⟨hr, hend a w listed (all_listed hac hs hon hr) ht hI⟩
  | succ fuel ih =>
    intro listed a w hs hc ht hI
    refine ⟨fun hr => hend a w listed (all_listed hac hs hon hr) ht hI, fun i hi => ?_⟩
    obtain ⟨hun, oi, hoi, hdeps⟩ := mem_ready.1 hi
    have hilt : i < ops.size := (Array.getElem?_eq_some_iff.1 hoi).1
    have ht' : Tabd own vals a0 (listed.setIfInBounds i true) (a.put oi.dst (vals i)) := by
      rcases hdst i oi hoi with ⟨hd, hno⟩ | ⟨d, hd, hdl, hod, hinj⟩
      · rw [hd]; exact tabd_skip ht hno
      · rw [hd]; exact tabd_put ht (by omega) hdl hod hinj
    unfold wpOpIn
    rw [hoi]
    rcases hop i oi a w listed hoi hdeps ht hI with ⟨hw, hK⟩ | ⟨hw, hab, hv⟩
    · simp only [hw, if_true]
      exact hK _ (fun w' hw' => ih _ _ _ (by simp [hs]) (count_set (by omega) hun hc) ht' hw')
    · simp only [hw, Bool.false_eq_true, if_false]
      rw [hv] at ht'
      exact ⟨hab, ih _ _ _ (by simp [hs]) (count_set (by omega) hun hc) ht' hI⟩
end
end Go.Word
