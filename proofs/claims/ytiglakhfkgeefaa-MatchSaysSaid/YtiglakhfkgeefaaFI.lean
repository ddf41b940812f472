/-
What is proved here: regions whose order is open, by facts and an invariant that hang on what has come up: of whatever program.
-/
import Derived.Test.YtiglakhfkgeefaaTools2
set_option linter.unusedSimpArgs false
set_option linter.unusedVariables false
namespace Go.Word
section
variable {P : Program} {md : Region.Mode} {ops : Array Oper} {Q : Exit → Act → World → Prop} {own : Nat → Option Nat} {vals : Nat → Value} {a0 : Act}
theorem every_factI (rank : Nat → Nat) (F : Array Bool → Nat → Value → World → Prop) (Inv : Array Bool → World → Prop)
    (hac : ∀ (i : Nat) (oi : Oper), ops[i]? = some oi → ∀ e ∈ oi.after, Region.binds md e = true → rank e.on < rank i)
    (hon : ∀ (i : Nat) (oi : Oper), ops[i]? = some oi → ∀ e ∈ oi.after, e.on < ops.size)
    (hdst : ∀ i oi, ops[i]? = some oi → (oi.dst = none ∧ ∀ t, own t ≠ some i) ∨ ∃ d, oi.dst = some d ∧ d < a0.tmps.size ∧ own d = some i ∧ ∀ t, own t = some i → t = d)
    (hop : ∀ i oi a w listed vals, ops[i]? = some oi → listed.size = ops.size → Shut md ops listed → listed.getD i false = false → (∀ e ∈ oi.after, Region.binds md e = true → listed.getD e.on false = true) → Tabd own vals a0 listed a → (∀ k, listed.getD k false = true → F listed k (vals k) w) → Inv listed w →
      (Region.wanted oi (yielded ops a.tmps) = true ∧ ∀ K : Act → World → Prop, (∀ v w', F (listed.setIfInBounds i true) i v w' → (∀ k u, k ≠ i → listed.getD k false = true → F listed k u w → F (listed.setIfInBounds i true) k u w') → Inv (listed.setIfInBounds i true) w' → K (a.put oi.dst v) w') → Oper.wp P oi a w K Q) ∨
      (Region.wanted oi (yielded ops a.tmps) = false ∧ F (listed.setIfInBounds i true) i undef w ∧ (∀ k u, k ≠ i → listed.getD k false = true → F listed k u w → F (listed.setIfInBounds i true) k u w) ∧ Inv (listed.setIfInBounds i true) w))
    (hend : ∀ a w listed vals, (∀ i, i < ops.size → listed.getD i false = true) → Tabd own vals a0 listed a → (∀ k, k < ops.size → F listed k (vals k) w) → Inv listed w → Q .normal a w) :
    ∀ (fuel : Nat) (listed : Array Bool) (a : Act) (w : World) (vals : Nat → Value), listed.size = ops.size → Shut md ops listed → listed.toList.count false ≤ fuel → Tabd own vals a0 listed a → (∀ k, listed.getD k false = true → F listed k (vals k) w) → Inv listed w → wpAny P md ops Q fuel listed a w := by
  intro fuel
  induction fuel with
  | zero =>
    intro listed a w vals hs hcl hc ht hF hI
    have hr : Region.ready md ops listed = [] := List.eq_nil_iff_forall_not_mem.2 fun j hj => by
      obtain ⟨hun, oj, hoj, _⟩ := mem_ready.1 hj
      have hjlt : j < ops.size := (Array.getElem?_eq_some_iff.1 hoj).1
      have := count_pos (by omega) hun
      omega
    have ha := all_listed hac hs hon hr
    exact ⟨hr, hend a w listed vals ha ht (fun k hk => hF k (ha k hk)) hI⟩
  | succ fuel ih =>
    intro listed a w vals hs hcl hc ht hF hI
    refine ⟨fun hr => ?_, fun i hi => ?_⟩
    · have ha := all_listed hac hs hon hr
      exact hend a w listed vals ha ht (fun k hk => hF k (ha k hk)) hI
    obtain ⟨hun, oi, hoi, hdeps⟩ := mem_ready.1 hi
    have hilt : i < ops.size := (Array.getElem?_eq_some_iff.1 hoi).1
    have hun2 : listed.getD i false = false := by
      rw [Array.getD_eq_getD_getElem?, Array.getElem?_eq_getElem (by omega)] at hun ⊢
      simpa using hun
    have next : ∀ v w', F (listed.setIfInBounds i true) i v w' → (∀ k u, k ≠ i → listed.getD k false = true → F listed k u w → F (listed.setIfInBounds i true) k u w') → Inv (listed.setIfInBounds i true) w' → wpAny P md ops Q fuel (listed.setIfInBounds i true) (a.put oi.dst v) w' := fun v w' h1 h2 h3 => by
      have ht1 := tabd_upd v ht hun2
      have hv : upd vals i v i = v := upd_same vals i v
      have ht' : Tabd own (upd vals i v) a0 (listed.setIfInBounds i true) (a.put oi.dst v) := by
        rcases hdst i oi hoi with ⟨hd, hno⟩ | ⟨d, hd, hdl, hod, hinj⟩
        · have := tabd_skip ht1 hno
          rw [hv] at this
          rw [hd]; exact this
        · have := tabd_put ht1 (by omega) hdl hod hinj
          rw [hv] at this
          rw [hd]; exact this
      refine ih _ _ _ (upd vals i v) (by simp [hs]) (shut_set hcl hs hoi hdeps) (count_set (by omega) hun hc) ht' (fun k hk => ?_) h3
      by_cases e : k = i
      · subst e
        rw [hv]; exact h1
      · rw [upd_other e]
        rw [getD_set_ne false (Ne.symm e)] at hk
        exact h2 k _ e hk (hF k hk)
    unfold wpOp
    rw [hoi]
    rcases hop i oi a w listed vals hoi hs hcl hun2 hdeps ht hF hI with ⟨hw, hK⟩ | ⟨hw, hv, hk, hI2⟩
    · simp only [hw, if_true]
      exact .inl (hK _ next)
    · simp only [hw, Bool.false_eq_true, if_false]
      exact next undef w hv hk hI2
end
section
variable {Fc : Fence} {n : Nat} {P : Program} {md : Region.Mode} {ops : Array Oper} {Q : Exit → Act → World → Prop} {own : Nat → Option Nat} {vals : Nat → Value} {a0 : Act}
theorem every_factI_in (rank : Nat → Nat) (F : Array Bool → Nat → Value → World → Prop) (Inv : Array Bool → World → Prop)
    (hac : ∀ (i : Nat) (oi : Oper), ops[i]? = some oi → ∀ e ∈ oi.after, Region.binds md e = true → rank e.on < rank i)
    (hon : ∀ (i : Nat) (oi : Oper), ops[i]? = some oi → ∀ e ∈ oi.after, e.on < ops.size)
    (hdst : ∀ i oi, ops[i]? = some oi → (oi.dst = none ∧ ∀ t, own t ≠ some i) ∨ ∃ d, oi.dst = some d ∧ d < a0.tmps.size ∧ own d = some i ∧ ∀ t, own t = some i → t = d)
    (hop : ∀ i oi a w listed vals, ops[i]? = some oi → listed.size = ops.size → Shut md ops listed → listed.getD i false = false → (∀ e ∈ oi.after, Region.binds md e = true → listed.getD e.on false = true) → Tabd own vals a0 listed a → (∀ k, listed.getD k false = true → F listed k (vals k) w) → Inv listed w →
      (Region.wanted oi (yielded ops a.tmps) = true ∧ ∀ K : Act → World → Prop, (∀ v w', F (listed.setIfInBounds i true) i v w' → (∀ k u, k ≠ i → listed.getD k false = true → F listed k u w → F (listed.setIfInBounds i true) k u w') → Inv (listed.setIfInBounds i true) w' → K (a.put oi.dst v) w') → Oper.wpIn Fc n P oi a w K Q) ∨
      (Region.wanted oi (yielded ops a.tmps) = false ∧ (∀ f, oi.about P w a.eval = some f → Fc.fn f) ∧ F (listed.setIfInBounds i true) i undef w ∧ (∀ k u, k ≠ i → listed.getD k false = true → F listed k u w → F (listed.setIfInBounds i true) k u w) ∧ Inv (listed.setIfInBounds i true) w))
    (hend : ∀ a w listed vals, (∀ i, i < ops.size → listed.getD i false = true) → Tabd own vals a0 listed a → (∀ k, k < ops.size → F listed k (vals k) w) → Inv listed w → Q .normal a w) :
    ∀ (fuel : Nat) (listed : Array Bool) (a : Act) (w : World) (vals : Nat → Value), listed.size = ops.size → Shut md ops listed → listed.toList.count false ≤ fuel → Tabd own vals a0 listed a → (∀ k, listed.getD k false = true → F listed k (vals k) w) → Inv listed w → wpAnyIn Fc n P md ops Q fuel listed a w := by
  intro fuel
  induction fuel with
  | zero =>
    intro listed a w vals hs hcl hc ht hF hI
    have hr : Region.ready md ops listed = [] := List.eq_nil_iff_forall_not_mem.2 fun j hj => by
      obtain ⟨hun, oj, hoj, _⟩ := mem_ready.1 hj
      have hjlt : j < ops.size := (Array.getElem?_eq_some_iff.1 hoj).1
      have := count_pos (by omega) hun
      omega
    have ha := all_listed hac hs hon hr
    exact ⟨hr, hend a w listed vals ha ht (fun k hk => hF k (ha k hk)) hI⟩
  | succ fuel ih =>
    intro listed a w vals hs hcl hc ht hF hI
    refine ⟨fun hr => ?_, fun i hi => ?_⟩
    · have ha := all_listed hac hs hon hr
      exact hend a w listed vals ha ht (fun k hk => hF k (ha k hk)) hI
    obtain ⟨hun, oi, hoi, hdeps⟩ := mem_ready.1 hi
    have hilt : i < ops.size := (Array.getElem?_eq_some_iff.1 hoi).1
    have hun2 : listed.getD i false = false := by
      rw [Array.getD_eq_getD_getElem?, Array.getElem?_eq_getElem (by omega)] at hun ⊢
      simpa using hun
    have next : ∀ v w', F (listed.setIfInBounds i true) i v w' → (∀ k u, k ≠ i → listed.getD k false = true → F listed k u w → F (listed.setIfInBounds i true) k u w') → Inv (listed.setIfInBounds i true) w' → wpAnyIn Fc n P md ops Q fuel (listed.setIfInBounds i true) (a.put oi.dst v) w' := fun v w' h1 h2 h3 => by
      have ht1 := tabd_upd v ht hun2
      have hv : upd vals i v i = v := upd_same vals i v
      have ht' : Tabd own (upd vals i v) a0 (listed.setIfInBounds i true) (a.put oi.dst v) := by
        rcases hdst i oi hoi with ⟨hd, hno⟩ | ⟨d, hd, hdl, hod, hinj⟩
        · have := tabd_skip ht1 hno
          rw [hv] at this
          rw [hd]; exact this
        · have := tabd_put ht1 (by omega) hdl hod hinj
          rw [hv] at this
          rw [hd]; exact this
      refine ih _ _ _ (upd vals i v) (by simp [hs]) (shut_set hcl hs hoi hdeps) (count_set (by omega) hun hc) ht' (fun k hk => ?_) h3
      by_cases e : k = i
      · subst e
        rw [hv]; exact h1
      · rw [upd_other e]
        rw [getD_set_ne false (Ne.symm e)] at hk
        exact h2 k _ e hk (hF k hk)
    unfold wpOpIn
    rw [hoi]
    rcases hop i oi a w listed vals hoi hs hcl hun2 hdeps ht hF hI with ⟨hw, hK⟩ | ⟨hw, hab, hv, hk, hI2⟩
    · simp only [hw, if_true]
      exact (hK _ next)
    · simp only [hw, Bool.false_eq_true, if_false]
      exact ⟨hab, next undef w hv hk hI2⟩
end
end Go.Word
