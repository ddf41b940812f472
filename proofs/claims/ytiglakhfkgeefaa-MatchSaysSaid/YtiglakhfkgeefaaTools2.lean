/-
What is proved here: regions whose order is open, by a fact for each operation: of whatever program.
-/
import Derived.Test.YtiglakhfkgeefaaTools
set_option linter.unusedSimpArgs false
set_option linter.unusedVariables false
namespace Go.Word
section
variable {P : Program} {md : Region.Mode} {ops : Array Oper} {Q : Exit → Act → World → Prop} {own : Nat → Option Nat} {vals : Nat → Value} {a0 : Act}
def upd (vals : Nat → Value) (i : Nat) (v : Value) : Nat → Value := fun k => if k = i then v else vals k
theorem upd_same (vals : Nat → Value) (i : Nat) (v : Value) : upd vals i v i = v := by simp [upd]
theorem upd_other {vals : Nat → Value} {i : Nat} {v : Value} {k : Nat} (h : k ≠ i) : upd vals i v k = vals k := by simp [upd, h]
theorem tabd_upd {listed : Array Bool} {a : Act} {i : Nat} (v : Value) (h : Tabd own vals a0 listed a) (hi : listed.getD i false = false) : Tabd own (upd vals i v) a0 listed a := by
  obtain ⟨h1, h2, h3⟩ := h
  refine ⟨h1, h2, fun t ht => ?_⟩
  rw [h3 t ht]
  cases ho : own t with
  | none => rfl
  | some j =>
    by_cases e : j = i
    · subst e
      simp only [hi, Bool.false_eq_true, if_false]
    · simp only [upd_other e]
theorem wpAny_done2 {listed : Array Bool} {a : Act} {w : World} (hr : Region.ready md ops listed = []) (hq : Q .normal a w) : ∀ fuel, wpAny P md ops Q fuel listed a w
  | 0 => ⟨hr, hq⟩
  | _ + 1 => ⟨fun _ => hq, fun i hi => by rw [hr] at hi; cases hi⟩
theorem every_fact (rank : Nat → Nat) (last : Nat) (F : Nat → Value → World → Prop) (Inv : World → Prop)
    (hac : ∀ (i : Nat) (oi : Oper), ops[i]? = some oi → ∀ e ∈ oi.after, Region.binds md e = true → rank e.on < rank i)
    (hon : ∀ (i : Nat) (oi : Oper), ops[i]? = some oi → ∀ e ∈ oi.after, e.on < ops.size)
    (hdst : ∀ i oi, ops[i]? = some oi → (oi.dst = none ∧ ∀ t, own t ≠ some i) ∨ ∃ d, oi.dst = some d ∧ d < a0.tmps.size ∧ own d = some i ∧ ∀ t, own t = some i → t = d)
    (hop : ∀ i oi a w listed vals, ops[i]? = some oi → i ≠ last → (∀ e ∈ oi.after, Region.binds md e = true → listed.getD e.on false = true) → Tabd own vals a0 listed a → (∀ k, listed.getD k false = true → F k (vals k) w) → Inv w →
      (Region.wanted oi (yielded ops a.tmps) = true ∧ ∀ K : Act → World → Prop, (∀ v w', F i v w' → (∀ k u, k ≠ i → F k u w → F k u w') → Inv w' → K (a.put oi.dst v) w') → Oper.wp P oi a w K Q) ∨ (Region.wanted oi (yielded ops a.tmps) = false ∧ F i undef w))
    (hall : ∀ listed : Array Bool, (∀ ol, ops[last]? = some ol → ∀ e ∈ ol.after, Region.binds md e = true → listed.getD e.on false = true) → ∀ i, i < ops.size → i ≠ last → listed.getD i false = true)
    (hl : ∀ a w listed vals ol, ops[last]? = some ol → (∀ i, i < ops.size → i ≠ last → listed.getD i false = true) → (∀ e ∈ ol.after, Region.binds md e = true → listed.getD e.on false = true) → listed.getD last false = false → Tabd own vals a0 listed a → (∀ k, k < ops.size → k ≠ last → F k (vals k) w) → Inv w →
      Region.wanted ol (yielded ops a.tmps) = true ∧ ∀ K : Act → World → Prop, (∀ a' w', Q .normal a' w' → K a' w') → Oper.wp P ol a w K Q)
    (hend : ∀ a w listed vals, (∀ i, i < ops.size → listed.getD i false = true) → Tabd own vals a0 listed a → (∀ k, k < ops.size → F k (vals k) w) → Inv w → ops.size ≤ last → Q .normal a w) :
    ∀ (fuel : Nat) (listed : Array Bool) (a : Act) (w : World) (vals : Nat → Value), listed.size = ops.size → (last < ops.size → listed.getD last false = false) → listed.toList.count false ≤ fuel → Tabd own vals a0 listed a → (∀ k, listed.getD k false = true → F k (vals k) w) → Inv w → wpAny P md ops Q fuel listed a w := by
  intro fuel
  induction fuel with
  | zero =>
    intro listed a w vals hs hlf hc ht hF hI
    have hr : Region.ready md ops listed = [] := List.eq_nil_iff_forall_not_mem.2 fun j hj => by
      obtain ⟨hun, oj, hoj, _⟩ := mem_ready.1 hj
      have hjlt : j < ops.size := (Array.getElem?_eq_some_iff.1 hoj).1
      have := count_pos (by omega) hun
      omega
    have ha := all_listed hac hs hon hr
    refine ⟨hr, hend a w listed vals ha ht (fun k hk => hF k (ha k hk)) hI ?_⟩
    rcases Nat.lt_or_ge last ops.size with h | h
    · have h1 := hlf h
      rw [ha last h] at h1
      cases h1
    · exact h
  | succ fuel ih =>
    intro listed a w vals hs hlf hc ht hF hI
    refine ⟨fun hr => ?_, fun i hi => ?_⟩
    · have ha := all_listed hac hs hon hr
      refine hend a w listed vals ha ht (fun k hk => hF k (ha k hk)) hI ?_
      rcases Nat.lt_or_ge last ops.size with h | h
      · have h1 := hlf h
        rw [ha last h] at h1
        cases h1
      · exact h
    obtain ⟨hun, oi, hoi, hdeps⟩ := mem_ready.1 hi
    have hilt : i < ops.size := (Array.getElem?_eq_some_iff.1 hoi).1
    have hun2 : listed.getD i false = false := by
      rw [Array.getD_eq_getD_getElem?, Array.getElem?_eq_getElem (by omega)] at hun ⊢
      simpa using hun
    by_cases hil : i = last
    · subst hil
      have hothers := hall listed (fun ol hol => by rw [hoi] at hol; injection hol with hol; subst hol; exact hdeps)
      obtain ⟨hw, hK⟩ := hl a w listed vals oi hoi hothers hdeps hun2 ht (fun k hk hne => hF k (hothers k hk hne)) hI
      unfold wpOp
      rw [hoi]
      simp only [hw, if_true]
      refine .inl (hK _ fun a' w' hq => wpAny_done2 (List.eq_nil_iff_forall_not_mem.2 fun j hj => ?_) hq fuel)
      obtain ⟨hj1, oj, hoj, _⟩ := mem_ready.1 hj
      have hjlt : j < ops.size := (Array.getElem?_eq_some_iff.1 hoj).1
      by_cases hji : j = i
      · subst hji
        simp [hs, hjlt] at hj1
      · rw [getD_set_ne true (Ne.symm hji)] at hj1
        have h2 := hothers j hjlt hji
        rw [Array.getD_eq_getD_getElem?, Array.getElem?_eq_getElem (by omega)] at hj1 h2
        simp only [Option.getD_some] at hj1 h2
        rw [hj1] at h2
        cases h2
    have next : ∀ v w', F i v w' → (∀ k u, k ≠ i → F k u w → F k u w') → Inv w' → wpAny P md ops Q fuel (listed.setIfInBounds i true) (a.put oi.dst v) w' := fun v w' h1 h2 h3 => by
      have ht1 := tabd_upd v ht hun2
      have hv : upd vals i v i = v := upd_same vals i v
      have ht' : Tabd own (upd vals i v) a0 (listed.setIfInBounds i true) (a.put oi.dst v) := by
        rcases hdst i oi hoi with ⟨hd, hno⟩ | ⟨d, hd, hdl, hod, hinj⟩
        · have := tabd_skip ht1 hno
          rw [hv] at this
          rw [hd]; exact this
        · have := tabd_put ht1 (by omega) hdl hod hinj
          rw [hv] at this
          rw [hd]; exact this
      refine ih _ _ _ (upd vals i v) (by simp [hs]) (fun h => by rw [getD_set_ne false hil]; exact hlf h) (count_set (by omega) hun hc) ht' (fun k hk => ?_) h3
      by_cases e : k = i
      · subst e
        rw [hv]; exact h1
      · rw [upd_other e]
        rw [getD_set_ne false (Ne.symm e)] at hk
        exact h2 k _ e (hF k hk)
    unfold wpOp
    rw [hoi]
    rcases hop i oi a w listed vals hoi hil hdeps ht hF hI with ⟨hw, hK⟩ | ⟨hw, hv⟩
    · simp only [hw, if_true]
      exact .inl (hK _ next)
    · simp only [hw, Bool.false_eq_true, if_false]
      have ht1 := tabd_upd undef ht hun2
      have hv1 : upd vals i undef i = undef := upd_same vals i undef
      have ht' : Tabd own (upd vals i undef) a0 (listed.setIfInBounds i true) (a.put oi.dst undef) := by
        rcases hdst i oi hoi with ⟨hd, hno⟩ | ⟨d, hd, hdl, hod, hinj⟩
        · have := tabd_skip ht1 hno
          rw [hv1] at this
          rw [hd]; exact this
        · have := tabd_put ht1 (by omega) hdl hod hinj
          rw [hv1] at this
          rw [hd]; exact this
      refine ih _ _ _ (upd vals i undef) (by simp [hs]) (fun h => by rw [getD_set_ne false hil]; exact hlf h) (count_set (by omega) hun hc) ht' (fun k hk => ?_) hI
      by_cases e : k = i
      · subst e
        rw [hv1]; exact hv
      · rw [upd_other e]
        rw [getD_set_ne false (Ne.symm e)] at hk
        exact hF k hk
end
end Go.Word
namespace Go.Word
section
variable {P : Program} {md : Region.Mode} {ops : Array Oper} {Q : Exit → Act → World → Prop} {own : Nat → Option Nat} {vals : Nat → Value} {a0 : Act}
theorem every_facts (rank : Nat → Nat) (last : Nat) (F : Nat → Value → World → Prop) (Inv : World → Prop)
    (hac : ∀ (i : Nat) (oi : Oper), ops[i]? = some oi → ∀ e ∈ oi.after, Region.binds md e = true → rank e.on < rank i)
    (hon : ∀ (i : Nat) (oi : Oper), ops[i]? = some oi → ∀ e ∈ oi.after, e.on < ops.size)
    (hdst : ∀ i oi, ops[i]? = some oi → (oi.dst = none ∧ ∀ t, own t ≠ some i) ∨ ∃ d, oi.dst = some d ∧ d < a0.tmps.size ∧ own d = some i ∧ ∀ t, own t = some i → t = d)
    (hop : ∀ i oi a w listed vals, ops[i]? = some oi → i ≠ last → (∀ e ∈ oi.after, Region.binds md e = true → listed.getD e.on false = true) → Tabd own vals a0 listed a → (∀ k, listed.getD k false = true → F k (vals k) w) → Inv w →
      (Region.wanted oi (yielded ops a.tmps) = true ∧ ∀ K : Act → World → Prop, (∀ v w', F i v w' → (∀ k u, k ≠ i → F k u w → F k u w') → Inv w' → K (a.put oi.dst v) w') → Oper.wp P oi a w K Q) ∨ (Region.wanted oi (yielded ops a.tmps) = false ∧ F i undef w))
    (hall : ∀ listed : Array Bool, Shut md ops listed → (∀ ol, ops[last]? = some ol → ∀ e ∈ ol.after, Region.binds md e = true → listed.getD e.on false = true) → ∀ i, i < ops.size → i ≠ last → listed.getD i false = true)
    (hl : ∀ a w listed vals ol, ops[last]? = some ol → (∀ i, i < ops.size → i ≠ last → listed.getD i false = true) → (∀ e ∈ ol.after, Region.binds md e = true → listed.getD e.on false = true) → listed.getD last false = false → Tabd own vals a0 listed a → (∀ k, k < ops.size → k ≠ last → F k (vals k) w) → Inv w →
      Region.wanted ol (yielded ops a.tmps) = true ∧ ∀ K : Act → World → Prop, (∀ a' w', Q .normal a' w' → K a' w') → Oper.wp P ol a w K Q)
    (hend : ∀ a w listed vals, (∀ i, i < ops.size → listed.getD i false = true) → Tabd own vals a0 listed a → (∀ k, k < ops.size → F k (vals k) w) → Inv w → ops.size ≤ last → Q .normal a w) :
    ∀ (fuel : Nat) (listed : Array Bool) (a : Act) (w : World) (vals : Nat → Value), listed.size = ops.size → Shut md ops listed → (last < ops.size → listed.getD last false = false) → listed.toList.count false ≤ fuel → Tabd own vals a0 listed a → (∀ k, listed.getD k false = true → F k (vals k) w) → Inv w → wpAny P md ops Q fuel listed a w := by
  intro fuel
  induction fuel with
  | zero =>
    intro listed a w vals hs hcl hlf hc ht hF hI
    have hr : Region.ready md ops listed = [] := List.eq_nil_iff_forall_not_mem.2 fun j hj => by
      obtain ⟨hun, oj, hoj, _⟩ := mem_ready.1 hj
      have hjlt : j < ops.size := (Array.getElem?_eq_some_iff.1 hoj).1
      have := count_pos (by omega) hun
      omega
    have ha := all_listed hac hs hon hr
    refine ⟨hr, hend a w listed vals ha ht (fun k hk => hF k (ha k hk)) hI ?_⟩
    rcases Nat.lt_or_ge last ops.size with h | h
    · have h1 := hlf h
      rw [ha last h] at h1
      cases h1
    · exact h
  | succ fuel ih =>
    intro listed a w vals hs hcl hlf hc ht hF hI
    refine ⟨fun hr => ?_, fun i hi => ?_⟩
    · have ha := all_listed hac hs hon hr
      refine hend a w listed vals ha ht (fun k hk => hF k (ha k hk)) hI ?_
      rcases Nat.lt_or_ge last ops.size with h | h
      · have h1 := hlf h
        rw [ha last h] at h1
        cases h1
      · exact h
    obtain ⟨hun, oi, hoi, hdeps⟩ := mem_ready.1 hi
    have hilt : i < ops.size := (Array.getElem?_eq_some_iff.1 hoi).1
    have hun2 : listed.getD i false = false := by
      rw [Array.getD_eq_getD_getElem?, Array.getElem?_eq_getElem (by omega)] at hun ⊢
      simpa using hun
    by_cases hil : i = last
    · subst hil
      have hothers := hall listed hcl (fun ol hol => by rw [hoi] at hol; injection hol with hol; subst hol; exact hdeps)
      obtain ⟨hw, hK⟩ := hl a w listed vals oi hoi hothers hdeps hun2 ht (fun k hk hne => hF k (hothers k hk hne)) hI
      unfold wpOp
      rw [hoi]
      simp only [hw, if_true]
      refine .inl (hK _ fun a' w' hq => wpAny_done2 (List.eq_nil_iff_forall_not_mem.2 fun j hj => ?_) hq fuel)
      obtain ⟨hj1, oj, hoj, _⟩ := mem_ready.1 hj
      have hjlt : j < ops.size := (Array.getElem?_eq_some_iff.1 hoj).1
      by_cases hji : j = i
      · subst hji
        simp [hs, hjlt] at hj1
      · rw [getD_set_ne true (Ne.symm hji)] at hj1
        have h2 := hothers j hjlt hji
        rw [Array.getD_eq_getD_getElem?, Array.getElem?_eq_getElem (by omega)] at hj1 h2
        simp only [Option.getD_some] at hj1 h2
        rw [hj1] at h2
        cases h2
    have next : ∀ v w', F i v w' → (∀ k u, k ≠ i → F k u w → F k u w') → Inv w' → wpAny P md ops Q fuel (listed.setIfInBounds i true) (a.put oi.dst v) w' := fun v w' h1 h2 h3 => by
      have ht1 := tabd_upd v ht hun2
      have hv : upd vals i v i = v := upd_same vals i v
      have ht' : Tabd own (upd vals i v) a0 (listed.setIfInBounds i true) (a.put oi.dst v) := by
        rcases hdst i oi hoi with ⟨hd, hno⟩ | ⟨d, hd, hdl, hod, hinj⟩
        · have := tabd_skip ht1 hno
          rw [hv] at this
          rw [hd]; exact this
        · have := tabd_put ht1 (by omega) hdl hod hinj
          rw [hv] at this
          rw [hd]; exact this
      refine ih _ _ _ (upd vals i v) (by simp [hs]) (shut_set hcl hs hoi hdeps) (fun h => by rw [getD_set_ne false hil]; exact hlf h) (count_set (by omega) hun hc) ht' (fun k hk => ?_) h3
      by_cases e : k = i
      · subst e
        rw [hv]; exact h1
      · rw [upd_other e]
        rw [getD_set_ne false (Ne.symm e)] at hk
        exact h2 k _ e (hF k hk)
    unfold wpOp
    rw [hoi]
    rcases hop i oi a w listed vals hoi hil hdeps ht hF hI with ⟨hw, hK⟩ | ⟨hw, hv⟩
    · simp only [hw, if_true]
      exact .inl (hK _ next)
    · simp only [hw, Bool.false_eq_true, if_false]
      have ht1 := tabd_upd undef ht hun2
      have hv1 : upd vals i undef i = undef := upd_same vals i undef
      have ht' : Tabd own (upd vals i undef) a0 (listed.setIfInBounds i true) (a.put oi.dst undef) := by
        rcases hdst i oi hoi with ⟨hd, hno⟩ | ⟨d, hd, hdl, hod, hinj⟩
        · have := tabd_skip ht1 hno
          rw [hv1] at this
          rw [hd]; exact this
        · have := tabd_put ht1 (by omega) hdl hod hinj
          rw [hv1] at this
          rw [hd]; exact this
      refine ih _ _ _ (upd vals i undef) (by simp [hs]) (shut_set hcl hs hoi hdeps) (fun h => by rw [getD_set_ne false hil]; exact hlf h) (count_set (by omega) hun hc) ht' (fun k hk => ?_) hI
      by_cases e : k = i
      · subst e
        rw [hv1]; exact hv
      · rw [upd_other e]
        rw [getD_set_ne false (Ne.symm e)] at hk
        exact hF k hk
end
end Go.Word
namespace Go.Word
theorem wp_enter {P : Program} {Q : Exit → Act → World → Prop} {a : Act} {w : World} {K : Act → World → Prop} {oi : Oper} {f : FuncId} {args : Array Value} {post : Ending → World → Prop} (hr : (execOp a.eval oi).run P w = .ok (.enter f args) w) (hc : Calls P f args w post) (h : ∀ e w2, post e w2 → ∃ v, e = .returned v ∧ K (a.put oi.dst v) w2) : Oper.wp P oi a w K Q := by
  unfold Oper.wp
  rw [hr]
  refine hc.mono ?_
  intro e w2 hp
  obtain ⟨v, rfl, hk⟩ := h e w2 hp
  exact hk
end Go.Word
