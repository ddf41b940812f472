/-
What is proved here: a region whose order is open, within a round too: where each operation but the last yields a fixed value and leaves the world as it is, every order comes to the same: the last one at the full frame. Of whatever program.
-/
import Derived.OrdersIn
import Derived.WalkKit
import Derived.OwnWalkIn
namespace Go.Word

section
variable {F : Fence} {n : Nat} {P : Program} {md : Region.Mode} {ops : Array Oper} {Q : Exit → Act → World → Prop} {own : Nat → Option Nat} {vals : Nat → Value} {a0 : Act}

/-- the frame behind those that have come up: each temporary that is theirs holds its value -/
def Tabd (own : Nat → Option Nat) (vals : Nat → Value) (a0 : Act) (listed : Array Bool) (a : Act) : Prop :=
  a.defers = a0.defers ∧ a.tmps.size = a0.tmps.size ∧ ∀ t, t < a0.tmps.size → a.tmps[t]? = (match own t with | some i => if listed.getD i false = true then some (vals i) else a0.tmps[t]? | none => a0.tmps[t]?)
theorem tabd_start {listed : Array Bool} (hl : ∀ i, listed.getD i false = false) : Tabd own vals a0 listed a0 := by
  refine ⟨rfl, rfl, fun t _ => ?_⟩
  cases own t with
  | none => rfl
  | some i => simp only [hl i, Bool.false_eq_true, if_false]
theorem tabd_put {listed : Array Bool} {a : Act} {i d : Nat} (h : Tabd own vals a0 listed a) (hi : i < listed.size) (hd : d < a0.tmps.size) (hod : own d = some i) (hinj : ∀ t, own t = some i → t = d) :
    Tabd own vals a0 (listed.setIfInBounds i true) (a.put (some d) (vals i)) := by
  obtain ⟨h1, h2, h3⟩ := h
  refine ⟨h1, by simp [Act.put, h2], fun t ht => ?_⟩
  simp only [Act.put, Array.getElem?_setIfInBounds]
  by_cases e : d = t
  · subst e
    rw [if_pos rfl, if_pos (by omega), hod]
    have : (listed.setIfInBounds i true).getD i false = true := by simp [hi]
    simp only [this, if_true]
  · rw [if_neg e, h3 t ht]
    cases ho : own t with
    | none => rfl
    | some j =>
      have hji : j ≠ i := fun e2 => e (hinj t (by rw [ho, e2])).symm
      simp only [getD_set_ne false hji.symm]
/-- what a temporary holds -/
theorem tabd_at {listed : Array Bool} {a : Act} (h : Tabd own vals a0 listed a) {t i : Nat} (ht : t < a0.tmps.size) (ho : own t = some i) (hi : listed.getD i false = true) : a.eval (.tmp t) = vals i := by
  have := h.2.2 t ht
  rw [ho] at this
  simp only [hi, if_true] at this
  show a.tmps.getD t undef = _
  rw [Array.getD_eq_getD_getElem?, this]
  rfl
theorem tabd_old {listed : Array Bool} {a : Act} (h : Tabd own vals a0 listed a) {t : Nat} (ht : t < a0.tmps.size) (ho : own t = none) : a.eval (.tmp t) = a0.eval (.tmp t) := by
  have := h.2.2 t ht
  rw [ho] at this
  show a.tmps.getD t undef = a0.tmps.getD t undef
  rw [Array.getD_eq_getD_getElem?, Array.getD_eq_getD_getElem?, this]

theorem table_in (last : Nat) (w : World)
    (hac : ∀ (i : Nat) (oi : Oper), ops[i]? = some oi → ∀ e ∈ oi.after, e.on < i)
    (hdst : ∀ i oi, ops[i]? = some oi → i ≠ last → ∃ d, oi.dst = some d ∧ d < a0.tmps.size ∧ own d = some i ∧ ∀ t, own t = some i → t = d)
    (hop : ∀ i oi a listed, ops[i]? = some oi → i ≠ last → (∀ e ∈ oi.after, Region.binds md e = true → listed.getD e.on false = true) → Tabd own vals a0 listed a →
      Region.wanted oi (yielded ops a.tmps) = true ∧ ∀ K : Act → World → Prop, K (a.put oi.dst (vals i)) w → Oper.wpIn F n P oi a w K Q)
    (hall : ∀ listed : Array Bool, (∀ i oi, ops[i]? = some oi → listed.getD i false = true → ∀ e ∈ oi.after, Region.binds md e = true → listed.getD e.on false = true) →
      (∀ ol, ops[last]? = some ol → ∀ e ∈ ol.after, Region.binds md e = true → listed.getD e.on false = true) → ∀ i, i < ops.size → i ≠ last → listed.getD i false = true)
    (hl : ∀ a listed, (∀ i, i < ops.size → i ≠ last → listed.getD i false = true) → Tabd own vals a0 listed a → ∀ K : Act → World → Prop, (∀ a' w', Q .normal a' w' → K a' w') → wpOpIn F n P ops Q last K a w) :
    ∀ (fuel : Nat) (listed : Array Bool) (a : Act), listed.size = ops.size → (∀ i oi, ops[i]? = some oi → listed.getD i false = true → ∀ e ∈ oi.after, Region.binds md e = true → listed.getD e.on false = true) →
      listed.getD last true = false → listed.toList.count false ≤ fuel → Tabd own vals a0 listed a → wpAnyIn F n P md ops Q fuel listed a w := by
  intro fuel
  induction fuel with
  | zero =>
    intro listed a hs _ hlast hc _
    have hmem : false ∈ listed.toList := by
      rcases Nat.lt_or_ge last listed.size with h | h
      · rw [Array.getD_eq_getD_getElem?, Array.getElem?_eq_getElem h] at hlast
        have e : listed[last] = false := by simpa using hlast
        rw [← e]
        exact Array.mem_toList_iff.2 (Array.getElem_mem h)
      · rw [Array.getD_eq_getD_getElem?, Array.getElem?_eq_none h] at hlast
        cases hlast
    have := List.count_pos_iff.2 hmem
    omega
  | succ fuel ih =>
    intro listed a hs hcl hlast hc ht
    have climb : ∀ k, listed.getD k true = false → ∃ j, j ∈ Region.ready md ops listed := by
      intro k
      induction k using Nat.strongRecOn with
      | _ k ihk =>
        intro hk
        have hks : k < listed.size := by
          rcases Nat.lt_or_ge k listed.size with h | h
          · exact h
          · rw [Array.getD_eq_getD_getElem?, Array.getElem?_eq_none h] at hk; cases hk
        obtain ⟨ok, hok⟩ : ∃ o, ops[k]? = some o := ⟨_, Array.getElem?_eq_getElem (by omega)⟩
        by_cases hd : ∀ e ∈ ok.after, Region.binds md e = true → listed.getD e.on false = true
        · exact ⟨k, mem_ready.2 ⟨hk, ok, hok, hd⟩⟩
        · obtain ⟨e, he, hn⟩ : ∃ e, e ∈ ok.after ∧ ¬ (Region.binds md e = true → listed.getD e.on false = true) := by
            refine Classical.byContradiction fun hx => hd fun e he hb => Classical.byContradiction fun hy => hx ⟨e, he, fun h => hy (h hb)⟩
          have hlt := hac k ok hok e he
          refine ihk e.on hlt ?_
          have hn2 : listed.getD e.on false ≠ true := fun h => hn fun _ => h
          have hes : e.on < listed.size := by omega
          rw [Array.getD_eq_getD_getElem?, Array.getElem?_eq_getElem hes] at hn2 ⊢
          simpa using hn2
    have some_ready : Region.ready md ops listed = [] → Q .normal a w := fun hr => by
      obtain ⟨j, hj⟩ := climb last hlast
      rw [hr] at hj
      cases hj
    refine ⟨some_ready, fun i hi => ?_⟩
    obtain ⟨hun, oi, hoi, hdeps⟩ := mem_ready.1 hi
    have hilt : i < ops.size := (Array.getElem?_eq_some_iff.1 hoi).1
    by_cases hil : i = last
    · subst hil
      have hothers := hall listed hcl (fun ol hol => by rw [hoi] at hol; injection hol with hol; subst hol; exact hdeps)
      refine hl a listed hothers ht _ (fun a' w' hq => wpAnyIn_done ?_ hq fuel)
      refine List.eq_nil_iff_forall_not_mem.2 fun j hj => ?_
      obtain ⟨hj1, oj, hoj, _⟩ := mem_ready.1 hj
      have hjlt : j < ops.size := (Array.getElem?_eq_some_iff.1 hoj).1
      by_cases hji : j = i
      · subst hji
        simp [hs, hjlt] at hj1
      · rw [getD_set_ne true (Ne.symm hji)] at hj1
        have h2 := hothers j hjlt hji
        rw [Array.getD_eq_getD_getElem?, Array.getElem?_eq_getElem (by omega)] at hj1 h2
        simp only [Option.getD_some] at hj1 h2
        rw [hj1] at h2
        cases h2
    · obtain ⟨hw, hK⟩ := hop i oi a listed hoi hil hdeps ht
      obtain ⟨d, hd, hdl, hod, hinj⟩ := hdst i oi hoi hil
      unfold wpOpIn
      rw [hoi]
      simp only [hw, if_true]
      refine hK _ (ih _ _ (by simp [hs]) (fun j oj hoj hj e he hb => ?_) (by rw [getD_set_ne true hil]; exact hlast) ?_ (by rw [hd]; exact tabd_put ht (by omega) hdl hod hinj))
      · have keep : ∀ k, listed.getD k false = true → (listed.setIfInBounds i true).getD k false = true := fun k hk => by
          by_cases e2 : i = k
          · subst e2; simp [hs, hilt]
          · rw [getD_set_ne false e2]; exact hk
        by_cases hji : i = j
        · subst hji
          rw [hoi] at hoj
          injection hoj with hoj
          subst hoj
          exact keep _ (hdeps e he hb)
        · rw [getD_set_ne false hji] at hj
          exact keep _ (hcl j oj hoj hj e he hb)
      · have hif : listed[i]'(by omega) = false := by
          rw [Array.getD_eq_getD_getElem?, Array.getElem?_eq_getElem (by omega)] at hun
          simpa using hun
        have hil2 : i < listed.toList.length := by simp; omega
        have hli : listed.toList[i] = false := by simpa using hif
        have e : (listed.setIfInBounds i true).toList = listed.toList.set i true := by simp
        rw [e, List.count_set hil2, hli]
        have e5 : (if (true == false) = true then 1 else 0) = 0 := rfl
        have e6 : (if (false == false) = true then 1 else 0) = 1 := rfl
        rw [e5, e6]
        omega
end
end Go.Word
