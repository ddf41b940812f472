/-
What is proved here: regions whose order is open, every order at once: of whatever program.
-/
import Derived.OrdersIn
import Derived.WalkKit
import Derived.OwnWalkIn
import Derived.Orders
import Derived.Deep.MidRow
import Derived.Great.BuildSlice
set_option linter.unusedSimpArgs false
set_option linter.unusedVariables false
namespace Go.Word

section
variable {F : Fence} {n : Nat} {P : Program} {md : Region.Mode} {ops : Array Oper} {Q : Exit → Act → World → Prop} {own : Nat → Option Nat} {vals : Nat → Value} {a0 : Act}

/-- the frame behind those that have come up: each temporary that is theirs holds its value -/
def Tabd (own : Nat → Option Nat) (vals : Nat → Value) (a0 : Act) (listed : Array Bool) (a : Act) : Prop :=
  a.defers = a0.defers ∧ a.tmps.size = a0.tmps.size ∧ ∀ t, t < a0.tmps.size → a.tmps[t]? = (match own t with | some i => if listed.getD i false = true then some (vals i) else a0.tmps[t]? | none => a0.tmps[t]?)
theorem tabd_start {listed : Array Bool} (hl : ∀ i, listed.getD i false = false) : Tabd own vals a0 listed a0 := by
  refine ⟨rfl, rfl, fun t _ => ?_⟩
  cases own t with
  | none => rfl
  | some i => simp only [hl i, Bool.false_eq_true, if_false]
theorem tabd_put {listed : Array Bool} {a : Act} {i d : Nat} (h : Tabd own vals a0 listed a) (hi : i < listed.size) (hd : d < a0.tmps.size) (hod : own d = some i) (hinj : ∀ t, own t = some i → t = d) :
    Tabd own vals a0 (listed.setIfInBounds i true) (a.put (some d) (vals i)) := by
  obtain ⟨h1, h2, h3⟩ := h
  refine ⟨h1, by simp [Act.put, h2], fun t ht => ?_⟩
  simp only [Act.put, Array.getElem?_setIfInBounds]
  by_cases e : d = t
  · subst e
    rw [if_pos rfl, if_pos (by omega), hod]
    have : (listed.setIfInBounds i true).getD i false = true := by simp [hi]
    simp only [this, if_true]
  · rw [if_neg e, h3 t ht]
    cases ho : own t with
    | none => rfl
    | some j =>
      have hji : j ≠ i := fun e2 => e (hinj t (by rw [ho, e2])).symm
      simp only [getD_set_ne false hji.symm]
/-- what a temporary holds -/
theorem tabd_at {listed : Array Bool} {a : Act} (h : Tabd own vals a0 listed a) {t i : Nat} (ht : t < a0.tmps.size) (ho : own t = some i) (hi : listed.getD i false = true) : a.eval (.tmp t) = vals i := by
  have := h.2.2 t ht
  rw [ho] at this
  simp only [hi, if_true] at this
  show a.tmps.getD t undef = _
  rw [Array.getD_eq_getD_getElem?, this]
  rfl
theorem tabd_old {listed : Array Bool} {a : Act} (h : Tabd own vals a0 listed a) {t : Nat} (ht : t < a0.tmps.size) (ho : own t = none) : a.eval (.tmp t) = a0.eval (.tmp t) := by
  have := h.2.2 t ht
  rw [ho] at this
  show a.tmps.getD t undef = a0.tmps.getD t undef
  rw [Array.getD_eq_getD_getElem?, Array.getD_eq_getD_getElem?, this]

theorem table_in (last : Nat) (w : World)
    (hac : ∀ (i : Nat) (oi : Oper), ops[i]? = some oi → ∀ e ∈ oi.after, e.on < i)
    (hdst : ∀ i oi, ops[i]? = some oi → i ≠ last → ∃ d, oi.dst = some d ∧ d < a0.tmps.size ∧ own d = some i ∧ ∀ t, own t = some i → t = d)
    (hop : ∀ i oi a listed, ops[i]? = some oi → i ≠ last → (∀ e ∈ oi.after, Region.binds md e = true → listed.getD e.on false = true) → Tabd own vals a0 listed a →
      Region.wanted oi (yielded ops a.tmps) = true ∧ ∀ K : Act → World → Prop, K (a.put oi.dst (vals i)) w → Oper.wpIn F n P oi a w K Q)
    (hall : ∀ listed : Array Bool, (∀ i oi, ops[i]? = some oi → listed.getD i false = true → ∀ e ∈ oi.after, Region.binds md e = true → listed.getD e.on false = true) →
      (∀ ol, ops[last]? = some ol → ∀ e ∈ ol.after, Region.binds md e = true → listed.getD e.on false = true) → ∀ i, i < ops.size → i ≠ last → listed.getD i false = true)
    (hl : ∀ a listed, (∀ i, i < ops.size → i ≠ last → listed.getD i false = true) → Tabd own vals a0 listed a → ∀ K : Act → World → Prop, (∀ a' w', Q .normal a' w' → K a' w') → wpOpIn F n P ops Q last K a w) :
    ∀ (fuel : Nat) (listed : Array Bool) (a : Act), listed.size = ops.size → (∀ i oi, ops[i]? = some oi → listed.getD i false = true → ∀ e ∈ oi.after, Region.binds md e = true → listed.getD e.on false = true) →
      listed.getD last true = false → listed.toList.count false ≤ fuel → Tabd own vals a0 listed a → wpAnyIn F n P md ops Q fuel listed a w := by
  intro fuel
  induction fuel with
  | zero =>
    intro listed a hs _ hlast hc _
    have hmem : false ∈ listed.toList := by
      rcases Nat.lt_or_ge last listed.size with h | h
      · rw [Array.getD_eq_getD_getElem?, Array.getElem?_eq_getElem h] at hlast
        have e : listed[last] = false := by simpa using hlast
        rw [← e]
        exact Array.mem_toList_iff.2 (Array.getElem_mem h)
      · rw [Array.getD_eq_getD_getElem?, Array.getElem?_eq_none h] at hlast
        cases hlast
    have := List.count_pos_iff.2 hmem
    omega
  | succ fuel ih =>
    intro listed a hs hcl hlast hc ht
    have climb : ∀ k, listed.getD k true = false → ∃ j, j ∈ Region.ready md ops listed := by
      intro k
      induction k using Nat.strongRecOn with
      | _ k ihk =>
        intro hk
        have hks : k < listed.size := by
          rcases Nat.lt_or_ge k listed.size with h | h
          · exact h
          · rw [Array.getD_eq_getD_getElem?, Array.getElem?_eq_none h] at hk; cases hk
        obtain ⟨ok, hok⟩ : ∃ o, ops[k]? = some o := ⟨_, Array.getElem?_eq_getElem (by omega)⟩
        by_cases hd : ∀ e ∈ ok.after, Region.binds md e = true → listed.getD e.on false = true
        · exact ⟨k, mem_ready.2 ⟨hk, ok, hok, hd⟩⟩
        · obtain ⟨e, he, hn⟩ : ∃ e, e ∈ ok.after ∧ ¬ (Region.binds md e = true → listed.getD e.on false = true) := by
            refine Classical.byContradiction fun hx => hd fun e he hb => Classical.byContradiction fun hy => hx ⟨e, he, fun h => hy (h hb)⟩
          have hlt := hac k ok hok e he
          refine ihk e.on hlt ?_
          have hn2 : listed.getD e.on false ≠ true := fun h => hn fun _ => h
          have hes : e.on < listed.size := by omega
          rw [Array.getD_eq_getD_getElem?, Array.getElem?_eq_getElem hes] at hn2 ⊢
          simpa using hn2
    have some_ready : Region.ready md ops listed = [] → Q .normal a w := fun hr => by
      obtain ⟨j, hj⟩ := climb last hlast
      rw [hr] at hj
      cases hj
    refine ⟨some_ready, fun i hi => ?_⟩
    obtain ⟨hun, oi, hoi, hdeps⟩ := mem_ready.1 hi
    have hilt : i < ops.size := (Array.getElem?_eq_some_iff.1 hoi).1
    by_cases hil : i = last
    · subst hil
      have hothers := hall listed hcl (fun ol hol => by rw [hoi] at hol; injection hol with hol; subst hol; exact hdeps)
      refine hl a listed hothers ht _ (fun a' w' hq => wpAnyIn_done ?_ hq fuel)
      refine List.eq_nil_iff_forall_not_mem.2 fun j hj => ?_
      obtain ⟨hj1, oj, hoj, _⟩ := mem_ready.1 hj
      have hjlt : j < ops.size := (Array.getElem?_eq_some_iff.1 hoj).1
      by_cases hji : j = i
      · subst hji
        simp [hs, hjlt] at hj1
      · rw [getD_set_ne true (Ne.symm hji)] at hj1
        have h2 := hothers j hjlt hji
        rw [Array.getD_eq_getD_getElem?, Array.getElem?_eq_getElem (by omega)] at hj1 h2
        simp only [Option.getD_some] at hj1 h2
        rw [hj1] at h2
        cases h2
    · obtain ⟨hw, hK⟩ := hop i oi a listed hoi hil hdeps ht
      obtain ⟨d, hd, hdl, hod, hinj⟩ := hdst i oi hoi hil
      unfold wpOpIn
      rw [hoi]
      simp only [hw, if_true]
      refine hK _ (ih _ _ (by simp [hs]) (fun j oj hoj hj e he hb => ?_) (by rw [getD_set_ne true hil]; exact hlast) ?_ (by rw [hd]; exact tabd_put ht (by omega) hdl hod hinj))
      · have keep : ∀ k, listed.getD k false = true → (listed.setIfInBounds i true).getD k false = true := fun k hk => by
          by_cases e2 : i = k
          · subst e2; simp [hs, hilt]
          · rw [getD_set_ne false e2]; exact hk
        by_cases hji : i = j
        · subst hji
          rw [hoi] at hoj
          injection hoj with hoj
          subst hoj
          exact keep _ (hdeps e he hb)
        · rw [getD_set_ne false hji] at hj
          exact keep _ (hcl j oj hoj hj e he hb)
      · have hif : listed[i]'(by omega) = false := by
          rw [Array.getD_eq_getD_getElem?, Array.getElem?_eq_getElem (by omega)] at hun
          simpa using hun
        have hil2 : i < listed.toList.length := by simp; omega
        have hli : listed.toList[i] = false := by simpa using hif
        have e : (listed.setIfInBounds i true).toList = listed.toList.set i true := by simp
        rw [e, List.count_set hil2, hli]
        have e5 : (if (true == false) = true then 1 else 0) = 0 := rfl
        have e6 : (if (false == false) = true then 1 else 0) = 1 := rfl
        rw [e5, e6]
        omega
end
end Go.Word
namespace Go.Word

def ownOf (ops : Array Oper) (last : Nat) (t : Nat) : Option Nat := (List.range ops.size).find? fun i => i != last && ((ops[i]?).bind (·.dst) == some t)
def dstOk (ops : Array Oper) (last m : Nat) : Bool := (List.range ops.size).all fun i => i == last || (match (ops[i]?).bind (·.dst) with | some d => decide (d < m) && (ownOf ops last d == some i) | none => false)
def acOk (ops : Array Oper) : Bool := (List.range ops.size).all fun i => match ops[i]? with | some o => o.after.all fun e => decide (e.on < i) | none => true
theorem own_spec {ops : Array Oper} {last t i : Nat} (h : ownOf ops last t = some i) : (ops[i]?).bind (·.dst) = some t := by
  have := List.find?_some h
  simp only [Bool.and_eq_true, beq_iff_eq] at this
  exact this.2
theorem dst_of {ops : Array Oper} {last m : Nat} (h : dstOk ops last m = true) (i : Nat) (oi : Oper) (hi : ops[i]? = some oi) (hl : i ≠ last) : ∃ d, oi.dst = some d ∧ d < m ∧ ownOf ops last d = some i ∧ ∀ t, ownOf ops last t = some i → t = d := by
  have hlt : i < ops.size := (Array.getElem?_eq_some_iff.1 hi).1
  have := List.all_eq_true.1 h i (List.mem_range.2 hlt)
  rw [hi] at this
  simp only [Option.bind_some, Bool.or_eq_true, beq_iff_eq] at this
  rcases this with e | e
  · exact absurd e hl
  · cases hd : oi.dst with
    | none => rw [hd] at e; cases e
    | some d =>
      rw [hd] at e
      simp only [Bool.and_eq_true, decide_eq_true_eq, beq_iff_eq] at e
      refine ⟨d, rfl, e.1, e.2, fun t ht => ?_⟩
      have e2 := own_spec ht
      rw [hi, Option.bind_some, hd] at e2
      injection e2 with e2
      exact e2.symm
theorem ac_of {ops : Array Oper} (h : acOk ops = true) (i : Nat) (oi : Oper) (hi : ops[i]? = some oi) : ∀ e ∈ oi.after, e.on < i := fun e he => by
  have hlt : i < ops.size := (Array.getElem?_eq_some_iff.1 hi).1
  have := List.all_eq_true.1 h i (List.mem_range.2 hlt)
  rw [hi] at this
  simp only [Array.all_eq_true_iff_forall_mem, decide_eq_true_eq] at this
  exact this e he
section
variable {F : Fence} {n : Nat} {P : Program} {Q : Exit → Act → World → Prop} {a : Act} {w : World} {K : Act → World → Prop} {oi : Oper}
theorem wpIn_value {v : Value} (hnd : ∀ c, oi.op ≠ .defer c) (hab : oi.about P w a.eval = none) (hr : (execOp a.eval oi).run P w = .ok (.value v) w) (h : K (a.put oi.dst v) w) : Oper.wpIn F n P oi a w K Q :=
  ⟨fun f hf => (by rw [hab] at hf; cases hf), by rw [Oper.semAt_eq _ _ _ hnd, hr]; exact h⟩
theorem wpIn_turn {v : Value} {w' : World} (hnd : ∀ c, oi.op ≠ .defer c) (hab : ∀ f, oi.about P w a.eval = some f → F.fn f) (hr : (execOp a.eval oi).run P w = .ok (.value v) w') (h : K (a.put oi.dst v) w') : Oper.wpIn F n P oi a w K Q :=
  ⟨hab, by rw [Oper.semAt_eq _ _ _ hnd, hr]; exact h⟩
theorem wpIn_call {v : Value} {f : FuncId} {args : Array Value} (hnd : ∀ c, oi.op ≠ .defer c) (hab : ∀ f, oi.about P w a.eval = some f → F.fn f) (hr : (execOp a.eval oi).run P w = .ok (.enter f args) w) (hn : 1 ≤ n) (hc : CallsIn F (n - 1) P f args w fun e w' => e = .returned v ∧ w = w') (h : K (a.put oi.dst v) w) : Oper.wpIn F n P oi a w K Q :=
  ⟨hab, by
    rw [Oper.semAt_eq _ _ _ hnd, hr]
    refine ⟨fun _ => hn, hc.mono ?_⟩
    rintro e w' ⟨rfl, rfl⟩
    exact h⟩
end
end Go.Word
namespace Go.Word

section
variable {F : Fence} {n : Nat} {P : Program} {md : Region.Mode} {ops : Array Oper} {Q : Exit → Act → World → Prop} {own : Nat → Option Nat} {vals : Nat → Value} {a0 : Act}

/-- what has come up: with each, what it waits for -/
def Shut (md : Region.Mode) (ops : Array Oper) (listed : Array Bool) : Prop := ∀ i oi, ops[i]? = some oi → listed.getD i false = true → ∀ e ∈ oi.after, Region.binds md e = true → listed.getD e.on false = true
theorem shut_set {listed : Array Bool} (h : Shut md ops listed) (hs : listed.size = ops.size) {i : Nat} {oi : Oper} (hoi : ops[i]? = some oi) (hd : ∀ e ∈ oi.after, Region.binds md e = true → listed.getD e.on false = true) : Shut md ops (listed.setIfInBounds i true) := by
  intro j oj hoj hj e he hb
  have hilt : i < ops.size := (Array.getElem?_eq_some_iff.1 hoi).1
  have keep : ∀ k, listed.getD k false = true → (listed.setIfInBounds i true).getD k false = true := fun k hk => by
    by_cases e2 : i = k
    · subst e2; simp [hs, hilt]
    · rw [getD_set_ne false e2]; exact hk
  by_cases hji : i = j
  · subst hji
    rw [hoi] at hoj
    injection hoj with hoj
    subst hoj
    exact keep _ (hd e he hb)
  · rw [getD_set_ne false hji] at hj
    exact keep _ (h j oj hoj hj e he hb)
theorem tabd_skip {listed : Array Bool} {a : Act} {i : Nat} (h : Tabd own vals a0 listed a) (hod : ∀ t, own t ≠ some i) : Tabd own vals a0 (listed.setIfInBounds i true) (a.put none (vals i)) := by
  obtain ⟨h1, h2, h3⟩ := h
  refine ⟨h1, h2, fun t ht => ?_⟩
  show a.tmps[t]? = _
  rw [h3 t ht]
  cases ho : own t with
  | none => rfl
  | some j =>
    have hji : i ≠ j := fun e => hod t (by rw [ho, e])
    simp only [getD_set_ne false hji]
theorem all_listed {rank : Nat → Nat} {listed : Array Bool} (hac : ∀ (i : Nat) (oi : Oper), ops[i]? = some oi → ∀ e ∈ oi.after, Region.binds md e = true → rank e.on < rank i) (hs : listed.size = ops.size)
    (hon : ∀ (i : Nat) (oi : Oper), ops[i]? = some oi → ∀ e ∈ oi.after, e.on < ops.size) (hr : Region.ready md ops listed = []) : ∀ i, i < ops.size → listed.getD i false = true := by
  have key : ∀ r i, rank i = r → i < ops.size → listed.getD i false = true := by
    intro r
    induction r using Nat.strongRecOn with
    | _ r ih =>
      intro i hri hi
      obtain ⟨oi, hoi⟩ : ∃ o, ops[i]? = some o := ⟨_, Array.getElem?_eq_getElem hi⟩
      refine Classical.byContradiction fun hn => ?_
      have hun : listed.getD i true = false := by
        rw [Array.getD_eq_getD_getElem?, Array.getElem?_eq_getElem (by omega)] at hn ⊢
        simpa using hn
      have : i ∈ Region.ready md ops listed := mem_ready.2 ⟨hun, oi, hoi, fun e he hb => ih _ (by rw [← hri]; exact hac i oi hoi e he hb) e.on rfl (hon i oi hoi e he)⟩
      rw [hr] at this
      cases this
  exact fun i hi => key _ i rfl hi
theorem count_set {listed : Array Bool} {i k : Nat} (hi : i < listed.size) (hu : listed.getD i true = false) (hc : listed.toList.count false ≤ k + 1) : (listed.setIfInBounds i true).toList.count false ≤ k := by
  have hif : listed[i]'hi = false := by
    rw [Array.getD_eq_getD_getElem?, Array.getElem?_eq_getElem hi] at hu
    simpa using hu
  have hil2 : i < listed.toList.length := by simpa using hi
  have hli : listed.toList[i] = false := by simpa using hif
  have e : (listed.setIfInBounds i true).toList = listed.toList.set i true := by simp
  rw [e, List.count_set hil2, hli]
  have e5 : (if (true == false) = true then 1 else 0) = 0 := rfl
  have e6 : (if (false == false) = true then 1 else 0) = 1 := rfl
  rw [e5, e6]
  omega
theorem count_pos {listed : Array Bool} {i : Nat} (hi : i < listed.size) (hu : listed.getD i true = false) : 1 ≤ listed.toList.count false := by
  have hmem : false ∈ listed.toList := by
    rw [Array.getD_eq_getD_getElem?, Array.getElem?_eq_getElem hi] at hu
    have e : listed[i] = false := by simpa using hu
    rw [← e]
    exact Array.mem_toList_iff.2 (Array.getElem_mem hi)
  exact List.count_pos_iff.2 hmem

theorem every_in (rank : Nat → Nat) (Wf : Array Bool → World)
    (hac : ∀ (i : Nat) (oi : Oper), ops[i]? = some oi → ∀ e ∈ oi.after, Region.binds md e = true → rank e.on < rank i)
    (hon : ∀ (i : Nat) (oi : Oper), ops[i]? = some oi → ∀ e ∈ oi.after, e.on < ops.size)
    (hdst : ∀ i oi, ops[i]? = some oi → (oi.dst = none ∧ ∀ t, own t ≠ some i) ∨ ∃ d, oi.dst = some d ∧ d < a0.tmps.size ∧ own d = some i ∧ ∀ t, own t = some i → t = d)
    (hop : ∀ i oi a listed, ops[i]? = some oi → listed.getD i false = false → listed.size = ops.size → Shut md ops listed → (∀ e ∈ oi.after, Region.binds md e = true → listed.getD e.on false = true) → Tabd own vals a0 listed a →
      Region.wanted oi (yielded ops a.tmps) = true ∧ ∀ K : Act → World → Prop, K (a.put oi.dst (vals i)) (Wf (listed.setIfInBounds i true)) → Oper.wpIn F n P oi a (Wf listed) K Q)
    (hend : ∀ a listed, (∀ i, i < ops.size → listed.getD i false = true) → Tabd own vals a0 listed a → Q .normal a (Wf listed)) :
    ∀ (fuel : Nat) (listed : Array Bool) (a : Act), listed.size = ops.size → Shut md ops listed → listed.toList.count false ≤ fuel → Tabd own vals a0 listed a → wpAnyIn F n P md ops Q fuel listed a (Wf listed) := by
  intro fuel
  induction fuel with
  | zero =>
    intro listed a hs hcl hc ht
    have hr : Region.ready md ops listed = [] := List.eq_nil_iff_forall_not_mem.2 fun j hj => by
      obtain ⟨hun, oj, hoj, _⟩ := mem_ready.1 hj
      have hjlt : j < ops.size := (Array.getElem?_eq_some_iff.1 hoj).1
      have := count_pos (by omega) hun
      omega
    exact ⟨hr, hend a listed (all_listed hac hs hon hr) ht⟩
  | succ fuel ih =>
    intro listed a hs hcl hc ht
    refine ⟨fun hr => hend a listed (all_listed hac hs hon hr) ht, fun i hi => ?_⟩
    obtain ⟨hun, oi, hoi, hdeps⟩ := mem_ready.1 hi
    have hilt : i < ops.size := (Array.getElem?_eq_some_iff.1 hoi).1
    have hun2 : listed.getD i false = false := by
      rw [Array.getD_eq_getD_getElem?, Array.getElem?_eq_getElem (by omega)] at hun ⊢
      simpa using hun
    obtain ⟨hw, hK⟩ := hop i oi a listed hoi hun2 hs hcl hdeps ht
    unfold wpOpIn
    rw [hoi]
    simp only [hw, if_true]
    refine hK _ (ih _ _ (by simp [hs]) (shut_set hcl hs hoi hdeps) (count_set (by omega) hun hc) ?_)
    rcases hdst i oi hoi with ⟨hd, hno⟩ | ⟨d, hd, hdl, hod, hinj⟩
    · rw [hd]; exact tabd_skip ht hno
    · rw [hd]; exact tabd_put ht (by omega) hdl hod hinj
/-- the same, where no fence is -/
theorem every (rank : Nat → Nat) (Wf : Array Bool → World)
    (hac : ∀ (i : Nat) (oi : Oper), ops[i]? = some oi → ∀ e ∈ oi.after, Region.binds md e = true → rank e.on < rank i)
    (hon : ∀ (i : Nat) (oi : Oper), ops[i]? = some oi → ∀ e ∈ oi.after, e.on < ops.size)
    (hdst : ∀ i oi, ops[i]? = some oi → (oi.dst = none ∧ ∀ t, own t ≠ some i) ∨ ∃ d, oi.dst = some d ∧ d < a0.tmps.size ∧ own d = some i ∧ ∀ t, own t = some i → t = d)
    (hop : ∀ i oi a listed, ops[i]? = some oi → listed.getD i false = false → listed.size = ops.size → Shut md ops listed → (∀ e ∈ oi.after, Region.binds md e = true → listed.getD e.on false = true) → Tabd own vals a0 listed a →
      Region.wanted oi (yielded ops a.tmps) = true ∧ ∀ K : Act → World → Prop, K (a.put oi.dst (vals i)) (Wf (listed.setIfInBounds i true)) → Oper.wp P oi a (Wf listed) K Q)
    (hend : ∀ a listed, (∀ i, i < ops.size → listed.getD i false = true) → Tabd own vals a0 listed a → Q .normal a (Wf listed)) :
    ∀ (fuel : Nat) (listed : Array Bool) (a : Act), listed.size = ops.size → Shut md ops listed → listed.toList.count false ≤ fuel → Tabd own vals a0 listed a → wpAny P md ops Q fuel listed a (Wf listed) := by
  intro fuel
  induction fuel with
  | zero =>
    intro listed a hs hcl hc ht
    have hr : Region.ready md ops listed = [] := List.eq_nil_iff_forall_not_mem.2 fun j hj => by
      obtain ⟨hun, oj, hoj, _⟩ := mem_ready.1 hj
      have hjlt : j < ops.size := (Array.getElem?_eq_some_iff.1 hoj).1
      have := count_pos (by omega) hun
      omega
    exact ⟨hr, hend a listed (all_listed hac hs hon hr) ht⟩
  | succ fuel ih =>
    intro listed a hs hcl hc ht
    refine ⟨fun hr => hend a listed (all_listed hac hs hon hr) ht, fun i hi => ?_⟩
    obtain ⟨hun, oi, hoi, hdeps⟩ := mem_ready.1 hi
    have hilt : i < ops.size := (Array.getElem?_eq_some_iff.1 hoi).1
    have hun2 : listed.getD i false = false := by
      rw [Array.getD_eq_getD_getElem?, Array.getElem?_eq_getElem (by omega)] at hun ⊢
      simpa using hun
    obtain ⟨hw, hK⟩ := hop i oi a listed hoi hun2 hs hcl hdeps ht
    unfold wpOp
    rw [hoi]
    simp only [hw, if_true]
    refine .inl (hK _ (ih _ _ (by simp [hs]) (shut_set hcl hs hoi hdeps) (count_set (by omega) hun hc) ?_))
    rcases hdst i oi hoi with ⟨hd, hno⟩ | ⟨d, hd, hdl, hod, hinj⟩
    · rw [hd]; exact tabd_skip ht hno
    · rw [hd]; exact tabd_put ht (by omega) hdl hod hinj
end

/-! the checks, by looking at a region's text -/
def ownAll (ops : Array Oper) (t : Nat) : Option Nat := (List.range ops.size).find? fun i => (ops[i]?).bind (·.dst) == some t
def dstAll (ops : Array Oper) (m : Nat) : Bool := (List.range ops.size).all fun i => match (ops[i]?).bind (·.dst) with | some d => decide (d < m) && (ownAll ops d == some i) | none => true
def acAll (ops : Array Oper) : Bool := (List.range ops.size).all fun i => match ops[i]? with | some o => o.after.all fun e => (match e.ground with | .textOnly _ => true | .gcOnly _ => true | _ => decide (e.on < i)) && decide (e.on < ops.size) | none => true
theorem ownAll_spec {ops : Array Oper} {t i : Nat} (h : ownAll ops t = some i) : (ops[i]?).bind (·.dst) = some t := by
  have := List.find?_some h
  simpa using this
theorem ownAll_lt {ops : Array Oper} {t i : Nat} (h : ownAll ops t = some i) : i < ops.size := by
  have := List.mem_of_find?_eq_some h
  simpa using this
theorem dstAll_of {ops : Array Oper} {m : Nat} (h : dstAll ops m = true) (i : Nat) (oi : Oper) (hi : ops[i]? = some oi) : (oi.dst = none ∧ ∀ t, ownAll ops t ≠ some i) ∨ ∃ d, oi.dst = some d ∧ d < m ∧ ownAll ops d = some i ∧ ∀ t, ownAll ops t = some i → t = d := by
  have hlt : i < ops.size := (Array.getElem?_eq_some_iff.1 hi).1
  have := List.all_eq_true.1 h i (List.mem_range.2 hlt)
  rw [hi] at this
  simp only [Option.bind_some] at this
  cases hd : oi.dst with
  | none =>
    refine .inl ⟨rfl, fun t ht => ?_⟩
    have := ownAll_spec ht
    rw [hi, Option.bind_some, hd] at this
    cases this
  | some d =>
    rw [hd] at this
    simp only [Bool.and_eq_true, decide_eq_true_eq, beq_iff_eq] at this
    refine .inr ⟨d, rfl, this.1, this.2, fun t ht => ?_⟩
    have e2 := ownAll_spec ht
    rw [hi, Option.bind_some, hd] at e2
    injection e2 with e2
    exact e2.symm
theorem acAll_of {ops : Array Oper} (h : acAll ops = true) (i : Nat) (oi : Oper) (hi : ops[i]? = some oi) : ∀ e ∈ oi.after, Region.binds .any e = true → id e.on < id i := fun e he hb => by
  have hlt : i < ops.size := (Array.getElem?_eq_some_iff.1 hi).1
  have := List.all_eq_true.1 h i (List.mem_range.2 hlt)
  rw [hi] at this
  simp only [Array.all_eq_true_iff_forall_mem, Bool.and_eq_true] at this
  have h2 := (this e he).1
  unfold Region.binds at hb
  cases hg : e.ground <;> rw [hg] at h2 hb <;> first | (exact of_decide_eq_true h2) | (cases hb)
theorem onAll_of {ops : Array Oper} (h : acAll ops = true) (i : Nat) (oi : Oper) (hi : ops[i]? = some oi) : ∀ e ∈ oi.after, e.on < ops.size := fun e he => by
  have hlt : i < ops.size := (Array.getElem?_eq_some_iff.1 hi).1
  have := List.all_eq_true.1 h i (List.mem_range.2 hlt)
  rw [hi] at this
  simp only [Array.all_eq_true_iff_forall_mem, Bool.and_eq_true] at this
  exact of_decide_eq_true (this e he).2
theorem shut_none {md : Region.Mode} {ops : Array Oper} (k : Nat) : Shut md ops (Array.replicate k false) := by
  intro i oi _ hi
  rw [Array.getD_eq_getD_getElem?] at hi
  by_cases h : i < k <;> simp [h] at hi
theorem getD_here {listed : Array Bool} {i : Nat} (h : i < listed.size) : (listed.setIfInBounds i true).getD i false = true := by simp [h]
end Go.Word
namespace Go.Word
def fillL (own : Nat → Option Nat) (vals : Nat → Value) : Nat → List Value → List Value
  | _, [] => []
  | t, v :: r => (match own t with | some i => vals i | none => v) :: fillL own vals (t + 1) r
/-- the frame, when all have come up -/
def fill (own : Nat → Option Nat) (vals : Nat → Value) (a0 : Act) : Act := { tmps := (fillL own vals 0 a0.tmps.toList).toArray, defers := a0.defers }
theorem fillL_at (own : Nat → Option Nat) (vals : Nat → Value) : ∀ (l : List Value) (t i : Nat), (fillL own vals t l)[i]? = (l[i]?).map fun v => match own (t + i) with | some j => vals j | none => v
  | [], _, _ => by simp [fillL]
  | v :: r, t, 0 => by simp [fillL]
  | v :: r, t, i + 1 => by
    simp only [fillL, List.getElem?_cons_succ]
    rw [fillL_at own vals r (t + 1) i, show t + 1 + i = t + (i + 1) by omega]
theorem tabd_fill {own : Nat → Option Nat} {vals : Nat → Value} {a0 a : Act} {listed : Array Bool} (h : Tabd own vals a0 listed a) (hall : ∀ t i, own t = some i → listed.getD i false = true) : a = fill own vals a0 := by
  obtain ⟨tm, df⟩ := a
  obtain ⟨h1, h2, h3⟩ := h
  have e1 : df = a0.defers := h1
  have e2 : tm = (fillL own vals 0 a0.tmps.toList).toArray := by
    refine Array.ext_getElem? fun t => ?_
    have eR : ((fillL own vals 0 a0.tmps.toList).toArray)[t]? = (fillL own vals 0 a0.tmps.toList)[t]? := by simp
    rw [eR, fillL_at, Nat.zero_add]
    by_cases ht : t < a0.tmps.size
    · have := h3 t ht
      simp only at this
      rw [this, Array.getElem?_toList, Array.getElem?_eq_getElem ht]
      cases ho : own t with
      | none => rfl
      | some i => simp [hall t i ho]
    · rw [Array.getElem?_eq_none (by have h2' : tm.size = a0.tmps.size := h2; omega), List.getElem?_eq_none (by simpa using ht)]
      rfl
  unfold fill
  rw [e1, e2]
end Go.Word

namespace Go.Word
theorem move_op {P : Program} {ρ : Operand → Value} {oi : Oper} {w : World} {v : Value} (x : Operand) (ho : oi.op = .move x) (hx : ρ x = v) : (execOp ρ oi).run P w = .ok (.value v) w := by
  unfold execOp
  simp only [ho, hx]
  go_simp
theorem rep_false (n i : Nat) : (Array.replicate n false).getD i false = false := by
  rw [Array.getD_eq_getD_getElem?]
  by_cases h : i < n <;> simp [h]
end Go.Word
namespace Go.Word
section
variable {F : Fence} {n : Nat} {P : Program} {md : Region.Mode} {ops : Array Oper} {Q : Exit → Act → World → Prop} {own : Nat → Option Nat} {vals : Nat → Value} {a0 : Act}
theorem every_inv (rank : Nat → Nat) (Inv : World → Prop)
    (hac : ∀ (i : Nat) (oi : Oper), ops[i]? = some oi → ∀ e ∈ oi.after, Region.binds md e = true → rank e.on < rank i)
    (hon : ∀ (i : Nat) (oi : Oper), ops[i]? = some oi → ∀ e ∈ oi.after, e.on < ops.size)
    (hdst : ∀ i oi, ops[i]? = some oi → (oi.dst = none ∧ ∀ t, own t ≠ some i) ∨ ∃ d, oi.dst = some d ∧ d < a0.tmps.size ∧ own d = some i ∧ ∀ t, own t = some i → t = d)
    (hop : ∀ i oi a w listed, ops[i]? = some oi → (∀ e ∈ oi.after, Region.binds md e = true → listed.getD e.on false = true) → Tabd own vals a0 listed a → Inv w →
      (Region.wanted oi (yielded ops a.tmps) = true ∧ ∀ K : Act → World → Prop, (∀ w', Inv w' → K (a.put oi.dst (vals i)) w') → Oper.wp P oi a w K Q) ∨ (Region.wanted oi (yielded ops a.tmps) = false ∧ vals i = undef))
    (hend : ∀ a w listed, (∀ i, i < ops.size → listed.getD i false = true) → Tabd own vals a0 listed a → Inv w → Q .normal a w) :
    ∀ (fuel : Nat) (listed : Array Bool) (a : Act) (w : World), listed.size = ops.size → listed.toList.count false ≤ fuel → Tabd own vals a0 listed a → Inv w → wpAny P md ops Q fuel listed a w := by
  intro fuel
  induction fuel with
  | zero =>
    intro listed a w hs hc ht hI
    have hr : Region.ready md ops listed = [] := List.eq_nil_iff_forall_not_mem.2 fun j hj => by
      obtain ⟨hun, oj, hoj, _⟩ := mem_ready.1 hj
      have hjlt : j < ops.size := (Array.getElem?_eq_some_iff.1 hoj).1
      have := count_pos (by omega) hun
      omega
    exact ⟨hr, hend a w listed (all_listed hac hs hon hr) ht hI⟩
  | succ fuel ih =>
    intro listed a w hs hc ht hI
    refine ⟨fun hr => hend a w listed (all_listed hac hs hon hr) ht hI, fun i hi => ?_⟩
    obtain ⟨hun, oi, hoi, hdeps⟩ := mem_ready.1 hi
    have hilt : i < ops.size := (Array.getElem?_eq_some_iff.1 hoi).1
    have ht' : Tabd own vals a0 (listed.setIfInBounds i true) (a.put oi.dst (vals i)) := by
      rcases hdst i oi hoi with ⟨hd, hno⟩ | ⟨d, hd, hdl, hod, hinj⟩
      · rw [hd]; exact tabd_skip ht hno
      · rw [hd]; exact tabd_put ht (by omega) hdl hod hinj
    unfold wpOp
    rw [hoi]
    rcases hop i oi a w listed hoi hdeps ht hI with ⟨hw, hK⟩ | ⟨hw, hv⟩
    · simp only [hw, if_true]
      exact .inl (hK _ (fun w' hw' => ih _ _ _ (by simp [hs]) (count_set (by omega) hun hc) ht' hw'))
    · simp only [hw, Bool.false_eq_true, if_false]
      rw [hv] at ht'
      exact ih _ _ _ (by simp [hs]) (count_set (by omega) hun hc) ht' hI
/-- the same, within a round or a fence -/
theorem every_inv_in (rank : Nat → Nat) (Inv : World → Prop)
    (hac : ∀ (i : Nat) (oi : Oper), ops[i]? = some oi → ∀ e ∈ oi.after, Region.binds md e = true → rank e.on < rank i)
    (hon : ∀ (i : Nat) (oi : Oper), ops[i]? = some oi → ∀ e ∈ oi.after, e.on < ops.size)
    (hdst : ∀ i oi, ops[i]? = some oi → (oi.dst = none ∧ ∀ t, own t ≠ some i) ∨ ∃ d, oi.dst = some d ∧ d < a0.tmps.size ∧ own d = some i ∧ ∀ t, own t = some i → t = d)
    (hop : ∀ i oi a w listed, ops[i]? = some oi → (∀ e ∈ oi.after, Region.binds md e = true → listed.getD e.on false = true) → Tabd own vals a0 listed a → Inv w →
      (Region.wanted oi (yielded ops a.tmps) = true ∧ ∀ K : Act → World → Prop, (∀ w', Inv w' → K (a.put oi.dst (vals i)) w') → Oper.wpIn F n P oi a w K Q) ∨ (Region.wanted oi (yielded ops a.tmps) = false ∧ (∀ f, oi.about P w a.eval = some f → F.fn f) ∧ vals i = undef))
    (hend : ∀ a w listed, (∀ i, i < ops.size → listed.getD i false = true) → Tabd own vals a0 listed a → Inv w → Q .normal a w) :
    ∀ (fuel : Nat) (listed : Array Bool) (a : Act) (w : World), listed.size = ops.size → listed.toList.count false ≤ fuel → Tabd own vals a0 listed a → Inv w → wpAnyIn F n P md ops Q fuel listed a w := by
  intro fuel
  induction fuel with
  | zero =>
    intro listed a w hs hc ht hI
    have hr : Region.ready md ops listed = [] := List.eq_nil_iff_forall_not_mem.2 fun j hj => by
      obtain ⟨hun, oj, hoj, _⟩ := mem_ready.1 hj
      have hjlt : j < ops.size := (Array.getElem?_eq_some_iff.1 hoj).1
      have := count_pos (by omega) hun
      omega
    exact ⟨hr, hend a w listed (all_listed hac hs hon hr) ht hI⟩
  | succ fuel ih =>
    intro listed a w hs hc ht hI
    refine ⟨fun hr => hend a w listed (all_listed hac hs hon hr) ht hI, fun i hi => ?_⟩
    obtain ⟨hun, oi, hoi, hdeps⟩ := mem_ready.1 hi
    have hilt : i < ops.size := (Array.getElem?_eq_some_iff.1 hoi).1
    have ht' : Tabd own vals a0 (listed.setIfInBounds i true) (a.put oi.dst (vals i)) := by
      rcases hdst i oi hoi with ⟨hd, hno⟩ | ⟨d, hd, hdl, hod, hinj⟩
      · rw [hd]; exact tabd_skip ht hno
      · rw [hd]; exact tabd_put ht (by omega) hdl hod hinj
    unfold wpOpIn
    rw [hoi]
    rcases hop i oi a w listed hoi hdeps ht hI with ⟨hw, hK⟩ | ⟨hw, hab, hv⟩
    · simp only [hw, if_true]
      exact hK _ (fun w' hw' => ih _ _ _ (by simp [hs]) (count_set (by omega) hun hc) ht' hw')
    · simp only [hw, Bool.false_eq_true, if_false]
      rw [hv] at ht'
      exact ⟨hab, ih _ _ _ (by simp [hs]) (count_set (by omega) hun hc) ht' hI⟩
end
end Go.Word
namespace Go.Word
section
variable {P : Program} {Q : Exit → Act → World → Prop} {a : Act} {w w' : World} {K : Act → World → Prop} {oi : Oper}
theorem wp_val {v : Value} (hr : (execOp a.eval oi).run P w = .ok (.value v) w) (h : K (a.put oi.dst v) w) : Oper.wp P oi a w K Q := by
  unfold Oper.wp
  rw [hr]
  exact h
theorem wp_callI {v : Value} {R : World → Prop} {f : FuncId} {args : Array Value} (hr : (execOp a.eval oi).run P w = .ok (.enter f args) w) (hc : Calls P f args w fun e w2 => e = .returned v ∧ R w2) (h : ∀ w2, R w2 → K (a.put oi.dst v) w2) : Oper.wp P oi a w K Q := by
  unfold Oper.wp
  rw [hr]
  refine hc.mono ?_
  rintro e w2 ⟨rfl, hR⟩
  exact h _ hR
theorem load_op {ρ : Operand → Value} {oi : Oper} {w : World} (ty : TypeId) (x : Operand) (ho : oi.op = .load ty x) (b off : Nat) (hx : ρ x = .pointer (some ⟨b, off, none⟩)) (cs : List Value) (d : TypeDesc) (hc : w.rangeAt b off cs)
    (hu : P.underlying ty = some d) (hd : d.isRow = true) (hi : (P.info? ty).map (·.size) = some cs.length) : (execOp ρ oi).run P w = .ok (.value (.agg cs.toArray)) w := by
  unfold execOp
  simp only [ho, hx, Instr.loadAt, Instr.sureAddr, Sem.run_bind, Sem.run_pure, Result.andThen_ok, run_loadVar_mid w b off ty cs d hc hu hd hi]
end
section
variable {own : Nat → Option Nat} {vals : Nat → Value} {a0 a : Act} {ops : Array Oper} {listed : Array Bool} {oi oj : Oper} {j t : Nat} {b c : Bool}
theorem tabd_wanted (ht : Tabd own vals a0 listed a) (hg : oi.guard = some (j, b)) (hd : (ops[j]?).bind (·.dst) = some t) (hl : t < a0.tmps.size) (ho : own t = some j) (hj : listed.getD j false = true) (hv : vals j = .bool b) : Region.wanted oi (yielded ops a.tmps) = true := by
  have h := ht.2.2 t hl
  rw [ho] at h
  simp only [hj, if_true] at h
  unfold Region.wanted yielded
  rw [hg]
  simp only [hd, Option.bind_some, h, hv]
  simp
theorem tabd_unwanted (ht : Tabd own vals a0 listed a) (hg : oi.guard = some (j, b)) (hd : (ops[j]?).bind (·.dst) = some t) (hl : t < a0.tmps.size) (ho : own t = some j) (hj : listed.getD j false = true) (hv : vals j = .bool c) (hne : c ≠ b) : Region.wanted oi (yielded ops a.tmps) = false := by
  have h := ht.2.2 t hl
  rw [ho] at h
  simp only [hj, if_true] at h
  unfold Region.wanted yielded
  rw [hg]
  simp only [hd, Option.bind_some, h, hv]
  simpa using hne
end
end Go.Word
namespace Go.Word
section
variable {P : Program} {md : Region.Mode} {ops : Array Oper} {Q : Exit → Act → World → Prop} {own : Nat → Option Nat} {vals : Nat → Value} {a0 : Act}
theorem every_at (rank : Nat → Nat) (Inv : Array Bool → World → Prop)
    (hac : ∀ (i : Nat) (oi : Oper), ops[i]? = some oi → ∀ e ∈ oi.after, Region.binds md e = true → rank e.on < rank i)
    (hon : ∀ (i : Nat) (oi : Oper), ops[i]? = some oi → ∀ e ∈ oi.after, e.on < ops.size)
    (hdst : ∀ i oi, ops[i]? = some oi → (oi.dst = none ∧ ∀ t, own t ≠ some i) ∨ ∃ d, oi.dst = some d ∧ d < a0.tmps.size ∧ own d = some i ∧ ∀ t, own t = some i → t = d)
    (hop : ∀ i oi a w listed, ops[i]? = some oi → listed.getD i false = false → listed.size = ops.size → Shut md ops listed → (∀ e ∈ oi.after, Region.binds md e = true → listed.getD e.on false = true) → Tabd own vals a0 listed a → Inv listed w →
      (Region.wanted oi (yielded ops a.tmps) = true ∧ ∀ K : Act → World → Prop, (∀ w', Inv (listed.setIfInBounds i true) w' → K (a.put oi.dst (vals i)) w') → Oper.wp P oi a w K Q) ∨ (Region.wanted oi (yielded ops a.tmps) = false ∧ vals i = undef ∧ Inv (listed.setIfInBounds i true) w))
    (hend : ∀ a w listed, (∀ i, i < ops.size → listed.getD i false = true) → Tabd own vals a0 listed a → Inv listed w → Q .normal a w) :
    ∀ (fuel : Nat) (listed : Array Bool) (a : Act) (w : World), listed.size = ops.size → Shut md ops listed → listed.toList.count false ≤ fuel → Tabd own vals a0 listed a → Inv listed w → wpAny P md ops Q fuel listed a w := by
  intro fuel
  induction fuel with
  | zero =>
    intro listed a w hs hcl hc ht hI
    have hr : Region.ready md ops listed = [] := List.eq_nil_iff_forall_not_mem.2 fun j hj => by
      obtain ⟨hun, oj, hoj, _⟩ := mem_ready.1 hj
      have hjlt : j < ops.size := (Array.getElem?_eq_some_iff.1 hoj).1
      have := count_pos (by omega) hun
      omega
    exact ⟨hr, hend a w listed (all_listed hac hs hon hr) ht hI⟩
  | succ fuel ih =>
    intro listed a w hs hcl hc ht hI
    refine ⟨fun hr => hend a w listed (all_listed hac hs hon hr) ht hI, fun i hi => ?_⟩
    obtain ⟨hun, oi, hoi, hdeps⟩ := mem_ready.1 hi
    have hilt : i < ops.size := (Array.getElem?_eq_some_iff.1 hoi).1
    have hun2 : listed.getD i false = false := by
      rw [Array.getD_eq_getD_getElem?, Array.getElem?_eq_getElem (by omega)] at hun ⊢
      simpa using hun
    have ht' : Tabd own vals a0 (listed.setIfInBounds i true) (a.put oi.dst (vals i)) := by
      rcases hdst i oi hoi with ⟨hd, hno⟩ | ⟨d, hd, hdl, hod, hinj⟩
      · rw [hd]; exact tabd_skip ht hno
      · rw [hd]; exact tabd_put ht (by omega) hdl hod hinj
    unfold wpOp
    rw [hoi]
    rcases hop i oi a w listed hoi hun2 hs hcl hdeps ht hI with ⟨hw, hK⟩ | ⟨hw, hv, hI'⟩
    · simp only [hw, if_true]
      exact .inl (hK _ (fun w' hw' => ih _ _ _ (by simp [hs]) (shut_set hcl hs hoi hdeps) (count_set (by omega) hun hc) ht' hw'))
    · simp only [hw, Bool.false_eq_true, if_false]
      rw [hv] at ht'
      exact ih _ _ _ (by simp [hs]) (shut_set hcl hs hoi hdeps) (count_set (by omega) hun hc) ht' hI'
end
end Go.Word
namespace Go.Word
section
variable {P : Program} {Q : Exit → Act → World → Prop} {a : Act} {w w' : World} {K : Act → World → Prop} {oi : Oper}
theorem wp_valT {v : Value} (hr : (execOp a.eval oi).run P w = .ok (.value v) w') (h : K (a.put oi.dst v) w') : Oper.wp P oi a w K Q := by
  unfold Oper.wp
  rw [hr]
  exact h
theorem wp_skipT (hr : (execOp a.eval oi).run P w = .ok .skip w') (h : K (a.put oi.dst undef) w') : Oper.wp P oi a w K Q := by
  unfold Oper.wp
  rw [hr]
  exact h
theorem app_op {ρ : Operand → Value} {u s v : Value} {t1 t2 : TypeId} (x y : Operand) (ho : oi.op = .call { callee := .builtin .append, args := #[x, y], argTypes := #[t1, t2] }) (hx : ρ x = u) (hy : ρ y = s)
    (hr : (Builtin.append_ #[t1, t2] oi.type #[u, s]).run P w = .ok v w') : (execOp ρ oi).run P w = .ok (.value v) w' := by
  unfold execOp
  simp only [ho, resolve, invoke, builtin, Sem.run_bind, Sem.run_pure, Result.andThen_ok, List.map_toArray, List.map_cons, List.map_nil, hx, hy, hr]
theorem wpList_app_run {ops : Array Oper} {rest : List Oper} {o : Oper} {u s v : Value} {t1 t2 : TypeId} (hgd : o.guard = none) (x y : Operand) (ho : o.op = .call { callee := .builtin .append, args := #[x, y], argTypes := #[t1, t2] }) (hx : a.eval x = u) (hy : a.eval y = s)
    (hr : (Builtin.append_ #[t1, t2] o.type #[u, s]).run P w = .ok v w') (h : wpList P ops Q rest (a.put o.dst v) w') : wpList P ops Q (o :: rest) a w := by
  refine wpList_plain hgd fun K hK => ?_
  unfold Oper.wp
  rw [app_op x y ho hx hy hr]
  exact hK _ _ h
end
end Go.Word
namespace Go.Word
theorem tabd_unlisted {own : Nat → Option Nat} {vals : Nat → Value} {a0 : Act} {listed : Array Bool} {a : Act} (h : Tabd own vals a0 listed a) {t i : Nat} (ht : t < a0.tmps.size) (ho : own t = some i) (hi : listed.getD i false = false) : a.eval (.tmp t) = a0.eval (.tmp t) := by
  have := h.2.2 t ht
  rw [ho] at this
  simp only [hi, Bool.false_eq_true, if_false] at this
  show a.tmps.getD t undef = a0.tmps.getD t undef
  rw [Array.getD_eq_getD_getElem?, Array.getD_eq_getD_getElem?, this]
end Go.Word
namespace Go.Word
open Go.RowKit

theorem getD_set (l : Array Bool) (i k : Nat) : (l.setIfInBounds i true).getD k false = if i = k ∧ i < l.size then true else l.getD k false := by
  rw [Array.getD_eq_getD_getElem?, Array.getD_eq_getD_getElem?, Array.getElem?_setIfInBounds]
  by_cases h : i = k
  · subst h
    by_cases h2 : i < l.size
    · simp [h2]
    · simp [h2]
  · simp [h]
def Stc (i j k : Nat) (A B C D : World) (l : Array Bool) : World := if l.getD k false = true then D else if l.getD j false = true then C else if l.getD i false = true then B else A
section
variable {i j k : Nat} {A B C D : World} {l : Array Bool}
theorem stc_keep {p : Nat} (h1 : p ≠ i) (h2 : p ≠ j) (h3 : p ≠ k) : Stc i j k A B C D (l.setIfInBounds p true) = Stc i j k A B C D l := by
  unfold Stc
  simp only [getD_set, h1, h2, h3, false_and, if_false]
theorem stc_all (p : World → Prop) (hA : p A) (hB : p B) (hC : p C) (hD : l.getD k false = true → p D) : p (Stc i j k A B C D l) := by
  unfold Stc
  split
  · exact hD (by assumption)
  · split
    · exact hC
    · split
      · exact hB
      · exact hA
theorem no_of {b : Bool} {p : Prop} (h : b = true → p) (hp : ¬ p) : b = false := by
  cases b with
  | false => rfl
  | true => exact absurd (h rfl) hp
theorem stc_0 (ij : i ≠ j) (ik : i ≠ k) (uj : l.getD j false = true → l.getD i false = true) (uk : l.getD k false = true → l.getD j false = true) (hs : i < l.size) (hu : l.getD i false = false) : Stc i j k A B C D l = A ∧ Stc i j k A B C D (l.setIfInBounds i true) = B := by
  have h2 : l.getD j false = false := no_of uj (by simp [hu])
  have h3 : l.getD k false = false := no_of uk (by simp [h2])
  unfold Stc
  simp only [getD_set, hs, h2, h3, hu, ij, ik, false_and, true_and, and_self, if_false, if_true, Bool.false_eq_true, reduceIte]
theorem stc_1 (ji : j ≠ i) (jk : j ≠ k) (uk : l.getD k false = true → l.getD j false = true) (hs : j < l.size) (hu : l.getD j false = false) (h : l.getD i false = true) : Stc i j k A B C D l = B ∧ Stc i j k A B C D (l.setIfInBounds j true) = C := by
  have h3 : l.getD k false = false := no_of uk (by simp [hu])
  unfold Stc
  simp only [getD_set, hs, h, h3, hu, ji, jk, false_and, true_and, and_self, if_false, if_true, Bool.false_eq_true, reduceIte]
theorem stc_2 (kj : k ≠ j) (hs : k < l.size) (hu : l.getD k false = false) (h : l.getD j false = true) : Stc i j k A B C D l = C ∧ Stc i j k A B C D (l.setIfInBounds k true) = D := by
  unfold Stc
  simp only [getD_set, hs, h, hu, kj, false_and, true_and, and_self, if_false, if_true, Bool.false_eq_true, reduceIte]
theorem stc_end (h : l.getD k false = true) : Stc i j k A B C D l = D := by
  unfold Stc
  rw [if_pos h]
theorem stc_end2 (hk : l.getD k false = false) (h : l.getD j false = true) : Stc i j k A B C D l = C := by
  unfold Stc
  rw [if_neg (by simp [hk]), if_pos h]
theorem stc_end3 (h : l.getD j false = true) : Stc i j k A B C C l = C := by
  unfold Stc
  simp only [h, if_true, ite_self]
end
end Go.Word
namespace Go.Word
section
variable {P : Program} {md : Region.Mode} {ops : Array Oper} {Q : Exit → Act → World → Prop} {own : Nat → Option Nat} {vals : Nat → Value} {a0 : Act}
def upd (vals : Nat → Value) (i : Nat) (v : Value) : Nat → Value := fun k => if k = i then v else vals k
theorem upd_same (vals : Nat → Value) (i : Nat) (v : Value) : upd vals i v i = v := by simp [upd]
theorem upd_other {vals : Nat → Value} {i : Nat} {v : Value} {k : Nat} (h : k ≠ i) : upd vals i v k = vals k := by simp [upd, h]
theorem tabd_upd {listed : Array Bool} {a : Act} {i : Nat} (v : Value) (h : Tabd own vals a0 listed a) (hi : listed.getD i false = false) : Tabd own (upd vals i v) a0 listed a := by
  obtain ⟨h1, h2, h3⟩ := h
  refine ⟨h1, h2, fun t ht => ?_⟩
  rw [h3 t ht]
  cases ho : own t with
  | none => rfl
  | some j =>
    by_cases e : j = i
    · subst e
      simp only [hi, Bool.false_eq_true, if_false]
    · simp only [upd_other e]
theorem wpAny_done2 {listed : Array Bool} {a : Act} {w : World} (hr : Region.ready md ops listed = []) (hq : Q .normal a w) : ∀ fuel, wpAny P md ops Q fuel listed a w
  | 0 => ⟨hr, hq⟩
  | _ + 1 => ⟨fun _ => hq, fun i hi => by rw [hr] at hi; cases hi⟩
theorem every_fact (rank : Nat → Nat) (last : Nat) (F : Nat → Value → World → Prop) (Inv : World → Prop)
    (hac : ∀ (i : Nat) (oi : Oper), ops[i]? = some oi → ∀ e ∈ oi.after, Region.binds md e = true → rank e.on < rank i)
    (hon : ∀ (i : Nat) (oi : Oper), ops[i]? = some oi → ∀ e ∈ oi.after, e.on < ops.size)
    (hdst : ∀ i oi, ops[i]? = some oi → (oi.dst = none ∧ ∀ t, own t ≠ some i) ∨ ∃ d, oi.dst = some d ∧ d < a0.tmps.size ∧ own d = some i ∧ ∀ t, own t = some i → t = d)
    (hop : ∀ i oi a w listed vals, ops[i]? = some oi → i ≠ last → (∀ e ∈ oi.after, Region.binds md e = true → listed.getD e.on false = true) → Tabd own vals a0 listed a → (∀ k, listed.getD k false = true → F k (vals k) w) → Inv w →
      (Region.wanted oi (yielded ops a.tmps) = true ∧ ∀ K : Act → World → Prop, (∀ v w', F i v w' → (∀ k u, k ≠ i → F k u w → F k u w') → Inv w' → K (a.put oi.dst v) w') → Oper.wp P oi a w K Q) ∨ (Region.wanted oi (yielded ops a.tmps) = false ∧ F i undef w))
    (hall : ∀ listed : Array Bool, (∀ ol, ops[last]? = some ol → ∀ e ∈ ol.after, Region.binds md e = true → listed.getD e.on false = true) → ∀ i, i < ops.size → i ≠ last → listed.getD i false = true)
    (hl : ∀ a w listed vals ol, ops[last]? = some ol → (∀ i, i < ops.size → i ≠ last → listed.getD i false = true) → (∀ e ∈ ol.after, Region.binds md e = true → listed.getD e.on false = true) → listed.getD last false = false → Tabd own vals a0 listed a → (∀ k, k < ops.size → k ≠ last → F k (vals k) w) → Inv w →
      Region.wanted ol (yielded ops a.tmps) = true ∧ ∀ K : Act → World → Prop, (∀ a' w', Q .normal a' w' → K a' w') → Oper.wp P ol a w K Q)
    (hend : ∀ a w listed vals, (∀ i, i < ops.size → listed.getD i false = true) → Tabd own vals a0 listed a → (∀ k, k < ops.size → F k (vals k) w) → Inv w → ops.size ≤ last → Q .normal a w) :
    ∀ (fuel : Nat) (listed : Array Bool) (a : Act) (w : World) (vals : Nat → Value), listed.size = ops.size → (last < ops.size → listed.getD last false = false) → listed.toList.count false ≤ fuel → Tabd own vals a0 listed a → (∀ k, listed.getD k false = true → F k (vals k) w) → Inv w → wpAny P md ops Q fuel listed a w := by
  intro fuel
  induction fuel with
  | zero =>
    intro listed a w vals hs hlf hc ht hF hI
    have hr : Region.ready md ops listed = [] := List.eq_nil_iff_forall_not_mem.2 fun j hj => by
      obtain ⟨hun, oj, hoj, _⟩ := mem_ready.1 hj
      have hjlt : j < ops.size := (Array.getElem?_eq_some_iff.1 hoj).1
      have := count_pos (by omega) hun
      omega
    have ha := all_listed hac hs hon hr
    refine ⟨hr, hend a w listed vals ha ht (fun k hk => hF k (ha k hk)) hI ?_⟩
    rcases Nat.lt_or_ge last ops.size with h | h
    · have h1 := hlf h
      rw [ha last h] at h1
      cases h1
    · exact h
  | succ fuel ih =>
    intro listed a w vals hs hlf hc ht hF hI
    refine ⟨fun hr => ?_, fun i hi => ?_⟩
    · have ha := all_listed hac hs hon hr
      refine hend a w listed vals ha ht (fun k hk => hF k (ha k hk)) hI ?_
      rcases Nat.lt_or_ge last ops.size with h | h
      · have h1 := hlf h
        rw [ha last h] at h1
        cases h1
      · exact h
    obtain ⟨hun, oi, hoi, hdeps⟩ := mem_ready.1 hi
    have hilt : i < ops.size := (Array.getElem?_eq_some_iff.1 hoi).1
    have hun2 : listed.getD i false = false := by
      rw [Array.getD_eq_getD_getElem?, Array.getElem?_eq_getElem (by omega)] at hun ⊢
      simpa using hun
    by_cases hil : i = last
    · subst hil
      have hothers := hall listed (fun ol hol => by rw [hoi] at hol; injection hol with hol; subst hol; exact hdeps)
      obtain ⟨hw, hK⟩ := hl a w listed vals oi hoi hothers hdeps hun2 ht (fun k hk hne => hF k (hothers k hk hne)) hI
      unfold wpOp
      rw [hoi]
      simp only [hw, if_true]
      refine .inl (hK _ fun a' w' hq => wpAny_done2 (List.eq_nil_iff_forall_not_mem.2 fun j hj => ?_) hq fuel)
      obtain ⟨hj1, oj, hoj, _⟩ := mem_ready.1 hj
      have hjlt : j < ops.size := (Array.getElem?_eq_some_iff.1 hoj).1
      by_cases hji : j = i
      · subst hji
        simp [hs, hjlt] at hj1
      · rw [getD_set_ne true (Ne.symm hji)] at hj1
        have h2 := hothers j hjlt hji
        rw [Array.getD_eq_getD_getElem?, Array.getElem?_eq_getElem (by omega)] at hj1 h2
        simp only [Option.getD_some] at hj1 h2
        rw [hj1] at h2
        cases h2
    have next : ∀ v w', F i v w' → (∀ k u, k ≠ i → F k u w → F k u w') → Inv w' → wpAny P md ops Q fuel (listed.setIfInBounds i true) (a.put oi.dst v) w' := fun v w' h1 h2 h3 => by
      have ht1 := tabd_upd v ht hun2
      have hv : upd vals i v i = v := upd_same vals i v
      have ht' : Tabd own (upd vals i v) a0 (listed.setIfInBounds i true) (a.put oi.dst v) := by
        rcases hdst i oi hoi with ⟨hd, hno⟩ | ⟨d, hd, hdl, hod, hinj⟩
        · have := tabd_skip ht1 hno
          rw [hv] at this
          rw [hd]; exact this
        · have := tabd_put ht1 (by omega) hdl hod hinj
          rw [hv] at this
          rw [hd]; exact this
      refine ih _ _ _ (upd vals i v) (by simp [hs]) (fun h => by rw [getD_set_ne false hil]; exact hlf h) (count_set (by omega) hun hc) ht' (fun k hk => ?_) h3
      by_cases e : k = i
      · subst e
        rw [hv]; exact h1
      · rw [upd_other e]
        rw [getD_set_ne false (Ne.symm e)] at hk
        exact h2 k _ e (hF k hk)
    unfold wpOp
    rw [hoi]
    rcases hop i oi a w listed vals hoi hil hdeps ht hF hI with ⟨hw, hK⟩ | ⟨hw, hv⟩
    · simp only [hw, if_true]
      exact .inl (hK _ next)
    · simp only [hw, Bool.false_eq_true, if_false]
      have ht1 := tabd_upd undef ht hun2
      have hv1 : upd vals i undef i = undef := upd_same vals i undef
      have ht' : Tabd own (upd vals i undef) a0 (listed.setIfInBounds i true) (a.put oi.dst undef) := by
        rcases hdst i oi hoi with ⟨hd, hno⟩ | ⟨d, hd, hdl, hod, hinj⟩
        · have := tabd_skip ht1 hno
          rw [hv1] at this
          rw [hd]; exact this
        · have := tabd_put ht1 (by omega) hdl hod hinj
          rw [hv1] at this
          rw [hd]; exact this
      refine ih _ _ _ (upd vals i undef) (by simp [hs]) (fun h => by rw [getD_set_ne false hil]; exact hlf h) (count_set (by omega) hun hc) ht' (fun k hk => ?_) hI
      by_cases e : k = i
      · subst e
        rw [hv1]; exact hv
      · rw [upd_other e]
        rw [getD_set_ne false (Ne.symm e)] at hk
        exact hF k hk
end
end Go.Word
namespace Go.Word
section
variable {P : Program} {md : Region.Mode} {ops : Array Oper} {Q : Exit → Act → World → Prop} {own : Nat → Option Nat} {vals : Nat → Value} {a0 : Act}
theorem every_facts (rank : Nat → Nat) (last : Nat) (F : Nat → Value → World → Prop) (Inv : World → Prop)
    (hac : ∀ (i : Nat) (oi : Oper), ops[i]? = some oi → ∀ e ∈ oi.after, Region.binds md e = true → rank e.on < rank i)
    (hon : ∀ (i : Nat) (oi : Oper), ops[i]? = some oi → ∀ e ∈ oi.after, e.on < ops.size)
    (hdst : ∀ i oi, ops[i]? = some oi → (oi.dst = none ∧ ∀ t, own t ≠ some i) ∨ ∃ d, oi.dst = some d ∧ d < a0.tmps.size ∧ own d = some i ∧ ∀ t, own t = some i → t = d)
    (hop : ∀ i oi a w listed vals, ops[i]? = some oi → i ≠ last → (∀ e ∈ oi.after, Region.binds md e = true → listed.getD e.on false = true) → Tabd own vals a0 listed a → (∀ k, listed.getD k false = true → F k (vals k) w) → Inv w →
      (Region.wanted oi (yielded ops a.tmps) = true ∧ ∀ K : Act → World → Prop, (∀ v w', F i v w' → (∀ k u, k ≠ i → F k u w → F k u w') → Inv w' → K (a.put oi.dst v) w') → Oper.wp P oi a w K Q) ∨ (Region.wanted oi (yielded ops a.tmps) = false ∧ F i undef w))
    (hall : ∀ listed : Array Bool, Shut md ops listed → (∀ ol, ops[last]? = some ol → ∀ e ∈ ol.after, Region.binds md e = true → listed.getD e.on false = true) → ∀ i, i < ops.size → i ≠ last → listed.getD i false = true)
    (hl : ∀ a w listed vals ol, ops[last]? = some ol → (∀ i, i < ops.size → i ≠ last → listed.getD i false = true) → (∀ e ∈ ol.after, Region.binds md e = true → listed.getD e.on false = true) → listed.getD last false = false → Tabd own vals a0 listed a → (∀ k, k < ops.size → k ≠ last → F k (vals k) w) → Inv w →
      Region.wanted ol (yielded ops a.tmps) = true ∧ ∀ K : Act → World → Prop, (∀ a' w', Q .normal a' w' → K a' w') → Oper.wp P ol a w K Q)
    (hend : ∀ a w listed vals, (∀ i, i < ops.size → listed.getD i false = true) → Tabd own vals a0 listed a → (∀ k, k < ops.size → F k (vals k) w) → Inv w → ops.size ≤ last → Q .normal a w) :
    ∀ (fuel : Nat) (listed : Array Bool) (a : Act) (w : World) (vals : Nat → Value), listed.size = ops.size → Shut md ops listed → (last < ops.size → listed.getD last false = false) → listed.toList.count false ≤ fuel → Tabd own vals a0 listed a → (∀ k, listed.getD k false = true → F k (vals k) w) → Inv w → wpAny P md ops Q fuel listed a w := by
  intro fuel
  induction fuel with
  | zero =>
    intro listed a w vals hs hcl hlf hc ht hF hI
    have hr : Region.ready md ops listed = [] := List.eq_nil_iff_forall_not_mem.2 fun j hj => by
      obtain ⟨hun, oj, hoj, _⟩ := mem_ready.1 hj
      have hjlt : j < ops.size := (Array.getElem?_eq_some_iff.1 hoj).1
      have := count_pos (by omega) hun
      omega
    have ha := all_listed hac hs hon hr
    refine ⟨hr, hend a w listed vals ha ht (fun k hk => hF k (ha k hk)) hI ?_⟩
    rcases Nat.lt_or_ge last ops.size with h | h
    · have h1 := hlf h
      rw [ha last h] at h1
      cases h1
    · exact h
  | succ fuel ih =>
    intro listed a w vals hs hcl hlf hc ht hF hI
    refine ⟨fun hr => ?_, fun i hi => ?_⟩
    · have ha := all_listed hac hs hon hr
      refine hend a w listed vals ha ht (fun k hk => hF k (ha k hk)) hI ?_
      rcases Nat.lt_or_ge last ops.size with h | h
      · have h1 := hlf h
        rw [ha last h] at h1
        cases h1
      · exact h
    obtain ⟨hun, oi, hoi, hdeps⟩ := mem_ready.1 hi
    have hilt : i < ops.size := (Array.getElem?_eq_some_iff.1 hoi).1
    have hun2 : listed.getD i false = false := by
      rw [Array.getD_eq_getD_getElem?, Array.getElem?_eq_getElem (by omega)] at hun ⊢
      simpa using hun
    by_cases hil : i = last
    · subst hil
      have hothers := hall listed hcl (fun ol hol => by rw [hoi] at hol; injection hol with hol; subst hol; exact hdeps)
      obtain ⟨hw, hK⟩ := hl a w listed vals oi hoi hothers hdeps hun2 ht (fun k hk hne => hF k (hothers k hk hne)) hI
      unfold wpOp
      rw [hoi]
      simp only [hw, if_true]
      refine .inl (hK _ fun a' w' hq => wpAny_done2 (List.eq_nil_iff_forall_not_mem.2 fun j hj => ?_) hq fuel)
      obtain ⟨hj1, oj, hoj, _⟩ := mem_ready.1 hj
      have hjlt : j < ops.size := (Array.getElem?_eq_some_iff.1 hoj).1
      by_cases hji : j = i
      · subst hji
        simp [hs, hjlt] at hj1
      · rw [getD_set_ne true (Ne.symm hji)] at hj1
        have h2 := hothers j hjlt hji
        rw [Array.getD_eq_getD_getElem?, Array.getElem?_eq_getElem (by omega)] at hj1 h2
        simp only [Option.getD_some] at hj1 h2
        rw [hj1] at h2
        cases h2
    have next : ∀ v w', F i v w' → (∀ k u, k ≠ i → F k u w → F k u w') → Inv w' → wpAny P md ops Q fuel (listed.setIfInBounds i true) (a.put oi.dst v) w' := fun v w' h1 h2 h3 => by
      have ht1 := tabd_upd v ht hun2
      have hv : upd vals i v i = v := upd_same vals i v
      have ht' : Tabd own (upd vals i v) a0 (listed.setIfInBounds i true) (a.put oi.dst v) := by
        rcases hdst i oi hoi with ⟨hd, hno⟩ | ⟨d, hd, hdl, hod, hinj⟩
        · have := tabd_skip ht1 hno
          rw [hv] at this
          rw [hd]; exact this
        · have := tabd_put ht1 (by omega) hdl hod hinj
          rw [hv] at this
          rw [hd]; exact this
      refine ih _ _ _ (upd vals i v) (by simp [hs]) (shut_set hcl hs hoi hdeps) (fun h => by rw [getD_set_ne false hil]; exact hlf h) (count_set (by omega) hun hc) ht' (fun k hk => ?_) h3
      by_cases e : k = i
      · subst e
        rw [hv]; exact h1
      · rw [upd_other e]
        rw [getD_set_ne false (Ne.symm e)] at hk
        exact h2 k _ e (hF k hk)
    unfold wpOp
    rw [hoi]
    rcases hop i oi a w listed vals hoi hil hdeps ht hF hI with ⟨hw, hK⟩ | ⟨hw, hv⟩
    · simp only [hw, if_true]
      exact .inl (hK _ next)
    · simp only [hw, Bool.false_eq_true, if_false]
      have ht1 := tabd_upd undef ht hun2
      have hv1 : upd vals i undef i = undef := upd_same vals i undef
      have ht' : Tabd own (upd vals i undef) a0 (listed.setIfInBounds i true) (a.put oi.dst undef) := by
        rcases hdst i oi hoi with ⟨hd, hno⟩ | ⟨d, hd, hdl, hod, hinj⟩
        · have := tabd_skip ht1 hno
          rw [hv1] at this
          rw [hd]; exact this
        · have := tabd_put ht1 (by omega) hdl hod hinj
          rw [hv1] at this
          rw [hd]; exact this
      refine ih _ _ _ (upd vals i undef) (by simp [hs]) (shut_set hcl hs hoi hdeps) (fun h => by rw [getD_set_ne false hil]; exact hlf h) (count_set (by omega) hun hc) ht' (fun k hk => ?_) hI
      by_cases e : k = i
      · subst e
        rw [hv1]; exact hv
      · rw [upd_other e]
        rw [getD_set_ne false (Ne.symm e)] at hk
        exact hF k hk
end
end Go.Word
namespace Go.Word
theorem wp_enter {P : Program} {Q : Exit → Act → World → Prop} {a : Act} {w : World} {K : Act → World → Prop} {oi : Oper} {f : FuncId} {args : Array Value} {post : Ending → World → Prop} (hr : (execOp a.eval oi).run P w = .ok (.enter f args) w) (hc : Calls P f args w post) (h : ∀ e w2, post e w2 → ∃ v, e = .returned v ∧ K (a.put oi.dst v) w2) : Oper.wp P oi a w K Q := by
  unfold Oper.wp
  rw [hr]
  refine hc.mono ?_
  intro e w2 hp
  obtain ⟨v, rfl, hk⟩ := h e w2 hp
  exact hk
end Go.Word
namespace Go.Word
section
variable {P : Program} {md : Region.Mode} {ops : Array Oper} {Q : Exit → Act → World → Prop} {own : Nat → Option Nat} {vals : Nat → Value} {a0 : Act}
theorem every_factI (rank : Nat → Nat) (F : Array Bool → Nat → Value → World → Prop) (Inv : Array Bool → World → Prop)
    (hac : ∀ (i : Nat) (oi : Oper), ops[i]? = some oi → ∀ e ∈ oi.after, Region.binds md e = true → rank e.on < rank i)
    (hon : ∀ (i : Nat) (oi : Oper), ops[i]? = some oi → ∀ e ∈ oi.after, e.on < ops.size)
    (hdst : ∀ i oi, ops[i]? = some oi → (oi.dst = none ∧ ∀ t, own t ≠ some i) ∨ ∃ d, oi.dst = some d ∧ d < a0.tmps.size ∧ own d = some i ∧ ∀ t, own t = some i → t = d)
    (hop : ∀ i oi a w listed vals, ops[i]? = some oi → listed.size = ops.size → Shut md ops listed → listed.getD i false = false → (∀ e ∈ oi.after, Region.binds md e = true → listed.getD e.on false = true) → Tabd own vals a0 listed a → (∀ k, listed.getD k false = true → F listed k (vals k) w) → Inv listed w →
      (Region.wanted oi (yielded ops a.tmps) = true ∧ ∀ K : Act → World → Prop, (∀ v w', F (listed.setIfInBounds i true) i v w' → (∀ k u, k ≠ i → listed.getD k false = true → F listed k u w → F (listed.setIfInBounds i true) k u w') → Inv (listed.setIfInBounds i true) w' → K (a.put oi.dst v) w') → Oper.wp P oi a w K Q) ∨
      (Region.wanted oi (yielded ops a.tmps) = false ∧ F (listed.setIfInBounds i true) i undef w ∧ (∀ k u, k ≠ i → listed.getD k false = true → F listed k u w → F (listed.setIfInBounds i true) k u w) ∧ Inv (listed.setIfInBounds i true) w))
    (hend : ∀ a w listed vals, (∀ i, i < ops.size → listed.getD i false = true) → Tabd own vals a0 listed a → (∀ k, k < ops.size → F listed k (vals k) w) → Inv listed w → Q .normal a w) :
    ∀ (fuel : Nat) (listed : Array Bool) (a : Act) (w : World) (vals : Nat → Value), listed.size = ops.size → Shut md ops listed → listed.toList.count false ≤ fuel → Tabd own vals a0 listed a → (∀ k, listed.getD k false = true → F listed k (vals k) w) → Inv listed w → wpAny P md ops Q fuel listed a w := by
  intro fuel
  induction fuel with
  | zero =>
    intro listed a w vals hs hcl hc ht hF hI
    have hr : Region.ready md ops listed = [] := List.eq_nil_iff_forall_not_mem.2 fun j hj => by
      obtain ⟨hun, oj, hoj, _⟩ := mem_ready.1 hj
      have hjlt : j < ops.size := (Array.getElem?_eq_some_iff.1 hoj).1
      have := count_pos (by omega) hun
      omega
    have ha := all_listed hac hs hon hr
    exact ⟨hr, hend a w listed vals ha ht (fun k hk => hF k (ha k hk)) hI⟩
  | succ fuel ih =>
    intro listed a w vals hs hcl hc ht hF hI
    refine ⟨fun hr => ?_, fun i hi => ?_⟩
    · have ha := all_listed hac hs hon hr
      exact hend a w listed vals ha ht (fun k hk => hF k (ha k hk)) hI
    obtain ⟨hun, oi, hoi, hdeps⟩ := mem_ready.1 hi
    have hilt : i < ops.size := (Array.getElem?_eq_some_iff.1 hoi).1
    have hun2 : listed.getD i false = false := by
      rw [Array.getD_eq_getD_getElem?, Array.getElem?_eq_getElem (by omega)] at hun ⊢
      simpa using hun
    have next : ∀ v w', F (listed.setIfInBounds i true) i v w' → (∀ k u, k ≠ i → listed.getD k false = true → F listed k u w → F (listed.setIfInBounds i true) k u w') → Inv (listed.setIfInBounds i true) w' → wpAny P md ops Q fuel (listed.setIfInBounds i true) (a.put oi.dst v) w' := fun v w' h1 h2 h3 => by
      have ht1 := tabd_upd v ht hun2
      have hv : upd vals i v i = v := upd_same vals i v
      have ht' : Tabd own (upd vals i v) a0 (listed.setIfInBounds i true) (a.put oi.dst v) := by
        rcases hdst i oi hoi with ⟨hd, hno⟩ | ⟨d, hd, hdl, hod, hinj⟩
        · have := tabd_skip ht1 hno
          rw [hv] at this
          rw [hd]; exact this
        · have := tabd_put ht1 (by omega) hdl hod hinj
          rw [hv] at this
          rw [hd]; exact this
      refine ih _ _ _ (upd vals i v) (by simp [hs]) (shut_set hcl hs hoi hdeps) (count_set (by omega) hun hc) ht' (fun k hk => ?_) h3
      by_cases e : k = i
      · subst e
        rw [hv]; exact h1
      · rw [upd_other e]
        rw [getD_set_ne false (Ne.symm e)] at hk
        exact h2 k _ e hk (hF k hk)
    unfold wpOp
    rw [hoi]
    rcases hop i oi a w listed vals hoi hs hcl hun2 hdeps ht hF hI with ⟨hw, hK⟩ | ⟨hw, hv, hk, hI2⟩
    · simp only [hw, if_true]
      exact .inl (hK _ next)
    · simp only [hw, Bool.false_eq_true, if_false]
      exact next undef w hv hk hI2
end
section
variable {Fc : Fence} {n : Nat} {P : Program} {md : Region.Mode} {ops : Array Oper} {Q : Exit → Act → World → Prop} {own : Nat → Option Nat} {vals : Nat → Value} {a0 : Act}
theorem every_factI_in (rank : Nat → Nat) (F : Array Bool → Nat → Value → World → Prop) (Inv : Array Bool → World → Prop)
    (hac : ∀ (i : Nat) (oi : Oper), ops[i]? = some oi → ∀ e ∈ oi.after, Region.binds md e = true → rank e.on < rank i)
    (hon : ∀ (i : Nat) (oi : Oper), ops[i]? = some oi → ∀ e ∈ oi.after, e.on < ops.size)
    (hdst : ∀ i oi, ops[i]? = some oi → (oi.dst = none ∧ ∀ t, own t ≠ some i) ∨ ∃ d, oi.dst = some d ∧ d < a0.tmps.size ∧ own d = some i ∧ ∀ t, own t = some i → t = d)
    (hop : ∀ i oi a w listed vals, ops[i]? = some oi → listed.size = ops.size → Shut md ops listed → listed.getD i false = false → (∀ e ∈ oi.after, Region.binds md e = true → listed.getD e.on false = true) → Tabd own vals a0 listed a → (∀ k, listed.getD k false = true → F listed k (vals k) w) → Inv listed w →
      (Region.wanted oi (yielded ops a.tmps) = true ∧ ∀ K : Act → World → Prop, (∀ v w', F (listed.setIfInBounds i true) i v w' → (∀ k u, k ≠ i → listed.getD k false = true → F listed k u w → F (listed.setIfInBounds i true) k u w') → Inv (listed.setIfInBounds i true) w' → K (a.put oi.dst v) w') → Oper.wpIn Fc n P oi a w K Q) ∨
      (Region.wanted oi (yielded ops a.tmps) = false ∧ (∀ f, oi.about P w a.eval = some f → Fc.fn f) ∧ F (listed.setIfInBounds i true) i undef w ∧ (∀ k u, k ≠ i → listed.getD k false = true → F listed k u w → F (listed.setIfInBounds i true) k u w) ∧ Inv (listed.setIfInBounds i true) w))
    (hend : ∀ a w listed vals, (∀ i, i < ops.size → listed.getD i false = true) → Tabd own vals a0 listed a → (∀ k, k < ops.size → F listed k (vals k) w) → Inv listed w → Q .normal a w) :
    ∀ (fuel : Nat) (listed : Array Bool) (a : Act) (w : World) (vals : Nat → Value), listed.size = ops.size → Shut md ops listed → listed.toList.count false ≤ fuel → Tabd own vals a0 listed a → (∀ k, listed.getD k false = true → F listed k (vals k) w) → Inv listed w → wpAnyIn Fc n P md ops Q fuel listed a w := by
  intro fuel
  induction fuel with
  | zero =>
    intro listed a w vals hs hcl hc ht hF hI
    have hr : Region.ready md ops listed = [] := List.eq_nil_iff_forall_not_mem.2 fun j hj => by
      obtain ⟨hun, oj, hoj, _⟩ := mem_ready.1 hj
      have hjlt : j < ops.size := (Array.getElem?_eq_some_iff.1 hoj).1
      have := count_pos (by omega) hun
      omega
    have ha := all_listed hac hs hon hr
    exact ⟨hr, hend a w listed vals ha ht (fun k hk => hF k (ha k hk)) hI⟩
  | succ fuel ih =>
    intro listed a w vals hs hcl hc ht hF hI
    refine ⟨fun hr => ?_, fun i hi => ?_⟩
    · have ha := all_listed hac hs hon hr
      exact hend a w listed vals ha ht (fun k hk => hF k (ha k hk)) hI
    obtain ⟨hun, oi, hoi, hdeps⟩ := mem_ready.1 hi
    have hilt : i < ops.size := (Array.getElem?_eq_some_iff.1 hoi).1
    have hun2 : listed.getD i false = false := by
      rw [Array.getD_eq_getD_getElem?, Array.getElem?_eq_getElem (by omega)] at hun ⊢
      simpa using hun
    have next : ∀ v w', F (listed.setIfInBounds i true) i v w' → (∀ k u, k ≠ i → listed.getD k false = true → F listed k u w → F (listed.setIfInBounds i true) k u w') → Inv (listed.setIfInBounds i true) w' → wpAnyIn Fc n P md ops Q fuel (listed.setIfInBounds i true) (a.put oi.dst v) w' := fun v w' h1 h2 h3 => by
      have ht1 := tabd_upd v ht hun2
      have hv : upd vals i v i = v := upd_same vals i v
      have ht' : Tabd own (upd vals i v) a0 (listed.setIfInBounds i true) (a.put oi.dst v) := by
        rcases hdst i oi hoi with ⟨hd, hno⟩ | ⟨d, hd, hdl, hod, hinj⟩
        · have := tabd_skip ht1 hno
          rw [hv] at this
          rw [hd]; exact this
        · have := tabd_put ht1 (by omega) hdl hod hinj
          rw [hv] at this
          rw [hd]; exact this
      refine ih _ _ _ (upd vals i v) (by simp [hs]) (shut_set hcl hs hoi hdeps) (count_set (by omega) hun hc) ht' (fun k hk => ?_) h3
      by_cases e : k = i
      · subst e
        rw [hv]; exact h1
      · rw [upd_other e]
        rw [getD_set_ne false (Ne.symm e)] at hk
        exact h2 k _ e hk (hF k hk)
    unfold wpOpIn
    rw [hoi]
    rcases hop i oi a w listed vals hoi hs hcl hun2 hdeps ht hF hI with ⟨hw, hK⟩ | ⟨hw, hab, hv, hk, hI2⟩
    · simp only [hw, if_true]
      exact (hK _ next)
    · simp only [hw, Bool.false_eq_true, if_false]
      exact ⟨hab, next undef w hv hk hI2⟩
end
end Go.Word
