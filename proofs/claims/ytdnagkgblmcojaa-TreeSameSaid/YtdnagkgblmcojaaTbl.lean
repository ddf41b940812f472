/-
What is proved here: a region whose order is open, within a round too: where each operation but the last yields a fixed value and leaves the world as it is, every order comes to the same: the last one at the full frame. Of whatever program.
-/
import Derived.OrdersIn
import Derived.WalkKit
import Derived.OwnWalkIn
import Derived.Orders
set_option linter.unusedSimpArgs false
namespace Go.Word

section
variable {F : Fence} {n : Nat} {P : Program} {md : Region.Mode} {ops : Array Oper} {Q : Exit → Act → World → Prop} {own : Nat → Option Nat} {vals : Nat → Value} {a0 : Act}

/-- the frame behind those that have come up: each temporary that is theirs holds its value -/
def Tabd (own : Nat → Option Nat) (vals : Nat → Value) (a0 : Act) (listed : Array Bool) (a : Act) : Prop :=
  a.defers = a0.defers ∧ a.tmps.size = a0.tmps.size ∧ ∀ t, t < a0.tmps.size → a.tmps[t]? = (match own t with | some i => if listed.getD i false = true then some (vals i) else a0.tmps[t]? | none => a0.tmps[t]?)
theorem tabd_start {listed : Array Bool} (hl : ∀ i, listed.getD i false = false) : Tabd own vals a0 listed a0 := by
  refine ⟨rfl, rfl, fun t _ => ?_⟩
  cases own t with
  | none => rfl
  | some i => simp only [hl i, Bool.false_eq_true, if_false]
theorem tabd_put {listed : Array Bool} {a : Act} {i d : Nat} (h : Tabd own vals a0 listed a) (hi : i < listed.size) (hd : d < a0.tmps.size) (hod : own d = some i) (hinj : ∀ t, own t = some i → t = d) :
    Tabd own vals a0 (listed.setIfInBounds i true) (a.put (some d) (vals i)) := by
  obtain ⟨h1, h2, h3⟩ := h
  refine ⟨h1, by simp [Act.put, h2], fun t ht => ?_⟩
  simp only [Act.put, Array.getElem?_setIfInBounds]
  by_cases e : d = t
  · subst e
    rw [if_pos rfl, if_pos (by omega), hod]
    have : (listed.setIfInBounds i true).getD i false = true := by simp [hi]
    simp only [this, if_true]
  · rw [if_neg e, h3 t ht]
    cases ho : own t with
    | none => rfl
    | some j =>
      have hji : j ≠ i := fun e2 => e (hinj t (by rw [ho, e2])).symm
      simp only [getD_set_ne false hji.symm]
/-- what a temporary holds -/
theorem tabd_at {listed : Array Bool} {a : Act} (h : Tabd own vals a0 listed a) {t i : Nat} (ht : t < a0.tmps.size) (ho : own t = some i) (hi : listed.getD i false = true) : a.eval (.tmp t) = vals i := by
  have := h.2.2 t ht
  rw [ho] at this
  simp only [hi, if_true] at this
  show a.tmps.getD t undef = _
  rw [Array.getD_eq_getD_getElem?, this]
  rfl
theorem tabd_old {listed : Array Bool} {a : Act} (h : Tabd own vals a0 listed a) {t : Nat} (ht : t < a0.tmps.size) (ho : own t = none) : a.eval (.tmp t) = a0.eval (.tmp t) := by
  have := h.2.2 t ht
  rw [ho] at this
  show a.tmps.getD t undef = a0.tmps.getD t undef
  rw [Array.getD_eq_getD_getElem?, Array.getD_eq_getD_getElem?, this]

theorem table_in (last : Nat) (w : World)
    (hac : ∀ (i : Nat) (oi : Oper), ops[i]? = some oi → ∀ e ∈ oi.after, e.on < i)
    (hdst : ∀ i oi, ops[i]? = some oi → i ≠ last → ∃ d, oi.dst = some d ∧ d < a0.tmps.size ∧ own d = some i ∧ ∀ t, own t = some i → t = d)
    (hop : ∀ i oi a listed, ops[i]? = some oi → i ≠ last → (∀ e ∈ oi.after, Region.binds md e = true → listed.getD e.on false = true) → Tabd own vals a0 listed a →
      Region.wanted oi (yielded ops a.tmps) = true ∧ ∀ K : Act → World → Prop, K (a.put oi.dst (vals i)) w → Oper.wpIn F n P oi a w K Q)
    (hall : ∀ listed : Array Bool, (∀ i oi, ops[i]? = some oi → listed.getD i false = true → ∀ e ∈ oi.after, Region.binds md e = true → listed.getD e.on false = true) →
      (∀ ol, ops[last]? = some ol → ∀ e ∈ ol.after, Region.binds md e = true → listed.getD e.on false = true) → ∀ i, i < ops.size → i ≠ last → listed.getD i false = true)
    (hl : ∀ a listed, (∀ i, i < ops.size → i ≠ last → listed.getD i false = true) → Tabd own vals a0 listed a → ∀ K : Act → World → Prop, (∀ a' w', Q .normal a' w' → K a' w') → wpOpIn F n P ops Q last K a w) :
    ∀ (fuel : Nat) (listed : Array Bool) (a : Act), listed.size = ops.size → (∀ i oi, ops[i]? = some oi → listed.getD i false = true → ∀ e ∈ oi.after, Region.binds md e = true → listed.getD e.on false = true) →
      listed.getD last true = false → listed.toList.count false ≤ fuel → Tabd own vals a0 listed a → wpAnyIn F n P md ops Q fuel listed a w := by
  intro fuel
  induction fuel with
  | zero =>
    intro listed a hs _ hlast hc _
    have hmem : false ∈ listed.toList := by
      rcases Nat.lt_or_ge last listed.size with h | h
      · rw [Array.getD_eq_getD_getElem?, Array.getElem?_eq_getElem h] at hlast
        have e : listed[last] = false := by simpa using hlast
        rw [← e]
        exact Array.mem_toList_iff.2 (Array.getElem_mem h)
      · rw [Array.getD_eq_getD_getElem?, Array.getElem?_eq_none h] at hlast
        cases hlast
    have := List.count_pos_iff.2 hmem
    omega
  | succ fuel ih =>
    intro listed a hs hcl hlast hc ht
    have climb : ∀ k, listed.getD k true = false → ∃ j, j ∈ Region.ready md ops listed := by
      intro k
      induction k using Nat.strongRecOn with
      | _ k ihk =>
        intro hk
        have hks : k < listed.size := by
          rcases Nat.lt_or_ge k listed.size with h | h
          · exact h
          · rw [Array.getD_eq_getD_getElem?, Array.getElem?_eq_none h] at hk; cases hk
        obtain ⟨ok, hok⟩ : ∃ o, ops[k]? = some o := ⟨_, Array.getElem?_eq_getElem (by omega)⟩
        by_cases hd : ∀ e ∈ ok.after, Region.binds md e = true → listed.getD e.on false = true
        · exact ⟨k, mem_ready.2 ⟨hk, ok, hok, hd⟩⟩
        · obtain ⟨e, he, hn⟩ : ∃ e, e ∈ ok.after ∧ ¬ (Region.binds md e = true → listed.getD e.on false = true) := by
            refine Classical.byContradiction fun hx => hd fun e he hb => Classical.byContradiction fun hy => hx ⟨e, he, fun h => hy (h hb)⟩
          have hlt := hac k ok hok e he
          refine ihk e.on hlt ?_
          have hn2 : listed.getD e.on false ≠ true := fun h => hn fun _ => h
          have hes : e.on < listed.size := by omega
          rw [Array.getD_eq_getD_getElem?, Array.getElem?_eq_getElem hes] at hn2 ⊢
          simpa using hn2
    have some_ready : Region.ready md ops listed = [] → Q .normal a w := fun hr => by
      obtain ⟨j, hj⟩ := climb last hlast
      rw [hr] at hj
      cases hj
    refine ⟨some_ready, fun i hi => ?_⟩
    obtain ⟨hun, oi, hoi, hdeps⟩ := mem_ready.1 hi
    have hilt : i < ops.size := (Array.getElem?_eq_some_iff.1 hoi).1
    by_cases hil : i = last
    · subst hil
      have hothers := hall listed hcl (fun ol hol => by rw [hoi] at hol; injection hol with hol; subst hol; exact hdeps)
      refine hl a listed hothers ht _ (fun a' w' hq => wpAnyIn_done ?_ hq fuel)
      refine List.eq_nil_iff_forall_not_mem.2 fun j hj => ?_
      obtain ⟨hj1, oj, hoj, _⟩ := mem_ready.1 hj
      have hjlt : j < ops.size := (Array.getElem?_eq_some_iff.1 hoj).1
      by_cases hji : j = i
      · subst hji
        simp [hs, hjlt] at hj1
      · rw [getD_set_ne true (Ne.symm hji)] at hj1
        have h2 := hothers j hjlt hji
        rw [Array.getD_eq_getD_getElem?, Array.getElem?_eq_getElem (by omega)] at hj1 h2
        simp only [Option.getD_some] at hj1 h2
        rw [hj1] at h2
        cases h2
    · obtain ⟨hw, hK⟩ := hop i oi a listed hoi hil hdeps ht
      obtain ⟨d, hd, hdl, hod, hinj⟩ := hdst i oi hoi hil
      unfold wpOpIn
      rw [hoi]
      simp only [hw, if_true]
      refine hK _ (ih _ _ (by simp [hs]) (fun j oj hoj hj e he hb => ?_) (by rw [getD_set_ne true hil]; exact hlast) ?_ (by rw [hd]; exact tabd_put ht (by omega) hdl hod hinj))
      · have keep : ∀ k, listed.getD k false = true → (listed.setIfInBounds i true).getD k false = true := fun k hk => by
          by_cases e2 : i = k
          · subst e2; simp [hs, hilt]
          · rw [getD_set_ne false e2]; exact hk
        by_cases hji : i = j
        · subst hji
          rw [hoi] at hoj
          injection hoj with hoj
          subst hoj
          exact keep _ (hdeps e he hb)
        · rw [getD_set_ne false hji] at hj
          exact keep _ (hcl j oj hoj hj e he hb)
      · have hif : listed[i]'(by omega) = false := by
          rw [Array.getD_eq_getD_getElem?, Array.getElem?_eq_getElem (by omega)] at hun
          simpa using hun
        have hil2 : i < listed.toList.length := by simp; omega
        have hli : listed.toList[i] = false := by simpa using hif
        have e : (listed.setIfInBounds i true).toList = listed.toList.set i true := by simp
        rw [e, List.count_set hil2, hli]
        have e5 : (if (true == false) = true then 1 else 0) = 0 := rfl
        have e6 : (if (false == false) = true then 1 else 0) = 1 := rfl
        rw [e5, e6]
        omega
end
end Go.Word
namespace Go.Word

def ownOf (ops : Array Oper) (last : Nat) (t : Nat) : Option Nat := (List.range ops.size).find? fun i => i != last && ((ops[i]?).bind (·.dst) == some t)
def dstOk (ops : Array Oper) (last m : Nat) : Bool := (List.range ops.size).all fun i => i == last || (match (ops[i]?).bind (·.dst) with | some d => decide (d < m) && (ownOf ops last d == some i) | none => false)
def acOk (ops : Array Oper) : Bool := (List.range ops.size).all fun i => match ops[i]? with | some o => o.after.all fun e => decide (e.on < i) | none => true
theorem own_spec {ops : Array Oper} {last t i : Nat} (h : ownOf ops last t = some i) : (ops[i]?).bind (·.dst) = some t := by
  have := List.find?_some h
  simp only [Bool.and_eq_true, beq_iff_eq] at this
  exact this.2
theorem dst_of {ops : Array Oper} {last m : Nat} (h : dstOk ops last m = true) (i : Nat) (oi : Oper) (hi : ops[i]? = some oi) (hl : i ≠ last) : ∃ d, oi.dst = some d ∧ d < m ∧ ownOf ops last d = some i ∧ ∀ t, ownOf ops last t = some i → t = d := by
  have hlt : i < ops.size := (Array.getElem?_eq_some_iff.1 hi).1
  have := List.all_eq_true.1 h i (List.mem_range.2 hlt)
  rw [hi] at this
  simp only [Option.bind_some, Bool.or_eq_true, beq_iff_eq] at this
  rcases this with e | e
  · exact absurd e hl
  · cases hd : oi.dst with
    | none => rw [hd] at e; cases e
    | some d =>
      rw [hd] at e
      simp only [Bool.and_eq_true, decide_eq_true_eq, beq_iff_eq] at e
      refine ⟨d, rfl, e.1, e.2, fun t ht => ?_⟩
      have e2 := own_spec ht
      rw [hi, Option.bind_some, hd] at e2
      injection e2 with e2
      exact e2.symm
theorem ac_of {ops : Array Oper} (h : acOk ops = true) (i : Nat) (oi : Oper) (hi : ops[i]? = some oi) : ∀ e ∈ oi.after, e.on < i := fun e he => by
  have hlt : i < ops.size := (Array.getElem?_eq_some_iff.1 hi).1
  have := List.all_eq_true.1 h i (List.mem_range.2 hlt)
  rw [hi] at this
  simp only [Array.all_eq_true_iff_forall_mem, decide_eq_true_eq] at this
  exact this e he
section
variable {F : Fence} {n : Nat} {P : Program} {Q : Exit → Act → World → Prop} {a : Act} {w : World} {K : Act → World → Prop} {oi : Oper}
theorem wpIn_value {v : Value} (hnd : ∀ c, oi.op ≠ .defer c) (hab : oi.about P w a.eval = none) (hr : (execOp a.eval oi).run P w = .ok (.value v) w) (h : K (a.put oi.dst v) w) : Oper.wpIn F n P oi a w K Q :=
  ⟨fun f hf => (by rw [hab] at hf; cases hf), by rw [Oper.semAt_eq _ _ _ hnd, hr]; exact h⟩
theorem wpIn_turn {v : Value} {w' : World} (hnd : ∀ c, oi.op ≠ .defer c) (hab : ∀ f, oi.about P w a.eval = some f → F.fn f) (hr : (execOp a.eval oi).run P w = .ok (.value v) w') (h : K (a.put oi.dst v) w') : Oper.wpIn F n P oi a w K Q :=
  ⟨hab, by rw [Oper.semAt_eq _ _ _ hnd, hr]; exact h⟩
theorem wpIn_call {v : Value} {f : FuncId} {args : Array Value} (hnd : ∀ c, oi.op ≠ .defer c) (hab : ∀ f, oi.about P w a.eval = some f → F.fn f) (hr : (execOp a.eval oi).run P w = .ok (.enter f args) w) (hn : 1 ≤ n) (hc : CallsIn F (n - 1) P f args w fun e w' => e = .returned v ∧ w = w') (h : K (a.put oi.dst v) w) : Oper.wpIn F n P oi a w K Q :=
  ⟨hab, by
    rw [Oper.semAt_eq _ _ _ hnd, hr]
    refine ⟨fun _ => hn, hc.mono ?_⟩
    rintro e w' ⟨rfl, rfl⟩
    exact h⟩
end
end Go.Word
namespace Go.Word

section
variable {F : Fence} {n : Nat} {P : Program} {md : Region.Mode} {ops : Array Oper} {Q : Exit → Act → World → Prop} {own : Nat → Option Nat} {vals : Nat → Value} {a0 : Act}

/-- what has come up: with each, what it waits for -/
def Shut (md : Region.Mode) (ops : Array Oper) (listed : Array Bool) : Prop := ∀ i oi, ops[i]? = some oi → listed.getD i false = true → ∀ e ∈ oi.after, Region.binds md e = true → listed.getD e.on false = true
theorem shut_set {listed : Array Bool} (h : Shut md ops listed) (hs : listed.size = ops.size) {i : Nat} {oi : Oper} (hoi : ops[i]? = some oi) (hd : ∀ e ∈ oi.after, Region.binds md e = true → listed.getD e.on false = true) : Shut md ops (listed.setIfInBounds i true) := by
  intro j oj hoj hj e he hb
  have hilt : i < ops.size := (Array.getElem?_eq_some_iff.1 hoi).1
  have keep : ∀ k, listed.getD k false = true → (listed.setIfInBounds i true).getD k false = true := fun k hk => by
    by_cases e2 : i = k
    · subst e2; simp [hs, hilt]
    · rw [getD_set_ne false e2]; exact hk
  by_cases hji : i = j
  · subst hji
    rw [hoi] at hoj
    injection hoj with hoj
    subst hoj
    exact keep _ (hd e he hb)
  · rw [getD_set_ne false hji] at hj
    exact keep _ (h j oj hoj hj e he hb)
theorem tabd_skip {listed : Array Bool} {a : Act} {i : Nat} (h : Tabd own vals a0 listed a) (hod : ∀ t, own t ≠ some i) : Tabd own vals a0 (listed.setIfInBounds i true) (a.put none (vals i)) := by
  obtain ⟨h1, h2, h3⟩ := h
  refine ⟨h1, h2, fun t ht => ?_⟩
  show a.tmps[t]? = _
  rw [h3 t ht]
  cases ho : own t with
  | none => rfl
  | some j =>
    have hji : i ≠ j := fun e => hod t (by rw [ho, e])
    simp only [getD_set_ne false hji]
theorem all_listed {rank : Nat → Nat} {listed : Array Bool} (hac : ∀ (i : Nat) (oi : Oper), ops[i]? = some oi → ∀ e ∈ oi.after, Region.binds md e = true → rank e.on < rank i) (hs : listed.size = ops.size)
    (hon : ∀ (i : Nat) (oi : Oper), ops[i]? = some oi → ∀ e ∈ oi.after, e.on < ops.size) (hr : Region.ready md ops listed = []) : ∀ i, i < ops.size → listed.getD i false = true := by
  have key : ∀ r i, rank i = r → i < ops.size → listed.getD i false = true := by
    intro r
    induction r using Nat.strongRecOn with
    | _ r ih =>
      intro i hri hi
      obtain ⟨oi, hoi⟩ : ∃ o, ops[i]? = some o := ⟨_, Array.getElem?_eq_getElem hi⟩
      refine Classical.byContradiction fun hn => ?_
      have hun : listed.getD i true = false := by
        rw [Array.getD_eq_getD_getElem?, Array.getElem?_eq_getElem (by omega)] at hn ⊢
        simpa using hn
      have : i ∈ Region.ready md ops listed := mem_ready.2 ⟨hun, oi, hoi, fun e he hb => ih _ (by rw [← hri]; exact hac i oi hoi e he hb) e.on rfl (hon i oi hoi e he)⟩
      rw [hr] at this
      cases this
  exact fun i hi => key _ i rfl hi
theorem count_set {listed : Array Bool} {i k : Nat} (hi : i < listed.size) (hu : listed.getD i true = false) (hc : listed.toList.count false ≤ k + 1) : (listed.setIfInBounds i true).toList.count false ≤ k := by
  have hif : listed[i]'hi = false := by
    rw [Array.getD_eq_getD_getElem?, Array.getElem?_eq_getElem hi] at hu
    simpa using hu
  have hil2 : i < listed.toList.length := by simpa using hi
  have hli : listed.toList[i] = false := by simpa using hif
  have e : (listed.setIfInBounds i true).toList = listed.toList.set i true := by simp
  rw [e, List.count_set hil2, hli]
  have e5 : (if (true == false) = true then 1 else 0) = 0 := rfl
  have e6 : (if (false == false) = true then 1 else 0) = 1 := rfl
  rw [e5, e6]
  omega
theorem count_pos {listed : Array Bool} {i : Nat} (hi : i < listed.size) (hu : listed.getD i true = false) : 1 ≤ listed.toList.count false := by
  have hmem : false ∈ listed.toList := by
    rw [Array.getD_eq_getD_getElem?, Array.getElem?_eq_getElem hi] at hu
    have e : listed[i] = false := by simpa using hu
    rw [← e]
    exact Array.mem_toList_iff.2 (Array.getElem_mem hi)
  exact List.count_pos_iff.2 hmem

theorem every_in (rank : Nat → Nat) (Wf : Array Bool → World)
    (hac : ∀ (i : Nat) (oi : Oper), ops[i]? = some oi → ∀ e ∈ oi.after, Region.binds md e = true → rank e.on < rank i)
    (hon : ∀ (i : Nat) (oi : Oper), ops[i]? = some oi → ∀ e ∈ oi.after, e.on < ops.size)
    (hdst : ∀ i oi, ops[i]? = some oi → (oi.dst = none ∧ ∀ t, own t ≠ some i) ∨ ∃ d, oi.dst = some d ∧ d < a0.tmps.size ∧ own d = some i ∧ ∀ t, own t = some i → t = d)
    (hop : ∀ i oi a listed, ops[i]? = some oi → listed.getD i false = false → listed.size = ops.size → Shut md ops listed → (∀ e ∈ oi.after, Region.binds md e = true → listed.getD e.on false = true) → Tabd own vals a0 listed a →
      Region.wanted oi (yielded ops a.tmps) = true ∧ ∀ K : Act → World → Prop, K (a.put oi.dst (vals i)) (Wf (listed.setIfInBounds i true)) → Oper.wpIn F n P oi a (Wf listed) K Q)
    (hend : ∀ a listed, (∀ i, i < ops.size → listed.getD i false = true) → Tabd own vals a0 listed a → Q .normal a (Wf listed)) :
    ∀ (fuel : Nat) (listed : Array Bool) (a : Act), listed.size = ops.size → Shut md ops listed → listed.toList.count false ≤ fuel → Tabd own vals a0 listed a → wpAnyIn F n P md ops Q fuel listed a (Wf listed) := by
  intro fuel
  induction fuel with
  | zero =>
    intro listed a hs hcl hc ht
    have hr : Region.ready md ops listed = [] := List.eq_nil_iff_forall_not_mem.2 fun j hj => by
      obtain ⟨hun, oj, hoj, _⟩ := mem_ready.1 hj
      have hjlt : j < ops.size := (Array.getElem?_eq_some_iff.1 hoj).1
      have := count_pos (by omega) hun
      omega
    exact ⟨hr, hend a listed (all_listed hac hs hon hr) ht⟩
  | succ fuel ih =>
    intro listed a hs hcl hc ht
    refine ⟨fun hr => hend a listed (all_listed hac hs hon hr) ht, fun i hi => ?_⟩
    obtain ⟨hun, oi, hoi, hdeps⟩ := mem_ready.1 hi
    have hilt : i < ops.size := (Array.getElem?_eq_some_iff.1 hoi).1
    have hun2 : listed.getD i false = false := by
      rw [Array.getD_eq_getD_getElem?, Array.getElem?_eq_getElem (by omega)] at hun ⊢
      simpa using hun
    obtain ⟨hw, hK⟩ := hop i oi a listed hoi hun2 hs hcl hdeps ht
    unfold wpOpIn
    rw [hoi]
    simp only [hw, if_true]
    refine hK _ (ih _ _ (by simp [hs]) (shut_set hcl hs hoi hdeps) (count_set (by omega) hun hc) ?_)
    rcases hdst i oi hoi with ⟨hd, hno⟩ | ⟨d, hd, hdl, hod, hinj⟩
    · rw [hd]; exact tabd_skip ht hno
    · rw [hd]; exact tabd_put ht (by omega) hdl hod hinj
/-- the same, where no fence is -/
theorem every (rank : Nat → Nat) (Wf : Array Bool → World)
    (hac : ∀ (i : Nat) (oi : Oper), ops[i]? = some oi → ∀ e ∈ oi.after, Region.binds md e = true → rank e.on < rank i)
    (hon : ∀ (i : Nat) (oi : Oper), ops[i]? = some oi → ∀ e ∈ oi.after, e.on < ops.size)
    (hdst : ∀ i oi, ops[i]? = some oi → (oi.dst = none ∧ ∀ t, own t ≠ some i) ∨ ∃ d, oi.dst = some d ∧ d < a0.tmps.size ∧ own d = some i ∧ ∀ t, own t = some i → t = d)
    (hop : ∀ i oi a listed, ops[i]? = some oi → listed.getD i false = false → listed.size = ops.size → Shut md ops listed → (∀ e ∈ oi.after, Region.binds md e = true → listed.getD e.on false = true) → Tabd own vals a0 listed a →
      Region.wanted oi (yielded ops a.tmps) = true ∧ ∀ K : Act → World → Prop, K (a.put oi.dst (vals i)) (Wf (listed.setIfInBounds i true)) → Oper.wp P oi a (Wf listed) K Q)
    (hend : ∀ a listed, (∀ i, i < ops.size → listed.getD i false = true) → Tabd own vals a0 listed a → Q .normal a (Wf listed)) :
    ∀ (fuel : Nat) (listed : Array Bool) (a : Act), listed.size = ops.size → Shut md ops listed → listed.toList.count false ≤ fuel → Tabd own vals a0 listed a → wpAny P md ops Q fuel listed a (Wf listed) := by
  intro fuel
  induction fuel with
  | zero =>
    intro listed a hs hcl hc ht
    have hr : Region.ready md ops listed = [] := List.eq_nil_iff_forall_not_mem.2 fun j hj => by
      obtain ⟨hun, oj, hoj, _⟩ := mem_ready.1 hj
      have hjlt : j < ops.size := (Array.getElem?_eq_some_iff.1 hoj).1
      have := count_pos (by omega) hun
      omega
    exact ⟨hr, hend a listed (all_listed hac hs hon hr) ht⟩
  | succ fuel ih =>
    intro listed a hs hcl hc ht
    refine ⟨fun hr => hend a listed (all_listed hac hs hon hr) ht, fun i hi => ?_⟩
    obtain ⟨hun, oi, hoi, hdeps⟩ := mem_ready.1 hi
    have hilt : i < ops.size := (Array.getElem?_eq_some_iff.1 hoi).1
    have hun2 : listed.getD i false = false := by
      rw [Array.getD_eq_getD_getElem?, Array.getElem?_eq_getElem (by omega)] at hun ⊢
      simpa using hun
    obtain ⟨hw, hK⟩ := hop i oi a listed hoi hun2 hs hcl hdeps ht
    unfold wpOp
    rw [hoi]
    simp only [hw, if_true]
    refine .inl (hK _ (ih _ _ (by simp [hs]) (shut_set hcl hs hoi hdeps) (count_set (by omega) hun hc) ?_))
    rcases hdst i oi hoi with ⟨hd, hno⟩ | ⟨d, hd, hdl, hod, hinj⟩
    · rw [hd]; exact tabd_skip ht hno
    · rw [hd]; exact tabd_put ht (by omega) hdl hod hinj
end

/-! the checks, by looking at a region's text -/
def ownAll (ops : Array Oper) (t : Nat) : Option Nat := (List.range ops.size).find? fun i => (ops[i]?).bind (·.dst) == some t
def dstAll (ops : Array Oper) (m : Nat) : Bool := (List.range ops.size).all fun i => match (ops[i]?).bind (·.dst) with | some d => decide (d < m) && (ownAll ops d == some i) | none => true
def acAll (ops : Array Oper) : Bool := (List.range ops.size).all fun i => match ops[i]? with | some o => o.after.all fun e => (match e.ground with | .textOnly _ => true | .gcOnly _ => true | _ => decide (e.on < i)) && decide (e.on < ops.size) | none => true
theorem ownAll_spec {ops : Array Oper} {t i : Nat} (h : ownAll ops t = some i) : (ops[i]?).bind (·.dst) = some t := by
  have := List.find?_some h
  simpa using this
theorem ownAll_lt {ops : Array Oper} {t i : Nat} (h : ownAll ops t = some i) : i < ops.size := by
  have := List.mem_of_find?_eq_some h
  simpa using this
theorem dstAll_of {ops : Array Oper} {m : Nat} (h : dstAll ops m = true) (i : Nat) (oi : Oper) (hi : ops[i]? = some oi) : (oi.dst = none ∧ ∀ t, ownAll ops t ≠ some i) ∨ ∃ d, oi.dst = some d ∧ d < m ∧ ownAll ops d = some i ∧ ∀ t, ownAll ops t = some i → t = d := by
  have hlt : i < ops.size := (Array.getElem?_eq_some_iff.1 hi).1
  have := List.all_eq_true.1 h i (List.mem_range.2 hlt)
  rw [hi] at this
  simp only [Option.bind_some] at this
  cases hd : oi.dst with
  | none =>
    refine .inl ⟨rfl, fun t ht => ?_⟩
    have := ownAll_spec ht
    rw [hi, Option.bind_some, hd] at this
    cases this
  | some d =>
    rw [hd] at this
    simp only [Bool.and_eq_true, decide_eq_true_eq, beq_iff_eq] at this
    refine .inr ⟨d, rfl, this.1, this.2, fun t ht => ?_⟩
    have e2 := ownAll_spec ht
    rw [hi, Option.bind_some, hd] at e2
    injection e2 with e2
    exact e2.symm
theorem acAll_of {ops : Array Oper} (h : acAll ops = true) (i : Nat) (oi : Oper) (hi : ops[i]? = some oi) : ∀ e ∈ oi.after, Region.binds .any e = true → id e.on < id i := fun e he hb => by
  have hlt : i < ops.size := (Array.getElem?_eq_some_iff.1 hi).1
  have := List.all_eq_true.1 h i (List.mem_range.2 hlt)
  rw [hi] at this
  simp only [Array.all_eq_true_iff_forall_mem, Bool.and_eq_true] at this
  have h2 := (this e he).1
  unfold Region.binds at hb
  cases hg : e.ground <;> rw [hg] at h2 hb <;> first | (exact of_decide_eq_true h2) | (cases hb)
theorem onAll_of {ops : Array Oper} (h : acAll ops = true) (i : Nat) (oi : Oper) (hi : ops[i]? = some oi) : ∀ e ∈ oi.after, e.on < ops.size := fun e he => by
  have hlt : i < ops.size := (Array.getElem?_eq_some_iff.1 hi).1
  have := List.all_eq_true.1 h i (List.mem_range.2 hlt)
  rw [hi] at this
  simp only [Array.all_eq_true_iff_forall_mem, Bool.and_eq_true] at this
  exact of_decide_eq_true (this e he).2
theorem shut_none {md : Region.Mode} {ops : Array Oper} (k : Nat) : Shut md ops (Array.replicate k false) := by
  intro i oi _ hi
  rw [Array.getD_eq_getD_getElem?] at hi
  by_cases h : i < k <;> simp [h] at hi
theorem getD_here {listed : Array Bool} {i : Nat} (h : i < listed.size) : (listed.setIfInBounds i true).getD i false = true := by simp [h]
end Go.Word
namespace Go.Word
def fillL (own : Nat → Option Nat) (vals : Nat → Value) : Nat → List Value → List Value
  | _, [] => []
  | t, v :: r => (match own t with | some i => vals i | none => v) :: fillL own vals (t + 1) r
/-- the frame, when all have come up -/
def fill (own : Nat → Option Nat) (vals : Nat → Value) (a0 : Act) : Act := { tmps := (fillL own vals 0 a0.tmps.toList).toArray, defers := a0.defers }
theorem fillL_at (own : Nat → Option Nat) (vals : Nat → Value) : ∀ (l : List Value) (t i : Nat), (fillL own vals t l)[i]? = (l[i]?).map fun v => match own (t + i) with | some j => vals j | none => v
  | [], _, _ => by simp [fillL]
  | v :: r, t, 0 => by simp [fillL]
  | v :: r, t, i + 1 => by
    simp only [fillL, List.getElem?_cons_succ]
    rw [fillL_at own vals r (t + 1) i, show t + 1 + i = t + (i + 1) by omega]
theorem tabd_fill {own : Nat → Option Nat} {vals : Nat → Value} {a0 a : Act} {listed : Array Bool} (h : Tabd own vals a0 listed a) (hall : ∀ t i, own t = some i → listed.getD i false = true) : a = fill own vals a0 := by
  obtain ⟨tm, df⟩ := a
  obtain ⟨h1, h2, h3⟩ := h
  have e1 : df = a0.defers := h1
  have e2 : tm = (fillL own vals 0 a0.tmps.toList).toArray := by
    refine Array.ext_getElem? fun t => ?_
    have eR : ((fillL own vals 0 a0.tmps.toList).toArray)[t]? = (fillL own vals 0 a0.tmps.toList)[t]? := by simp
    rw [eR, fillL_at, Nat.zero_add]
    by_cases ht : t < a0.tmps.size
    · have := h3 t ht
      simp only at this
      rw [this, Array.getElem?_toList, Array.getElem?_eq_getElem ht]
      cases ho : own t with
      | none => rfl
      | some i => simp [hall t i ho]
    · rw [Array.getElem?_eq_none (by have h2' : tm.size = a0.tmps.size := h2; omega), List.getElem?_eq_none (by simpa using ht)]
      rfl
  unfold fill
  rw [e1, e2]
end Go.Word

namespace Go.Word
theorem move_op {P : Program} {ρ : Operand → Value} {oi : Oper} {w : World} {v : Value} (x : Operand) (ho : oi.op = .move x) (hx : ρ x = v) : (execOp ρ oi).run P w = .ok (.value v) w := by
  unfold execOp
  simp only [ho, hx]
  go_simp
theorem rep_false (n i : Nat) : (Array.replicate n false).getD i false = false := by
  rw [Array.getD_eq_getD_getElem?]
  by_cases h : i < n <;> simp [h]
end Go.Word
