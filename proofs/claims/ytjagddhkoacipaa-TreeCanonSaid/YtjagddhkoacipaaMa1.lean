/-
What is proved here: several texts in one (Tbl, Inv, Opx, Pure, Str): each says what it is about.
-/
import Derived.OrdersIn
import Derived.WalkKit
import Derived.OwnWalkIn
import Derived.Orders
import Derived.Deep.MidRow
import Derived.Test.YtjagddhkoacipaaRows
import Derived.ProofKit
import Derived.Lib.Hide
import Derived.Deep.Draws
/-
What is proved here: a region whose order is open, within a round too: where each operation but the last yields a fixed value and leaves the world as it is, every order comes to the same: the last one at the full frame. Of whatever program.
-/
set_option linter.unusedSimpArgs false
namespace Go.Word

section
variable {F : Fence} {n : Nat} {P : Program} {md : Region.Mode} {ops : Array Oper} {Q : Exit → Act → World → Prop} {own : Nat → Option Nat} {vals : Nat → Value} {a0 : Act}

/-- the frame behind those that have come up: each temporary that is theirs holds its value -/
def Tabd (own : Nat → Option Nat) (vals : Nat → Value) (a0 : Act) (listed : Array Bool) (a : Act) : Prop :=
  a.defers = a0.defers ∧ a.tmps.size = a0.tmps.size ∧ ∀ t, t < a0.tmps.size → a.tmps[t]? = (match own t with | some i => if listed.getD i false = true then some (vals i) else a0.tmps[t]? | none => a0.tmps[t]?)
theorem tabd_start {listed : Array Bool} (hl : ∀ i, listed.getD i false = false) : Tabd own vals a0 listed a0 := by
  refine ⟨rfl, rfl, fun t _ => ?_⟩
  cases own t with
  | none => rfl
  | some i => simp only [hl i, Bool.false_eq_true, if_false]
theorem tabd_put {listed : Array Bool} {a : Act} {i d : Nat} (h : Tabd own vals a0 listed a) (hi : i < listed.size) (hd : d < a0.tmps.size) (hod : own d = some i) (hinj : ∀ t, own t = some i → t = d) :
    Tabd own vals a0 (listed.setIfInBounds i true) (a.put (some d) (vals i)) := by
  obtain ⟨h1, h2, h3⟩ := h
  refine ⟨h1, by simp [Act.put, h2], fun t ht => ?_⟩
  simp only [Act.put, Array.getElem?_setIfInBounds]
  by_cases e : d = t
  · subst e
    rw [if_pos rfl, if_pos (by omega), hod]
    have : (listed.setIfInBounds i true).getD i false = true := by simp [hi]
    simp only [this, if_true]
  · rw [if_neg e, h3 t ht]
    cases ho : own t with
    | none => rfl
    | some j =>
      have hji : j ≠ i := fun e2 => e (hinj t (by rw [ho, e2])).symm
      simp only [getD_set_ne false hji.symm]
/-- what a temporary holds -/
theorem tabd_at {listed : Array Bool} {a : Act} (h : Tabd own vals a0 listed a) {t i : Nat} (ht : t < a0.tmps.size) (ho : own t = some i) (hi : listed.getD i false = true) : a.eval (.tmp t) = vals i := by
  have := h.2.2 t ht
  rw [ho] at this
  simp only [hi, if_true] at this
  show a.tmps.getD t undef = _
  rw [Array.getD_eq_getD_getElem?, this]
  rfl
theorem tabd_old {listed : Array Bool} {a : Act} (h : Tabd own vals a0 listed a) {t : Nat} (ht : t < a0.tmps.size) (ho : own t = none) : a.eval (.tmp t) = a0.eval (.tmp t) := by
  have := h.2.2 t ht
  rw [ho] at this
  show a.tmps.getD t undef = a0.tmps.getD t undef
  rw [Array.getD_eq_getD_getElem?, Array.getD_eq_getD_getElem?, this]

theorem table_in (last : Nat) (w : World)
    (hac : ∀ (i : Nat) (oi : Oper), ops[i]? = some oi → ∀ e ∈ oi.after, e.on < i)
    (hdst : ∀ i oi, ops[i]? = some oi → i ≠ last → ∃ d, oi.dst = some d ∧ d < a0.tmps.size ∧ own d = some i ∧ ∀ t, own t = some i → t = d)
    (hop : ∀ i oi a listed, ops[i]? = some oi → i ≠ last → (∀ e ∈ oi.after, Region.binds md e = true → listed.getD e.on false = true) → Tabd own vals a0 listed a →
      Region.wanted oi (yielded ops a.tmps) = true ∧ ∀ K : Act → World → Prop, K (a.put oi.dst (vals i)) w → Oper.wpIn F n P oi a w K Q)
    (hall : ∀ listed : Array Bool, (∀ i oi, ops[i]? = some oi → listed.getD i false = true → ∀ e ∈ oi.after, Region.binds md e = true → listed.getD e.on false = true) →
      (∀ ol, ops[last]? = some ol → ∀ e ∈ ol.after, Region.binds md e = true → listed.getD e.on false = true) → ∀ i, i < ops.size → i ≠ last → listed.getD i false = true)
    (hl : ∀ a listed, (∀ i, i < ops.size → i ≠ last → listed.getD i false = true) → Tabd own vals a0 listed a → ∀ K : Act → World → Prop, (∀ a' w', Q .normal a' w' → K a' w') → wpOpIn F n P ops Q last K a w) :
    ∀ (fuel : Nat) (listed : Array Bool) (a : Act), listed.size = ops.size → (∀ i oi, ops[i]? = some oi → listed.getD i false = true → ∀ e ∈ oi.after, Region.binds md e = true → listed.getD e.on false = true) →
      listed.getD last true = false → listed.toList.count false ≤ fuel → Tabd own vals a0 listed a → wpAnyIn F n P md ops Q fuel listed a w := by
  intro fuel
  induction fuel with
  | zero =>
    intro listed a hs _ hlast hc _
    have hmem : false ∈ listed.toList := by
      rcases Nat.lt_or_ge last listed.size with h | h
      · rw [Array.getD_eq_getD_getElem?, Array.getElem?_eq_getElem h] at hlast
        have e : listed[last] = false := by simpa using hlast
        rw [← e]
        exact Array.mem_toList_iff.2 (Array.getElem_mem h)
      · rw [Array.getD_eq_getD_getElem?, Array.getElem?_eq_none h] at hlast
        cases hlast
    have := List.count_pos_iff.2 hmem
    omega
  | succ fuel ih =>
    intro listed a hs hcl hlast hc ht
    have climb : ∀ k, listed.getD k true = false → ∃ j, j ∈ Region.ready md ops listed := by
      intro k
      induction k using Nat.strongRecOn with
      | _ k ihk =>
        intro hk
        have hks : k < listed.size := by
          rcases Nat.lt_or_ge k listed.size with h | h
          · exact h
          · rw [Array.getD_eq_getD_getElem?, Array.getElem?_eq_none h] at hk; cases hk
        obtain ⟨ok, hok⟩ : ∃ o, ops[k]? = some o := ⟨_, Array.getElem?_eq_getElem (by omega)⟩
        by_cases hd : ∀ e ∈ ok.after, Region.binds md e = true → listed.getD e.on false = true
        · exact ⟨k, mem_ready.2 ⟨hk, ok, hok, hd⟩⟩
        · obtain ⟨e, he, hn⟩ : ∃ e, e ∈ ok.after ∧ ¬ (Region.binds md e = true → listed.getD e.on false = true) := by
            refine Classical.byContradiction fun hx => hd fun e he hb => Classical.byContradiction fun hy => hx ⟨e, he, fun h => hy (h hb)⟩
          have hlt := hac k ok hok e he
          refine ihk e.on hlt ?_
          have hn2 : listed.getD e.on false ≠ true := fun h => hn fun _ => h
          have hes : e.on < listed.size := by omega
          rw [Array.getD_eq_getD_getElem?, Array.getElem?_eq_getElem hes] at hn2 ⊢
          simpa using hn2
    have some_ready : Region.ready md ops listed = [] → Q .normal a w := fun hr => by
      obtain ⟨j, hj⟩ := climb last hlast
      rw [hr] at hj
      cases hj
    refine ⟨some_ready, fun i hi => ?_⟩
    obtain ⟨hun, oi, hoi, hdeps⟩ := mem_ready.1 hi
    have hilt : i < ops.size := (Array.getElem?_eq_some_iff.1 hoi).1
    by_cases hil : i = last
    · subst hil
      have hothers := hall listed hcl (fun ol hol => by rw [hoi] at hol; injection hol with hol; subst hol; exact hdeps)
      refine hl a listed hothers ht _ (fun a' w' hq => wpAnyIn_done ?_ hq fuel)
      refine List.eq_nil_iff_forall_not_mem.2 fun j hj => ?_
      obtain ⟨hj1, oj, hoj, _⟩ := mem_ready.1 hj
      have hjlt : j < ops.size := (Array.getElem?_eq_some_iff.1 hoj).1
      by_cases hji : j = i
      · subst hji
        simp [hs, hjlt] at hj1
      · rw [getD_set_ne true (Ne.symm hji)] at hj1
        have h2 := hothers j hjlt hji
        rw [Array.getD_eq_getD_getElem?, Array.getElem?_eq_getElem (by omega)] at hj1 h2
        simp only [Option.getD_some] at hj1 h2
        rw [hj1] at h2
        cases h2
    · obtain ⟨hw, hK⟩ := hop i oi a listed hoi hil hdeps ht
      obtain ⟨d, hd, hdl, hod, hinj⟩ := hdst i oi hoi hil
      unfold wpOpIn
      rw [hoi]
      simp only [hw, if_true]
      refine hK _ (ih _ _ (by simp [hs]) (fun j oj hoj hj e he hb => ?_) (by rw [getD_set_ne true hil]; exact hlast) ?_ (by rw [hd]; exact tabd_put ht (by omega) hdl hod hinj))
      · have keep : ∀ k, listed.getD k false = true → (listed.setIfInBounds i true).getD k false = true := fun k hk => by
          by_cases e2 : i = k
          · subst e2; simp [hs, hilt]
          · rw [getD_set_ne false e2]; exact hk
        by_cases hji : i = j
        · subst hji
          rw [hoi] at hoj
          injection hoj with hoj
          subst hoj
          exact keep _ (hdeps e he hb)
        · rw [getD_set_ne false hji] at hj
          exact keep _ (hcl j oj hoj hj e he hb)
      · have hif : listed[i]'(by omega) = false := by
          rw [Array.getD_eq_getD_getElem?, Array.getElem?_eq_getElem (by omega)] at hun
          simpa using hun
        have hil2 : i < listed.toList.length := by simp; omega
        have hli : listed.toList[i] = false := by simpa using hif
        have e : (listed.setIfInBounds i true).toList = listed.toList.set i true := by simp
        rw [e, List.count_set hil2, hli]
        have e5 : (if (true == false) = true then 1 else 0) = 0 := rfl
        have e6 : (if (false == false) = true then 1 else 0) = 1 := rfl
        rw [e5, e6]
        omega
end
end Go.Word
namespace Go.Word

def ownOf (ops : Array Oper) (last : Nat) (t : Nat) : Option Nat := (List.range ops.size).find? fun i => i != last && ((ops[i]?).bind (·.dst) == some t)
def dstOk (ops : Array Oper) (last m : Nat) : Bool := (List.range ops.size).all fun i => i == last || (match (ops[i]?).bind (·.dst) with | some d => decide (d < m) && (ownOf ops last d == some i) | none => false)
def acOk (ops : Array Oper) : Bool := (List.range ops.size).all fun i => match ops[i]? with | some o => o.after.all fun e => decide (e.on < i) | none => true
theorem own_spec {ops : Array Oper} {last t i : Nat} (h : ownOf ops last t = some i) : (ops[i]?).bind (·.dst) = some t := by
  have := List.find?_some h
  simp only [Bool.and_eq_true, beq_iff_eq] at this
  exact this.2
theorem dst_of {ops : Array Oper} {last m : Nat} (h : dstOk ops last m = true) (i : Nat) (oi : Oper) (hi : ops[i]? = some oi) (hl : i ≠ last) : ∃ d, oi.dst = some d ∧ d < m ∧ ownOf ops last d = some i ∧ ∀ t, ownOf ops last t = some i → t = d := by
  have hlt : i < ops.size := (Array.getElem?_eq_some_iff.1 hi).1
  have := List.all_eq_true.1 h i (List.mem_range.2 hlt)
  rw [hi] at this
  simp only [Option.bind_some, Bool.or_eq_true, beq_iff_eq] at this
  rcases this with e | e
  · exact absurd e hl
  · cases hd : oi.dst with
    | none => rw [hd] at e; cases e
    | some d =>
      rw [hd] at e
      simp only [Bool.and_eq_true, decide_eq_true_eq, beq_iff_eq] at e
      refine ⟨d, rfl, e.1, e.2, fun t ht => ?_⟩
      have e2 := own_spec ht
      rw [hi, Option.bind_some, hd] at e2
      injection e2 with e2
      exact e2.symm
theorem ac_of {ops : Array Oper} (h : acOk ops = true) (i : Nat) (oi : Oper) (hi : ops[i]? = some oi) : ∀ e ∈ oi.after, e.on < i := fun e he => by
  have hlt : i < ops.size := (Array.getElem?_eq_some_iff.1 hi).1
  have := List.all_eq_true.1 h i (List.mem_range.2 hlt)
  rw [hi] at this
  simp only [Array.all_eq_true_iff_forall_mem, decide_eq_true_eq] at this
  exact this e he
section
variable {F : Fence} {n : Nat} {P : Program} {Q : Exit → Act → World → Prop} {a : Act} {w : World} {K : Act → World → Prop} {oi : Oper}
theorem wpIn_value {v : Value} (hnd : ∀ c, oi.op ≠ .defer c) (hab : oi.about P w a.eval = none) (hr : (execOp a.eval oi).run P w = .ok (.value v) w) (h : K (a.put oi.dst v) w) : Oper.wpIn F n P oi a w K Q :=
  ⟨fun f hf => (by rw [hab] at hf; cases hf), by rw [Oper.semAt_eq _ _ _ hnd, hr]; exact h⟩
theorem wpIn_turn {v : Value} {w' : World} (hnd : ∀ c, oi.op ≠ .defer c) (hab : ∀ f, oi.about P w a.eval = some f → F.fn f) (hr : (execOp a.eval oi).run P w = .ok (.value v) w') (h : K (a.put oi.dst v) w') : Oper.wpIn F n P oi a w K Q :=
  ⟨hab, by rw [Oper.semAt_eq _ _ _ hnd, hr]; exact h⟩
theorem wpIn_call {v : Value} {f : FuncId} {args : Array Value} (hnd : ∀ c, oi.op ≠ .defer c) (hab : ∀ f, oi.about P w a.eval = some f → F.fn f) (hr : (execOp a.eval oi).run P w = .ok (.enter f args) w) (hn : 1 ≤ n) (hc : CallsIn F (n - 1) P f args w fun e w' => e = .returned v ∧ w = w') (h : K (a.put oi.dst v) w) : Oper.wpIn F n P oi a w K Q :=
  ⟨hab, by
    rw [Oper.semAt_eq _ _ _ hnd, hr]
    refine ⟨fun _ => hn, hc.mono ?_⟩
    rintro e w' ⟨rfl, rfl⟩
    exact h⟩
end
end Go.Word
namespace Go.Word

section
variable {F : Fence} {n : Nat} {P : Program} {md : Region.Mode} {ops : Array Oper} {Q : Exit → Act → World → Prop} {own : Nat → Option Nat} {vals : Nat → Value} {a0 : Act}

/-- what has come up: with each, what it waits for -/
def Shut (md : Region.Mode) (ops : Array Oper) (listed : Array Bool) : Prop := ∀ i oi, ops[i]? = some oi → listed.getD i false = true → ∀ e ∈ oi.after, Region.binds md e = true → listed.getD e.on false = true
theorem shut_set {listed : Array Bool} (h : Shut md ops listed) (hs : listed.size = ops.size) {i : Nat} {oi : Oper} (hoi : ops[i]? = some oi) (hd : ∀ e ∈ oi.after, Region.binds md e = true → listed.getD e.on false = true) : Shut md ops (listed.setIfInBounds i true) := by
  intro j oj hoj hj e he hb
  have hilt : i < ops.size := (Array.getElem?_eq_some_iff.1 hoi).1
  have keep : ∀ k, listed.getD k false = true → (listed.setIfInBounds i true).getD k false = true := fun k hk => by
    by_cases e2 : i = k
    · subst e2; simp [hs, hilt]
    · rw [getD_set_ne false e2]; exact hk
  by_cases hji : i = j
  · subst hji
    rw [hoi] at hoj
    injection hoj with hoj
    subst hoj
    exact keep _ (hd e he hb)
  · rw [getD_set_ne false hji] at hj
    exact keep _ (h j oj hoj hj e he hb)
theorem tabd_skip {listed : Array Bool} {a : Act} {i : Nat} (h : Tabd own vals a0 listed a) (hod : ∀ t, own t ≠ some i) : Tabd own vals a0 (listed.setIfInBounds i true) (a.put none (vals i)) := by
  obtain ⟨h1, h2, h3⟩ := h
  refine ⟨h1, h2, fun t ht => ?_⟩
  show a.tmps[t]? = _
  rw [h3 t ht]
  cases ho : own t with
  | none => rfl
  | some j =>
    have hji : i ≠ j := fun e => hod t (by rw [ho, e])
    simp only [getD_set_ne false hji]
theorem all_listed {rank : Nat → Nat} {listed : Array Bool} (hac : ∀ (i : Nat) (oi : Oper), ops[i]? = some oi → ∀ e ∈ oi.after, Region.binds md e = true → rank e.on < rank i) (hs : listed.size = ops.size)
    (hon : ∀ (i : Nat) (oi : Oper), ops[i]? = some oi → ∀ e ∈ oi.after, e.on < ops.size) (hr : Region.ready md ops listed = []) : ∀ i, i < ops.size → listed.getD i false = true := by
  have key : ∀ r i, rank i = r → i < ops.size → listed.getD i false = true := by
    intro r
    induction r using Nat.strongRecOn with
    | _ r ih =>
      intro i hri hi
      obtain ⟨oi, hoi⟩ : ∃ o, ops[i]? = some o := ⟨_, Array.getElem?_eq_getElem hi⟩
      refine Classical.byContradiction fun hn => ?_
      have hun : listed.getD i true = false := by
        rw [Array.getD_eq_getD_getElem?, Array.getElem?_eq_getElem (by omega)] at hn ⊢
        simpa using hn
      have : i ∈ Region.ready md ops listed := mem_ready.2 ⟨hun, oi, hoi, fun e he hb => ih _ (by rw [← hri]; exact hac i oi hoi e he hb) e.on rfl (hon i oi hoi e he)⟩
      rw [hr] at this
      cases this
  exact fun i hi => key _ i rfl hi
theorem count_set {listed : Array Bool} {i k : Nat} (hi : i < listed.size) (hu : listed.getD i true = false) (hc : listed.toList.count false ≤ k + 1) : (listed.setIfInBounds i true).toList.count false ≤ k := by
  have hif : listed[i]'hi = false := by
    rw [Array.getD_eq_getD_getElem?, Array.getElem?_eq_getElem hi] at hu
    simpa using hu
  have hil2 : i < listed.toList.length := by simpa using hi
  have hli : listed.toList[i] = false := by simpa using hif
  have e : (listed.setIfInBounds i true).toList = listed.toList.set i true := by simp
  rw [e, List.count_set hil2, hli]
  have e5 : (if (true == false) = true then 1 else 0) = 0 := rfl
  have e6 : (if (false == false) = true then 1 else 0) = 1 := rfl
  rw [e5, e6]
  omega
theorem count_pos {listed : Array Bool} {i : Nat} (hi : i < listed.size) (hu : listed.getD i true = false) : 1 ≤ listed.toList.count false := by
  have hmem : false ∈ listed.toList := by
    rw [Array.getD_eq_getD_getElem?, Array.getElem?_eq_getElem hi] at hu
    have e : listed[i] = false := by simpa using hu
    rw [← e]
    exact Array.mem_toList_iff.2 (Array.getElem_mem hi)
  exact List.count_pos_iff.2 hmem

theorem every_in (rank : Nat → Nat) (Wf : Array Bool → World)
    (hac : ∀ (i : Nat) (oi : Oper), ops[i]? = some oi → ∀ e ∈ oi.after, Region.binds md e = true → rank e.on < rank i)
    (hon : ∀ (i : Nat) (oi : Oper), ops[i]? = some oi → ∀ e ∈ oi.after, e.on < ops.size)
    (hdst : ∀ i oi, ops[i]? = some oi → (oi.dst = none ∧ ∀ t, own t ≠ some i) ∨ ∃ d, oi.dst = some d ∧ d < a0.tmps.size ∧ own d = some i ∧ ∀ t, own t = some i → t = d)
    (hop : ∀ i oi a listed, ops[i]? = some oi → listed.getD i false = false → listed.size = ops.size → Shut md ops listed → (∀ e ∈ oi.after, Region.binds md e = true → listed.getD e.on false = true) → Tabd own vals a0 listed a →
      Region.wanted oi (yielded ops a.tmps) = true ∧ ∀ K : Act → World → Prop, K (a.put oi.dst (vals i)) (Wf (listed.setIfInBounds i true)) → Oper.wpIn F n P oi a (Wf listed) K Q)
    (hend : ∀ a listed, (∀ i, i < ops.size → listed.getD i false = true) → Tabd own vals a0 listed a → Q .normal a (Wf listed)) :
    ∀ (fuel : Nat) (listed : Array Bool) (a : Act), listed.size = ops.size → Shut md ops listed → listed.toList.count false ≤ fuel → Tabd own vals a0 listed a → wpAnyIn F n P md ops Q fuel listed a (Wf listed) := by
  intro fuel
  induction fuel with
  | zero =>
    intro listed a hs hcl hc ht
    have hr : Region.ready md ops listed = [] := List.eq_nil_iff_forall_not_mem.2 fun j hj => by
      obtain ⟨hun, oj, hoj, _⟩ := mem_ready.1 hj
      have hjlt : j < ops.size := (Array.getElem?_eq_some_iff.1 hoj).1
      have := count_pos (by omega) hun
      omega
    exact ⟨hr, hend a listed (all_listed hac hs hon hr) ht⟩
  | succ fuel ih =>
    intro listed a hs hcl hc ht
    refine ⟨fun hr => hend a listed (all_listed hac hs hon hr) ht, fun i hi => ?_⟩
    obtain ⟨hun, oi, hoi, hdeps⟩ := mem_ready.1 hi
    have hilt : i < ops.size := (Array.getElem?_eq_some_iff.1 hoi).1
    have hun2 : listed.getD i false = false := by
      rw [Array.getD_eq_getD_getElem?, Array.getElem?_eq_getElem (by omega)] at hun ⊢
      simpa using hun
    obtain ⟨hw, hK⟩ := hop i oi a listed hoi hun2 hs hcl hdeps ht
    unfold wpOpIn
    rw [hoi]
    simp only [hw, if_true]
    refine hK _ (ih _ _ (by simp [hs]) (shut_set hcl hs hoi hdeps) (count_set (by omega) hun hc) ?_)
    rcases hdst i oi hoi with ⟨hd, hno⟩ | ⟨d, hd, hdl, hod, hinj⟩
    · rw [hd]; exact tabd_skip ht hno
    · rw [hd]; exact tabd_put ht (by omega) hdl hod hinj
/-- the same, where no fence is -/
theorem every (rank : Nat → Nat) (Wf : Array Bool → World)
    (hac : ∀ (i : Nat) (oi : Oper), ops[i]? = some oi → ∀ e ∈ oi.after, Region.binds md e = true → rank e.on < rank i)
    (hon : ∀ (i : Nat) (oi : Oper), ops[i]? = some oi → ∀ e ∈ oi.after, e.on < ops.size)
    (hdst : ∀ i oi, ops[i]? = some oi → (oi.dst = none ∧ ∀ t, own t ≠ some i) ∨ ∃ d, oi.dst = some d ∧ d < a0.tmps.size ∧ own d = some i ∧ ∀ t, own t = some i → t = d)
    (hop : ∀ i oi a listed, ops[i]? = some oi → listed.getD i false = false → listed.size = ops.size → Shut md ops listed → (∀ e ∈ oi.after, Region.binds md e = true → listed.getD e.on false = true) → Tabd own vals a0 listed a →
      Region.wanted oi (yielded ops a.tmps) = true ∧ ∀ K : Act → World → Prop, K (a.put oi.dst (vals i)) (Wf (listed.setIfInBounds i true)) → Oper.wp P oi a (Wf listed) K Q)
    (hend : ∀ a listed, (∀ i, i < ops.size → listed.getD i false = true) → Tabd own vals a0 listed a → Q .normal a (Wf listed)) :
    ∀ (fuel : Nat) (listed : Array Bool) (a : Act), listed.size = ops.size → Shut md ops listed → listed.toList.count false ≤ fuel → Tabd own vals a0 listed a → wpAny P md ops Q fuel listed a (Wf listed) := by
  intro fuel
  induction fuel with
  | zero =>
    intro listed a hs hcl hc ht
    have hr : Region.ready md ops listed = [] := List.eq_nil_iff_forall_not_mem.2 fun j hj => by
      obtain ⟨hun, oj, hoj, _⟩ := mem_ready.1 hj
      have hjlt : j < ops.size := (Array.getElem?_eq_some_iff.1 hoj).1
      have := count_pos (by omega) hun
      omega
    exact ⟨hr, hend a listed (all_listed hac hs hon hr) ht⟩
  | succ fuel ih =>
    intro listed a hs hcl hc ht
    refine ⟨fun hr => hend a listed (all_listed hac hs hon hr) ht, fun i hi => ?_⟩
    obtain ⟨hun, oi, hoi, hdeps⟩ := mem_ready.1 hi
    have hilt : i < ops.size := (Array.getElem?_eq_some_iff.1 hoi).1
    have hun2 : listed.getD i false = false := by
      rw [Array.getD_eq_getD_getElem?, Array.getElem?_eq_getElem (by omega)] at hun ⊢
      simpa using hun
    obtain ⟨hw, hK⟩ := hop i oi a listed hoi hun2 hs hcl hdeps ht
    unfold wpOp
    rw [hoi]
    simp only [hw, if_true]
    refine .inl (hK _ (ih _ _ (by simp [hs]) (shut_set hcl hs hoi hdeps) (count_set (by omega) hun hc) ?_))
    rcases hdst i oi hoi with ⟨hd, hno⟩ | ⟨d, hd, hdl, hod, hinj⟩
    · rw [hd]; exact tabd_skip ht hno
    · rw [hd]; exact tabd_put ht (by omega) hdl hod hinj
end

/-! the checks, by looking at a region's text -/
def ownAll (ops : Array Oper) (t : Nat) : Option Nat := (List.range ops.size).find? fun i => (ops[i]?).bind (·.dst) == some t
def dstAll (ops : Array Oper) (m : Nat) : Bool := (List.range ops.size).all fun i => match (ops[i]?).bind (·.dst) with | some d => decide (d < m) && (ownAll ops d == some i) | none => true
def acAll (ops : Array Oper) : Bool := (List.range ops.size).all fun i => match ops[i]? with | some o => o.after.all fun e => (match e.ground with | .textOnly _ => true | .gcOnly _ => true | _ => decide (e.on < i)) && decide (e.on < ops.size) | none => true
theorem ownAll_spec {ops : Array Oper} {t i : Nat} (h : ownAll ops t = some i) : (ops[i]?).bind (·.dst) = some t := by
  have := List.find?_some h
  simpa using this
theorem ownAll_lt {ops : Array Oper} {t i : Nat} (h : ownAll ops t = some i) : i < ops.size := by
  have := List.mem_of_find?_eq_some h
  simpa using this
theorem dstAll_of {ops : Array Oper} {m : Nat} (h : dstAll ops m = true) (i : Nat) (oi : Oper) (hi : ops[i]? = some oi) : (oi.dst = none ∧ ∀ t, ownAll ops t ≠ some i) ∨ ∃ d, oi.dst = some d ∧ d < m ∧ ownAll ops d = some i ∧ ∀ t, ownAll ops t = some i → t = d := by
  have hlt : i < ops.size := (Array.getElem?_eq_some_iff.1 hi).1
  have := List.all_eq_true.1 h i (List.mem_range.2 hlt)
  rw [hi] at this
  simp only [Option.bind_some] at this
  cases hd : oi.dst with
  | none =>
    refine .inl ⟨rfl, fun t ht => ?_⟩
    have := ownAll_spec ht
    rw [hi, Option.bind_some, hd] at this
    cases this
  | some d =>
    rw [hd] at this
    simp only [Bool.and_eq_true, decide_eq_true_eq, beq_iff_eq] at this
    refine .inr ⟨d, rfl, this.1, this.2, fun t ht => ?_⟩
    have e2 := ownAll_spec ht
    rw [hi, Option.bind_some, hd] at e2
    injection e2 with e2
    exact e2.symm
theorem acAll_of {ops : Array Oper} (h : acAll ops = true) (i : Nat) (oi : Oper) (hi : ops[i]? = some oi) : ∀ e ∈ oi.after, Region.binds .any e = true → id e.on < id i := fun e he hb => by
  have hlt : i < ops.size := (Array.getElem?_eq_some_iff.1 hi).1
  have := List.all_eq_true.1 h i (List.mem_range.2 hlt)
  rw [hi] at this
  simp only [Array.all_eq_true_iff_forall_mem, Bool.and_eq_true] at this
  have h2 := (this e he).1
  unfold Region.binds at hb
  cases hg : e.ground <;> rw [hg] at h2 hb <;> first | (exact of_decide_eq_true h2) | (cases hb)
theorem onAll_of {ops : Array Oper} (h : acAll ops = true) (i : Nat) (oi : Oper) (hi : ops[i]? = some oi) : ∀ e ∈ oi.after, e.on < ops.size := fun e he => by
  have hlt : i < ops.size := (Array.getElem?_eq_some_iff.1 hi).1
  have := List.all_eq_true.1 h i (List.mem_range.2 hlt)
  rw [hi] at this
  simp only [Array.all_eq_true_iff_forall_mem, Bool.and_eq_true] at this
  exact of_decide_eq_true (this e he).2
theorem shut_none {md : Region.Mode} {ops : Array Oper} (k : Nat) : Shut md ops (Array.replicate k false) := by
  intro i oi _ hi
  rw [Array.getD_eq_getD_getElem?] at hi
  by_cases h : i < k <;> simp [h] at hi
theorem getD_here {listed : Array Bool} {i : Nat} (h : i < listed.size) : (listed.setIfInBounds i true).getD i false = true := by simp [h]
end Go.Word
namespace Go.Word
def fillL (own : Nat → Option Nat) (vals : Nat → Value) : Nat → List Value → List Value
  | _, [] => []
  | t, v :: r => (match own t with | some i => vals i | none => v) :: fillL own vals (t + 1) r
/-- the frame, when all have come up -/
def fill (own : Nat → Option Nat) (vals : Nat → Value) (a0 : Act) : Act := { tmps := (fillL own vals 0 a0.tmps.toList).toArray, defers := a0.defers }
theorem fillL_at (own : Nat → Option Nat) (vals : Nat → Value) : ∀ (l : List Value) (t i : Nat), (fillL own vals t l)[i]? = (l[i]?).map fun v => match own (t + i) with | some j => vals j | none => v
  | [], _, _ => by simp [fillL]
  | v :: r, t, 0 => by simp [fillL]
  | v :: r, t, i + 1 => by
    simp only [fillL, List.getElem?_cons_succ]
    rw [fillL_at own vals r (t + 1) i, show t + 1 + i = t + (i + 1) by omega]
theorem tabd_fill {own : Nat → Option Nat} {vals : Nat → Value} {a0 a : Act} {listed : Array Bool} (h : Tabd own vals a0 listed a) (hall : ∀ t i, own t = some i → listed.getD i false = true) : a = fill own vals a0 := by
  obtain ⟨tm, df⟩ := a
  obtain ⟨h1, h2, h3⟩ := h
  have e1 : df = a0.defers := h1
  have e2 : tm = (fillL own vals 0 a0.tmps.toList).toArray := by
    refine Array.ext_getElem? fun t => ?_
    have eR : ((fillL own vals 0 a0.tmps.toList).toArray)[t]? = (fillL own vals 0 a0.tmps.toList)[t]? := by simp
    rw [eR, fillL_at, Nat.zero_add]
    by_cases ht : t < a0.tmps.size
    · have := h3 t ht
      simp only at this
      rw [this, Array.getElem?_toList, Array.getElem?_eq_getElem ht]
      cases ho : own t with
      | none => rfl
      | some i => simp [hall t i ho]
    · rw [Array.getElem?_eq_none (by have h2' : tm.size = a0.tmps.size := h2; omega), List.getElem?_eq_none (by simpa using ht)]
      rfl
  unfold fill
  rw [e1, e2]
end Go.Word

namespace Go.Word
theorem move_op {P : Program} {ρ : Operand → Value} {oi : Oper} {w : World} {v : Value} (x : Operand) (ho : oi.op = .move x) (hx : ρ x = v) : (execOp ρ oi).run P w = .ok (.value v) w := by
  unfold execOp
  simp only [ho, hx]
  go_simp
theorem rep_false (n i : Nat) : (Array.replicate n false).getD i false = false := by
  rw [Array.getD_eq_getD_getElem?]
  by_cases h : i < n <;> simp [h]
end Go.Word

/-
What is proved here: a region whose order is open: where each operation yields a fixed value and keeps a property of the world, every order comes to the same frame, in some world of that property. Of whatever program.
-/
set_option linter.unusedSimpArgs false
namespace Go.Word
section
variable {F : Fence} {n : Nat} {P : Program} {md : Region.Mode} {ops : Array Oper} {Q : Exit → Act → World → Prop} {own : Nat → Option Nat} {vals : Nat → Value} {a0 : Act}
theorem every_inv (rank : Nat → Nat) (Inv : World → Prop)
    (hac : ∀ (i : Nat) (oi : Oper), ops[i]? = some oi → ∀ e ∈ oi.after, Region.binds md e = true → rank e.on < rank i)
    (hon : ∀ (i : Nat) (oi : Oper), ops[i]? = some oi → ∀ e ∈ oi.after, e.on < ops.size)
    (hdst : ∀ i oi, ops[i]? = some oi → (oi.dst = none ∧ ∀ t, own t ≠ some i) ∨ ∃ d, oi.dst = some d ∧ d < a0.tmps.size ∧ own d = some i ∧ ∀ t, own t = some i → t = d)
    (hop : ∀ i oi a w listed, ops[i]? = some oi → (∀ e ∈ oi.after, Region.binds md e = true → listed.getD e.on false = true) → Tabd own vals a0 listed a → Inv w →
      (Region.wanted oi (yielded ops a.tmps) = true ∧ ∀ K : Act → World → Prop, (∀ w', Inv w' → K (a.put oi.dst (vals i)) w') → Oper.wp P oi a w K Q) ∨ (Region.wanted oi (yielded ops a.tmps) = false ∧ vals i = undef))
    (hend : ∀ a w listed, (∀ i, i < ops.size → listed.getD i false = true) → Tabd own vals a0 listed a → Inv w → Q .normal a w) :
    ∀ (fuel : Nat) (listed : Array Bool) (a : Act) (w : World), listed.size = ops.size → listed.toList.count false ≤ fuel → Tabd own vals a0 listed a → Inv w → wpAny P md ops Q fuel listed a w := by
  intro fuel
  induction fuel with
  | zero =>
    intro listed a w hs hc ht hI
    have hr : Region.ready md ops listed = [] := List.eq_nil_iff_forall_not_mem.2 fun j hj => by
      obtain ⟨hun, oj, hoj, _⟩ := mem_ready.1 hj
      have hjlt : j < ops.size := (Array.getElem?_eq_some_iff.1 hoj).1
      have := count_pos (by omega) hun
      omega
    exact ⟨hr, hend a w listed (all_listed hac hs hon hr) ht hI⟩
  | succ fuel ih =>
    intro listed a w hs hc ht hI
    refine ⟨fun hr => hend a w listed (all_listed hac hs hon hr) ht hI, fun i hi => ?_⟩
    obtain ⟨hun, oi, hoi, hdeps⟩ := mem_ready.1 hi
    have hilt : i < ops.size := (Array.getElem?_eq_some_iff.1 hoi).1
    have ht' : Tabd own vals a0 (listed.setIfInBounds i true) (a.put oi.dst (vals i)) := by
      rcases hdst i oi hoi with ⟨hd, hno⟩ | ⟨d, hd, hdl, hod, hinj⟩
      · rw [hd]; exact tabd_skip ht hno
      · rw [hd]; exact tabd_put ht (by omega) hdl hod hinj
    unfold wpOp
    rw [hoi]
    rcases hop i oi a w listed hoi hdeps ht hI with ⟨hw, hK⟩ | ⟨hw, hv⟩
    · simp only [hw, if_true]
      exact .inl (hK _ (fun w' hw' => ih _ _ _ (by simp [hs]) (count_set (by omega) hun hc) ht' hw'))
    · simp only [hw, Bool.false_eq_true, if_false]
      rw [hv] at ht'
      exact ih _ _ _ (by simp [hs]) (count_set (by omega) hun hc) ht' hI
/-- the same, within a round or a fence -/
theorem every_inv_in (rank : Nat → Nat) (Inv : World → Prop)
    (hac : ∀ (i : Nat) (oi : Oper), ops[i]? = some oi → ∀ e ∈ oi.after, Region.binds md e = true → rank e.on < rank i)
    (hon : ∀ (i : Nat) (oi : Oper), ops[i]? = some oi → ∀ e ∈ oi.after, e.on < ops.size)
    (hdst : ∀ i oi, ops[i]? = some oi → (oi.dst = none ∧ ∀ t, own t ≠ some i) ∨ ∃ d, oi.dst = some d ∧ d < a0.tmps.size ∧ own d = some i ∧ ∀ t, own t = some i → t = d)
    (hop : ∀ i oi a w listed, ops[i]? = some oi → (∀ e ∈ oi.after, Region.binds md e = true → listed.getD e.on false = true) → Tabd own vals a0 listed a → Inv w →
      (Region.wanted oi (yielded ops a.tmps) = true ∧ ∀ K : Act → World → Prop, (∀ w', Inv w' → K (a.put oi.dst (vals i)) w') → Oper.wpIn F n P oi a w K Q) ∨ (Region.wanted oi (yielded ops a.tmps) = false ∧ (∀ f, oi.about P w a.eval = some f → F.fn f) ∧ vals i = undef))
    (hend : ∀ a w listed, (∀ i, i < ops.size → listed.getD i false = true) → Tabd own vals a0 listed a → Inv w → Q .normal a w) :
    ∀ (fuel : Nat) (listed : Array Bool) (a : Act) (w : World), listed.size = ops.size → listed.toList.count false ≤ fuel → Tabd own vals a0 listed a → Inv w → wpAnyIn F n P md ops Q fuel listed a w := by
  intro fuel
  induction fuel with
  | zero =>
    intro listed a w hs hc ht hI
    have hr : Region.ready md ops listed = [] := List.eq_nil_iff_forall_not_mem.2 fun j hj => by
      obtain ⟨hun, oj, hoj, _⟩ := mem_ready.1 hj
      have hjlt : j < ops.size := (Array.getElem?_eq_some_iff.1 hoj).1
      have := count_pos (by omega) hun
      omega
    exact ⟨hr, hend a w listed (all_listed hac hs hon hr) ht hI⟩
  | succ fuel ih =>
    intro listed a w hs hc ht hI
    refine ⟨fun hr => hend a w listed (all_listed hac hs hon hr) ht hI, fun i hi => ?_⟩
    obtain ⟨hun, oi, hoi, hdeps⟩ := mem_ready.1 hi
    have hilt : i < ops.size := (Array.getElem?_eq_some_iff.1 hoi).1
    have ht' : Tabd own vals a0 (listed.setIfInBounds i true) (a.put oi.dst (vals i)) := by
      rcases hdst i oi hoi with ⟨hd, hno⟩ | ⟨d, hd, hdl, hod, hinj⟩
      · rw [hd]; exact tabd_skip ht hno
      · rw [hd]; exact tabd_put ht (by omega) hdl hod hinj
    unfold wpOpIn
    rw [hoi]
    rcases hop i oi a w listed hoi hdeps ht hI with ⟨hw, hK⟩ | ⟨hw, hab, hv⟩
    · simp only [hw, if_true]
      exact hK _ (fun w' hw' => ih _ _ _ (by simp [hs]) (count_set (by omega) hun hc) ht' hw')
    · simp only [hw, Bool.false_eq_true, if_false]
      rw [hv] at ht'
      exact ⟨hab, ih _ _ _ (by simp [hs]) (count_set (by omega) hun hc) ht' hI⟩
end
end Go.Word

/-
What is proved here: single operations of a region that draws its order, by the equations of their runs. Of whatever program.
-/
set_option linter.unusedSimpArgs false
namespace Go.Word
section
variable {P : Program} {Q : Exit → Act → World → Prop} {a : Act} {w w' : World} {K : Act → World → Prop} {oi : Oper}
theorem wp_val {v : Value} (hr : (execOp a.eval oi).run P w = .ok (.value v) w) (h : K (a.put oi.dst v) w) : Oper.wp P oi a w K Q := by
  unfold Oper.wp
  rw [hr]
  exact h
theorem wp_callI {v : Value} {R : World → Prop} {f : FuncId} {args : Array Value} (hr : (execOp a.eval oi).run P w = .ok (.enter f args) w) (hc : Calls P f args w fun e w2 => e = .returned v ∧ R w2) (h : ∀ w2, R w2 → K (a.put oi.dst v) w2) : Oper.wp P oi a w K Q := by
  unfold Oper.wp
  rw [hr]
  refine hc.mono ?_
  rintro e w2 ⟨rfl, hR⟩
  exact h _ hR
theorem load_op {ρ : Operand → Value} {oi : Oper} {w : World} (ty : TypeId) (x : Operand) (ho : oi.op = .load ty x) (b off : Nat) (hx : ρ x = .pointer (some ⟨b, off, none⟩)) (cs : List Value) (d : TypeDesc) (hc : w.rangeAt b off cs)
    (hu : P.underlying ty = some d) (hd : d.isRow = true) (hi : (P.info? ty).map (·.size) = some cs.length) : (execOp ρ oi).run P w = .ok (.value (.agg cs.toArray)) w := by
  unfold execOp
  simp only [ho, hx, Instr.loadAt, Instr.sureAddr, Sem.run_bind, Sem.run_pure, Result.andThen_ok, run_loadVar_mid w b off ty cs d hc hu hd hi]
end
section
variable {own : Nat → Option Nat} {vals : Nat → Value} {a0 a : Act} {ops : Array Oper} {listed : Array Bool} {oi oj : Oper} {j t : Nat} {b c : Bool}
theorem tabd_wanted (ht : Tabd own vals a0 listed a) (hg : oi.guard = some (j, b)) (hd : (ops[j]?).bind (·.dst) = some t) (hl : t < a0.tmps.size) (ho : own t = some j) (hj : listed.getD j false = true) (hv : vals j = .bool b) : Region.wanted oi (yielded ops a.tmps) = true := by
  have h := ht.2.2 t hl
  rw [ho] at h
  simp only [hj, if_true] at h
  unfold Region.wanted yielded
  rw [hg]
  simp only [hd, Option.bind_some, h, hv]
  simp
theorem tabd_unwanted (ht : Tabd own vals a0 listed a) (hg : oi.guard = some (j, b)) (hd : (ops[j]?).bind (·.dst) = some t) (hl : t < a0.tmps.size) (ho : own t = some j) (hj : listed.getD j false = true) (hv : vals j = .bool c) (hne : c ≠ b) : Region.wanted oi (yielded ops a.tmps) = false := by
  have h := ht.2.2 t hl
  rw [ho] at h
  simp only [hj, if_true] at h
  unfold Region.wanted yielded
  rw [hg]
  simp only [hd, Option.bind_some, h, hv]
  simpa using hne
end
end Go.Word

/-
What is proved here: paths as lists of bytes: their parts, what is a name, what is a path; what a look from left to right tells. It names no program.
-/
namespace Go.Pth
abbrev Bt := List UInt8

/-- may a name have this byte -/
def okb (c : UInt8) : Bool := decide (97 ≤ c.toNat ∧ c.toNat ≤ 122 ∨ 48 ≤ c.toNat ∧ c.toNat ≤ 57 ∨ c.toNat = 46 ∨ c.toNat = 95 ∨ c.toNat = 45)
def stands (n : Bt) : Bool := decide (n ≠ [] ∧ n ≠ [46] ∧ n ≠ [46, 46])
def isName (n : Bt) : Bool := stands n && decide (n.length ≤ 14) && n.all okb
/-- what stands between the slashes, the first and the others -/
def cutAt : Bt → Bt × List Bt
  | [] => ([], [])
  | c :: r => if c = 47 then ([], (cutAt r).1 :: (cutAt r).2) else (c :: (cutAt r).1, (cutAt r).2)
def parts (s : Bt) : List Bt := (cutAt s).1 :: (cutAt s).2
def isPath (s : Bt) : Bool := decide ((parts s).length ≤ 6) && (parts s).all isName
/-- the look from left to right: at part d, of which cur has come -/
def scan : Nat → Bt → Bt → Bool
  | _, cur, [] => stands cur
  | d, cur, c :: r => if c = 47 then (if d = 6 ∨ stands cur = false then false else scan (d + 1) [] r) else if cur.length = 14 ∨ okb c = false then false else scan d (cur ++ [c]) r

theorem okb_slash : okb 47 = false := by decide
theorem scan_eq (d : Nat) (cur r : Bt) (hd : d ≤ 6) (hl : cur.length ≤ 14) (hc : cur.all okb = true) :
    scan d cur r = (decide (d + (cutAt r).2.length ≤ 6) && (isName (cur ++ (cutAt r).1) && (cutAt r).2.all isName)) := by
  induction r generalizing d cur with
  | nil => simp [scan, cutAt, isName, hd, hl, hc]
  | cons c r ih =>
    by_cases h : c = 47
    · subst h
      simp only [scan, cutAt, if_true, List.length_cons, List.append_nil, List.all_cons]
      by_cases h6 : d = 6 ∨ stands cur = false
      · rw [if_pos h6]
        rcases h6 with rfl | h6
        · have : ¬ 6 + ((cutAt r).2.length + 1) ≤ 6 := by omega
          simp [this]
        · have : isName cur = false := by simp [isName, h6]
          simp [this]
      · rw [if_neg h6]
        have h1 : d ≠ 6 := fun e => h6 (Or.inl e)
        have h2 : stands cur = true := by cases hs : stands cur with
          | true => rfl
          | false => exact absurd (Or.inr hs) h6
        have hn : isName cur = true := by simp [isName, h2, hl, hc]
        rw [ih (d + 1) [] (by omega) (by simp) (by simp), hn]
        have e : d + 1 + (cutAt r).2.length = d + ((cutAt r).2.length + 1) := by omega
        rw [e]
        simp
    · simp only [scan, cutAt, h, if_false]
      by_cases hb : cur.length = 14 ∨ okb c = false
      · rw [if_pos hb]
        have : isName (cur ++ c :: (cutAt r).1) = false := by
          rcases hb with hb | hb
          · have : ¬ (cur ++ c :: (cutAt r).1).length ≤ 14 := by simp; omega
            simp only [isName, decide_eq_false this, Bool.and_false, Bool.false_and]
          · have : (cur ++ c :: (cutAt r).1).all okb = false := by simp [hb]
            simp only [isName, this, Bool.and_false]
        simp [this]
      · rw [if_neg hb]
        have h1 : cur.length ≠ 14 := fun e => hb (Or.inl e)
        have h2 : okb c = true := by cases hs : okb c with
          | true => rfl
          | false => exact absurd (Or.inr hs) hb
        rw [ih d (cur ++ [c]) hd (by simp; omega) (by simp [hc, h2])]
        simp
theorem scan_path (s : Bt) : scan 1 [] s = isPath s := by
  rw [scan_eq 1 [] s (by omega) (by simp) (by simp)]
  simp only [isPath, parts, List.length_cons, List.nil_append, List.all_cons]
  rw [show 1 + (cutAt s).2.length = (cutAt s).2.length + 1 by omega]
  rfl
end Go.Pth

/-
What is proved here: Go's strings as lists of bytes: what each operation on them answers; and the contracts of the functions that look at one name or one byte.
-/
namespace Go.Proofs.Ytjagddhkoacipaa
open Go.Pth Go.RowKit

/-- a string as Go holds it -/
def St (l : Bt) : Value := .string ⟨l.toArray⟩
theorem st_lit (b : ByteArray) (l : Bt) (h : b.data.toList = l) : Value.string b = St l := by subst h; rfl
theorem st_of (b : ByteArray) : Value.string b = St b.data.toList := rfl
/-- are two byte strings one, are they two -/
def same (a b : Bt) : Bool := decide (a = b)
def other (a b : Bt) : Bool := decide (a ≠ b)
theorem beq_dec (a b : Bt) : (a == b) = decide (a = b) := by
  by_cases h : a = b
  · subst h; simp
  · rw [decide_eq_false h]; exact beq_eq_false_iff_ne.2 h
theorem st_eql (t : TypeId) (a b : Bt) : binOp .eql t (St a) (St b) = pure (.bool (same a b)) := by
  unfold St
  rw [binOp_string_eql, ByteArray.toList_mk, ByteArray.toList_mk, beq_dec]; rfl
theorem st_neq (t : TypeId) (a b : Bt) : binOp .neq t (St a) (St b) = pure (.bool (other a b)) := by
  unfold St
  rw [binOp_string_neq, ByteArray.toList_mk, ByteArray.toList_mk, beq_dec]
  unfold other
  by_cases h : a = b <;> simp [h]
theorem neq_nil (t : TypeId) (a : Bt) : binOp .neq t (St a) (.string { data := #[] }) = pure (.bool (other a [])) := st_neq t a _
theorem neq_dot (t : TypeId) (a : Bt) : binOp .neq t (St a) (.string { data := #[46] }) = pure (.bool (other a [46])) := st_neq t a _
theorem neq_dots (t : TypeId) (a : Bt) : binOp .neq t (St a) (.string { data := #[46, 46] }) = pure (.bool (other a [46, 46])) := st_neq t a _
theorem guard_eq (t : TypeId) (x y : Operand) (a : Bt) (v : Value) : eqGuard .eql t x y (St a) v = pure () := rfl
theorem guard_ne (t : TypeId) (x y : Operand) (a : Bt) (v : Value) : eqGuard .neq t x y (St a) v = pure () := rfl
attribute [local go_sem] guard_eq guard_ne neq_nil neq_dot neq_dots

theorem stands_any (n : Bt) (w : World) : Calls Try.prog 85 #[St n] w fun e w' => e = .returned (.bool (stands n)) ∧ w = w' := by
  by_cases h0 : n = []
  · have d0 : other n [] = false := decide_eq_false (by simp [h0])
    have hs : stands n = false := by simp [stands, h0]
    rw [hs]
    clear h0 hs
    go_enter Try.func85, Try.ntmps85
    go_wp2
    go_ret
    exact ⟨rfl, rfl⟩
  have d0 : other n [] = true := decide_eq_true h0
  by_cases h1 : n = [46]
  · have d1 : other n [46] = false := decide_eq_false (by simp [h1])
    have hs : stands n = false := by simp [stands, h1]
    rw [hs]
    clear h0 h1 hs
    go_enter Try.func85, Try.ntmps85
    go_wp2
    go_ret
    exact ⟨rfl, rfl⟩
  have d1 : other n [46] = true := decide_eq_true h1
  by_cases h2 : n = [46, 46]
  · have d2 : other n [46, 46] = false := decide_eq_false (by simp [h2])
    have hs : stands n = false := by simp [stands, h2]
    rw [hs]
    clear h0 h1 h2 hs
    go_enter Try.func85, Try.ntmps85
    go_wp2
    go_ret
    exact ⟨rfl, rfl⟩
  have d2 : other n [46, 46] = true := decide_eq_true h2
  have hs : stands n = true := by simp [stands, h0, h1, h2]
  rw [hs]
  clear h0 h1 h2 hs
  go_enter Try.func85, Try.ntmps85
  go_wp2
  go_ret
  exact ⟨rfl, rfl⟩

/-- may a name have this rune -/
def okr (r : Int) : Bool := decide (97 ≤ r ∧ r ≤ 122 ∨ 48 ≤ r ∧ r ≤ 57 ∨ r = 46 ∨ r = 95 ∨ r = 45)
theorem okr_byte (c : UInt8) : okr (c.toNat : Int) = okb c := by
  unfold okr okb
  congr 1
  apply propext
  omega
theorem okr_high (r : Int) (h : 128 ≤ r) : okr r = false := by
  unfold okr
  exact decide_eq_false (by omega)

set_option maxHeartbeats 1000000 in
theorem allowed_any (r : Int) (w : World) : Calls Try.prog 86 #[.int .i32 r] w fun e w' => e = .returned (.bool (okr r)) ∧ w = w' := by
  go_enter Try.func86, Try.ntmps86
  go_wp2
  all_goals go_ret
  all_goals refine ⟨?_, rfl⟩
  all_goals unfold okr
  all_goals congr 1
  all_goals show Value.bool _ = Value.bool _
  all_goals congr 1
  all_goals rw [Bool.eq_iff_iff]
  all_goals simp only [Bool.or_eq_true, decide_eq_true_eq, beq_iff_eq, true_iff]
  all_goals omega
end Go.Proofs.Ytjagddhkoacipaa
