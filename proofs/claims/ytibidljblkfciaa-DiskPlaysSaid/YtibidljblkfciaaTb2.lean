/-
What is proved here: a region whose order is open: where each operation yields a fixed value and turns the world as a function of what has come up says, every order comes to the same. Of whatever program.
-/
import Derived.Test.YtibidljblkfciaaTbl
import Derived.Orders
namespace Go.Word

section
variable {F : Fence} {n : Nat} {P : Program} {md : Region.Mode} {ops : Array Oper} {Q : Exit → Act → World → Prop} {own : Nat → Option Nat} {vals : Nat → Value} {a0 : Act}

/-- what has come up: with each, what it waits for -/
def Shut (md : Region.Mode) (ops : Array Oper) (listed : Array Bool) : Prop := ∀ i oi, ops[i]? = some oi → listed.getD i false = true → ∀ e ∈ oi.after, Region.binds md e = true → listed.getD e.on false = true
theorem shut_set {listed : Array Bool} (h : Shut md ops listed) (hs : listed.size = ops.size) {i : Nat} {oi : Oper} (hoi : ops[i]? = some oi) (hd : ∀ e ∈ oi.after, Region.binds md e = true → listed.getD e.on false = true) : Shut md ops (listed.setIfInBounds i true) := by
  intro j oj hoj hj e he hb
  have hilt : i < ops.size := (Array.getElem?_eq_some_iff.1 hoi).1
  have keep : ∀ k, listed.getD k false = true → (listed.setIfInBounds i true).getD k false = true := fun k hk => by
    by_cases e2 : i = k
    · subst e2; simp [hs, hilt]
    · rw [getD_set_ne false e2]; exact hk
  by_cases hji : i = j
  · subst hji
    rw [hoi] at hoj
    injection hoj with hoj
    subst hoj
    exact keep _ (hd e he hb)
  · rw [getD_set_ne false hji] at hj
    exact keep _ (h j oj hoj hj e he hb)
theorem tabd_skip {listed : Array Bool} {a : Act} {i : Nat} (h : Tabd own vals a0 listed a) (hod : ∀ t, own t ≠ some i) : Tabd own vals a0 (listed.setIfInBounds i true) (a.put none (vals i)) := by
  obtain ⟨h1, h2, h3⟩ := h
  refine ⟨h1, h2, fun t ht => ?_⟩
  show a.tmps[t]? = _
  rw [h3 t ht]
  cases ho : own t with
  | none => rfl
  | some j =>
    have hji : i ≠ j := fun e => hod t (by rw [ho, e])
    simp only [getD_set_ne false hji]
theorem all_listed {rank : Nat → Nat} {listed : Array Bool} (hac : ∀ (i : Nat) (oi : Oper), ops[i]? = some oi → ∀ e ∈ oi.after, Region.binds md e = true → rank e.on < rank i) (hs : listed.size = ops.size)
    (hon : ∀ (i : Nat) (oi : Oper), ops[i]? = some oi → ∀ e ∈ oi.after, e.on < ops.size) (hr : Region.ready md ops listed = []) : ∀ i, i < ops.size → listed.getD i false = true := by
  have key : ∀ r i, rank i = r → i < ops.size → listed.getD i false = true := by
    intro r
    induction r using Nat.strongRecOn with
    | _ r ih =>
      intro i hri hi
      obtain ⟨oi, hoi⟩ : ∃ o, ops[i]? = some o := ⟨_, Array.getElem?_eq_getElem hi⟩
      refine Classical.byContradiction fun hn => ?_
      have hun : listed.getD i true = false := by
        rw [Array.getD_eq_getD_getElem?, Array.getElem?_eq_getElem (by omega)] at hn ⊢
        simpa using hn
      have : i ∈ Region.ready md ops listed := mem_ready.2 ⟨hun, oi, hoi, fun e he hb => ih _ (by rw [← hri]; exact hac i oi hoi e he hb) e.on rfl (hon i oi hoi e he)⟩
      rw [hr] at this
      cases this
  exact fun i hi => key _ i rfl hi
theorem count_set {listed : Array Bool} {i k : Nat} (hi : i < listed.size) (hu : listed.getD i true = false) (hc : listed.toList.count false ≤ k + 1) : (listed.setIfInBounds i true).toList.count false ≤ k := by
  have hif : listed[i]'hi = false := by
    rw [Array.getD_eq_getD_getElem?, Array.getElem?_eq_getElem hi] at hu
    simpa using hu
  have hil2 : i < listed.toList.length := by simpa using hi
  have hli : listed.toList[i] = false := by simpa using hif
  have e : (listed.setIfInBounds i true).toList = listed.toList.set i true := by simp
  rw [e, List.count_set hil2, hli]
  have e5 : (if (true == false) = true then 1 else 0) = 0 := rfl
  have e6 : (if (false == false) = true then 1 else 0) = 1 := rfl
  rw [e5, e6]
  omega
theorem count_pos {listed : Array Bool} {i : Nat} (hi : i < listed.size) (hu : listed.getD i true = false) : 1 ≤ listed.toList.count false := by
  have hmem : false ∈ listed.toList := by
    rw [Array.getD_eq_getD_getElem?, Array.getElem?_eq_getElem hi] at hu
    have e : listed[i] = false := by simpa using hu
    rw [← e]
    exact Array.mem_toList_iff.2 (Array.getElem_mem hi)
  exact List.count_pos_iff.2 hmem

theorem every_in (rank : Nat → Nat) (Wf : Array Bool → World)
    (hac : ∀ (i : Nat) (oi : Oper), ops[i]? = some oi → ∀ e ∈ oi.after, Region.binds md e = true → rank e.on < rank i)
    (hon : ∀ (i : Nat) (oi : Oper), ops[i]? = some oi → ∀ e ∈ oi.after, e.on < ops.size)
    (hdst : ∀ i oi, ops[i]? = some oi → (oi.dst = none ∧ ∀ t, own t ≠ some i) ∨ ∃ d, oi.dst = some d ∧ d < a0.tmps.size ∧ own d = some i ∧ ∀ t, own t = some i → t = d)
    (hop : ∀ i oi a listed, ops[i]? = some oi → listed.getD i false = false → listed.size = ops.size → Shut md ops listed → (∀ e ∈ oi.after, Region.binds md e = true → listed.getD e.on false = true) → Tabd own vals a0 listed a →
      Region.wanted oi (yielded ops a.tmps) = true ∧ ∀ K : Act → World → Prop, K (a.put oi.dst (vals i)) (Wf (listed.setIfInBounds i true)) → Oper.wpIn F n P oi a (Wf listed) K Q)
    (hend : ∀ a listed, (∀ i, i < ops.size → listed.getD i false = true) → Tabd own vals a0 listed a → Q .normal a (Wf listed)) :
    ∀ (fuel : Nat) (listed : Array Bool) (a : Act), listed.size = ops.size → Shut md ops listed → listed.toList.count false ≤ fuel → Tabd own vals a0 listed a → wpAnyIn F n P md ops Q fuel listed a (Wf listed) := by
  intro fuel
  induction fuel with
  | zero =>
    intro listed a hs hcl hc ht
    have hr : Region.ready md ops listed = [] := List.eq_nil_iff_forall_not_mem.2 fun j hj => by
      obtain ⟨hun, oj, hoj, _⟩ := mem_ready.1 hj
      have hjlt : j < ops.size := (Array.getElem?_eq_some_iff.1 hoj).1
      have := count_pos (by omega) hun
      omega
    exact ⟨hr, hend a listed (all_listed hac hs hon hr) ht⟩
  | succ fuel ih =>
    intro listed a hs hcl hc ht
    refine ⟨fun hr => hend a listed (all_listed hac hs hon hr) ht, fun i hi => ?_⟩
    obtain ⟨hun, oi, hoi, hdeps⟩ := mem_ready.1 hi
    have hilt : i < ops.size := (Array.getElem?_eq_some_iff.1 hoi).1
    have hun2 : listed.getD i false = false := by
      rw [Array.getD_eq_getD_getElem?, Array.getElem?_eq_getElem (by omega)] at hun ⊢
      simpa using hun
    obtain ⟨hw, hK⟩ := hop i oi a listed hoi hun2 hs hcl hdeps ht
    unfold wpOpIn
    rw [hoi]
    simp only [hw, if_true]
    refine hK _ (ih _ _ (by simp [hs]) (shut_set hcl hs hoi hdeps) (count_set (by omega) hun hc) ?_)
    rcases hdst i oi hoi with ⟨hd, hno⟩ | ⟨d, hd, hdl, hod, hinj⟩
    · rw [hd]; exact tabd_skip ht hno
    · rw [hd]; exact tabd_put ht (by omega) hdl hod hinj
/-- the same, where no fence is -/
theorem every (rank : Nat → Nat) (Wf : Array Bool → World)
    (hac : ∀ (i : Nat) (oi : Oper), ops[i]? = some oi → ∀ e ∈ oi.after, Region.binds md e = true → rank e.on < rank i)
    (hon : ∀ (i : Nat) (oi : Oper), ops[i]? = some oi → ∀ e ∈ oi.after, e.on < ops.size)
    (hdst : ∀ i oi, ops[i]? = some oi → (oi.dst = none ∧ ∀ t, own t ≠ some i) ∨ ∃ d, oi.dst = some d ∧ d < a0.tmps.size ∧ own d = some i ∧ ∀ t, own t = some i → t = d)
    (hop : ∀ i oi a listed, ops[i]? = some oi → listed.getD i false = false → listed.size = ops.size → Shut md ops listed → (∀ e ∈ oi.after, Region.binds md e = true → listed.getD e.on false = true) → Tabd own vals a0 listed a →
      Region.wanted oi (yielded ops a.tmps) = true ∧ ∀ K : Act → World → Prop, K (a.put oi.dst (vals i)) (Wf (listed.setIfInBounds i true)) → Oper.wp P oi a (Wf listed) K Q)
    (hend : ∀ a listed, (∀ i, i < ops.size → listed.getD i false = true) → Tabd own vals a0 listed a → Q .normal a (Wf listed)) :
    ∀ (fuel : Nat) (listed : Array Bool) (a : Act), listed.size = ops.size → Shut md ops listed → listed.toList.count false ≤ fuel → Tabd own vals a0 listed a → wpAny P md ops Q fuel listed a (Wf listed) := by
  intro fuel
  induction fuel with
  | zero =>
    intro listed a hs hcl hc ht
    have hr : Region.ready md ops listed = [] := List.eq_nil_iff_forall_not_mem.2 fun j hj => by
      obtain ⟨hun, oj, hoj, _⟩ := mem_ready.1 hj
      have hjlt : j < ops.size := (Array.getElem?_eq_some_iff.1 hoj).1
      have := count_pos (by omega) hun
      omega
    exact ⟨hr, hend a listed (all_listed hac hs hon hr) ht⟩
  | succ fuel ih =>
    intro listed a hs hcl hc ht
    refine ⟨fun hr => hend a listed (all_listed hac hs hon hr) ht, fun i hi => ?_⟩
    obtain ⟨hun, oi, hoi, hdeps⟩ := mem_ready.1 hi
    have hilt : i < ops.size := (Array.getElem?_eq_some_iff.1 hoi).1
    have hun2 : listed.getD i false = false := by
      rw [Array.getD_eq_getD_getElem?, Array.getElem?_eq_getElem (by omega)] at hun ⊢
      simpa using hun
    obtain ⟨hw, hK⟩ := hop i oi a listed hoi hun2 hs hcl hdeps ht
    unfold wpOp
    rw [hoi]
    simp only [hw, if_true]
    refine .inl (hK _ (ih _ _ (by simp [hs]) (shut_set hcl hs hoi hdeps) (count_set (by omega) hun hc) ?_))
    rcases hdst i oi hoi with ⟨hd, hno⟩ | ⟨d, hd, hdl, hod, hinj⟩
    · rw [hd]; exact tabd_skip ht hno
    · rw [hd]; exact tabd_put ht (by omega) hdl hod hinj
end

/-! the checks, by looking at a region's text -/
def ownAll (ops : Array Oper) (t : Nat) : Option Nat := (List.range ops.size).find? fun i => (ops[i]?).bind (·.dst) == some t
def dstAll (ops : Array Oper) (m : Nat) : Bool := (List.range ops.size).all fun i => match (ops[i]?).bind (·.dst) with | some d => decide (d < m) && (ownAll ops d == some i) | none => true
def acAll (ops : Array Oper) : Bool := (List.range ops.size).all fun i => match ops[i]? with | some o => o.after.all fun e => (match e.ground with | .textOnly _ => true | .gcOnly _ => true | _ => decide (e.on < i)) && decide (e.on < ops.size) | none => true
theorem ownAll_spec {ops : Array Oper} {t i : Nat} (h : ownAll ops t = some i) : (ops[i]?).bind (·.dst) = some t := by
  have := List.find?_some h
  simpa using this
theorem ownAll_lt {ops : Array Oper} {t i : Nat} (h : ownAll ops t = some i) : i < ops.size := by
  have := List.mem_of_find?_eq_some h
  simpa using this
theorem dstAll_of {ops : Array Oper} {m : Nat} (h : dstAll ops m = true) (i : Nat) (oi : Oper) (hi : ops[i]? = some oi) : (oi.dst = none ∧ ∀ t, ownAll ops t ≠ some i) ∨ ∃ d, oi.dst = some d ∧ d < m ∧ ownAll ops d = some i ∧ ∀ t, ownAll ops t = some i → t = d := by
  have hlt : i < ops.size := (Array.getElem?_eq_some_iff.1 hi).1
  have := List.all_eq_true.1 h i (List.mem_range.2 hlt)
  rw [hi] at this
  simp only [Option.bind_some] at this
  cases hd : oi.dst with
  | none =>
    refine .inl ⟨rfl, fun t ht => ?_⟩
    have := ownAll_spec ht
    rw [hi, Option.bind_some, hd] at this
    cases this
  | some d =>
    rw [hd] at this
    simp only [Bool.and_eq_true, decide_eq_true_eq, beq_iff_eq] at this
    refine .inr ⟨d, rfl, this.1, this.2, fun t ht => ?_⟩
    have e2 := ownAll_spec ht
    rw [hi, Option.bind_some, hd] at e2
    injection e2 with e2
    exact e2.symm
theorem acAll_of {ops : Array Oper} (h : acAll ops = true) (i : Nat) (oi : Oper) (hi : ops[i]? = some oi) : ∀ e ∈ oi.after, Region.binds .any e = true → id e.on < id i := fun e he hb => by
  have hlt : i < ops.size := (Array.getElem?_eq_some_iff.1 hi).1
  have := List.all_eq_true.1 h i (List.mem_range.2 hlt)
  rw [hi] at this
  simp only [Array.all_eq_true_iff_forall_mem, Bool.and_eq_true] at this
  have h2 := (this e he).1
  unfold Region.binds at hb
  cases hg : e.ground <;> rw [hg] at h2 hb <;> first | (exact of_decide_eq_true h2) | (cases hb)
theorem onAll_of {ops : Array Oper} (h : acAll ops = true) (i : Nat) (oi : Oper) (hi : ops[i]? = some oi) : ∀ e ∈ oi.after, e.on < ops.size := fun e he => by
  have hlt : i < ops.size := (Array.getElem?_eq_some_iff.1 hi).1
  have := List.all_eq_true.1 h i (List.mem_range.2 hlt)
  rw [hi] at this
  simp only [Array.all_eq_true_iff_forall_mem, Bool.and_eq_true] at this
  exact of_decide_eq_true (this e he).2
theorem shut_none {md : Region.Mode} {ops : Array Oper} (k : Nat) : Shut md ops (Array.replicate k false) := by
  intro i oi _ hi
  rw [Array.getD_eq_getD_getElem?] at hi
  by_cases h : i < k <;> simp [h] at hi
theorem getD_here {listed : Array Bool} {i : Nat} (h : i < listed.size) : (listed.setIfInBounds i true).getD i false = true := by simp [h]
end Go.Word
namespace Go.Word
def fillL (own : Nat → Option Nat) (vals : Nat → Value) : Nat → List Value → List Value
  | _, [] => []
  | t, v :: r => (match own t with | some i => vals i | none => v) :: fillL own vals (t + 1) r
/-- the frame, when all have come up -/
def fill (own : Nat → Option Nat) (vals : Nat → Value) (a0 : Act) : Act := { tmps := (fillL own vals 0 a0.tmps.toList).toArray, defers := a0.defers }
theorem fillL_at (own : Nat → Option Nat) (vals : Nat → Value) : ∀ (l : List Value) (t i : Nat), (fillL own vals t l)[i]? = (l[i]?).map fun v => match own (t + i) with | some j => vals j | none => v
  | [], _, _ => by simp [fillL]
  | v :: r, t, 0 => by simp [fillL]
  | v :: r, t, i + 1 => by
    simp only [fillL, List.getElem?_cons_succ]
    rw [fillL_at own vals r (t + 1) i, show t + 1 + i = t + (i + 1) by omega]
theorem tabd_fill {own : Nat → Option Nat} {vals : Nat → Value} {a0 a : Act} {listed : Array Bool} (h : Tabd own vals a0 listed a) (hall : ∀ t i, own t = some i → listed.getD i false = true) : a = fill own vals a0 := by
  obtain ⟨tm, df⟩ := a
  obtain ⟨h1, h2, h3⟩ := h
  have e1 : df = a0.defers := h1
  have e2 : tm = (fillL own vals 0 a0.tmps.toList).toArray := by
    refine Array.ext_getElem? fun t => ?_
    have eR : ((fillL own vals 0 a0.tmps.toList).toArray)[t]? = (fillL own vals 0 a0.tmps.toList)[t]? := by simp
    rw [eR, fillL_at, Nat.zero_add]
    by_cases ht : t < a0.tmps.size
    · have := h3 t ht
      simp only at this
      rw [this, Array.getElem?_toList, Array.getElem?_eq_getElem ht]
      cases ho : own t with
      | none => rfl
      | some i => simp [hall t i ho]
    · rw [Array.getElem?_eq_none (by have h2' : tm.size = a0.tmps.size := h2; omega), List.getElem?_eq_none (by simpa using ht)]
      rfl
  unfold fill
  rw [e1, e2]
end Go.Word
