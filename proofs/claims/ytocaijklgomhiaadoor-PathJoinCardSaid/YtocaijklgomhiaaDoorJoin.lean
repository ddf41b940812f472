/-
What is proved here: the law PathJoin's walk.
-/
import Derived.Test.YtocaijklgomhiaaDoorUp
set_option linter.unusedSimpArgs false
namespace Go.Proofs.YtocaijklgomhiaaDoor
open Go.Pth Go.RowKit Go.Word
attribute [local go_sem] guard_eq guard_ne st_eql st_neq len_st eql_empty eql_ts

/-- a list of texts that came in lies at A -/
def Ta (w : World) (A : Option Addr) (ns : List Bt) : Prop := ∀ j, j < ns.length → ∃ a, A = some a ∧ w.cell? (a.add j) = some (St (ns.getD j []))
theorem ta_below {w w' : World} {A : Option Addr} {ns : List Bt} (h : Ta w A ns) (hb : Below w.heap.size w w') : Ta w' A ns := fun j hj => by
  obtain ⟨a, e, hc⟩ := h j hj
  refine ⟨a, e, ?_⟩
  rw [hb.cell (p := a.add j) (World.block_lt_of_cell? w _ hc)]
  exact hc

set_option maxRecDepth 100000 in
set_option maxHeartbeats 4000000 in
theorem same_arg (A A' : Option Addr) (C C' b : Nat) (ns : List Bt) (w : World) (h1 : Tx w b A ns) (h2 : Ta w A' ns) (hn : ns.length ≤ 100000) :
    Calls Tryd.prog 15 #[.slice A ns.length C, .slice A' ns.length C'] w fun e w' => e = .returned (.bool true) ∧ Below w.heap.size w w' := by
  go_enter Tryd.func15, Tryd.ntmps15
  go_wp2
  go_loopw [5] (fun x wr => ∃ i : Nat, i ≤ ns.length ∧ x = .int .i64 i ∧ Below w.heap.size w wr) (fun x _ => ns.length - (intOf x).toNat)
  case atStart => exact ⟨0, by omega, rfl, Below.refl _ _⟩
  case round =>
    obtain ⟨i, hil, rfl, hb⟩ := hrel
    have HB := Lib.hid hb
    by_cases hlt : i < ns.length
    · obtain ⟨g, rfl, _, c1⟩ := tx_below h1 hb i hlt
      obtain ⟨a, rfl, c2⟩ := ta_below h2 hb i hlt
      have li : (i : Int) < (ns.length : Int) := by omega
      have q2 : i + 1 ≤ ns.length := hlt
      have wi : wrap64 ((i : Int) + 1) = ((i + 1 : Nat) : Int) := by rw [wrap_in _ (by omega) (by omega)]; omega
      have ho : ∀ x : Bt, other x x = false := fun x => decide_eq_false (by simp)
      generalize ns.getD i [] = c at *
      have hoc := ho c
      clear h1 h2 ho hb
      go_upto_region 6 with (fail)
      go_quiet (fail)
      go_wp2
      go_roundw
      case rel => exact ⟨i + 1, q2, by go_num, below_drewN HB.out _⟩
      case measure => first | (simp [intOf]; done) | (simp [intOf]; omega)
    · have li : ¬ (i : Int) < (ns.length : Int) := by omega
      clear hb h1 h2
      go_wp2
      go_ret
      exact ⟨rfl, HB.out⟩

/-- names without slashes put together, and taken apart -/
theorem parts_join (ns : List Bt) (h0 : ns ≠ []) (h : ∀ x ∈ ns, ∀ c ∈ x, c ≠ 47) : parts (joinN ns) = ns := by
  induction ns with
  | nil => exact absurd rfl h0
  | cons a r ih =>
    cases r with
    | nil => exact parts_none a (h a (by simp))
    | cons b s =>
      show parts (a ++ 47 :: joinN (b :: s)) = _
      rw [parts_app, ih (by simp) (fun x hx => h x (by simp [hx])), parts_none a (h a (by simp))]
      rfl
theorem path_join (ns : List Bt) (h : ∀ x ∈ ns, ∀ c ∈ x, c ≠ 47) : isPath (joinN ns) = (decide (1 ≤ ns.length ∧ ns.length ≤ 6) && ns.all isName) := by
  cases ns with
  | nil => decide
  | cons a r =>
    unfold isPath
    rw [parts_join _ (by simp) h]
    have : (1 ≤ (a :: r).length ∧ (a :: r).length ≤ 6) ↔ (a :: r).length ≤ 6 := by simp
    rw [decide_eq_decide.2 this]
theorem path_name (x : Bt) (h : ∀ c ∈ x, c ≠ 47) : isPath x = isName x := by
  unfold isPath
  rw [parts_none x h]
  simp
theorem join_len (ns : List Bt) (h : ∀ x ∈ ns, x.length ≤ 100) : (joinN ns).length ≤ 101 * ns.length := by
  induction ns with
  | nil => simp [joinN]
  | cons a r ih =>
    have h1 := h a (by simp)
    cases r with
    | nil => simp [joinN]; omega
    | cons b s =>
      have := ih (fun x hx => h x (by simp [hx]))
      show (a ++ 47 :: joinN (b :: s)).length ≤ _
      rw [List.length_append, List.length_cons, List.length_cons (a := a), Nat.mul_succ]
      omega
/-- the first so many of the names, put together; what is told of them -/
def preJ (ns : List Bt) (i : Nat) : Bt := joinN (ns.take i)
def okJ (ns : List Bt) (i : Nat) : Bool := decide (1 ≤ ns.length ∧ ns.length ≤ 6) && (ns.take i).all isName
def keptJ (ns : List Bt) (i : Nat) : Bool := (ns.take i).any keptN
/-- the first so many have no slash, and are short -/
def Plain (ns : List Bt) (i : Nat) : Prop := ∀ x ∈ ns.take i, (∀ c ∈ x, c ≠ 47) ∧ x.length ≤ 100
theorem plain_next (ns : List Bt) (i : Nat) (hi : i < ns.length) (h : Plain ns i) (h1 : ∀ c ∈ ns[i], c ≠ 47) (h2 : ns[i].length ≤ 100) : Plain ns (i + 1) := fun x hx => by
  rw [List.take_succ_eq_append_getElem hi] at hx
  rcases List.mem_append.1 hx with hx | hx
  · exact h x hx
  · rw [List.mem_singleton] at hx
    subst hx
    exact ⟨h1, h2⟩
theorem ok_next (ns : List Bt) (i : Nat) (hi : i < ns.length) : okJ ns (i + 1) = (okJ ns i && isName ns[i]) := by
  unfold okJ
  rw [List.take_succ_eq_append_getElem hi, List.all_append]
  simp [Bool.and_assoc]
theorem keptJ_next (ns : List Bt) (i : Nat) (hi : i < ns.length) : keptJ ns (i + 1) = (keptJ ns i || keptN ns[i]) := by
  unfold keptJ
  rw [List.take_succ_eq_append_getElem hi, List.any_append]
  simp
theorem preJ_next (ns : List Bt) (i : Nat) (h1 : 1 ≤ i) (hi : i < ns.length) : preJ ns (i + 1) = preJ ns i ++ [47] ++ ns[i] := by
  unfold preJ
  rw [pre_next _ _ h1 hi]
  simp
theorem preJ_first (ns : List Bt) (i : Nat) (h : i = 0) (hi : i < ns.length) : preJ ns (i + 1) = preJ ns i ++ ns[i] := by
  subst h
  unfold preJ
  rw [List.take_succ_eq_append_getElem hi]
  rfl
theorem preJ_len (ns : List Bt) (i : Nat) (hn : ns.length ≤ 10) (h : Plain ns i) : (preJ ns i).length ≤ 1010 := by
  have h1 := join_len (ns.take i) (fun x hx => (h x hx).2)
  have h2 : (ns.take i).length ≤ 10 := by rw [List.length_take]; omega
  unfold preJ
  omega
end Go.Proofs.YtocaijklgomhiaaDoor
