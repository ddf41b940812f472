/-
What is proved here: Go's strings as lists of bytes: what each operation on them answers; and the contracts of the functions that look at one name or one byte.
-/
import Derived.Test.YtdnagkgblmcojaaRows
import Derived.Test.YtdnagkgblmcojaaPure
import Derived.WalkKit
import Derived.ProofKit
import Derived.Lib.Hide
import Derived.Deep.Draws
namespace Go.Proofs.Ytdnagkgblmcojaa
open Go.Pth Go.RowKit

/-- a string as Go holds it -/
def St (l : Bt) : Value := .string ⟨l.toArray⟩
theorem st_lit (b : ByteArray) (l : Bt) (h : b.data.toList = l) : Value.string b = St l := by subst h; rfl
theorem st_of (b : ByteArray) : Value.string b = St b.data.toList := rfl
/-- are two byte strings one, are they two -/
def same (a b : Bt) : Bool := decide (a = b)
def other (a b : Bt) : Bool := decide (a ≠ b)
theorem beq_dec (a b : Bt) : (a == b) = decide (a = b) := by
  by_cases h : a = b
  · subst h; simp
  · rw [decide_eq_false h]; exact beq_eq_false_iff_ne.2 h
theorem st_eql (t : TypeId) (a b : Bt) : binOp .eql t (St a) (St b) = pure (.bool (same a b)) := by
  unfold St
  rw [binOp_string_eql, ByteArray.toList_mk, ByteArray.toList_mk, beq_dec]; rfl
theorem st_neq (t : TypeId) (a b : Bt) : binOp .neq t (St a) (St b) = pure (.bool (other a b)) := by
  unfold St
  rw [binOp_string_neq, ByteArray.toList_mk, ByteArray.toList_mk, beq_dec]
  unfold other
  by_cases h : a = b <;> simp [h]
theorem neq_nil (t : TypeId) (a : Bt) : binOp .neq t (St a) (.string { data := #[] }) = pure (.bool (other a [])) := st_neq t a _
theorem neq_dot (t : TypeId) (a : Bt) : binOp .neq t (St a) (.string { data := #[46] }) = pure (.bool (other a [46])) := st_neq t a _
theorem neq_dots (t : TypeId) (a : Bt) : binOp .neq t (St a) (.string { data := #[46, 46] }) = pure (.bool (other a [46, 46])) := st_neq t a _
theorem guard_eq (t : TypeId) (x y : Operand) (a : Bt) (v : Value) : eqGuard .eql t x y (St a) v = pure () := rfl
theorem guard_ne (t : TypeId) (x y : Operand) (a : Bt) (v : Value) : eqGuard .neq t x y (St a) v = pure () := rfl
attribute [local go_sem] guard_eq guard_ne neq_nil neq_dot neq_dots

theorem stands_any (n : Bt) (w : World) : Calls Try.prog 56 #[St n] w fun e w' => e = .returned (.bool (stands n)) ∧ w = w' := by
  by_cases h0 : n = []
  · have d0 : other n [] = false := decide_eq_false (by simp [h0])
    have hs : stands n = false := by simp [stands, h0]
    rw [hs]
    clear h0 hs
    go_enter Try.func56, Try.ntmps56
    go_wp2
    go_ret
    exact ⟨rfl, rfl⟩
  have d0 : other n [] = true := decide_eq_true h0
  by_cases h1 : n = [46]
  · have d1 : other n [46] = false := decide_eq_false (by simp [h1])
    have hs : stands n = false := by simp [stands, h1]
    rw [hs]
    clear h0 h1 hs
    go_enter Try.func56, Try.ntmps56
    go_wp2
    go_ret
    exact ⟨rfl, rfl⟩
  have d1 : other n [46] = true := decide_eq_true h1
  by_cases h2 : n = [46, 46]
  · have d2 : other n [46, 46] = false := decide_eq_false (by simp [h2])
    have hs : stands n = false := by simp [stands, h2]
    rw [hs]
    clear h0 h1 h2 hs
    go_enter Try.func56, Try.ntmps56
    go_wp2
    go_ret
    exact ⟨rfl, rfl⟩
  have d2 : other n [46, 46] = true := decide_eq_true h2
  have hs : stands n = true := by simp [stands, h0, h1, h2]
  rw [hs]
  clear h0 h1 h2 hs
  go_enter Try.func56, Try.ntmps56
  go_wp2
  go_ret
  exact ⟨rfl, rfl⟩

/-- may a name have this rune -/
def okr (r : Int) : Bool := decide (97 ≤ r ∧ r ≤ 122 ∨ 48 ≤ r ∧ r ≤ 57 ∨ r = 46 ∨ r = 95 ∨ r = 45)
theorem okr_byte (c : UInt8) : okr (c.toNat : Int) = okb c := by
  unfold okr okb
  congr 1
  apply propext
  omega
theorem okr_high (r : Int) (h : 128 ≤ r) : okr r = false := by
  unfold okr
  exact decide_eq_false (by omega)

set_option maxHeartbeats 1000000 in
theorem allowed_any (r : Int) (w : World) : Calls Try.prog 57 #[.int .i32 r] w fun e w' => e = .returned (.bool (okr r)) ∧ w = w' := by
  go_enter Try.func57, Try.ntmps57
  go_wp2
  all_goals go_ret
  all_goals refine ⟨?_, rfl⟩
  all_goals unfold okr
  all_goals congr 1
  all_goals show Value.bool _ = Value.bool _
  all_goals congr 1
  all_goals rw [Bool.eq_iff_iff]
  all_goals simp only [Bool.or_eq_true, decide_eq_true_eq, beq_iff_eq, true_iff]
  all_goals omega
end Go.Proofs.Ytdnagkgblmcojaa
