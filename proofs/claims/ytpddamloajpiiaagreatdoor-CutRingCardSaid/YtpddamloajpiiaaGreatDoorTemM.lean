/-
What is proved here: path.Temp, by a contract, and the table of powers of ten that it leans on.
-/
import Derived.Test.YtpddamloajpiiaaGreatDoorKepM
import Derived.Lib.LaidTab
import Derived.Lib.SmallJoins
set_option linter.unusedSimpArgs false
set_option linter.unusedVariables false
namespace Go.Proofs.YtpddamloajpiiaaGreatDoor
open Go.Pth Go.RowKit Go.Word
/-- the temporary name of a number -/
def tempOf (k : Int) : Bt := if 0 ≤ k ∧ k ≤ 9999 then [46, 116, 115, 45] ++ Lib.decDigits k.toNat else []
theorem temp_add (x : Bt) (hx : x.length ≤ 100000) (w : World) : (binOp .add 9 (.string { data := #[46, 116, 115, 45] }) (St x)).run Tryz.prog w = .ok (St ([46, 116, 115, 45] ++ x)) w := by
  have h := run_string_add_lists (P := Tryz.prog) (w := w) [46, 116, 115, 45] x (by simp) (by omega)
  unfold St
  rw [binOp_string_add]
  exact h
theorem below_grow (w : World) (n : Nat) (os : Array Obj) : Below w.heap.size w (Sort.grow (w.drewN n) os) := by
  refine ⟨rfl, rfl, rfl, ?_, fun k hk => ?_⟩
  · show w.heap.size ≤ (w.heap ++ os).size
    simp
  · show (w.heap ++ os)[k]? = w.heap[k]?
    rw [Array.getElem?_append_left hk]
theorem digits_len (k n : Nat) (h : n < 10 ^ (k + 1)) : (Lib.decDigits n).length ≤ k + 1 := by
  induction k generalizing n with
  | zero =>
    rw [Lib.decDigits, dif_pos (by omega)]
    simp
  | succ k ih =>
    rw [Lib.decDigits]
    split
    · simp
    · rw [List.length_append]
      have h1 := ih (n / 10) (by rw [Nat.pow_succ] at h; omega)
      simp only [List.length_cons, List.length_nil]
      omega
theorem pow_at : Tryz.prog.globalNamed "internal/strconv.uint64pow10" = some 0 := by kernel_rfl
/-- the table of powers of ten is what the program's text lays -/
def Pow (w : World) : Prop := Lib.TabIs Tryz.prog w "internal/strconv.uint64pow10" .u64 Lib.pow10Tab
theorem pow_below {w w' : World} (h : Pow w) (hb : Below w.heap.size w w') : Pow w' := Go.Joins.tab_stays pow_at h hb (Nat.le_refl _)
theorem temp_any (k : Int) (w : World) (hT : Pow w) : Calls Tryz.prog 60 #[.int .i64 k] w fun e w' => e = .returned (St (tempOf k)) ∧ Below w.heap.size w w' := by
  by_cases h0 : k < 0
  · have e : tempOf k = [] := if_neg (by omega)
    rw [e]
    go_enter Tryz.func60, Tryz.ntmps60
    go_wp2
    go_ret
    exact ⟨rfl, Below.refl _ _⟩
  by_cases h1 : 9999 < k
  · have e : tempOf k = [] := if_neg (by omega)
    rw [e]
    go_enter Tryz.func60, Tryz.ntmps60
    go_wp2
    go_ret
    exact ⟨rfl, Below.refl _ _⟩
  have e : tempOf k = [46, 116, 115, 45] ++ Lib.decDigits k.toNat := if_pos (by omega)
  rw [e]
  have K := Lib.hid (show Calls Tryz.prog 86 #[.int .i64 k] w (fun e w' => e = .returned (St (Lib.decDigits k.toNat)) ∧ Below w.heap.size w w') from
    (Tryz.strconv_Itoa k (by omega) (by omega) w hT).mono fun e w' ⟨he, n, os, hw⟩ => by
      have hi : Lib.itoa k = Lib.decDigits k.toNat := by unfold Lib.itoa; rw [if_neg h0]
      rw [hi] at he
      exact ⟨he, hw ▸ below_grow w n os⟩)
  have hl : (Lib.decDigits k.toNat).length ≤ 4 := digits_len 3 _ (by omega)
  have A := temp_add (Lib.decDigits k.toNat) (by omega)
  generalize Lib.decDigits k.toNat = d at *
  clear hT e
  go_enter Tryz.func60, Tryz.ntmps60
  go_wp2_with (go_at_call 86; (with_reducible refine K.out.mono ?_); rintro e w2 ⟨rfl, hb⟩; have H1 := Lib.hid hb; clear hb)
  go_ret
  exact ⟨rfl, H1.out⟩
end Go.Proofs.YtpddamloajpiiaaGreatDoor
