/-
What is proved here: rows that the program makes, of lists, of numbers and of marks.
-/
import Derived.Test.YtnbjfmkckebfgaaGreatRws
set_option linter.unusedSimpArgs false
set_option linter.unusedVariables false
namespace Go.Proofs.YtnbjfmkckebfgaaGreat
open Go.Cmp Go.RowKit
def nilV : Value := .slice none 0 0
theorem made_rep (v : Value) (n : Nat) : madeCells #[v] n = Array.replicate n v := by
  rw [← List.toArray_replicate]
  refine Array.ext_getElem? fun j => ?_
  by_cases h : j < n
  · have : (madeCells #[v] n)[j]? = some v := by simp [madeCells, h, Nat.mod_one]
    rw [this, List.getElem?_toArray, List.getElem?_replicate, if_pos h]
  · rw [Array.getElem?_eq_none (by simp [madeCells]; omega), List.getElem?_toArray, List.getElem?_eq_none (by simp; omega)]
theorem mk_lists (W : World) (n : Nat) (h : n ≤ 1000000) : (Instr.makeSlice 24 (.int .i64 (n : Int)) (.int .i64 (n : Int))).run Tryz.prog W =
    .ok (.slice (some ⟨W.heap.size, 0, none⟩) n n) (W.alloc (.cells (Array.replicate n (.slice none 0 0)) 27)) := by
  obtain ⟨i, hi, hz0, hz1, hz2⟩ := info_parts list_info
  have := run_makeSlice (P := Tryz.prog) W 24 27 i (.slice none 0 0) Tryz.underlying24 hi hz0 .i64 .i64 (n : Int) (n : Int) (by omega) (by omega) (by rw [hz1]; omega) (by rw [hz2]; omega) (by omega)
  rw [this, hz1, Int.toNat_natCast, Nat.mul_one, ← made_rep]
  rfl
theorem mk_ints (W : World) (n : Nat) (h : n ≤ 1000000) : (Instr.makeSlice 27 (.int .i64 (n : Int)) (.int .i64 (n : Int))).run Tryz.prog W =
    .ok (.slice (some ⟨W.heap.size, 0, none⟩) n n) (W.alloc (.cells (Array.replicate n (.int .i64 0)) 3)) := by
  obtain ⟨i, hi, hz0, hz1, hz2⟩ := info_parts int_info
  have := run_makeSlice (P := Tryz.prog) W 27 3 i (.int .i64 0) Tryz.underlying27 hi hz0 .i64 .i64 (n : Int) (n : Int) (by omega) (by omega) (by rw [hz1]; omega) (by rw [hz2]; omega) (by omega)
  rw [this, hz1, Int.toNat_natCast, Nat.mul_one, ← made_rep]
  rfl
theorem mk_marks (W : World) (n : Nat) (h : n ≤ 1000000) : (Instr.makeSlice 119 (.int .i64 (n : Int)) (.int .i64 (n : Int))).run Tryz.prog W =
    .ok (.slice (some ⟨W.heap.size, 0, none⟩) n n) (W.alloc (.cells (bRow (List.replicate n false)) 4)) := by
  obtain ⟨i, hi, hz0, hz1, hz2⟩ := info_parts bool_info
  have := run_makeSlice (P := Tryz.prog) W 119 4 i (.bool false) Tryz.underlying119 hi hz0 .i64 .i64 (n : Int) (n : Int) (by omega) (by omega) (by rw [hz1]; omega) (by rw [hz2]; omega) (by omega)
  rw [this, hz1, Int.toNat_natCast, Nat.mul_one]
  have e : bRow (List.replicate n false) = madeCells #[.bool false] n := by rw [made_rep, ← List.toArray_replicate]; simp [bRow, bV]
  rw [e]
  rfl
theorem sep_made (w : World) (B n : Nat) : Sep w B (List.replicate n nilV) (List.replicate n []) := by
  refine ⟨by simp, fun v hv => ?_, fun v v' k hv hv' hne hk => ?_⟩
  · simp at hv
    rw [List.getD_eq_getElem?_getD, List.getElem?_replicate, if_pos hv, List.getD_eq_getElem?_getD, List.getElem?_replicate, if_pos hv]
    exact ownI_nil _ _
  · simp at hv
    rw [List.getD_eq_getElem?_getD, List.getElem?_replicate, if_pos hv] at hk
    cases hk
end Go.Proofs.YtnbjfmkckebfgaaGreat
