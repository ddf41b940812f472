/-
What is proved here: package tree's small looks at a mode, a name, a file, by contracts.
-/
import Derived.Test.YtdnagkgblmcojaaSet
set_option linter.unusedSimpArgs false
namespace Go.Tre
def okMode (m : Int) : Bool := decide (0 ≤ m ∧ m ≤ 511)
/-- can it be a name of a file -/
def nameB (x : Nd) : Bool := decide (0 ≤ x.file ∧ x.mode = 0)
end Go.Tre
namespace Go.Proofs.Ytdnagkgblmcojaa
open Go.Pth Go.Tre Go.RowKit Go.Word

theorem isMode_any (m : Int) (w : World) : Calls Try.prog 40 #[.int .i64 m] w fun e w' => e = .returned (.bool (okMode m)) ∧ w = w' := by
  by_cases h1 : 0 ≤ m
  · by_cases h2 : m ≤ 511
    · have hr : okMode m = true := decide_eq_true ⟨h1, h2⟩
      rw [hr]
      clear hr
      go_enter Try.func40, Try.ntmps40
      go_wp2
      go_ret
      exact ⟨rfl, rfl⟩
    · have hr : okMode m = false := decide_eq_false (by omega)
      rw [hr]
      clear hr
      go_enter Try.func40, Try.ntmps40
      go_wp2
      go_ret
      exact ⟨rfl, rfl⟩
  · have hr : okMode m = false := decide_eq_false (by omega)
    rw [hr]
    clear hr
    go_enter Try.func40, Try.ntmps40
    go_wp2
    go_ret
    exact ⟨rfl, rfl⟩
theorem wrongMode_any (m : Int) (d : Value) (w : World) : Calls Try.prog 43 #[.agg #[.int .i64 m, d]] w fun e w' => e = .returned (.bool (!okMode m)) ∧ Below w.heap.size w w' := by
  have c0 : (w.alloc (.cells #[.int .i64 m, d] 49)).cell? ⟨w.heap.size, 0, none⟩ = some (.int .i64 m) := lies_cell (lies_new w 49 #[.int .i64 m, d]) 0
  have HB := Lib.hid (show Below w.heap.size w (w.alloc (.cells #[.int .i64 m, d] 49)) from (Below.refl _ _).alloc (Nat.le_refl _) _)
  go_enter Try.func43, Try.ntmps43
  go_wp2_with (go_at_call 40; (with_reducible refine (isMode_any _ _).mono ?_); rintro e w1 ⟨rfl, rfl⟩)
  go_ret
  exact ⟨rfl, HB.out⟩
theorem great_any (m : Int) (A : Option Addr) (l c : Nat) (w : World) : Calls Try.prog 55 #[.agg #[.int .i64 m, .slice A l c]] w fun e w' => e = .returned (.bool (decide (8192 < l))) ∧ Below w.heap.size w w' := by
  have c1 : (w.alloc (.cells #[.int .i64 m, .slice A l c] 49)).cell? ⟨w.heap.size, 1, none⟩ = some (.slice A l c) := lies_cell (lies_new w 49 #[.int .i64 m, .slice A l c]) 1
  have HB := Lib.hid (show Below w.heap.size w (w.alloc (.cells #[.int .i64 m, .slice A l c] 49)) from (Below.refl _ _).alloc (Nat.le_refl _) _)
  have e : decide (8192 < l) = decide ((8192 : Int) < (l : Int)) := by
    by_cases h : 8192 < l
    · rw [decide_eq_true h, decide_eq_true (by omega)]
    · rw [decide_eq_false h, decide_eq_false (by omega)]
  rw [e]
  clear e
  go_enter Try.func55, Try.ntmps55
  go_wp2
  go_ret
  exact ⟨rfl, HB.out⟩
end Go.Proofs.Ytdnagkgblmcojaa
