/-
What is proved here: Make, Add, Sub, Times, Swap of package toll, over tolls of whole numbers.
-/
import Derived.Test.YtofpofojmbnomaaTolls
import Derived.Below
namespace Go.Proofs.Ytofpofojmbnomaa
open Go.Fl Go.RowKit

theorem plain_any (x y : Nat) (a b : Int) (w : World) (hx : Rep x a) (hy : Rep y b) (ha : a.natAbs < 2 ^ 53) (hb : b.natAbs < 2 ^ 53) :
    Calls Try.prog 22 #[.complex .f64 x y] w fun e w' => e = .returned (.complex .f64 (fl a) (fl b)) ∧ w = w' := by
  have hop : ∀ t w, (binOp .add t (.complex .f64 x y) (.complex .f64 0 0)).run Try.prog w = .ok (.complex .f64 (fl a) (fl b)) w := fun t w =>
    run_complex_sum w .add (Or.inl rfl) t .f64 x y 0 0 _ _ (by simp [cSumBits, Fl.add_zero hx ha, Fl.add_zero hy hb])
  clear hx hy ha hb
  go_enter Try.func22, Try.ntmps22
  go_wp2_with (simp only [hop])
  go_ret
  exact ⟨rfl, rfl⟩

/-- what answer tells of a number: the toll, if both parts are in the range, or the error -/
def Ans (x y : Nat) (e : Int) (a b : Int) : Prop := (fit a = true ∧ fit b = true ∧ x = fl a ∧ y = fl b ∧ e = 0) ∨ ((fit a && fit b) = false ∧ x = 0 ∧ y = 0 ∧ e = 3)
def AnsEnd (a b : Int) (w : World) (e : Ending) (w' : World) : Prop := ∃ x y n, Ans x y n a b ∧ e = .returned (.tuple #[.complex .f64 x y, .int .i64 n]) ∧ Below w.heap.size w w'

theorem tolls1 (b c x y : Nat) (p q : Int) (w : World) (hc : w.cell? ⟨b, 0, none⟩ = some (.complex .f64 x y)) (hx : Rep x p) (hy : Rep y q) :
    Calls Try.prog 15 #[.slice (some ⟨b, 0, none⟩) 1 c] w fun e w' => e = .returned (.bool (fit p && fit q)) ∧ w = w' := by
  by_cases h : (fit p && fit q) = true
  · rw [h]
    refine tolls_yes 1 b c (fun _ => x) (fun _ => y) (fun _ => p) (fun _ => q) w (by decide) ?_ (fun _ _ => hx) (fun _ _ => hy) (fun _ _ => by simpa using h)
    intro k hk
    obtain rfl : k = 0 := by omega
    exact hc
  · rw [show (fit p && fit q) = false by simpa using h]
    refine tolls_no 1 b 0 c (fun _ => x) (fun _ => y) (fun _ => p) (fun _ => q) w (by decide) (by omega) ?_ (fun _ _ => hx) (fun _ _ => hy) (fun _ _ => by omega) (by simpa using h)
    intro k hk
    obtain rfl : k = 0 := by omega
    exact hc

theorem answer_any (x y : Nat) (a b : Int) (w : World) (hx : Rep x a) (hy : Rep y b) (ha : a.natAbs < 2 ^ 53) (hb : b.natAbs < 2 ^ 53) :
    Calls Try.prog 16 #[.complex .f64 x y] w (AnsEnd a b w) := by
  by_cases h : (fit a && fit b) = true
  · have hA : ∀ w : World, ∀ c, w.cell? ⟨c, 0, none⟩ = some (.complex .f64 x y) → Calls Try.prog 15 #[.slice (some ⟨c, 0, none⟩) 1 1] w fun e w' => e = .returned (.bool true) ∧ w = w' := fun w c hc => by
      have := tolls1 c 1 x y a b w hc hx hy; rw [h] at this; exact this
    have hP : ∀ w, Calls Try.prog 22 #[.complex .f64 x y] w fun e w' => e = .returned (.complex .f64 (fl a) (fl b)) ∧ w = w' := fun w => plain_any x y a b w hx hy ha hb
    have HA := Lib.hid hA
    have HP := Lib.hid hP
    have hab : fit a = true ∧ fit b = true := by simpa using h
    have HB := Lib.hid hab
    clear hA hP h hab hx hy ha hb
    go_enter Try.func16, Try.ntmps16
    go_wp2_with (first | (go_at_call 15; (refine (HA.out _ _ (by go_simp)).mono ?_); rintro e w' ⟨rfl, rfl⟩) | (go_at_call 22; (with_reducible refine (HP.out _).mono ?_); rintro e w' ⟨rfl, rfl⟩))
    go_ret2
    exact ⟨_, _, _, Or.inl ⟨HB.out.1, HB.out.2, rfl, rfl, rfl⟩, rfl, (Below.refl _ _).alloc (Nat.le_refl _) _⟩
  · have h : (fit a && fit b) = false := by simpa using h
    have hA : ∀ w : World, ∀ c, w.cell? ⟨c, 0, none⟩ = some (.complex .f64 x y) → Calls Try.prog 15 #[.slice (some ⟨c, 0, none⟩) 1 1] w fun e w' => e = .returned (.bool false) ∧ w = w' := fun w c hc => by
      have := tolls1 c 1 x y a b w hc hx hy; rw [h] at this; exact this
    have HA := Lib.hid hA
    have HB := Lib.hid h
    clear hA h hx hy ha hb
    go_enter Try.func16, Try.ntmps16
    go_wp2_with (first | (go_at_call 15; (refine (HA.out _ _ (by go_simp)).mono ?_); rintro e w' ⟨rfl, rfl⟩))
    go_ret2
    exact ⟨_, _, _, Or.inr ⟨HB.out, rfl, rfl, rfl⟩, rfl, (Below.refl _ _).alloc (Nat.le_refl _) _⟩
end Go.Proofs.Ytofpofojmbnomaa
