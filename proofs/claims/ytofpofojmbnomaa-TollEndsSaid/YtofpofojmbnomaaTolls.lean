/-
What is proved here: tolls, answer and plain of package toll, over tolls of whole numbers.
-/
import Derived.Test.YtofpofojmbnomaaWhole
import Derived.Lib.Hide
namespace Go.Proofs.Ytofpofojmbnomaa
open Go.Fl

/-- the number is in the range of a toll's part -/
def fit (a : Int) : Bool := decide (-1099511627776 ≤ a ∧ a ≤ 1099511627776)

theorem whole_any (x : Nat) (a : Int) (w : World) (hx : Rep x a) :
    Calls Try.prog 21 #[.float .f64 x] w fun e w' => e = .returned (.bool (fit a)) ∧ w = w' := by
  by_cases h1 : a < -1099511627776
  · have e : fit a = false := by simp [fit]; omega
    rw [e]; exact whole_lo x a w hx h1
  · by_cases h2 : 1099511627776 < a
    · have e : fit a = false := by simp [fit]; omega
      rw [e]; exact whole_hi x a w hx h2
    · have e : fit a = true := by simp [fit]; omega
      rw [e]; exact whole_in x a w hx (by omega) (by omega)

def numOf : Value → Int
  | .int _ n => n
  | _ => 0

theorem tolls_yes (n b : Nat) (c : Nat) (xs ys : Nat → Nat) (p q : Nat → Int) (w : World) (hn : n ≤ maxLen)
    (hcell : ∀ k, k < n → w.cell? ⟨b, k, none⟩ = some (.complex .f64 (xs k) (ys k))) (hx : ∀ k, k < n → Rep (xs k) (p k)) (hy : ∀ k, k < n → Rep (ys k) (q k))
    (hf : ∀ k, k < n → fit (p k) = true ∧ fit (q k) = true) :
    Calls Try.prog 15 #[.slice (some ⟨b, 0, none⟩) n c] w fun e w' => e = .returned (.bool true) ∧ w = w' := by
  unfold maxLen at hn
  have Hc := Lib.hid hcell
  have Hf := Lib.hid hf
  have Hx := Lib.hid hx
  have Hy := Lib.hid hy
  clear hcell hf hx hy
  go_enter Try.func15, Try.ntmps15
  go_wp2
  go_loop [7] (fun i => ∃ k : Nat, k ≤ n ∧ i = .int .i64 k) (fun i => n - (numOf i).toNat)
  case atStart => exact ⟨0, Nat.zero_le _, rfl⟩
  case round =>
    obtain ⟨k, hk, rfl⟩ := hrel
    by_cases hlt : k < n
    · have hc := Hc.out k hlt
      have wx : ∀ w, Calls Try.prog 21 #[.float .f64 (xs k)] w fun e w' => e = .returned (.bool true) ∧ w = w' := fun w => by
        have := whole_any (xs k) _ w (Hx.out k hlt); rw [(Hf.out k hlt).1] at this; exact this
      have wy : ∀ w, Calls Try.prog 21 #[.float .f64 (ys k)] w fun e w' => e = .returned (.bool true) ∧ w = w' := fun w => by
        have := whole_any (ys k) _ w (Hy.out k hlt); rw [(Hf.out k hlt).2] at this; exact this
      have WX := Lib.hid wx
      have WY := Lib.hid wy
      clear wx wy
      go_wp2_with (first | (go_at_call 21; (with_reducible refine (WX.out _).mono ?_); rintro e w' ⟨rfl, rfl⟩) | (go_at_call 21; (with_reducible refine (WY.out _).mono ?_); rintro e w' ⟨rfl, rfl⟩))
      go_round
      case rel => exact ⟨k + 1, by omega, by go_num⟩
      case measure => simp [numOf]; omega
    · go_wp2
      go_ret
      exact ⟨rfl, rfl⟩
theorem tolls_no (n b j : Nat) (c : Nat) (xs ys : Nat → Nat) (p q : Nat → Int) (w : World) (hn : n ≤ maxLen) (hj : j < n)
    (hcell : ∀ k, k ≤ j → w.cell? ⟨b, k, none⟩ = some (.complex .f64 (xs k) (ys k))) (hx : ∀ k, k ≤ j → Rep (xs k) (p k)) (hy : ∀ k, k ≤ j → Rep (ys k) (q k))
    (hf : ∀ k, k < j → fit (p k) = true ∧ fit (q k) = true) (hbad : (fit (p j) && fit (q j)) = false) :
    Calls Try.prog 15 #[.slice (some ⟨b, 0, none⟩) n c] w fun e w' => e = .returned (.bool false) ∧ w = w' := by
  unfold maxLen at hn
  have Hc := Lib.hid hcell
  have Hf := Lib.hid hf
  have Hx := Lib.hid hx
  have Hy := Lib.hid hy
  have Hb := Lib.hid hbad
  clear hcell hf hx hy hbad
  go_enter Try.func15, Try.ntmps15
  go_wp2
  go_loop [7] (fun i => ∃ k : Nat, k ≤ j ∧ i = .int .i64 k) (fun i => n - (numOf i).toNat)
  case atStart => exact ⟨0, Nat.zero_le _, rfl⟩
  case round =>
    obtain ⟨k, hk, rfl⟩ := hrel
    have hlt : k < n := by omega
    have hc := Hc.out k hk
    by_cases hkj : k < j
    · have wx : ∀ w, Calls Try.prog 21 #[.float .f64 (xs k)] w fun e w' => e = .returned (.bool true) ∧ w = w' := fun w => by
        have := whole_any (xs k) _ w (Hx.out k hk); rw [(Hf.out k hkj).1] at this; exact this
      have wy : ∀ w, Calls Try.prog 21 #[.float .f64 (ys k)] w fun e w' => e = .returned (.bool true) ∧ w = w' := fun w => by
        have := whole_any (ys k) _ w (Hy.out k hk); rw [(Hf.out k hkj).2] at this; exact this
      have WX := Lib.hid wx
      have WY := Lib.hid wy
      clear wx wy
      go_wp2_with (first | (go_at_call 21; (with_reducible refine (WX.out _).mono ?_); rintro e w' ⟨rfl, rfl⟩) | (go_at_call 21; (with_reducible refine (WY.out _).mono ?_); rintro e w' ⟨rfl, rfl⟩))
      go_round
      case rel => exact ⟨k + 1, by omega, by go_num⟩
      case measure => simp [numOf]; omega
    · obtain rfl : k = j := by omega
      by_cases hb : fit (p k) = true
      · have hq : fit (q k) = false := by have := Hb.out; rw [hb] at this; simpa using this
        have wx : ∀ w, Calls Try.prog 21 #[.float .f64 (xs k)] w fun e w' => e = .returned (.bool true) ∧ w = w' := fun w => by
          have := whole_any (xs k) _ w (Hx.out k hk); rw [hb] at this; exact this
        have wy : ∀ w, Calls Try.prog 21 #[.float .f64 (ys k)] w fun e w' => e = .returned (.bool false) ∧ w = w' := fun w => by
          have := whole_any (ys k) _ w (Hy.out k hk); rw [hq] at this; exact this
        have WX := Lib.hid wx
        have WY := Lib.hid wy
        clear wx wy hb hq
        go_wp2_with (first | (go_at_call 21; (with_reducible refine (WX.out _).mono ?_); rintro e w' ⟨rfl, rfl⟩) | (go_at_call 21; (with_reducible refine (WY.out _).mono ?_); rintro e w' ⟨rfl, rfl⟩))
        go_ret
        exact ⟨rfl, rfl⟩
      · have hp : fit (p k) = false := by simpa using hb
        have wx : ∀ w, Calls Try.prog 21 #[.float .f64 (xs k)] w fun e w' => e = .returned (.bool false) ∧ w = w' := fun w => by
          have := whole_any (xs k) _ w (Hx.out k hk); rw [hp] at this; exact this
        have WX := Lib.hid wx
        clear wx hb hp
        go_wp2_with (go_at_call 21; (with_reducible refine (WX.out _).mono ?_); rintro e w' ⟨rfl, rfl⟩)
        go_ret
        exact ⟨rfl, rfl⟩
end Go.Proofs.Ytofpofojmbnomaa
