/-
What is proved here: Make, Add, Sub, Times, Swap of package toll, over tolls of whole numbers.
-/
import Derived.Test.YtofpofojmbnomaaCalls
namespace Go.Proofs.Ytofpofojmbnomaa
open Go.Fl Go.RowKit

theorem count_yes (n : Int) (w : World) (h : fit n = true) :
    Calls Try.prog 14 #[.int .i64 n] w fun e w' => e = .returned (.bool true) ∧ w = w' := by
  have h : -1099511627776 ≤ n ∧ n ≤ 1099511627776 := by simpa [fit] using h
  obtain ⟨h1, h2⟩ := h
  go_enter Try.func14, Try.ntmps14
  go_wp2
  go_ret
  exact ⟨rfl, rfl⟩

theorem make_yes (b i : Int) (w : World) (hb : fit b = true) (hi : fit i = true) :
    Calls Try.prog 5 #[.int .i64 b, .int .i64 i] w fun e w' => e = .returned (.tuple #[.complex .f64 (fl b) (fl i), .int .i64 0]) ∧ w = w' := by
  have kb := Lib.hid (fun w => count_yes b w hb)
  have ki := Lib.hid (fun w => count_yes i w hi)
  clear hb hi
  go_enter Try.func5, Try.ntmps5
  go_wp2_with (first | (go_at_call 14; (with_reducible refine (kb.out _).mono ?_); rintro e w' ⟨rfl, rfl⟩) | (go_at_call 14; (with_reducible refine (ki.out _).mono ?_); rintro e w' ⟨rfl, rfl⟩))
  go_ret2
  exact ⟨rfl, rfl⟩

theorem tolls2 (b c x y u v : Nat) (p q r s : Int) (w : World) (hc : w.cell? ⟨b, 0, none⟩ = some (.complex .f64 x y)) (hd : w.cell? ⟨b, 1, none⟩ = some (.complex .f64 u v))
    (hx : Rep x p) (hy : Rep y q) (hu : Rep u r) (hv : Rep v s) (h1 : (fit p && fit q) = true) (h2 : (fit r && fit s) = true) :
    Calls Try.prog 15 #[.slice (some ⟨b, 0, none⟩) 2 c] w fun e w' => e = .returned (.bool true) ∧ w = w' := by
  have two : ∀ k : Nat, k < 2 → k = 0 ∨ k = 1 := fun k hk => by omega
  refine tolls_yes 2 b c (fun k => if k = 0 then x else u) (fun k => if k = 0 then y else v) (fun k => if k = 0 then p else r) (fun k => if k = 0 then q else s) w (by decide) ?_ ?_ ?_ ?_
  · intro k hk; rcases two k hk with rfl | rfl
    · exact hc
    · exact hd
  · intro k hk; rcases two k hk with rfl | rfl
    · exact hx
    · exact hu
  · intro k hk; rcases two k hk with rfl | rfl
    · exact hy
    · exact hv
  · intro k hk; rcases two k hk with rfl | rfl
    · simpa using h1
    · simpa using h2

theorem fit_lt {a : Int} (h : fit a = true) : a.natAbs ≤ 1099511627776 := by
  have h : -1099511627776 ≤ a ∧ a ≤ 1099511627776 := by simpa [fit] using h
  omega

theorem add_any (x y u v : Nat) (p q r s : Int) (w : World) (hx : Rep x p) (hy : Rep y q) (hu : Rep u r) (hv : Rep v s) (h1 : (fit p && fit q) = true) (h2 : (fit r && fit s) = true) :
    Calls Try.prog 7 #[.complex .f64 x y, .complex .f64 u v] w (AnsEnd (p + r) (q + s) w) := by
  have h1' : fit p = true ∧ fit q = true := by simpa using h1
  have h2' : fit r = true ∧ fit s = true := by simpa using h2
  have bp := fit_lt h1'.1; have bq := fit_lt h1'.2; have br := fit_lt h2'.1; have bs := fit_lt h2'.2
  obtain ⟨z, hz, rz⟩ := add_rep hx hu (by omega)
  obtain ⟨t, ht, rt⟩ := add_rep hy hv (by omega)
  have hop : ∀ ty w, (binOp .add ty (.complex .f64 x y) (.complex .f64 u v)).run Try.prog w = .ok (.complex .f64 z t) w := fun ty w =>
    run_complex_sum w .add (Or.inl rfl) ty .f64 x y u v _ _ (by simp [cSumBits, hz, ht])
  have HA := Lib.hid (fun (w : World) (c : Nat) (h0 : w.cell? ⟨c, 0, none⟩ = some (.complex .f64 x y)) (h1' : w.cell? ⟨c, 1, none⟩ = some (.complex .f64 u v)) => tolls2 c 2 x y u v p q r s w h0 h1' hx hy hu hv h1 h2)
  have HW := Lib.hid (fun w => answer_any z t (p + r) (q + s) w rz rt (by omega) (by omega))
  clear hx hy hu hv h1 h2 h1' h2' bp bq br bs hz rz ht rt
  go_enter Try.func7, Try.ntmps7
  go_wp2_with (first | (go_at_call 15; (refine (HA.out _ _ (by go_simp) (by go_simp)).mono ?_); rintro e w' ⟨rfl, rfl⟩) | (go_at_call 16; (with_reducible refine (HW.out _).mono ?_); rintro e w' ⟨x', y', n', ha, rfl, hb⟩; have HN := Lib.hid ha; have HB := Lib.hid hb; clear ha hb))
  go_ret2
  exact ⟨_, _, _, HN.out, rfl, ((Below.refl _ _).alloc (Nat.le_refl _) _).trans (HB.out.mono (by simp))⟩
theorem sub_any (x y u v : Nat) (p q r s : Int) (w : World) (hx : Rep x p) (hy : Rep y q) (hu : Rep u r) (hv : Rep v s) (h1 : (fit p && fit q) = true) (h2 : (fit r && fit s) = true) :
    Calls Try.prog 8 #[.complex .f64 x y, .complex .f64 u v] w (AnsEnd (p - r) (q - s) w) := by
  have h1' : fit p = true ∧ fit q = true := by simpa using h1
  have h2' : fit r = true ∧ fit s = true := by simpa using h2
  have bp := fit_lt h1'.1; have bq := fit_lt h1'.2; have br := fit_lt h2'.1; have bs := fit_lt h2'.2
  obtain ⟨z, hz, rz⟩ := sub_rep hx hu (by omega)
  obtain ⟨t, ht, rt⟩ := sub_rep hy hv (by omega)
  have hop : ∀ ty w, (binOp .sub ty (.complex .f64 x y) (.complex .f64 u v)).run Try.prog w = .ok (.complex .f64 z t) w := fun ty w =>
    run_complex_sum w .sub (Or.inr rfl) ty .f64 x y u v _ _ (by simp [cSumBits, hz, ht])
  have HA := Lib.hid (fun (w : World) (c : Nat) (h0 : w.cell? ⟨c, 0, none⟩ = some (.complex .f64 x y)) (h1' : w.cell? ⟨c, 1, none⟩ = some (.complex .f64 u v)) => tolls2 c 2 x y u v p q r s w h0 h1' hx hy hu hv h1 h2)
  have HW := Lib.hid (fun w => answer_any z t (p - r) (q - s) w rz rt (by omega) (by omega))
  clear hx hy hu hv h1 h2 h1' h2' bp bq br bs hz rz ht rt
  go_enter Try.func8, Try.ntmps8
  go_wp2_with (first | (go_at_call 15; (refine (HA.out _ _ (by go_simp) (by go_simp)).mono ?_); rintro e w' ⟨rfl, rfl⟩) | (go_at_call 16; (with_reducible refine (HW.out _).mono ?_); rintro e w' ⟨x', y', n', ha, rfl, hb⟩; have HN := Lib.hid ha; have HB := Lib.hid hb; clear ha hb))
  go_ret2
  exact ⟨_, _, _, HN.out, rfl, ((Below.refl _ _).alloc (Nat.le_refl _) _).trans (HB.out.mono (by simp))⟩

theorem times_any (x y : Nat) (p q n : Int) (w : World) (hx : Rep x p) (hy : Rep y q) (h1 : (fit p && fit q) = true) (hn : n.natAbs ≤ 8) :
    Calls Try.prog 9 #[.complex .f64 x y, .int .i64 n] w (AnsEnd (p * n) (q * n) w) := by
  have h1' : fit p = true ∧ fit q = true := by simpa using h1
  have bp := fit_lt h1'.1; have bq := fit_lt h1'.2
  have mp : (p * n).natAbs ≤ 1099511627776 * 8 := by rw [Int.natAbs_mul]; exact Nat.mul_le_mul bp hn
  have mq : (q * n).natAbs ≤ 1099511627776 * 8 := by rw [Int.natAbs_mul]; exact Nat.mul_le_mul bq hn
  have rn : Rep (floatOfInt .f64 n) n := rep_fl (by omega)
  have r0 : Rep 0 0 := ⟨false, 1074, by decide +kernel, by simp⟩
  obtain ⟨a1, e1, k1⟩ := mul_rep hx rn (by omega)
  obtain ⟨a2, e2, k2⟩ := mul_rep hy r0 (by simp)
  obtain ⟨a3, e3, k3⟩ := mul_rep hx r0 (by simp)
  obtain ⟨a4, e4, k4⟩ := mul_rep hy rn (by omega)
  obtain ⟨z, hz, rz⟩ := sub_rep k1 k2 (by omega)
  obtain ⟨t, ht, rt⟩ := add_rep k3 k4 (by omega)
  rw [show p * n - q * 0 = p * n by omega] at rz
  rw [show p * 0 + q * n = q * n by omega] at rt
  have hop : ∀ ty w, (binOp .mul ty (.complex .f64 x y) (.complex .f64 (floatOfInt .f64 n) 0)).run Try.prog w = .ok (.complex .f64 z t) w := fun ty w =>
    run_complex_mul w ty x y _ _ _ _ (by simp [cMulBits, e1, e2, e3, e4, hz, ht])
  have HA := Lib.hid (fun (w : World) (c : Nat) (h0 : w.cell? ⟨c, 0, none⟩ = some (.complex .f64 x y)) => by have := tolls1 c 1 x y p q w h0 hx hy; rw [h1] at this; exact this)
  have HW := Lib.hid (fun w => answer_any z t (p * n) (q * n) w rz rt (by omega) (by omega))
  clear hx hy h1 h1' bp bq mp mq rn r0 e1 k1 e2 k2 e3 k3 e4 k4 hz rz ht rt hn
  go_enter Try.func9, Try.ntmps9
  go_wp2_with (first | (go_at_call 15; (refine (HA.out _ _ (by go_simp)).mono ?_); rintro e w' ⟨rfl, rfl⟩) | (go_at_call 16; (with_reducible refine (HW.out _).mono ?_); rintro e w' ⟨x', y', n', ha, rfl, hb⟩; have HN := Lib.hid ha; have HB := Lib.hid hb; clear ha hb))
  go_ret2
  exact ⟨_, _, _, HN.out, rfl, ((Below.refl _ _).alloc (Nat.le_refl _) _).trans (HB.out.mono (by simp))⟩

theorem conj_31 (w : World) : Calls Try.prog 20 #[.complex .f64 4613937818241073152 4607182418800017408] w fun e w' => e = .returned (.complex .f64 4613937818241073152 13830554455654793216) ∧ w = w' := by
  have hneg : Op.unary .neg (.float .f64 4607182418800017408) = pure (.float .f64 13830554455654793216) := by
    rw [show (13830554455654793216 : Nat) = Op.negFloat .f64 4607182418800017408 by decide +kernel]; rfl
  go_enter Try.func20, Try.ntmps20
  go_wp2
  go_ret
  exact ⟨rfl, rfl⟩

theorem rep_of (x : Nat) (n : Int) (h : x = fl n) (hn : n.natAbs < 2 ^ 53) : Rep x n := h ▸ rep_fl hn
theorem fl3 : fl 3 = 4613937818241073152 := by decide +kernel
theorem fl1 : fl 1 = 4607182418800017408 := by decide +kernel

/-- Swap of 3 + 1i -/
theorem swap_31 (w : World) : Calls Try.prog 13 #[.complex .f64 4613937818241073152 4607182418800017408] w fun e w' => e = .returned (.tuple #[.complex .f64 4607182418800017408 4613937818241073152, .int .i64 0]) ∧ Below w.heap.size w w' := by
  have hop : ∀ ty w, (binOp .mul ty (.complex .f64 4613937818241073152 13830554455654793216) (.complex .f64 0 4607182418800017408)).run Try.prog w = .ok (.complex .f64 4607182418800017408 4613937818241073152) w := fun ty w =>
    run_complex_mul w ty _ _ _ _ _ _ (by decide +kernel)
  have r3 : Rep 4613937818241073152 3 := rep_of _ _ fl3.symm (by decide)
  have r1 : Rep 4607182418800017408 1 := rep_of _ _ fl1.symm (by decide)
  have HA := Lib.hid (fun (w : World) (c : Nat) (h0 : w.cell? ⟨c, 0, none⟩ = some (.complex .f64 4613937818241073152 4607182418800017408)) => tolls1 c 1 _ _ 3 1 w h0 r3 r1)
  have HC := Lib.hid (fun w => conj_31 w)
  have ans : ∀ w, Calls Try.prog 16 #[.complex .f64 4607182418800017408 4613937818241073152] w fun e w' => e = .returned (.tuple #[.complex .f64 4607182418800017408 4613937818241073152, .int .i64 0]) ∧ Below w.heap.size w w' := fun w => by
    refine (answer_any _ _ 1 3 w r1 r3 (by decide) (by decide)).mono ?_
    rintro e w' ⟨x, y, n, ha, rfl, hb⟩
    refine ⟨?_, hb⟩
    rcases ha with ⟨_, _, rfl, rfl, rfl⟩ | ⟨h, _⟩
    · rw [fl1, fl3]
    · exact absurd h (by decide)
  have HW := Lib.hid ans
  clear ans r3 r1
  go_enter Try.func13, Try.ntmps13
  go_wp2_with (first | (go_at_call 15; (refine (HA.out _ _ (by go_simp)).mono ?_); rintro e w' ⟨rfl, rfl⟩) | (go_at_call 20; (with_reducible refine (HC.out _).mono ?_); rintro e w' ⟨rfl, rfl⟩) | (go_at_call 16; (with_reducible refine (HW.out _).mono ?_); rintro e w' ⟨rfl, hb⟩; have HB := Lib.hid hb; clear hb))
  go_ret2
  exact ⟨rfl, ((Below.refl _ _).alloc (Nat.le_refl _) _).trans (HB.out.mono (by simp))⟩

theorem num_any (n : Int) (w : World) : Calls Try.prog 6 #[.int .i64 n] w fun e w' => e = .returned (.int .i64 n) ∧ w = w' := by
  go_enter Try.func6, Try.ntmps6
  go_wp2
  go_ret
  exact ⟨rfl, rfl⟩

theorem alive_any (w : World) : Calls Try.prog 4 #[] w fun e w' => e = .returned (.bool true) ∧ Below w.heap.size w w' := by
  have o1 : FloatKind.f64.format.order 4607182418800017408 4607182418800017408 = some .eq := by decide +kernel
  have o3 : FloatKind.f64.format.order 4613937818241073152 4613937818241073152 = some .eq := by decide +kernel
  go_enter Try.func4, Try.ntmps4
  go_wp2_with (first | (go_at_call 13; (with_reducible refine (swap_31 _).mono ?_); rintro e w' ⟨rfl, hb⟩; have HB := Lib.hid hb; clear hb) | (go_at_call 6; (with_reducible refine (num_any _ _).mono ?_); rintro e w' ⟨rfl, rfl⟩))
  go_ret
  exact ⟨rfl, HB.out⟩
end Go.Proofs.Ytofpofojmbnomaa
