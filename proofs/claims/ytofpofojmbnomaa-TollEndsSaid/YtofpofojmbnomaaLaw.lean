/-
What is proved here: the law's own helpers (fair, Good, part, Of, Is, told, times, Times), over tolls of whole numbers.
-/
import Derived.Test.YtofpofojmbnomaaSums
import Derived.Laws.ResultCell
import Derived.Laws.StructEq
namespace Go.Proofs.Ytofpofojmbnomaa
open Go.Fl Go.RowKit

theorem fit_iff (n : Int) : fit n = true ↔ -1099511627776 ≤ n ∧ n ≤ 1099511627776 := by simp [fit]

theorem fair_any (n : Int) (w : World) : Calls Try.prog 19 #[.int .i64 n] w fun e w' => e = .returned (.bool (fit n)) ∧ w = w' := by
  by_cases h1 : -1099511627776 ≤ n
  · by_cases h2 : n ≤ 1099511627776
    · rw [(fit_iff n).2 ⟨h1, h2⟩]
      go_enter Try.func19, Try.ntmps19
      go_wp2
      go_ret
      exact ⟨rfl, rfl⟩
    · rw [show fit n = false by simp [fit]; omega]
      go_enter Try.func19, Try.ntmps19
      go_wp2
      go_ret
      exact ⟨rfl, rfl⟩
  · rw [show fit n = false by simp [fit]; omega]
    go_enter Try.func19, Try.ntmps19
    go_wp2
    go_ret
    exact ⟨rfl, rfl⟩

theorem good_any (a b : Int) (w : World) : Calls Try.prog 12 #[.agg #[.int .i64 a, .int .i64 b]] w fun e w' => e = .returned (.bool (fit a && fit b)) ∧ Below w.heap.size w w' := by
  have ha := fun w => fair_any a w
  have hb := fun w => fair_any b w
  have HA := Lib.hid ha
  have HB := Lib.hid hb
  clear ha hb
  generalize fit a = p at *
  generalize fit b = q at *
  cases p
  · go_enter Try.func12, Try.ntmps12
    go_wp2_with (go_at_call 19; (with_reducible refine (HA.out _).mono ?_); rintro e w' ⟨rfl, rfl⟩)
    go_ret
    exact ⟨rfl, (Below.refl _ _).alloc (Nat.le_refl _) _⟩
  · go_enter Try.func12, Try.ntmps12
    go_wp2_with (first | (go_at_call 19; (with_reducible refine (HA.out _).mono ?_); rintro e w' ⟨rfl, rfl⟩) | (go_at_call 19; (with_reducible refine (HB.out _).mono ?_); rintro e w' ⟨rfl, rfl⟩))
    go_ret
    exact ⟨rfl, (Below.refl _ _).alloc (Nat.le_refl _) _⟩

theorem part_yes (x : Nat) (a : Int) (w : World) (hx : Rep x a) (h : fit a = true) :
    Calls Try.prog 25 #[.float .f64 x] w fun e w' => e = .returned (.tuple #[.int .i64 a, .bool true]) ∧ w = w' := by
  obtain ⟨h1, h2⟩ := (fit_iff a).1 h
  have hc : ∀ w, (convert 29 3 (.float .f64 x)).run Try.prog w = .ok (.int .i64 a) w := fun w => run_convert_float_int w 29 3 .f64 .i64 x a (by rw [Try.underlying29]; rfl) Try.underlying3 (toInt_rep hx (by omega) (by omega))
  have ho3 := order_rep (rep_fl (n := a) (by omega)) hx
  rw [Int.compare_eq_eq.2 rfl] at ho3
  have ho3 : FloatKind.f64.format.order (floatOfInt .f64 a) x = some .eq := ho3
  have ho : FloatKind.f64.format.order x 14010698440749613056 = some .gt ∨ FloatKind.f64.format.order x 14010698440749613056 = some .eq := by
    rw [order_rep hx rep_lo]
    rcases Int.lt_or_eq_of_le h1 with h | h
    · exact Or.inl (by rw [Int.compare_eq_gt.2 h])
    · exact Or.inr (by rw [Int.compare_eq_eq.2 h.symm])
  have ho2 : FloatKind.f64.format.order x 4787326403894837248 = some .lt ∨ FloatKind.f64.format.order x 4787326403894837248 = some .eq := by
    rw [order_rep hx rep_hi]
    rcases Int.lt_or_eq_of_le h2 with h | h
    · exact Or.inl (by rw [Int.compare_eq_lt.2 h])
    · exact Or.inr (by rw [Int.compare_eq_eq.2 h])
  clear h h1 h2 hx
  rcases ho with ho | ho <;> rcases ho2 with ho2 | ho2
  all_goals
    go_enter Try.func25, Try.ntmps25
    go_wp2_with (simp only [hc])
    go_ret2
    exact ⟨rfl, rfl⟩

theorem of_yes (x y : Nat) (a b : Int) (w : World) (hx : Rep x a) (hy : Rep y b) (ha : fit a = true) (hb : fit b = true) :
    Calls Try.prog 23 #[.complex .f64 x y] w fun e w' => e = .returned (.tuple #[.agg #[.int .i64 a, .int .i64 b], .bool true]) ∧ Below w.heap.size w w' := by
  have HA := Lib.hid (fun w => part_yes x a w hx ha)
  have HB := Lib.hid (fun w => part_yes y b w hy hb)
  clear hx hy ha hb
  go_enter Try.func23, Try.ntmps23
  go_wp2_with (first | (go_at_call 25; (with_reducible refine (HA.out _).mono ?_); rintro e w' ⟨rfl, rfl⟩) | (go_at_call 25; (with_reducible refine (HB.out _).mono ?_); rintro e w' ⟨rfl, rfl⟩))
  refine bodyPost_ret (v := .tuple #[.agg #[.int .i64 a, .int .i64 b], .bool true]) (by simp [results, Try.results23, go_sem]) rfl ⟨rfl, (Below.refl _ _).alloc (Nat.le_refl _) _⟩

theorem bcell {W w1 : World} (hb : Below W.heap.size W w1) : (∀ b o, b < W.heap.size → w1.cell? ⟨b, o, none⟩ = W.cell? ⟨b, o, none⟩) ∧ (∀ b o, b < W.heap.size → w1.frozen? ⟨b, o, none⟩ = W.frozen? ⟨b, o, none⟩) :=
  ⟨fun b o h => hb.cell (p := ⟨b, o, none⟩) h, fun b o h => hb.frozen (p := ⟨b, o, none⟩) h⟩

theorem fl0 : fl 0 = 0 := by decide +kernel

/-- Is: of a toll and its own number -/
theorem is_yes (a b : Int) (w : World) (ha : fit a = true) (hb : fit b = true) :
    Calls Try.prog 18 #[.complex .f64 (fl a) (fl b), .agg #[.int .i64 a, .int .i64 b]] w fun e w' => e = .returned (.bool true) ∧ Below w.heap.size w w' := by
  have ra : Rep (fl a) a := rep_fl (by have := fit_lt ha; omega)
  have rb : Rep (fl b) b := rep_fl (by have := fit_lt hb; omega)
  have HO := Lib.hid (fun w => of_yes (fl a) (fl b) a b w ra rb ha hb)
  have hq : ∀ t w, (binOp .quo t (.float .f64 4607182418800017408) (.float .f64 0)).run Try.prog w = .ok (.float .f64 9218868437227405312) w := fun t w => run_float_arith w .quo t .f64 _ _ _ (by decide +kernel)
  have ho : FloatKind.f64.format.order 9218868437227405312 0 = some .gt := by decide +kernel
  clear ra rb ha hb
  by_cases h1 : a = 0 <;> by_cases h2 : b = 0
  all_goals
    try (subst h1; rw [fl0] at *)
    try (subst h2; rw [fl0] at *)
    go_enter Try.func18, Try.ntmps18
    go_wp2_with (first | (go_at_call 23; (with_reducible refine (HO.out _).mono ?_); rintro e w' ⟨rfl, hb⟩; obtain ⟨hc, hf⟩ := bcell hb; have hz : w.heap.size < w'.heap.size := (by have := hb.size; simp at this; omega); have HB := Lib.hid hb; clear hb))
    go_ret
    exact ⟨rfl, (((Below.refl _ _).alloc (Nat.le_refl _) _).trans (HB.out.mono (by simp))).alloc (by omega) _⟩

/-- told: what answer tells, against the law's own number -/
theorem told_yes (x y : Nat) (n a b : Int) (w : World) (h : Ans x y n a b) :
    Calls Try.prog 11 #[.complex .f64 x y, .int .i64 n, .agg #[.int .i64 a, .int .i64 b], .bool (fit a && fit b)] w fun e w' => e = .returned (.bool true) ∧ Below w.heap.size w w' := by
  rcases h with ⟨ha, hb, rfl, rfl, rfl⟩ | ⟨hab, rfl, rfl, rfl⟩
  · have HI := Lib.hid (fun w => is_yes a b w ha hb)
    rw [ha, hb]
    clear ha hb
    go_enter Try.func11, Try.ntmps11
    go_wp2_with (first | (go_at_call 6; (with_reducible refine (num_any _ _).mono ?_); rintro e w' ⟨rfl, rfl⟩) | (go_at_call 18; (with_reducible refine (HI.out _).mono ?_); rintro e w' ⟨rfl, hb⟩; have HB := Lib.hid hb; clear hb))
    go_ret
    exact ⟨rfl, ((Below.refl _ _).alloc (Nat.le_refl _) _).trans (HB.out.mono (by simp))⟩
  · have o0 : FloatKind.f64.format.order 0 0 = some .eq := by decide +kernel
    rw [hab]
    clear hab
    go_enter Try.func11, Try.ntmps11
    go_wp2_with (go_at_call 6; (with_reducible refine (num_any _ _).mono ?_); rintro e w' ⟨rfl, rfl⟩)
    go_ret
    exact ⟨rfl, (Below.refl _ _).alloc (Nat.le_refl _) _⟩

/-- told: of an answer that is an error, whatever the number -/
theorem told_err (a b : Int) (w : World) :
    Calls Try.prog 11 #[.complex .f64 0 0, .int .i64 3, .agg #[.int .i64 a, .int .i64 b], .bool false] w fun e w' => e = .returned (.bool true) ∧ Below w.heap.size w w' := by
  have o0 : FloatKind.f64.format.order 0 0 = some .eq := by decide +kernel
  go_enter Try.func11, Try.ntmps11
  go_wp2_with (go_at_call 6; (with_reducible refine (num_any _ _).mono ?_); rintro e w' ⟨rfl, rfl⟩)
  go_ret
  exact ⟨rfl, (Below.refl _ _).alloc (Nat.le_refl _) _⟩

/-- a count n times: the product and whether it is in the range -/
def TimesEnd (a n : Int) (w : World) (e : Ending) (w' : World) : Prop := e = .returned (.tuple #[.int .i64 (if fit (a * n) then a * n else 0), .bool (fit (a * n))]) ∧ w = w'

theorem times_zero (a n : Int) (w : World) (h : a = 0 ∨ n = 0) : Calls Try.prog 17 #[.int .i64 a, .int .i64 n] w (TimesEnd a n w) := by
  have e : a * n = 0 := by rcases h with rfl | rfl <;> simp
  have H : TimesEnd a n w (.returned (.tuple #[.int .i64 0, .bool true])) w := by unfold TimesEnd; rw [e]; exact ⟨rfl, rfl⟩
  have HH := Lib.hid H
  clear H e
  by_cases ha : a = 0
  · subst ha
    go_enter Try.func17, Try.ntmps17
    go_wp2
    go_ret2
    exact HH.out
  · obtain rfl : n = 0 := by rcases h with h | h; exact absurd h ha; exact h
    clear h
    go_enter Try.func17, Try.ntmps17
    go_wp2
    go_ret2
    exact HH.out

theorem times_pos (a n : Int) (w : World) (ha : 0 < a) (ha2 : a ≤ 1099511627776) (hn : 0 < n) (hn2 : n ≤ 8) : Calls Try.prog 17 #[.int .i64 a, .int .i64 n] w (TimesEnd a n w) := by
  have hm : a * n ≤ 1099511627776 * 8 := Int.mul_le_mul ha2 hn2 (by omega) (by omega)
  have hp : 0 < a * n := Int.mul_pos ha hn
  have za : (a == 0) = false := by simp; omega
  have zn : (n == 0) = false := by simp; omega
  by_cases h : n ≤ 1099511627776 / a
  · have hle : a * n ≤ 1099511627776 := by
      have := (Int.le_ediv_iff_mul_le ha).1 h
      rw [Int.mul_comm]; exact this
    have H : TimesEnd a n w (.returned (.tuple #[.int .i64 (a * n), .bool true])) w := by
      unfold TimesEnd; rw [(fit_iff (a * n)).2 ⟨by omega, hle⟩]; exact ⟨rfl, rfl⟩
    have HH := Lib.hid H
    clear H hle
    go_enter Try.func17, Try.ntmps17
    go_wp2
    go_ret2
    exact HH.out
  · have hle : ¬ a * n ≤ 1099511627776 := by
      intro hc
      exact h ((Int.le_ediv_iff_mul_le ha).2 (by rw [Int.mul_comm]; exact hc))
    have H : TimesEnd a n w (.returned (.tuple #[.int .i64 0, .bool false])) w := by
      have e : fit (a * n) = false := by
        cases hf : fit (a * n)
        · rfl
        · exact absurd ((fit_iff _).1 hf).2 hle
      unfold TimesEnd; rw [e]; exact ⟨rfl, rfl⟩
    have HH := Lib.hid H
    clear H hle
    go_enter Try.func17, Try.ntmps17
    go_wp2
    go_ret2
    exact HH.out

theorem fit_neg (a : Int) : fit (-a) = fit a := by
  rw [Bool.eq_iff_iff, fit_iff, fit_iff]; omega

theorem negif (a : Int) : -(if fit a then a else 0) = if fit (-a) then -a else 0 := by
  rw [fit_neg]; split <;> rfl

theorem prod_bd (a n : Int) (h : fit (a * n) = true) : -1099511627776 ≤ a * n ∧ a * n ≤ 1099511627776 := (fit_iff _).1 h
theorem if_bd (a n : Int) : -1099511627776 ≤ (if fit (a * n) then a * n else 0) ∧ (if fit (a * n) then a * n else 0) ≤ 1099511627776 := by
  split
  · exact prod_bd a n ‹_›
  · omega

theorem times_posA (a n : Int) (w : World) (ha : 0 < a) (ha2 : a ≤ 1099511627776) (h1 : -8 ≤ n) (h2 : n ≤ 8) : Calls Try.prog 17 #[.int .i64 a, .int .i64 n] w (TimesEnd a n w) := by
  by_cases h0 : n = 0
  · exact times_zero a n w (Or.inr h0)
  by_cases hn : 0 < n
  · exact times_pos a n w ha ha2 hn h2
  · have za : (a == 0) = false := by simp; omega
    have zn : (n == 0) = false := by simp; omega
    have key : ∀ w, Calls Try.prog 17 #[.int .i64 a, .int .i64 (-n)] w (TimesEnd a (-n) w) := fun w => times_pos a (-n) w ha ha2 (by omega) (by omega)
    have H : ∀ w, TimesEnd a n w (.returned (.tuple #[.int .i64 (-(if fit (a * -n) then a * -n else 0)), .bool (fit (a * -n))])) w := by
      intro w
      unfold TimesEnd
      rw [negif, Int.mul_neg, Int.neg_neg, fit_neg]
      exact ⟨rfl, rfl⟩
    obtain ⟨b1, b2⟩ := if_bd a (-n)
    unfold TimesEnd at key
    generalize (if fit (a * -n) then a * -n else 0) = p at *
    generalize fit (a * -n) = q at *
    have K := Lib.hid key
    have HH := Lib.hid H
    have hneg : n < 0 := by omega
    clear key H h0 hn
    go_enter Try.func17, Try.ntmps17
    go_wp2_with (go_at_call 17; (with_reducible refine (K.out _).mono ?_); rintro e w' ⟨rfl, rfl⟩)
    go_ret2
    exact HH.out _

theorem mulI_any (a n : Int) (w : World) (ha1 : -1099511627776 ≤ a) (ha2 : a ≤ 1099511627776) (h1 : -8 ≤ n) (h2 : n ≤ 8) : Calls Try.prog 17 #[.int .i64 a, .int .i64 n] w (TimesEnd a n w) := by
  by_cases h0 : n = 0
  · exact times_zero a n w (Or.inr h0)
  by_cases h0' : a = 0
  · exact times_zero a n w (Or.inl h0')
  by_cases hn : 0 < a
  · exact times_posA a n w hn ha2 h1 h2
  · have za : (a == 0) = false := by simp; omega
    have zn : (n == 0) = false := by simp; omega
    have key : ∀ w, Calls Try.prog 17 #[.int .i64 (-a), .int .i64 n] w (TimesEnd (-a) n w) := fun w => times_posA (-a) n w (by omega) (by omega) h1 h2
    have H : ∀ w, TimesEnd a n w (.returned (.tuple #[.int .i64 (-(if fit (-a * n) then -a * n else 0)), .bool (fit (-a * n))])) w := by
      intro w
      unfold TimesEnd
      rw [negif, Int.neg_mul, Int.neg_neg, fit_neg]
      exact ⟨rfl, rfl⟩
    obtain ⟨b1, b2⟩ := if_bd (-a) n
    unfold TimesEnd at key
    generalize (if fit (-a * n) then -a * n else 0) = p at *
    generalize fit (-a * n) = q at *
    have K := Lib.hid key
    have HH := Lib.hid H
    have hneg : a < 0 := by omega
    clear key H h0 hn h0'
    go_enter Try.func17, Try.ntmps17
    go_wp2_with (go_at_call 17; (with_reducible refine (K.out _).mono ?_); rintro e w' ⟨rfl, rfl⟩)
    go_ret2
    exact HH.out _

/-- a toll n times -/
def TollEnd (a b n : Int) (w : World) (e : Ending) (w' : World) : Prop :=
  (((fit (a * n) && fit (b * n)) = true ∧ e = .returned (.tuple #[.agg #[.int .i64 (a * n), .int .i64 (b * n)], .bool true])) ∨ ((fit (a * n) && fit (b * n)) = false ∧ e = .returned (.tuple #[.agg #[.int .i64 0, .int .i64 0], .bool false]))) ∧ Below w.heap.size w w'

theorem tollTimes_any (a b n : Int) (w : World) (ha : fit a = true) (hb : fit b = true) (h1 : -8 ≤ n) (h2 : n ≤ 8) :
    Calls Try.prog 10 #[.agg #[.int .i64 a, .int .i64 b], .int .i64 n] w (TollEnd a b n w) := by
  obtain ⟨a1, a2⟩ := (fit_iff a).1 ha
  obtain ⟨b1, b2⟩ := (fit_iff b).1 hb
  have ka := fun w => mulI_any a n w a1 a2 h1 h2
  have kb := fun w => mulI_any b n w b1 b2 h1 h2
  unfold TimesEnd at ka kb
  by_cases hp : fit (a * n) = true <;> by_cases hq : fit (b * n) = true
  · have H : ∀ w', Below w.heap.size w w' → TollEnd a b n w (.returned (.tuple #[.agg #[.int .i64 (a * n), .int .i64 (b * n)], .bool true])) w' := fun w' h => ⟨Or.inl ⟨by rw [hp, hq]; rfl, rfl⟩, h⟩
    rw [hp, if_pos rfl] at ka
    rw [hq, if_pos rfl] at kb
    generalize a * n = u at *
    generalize b * n = v at *
    have KA := Lib.hid ka
    have KB := Lib.hid kb
    have HH := Lib.hid H
    clear ka kb H ha hb a1 a2 b1 b2 hp hq
    go_enter Try.func10, Try.ntmps10
    go_wp2_with (first | (go_at_call 17; (with_reducible refine (KA.out _).mono ?_); rintro e w' ⟨rfl, rfl⟩) | (go_at_call 17; (with_reducible refine (KB.out _).mono ?_); rintro e w' ⟨rfl, rfl⟩))
    refine bodyPost_ret (v := .tuple #[.agg #[.int .i64 u, .int .i64 v], .bool true]) (by simp [results, Try.results10, go_sem]) rfl (HH.out _ ?_)
    exact ((Below.refl _ _).alloc (Nat.le_refl _) _).alloc (by simp) _
  all_goals
    have H : ∀ w', Below w.heap.size w w' → TollEnd a b n w (.returned (.tuple #[.agg #[.int .i64 0, .int .i64 0], .bool false])) w' := fun w' h => ⟨Or.inr ⟨by simp_all, rfl⟩, h⟩
    have HH := Lib.hid H
    clear H
    simp only [hp, hq, if_true, if_false, Bool.false_eq_true] at ka kb
    try rw [show fit (a * n) = false by simpa using hp] at ka
    try rw [show fit (b * n) = false by simpa using hq] at kb
    generalize a * n = u at *
    generalize b * n = v at *
    have KA := Lib.hid ka
    have KB := Lib.hid kb
    clear ka kb ha hb a1 a2 b1 b2 hp hq
    go_enter Try.func10, Try.ntmps10
    go_wp2_with (first | (go_at_call 17; (with_reducible refine (KA.out _).mono ?_); rintro e w' ⟨rfl, rfl⟩) | (go_at_call 17; (with_reducible refine (KB.out _).mono ?_); rintro e w' ⟨rfl, rfl⟩))
    refine bodyPost_ret (v := .tuple #[.agg #[.int .i64 0, .int .i64 0], .bool false]) (by simp [results, Try.results10, go_sem]) rfl (HH.out _ ?_)
    exact ((Below.refl _ _).alloc (Nat.le_refl _) _).alloc (by simp) _
end Go.Proofs.Ytofpofojmbnomaa
