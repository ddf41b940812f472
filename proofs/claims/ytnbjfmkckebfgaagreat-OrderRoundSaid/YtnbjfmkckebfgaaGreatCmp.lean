/-
What is proved here: the library's comparison of two lists of numbers, by a contract.
-/
import Derived.Test.YtnbjfmkckebfgaaGreatBas
set_option linter.unusedSimpArgs false
set_option linter.unusedVariables false
namespace Go.Cmp
/-- the order of two lists -/
def cmpL : List Int → List Int → Int
  | [], [] => 0
  | [], _ :: _ => -1
  | _ :: _, [] => 1
  | x :: xs, y :: ys => if x < y then -1 else if y < x then 1 else cmpL xs ys
def cmpN (x y : Int) : Int := if x < y then -1 else if y < x then 1 else 0
end Go.Cmp
namespace Go.Proofs.YtnbjfmkckebfgaaGreat
open Go.Cmp Go.RowKit
theorem nan_any (x : Int) (w : World) : Calls Tryz.prog 40 #[.int .i64 x] w fun e w' => e = .returned (.bool false) ∧ w = w' := by
  go_enter Tryz.func40, Tryz.ntmps40
  go_wp2
  go_ret
  exact ⟨by simp, rfl⟩
set_option maxHeartbeats 1000000 in
theorem cmpN_any (x y : Int) (w : World) : Calls Tryz.prog 85 #[.int .i64 x, .int .i64 y] w fun e w' => e = .returned (.int .i64 (cmpN x y)) ∧ w = w' := by
  have K1 := Lib.hid (nan_any x w)
  have K2 := Lib.hid (nan_any y w)
  rcases (show x < y ∨ (¬ x < y ∧ y < x) ∨ (¬ x < y ∧ ¬ y < x) by omega) with h | ⟨h, h2⟩ | ⟨h, h2⟩
  · have e : cmpN x y = -1 := by unfold cmpN; rw [if_pos h]
    rw [e]
    clear e
    go_enter Tryz.func85, Tryz.ntmps85
    go_wp2_with (first | (go_at_call 40; (with_reducible refine K1.out.mono ?_); rintro e w1 ⟨rfl, rfl⟩) | (go_at_call 40; (with_reducible refine K2.out.mono ?_); rintro e w1 ⟨rfl, rfl⟩))
    go_ret
    exact ⟨rfl, rfl⟩
  · have e : cmpN x y = 1 := by unfold cmpN; rw [if_neg h, if_pos h2]
    rw [e]
    clear e
    go_enter Tryz.func85, Tryz.ntmps85
    go_wp2_with (first | (go_at_call 40; (with_reducible refine K1.out.mono ?_); rintro e w1 ⟨rfl, rfl⟩) | (go_at_call 40; (with_reducible refine K2.out.mono ?_); rintro e w1 ⟨rfl, rfl⟩))
    go_ret
    exact ⟨rfl, rfl⟩
  · have e : cmpN x y = 0 := by unfold cmpN; rw [if_neg h, if_neg h2]
    rw [e]
    clear e
    go_enter Tryz.func85, Tryz.ntmps85
    go_wp2_with (first | (go_at_call 40; (with_reducible refine K1.out.mono ?_); rintro e w1 ⟨rfl, rfl⟩) | (go_at_call 40; (with_reducible refine K2.out.mono ?_); rintro e w1 ⟨rfl, rfl⟩))
    go_ret
    exact ⟨rfl, rfl⟩
theorem cmpL_both {l k : List Int} {i : Nat} (h1 : i < l.length) (h2 : i < k.length) : cmpL (l.drop i) (k.drop i) = if l[i] < k[i] then -1 else if k[i] < l[i] then 1 else cmpL (l.drop (i + 1)) (k.drop (i + 1)) := by
  rw [List.drop_eq_getElem_cons h1, List.drop_eq_getElem_cons h2, cmpL]
theorem cmpL_left {l k : List Int} {i : Nat} (h1 : i < l.length) (h2 : k.length ≤ i) : cmpL (l.drop i) (k.drop i) = 1 := by
  rw [List.drop_eq_getElem_cons h1, List.drop_of_length_le h2, cmpL]
theorem cmpL_right {l k : List Int} {i : Nat} (h1 : l.length ≤ i) (h2 : i < k.length) : cmpL (l.drop i) (k.drop i) = -1 := by
  rw [List.drop_eq_getElem_cons h2, List.drop_of_length_le h1, cmpL]
theorem cmpL_none {l k : List Int} {i : Nat} (h1 : l.length ≤ i) (h2 : k.length ≤ i) : cmpL (l.drop i) (k.drop i) = 0 := by
  rw [List.drop_of_length_le h1, List.drop_of_length_le h2, cmpL]
set_option maxRecDepth 100000 in
set_option maxHeartbeats 4000000 in
theorem cmpL_any (A1 A2 : Option Addr) (c1 c2 : Nat) (l k : List Int) (w : World) (h1 : IntsAt w A1 l) (h2 : IntsAt w A2 k) (hl : l.length ≤ 1000000000) (hk : k.length ≤ 1000000000) :
    Calls Tryz.prog 67 #[.slice A1 l.length c1, .slice A2 k.length c2] w fun e w' => e = .returned (.int .i64 (cmpL l k)) ∧ w = w' := by
  obtain ⟨n, hn⟩ : ∃ n, n = l.length := ⟨_, rfl⟩
  obtain ⟨m, hm⟩ : ∃ m, m = k.length := ⟨_, rfl⟩
  have H1 := Lib.hid h1
  have H2 := Lib.hid h2
  have HN := Lib.hid hn
  have HM := Lib.hid hm
  obtain ⟨r, hr⟩ : ∃ r, r = cmpL l k := ⟨_, rfl⟩
  have HR := Lib.hid hr
  rw [← hn, ← hm, ← hr]
  rw [← hn] at hl
  rw [← hm] at hk
  clear h1 h2 hn hm hr
  go_enter Tryz.func67, Tryz.ntmps67
  go_wp2
  go_loopw [11] (fun v11 wr => ∃ i : Nat, i ≤ n ∧ i ≤ m ∧ v11 = .int .i64 (i : Int) ∧ Hid (r = cmpL (l.drop i) (k.drop i)) ∧ w = wr) (fun v11 _ => n - (intOf v11).toNat)
  case atStart => exact ⟨0, Nat.zero_le _, Nat.zero_le _, rfl, Lib.hid (by have := HR.out; simpa using this), rfl⟩
  case round =>
    obtain ⟨i, hi, hi2, rfl, HC, hw⟩ := hrel
    subst hw
    by_cases hlt : i < n
    · have li : (i : Int) < (n : Int) := by omega
      have hil : i < l.length := by have := HN.out; omega
      obtain ⟨b, o, eA, hb, cA⟩ := H1.out i hil
      by_cases hlm : i < m
      · have lm : (i : Int) < (m : Int) := by omega
        have hik : i < k.length := by have := HM.out; omega
        obtain ⟨b2, o2, eB, hb2, cB⟩ := H2.out i hik
        subst eA eB
        have HB := Lib.hid (cmpL_both hil hik)
        generalize l[i] = x at *
        generalize k[i] = y at *
        have K := Lib.hid (cmpN_any x y w)
        clear hb hb2
        unfold iV at *
        rcases (show x < y ∨ (¬ x < y ∧ y < x) ∨ (¬ x < y ∧ ¬ y < x) by omega) with h | ⟨h, h2⟩ | ⟨h, h2⟩
        · have e : cmpN x y = -1 := by unfold cmpN; rw [if_pos h]
          have er : r = -1 := by rw [HC.out, HB.out, if_pos h]
          rw [e] at K
          have ER := Lib.hid er
          clear e er h
          go_wp2_with (go_at_call 85; (with_reducible refine K.out.mono ?_); rintro e w1 ⟨rfl, rfl⟩)
          go_ret
          exact ⟨by rw [ER.out]; rfl, rfl⟩
        · have e : cmpN x y = 1 := by unfold cmpN; rw [if_neg h, if_pos h2]
          have er : r = 1 := by rw [HC.out, HB.out, if_neg h, if_pos h2]
          rw [e] at K
          have ER := Lib.hid er
          clear e er h h2
          go_wp2_with (go_at_call 85; (with_reducible refine K.out.mono ?_); rintro e w1 ⟨rfl, rfl⟩)
          go_ret
          exact ⟨by rw [ER.out]; rfl, rfl⟩
        · have e : cmpN x y = 0 := by unfold cmpN; rw [if_neg h, if_neg h2]
          have er := Lib.hid (show r = cmpL (l.drop (i + 1)) (k.drop (i + 1)) by rw [HC.out, HB.out, if_neg h, if_neg h2])
          rw [e] at K
          clear e h h2
          go_wp2_with (go_at_call 85; (with_reducible refine K.out.mono ?_); rintro e w1 ⟨rfl, rfl⟩)
          go_roundw
          case rel => exact ⟨i + 1, by omega, by omega, by go_num, er, trivial⟩
          case measure => first | (simp [intOf]; done) | (simp [intOf]; omega)
      · obtain rfl : i = m := by omega
        have lm : ¬ (i : Int) < (i : Int) := by omega
        have er : r = 1 := by rw [HC.out, cmpL_left hil (by have := HM.out; omega)]
        have ER := Lib.hid er
        subst eA
        clear er hb
        unfold iV at *
        go_wp2
        go_ret
        exact ⟨by rw [ER.out]; rfl, rfl⟩
    · obtain rfl : i = n := by omega
      have li : ¬ (i : Int) < (i : Int) := by omega
      by_cases hlm : i < m
      · have lm : (i : Int) < (m : Int) := by omega
        have er : r = -1 := by rw [HC.out, cmpL_right (by have := HN.out; omega) (by have := HM.out; omega)]
        have ER := Lib.hid er
        clear er
        go_wp2
        go_ret
        exact ⟨by rw [ER.out]; rfl, rfl⟩
      · have lm : ¬ (i : Int) < (m : Int) := by omega
        have er : r = 0 := by rw [HC.out, cmpL_none (by have := HN.out; omega) (by have := HM.out; omega)]
        have ER := Lib.hid er
        clear er
        go_wp2
        go_ret
        exact ⟨by rw [ER.out]; rfl, rfl⟩
end Go.Proofs.YtnbjfmkckebfgaaGreat
