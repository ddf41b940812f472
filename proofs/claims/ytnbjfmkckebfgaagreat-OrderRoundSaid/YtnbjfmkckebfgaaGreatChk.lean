/-
What is proved here: package comp's check of needs, by a contract.
-/
import Derived.Test.YtnbjfmkckebfgaaGreatWin
import Derived.BigQuiet
import Derived.Deep.QuietTactic
set_option linter.unusedSimpArgs false
set_option linter.unusedVariables false
namespace Go.Proofs.YtnbjfmkckebfgaaGreat
open Go.Cmp Go.RowKit
/-- too long a list -/
def longP (l : List Int) : Bool := decide (1024 < l.length)
/-- no place of K -/
def noneP (K : Nat) (z : Int) : Bool := decide (z < 0) || decide ((K : Int) ≤ z)
theorem long_any (A : Option Addr) (n c : Nat) (w : World) : Calls Tryz.prog 55 #[.slice A n c] w fun e w' => e = .returned (.bool (decide (1024 < n))) ∧ w' = w := by
  by_cases h : 1024 < n
  · have h1 : (1024 : Int) < (n : Int) := by omega
    go_enter Tryz.func55, Tryz.ntmps55
    go_wp2
    go_ret
    exact ⟨by simp [h], rfl⟩
  · have h1 : ¬ (1024 : Int) < (n : Int) := by omega
    go_enter Tryz.func55, Tryz.ntmps55
    go_wp2
    go_ret
    exact ⟨by simp [h], rfl⟩
theorem none_any (K c : Nat) (A : Option Addr) (BB : Nat) (z : Int) (w : World) (h : Lies w BB 24 #[.slice A K c]) : Calls Tryz.prog 57 #[.int .i64 z, .pointer (some ⟨BB, 0, none⟩)] w fun e w' => e = .returned (.bool (noneP K z)) ∧ w' = w := by
  have c0 := lies_cell h 0
  simp only [List.getElem?_toArray, List.getElem?_cons_zero] at c0
  unfold noneP
  clear h
  by_cases h1 : z < 0
  · go_enter Tryz.func57, Tryz.ntmps57
    go_wp2
    go_ret
    exact ⟨by simp [h1], rfl⟩
  · by_cases h2 : (K : Int) ≤ z
    · go_enter Tryz.func57, Tryz.ntmps57
      go_wp2
      go_ret
      exact ⟨by simp [h1, h2], rfl⟩
    · go_enter Tryz.func57, Tryz.ntmps57
      go_wp2
      go_ret
      exact ⟨by simp [h1, h2], rfl⟩
/-- what a look for the first one tells -/
def Fst (b : Bool) (z : Int) : Prop := (b = false ∧ z = -1) ∨ (b = true ∧ ∃ k : Nat, z = (k : Int))
theorem fst_true {z : Int} (h : Fst true z) : ∃ k : Nat, z = (k : Int) := by
  rcases h with ⟨h, _⟩ | ⟨_, h⟩
  · cases h
  · exact h
theorem fst_false {z : Int} (h : Fst false z) : z = -1 := by
  rcases h with ⟨_, h⟩ | ⟨h, _⟩
  · exact h
  · cases h
theorem any_at {α : Type} (l : List α) (p : α → Bool) (i : Nat) (hi : i < l.length) (h : p l[i] = true) : l.any p = true := List.any_eq_true.2 ⟨_, List.getElem_mem hi, h⟩
theorem any_not {α : Type} (l : List α) (p : α → Bool) (h : ∀ j (hj : j < l.length), p l[j] = false) : l.any p = false := by
  rw [List.any_eq_false]
  intro x hx
  obtain ⟨j, hj, rfl⟩ := List.getElem_of_mem hx
  rw [h j hj]; simp

set_option maxRecDepth 100000 in
set_option maxHeartbeats 2000000 in
theorem idx29_any (A : Option Addr) (c : Nat) (N : List (List Int)) (w : World) (hL : LsAt w A N) (hn : N.length ≤ 1000000000)  :
    Calls Tryz.prog 61 #[.slice A N.length c, .func (.func 55) #[] #[]] w fun e w' => (∃ z, e = .returned (.int .i64 z) ∧ Fst (N.any longP) z) ∧ w' = w := by
  have HL := Lib.hid hL
  have KF := Lib.hid (fun (A : Option Addr) (n c : Nat) (l : List Int) (hl : n = l.length) (hi : IntsAt w A l) => (show Calls Tryz.prog 55 #[.slice A n c] w (fun e w' => e = .returned (.bool (longP l)) ∧ w' = w) by have := long_any A n c w; unfold longP; rw [← hl]; exact this))
  obtain ⟨n, hnn⟩ : ∃ n, n = N.length := ⟨_, rfl⟩
  have HN := Lib.hid hnn
  rw [← hnn] at hn ⊢
  clear hL hnn
  go_enter Tryz.func61, Tryz.ntmps61
  go_wp2
  go_loopw [5, 8] (fun _ v8 wr => ∃ i : Nat, i ≤ n ∧ v8 = .int .i64 (i : Int) ∧ wr = w ∧ Hid (∀ j (hj : j < N.length), j < i → longP N[j] = false)) (fun _ v8 _ => n - (intOf v8).toNat)
  case atStart => exact ⟨0, Nat.zero_le _, rfl, rfl, fun j _ hj => absurd hj (Nat.not_lt_zero _)⟩
  case round =>
    obtain ⟨i, hi, rfl, rfl, hA⟩ := hrel
    by_cases hlt : i < n
    · have li : (i : Int) < (n : Int) := by omega
      have hiN : i < N.length := by rw [← HN.out]; exact hlt
      obtain ⟨b, o, A', c', eA, hbw, cc, hcl, hI⟩ := HL.out i hiN
      subst eA
      obtain ⟨l, hl⟩ : ∃ l, l = N[i] := ⟨_, rfl⟩
      rw [← hl] at cc hcl hI
      have HLI := Lib.hid hl
      obtain ⟨m, hm⟩ : ∃ m, m = l.length := ⟨_, rfl⟩
      have K1 := Lib.hid (KF.out A' m c' l hm hI)
      rw [← hm] at cc hcl
      clear hl hI hm
      cases hp : longP l with
      | true =>
        rw [hp] at K1
        go_wp2_with (go_at_call 55; (with_reducible refine K1.out.mono ?_); rintro e w1 ⟨rfl, rfl⟩)
        go_ret
        exact ⟨⟨_, rfl, .inr ⟨any_at _ _ i hiN (by rw [← HLI.out]; exact hp), i, rfl⟩⟩, rfl⟩
      | false =>
        rw [hp] at K1
        go_wp2_with (go_at_call 55; (with_reducible refine K1.out.mono ?_); rintro e w1 ⟨rfl, rfl⟩)
        go_roundw
        case rel =>
          refine ⟨i + 1, by omega, by go_num, (by first | rfl | trivial), fun j hj hji => ?_⟩
          rcases Nat.lt_or_ge j i with h | h
          · exact hA j hj h
          · obtain rfl : j = i := by omega
            rw [← HLI.out]; exact hp
        case measure => first | (simp [intOf]; done) | (simp [intOf]; omega)
    · obtain rfl : i = n := by omega
      have li : ¬ (i : Int) < (i : Int) := by omega
      go_wp2
      go_ret
      exact ⟨⟨_, rfl, .inl ⟨any_not _ _ (fun j hj => hA j hj (by rw [HN.out]; exact hj)), rfl⟩⟩, rfl⟩
set_option maxRecDepth 100000 in
theorem con29_any (A : Option Addr) (c : Nat) (N : List (List Int)) (w : World) (hL : LsAt w A N) (hn : N.length ≤ 1000000000)  :
    Calls Tryz.prog 56 #[.slice A N.length c, .func (.func 55) #[] #[]] w fun e w' => e = .returned (.bool (N.any longP)) ∧ w' = w := by
  have K := Lib.hid (idx29_any A c N w hL hn )
  obtain ⟨b, hb⟩ : ∃ b, b = N.any longP := ⟨_, rfl⟩
  rw [← hb] at K ⊢
  clear hL hb
  generalize N.length = n at *
  go_enter Tryz.func56, Tryz.ntmps56
  go_upto_region 1 with (fail)
  have K1 := K.out
  rcases Bool.eq_false_or_eq_true b with hb | hb
  · subst hb
    go_wp2_with (go_at_call 61; (with_reducible refine K1.mono ?_); rintro e w1 ⟨⟨z, rfl, hz⟩, rfl⟩; obtain ⟨k, rfl⟩ := fst_true hz; have k0 : (0 : Int) ≤ (k : Int) := by omega)
    go_ret
    exact ⟨by simp, rfl⟩
  · subst hb
    go_wp2_with (go_at_call 61; (with_reducible refine K1.mono ?_); rintro e w1 ⟨⟨z, rfl, hz⟩, rfl⟩; obtain rfl := fst_false hz)
    go_ret
    exact ⟨by simp, rfl⟩

set_option maxRecDepth 100000 in
set_option maxHeartbeats 2000000 in
theorem idxI_any (A : Option Addr) (c : Nat) (l : List Int) (w : World) (hL : IntsAt w A l) (hn : l.length ≤ 1000000000) (KN cK : Nat) (AK : Option Addr) (BB : Nat) (hBB : Lies w BB 24 #[.slice AK KN cK]) :
    Calls Tryz.prog 78 #[.slice A l.length c, .func (.func 57) #[] #[.pointer (some ⟨BB, 0, none⟩)]] w fun e w' => (∃ z, e = .returned (.int .i64 z) ∧ Fst (l.any (noneP KN)) z) ∧ w' = w := by
  have HL := Lib.hid hL
  have KF := Lib.hid (fun (z : Int) => none_any KN cK AK BB z w hBB)
  obtain ⟨n, hnn⟩ : ∃ n, n = l.length := ⟨_, rfl⟩
  have HN := Lib.hid hnn
  rw [← hnn] at hn ⊢
  clear hL hnn hBB
  go_enter Tryz.func78, Tryz.ntmps78
  go_wp2
  go_loopw [5, 8] (fun _ v8 wr => ∃ i : Nat, i ≤ n ∧ v8 = .int .i64 (i : Int) ∧ wr = w ∧ Hid (∀ j (hj : j < l.length), j < i → noneP KN l[j] = false)) (fun _ v8 _ => n - (intOf v8).toNat)
  case atStart => exact ⟨0, Nat.zero_le _, rfl, rfl, fun j _ hj => absurd hj (Nat.not_lt_zero _)⟩
  case round =>
    obtain ⟨i, hi, rfl, rfl, hA⟩ := hrel
    by_cases hlt : i < n
    · have li : (i : Int) < (n : Int) := by omega
      have hiN : i < l.length := by rw [← HN.out]; exact hlt
      obtain ⟨b, o, eA, hbw, cc⟩ := HL.out i hiN
      subst eA
      obtain ⟨z, hz⟩ : ∃ z, z = l[i] := ⟨_, rfl⟩
      rw [← hz] at cc
      have HZ := Lib.hid hz
      have K1 := Lib.hid (KF.out z)
      clear hz
      unfold iV at cc
      cases hp : noneP KN z with
      | true =>
        rw [hp] at K1
        go_wp2_with (go_at_call 57; (with_reducible refine K1.out.mono ?_); rintro e w1 ⟨rfl, rfl⟩)
        go_ret
        exact ⟨⟨_, rfl, .inr ⟨any_at _ _ i hiN (by rw [← HZ.out]; exact hp), i, rfl⟩⟩, rfl⟩
      | false =>
        rw [hp] at K1
        go_wp2_with (go_at_call 57; (with_reducible refine K1.out.mono ?_); rintro e w1 ⟨rfl, rfl⟩)
        go_roundw
        case rel =>
          refine ⟨i + 1, by omega, by go_num, (by first | rfl | trivial), fun j hj hji => ?_⟩
          rcases Nat.lt_or_ge j i with h | h
          · exact hA j hj h
          · obtain rfl : j = i := by omega
            rw [← HZ.out]; exact hp
        case measure => first | (simp [intOf]; done) | (simp [intOf]; omega)
    · obtain rfl : i = n := by omega
      have li : ¬ (i : Int) < (i : Int) := by omega
      go_wp2
      go_ret
      exact ⟨⟨_, rfl, .inl ⟨any_not _ _ (fun j hj => hA j hj (by rw [HN.out]; exact hj)), rfl⟩⟩, rfl⟩
set_option maxRecDepth 100000 in
theorem conI_any (A : Option Addr) (c : Nat) (N : List Int) (w : World) (hL : IntsAt w A N) (hn : N.length ≤ 1000000000) (KN cK : Nat) (AK : Option Addr) (BB : Nat) (hBB : Lies w BB 24 #[.slice AK KN cK]) :
    Calls Tryz.prog 59 #[.slice A N.length c, .func (.func 57) #[] #[.pointer (some ⟨BB, 0, none⟩)]] w fun e w' => e = .returned (.bool (N.any (noneP KN))) ∧ w' = w := by
  have K := Lib.hid (idxI_any A c N w hL hn KN cK AK BB hBB)
  obtain ⟨b, hb⟩ : ∃ b, b = N.any (noneP KN) := ⟨_, rfl⟩
  rw [← hb] at K ⊢
  clear hL hb
  generalize N.length = n at *
  go_enter Tryz.func59, Tryz.ntmps59
  go_upto_region 1 with (fail)
  have K1 := K.out
  rcases Bool.eq_false_or_eq_true b with hb | hb
  · subst hb
    go_wp2_with (go_at_call 78; (with_reducible refine K1.mono ?_); rintro e w1 ⟨⟨z, rfl, hz⟩, rfl⟩; obtain ⟨k, rfl⟩ := fst_true hz; have k0 : (0 : Int) ≤ (k : Int) := by omega)
    go_ret
    exact ⟨by simp, rfl⟩
  · subst hb
    go_wp2_with (go_at_call 78; (with_reducible refine K1.mono ?_); rintro e w1 ⟨⟨z, rfl, hz⟩, rfl⟩; obtain rfl := fst_false hz)
    go_ret
    exact ⟨by simp, rfl⟩

/-- a list with a number that is no place -/
def badP (KN : Nat) (l : List Int) : Bool := l.any (noneP KN)
theorem in32_any (A : Option Addr) (n c : Nat) (l : List Int) (hl : n = l.length) (hn : l.length ≤ 1000000000) (w : World) (hi : IntsAt w A l) (KN cK : Nat) (AK : Option Addr) (BB NB : Nat) (hBB : Lies w BB 24 #[.slice AK KN cK]) (hNB : Lies w NB 36 #[.func (.func 57) #[] #[.pointer (some ⟨BB, 0, none⟩)]]) :
    Calls Tryz.prog 58 #[.slice A n c, .pointer (some ⟨NB, 0, none⟩)] w fun e w' => e = .returned (.bool (badP KN l)) ∧ w' = w := by
  have c0 := lies_cell hNB 0
  simp only [List.getElem?_toArray, List.getElem?_cons_zero] at c0
  have K := Lib.hid (conI_any A c l w hi hn KN cK AK BB hBB)
  rw [← hl] at K
  unfold badP
  clear hi hBB hNB hl
  go_enter Tryz.func58, Tryz.ntmps58
  go_wp2_with (go_at_call 59; (with_reducible refine K.out.mono ?_); rintro e w1 ⟨rfl, rfl⟩)
  go_ret
  exact ⟨rfl, rfl⟩

set_option maxRecDepth 100000 in
set_option maxHeartbeats 2000000 in
theorem idx32_any (A : Option Addr) (c : Nat) (N : List (List Int)) (w : World) (hL : LsAt w A N) (hn : N.length ≤ 1000000000) (hs : ∀ l ∈ N, l.length ≤ 1000000000) (KN cK : Nat) (AK : Option Addr) (BB NB : Nat) (hBB : Lies w BB 24 #[.slice AK KN cK]) (hNB : Lies w NB 36 #[.func (.func 57) #[] #[.pointer (some ⟨BB, 0, none⟩)]]) :
    Calls Tryz.prog 61 #[.slice A N.length c, .func (.func 58) #[] #[.pointer (some ⟨NB, 0, none⟩)]] w fun e w' => (∃ z, e = .returned (.int .i64 z) ∧ Fst (N.any (badP KN)) z) ∧ w' = w := by
  have HL := Lib.hid hL
  have KF := Lib.hid (fun (A : Option Addr) (n c : Nat) (l : List Int) (hl : n = l.length) (hi : IntsAt w A l) => fun (hll : l.length ≤ 1000000000) => in32_any A n c l hl hll w hi KN cK AK BB NB hBB hNB)
  obtain ⟨n, hnn⟩ : ∃ n, n = N.length := ⟨_, rfl⟩
  have HN := Lib.hid hnn
  rw [← hnn] at hn ⊢
  have HSS := Lib.hid hs
  clear hL hnn hs hBB hNB
  go_enter Tryz.func61, Tryz.ntmps61
  go_wp2
  go_loopw [5, 8] (fun _ v8 wr => ∃ i : Nat, i ≤ n ∧ v8 = .int .i64 (i : Int) ∧ wr = w ∧ Hid (∀ j (hj : j < N.length), j < i → (badP KN) N[j] = false)) (fun _ v8 _ => n - (intOf v8).toNat)
  case atStart => exact ⟨0, Nat.zero_le _, rfl, rfl, fun j _ hj => absurd hj (Nat.not_lt_zero _)⟩
  case round =>
    obtain ⟨i, hi, rfl, rfl, hA⟩ := hrel
    by_cases hlt : i < n
    · have li : (i : Int) < (n : Int) := by omega
      have hiN : i < N.length := by rw [← HN.out]; exact hlt
      obtain ⟨b, o, A', c', eA, hbw, cc, hcl, hI⟩ := HL.out i hiN
      subst eA
      obtain ⟨l, hl⟩ : ∃ l, l = N[i] := ⟨_, rfl⟩
      rw [← hl] at cc hcl hI
      have HLI := Lib.hid hl
      obtain ⟨m, hm⟩ : ∃ m, m = l.length := ⟨_, rfl⟩
      have K1 := Lib.hid (KF.out A' m c' l hm hI (by rw [hl]; exact HSS.out _ (List.getElem_mem hiN)))
      rw [← hm] at cc hcl
      clear hl hI hm
      cases hp : (badP KN) l with
      | true =>
        rw [hp] at K1
        go_wp2_with (go_at_call 58; (with_reducible refine K1.out.mono ?_); rintro e w1 ⟨rfl, rfl⟩)
        go_ret
        exact ⟨⟨_, rfl, .inr ⟨any_at _ _ i hiN (by rw [← HLI.out]; exact hp), i, rfl⟩⟩, rfl⟩
      | false =>
        rw [hp] at K1
        go_wp2_with (go_at_call 58; (with_reducible refine K1.out.mono ?_); rintro e w1 ⟨rfl, rfl⟩)
        go_roundw
        case rel =>
          refine ⟨i + 1, by omega, by go_num, (by first | rfl | trivial), fun j hj hji => ?_⟩
          rcases Nat.lt_or_ge j i with h | h
          · exact hA j hj h
          · obtain rfl : j = i := by omega
            rw [← HLI.out]; exact hp
        case measure => first | (simp [intOf]; done) | (simp [intOf]; omega)
    · obtain rfl : i = n := by omega
      have li : ¬ (i : Int) < (i : Int) := by omega
      go_wp2
      go_ret
      exact ⟨⟨_, rfl, .inl ⟨any_not _ _ (fun j hj => hA j hj (by rw [HN.out]; exact hj)), rfl⟩⟩, rfl⟩
set_option maxRecDepth 100000 in
theorem con32_any (A : Option Addr) (c : Nat) (N : List (List Int)) (w : World) (hL : LsAt w A N) (hn : N.length ≤ 1000000000) (hs : ∀ l ∈ N, l.length ≤ 1000000000) (KN cK : Nat) (AK : Option Addr) (BB NB : Nat) (hBB : Lies w BB 24 #[.slice AK KN cK]) (hNB : Lies w NB 36 #[.func (.func 57) #[] #[.pointer (some ⟨BB, 0, none⟩)]]) :
    Calls Tryz.prog 56 #[.slice A N.length c, .func (.func 58) #[] #[.pointer (some ⟨NB, 0, none⟩)]] w fun e w' => e = .returned (.bool (N.any (badP KN))) ∧ w' = w := by
  have K := Lib.hid (idx32_any A c N w hL hn hs KN cK AK BB NB hBB hNB)
  obtain ⟨b, hb⟩ : ∃ b, b = N.any (badP KN) := ⟨_, rfl⟩
  rw [← hb] at K ⊢
  clear hL hb
  generalize N.length = n at *
  go_enter Tryz.func56, Tryz.ntmps56
  go_upto_region 1 with (fail)
  have K1 := K.out
  rcases Bool.eq_false_or_eq_true b with hb | hb
  · subst hb
    go_wp2_with (go_at_call 61; (with_reducible refine K1.mono ?_); rintro e w1 ⟨⟨z, rfl, hz⟩, rfl⟩; obtain ⟨k, rfl⟩ := fst_true hz; have k0 : (0 : Int) ≤ (k : Int) := by omega)
    go_ret
    exact ⟨by simp, rfl⟩
  · subst hb
    go_wp2_with (go_at_call 61; (with_reducible refine K1.mono ?_); rintro e w1 ⟨⟨z, rfl, hz⟩, rfl⟩; obtain rfl := fst_false hz)
    go_ret
    exact ⟨by simp, rfl⟩

end Go.Proofs.YtnbjfmkckebfgaaGreat
