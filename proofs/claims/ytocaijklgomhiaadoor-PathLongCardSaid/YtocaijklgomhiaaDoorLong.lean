/-
What is proved here: the law PathLong's walk.
-/
import Derived.Test.YtocaijklgomhiaaDoorAlv
set_option linter.unusedSimpArgs false
namespace Go.Proofs.YtocaijklgomhiaaDoor
open Go.Pth Go.RowKit Go.Word

/-- so many letters a; so many names of them and a further one -/
def rep (n : Nat) : Bt := List.replicate n 97
def row (n : Nat) : Nat → Bt
  | 0 => rep n
  | k + 1 => row n k ++ 47 :: rep n
theorem rep_len (n : Nat) : (rep n).length = n := by simp [rep]
theorem rep_next (n : Nat) : rep n ++ [97] = rep (n + 1) := by simp [rep, List.replicate_succ']
theorem rep_slash (n : Nat) : ∀ c ∈ rep n, c ≠ 47 := fun c hc => by
  have := List.eq_of_mem_replicate hc
  subst this; decide
theorem row_len (n k : Nat) : (row n k).length = n + k * (n + 1) := by
  induction k with
  | zero => simp [row, rep_len]
  | succ k ih => simp only [row, List.length_append, List.length_cons, ih, rep_len, Nat.succ_mul]; omega
theorem row_parts (n k : Nat) : parts (row n k) = List.replicate (k + 1) (rep n) := by
  induction k with
  | zero => simp [row, parts_none _ (rep_slash n)]
  | succ k ih => rw [row, parts_app, ih, parts_none _ (rep_slash n), List.replicate_succ' (n := k + 1)]
theorem rep_name (n : Nat) : isName (rep n) = decide (1 ≤ n ∧ n ≤ 14) := by
  have ha : (rep n).all okb = true := by
    rw [List.all_eq_true]
    intro c hc
    have := List.eq_of_mem_replicate hc
    subst this; decide
  cases n with
  | zero => decide
  | succ n =>
    have hs : stands (rep (n + 1)) = true := by
      unfold stands rep
      rw [List.replicate_succ]
      simp
    unfold isName
    rw [hs, ha, rep_len]
    simp
theorem row_path (n k : Nat) : isPath (row n k) = decide (1 ≤ n ∧ n ≤ 14 ∧ k + 1 ≤ 6) := by
  unfold isPath
  rw [row_parts, List.length_replicate]
  have : (List.replicate (k + 1) (rep n)).all isName = isName (rep n) := by
    induction k with
    | zero => simp
    | succ k ih => rw [List.replicate_succ, List.all_cons, ih, Bool.and_self]
  rw [this, rep_name]
  by_cases h1 : 1 ≤ n ∧ n ≤ 14 <;> by_cases h2 : k + 1 ≤ 6 <;> simp [h1, h2] <;> omega

theorem add_st (x y : Bt) (b : ByteArray) (hb : b = ⟨y.toArray⟩) (hx : x.length ≤ 100000) (hy : y.length ≤ 100000) (w : World) : (binOp .add 9 (St x) (.string b)).run Tryd.prog w = .ok (St (x ++ y)) w := by
  subst hb
  have h := run_string_add_lists (P := Tryd.prog) (w := w) x y (by omega) (by omega)
  unfold St
  rw [binOp_string_add]
  exact h
theorem add_ss (x y : Bt) (hx : x.length ≤ 100000) (hy : y.length ≤ 100000) (w : World) : (binOp .add 9 (St x) (St y)).run Tryd.prog w = .ok (St (x ++ y)) w := add_st x y _ rfl hx hy w
theorem nil_st : Value.string { data := #[] } = St [] := rfl

set_option maxHeartbeats 2000000 in
theorem long_any (b n : Int) (w : World) : Calls Tryd.prog 8 #[.int .i64 b, .int .i64 n] w fun e w' => e = .returned (.bool true) ∧ Below w.heap.size w w' := by
  by_cases h1 : b < 0
  · go_enter Tryd.func8, Tryd.ntmps8
    go_wp2_with (go_at_call 10; (with_reducible refine (alive_any _).mono ?_); rintro e w1 ⟨rfl, hb⟩; have H1 := Lib.hid hb; clear hb)
    go_ret
    exact ⟨rfl, H1.out⟩
  by_cases h2 : 40 < b
  · go_enter Tryd.func8, Tryd.ntmps8
    go_wp2_with (go_at_call 10; (with_reducible refine (alive_any _).mono ?_); rintro e w1 ⟨rfl, hb⟩; have H1 := Lib.hid hb; clear hb)
    go_ret
    exact ⟨rfl, H1.out⟩
  by_cases h3 : n < 1
  · go_enter Tryd.func8, Tryd.ntmps8
    go_wp2_with (go_at_call 10; (with_reducible refine (alive_any _).mono ?_); rintro e w1 ⟨rfl, hb⟩; have H1 := Lib.hid hb; clear hb)
    go_ret
    exact ⟨rfl, H1.out⟩
  by_cases h4 : 12 < n
  · go_enter Tryd.func8, Tryd.ntmps8
    go_wp2_with (go_at_call 10; (with_reducible refine (alive_any _).mono ?_); rintro e w1 ⟨rfl, hb⟩; have H1 := Lib.hid hb; clear hb)
    go_ret
    exact ⟨rfl, H1.out⟩
  obtain ⟨B, rfl⟩ : ∃ B : Nat, b = B := ⟨b.toNat, by omega⟩
  obtain ⟨N, rfl⟩ : ∃ N : Nat, n = N := ⟨n.toNat, by omega⟩
  have hB : B ≤ 40 := by omega
  have hN : N ≤ 12 := by omega
  have hN1 : 1 ≤ N := by omega
  go_enter Tryd.func8, Tryd.ntmps8
  go_wp2_with (go_at_call 10; (with_reducible refine (alive_any _).mono ?_); rintro e w1 ⟨rfl, hb⟩; have H1 := Lib.hid hb; clear hb)
  go_loopw [6, 7] (fun x y wr => ∃ i : Nat, i ≤ B ∧ x = St (rep i) ∧ y = .int .i64 i ∧ w1 = wr) (fun _ y _ => B - (intOf y).toNat)
  case atStart => exact ⟨0, by omega, rfl, rfl, by trivial⟩
  case round =>
    obtain ⟨i, hi, rfl, rfl, rfl⟩ := hrel
    by_cases hlt : i < B
    · have li : (i : Int) < B := by omega
      have A : ∀ w, (binOp .add 9 (St (rep i)) (.string { data := #[97] })).run Tryd.prog w = .ok (St (rep (i + 1))) w := fun w => by
        rw [add_st (rep i) [97] _ rfl (by rw [rep_len]; omega) (by simp), rep_next]
      go_wp2
      go_roundw
      case rel => exact ⟨i + 1, by omega, rfl, by go_num, by trivial⟩
      case measure => simp [intOf]; omega
    · have li : ¬ (i : Int) < B := by omega
      obtain rfl : i = B := by omega
      go_wp2
      go_loopw [8, 9] (fun x y wr => ∃ k : Nat, k + 1 ≤ N ∧ x = St (row i k) ∧ y = .int .i64 ((k + 1 : Nat) : Int) ∧ w1 = wr) (fun _ y _ => N - (intOf y).toNat)
      case atStart => exact ⟨0, by omega, rfl, rfl, by trivial⟩
      case round =>
        obtain ⟨k, hk, rfl, rfl, rfl⟩ := hrel
        have hrl : (row i k).length ≤ 1000 := by
          rw [row_len]
          have : k * (i + 1) ≤ 12 * 41 := Nat.mul_le_mul (by omega) (by omega)
          omega
        by_cases hlt2 : k + 1 < N
        · have li2 : ((k + 1 : Nat) : Int) < N := by omega
          have A1 : ∀ w, (binOp .add 9 (St (row i k)) (.string { data := #[47] })).run Tryd.prog w = .ok (St (row i k ++ [47])) w := fun w => add_st (row i k) [47] _ rfl (by omega) (by simp) w
          have A2 : ∀ w, (binOp .add 9 (St (row i k ++ [47])) (St (rep i))).run Tryd.prog w = .ok (St (row i (k + 1))) w := fun w => by
            rw [add_ss _ _ (by simp; omega) (by rw [rep_len]; omega), row]
            simp
          generalize hkk : k + 1 = kk at *
          go_wp2
          go_roundw
          case rel => exact ⟨kk, by omega, rfl, by go_num, by trivial⟩
          case measure => simp [intOf]; omega
        · have li2 : ¬ ((k + 1 : Nat) : Int) < N := by omega
          have hNk : k + 1 = N := by omega
          have V := Lib.hid (valid_any (row i k) w1 (by omega))
          rw [row_path, hNk] at V
          rw [hNk] at li2 ⊢
          clear hrl hk hlt2 hNk
          generalize row i k = R at *
          by_cases b1 : 1 ≤ i
          · have b1' : 1 ≤ (i : Int) := by omega
            by_cases b2 : i ≤ 14
            · have b2' : (i : Int) ≤ 14 := by omega
              by_cases b3 : N ≤ 6
              · have b3' : (N : Int) ≤ 6 := by omega
                rw [decide_eq_true ⟨b1, b2, b3⟩] at V
                go_wp2_with (go_at_call 13; (with_reducible refine V.out.mono ?_); rintro e w2 ⟨rfl, hb⟩; have H2 := Lib.hid hb; clear hb)
                go_ret
                exact ⟨by first | rfl | (congr 1; show Value.bool _ = Value.bool true; congr 1; simp; omega), H1.out.trans (H2.out.mono H1.out.size)⟩
              · have b3' : ¬ (N : Int) ≤ 6 := by omega
                rw [decide_eq_false (fun h => b3 h.2.2)] at V
                go_wp2_with (go_at_call 13; (with_reducible refine V.out.mono ?_); rintro e w2 ⟨rfl, hb⟩; have H2 := Lib.hid hb; clear hb)
                go_ret
                exact ⟨by first | rfl | (congr 1; show Value.bool _ = Value.bool true; congr 1; simp; omega), H1.out.trans (H2.out.mono H1.out.size)⟩
            · have b2' : ¬ (i : Int) ≤ 14 := by omega
              rw [decide_eq_false (fun h => b2 h.2.1)] at V
              go_wp2_with (go_at_call 13; (with_reducible refine V.out.mono ?_); rintro e w2 ⟨rfl, hb⟩; have H2 := Lib.hid hb; clear hb)
              go_ret
              exact ⟨by first | rfl | (congr 1; show Value.bool _ = Value.bool true; congr 1; simp; omega), H1.out.trans (H2.out.mono H1.out.size)⟩
          · have b1' : ¬ 1 ≤ (i : Int) := by omega
            rw [decide_eq_false (fun h => b1 h.1)] at V
            go_wp2_with (go_at_call 13; (with_reducible refine V.out.mono ?_); rintro e w2 ⟨rfl, hb⟩; have H2 := Lib.hid hb; clear hb)
            go_ret
            exact ⟨by first | rfl | (congr 1; show Value.bool _ = Value.bool true; congr 1; simp; omega), H1.out.trans (H2.out.mono H1.out.size)⟩
end Go.Proofs.YtocaijklgomhiaaDoor
