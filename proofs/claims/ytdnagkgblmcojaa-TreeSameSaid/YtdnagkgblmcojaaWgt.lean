/-
What is proved here: how many parts so many things fill; the toll of one inode; complex sums of whole numbers.
-/
import Derived.Test.YtdnagkgblmcojaaFil
import Derived.Test.YtdnagkgblmcojaaFl
import Derived.Laws.ComplexArith
set_option linter.unusedSimpArgs false
namespace Go.Proofs.Ytdnagkgblmcojaa
open Go.Pth Go.Tre Go.RowKit Go.Word Go.Fl

theorem parts_any (t s : Nat) (ht : t ≤ 1000000) (hs1 : 1 ≤ s) (hs2 : s ≤ 1000) (w : World) : Calls Try.prog 64 #[.int .i64 (t : Int), .int .i64 (s : Int)] w fun e w' => e = .returned (.int .i64 (((t + s - 1) / s : Nat) : Int)) ∧ w = w' := by
  have h0 : (s : Int) ≠ 0 := by omega
  have e : ((t : Int) + s - 1) / (s : Int) = (((t + s - 1) / s : Nat) : Int) := by
    rw [Int.natCast_ediv]
    congr 1
    omega
  have E := Lib.hid e
  clear e
  go_enter Try.func64, Try.ntmps64
  go_wp2
  go_ret
  exact ⟨congrArg (fun z => Ending.returned (.int .i64 z)) E.out, rfl⟩
theorem inode_any (b : Int) (w : World) : Calls Try.prog 63 #[.int .i64 b] w fun e w' => e = .returned (.complex .f64 (fl b) 4607182418800017408) ∧ w = w' := by
  go_enter Try.func63, Try.ntmps63
  go_wp2
  go_ret
  exact ⟨rfl, rfl⟩
theorem rep_one : Rep 4607182418800017408 1 := ⟨false, 52, by decide +kernel, by decide⟩
theorem rep_zero : Rep 0 0 := ⟨false, 1074, by decide +kernel, by decide⟩
theorem cadd {x y a b : Nat} {X Y A B : Int} (hx : Rep x X) (hy : Rep y Y) (ha : Rep a A) (hb : Rep b B) (h1 : (X + A).natAbs < 2 ^ 53) (h2 : (Y + B).natAbs < 2 ^ 53) :
    ∃ x' y', Rep x' (X + A) ∧ Rep y' (Y + B) ∧ ∀ t w, (binOp .add t (.complex .f64 x y) (.complex .f64 a b)).run Try.prog w = .ok (.complex .f64 x' y') w := by
  obtain ⟨x', e1, r1⟩ := add_rep hx ha h1
  obtain ⟨y', e2, r2⟩ := add_rep hy hb h2
  exact ⟨x', y', r1, r2, fun t w => run_complex_sum w .add (Or.inl rfl) t .f64 x y a b _ _ (by simp [cSumBits, e1, e2])⟩
theorem dirw_any (k : Nat) (hk : k ≤ 1000) (w : World) : Calls Try.prog 48 #[.int .i64 (k : Int)] w fun e w' => e = .returned (.complex .f64 (fl (max (((k + 16 - 1) / 16 : Nat) : Int) 1)) 4607182418800017408) ∧ w = w' := by
  have P : Calls Try.prog 64 #[.int .i64 (k : Int), .int .i64 16] w (fun e w' => e = .returned (.int .i64 (((k + 16 - 1) / 16 : Nat) : Int)) ∧ w = w') := parts_any k 16 (by omega) (by omega) (by omega) w
  obtain ⟨q, hq⟩ : ∃ q : Nat, q = (k + 16 - 1) / 16 := ⟨_, rfl⟩
  rw [← hq] at P ⊢
  have P := Lib.hid P
  clear hq
  go_enter Try.func48, Try.ntmps48
  go_wp2_with (first
    | (go_at_call 64; (with_reducible refine P.out.mono ?_); rintro e w1 ⟨rfl, h⟩; have h := h.symm; subst h)
    | (go_at_call 63; (with_reducible refine (inode_any _ _).mono ?_); rintro e w1 ⟨rfl, h⟩; have h := h.symm; subst h))
  go_ret
  exact ⟨rfl, rfl⟩
set_option maxRecDepth 100000 in
theorem filew_any (n : Nat) (hn : n ≤ 100000) (w : World) : Calls Try.prog 49 #[.int .i64 (n : Int)] w fun e w' => e = .returned (.complex .f64 (fl (if 8 < (n + 512 - 1) / 512 then (((n + 512 - 1) / 512 : Nat) : Int) + 1 else (((n + 512 - 1) / 512 : Nat) : Int))) 4607182418800017408) ∧ w = w' := by
  have P : Calls Try.prog 64 #[.int .i64 (n : Int), .int .i64 512] w (fun e w' => e = .returned (.int .i64 (((n + 512 - 1) / 512 : Nat) : Int)) ∧ w = w') := parts_any n 512 (by omega) (by omega) (by omega) w
  obtain ⟨q, hq⟩ : ∃ q : Nat, q = (n + 512 - 1) / 512 := ⟨_, rfl⟩
  have hb : q ≤ 1000 := by omega
  rw [← hq] at P ⊢
  have P := Lib.hid P
  clear hq
  by_cases h8 : 8 < q
  · rw [if_pos h8]
    have l8 : (8 : Int) < (q : Int) := by omega
    have hw1 : IntKind.i64.wrap ((q : Int) + 1) = (q : Int) + 1 := by simp [IntKind.wrap, IntKind.bits, IntKind.signed]; omega
    go_enter Try.func49, Try.ntmps49
    go_wp2_with (first
      | (go_at_call 64; (with_reducible refine P.out.mono ?_); rintro e w1 ⟨rfl, h⟩; have h := h.symm; subst h)
      | (go_at_call 63; (with_reducible refine (inode_any _ _).mono ?_); rintro e w1 ⟨rfl, h⟩; have h := h.symm; subst h))
    go_ret
    exact ⟨rfl, rfl⟩
  · rw [if_neg h8]
    have l8 : ¬ (8 : Int) < (q : Int) := by omega
    go_enter Try.func49, Try.ntmps49
    go_wp2_with (first
      | (go_at_call 64; (with_reducible refine P.out.mono ?_); rintro e w1 ⟨rfl, h⟩; have h := h.symm; subst h)
      | (go_at_call 63; (with_reducible refine (inode_any _ _).mono ?_); rintro e w1 ⟨rfl, h⟩; have h := h.symm; subst h))
    go_ret
    exact ⟨rfl, rfl⟩
end Go.Proofs.Ytdnagkgblmcojaa
