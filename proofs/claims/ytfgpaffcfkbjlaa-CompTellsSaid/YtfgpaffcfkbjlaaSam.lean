/-
What is proved here: that two lists of lists that are equal are found so, by a contract.
-/
import Derived.Test.YtfgpaffcfkbjlaaChk
import Derived.Test.YtfgpaffcfkbjlaaMuc
import Derived.BigQuiet
import Derived.Deep.QuietTactic
set_option linter.unusedSimpArgs false
set_option linter.unusedVariables false
namespace Go.Proofs.Ytfgpaffcfkbjlaa
open Go.Cmp Go.RowKit
set_option maxRecDepth 100000 in
set_option maxHeartbeats 2000000 in
theorem same_any (A A' : Option Addr) (c c' : Nat) (N : List (List Int)) (w : World) (hL : LsAt w A N) (hL' : LsAt w A' N) (hn : N.length ≤ 1000000000000000) (hs : ∀ l ∈ N, l.length ≤ 1000000000000000) :
    Calls Try.prog 16 #[.slice A N.length c, .slice A' N.length c'] w fun e w' => e = .returned (.bool true) ∧ ∃ q, w' = w.drewN q := by
  have HL := Lib.hid hL
  have HL' := Lib.hid hL'
  have HS := Lib.hid hs
  obtain ⟨n, hnn⟩ : ∃ n, n = N.length := ⟨_, rfl⟩
  have HN := Lib.hid hnn
  rw [← hnn] at hn ⊢
  clear hL hL' hs hnn
  go_enter Try.func16, Try.ntmps16
  go_upto_region 4 with (fail)
  go_loopw [5] (fun v5 wr => ∃ i q : Nat, i ≤ n ∧ v5 = .int .i64 (i : Int) ∧ wr = w.drewN q) (fun v5 _ => n - (intOf v5).toNat)
  case atStart => exact ⟨0, 0, Nat.zero_le _, rfl, rfl⟩
  case round =>
    obtain ⟨i, q, hi, rfl, rfl⟩ := hrel
    by_cases hlt : i < n
    · have li : (i : Int) < (n : Int) := by omega
      have hiN : i < N.length := by rw [← HN.out]; exact hlt
      obtain ⟨b, o, A1, c1, eA, hbw, cc, hcl, hI⟩ := HL.out i hiN
      obtain ⟨b', o', A2, c2, eA', hbw', cc', hcl', hI'⟩ := HL'.out i hiN
      have hl := HS.out _ (List.getElem_mem hiN)
      obtain ⟨l, hll⟩ : ∃ l, l = N[i] := ⟨_, rfl⟩
      rw [← hll] at cc cc' hcl hcl' hI hI' hl
      obtain ⟨m, hm⟩ : ∃ m, m = l.length := ⟨_, rfl⟩
      have HI := Lib.hid hI
      have HI' := Lib.hid hI'
      have HM := Lib.hid hm
      rw [← hm] at cc cc' hl
      subst eA
      subst eA'
      clear hm hI hI' hcl hcl' hll
      go_upto_region 6 with (fail)
      go_quiet (fail)
      go_upto_region 9 with (fail)
      go_loopw [6] (fun v6 wr => ∃ j q : Nat, j ≤ m ∧ v6 = .int .i64 (j : Int) ∧ wr = w.drewN q) (fun v6 _ => m - (intOf v6).toNat)
      case atStart => exact ⟨0, q + nq, Nat.zero_le _, rfl, World.drewN_drewN _ _ _⟩
      case round =>
        obtain ⟨j, q2, hj, rfl, rfl⟩ := hrel
        by_cases hjl : j < m
        · have lj : (j : Int) < (m : Int) := by omega
          have hjg : j < l.length := by rw [← HM.out]; exact hjl
          obtain ⟨b3, o3, e3, _, c3⟩ := HI.out j hjg
          obtain ⟨b4, o4, e4, _, c4⟩ := HI'.out j hjg
          unfold iV at c3 c4
          generalize l[j] = z at *
          subst e3
          subst e4
          go_upto_region 11 with (fail)
          go_quiet (fail)
          go_wp2
          go_roundw
          case rel => exact ⟨j + 1, _, by omega, by go_num, rfl⟩
          case measure => first | (simp [intOf]; done) | (simp [intOf]; omega)
        · obtain rfl : j = m := by omega
          have lj : ¬ (j : Int) < (j : Int) := by omega
          go_wp2
          go_roundw
          case rel => exact ⟨i + 1, _, by omega, by go_num, rfl⟩
          case measure => first | (simp [intOf]; done) | (simp [intOf]; omega)
    · obtain rfl : i = n := by omega
      have li : ¬ (i : Int) < (i : Int) := by omega
      go_wp2
      go_ret
      exact ⟨rfl, q, rfl⟩
end Go.Proofs.Ytfgpaffcfkbjlaa
