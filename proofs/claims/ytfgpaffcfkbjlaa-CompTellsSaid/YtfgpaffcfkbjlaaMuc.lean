/-
What is proved here: whether needs are too much to be played, by a contract.
-/
import Derived.Test.YtfgpaffcfkbjlaaChk
set_option linter.unusedSimpArgs false
set_option linter.unusedVariables false
namespace Go.Proofs.Ytfgpaffcfkbjlaa
open Go.Cmp Go.RowKit
/-- what the first i lists weigh -/
def cst (N : List (List Int)) (i : Nat) : Nat := ((N.take i).map fun l => l.length + 1).sum
def muchP (N : List (List Int)) : Bool := decide (3000 < cst N N.length) || decide (80 < N.length)
theorem cst_succ {N : List (List Int)} {i : Nat} (h : i < N.length) : cst N (i + 1) = cst N i + 1 + N[i].length := by
  unfold cst
  rw [List.take_succ_eq_append_getElem h, List.map_append, List.sum_append]
  simp
  omega
theorem cst_mono (N : List (List Int)) : ∀ {i j : Nat}, i ≤ j → j ≤ N.length → cst N i ≤ cst N j := by
  intro i j h
  induction h with
  | refl => intro _; exact Nat.le_refl _
  | step h ih =>
    intro hj
    have := ih (by omega)
    rw [cst_succ (by omega)]
    omega
set_option maxRecDepth 100000 in
set_option maxHeartbeats 2000000 in
theorem much_any (A : Option Addr) (c : Nat) (N : List (List Int)) (w : World) (hL : LsAt w A N) (hn : N.length ≤ 1000000000000000) (hs : ∀ l ∈ N, l.length ≤ 1000000000000000) :
    Calls Try.prog 8 #[.slice A N.length c] w fun e w' => e = .returned (.bool (muchP N)) ∧ w' = w := by
  have HL := Lib.hid hL
  have HS := Lib.hid hs
  obtain ⟨n, hnn⟩ : ∃ n, n = N.length := ⟨_, rfl⟩
  have HN := Lib.hid hnn
  obtain ⟨mp, hmp⟩ : ∃ mp, mp = muchP N := ⟨_, rfl⟩
  have HMP := Lib.hid hmp
  rw [← hmp]
  rw [← hnn] at hn ⊢
  clear hL hs hnn hmp
  go_enter Try.func8, Try.ntmps8
  go_wp2
  go_loopw [3, 4] (fun v3 v4 wr => ∃ i : Nat, i ≤ n ∧ v4 = .int .i64 (i : Int) ∧ v3 = .int .i64 (cst N i : Int) ∧ cst N i ≤ 2000000000000000 ∧ wr = w) (fun _ v4 _ => n - (intOf v4).toNat)
  case atStart => exact ⟨0, Nat.zero_le _, rfl, rfl, by simp [cst], rfl⟩
  case round =>
    obtain ⟨i, hi, rfl, rfl, hc, rfl⟩ := hrel
    by_cases hlt : i < n
    · have li : (i : Int) < (n : Int) := by omega
      have hiN : i < N.length := by rw [← HN.out]; exact hlt
      by_cases h3 : cst N i ≤ 3000
      · obtain ⟨b, o, A', c', eA, hbw, cc, hcl, hI⟩ := HL.out i hiN
        subst eA
        have hl := HS.out _ (List.getElem_mem hiN)
        have hcs := Lib.hid (cst_succ hiN)
        obtain ⟨m, hm⟩ : ∃ m, m = N[i].length := ⟨_, rfl⟩
        rw [← hm] at cc hl hcs
        obtain ⟨x, hx⟩ : ∃ x, x = cst N i := ⟨_, rfl⟩
        have HX := Lib.hid hx
        rw [← hx] at h3 hcs hc ⊢
        have l3 : (x : Int) ≤ 3000 := by omega
        clear hm hI hcl hx
        go_wp2
        go_roundw
        case rel => exact ⟨i + 1, by omega, by go_num, by rw [hcs.out]; go_num, by rw [hcs.out]; omega, (by first | rfl | trivial)⟩
        case measure => first | (simp [intOf]; done) | (simp [intOf]; omega)
      · have hmt : mp = true := by
          rw [HMP.out]
          have := cst_mono N (i := i) (j := N.length) (by omega) (Nat.le_refl _)
          have h : 3000 < cst N N.length := by omega
          simp [muchP, h]
        obtain ⟨x, hx⟩ : ∃ x, x = cst N i := ⟨_, rfl⟩
        rw [← hx] at h3 hc ⊢
        have l3 : ¬ (x : Int) ≤ 3000 := by omega
        have l4 : (3000 : Int) < (x : Int) := by omega
        subst hmt
        clear hx
        go_wp2
        go_ret
        exact ⟨rfl, rfl⟩
    · obtain rfl : i = n := by omega
      have li : ¬ (i : Int) < (i : Int) := by omega
      have hmt : mp = (decide (3000 < cst N i) || decide (80 < i)) := by rw [HMP.out]; unfold muchP; rw [← HN.out]
      obtain ⟨x, hx⟩ : ∃ x, x = cst N i := ⟨_, rfl⟩
      rw [← hx] at hmt hc ⊢
      have HT := Lib.hid hmt
      clear hx hmt
      by_cases h4 : 3000 < x
      · have l4 : (3000 : Int) < (x : Int) := by omega
        have e : mp = true := by rw [HT.out]; simp [h4]
        subst e
        go_wp2
        go_ret
        exact ⟨rfl, rfl⟩
      · have l4 : ¬ (3000 : Int) < (x : Int) := by omega
        by_cases h5 : 80 < i
        · have l5 : (80 : Int) < (i : Int) := by omega
          have e : mp = true := by rw [HT.out]; simp [h5]
          subst e
          go_wp2
          go_ret
          exact ⟨rfl, rfl⟩
        · have l5 : ¬ (80 : Int) < (i : Int) := by omega
          have e : mp = false := by rw [HT.out]; simp [h4, h5]
          subst e
          go_wp2
          go_ret
          exact ⟨rfl, rfl⟩
end Go.Proofs.Ytfgpaffcfkbjlaa
