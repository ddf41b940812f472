/-
What is proved here: the document's own errors, by a contract.
-/
import Derived.Test.YtfgpaffcfkbjlaaCks
set_option linter.unusedSimpArgs false
set_option linter.unusedVariables false
namespace Go.Proofs.Ytfgpaffcfkbjlaa
open Go.Cmp Go.RowKit
theorem chk_2 {N : List (List Int)} (h : 1024 < N.length ∨ ∃ i, ∃ h : i < N.length, 1024 < N[i].length) : chk N = 2 := by
  unfold chk
  refine if_pos (h.imp id ?_)
  rintro ⟨i, hi, hl⟩
  exact List.any_eq_true.2 ⟨_, List.getElem_mem hi, decide_eq_true hl⟩
theorem chk_no {N : List (List Int)} (h1 : N.length ≤ 1024) (h2 : ∀ i (h : i < N.length), N[i].length ≤ 1024) : ¬ (1024 < N.length ∨ N.any longP = true) := by
  rintro (h | h)
  · omega
  · obtain ⟨l, hl, hp⟩ := List.any_eq_true.1 h
    obtain ⟨i, hi, rfl⟩ := List.getElem_of_mem hl
    have := of_decide_eq_true hp
    have := h2 i hi
    omega
theorem chk_1 {N : List (List Int)} (h1 : N.length ≤ 1024) (h2 : ∀ i (h : i < N.length), N[i].length ≤ 1024) {i k : Nat} (hi : i < N.length) (hk : k < N[i].length) (hb : N[i][k] < 0 ∨ (N.length : Int) ≤ N[i][k]) : chk N = 1 := by
  unfold chk
  rw [if_neg (chk_no h1 h2)]
  refine if_pos (List.any_eq_true.2 ⟨_, List.getElem_mem hi, List.any_eq_true.2 ⟨_, List.getElem_mem hk, ?_⟩⟩)
  unfold noneP
  rcases hb with h | h <;> simp [h]
theorem chk_0 {N : List (List Int)} (h1 : N.length ≤ 1024) (h2 : ∀ i (h : i < N.length), N[i].length ≤ 1024) (h3 : ∀ i (hi : i < N.length) k (hk : k < N[i].length), ¬ N[i][k] < 0 ∧ ¬ (N.length : Int) ≤ N[i][k]) : chk N = 0 := by
  unfold chk
  rw [if_neg (chk_no h1 h2)]
  refine if_neg (fun h => ?_)
  obtain ⟨l, hl, hp⟩ := List.any_eq_true.1 h
  obtain ⟨i, hi, rfl⟩ := List.getElem_of_mem hl
  obtain ⟨z, hz, hq⟩ := List.any_eq_true.1 hp
  obtain ⟨k, hk, rfl⟩ := List.getElem_of_mem hz
  have := h3 i hi k hk
  unfold noneP at hq
  rw [Bool.or_eq_true] at hq
  rcases hq with h | h
  · exact this.1 (of_decide_eq_true h)
  · exact this.2 (of_decide_eq_true h)
set_option maxRecDepth 100000 in
set_option maxHeartbeats 4000000 in
theorem refused_any (A : Option Addr) (c : Nat) (N : List (List Int)) (w : World) (hL : LsAt w A N) (hn : N.length ≤ 1000000000) (hs : ∀ l ∈ N, l.length ≤ 1000000000) :
    Calls Try.prog 14 #[.slice A N.length c] w fun e w' => e = .returned (.int .i64 (chk N)) ∧ w' = w := by
  have HL := Lib.hid hL
  have HS := Lib.hid hs
  have K2 := Lib.hid (@chk_2 N)
  have K1 := Lib.hid (@chk_1 N)
  have K0 := Lib.hid (@chk_0 N)
  obtain ⟨z, hz⟩ : ∃ z, z = chk N := ⟨_, rfl⟩
  rw [← hz] at K2 K1 K0
  rw [← hz]
  obtain ⟨n, hnn⟩ : ∃ n, n = N.length := ⟨_, rfl⟩
  have HN := Lib.hid hnn
  rw [← hnn] at hn ⊢
  clear hL hs hnn hz
  by_cases h1 : 1024 < n
  · have l1 : (1024 : Int) < (n : Int) := by omega
    obtain rfl := K2.out (.inl (by rw [← HN.out]; exact h1))
    go_enter Try.func14, Try.ntmps14
    go_wp2
    go_ret
    exact ⟨rfl, rfl⟩
  · have l1 : ¬ (1024 : Int) < (n : Int) := by omega
    go_enter Try.func14, Try.ntmps14
    go_upto_region 4 with (fail)
    go_loopw [3] (fun v3 wr => ∃ i : Nat, i ≤ n ∧ v3 = .int .i64 (i : Int) ∧ wr = w ∧ Hid (∀ j (h : j < N.length), j < i → N[j].length ≤ 1024)) (fun v3 _ => n - (intOf v3).toNat)
    case atStart => exact ⟨0, Nat.zero_le _, rfl, (by first | rfl | trivial), fun j h hj => absurd hj (Nat.not_lt_zero j)⟩
    case round =>
      obtain ⟨i, hi, rfl, rfl, hno⟩ := hrel
      have HNO := Lib.hid hno
      clear hno
      by_cases hlt : i < n
      · have li : (i : Int) < (n : Int) := by omega
        have hiN : i < N.length := by rw [← HN.out]; exact hlt
        obtain ⟨b, o, A', c', eA, hbl, cc, _, _⟩ := HL.out i hiN
        have hmb := HS.out _ (List.getElem_mem hiN)
        obtain ⟨m, hm⟩ : ∃ m, m = N[i].length := ⟨_, rfl⟩
        rw [← hm] at cc hmb
        have HM := Lib.hid hm
        subst eA
        clear hbl hm
        by_cases h5 : 1024 < m
        · have l5 : (1024 : Int) < (m : Int) := by omega
          obtain rfl := K2.out (.inr ⟨i, hiN, by rw [← HM.out]; exact h5⟩)
          go_wp2
          go_ret
          exact ⟨rfl, rfl⟩
        · have l5 : ¬ (1024 : Int) < (m : Int) := by omega
          have H5 := Lib.hid h5
          clear h5
          go_wp2
          go_roundw
          case rel =>
            refine ⟨i + 1, by omega, by go_num, (by first | rfl | trivial), fun j h hj => ?_⟩
            by_cases e : j = i
            · subst e
              have := H5.out
              rw [HM.out] at this
              omega
            · exact HNO.out.out j h (by omega)
          case measure => first | (simp [intOf]; done) | (simp [intOf]; omega)
      · obtain rfl : i = n := by omega
        have li : ¬ (i : Int) < (i : Int) := by omega
        have HA := Lib.hid (show ∀ j (h : j < N.length), N[j].length ≤ 1024 from fun j h => HNO.out.out j h (by rw [HN.out]; exact h))
        clear HNO
        go_upto_region 9 with (fail)
        go_loopw [4] (fun v4 wq => ∃ j : Nat, j ≤ i ∧ v4 = .int .i64 (j : Int) ∧ wq = wr ∧ Hid (∀ a (ha : a < N.length), a < j → ∀ k (hk : k < N[a].length), ¬ N[a][k] < 0 ∧ ¬ (i : Int) ≤ N[a][k])) (fun v4 _ => i - (intOf v4).toNat)
        case atStart => exact ⟨0, Nat.zero_le _, rfl, (by first | rfl | trivial), fun a h ha => absurd ha (Nat.not_lt_zero a)⟩
        case round =>
          obtain ⟨j, hj, rfl, rfl, hno⟩ := hrel
          have HNO := Lib.hid hno
          clear hno
          by_cases hjl : j < i
          · have lj : (j : Int) < (i : Int) := by omega
            have hjN : j < N.length := by rw [← HN.out]; exact hjl
            obtain ⟨b, o, A', c', eA, hbl, cc, _, hI⟩ := HL.out j hjN
            have hmb := HA.out j hjN
            obtain ⟨m, hm⟩ : ∃ m, m = N[j].length := ⟨_, rfl⟩
            rw [← hm] at cc hmb
            have HM := Lib.hid hm
            have HI := Lib.hid hI
            subst eA
            clear hbl hm hI
            go_upto_region 12 with (fail)
            go_loopw [5] (fun v5 wq => ∃ k : Nat, k ≤ m ∧ v5 = .int .i64 (k : Int) ∧ wq = wr ∧ Hid (∀ q (hq : q < N[j].length), q < k → ¬ N[j][q] < 0 ∧ ¬ (i : Int) ≤ N[j][q])) (fun v5 _ => m - (intOf v5).toNat)
            case atStart => exact ⟨0, Nat.zero_le _, rfl, (by first | rfl | trivial), fun q h hq => absurd hq (Nat.not_lt_zero q)⟩
            case round =>
              obtain ⟨k, hk, rfl, rfl, hny⟩ := hrel
              have HNY := Lib.hid hny
              clear hny
              by_cases hkm : k < m
              · have lk : (k : Int) < (m : Int) := by omega
                have hkN : k < N[j].length := by rw [← HM.out]; exact hkm
                obtain ⟨b', o', eA', hbl', cc'⟩ := HI.out k hkN
                obtain ⟨y, hy⟩ : ∃ y, y = N[j][k] := ⟨_, rfl⟩
                rw [← hy] at cc'
                unfold iV at cc'
                have HY := Lib.hid hy
                subst eA'
                clear hy hbl'
                by_cases y0 : y < 0
                · obtain rfl := K1.out (by have := HN.out; omega) HA.out hjN hkN (.inl (by rw [← HY.out]; exact y0))
                  go_wp2
                  go_ret
                  exact ⟨rfl, rfl⟩
                · by_cases y1 : (i : Int) ≤ y
                  · obtain rfl := K1.out (by have := HN.out; omega) HA.out hjN hkN (.inr (by rw [← HY.out]; have := HN.out; omega))
                    go_wp2
                    go_ret
                    exact ⟨rfl, rfl⟩
                  · have Y0 := Lib.hid y0
                    have Y1 := Lib.hid y1
                    go_wp2
                    go_roundw
                    case rel =>
                      refine ⟨k + 1, by omega, by go_num, (by first | rfl | trivial), fun q h hq => ?_⟩
                      by_cases e : q = k
                      · subst e
                        rw [← HY.out]
                        exact ⟨Y0.out, Y1.out⟩
                      · exact HNY.out.out q h (by omega)
                    case measure => first | (simp [intOf]; done) | (simp [intOf]; omega)
              · obtain rfl : k = m := by omega
                have lk : ¬ (k : Int) < (k : Int) := by omega
                go_wp2
                go_roundw
                case rel =>
                  refine ⟨j + 1, by omega, by go_num, (by first | rfl | trivial), fun a h ha => ?_⟩
                  by_cases e : a = j
                  · subst e
                    exact fun q hq => HNY.out.out q hq (by rw [HM.out]; exact hq)
                  · intro q hq
                    have h9 := HNO.out.out a h (by omega) q hq
                    exact ⟨by omega, by omega⟩
                case measure => first | (simp [intOf]; done) | (simp [intOf]; omega)
          · obtain rfl : j = i := by omega
            have lj : ¬ (j : Int) < (j : Int) := by omega
            obtain rfl := K0.out (by have := HN.out; omega) HA.out (fun a ha k hk => by have h9 := HNO.out.out a ha (by rw [HN.out]; exact ha) k hk; have := HN.out; exact ⟨by omega, by omega⟩)
            go_wp2
            go_ret
            exact ⟨rfl, rfl⟩
end Go.Proofs.Ytfgpaffcfkbjlaa
