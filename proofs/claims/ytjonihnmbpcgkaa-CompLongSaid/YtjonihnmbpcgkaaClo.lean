/-
What is proved here: law CompLong, by a contract.
-/
import Derived.Test.YtjonihnmbpcgkaaLon
set_option linter.unusedSimpArgs false
set_option linter.unusedVariables false
namespace Go.Proofs.Ytjonihnmbpcgkaa
open Go.Cmp Go.RowKit
theorem chk_many {G : Gr} (h : 1024 < G.length) : chk (zg G) = 2 := by
  unfold chk
  rw [if_pos (.inl (by simpa using h))]
theorem zeros_ls (W : World) (N : Nat) : LsAt ((W.alloc (.cells (Array.replicate N (.int .i64 0)) 3)).alloc (.cells #[.slice (some ⟨W.heap.size, 0, none⟩) N N] 33)) (some ⟨W.heap.size + 1, 0, none⟩) (zg [List.replicate N 0]) := fun i hi => by
  have : i = 0 := by simpa using hi
  subst this
  have L2 := lies_new (W.alloc (.cells (Array.replicate N (.int .i64 0)) 3)) 33 #[.slice (some ⟨W.heap.size, 0, none⟩) N N]
  rw [World.size_alloc] at L2
  have L1 := lies_alloc (lies_new W 3 (Array.replicate N (.int .i64 0))) (.cells #[.slice (some ⟨W.heap.size, 0, none⟩) N N] 33)
  refine ⟨W.heap.size + 1, 0, some ⟨W.heap.size, 0, none⟩, N, rfl, lies_lt L2, ?_, ?_, fun j hj => ⟨W.heap.size, 0, rfl, lies_lt L1, ?_⟩⟩
  · rw [lies_cell L2]; simp [zg, zs]
  · simp [zg, zs]
  · have hjN : j < N := by simpa [zg, zs] using hj
    rw [lies_cell L1, Nat.zero_add, Array.getElem?_replicate, if_pos hjN]
    simp [zg, zs, iV]
theorem zeros_any (N : Nat) (hN : N ≤ 1000000) (W : World) : Calls Try.prog 12 #[.slice (some ⟨W.heap.size + 1, 0, none⟩) 1 1] ((W.alloc (.cells (Array.replicate N (.int .i64 0)) 3)).alloc (.cells #[.slice (some ⟨W.heap.size, 0, none⟩) N N] 33)) fun e w' => ∃ A m C, e = .returned (.tuple #[.slice A m C, .int .i64 (if 1024 < N then 2 else 0)]) ∧ Below W.heap.size W w' := by
  have hb : Below W.heap.size W ((W.alloc (.cells (Array.replicate N (.int .i64 0)) 3)).alloc (.cells #[.slice (some ⟨W.heap.size, 0, none⟩) N N] 33)) := (below_alloc _ _).alloc (by simp) _
  by_cases h : 1024 < N
  · have hc : chk (zg [List.replicate N 0]) = 2 := by
      unfold chk
      rw [if_pos (.inr (by simp [zg, zs, longP, h]))]
    have := round_bad (some ⟨W.heap.size + 1, 0, none⟩) 1 (zg [List.replicate N 0]) _ (zeros_ls W N) (by simp) (fun l hl => by
      have : l = zs (List.replicate N 0) := by simpa [zg] using hl
      rw [this]; simp [zs]; omega) (by rw [hc]; decide)
    rw [hc] at this
    refine (show Calls Try.prog 12 #[.slice (some ⟨W.heap.size + 1, 0, none⟩) 1 1] _ _ from this).mono ?_
    rintro e w' ⟨rfl, h2⟩
    rw [if_pos h]
    exact ⟨none, 0, 0, rfl, hb.trans (h2.mono hb.size)⟩
  · have := round_any (some ⟨W.heap.size + 1, 0, none⟩) 1 [List.replicate N 0] (fun l hl v hv => by
      obtain rfl := List.mem_singleton.1 hl
      obtain ⟨_, rfl⟩ := List.mem_replicate.1 hv
      simp) (by simp) (by simp) (fun l hl => by
      obtain rfl := List.mem_singleton.1 hl
      simp; omega) _ (zeros_ls W N)
    refine (show Calls Try.prog 12 #[.slice (some ⟨W.heap.size + 1, 0, none⟩) 1 1] _ _ from this).mono ?_
    rintro e w' ⟨A, C, es, rfl, _, _, h2⟩
    rw [if_neg h]
    exact ⟨_, _, _, rfl, hb.trans (h2.mono hb.size)⟩
theorem cell_keep {w w' : World} {p : Addr} {v : Value} (hb : Below w.heap.size w w') (hc : w.cell? p = some v) : w'.cell? p = some v := (hb.cell (block_lt_of_cell hc)).trans hc
theorem ok_chain (N : Nat) : Ok (chain N) := fun l hl v hv => by
  obtain ⟨i, hi, rfl⟩ := List.mem_map.1 hl
  have hlen : (chain N).length = N := by simp [chain]
  rw [hlen]
  split at hv
  · rw [List.mem_singleton.1 hv]; assumption
  · cases hv
theorem ok_ring (N : Nat) : Ok (ring N) := fun l hl v hv => by
  obtain ⟨i, hi, rfl⟩ := List.mem_map.1 hl
  have hlen : (ring N).length = N := by simp [ring]
  rw [hlen]
  have := List.mem_range.1 hi
  split at hv
  · rw [List.mem_singleton.1 hv]; assumption
  · rw [List.mem_singleton.1 hv]; omega
theorem len_chain (N : Nat) : (chain N).length = N ∧ ∀ l ∈ chain N, l.length ≤ 1 := ⟨by simp [chain], fun l hl => by
  obtain ⟨i, hi, rfl⟩ := List.mem_map.1 hl
  split <;> simp⟩
theorem len_ring (N : Nat) : (ring N).length = N ∧ ∀ l ∈ ring N, l.length ≤ 1 := ⟨by simp [ring], fun l hl => by
  obtain ⟨i, hi, rfl⟩ := List.mem_map.1 hl
  split <;> simp⟩

set_option maxRecDepth 100000 in
set_option maxHeartbeats 4000000 in
theorem clong_false (n : Int) (w : World) : Calls Try.prog 5 #[.int .i64 n, .bool false] w fun e w' => e = .returned (.bool true) ∧ Below w.heap.size w w' := by
  by_cases h1 : n < 2
  · go_enter Try.func5, Try.ntmps5
    go_wp2_with (go_at_call 8; (with_reducible refine (alive_any _).mono ?_); rintro e w1 ⟨rfl, hb⟩; have B1 := Lib.hid hb; clear hb)
    go_ret
    exact ⟨rfl, B1.out⟩
  · by_cases h2 : 1030 < n
    · go_enter Try.func5, Try.ntmps5
      go_wp2_with (go_at_call 8; (with_reducible refine (alive_any _).mono ?_); rintro e w1 ⟨rfl, hb⟩; have B1 := Lib.hid hb; clear hb)
      go_ret
      exact ⟨rfl, B1.out⟩
    · obtain ⟨N, rfl⟩ : ∃ N : Nat, n = (N : Int) := ⟨n.toNat, by omega⟩
      have hN1 : 1 < N := by omega
      have hN2 : N ≤ 1030 := by omega
      have mk1 := fun W => mk_lists W N (by omega)
      have mk3 := fun W => mk_ints W N (by omega)
      go_enter Try.func5, Try.ntmps5
      go_upto_region 4 with (go_at_call 8; (with_reducible refine (alive_any _).mono ?_); rintro e w1 ⟨rfl, hb⟩; have B1 := Lib.hid hb; clear hb)
      go_upto_region 6 with (fail)
      have M0 := Lib.hid (lm_0 w1 N)
      generalize w1.alloc (.cells (Array.replicate N (.slice none 0 0)) 33) = X at *
      go_loopw [7] (fun v7 wr => ∃ (i : Nat) (vs : List Value), i + 1 ≤ N ∧ v7 = .int .i64 (i : Int) ∧ LM w1 (pre N i) vs wr) (fun v7 _ => N - (intOf v7).toNat)
      case atStart => exact ⟨0, _, by omega, rfl, M0.out⟩
      case round =>
        obtain ⟨i, vs, hi, rfl, hM⟩ := hrel
        have HM := Lib.hid hM
        clear hM
        by_cases hlt : i + 1 < N
        · have li : (i : Int) + 1 < (N : Int) := by omega
          have M1 := lm_set HM.out (i := i) (z := i + 1) (by rw [pre_len]; omega)
          rw [pre_step hlt, show ((i + 1 : Nat) : Int) = (i : Int) + 1 by omega] at M1
          have M1 := Lib.hid M1
          have L1 := lies_alloc HM.out.row (.cells #[.int .i64 ((i : Int) + 1)] 3)
          have hil : i < vs.length := by rw [HM.out.sep.len]; simp [pre_len]; omega
          have c1 := (lies_cell L1 i).trans (by rw [List.getElem?_toArray, List.getElem?_eq_getElem hil])
          have f1 := lies_free L1 i
          clear L1
          go_wp2
          go_roundw
          case rel => exact ⟨i + 1, _, by omega, by go_num, M1.out⟩
          case measure => first | (simp [intOf]; done) | (simp [intOf]; omega)
        · have li : ¬ (i : Int) + 1 < (N : Int) := by omega
          have HC := HM.out
          rw [pre_end (by omega)] at HC
          have HC := Lib.hid HC
          clear HM
          go_upto_region 11 with (fail)
          generalize wr = Y at *
          have HG := HC
          clear mk1
          have LN := len_chain N
          have OK := Lib.hid (ok_chain N)
          have LL := Lib.hid (len_chain N).2
          have HLS := Lib.hid (lm_ls HG.out)
          have HBL := Lib.hid (B1.out.trans (HG.out.low.mono B1.out.size))
          generalize hGG : chain N = G at *
          have ln := LN.1
          clear LN HG
          by_cases hbig : 1024 < N
          · have lb : (1024 : Int) < (N : Int) := by omega
            have hc : chk (zg G) = 2 := chk_many (by omega)
            have kk : ∀ l ∈ zg G, l.length ≤ 1000000000 := fun l hl => by
              obtain ⟨l', hl', rfl⟩ := List.mem_map.1 hl
              have := LL.out l' hl'
              simp [zs]; omega
            have zl : (zg G).length = N := by simp [ln]
            have K1 := Lib.hid (fun (W : World) (hb : Below Y.heap.size Y W) => (comps_bad (some ⟨w1.heap.size, 0, none⟩) N (zg G) W (lsAt_below HLS.out hb) (by omega) kk (by rw [hc]; decide)))
            have K2 := Lib.hid (fun (W : World) (hb : Below Y.heap.size Y W) => (round_bad (some ⟨w1.heap.size, 0, none⟩) N (zg G) W (lsAt_below HLS.out hb) (by omega) kk (by rw [hc]; decide)))
            rw [hc, zl] at K1 K2
            have K3 := Lib.hid (fun W => zeros_any N (by omega) W)
            rw [if_pos hbig] at K3
            have B0 := Lib.hid (Below.refl Y.heap.size Y)
            clear hc kk zl
            go_wp2_with (first
              | (go_at_call 11; (with_reducible refine (K1.out _ B0.out).mono ?_); rintro e w2 ⟨rfl, hb⟩; have B2 := Lib.hid (B0.out.trans hb); clear hb)
              | (go_at_call 12; (with_reducible refine (K2.out _ B2.out).mono ?_); rintro e w3 ⟨rfl, hb⟩; have B3 := Lib.hid (B2.out.trans (hb.mono B2.out.size)); clear hb)
              | (go_at_call 12; (with_reducible refine (K3.out _).mono ?_); rintro e w4 ⟨A4, m4, C4, rfl, hb⟩; have B4 := Lib.hid (B3.out.trans (hb.mono B3.out.size)); clear hb)
              | (go_at_call 16; (with_reducible refine (num_any _ _).mono ?_); rintro e w5 ⟨rfl, rfl⟩))
            go_ret
            exact ⟨rfl, HBL.out.trans (B4.out.mono HBL.out.size)⟩
          · have lb : ¬ (1024 : Int) < (N : Int) := by omega
            subst hGG
            have K1 := Lib.hid (fun (W : World) (hb : Below Y.heap.size Y W) => comps_any (some ⟨w1.heap.size, 0, none⟩) N (chain N) OK.out (by omega) (fun l hl => by have := LL.out l hl; omega) W (lsAt_below HLS.out hb))
            have K2 := Lib.hid (fun (W : World) (hb : Below Y.heap.size Y W) => round_any (some ⟨w1.heap.size, 0, none⟩) N (chain N) OK.out (by omega) (by omega) (fun l hl => by have := LL.out l hl; omega) W (lsAt_below HLS.out hb))
            rw [ln] at K1 K2
            have K3 := Lib.hid (fun W => zeros_any N (by omega) W)
            rw [if_neg hbig] at K3
            have B0 := Lib.hid (Below.refl Y.heap.size Y)
            have sub2 : (N : Int) - 1 = ((N - 1 : Nat) : Int) := by omega
            go_wp2_with (first
              | (go_at_call 11; (with_reducible refine (K1.out _ B0.out).mono ?_); intro e w2 h; obtain ⟨g, C, b, o, C0, b2, o2, C2, rfl, c1, c2, c3, c4, hb⟩ := chain_out hN1 h; have B2 := Lib.hid (B0.out.trans hb); rw [← sub2] at c2; clear hb h)
              | (go_at_call 12; (with_reducible refine (K2.out _ B2.out).mono ?_); intro e w3 h; obtain ⟨A3, C3, rfl, hb⟩ := chain_rnd h; replace c1 := cell_keep hb c1; replace c2 := cell_keep hb c2; replace c3 := cell_keep hb c3; replace c4 := cell_keep hb c4; have B3 := Lib.hid (B2.out.trans (hb.mono B2.out.size)); clear hb h)
              | (go_at_call 12; (with_reducible refine (K3.out _).mono ?_); rintro e w4 ⟨A4, m4, C4, rfl, hb⟩; replace c1 := cell_keep hb c1; replace c2 := cell_keep hb c2; replace c3 := cell_keep hb c3; replace c4 := cell_keep hb c4; have B4 := Lib.hid (B3.out.trans (hb.mono B3.out.size)); clear hb)
              | (go_at_call 16; (with_reducible refine (num_any _ _).mono ?_); rintro e w5 ⟨rfl, rfl⟩))
            go_ret
            exact ⟨by simp, HBL.out.trans (B4.out.mono HBL.out.size)⟩


set_option maxRecDepth 100000 in
set_option maxHeartbeats 4000000 in
theorem clong_true (n : Int) (w : World) : Calls Try.prog 5 #[.int .i64 n, .bool true] w fun e w' => e = .returned (.bool true) ∧ Below w.heap.size w w' := by
  by_cases h1 : n < 2
  · go_enter Try.func5, Try.ntmps5
    go_wp2_with (go_at_call 8; (with_reducible refine (alive_any _).mono ?_); rintro e w1 ⟨rfl, hb⟩; have B1 := Lib.hid hb; clear hb)
    go_ret
    exact ⟨rfl, B1.out⟩
  · by_cases h2 : 1030 < n
    · go_enter Try.func5, Try.ntmps5
      go_wp2_with (go_at_call 8; (with_reducible refine (alive_any _).mono ?_); rintro e w1 ⟨rfl, hb⟩; have B1 := Lib.hid hb; clear hb)
      go_ret
      exact ⟨rfl, B1.out⟩
    · obtain ⟨N, rfl⟩ : ∃ N : Nat, n = (N : Int) := ⟨n.toNat, by omega⟩
      have hN1 : 1 < N := by omega
      have hN2 : N ≤ 1030 := by omega
      have mk1 := fun W => mk_lists W N (by omega)
      have mk3 := fun W => mk_ints W N (by omega)
      go_enter Try.func5, Try.ntmps5
      go_upto_region 4 with (go_at_call 8; (with_reducible refine (alive_any _).mono ?_); rintro e w1 ⟨rfl, hb⟩; have B1 := Lib.hid hb; clear hb)
      go_upto_region 6 with (fail)
      have M0 := Lib.hid (lm_0 w1 N)
      generalize w1.alloc (.cells (Array.replicate N (.slice none 0 0)) 33) = X at *
      go_loopw [7] (fun v7 wr => ∃ (i : Nat) (vs : List Value), i + 1 ≤ N ∧ v7 = .int .i64 (i : Int) ∧ LM w1 (pre N i) vs wr) (fun v7 _ => N - (intOf v7).toNat)
      case atStart => exact ⟨0, _, by omega, rfl, M0.out⟩
      case round =>
        obtain ⟨i, vs, hi, rfl, hM⟩ := hrel
        have HM := Lib.hid hM
        clear hM
        by_cases hlt : i + 1 < N
        · have li : (i : Int) + 1 < (N : Int) := by omega
          have M1 := lm_set HM.out (i := i) (z := i + 1) (by rw [pre_len]; omega)
          rw [pre_step hlt, show ((i + 1 : Nat) : Int) = (i : Int) + 1 by omega] at M1
          have M1 := Lib.hid M1
          have L1 := lies_alloc HM.out.row (.cells #[.int .i64 ((i : Int) + 1)] 3)
          have hil : i < vs.length := by rw [HM.out.sep.len]; simp [pre_len]; omega
          have c1 := (lies_cell L1 i).trans (by rw [List.getElem?_toArray, List.getElem?_eq_getElem hil])
          have f1 := lies_free L1 i
          clear L1
          go_wp2
          go_roundw
          case rel => exact ⟨i + 1, _, by omega, by go_num, M1.out⟩
          case measure => first | (simp [intOf]; done) | (simp [intOf]; omega)
        · have li : ¬ (i : Int) + 1 < (N : Int) := by omega
          have HC := HM.out
          rw [pre_end (by omega)] at HC
          have HC := Lib.hid HC
          clear HM
          have M1 := lm_set HC.out (i := N - 1) (z := 0) (by rw [(len_chain N).1]; omega)
          rw [ring_set (by omega)] at M1
          have M1 := Lib.hid M1
          have hil : N - 1 < vs.length := by rw [HC.out.sep.len]; simp [(len_chain N).1]; omega
          have L1 := lies_alloc HC.out.row (.cells #[.int .i64 0] 3)
          have c1 := (lies_cell L1 (N - 1)).trans (by rw [List.getElem?_toArray, List.getElem?_eq_getElem hil])
          have f1 := lies_free L1 (N - 1)
          have sub : (N : Int) - 1 = ((N - 1 : Nat) : Int) := by omega
          clear L1
          go_upto_region 11 with (fail)
          generalize World.setCell _ _ _ = Y at *
          have HG := M1
          clear c1 f1 mk1
          have LN := len_ring N
          have OK := Lib.hid (ok_ring N)
          have LL := Lib.hid (len_ring N).2
          have HLS := Lib.hid (lm_ls HG.out)
          have HBL := Lib.hid (B1.out.trans (HG.out.low.mono B1.out.size))
          generalize hGG : ring N = G at *
          have ln := LN.1
          clear LN HG
          by_cases hbig : 1024 < N
          · have lb : (1024 : Int) < (N : Int) := by omega
            have hc : chk (zg G) = 2 := chk_many (by omega)
            have kk : ∀ l ∈ zg G, l.length ≤ 1000000000 := fun l hl => by
              obtain ⟨l', hl', rfl⟩ := List.mem_map.1 hl
              have := LL.out l' hl'
              simp [zs]; omega
            have zl : (zg G).length = N := by simp [ln]
            have K1 := Lib.hid (fun (W : World) (hb : Below Y.heap.size Y W) => (comps_bad (some ⟨w1.heap.size, 0, none⟩) N (zg G) W (lsAt_below HLS.out hb) (by omega) kk (by rw [hc]; decide)))
            have K2 := Lib.hid (fun (W : World) (hb : Below Y.heap.size Y W) => (round_bad (some ⟨w1.heap.size, 0, none⟩) N (zg G) W (lsAt_below HLS.out hb) (by omega) kk (by rw [hc]; decide)))
            rw [hc, zl] at K1 K2
            have K3 := Lib.hid (fun W => zeros_any N (by omega) W)
            rw [if_pos hbig] at K3
            have B0 := Lib.hid (Below.refl Y.heap.size Y)
            clear hc kk zl
            go_wp2_with (first
              | (go_at_call 11; (with_reducible refine (K1.out _ B0.out).mono ?_); rintro e w2 ⟨rfl, hb⟩; have B2 := Lib.hid (B0.out.trans hb); clear hb)
              | (go_at_call 12; (with_reducible refine (K2.out _ B2.out).mono ?_); rintro e w3 ⟨rfl, hb⟩; have B3 := Lib.hid (B2.out.trans (hb.mono B2.out.size)); clear hb)
              | (go_at_call 12; (with_reducible refine (K3.out _).mono ?_); rintro e w4 ⟨A4, m4, C4, rfl, hb⟩; have B4 := Lib.hid (B3.out.trans (hb.mono B3.out.size)); clear hb)
              | (go_at_call 16; (with_reducible refine (num_any _ _).mono ?_); rintro e w5 ⟨rfl, rfl⟩))
            go_ret
            exact ⟨rfl, HBL.out.trans (B4.out.mono HBL.out.size)⟩
          · have lb : ¬ (1024 : Int) < (N : Int) := by omega
            subst hGG
            have K1 := Lib.hid (fun (W : World) (hb : Below Y.heap.size Y W) => comps_any (some ⟨w1.heap.size, 0, none⟩) N (ring N) OK.out (by omega) (fun l hl => by have := LL.out l hl; omega) W (lsAt_below HLS.out hb))
            have K2 := Lib.hid (fun (W : World) (hb : Below Y.heap.size Y W) => round_any (some ⟨w1.heap.size, 0, none⟩) N (ring N) OK.out (by omega) (by omega) (fun l hl => by have := LL.out l hl; omega) W (lsAt_below HLS.out hb))
            rw [ln] at K1 K2
            have K3 := Lib.hid (fun W => zeros_any N (by omega) W)
            rw [if_neg hbig] at K3
            have B0 := Lib.hid (Below.refl Y.heap.size Y)
            have sub2 : (N : Int) - 1 = ((N - 1 : Nat) : Int) := by omega
            go_wp2_with (first
              | (go_at_call 11; (with_reducible refine (K1.out _ B0.out).mono ?_); intro e w2 h; obtain ⟨g, C, b, o, C0, rfl, c1, hb⟩ := ring_out hN1 h; have B2 := Lib.hid (B0.out.trans hb); clear hb h)
              | (go_at_call 12; (with_reducible refine (K2.out _ B2.out).mono ?_); intro e w3 h; obtain ⟨g3, C3, b3, o3, C03, rfl, c3, hb⟩ := ring_rnd hN1 h; replace c1 := cell_keep hb c1; have B3 := Lib.hid (B2.out.trans (hb.mono B2.out.size)); clear hb h)
              | (go_at_call 12; (with_reducible refine (K3.out _).mono ?_); rintro e w4 ⟨A4, m4, C4, rfl, hb⟩; replace c1 := cell_keep hb c1; replace c3 := cell_keep hb c3; have B4 := Lib.hid (B3.out.trans (hb.mono B3.out.size)); clear hb)
              | (go_at_call 16; (with_reducible refine (num_any _ _).mono ?_); rintro e w5 ⟨rfl, rfl⟩))
            go_ret
            exact ⟨by simp, HBL.out.trans (B4.out.mono HBL.out.size)⟩

theorem clong_any (n : Int) (b : Bool) (w : World) : Calls Try.prog 5 #[.int .i64 n, .bool b] w fun e w' => e = .returned (.bool true) ∧ Below w.heap.size w w' := by
  cases b
  · exact clong_false n w
  · exact clong_true n w
end Go.Proofs.Ytjonihnmbpcgkaa
