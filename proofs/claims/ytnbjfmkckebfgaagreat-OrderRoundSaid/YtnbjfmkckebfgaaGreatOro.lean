/-
What is proved here: the law of what goes round, by a contract.
-/
import Derived.Test.YtnbjfmkckebfgaaGreatOpa
import Derived.Test.YtnbjfmkckebfgaaGreatLei
set_option linter.unusedSimpArgs false
set_option linter.unusedVariables false
namespace Go.Proofs.YtnbjfmkckebfgaaGreat
open Go.Cmp Go.RowKit
def nxtR (n k : Nat) : Nat := if k + 1 < n then k + 1 else 0
theorem nxtR_mod (n k : Nat) (h : k < n) : ((k : Int) + 1) % (n : Int) = (nxtR n k : Int) := by
  unfold nxtR
  by_cases e : k + 1 < n
  · rw [if_pos e, Int.emod_eq_of_lt (by omega) (by omega)]; rfl
  · have : k + 1 = n := by omega
    rw [if_neg e, show (k : Int) + 1 = (n : Int) by omega, Int.emod_self]; rfl
/-- the needs as far as they are laid -/
def parR (n i : Nat) : Gr := (List.range n).map fun k => if k < i then [nxtR n k] else []
theorem parR_0 (n : Nat) : parR n 0 = none n := by
  unfold parR Cmp.none
  apply List.ext_getElem?
  intro j
  rw [List.getElem?_map, List.getElem?_replicate]
  by_cases h : j < n
  · rw [List.getElem?_range h, if_pos h, Option.map_some, if_neg (by omega)]
  · rw [List.getElem?_eq_none (by simp; omega), if_neg h]; rfl
theorem parR_end (n : Nat) : parR n n = ring n := by
  unfold parR ring
  refine List.map_congr_left fun k hk => ?_
  have := List.mem_range.1 hk
  rw [if_pos this]
  unfold nxtR
  split <;> rfl
theorem parR_set (n i : Nat) (h : i < n) : (parR n i).set i [nxtR n i] = parR n (i + 1) := by
  unfold parR
  apply List.ext_getElem?
  intro j
  rw [List.getElem?_set, List.getElem?_map, List.getElem?_map]
  by_cases hj : j < n
  · rw [List.getElem?_range hj, Option.map_some, Option.map_some]
    by_cases e : i = j
    · subst e
      rw [if_pos rfl, if_pos (by simp; omega), if_pos (by omega)]
    · rw [if_neg e]
      by_cases e2 : j < i
      · rw [if_pos e2, if_pos (by omega)]
      · rw [if_neg e2, if_neg (by omega)]
  · rw [if_neg (by omega), List.getElem?_eq_none (by simp; omega)]
    rfl
theorem ring_len' (n : Nat) : (ring n).length = n := by simp [ring]
theorem ok_ring (n : Nat) : Ok (ring n) := fun l hl x hx => by
  rw [ring_len']
  obtain ⟨i, hi, rfl⟩ := List.mem_map.1 hl
  have := List.mem_range.1 hi
  split at hx
  · rw [List.mem_singleton.1 hx]; omega
  · rw [List.mem_singleton.1 hx]; omega
/-- the needs without the last list are refused -/
theorem chk_short (n : Nat) (h : 2 ≤ n) (hn : n ≤ 50) : chk ((zg (ring n)).take (n - 1)) = 1 := by
  have hl : ((zg (ring n)).take (n - 1)).length = n - 1 := by rw [List.length_take]; simp [zg, ring]
  have hlong : ((zg (ring n)).take (n - 1)).any longP = false := by
    rw [List.any_eq_false]
    intro l hm
    have hm2 := List.mem_of_mem_take hm
    obtain ⟨l2, hl2, rfl⟩ := List.mem_map.1 hm2
    obtain ⟨j, _, rfl⟩ := List.mem_map.1 hl2
    unfold longP
    split <;> simp [zs]
  have hbad : ((zg (ring n)).take (n - 1)).any (badP (n - 1)) = true := by
    rw [List.any_eq_true]
    refine ⟨zs [n - 1], ?_, ?_⟩
    · have : ((zg (ring n)).take (n - 1))[n - 2]? = some (zs [n - 1]) := by
        rw [List.getElem?_take_of_lt (by omega)]
        unfold zg ring
        rw [List.getElem?_map, List.getElem?_map, List.getElem?_range (by omega), Option.map_some, Option.map_some, if_pos (by omega), show n - 2 + 1 = n - 1 by omega]
      exact List.mem_of_getElem? this
    · unfold badP zs
      simp [noneP]
  unfold chk
  rw [hl, hlong, hbad, if_neg (by simp; omega), if_pos rfl]
theorem zg_len' (G : Gr) : (zg G).length = G.length := by simp [zg]
/-- what the second Order is told -/
theorem short_check (X wr : World) (n : Nat) (h1 : 1 ≤ n) (h2 : n ≤ 50) (vs : List Value) (hM : LwM X n vs (ring n) wr) (W : World) (hb : Below wr.heap.size wr W) (ac : Nat) :
    Calls Tryz.prog 8 #[.agg #[.slice Option.none 0 0, .slice Option.none 0 0], .slice (some ⟨X.heap.size, 0, Option.none⟩) n ac, .slice (some ⟨X.heap.size + 1, 0, Option.none⟩) (n - 1) n] W fun e w' => e = .returned (.int .i64 1) ∧ Below W.heap.size W w' := by
  have hls := lsAt_below (lw_ls hM) hb
  have hlt : LsAt W (some ⟨X.heap.size + 1, 0, Option.none⟩) ((zg (ring n)).take (n - 1)) := fun i hi => by
    have hi2 : i < (zg (ring n)).length := by rw [List.length_take] at hi; omega
    have := hls i hi2
    rw [List.getElem_take]
    exact this
  have hl : ((zg (ring n)).take (n - 1)).length = n - 1 := by rw [List.length_take, zg_len', ring_len']; omega
  by_cases e : n = 1
  · subst e
    have := ocheck_any (some ⟨X.heap.size, 0, Option.none⟩) (some ⟨X.heap.size + 1, 0, Option.none⟩) 1 ac 1 (none 0) _ (fun l hl => by cases hl) (by decide) (fun l hl => by cases hl) (none_groups 0) W (fun i hi => by cases hi) (by omega)
    rw [show (none 0).length = 0 from rfl, if_pos (by omega)] at this
    exact this
  · have hc := chk_short n (by omega) h2
    have := ocheck_bad (some ⟨X.heap.size, 0, Option.none⟩) (some ⟨X.heap.size + 1, 0, Option.none⟩) n ac n ((zg (ring n)).take (n - 1)) (by rw [hc]; decide) W hlt (by rw [hl]; omega) (fun l hm => by
      have hm2 := List.mem_of_mem_take hm
      obtain ⟨l2, hl2, rfl⟩ := List.mem_map.1 hm2
      obtain ⟨j, _, rfl⟩ := List.mem_map.1 hl2
      split <;> simp [zs])
    rw [hc, hl] at this
    exact this
set_option maxRecDepth 100000 in
set_option maxHeartbeats 8000000 in
theorem round_law (n : Int) (w : World) : Calls Tryz.prog 3 #[.int .i64 n] w fun e w' => e = .returned (.bool true) ∧ Below w.heap.size w w' := by
  have KA := Lib.hid (oalive_any w)
  by_cases h1 : n < 1
  · go_enter Tryz.func3, Tryz.ntmps3
    go_wp2_with (go_at_call 5; (with_reducible refine KA.out.mono ?_); rintro e w1 ⟨rfl, hb⟩; have H1 := Lib.hid hb; clear hb)
    go_ret
    exact ⟨rfl, H1.out⟩
  by_cases h2 : n > 50
  · go_enter Tryz.func3, Tryz.ntmps3
    go_wp2_with (go_at_call 5; (with_reducible refine KA.out.mono ?_); rintro e w1 ⟨rfl, hb⟩; have H1 := Lib.hid hb; clear hb)
    go_ret
    exact ⟨rfl, H1.out⟩
  obtain ⟨m, rfl⟩ : ∃ m : Nat, n = (m : Int) := ⟨n.toNat, by omega⟩
  have m1 : 1 ≤ m := by omega
  have m2 : m ≤ 50 := by omega
  go_enter Tryz.func3, Tryz.ntmps3
  go_upto_region 4 with (go_at_call 5; (with_reducible refine KA.out.mono ?_); rintro e w1 ⟨rfl, hb⟩; have H1 := Lib.hid hb; clear hb)
  have MA := mk_acts w1 m (by omega)
  have MB := fun W => mk_lists W m (by omega)
  have M0 := Lib.hid (lw_start w1 m (madeCells #[.int .i64 0, .string { data := #[] }, .string { data := #[] }, .int .i64 0, .int .i64 0] (m * 5)) (by simp [madeCells]))
  go_upto_region 6 with (fail)
  clear MA MB
  generalize (w1.alloc (.cells (madeCells #[.int .i64 0, .string { data := #[] }, .string { data := #[] }, .int .i64 0, .int .i64 0] (m * 5)) 26)).alloc (.cells (Array.replicate m (.slice Option.none 0 0)) 27) = W at *
  have P0 := Lib.hid (parR_0 m)
  have N0 := Lib.hid (show NilB (List.replicate m nilV) m 0 from fun k _ hk => by rw [List.getD_eq_getElem?_getD, List.getElem?_replicate, if_pos hk]; rfl)
  have HACT := Lib.hid (fun (wr : World) (vs : List Value) (T : Gr) (h : LwM w1 m vs T wr) (i : Nat) (hi : i < m) => lw_act h hi [.int .i64 5, .string { data := #[97] }, .string { data := #[] }, .int .i64 0, .int .i64 0] rfl)
  go_wp2
  go_loopw [6] (fun v6 wr => ∃ (i : Nat) (vs : List Value), i ≤ m ∧ v6 = .int .i64 (i : Int) ∧ LwM w1 m vs (parR m i) wr ∧ NilB vs m i) (fun v6 _ => m - (intOf v6).toNat)
  case atStart => exact ⟨0, _, Nat.zero_le _, rfl, by rw [P0.out]; exact M0.out, N0.out⟩
  case round =>
    obtain ⟨i, vs, hi, rfl, hM, hN⟩ := hrel
    have M1 := Lib.hid hM
    have N1 := Lib.hid hN
    clear hM hN
    by_cases hlt : i < m
    · have li : (i : Int) < (m : Int) := by omega
      have M2 := Lib.hid (HACT.out wr vs _ M1.out i hlt)
      have HT := Lib.hid (lw_there M1.out hlt)
      go_upto_region 9 with (fail)
      go_upto_region 10 with (refine wpList_store_mid rfl 26 _ _ rfl w1.heap.size (i * 5) #[.int .i64 5, .string { data := #[97] }, .string { data := #[] }, .int .i64 0, .int .i64 0] rfl rfl HT.out (by kernel_rfl) (by simp [Value.oneCell']) ?_)
      clear HT
      generalize wr.setCells w1.heap.size (i * 5) [.int .i64 5, .string { data := #[97] }, .string { data := #[] }, .int .i64 0, .int .i64 0] = W3 at *
      have hmod := nxtR_mod m i hlt
      have hm3 := lw_need M2.out hlt (N1.out i (Nat.le_refl _) hlt) (nxtR m i)
      rw [parR_set m i hlt] at hm3
      have ci := lies_cell (lies_alloc M2.out.row (.cells #[.int .i64 (nxtR m i : Int)] 3)) i
      have fi := lies_free (lies_alloc M2.out.row (.cells #[.int .i64 (nxtR m i : Int)] 3)) i
      have hvl : vs.toArray[i]? = some (vs.getD i undef) := by
        have : i < vs.length := by rw [M2.out.sep.len]; simp [zg, parR]; exact hlt
        rw [List.getElem?_toArray, List.getElem?_eq_getElem this, List.getD_eq_getElem?_getD, List.getElem?_eq_getElem this]
        rfl
      rw [hvl] at ci
      obtain ⟨nr, hnr⟩ : ∃ nr, nr = nxtR m i := ⟨_, rfl⟩
      rw [← hnr] at hmod hm3 ci fi
      have M3 := Lib.hid hm3
      have m0 : (m : Int) ≠ 0 := by omega
      clear hvl hm3 hnr
      go_wp2
      go_roundw
      case rel => exact ⟨i + 1, _, by omega, by go_num, M3.out, nilB_set N1.out _⟩
      case measure => first | (simp [intOf]; done) | (simp [intOf]; omega)
    · obtain rfl : i = m := by omega
      have li : ¬ (i : Int) < (i : Int) := by omega
      have BB := Lib.hid (H1.out.trans (M1.out.low.mono H1.out.size))
      have hM := M1.out
      rw [parR_end] at hM
      have hM2 := Lib.hid hM
      have hls := lw_ls hM
      have hb0 := below_alloc wr (.cells #[.slice Option.none 0 0, .slice Option.none 0 0] 34)
      have hC := ocheck_any (some ⟨w1.heap.size, 0, Option.none⟩) (some ⟨w1.heap.size + 1, 0, Option.none⟩) i i i (ring i) _ (ok_ring i) (by rw [ring_len']; omega) (fun l hl => by
        obtain ⟨j, _, rfl⟩ := List.mem_map.1 hl
        split <;> simp) (ring_groups (by omega)) (wr.alloc (.cells #[.slice Option.none 0 0, .slice Option.none 0 0] 34)) (lsAt_below hls hb0) (by omega)
      rw [ring_len', if_neg (by simp), ring_still (by omega) (ring_groups (by omega)), if_pos (by simp)] at hC
      have KO1 := Lib.hid (order_err (.slice (some ⟨w1.heap.size, 0, Option.none⟩) i i) (.slice (some ⟨w1.heap.size + 1, 0, Option.none⟩) i i) (.slice Option.none 0 0) false 33 (by decide) wr hC)
      have KO2 := Lib.hid (fun (W : World) (hb : Below wr.heap.size wr W) => order_err (.slice (some ⟨w1.heap.size, 0, Option.none⟩) i i) (.slice (some ⟨w1.heap.size + 1, 0, Option.none⟩) (i - 1) i) (.slice Option.none 0 0) true 1 (by decide) W (short_check w1 wr i m1 m2 vs hM2.out _ (hb.trans ((below_alloc W _).mono hb.size)) i))
      have hcut : ∀ W, (Instr.slice 24 (.slice (some ⟨w1.heap.size + 1, 0, Option.none⟩) i i) Option.none (some (.int .i64 ((i : Int) - 1))) Option.none).run Tryz.prog W = .ok (.slice (some ⟨w1.heap.size + 1, 0, Option.none⟩) (i - 1) i) W := fun W => by
        have := cutl_to (some ⟨w1.heap.size + 1, 0, Option.none⟩) i i (i - 1) (by omega) W
        rwa [show ((i - 1 : Nat) : Int) = (i : Int) - 1 by omega] at this
      clear hM hls hb0 hC M1 N1 M0 P0 N0 HACT
      go_upto_region 12 with (go_at_call 6; (with_reducible refine KO1.out.mono ?_); rintro e w5 ⟨rfl, hb⟩; have B5 := Lib.hid (BB.out.trans (hb.mono BB.out.size)); have K2 := Lib.hid (KO2.out w5 hb); clear hb)
      go_wp2_with (first
        | (go_at_call 6; (with_reducible refine K2.out.mono ?_); rintro e w6 ⟨rfl, hb⟩; have B6 := Lib.hid (B5.out.trans (hb.mono B5.out.size)); clear hb)
        | (go_at_call 7; (with_reducible refine (onum_any _ _).mono ?_); rintro e w7 ⟨rfl, h⟩; have h := h.symm; subst h))
      go_ret
      exact ⟨rfl, B6.out⟩
end Go.Proofs.YtnbjfmkckebfgaaGreat
