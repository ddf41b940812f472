/-
What is proved here: the law of plain orders, by a contract.
-/
import Derived.Test.YtnbjfmkckebfgaaGreatOlw
set_option linter.unusedSimpArgs false
set_option linter.unusedVariables false
namespace Go.Proofs.YtnbjfmkckebfgaaGreat
open Go.Cmp Go.RowKit
/-- the needs as far as they are laid -/
def parB (b : Bool) (n i : Nat) : Gr := (List.range n).map fun k => if b = true ∧ k < i ∧ k + 1 < n then [k + 1] else []
theorem parB_0 (b : Bool) (n : Nat) : parB b n 0 = none n := by
  unfold parB Cmp.none
  apply List.ext_getElem?
  intro j
  rw [List.getElem?_map, List.getElem?_replicate]
  by_cases h : j < n
  · rw [List.getElem?_range h, if_pos h, Option.map_some, if_neg (by omega)]
  · rw [List.getElem?_eq_none (by simp; omega), if_neg h]; rfl
theorem parB_false (n i : Nat) : parB false n i = none n := by
  rw [← parB_0 false n]
  unfold parB
  refine List.map_congr_left fun k _ => ?_
  rw [if_neg (by simp), if_neg (by simp)]
theorem parB_end (n : Nat) : parB true n n = chain n := by
  unfold parB chain
  refine List.map_congr_left fun k hk => ?_
  have := List.mem_range.1 hk
  by_cases h : k + 1 < n
  · rw [if_pos ⟨rfl, this, h⟩, if_pos h]
  · rw [if_neg (fun e => h e.2.2), if_neg h]
theorem parB_set (n i : Nat) (h : i + 1 < n) : (parB true n i).set i [i + 1] = parB true n (i + 1) := by
  unfold parB
  apply List.ext_getElem?
  intro j
  rw [List.getElem?_set, List.getElem?_map, List.getElem?_map]
  by_cases hj : j < n
  · rw [List.getElem?_range hj, Option.map_some, Option.map_some]
    by_cases e : i = j
    · subst e
      rw [if_pos rfl, if_pos (by simp; omega), if_pos ⟨rfl, by omega, h⟩]
    · rw [if_neg e]
      by_cases e2 : j < i ∧ j + 1 < n
      · rw [if_pos ⟨rfl, e2⟩, if_pos ⟨rfl, by omega, e2.2⟩]
      · rw [if_neg (fun x => e2 x.2), if_neg (fun x => e2 ⟨by omega, x.2.2⟩)]
  · rw [if_neg (by omega), List.getElem?_eq_none (by simp; omega)]
    rfl
theorem parB_last (n i : Nat) (h : ¬ i + 1 < n) : parB true n i = parB true n (i + 1) := by
  unfold parB
  refine List.map_congr_left fun k hk => ?_
  have := List.mem_range.1 hk
  by_cases e2 : k < i ∧ k + 1 < n
  · rw [if_pos ⟨rfl, e2⟩, if_pos ⟨rfl, by omega, e2.2⟩]
  · rw [if_neg (fun x => e2 x.2), if_neg (fun x => e2 ⟨by omega, x.2.2⟩)]
theorem ok_chain (n : Nat) : Ok (chain n) := fun l hl x hx => by
  rw [chain_len]
  obtain ⟨i, hi, rfl⟩ := List.mem_map.1 hl
  have := List.mem_range.1 hi
  split at hx
  · rw [List.mem_singleton.1 hx]; omega
  · cases hx
/-- those that are not laid are none yet -/
def NilB (vs : List Value) (n i : Nat) : Prop := ∀ k, i ≤ k → k < n → vs.getD k undef = nilV
theorem nilB_set {vs : List Value} {n i : Nat} (h : NilB vs n i) (x : Value) : NilB (vs.set i x) n (i + 1) := fun k hk hn => by
  rw [getD_setV, if_neg (by omega)]
  exact h k (by omega) hn
theorem nilB_next {vs : List Value} {n i : Nat} (h : NilB vs n i) : NilB vs n (i + 1) := fun k hk hn => h k (by omega) hn
set_option maxRecDepth 100000 in
set_option maxHeartbeats 8000000 in
theorem plain_law (n : Int) (back : Bool) (w : World) : Calls Tryz.prog 4 #[.int .i64 n, .bool back] w fun e w' => e = .returned (.bool true) ∧ Below w.heap.size w w' := by
  have KA := Lib.hid (oalive_any w)
  by_cases h1 : n < 1
  · go_enter Tryz.func4, Tryz.ntmps4
    go_wp2_with (go_at_call 5; (with_reducible refine KA.out.mono ?_); rintro e w1 ⟨rfl, hb⟩; have H1 := Lib.hid hb; clear hb)
    go_ret
    exact ⟨rfl, H1.out⟩
  by_cases h2 : n > 100
  · go_enter Tryz.func4, Tryz.ntmps4
    go_wp2_with (go_at_call 5; (with_reducible refine KA.out.mono ?_); rintro e w1 ⟨rfl, hb⟩; have H1 := Lib.hid hb; clear hb)
    go_ret
    exact ⟨rfl, H1.out⟩
  obtain ⟨m, rfl⟩ : ∃ m : Nat, n = (m : Int) := ⟨n.toNat, by omega⟩
  have m1 : 1 ≤ m := by omega
  have m2 : m ≤ 100 := by omega
  go_enter Tryz.func4, Tryz.ntmps4
  go_upto_region 4 with (go_at_call 5; (with_reducible refine KA.out.mono ?_); rintro e w1 ⟨rfl, hb⟩; have H1 := Lib.hid hb; clear hb)
  have MA := mk_acts w1 m (by omega)
  have MB := fun W => mk_lists W m (by omega)
  have M0 := Lib.hid (lw_start w1 m (madeCells #[.int .i64 0, .string { data := #[] }, .string { data := #[] }, .int .i64 0, .int .i64 0] (m * 5)) (by simp [madeCells]))
  go_upto_region 6 with (fail)
  clear MA MB
  generalize (w1.alloc (.cells (madeCells #[.int .i64 0, .string { data := #[] }, .string { data := #[] }, .int .i64 0, .int .i64 0] (m * 5)) 26)).alloc (.cells (Array.replicate m (.slice Option.none 0 0)) 27) = W at *
  have P0 := Lib.hid (parB_0 back m)
  have N0 := Lib.hid (show NilB (List.replicate m nilV) m 0 from fun k _ hk => by rw [List.getD_eq_getElem?_getD, List.getElem?_replicate, if_pos hk]; rfl)
  have HACT := Lib.hid (fun (wr : World) (vs : List Value) (T : Gr) (h : LwM w1 m vs T wr) (i : Nat) (hi : i < m) => lw_act h hi [.int .i64 5, .string { data := #[97] }, .string { data := #[] }, .int .i64 0, .int .i64 0] rfl)
  go_wp2
  go_loopw [8] (fun v8 wr => ∃ (i : Nat) (vs : List Value), i ≤ m ∧ v8 = .int .i64 (i : Int) ∧ LwM w1 m vs (parB back m i) wr ∧ NilB vs m i) (fun v8 _ => m - (intOf v8).toNat)
  case atStart => exact ⟨0, _, Nat.zero_le _, rfl, by rw [P0.out]; exact M0.out, N0.out⟩
  case round =>
    obtain ⟨i, vs, hi, rfl, hM, hN⟩ := hrel
    have M1 := Lib.hid hM
    have N1 := Lib.hid hN
    clear hM hN
    by_cases hlt : i < m
    · have li : (i : Int) < (m : Int) := by omega
      have M2 := Lib.hid (HACT.out wr vs _ M1.out i hlt)
      have HT := Lib.hid (lw_there M1.out hlt)
      go_upto_region 9 with (fail)
      go_upto_region 10 with (refine wpList_store_mid rfl 26 _ _ rfl w1.heap.size (i * 5) #[.int .i64 5, .string { data := #[97] }, .string { data := #[] }, .int .i64 0, .int .i64 0] rfl rfl HT.out (by kernel_rfl) (by simp [Value.oneCell']) ?_)
      clear HT
      generalize wr.setCells w1.heap.size (i * 5) [.int .i64 5, .string { data := #[97] }, .string { data := #[] }, .int .i64 0, .int .i64 0] = W3 at *
      cases back with
      | false =>
        have PF := Lib.hid (show parB false m i = parB false m (i + 1) by rw [parB_false, parB_false])
        go_wp2
        go_roundw
        case rel => exact ⟨i + 1, vs, by omega, by go_num, by rw [← PF.out]; exact M2.out, nilB_next N1.out⟩
        case measure => first | (simp [intOf]; done) | (simp [intOf]; omega)
      | true =>
        by_cases hl : i + 1 < m
        · have hl2 : (i : Int) + 1 < (m : Int) := by omega
          have hm3 := lw_need M2.out hlt (N1.out i (Nat.le_refl _) hlt) (i + 1)
          rw [parB_set m i hl, show ((i + 1 : Nat) : Int) = (i : Int) + 1 by omega] at hm3
          have M3 := Lib.hid hm3
          clear hm3
          have ci := lies_cell (lies_alloc M2.out.row (.cells #[.int .i64 ((i : Int) + 1)] 3)) i
          have fi := lies_free (lies_alloc M2.out.row (.cells #[.int .i64 ((i : Int) + 1)] 3)) i
          have hvl : vs.toArray[i]? = some (vs.getD i undef) := by
            have : i < vs.length := by rw [M2.out.sep.len]; simp [zg, parB]; exact hlt
            rw [List.getElem?_toArray, List.getElem?_eq_getElem this, List.getD_eq_getElem?_getD, List.getElem?_eq_getElem this]
            rfl
          rw [hvl] at ci
          clear hvl hl
          go_wp2
          go_roundw
          case rel => exact ⟨i + 1, _, by omega, by go_num, M3.out, nilB_set N1.out _⟩
          case measure => first | (simp [intOf]; done) | (simp [intOf]; omega)
        · have hl2 : ¬ (i : Int) + 1 < (m : Int) := by omega
          have PF := Lib.hid (parB_last m i hl)
          clear hl
          go_wp2
          go_roundw
          case rel => exact ⟨i + 1, vs, by omega, by go_num, by rw [← PF.out]; exact M2.out, nilB_next N1.out⟩
          case measure => first | (simp [intOf]; done) | (simp [intOf]; omega)
    · obtain rfl : i = m := by omega
      have li : ¬ (i : Int) < (i : Int) := by omega
      have BB := Lib.hid (H1.out.trans (M1.out.low.mono H1.out.size))
      cases back with
      | false =>
        have hls := lw_ls M1.out
        rw [parB_false] at hls
        have hl0 : (none i).length = i := List.length_replicate
        have KO := order_ok (some ⟨w1.heap.size, 0, Option.none⟩) (some ⟨w1.heap.size + 1, 0, Option.none⟩) i i (.slice Option.none 0 0) (none i) _ (fun l hl x hx => by rw [List.eq_of_mem_replicate hl] at hx; cases hx) (by omega) (fun l hl => by rw [List.eq_of_mem_replicate hl]; simp) (none_groups i) (none_still i (none_groups i)) (rowok_none i (by omega)) wr hls
        rw [hl0] at KO
        have KO2 := Lib.hid (show Calls Tryz.prog 6 #[.agg #[.slice Option.none 0 0, .slice Option.none 0 0], .slice (some ⟨w1.heap.size, 0, Option.none⟩) i i, .slice (some ⟨w1.heap.size + 1, 0, Option.none⟩) i i, .slice Option.none 0 0, .bool false] wr (fun e w' => ∃ g C, e = .returned (.tuple #[.slice (some ⟨g, 0, Option.none⟩) i C, .int .i64 0]) ∧ (∀ k, k < i → w'.cell? ⟨g, k, Option.none⟩ = some (.int .i64 (k : Int))) ∧ Below wr.heap.size wr w') from KO.mono (fun e w' ⟨ov, he, hO, hb⟩ => (by
          rw [hl0, sim_none i i (Nat.le_refl i)] at hO
          obtain ⟨g, C, rfl, hc⟩ := own_cell hO (by simp; omega)
          simp only [List.length_range] at he hc
          exact ⟨g, C, he, fun k hk => by rw [hc k hk, List.getD_eq_getElem?_getD, List.getElem?_range hk]; rfl, hb⟩)))
        clear KO hls hl0 M1 N1
        go_upto_region 15 with (first
          | (go_at_call 6; (with_reducible refine KO2.out.mono ?_); rintro e w5 ⟨g, C, rfl, hc, hb⟩; have HC := Lib.hid hc; have B5 := Lib.hid (BB.out.trans (hb.mono BB.out.size)); clear hc hb)
          | (go_at_call 7; (with_reducible refine (onum_any _ _).mono ?_); rintro e w6 ⟨rfl, h⟩; have h := h.symm; subst h))
        clear li
        go_wp2
        go_loopw [11] (fun v11 wq => ∃ k : Nat, k ≤ i ∧ v11 = .int .i64 (k : Int) ∧ wq = w5) (fun v11 _ => i - (intOf v11).toNat)
        case atStart => exact ⟨0, Nat.zero_le _, rfl, (by first | rfl | trivial)⟩
        case round =>
          obtain ⟨k, hk, rfl, rfl⟩ := hrel
          by_cases hlt : k < i
          · have lk : (k : Int) < (i : Int) := by omega
            have ck := HC.out k hlt
            have ek : ((k : Int) != (k : Int)) = false := by simp
            go_wp2
            go_roundw
            case rel => exact ⟨k + 1, by omega, by go_num, (by first | rfl | trivial)⟩
            case measure => first | (simp [intOf]; done) | (simp [intOf]; omega)
          · obtain rfl : k = i := by omega
            have lk : ¬ (k : Int) < (k : Int) := by omega
            go_wp2
            go_ret
            exact ⟨rfl, B5.out⟩
      | true =>
        have hls := lw_ls M1.out
        rw [parB_end] at hls
        have hl0 : (chain i).length = i := chain_len i
        have KO := order_ok (some ⟨w1.heap.size, 0, Option.none⟩) (some ⟨w1.heap.size + 1, 0, Option.none⟩) i i (.slice Option.none 0 0) (chain i) _ (ok_chain i) (by omega) (fun l hl => by
          obtain ⟨j, _, rfl⟩ := List.mem_map.1 hl
          split <;> simp) (chain_groups i) (chain_still i (chain_groups i)) (rowok_chain i (by omega)) wr hls
        rw [hl0] at KO
        have KO2 := Lib.hid (show Calls Tryz.prog 6 #[.agg #[.slice Option.none 0 0, .slice Option.none 0 0], .slice (some ⟨w1.heap.size, 0, Option.none⟩) i i, .slice (some ⟨w1.heap.size + 1, 0, Option.none⟩) i i, .slice Option.none 0 0, .bool false] wr (fun e w' => ∃ g C, e = .returned (.tuple #[.slice (some ⟨g, 0, Option.none⟩) i C, .int .i64 0]) ∧ (∀ k, k < i → w'.cell? ⟨g, k, Option.none⟩ = some (.int .i64 ((i : Int) - 1 - (k : Int)))) ∧ Below wr.heap.size wr w') from KO.mono (fun e w' ⟨ov, he, hO, hb⟩ => (by
          rw [hl0, sim_chain i i (Nat.le_refl i)] at hO
          obtain ⟨g, C, rfl, hc⟩ := own_cell hO (by simp; omega)
          simp only [List.length_map, List.length_range] at he hc
          refine ⟨g, C, he, fun k hk => ?_, hb⟩
          rw [hc k hk, List.getD_eq_getElem?_getD, List.getElem?_map, List.getElem?_range hk]
          show some (Value.int .i64 ((i - 1 - k : Nat) : Int)) = _
          rw [show ((i - 1 - k : Nat) : Int) = (i : Int) - 1 - (k : Int) by omega])))
        clear KO hls hl0 M1 N1
        go_upto_region 15 with (first
          | (go_at_call 6; (with_reducible refine KO2.out.mono ?_); rintro e w5 ⟨g, C, rfl, hc, hb⟩; have HC := Lib.hid hc; have B5 := Lib.hid (BB.out.trans (hb.mono BB.out.size)); clear hc hb)
          | (go_at_call 7; (with_reducible refine (onum_any _ _).mono ?_); rintro e w6 ⟨rfl, h⟩; have h := h.symm; subst h))
        clear li
        go_wp2
        go_loopw [11] (fun v11 wq => ∃ k : Nat, k ≤ i ∧ v11 = .int .i64 (k : Int) ∧ wq = w5) (fun v11 _ => i - (intOf v11).toNat)
        case atStart => exact ⟨0, Nat.zero_le _, rfl, (by first | rfl | trivial)⟩
        case round =>
          obtain ⟨k, hk, rfl, rfl⟩ := hrel
          by_cases hlt : k < i
          · have lk : (k : Int) < (i : Int) := by omega
            have ck := HC.out k hlt
            have ek : ((i : Int) - 1 - (k : Int) != (i : Int) - 1 - (k : Int)) = false := by simp
            go_wp2
            go_roundw
            case rel => exact ⟨k + 1, by omega, by go_num, (by first | rfl | trivial)⟩
            case measure => first | (simp [intOf]; done) | (simp [intOf]; omega)
          · obtain rfl : k = i := by omega
            have lk : ¬ (k : Int) < (k : Int) := by omega
            go_wp2
            go_ret
            exact ⟨rfl, B5.out⟩
end Go.Proofs.YtnbjfmkckebfgaaGreat
