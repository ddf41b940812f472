/-
What is proved here: the law ModelLong, by a contract.
-/
import Derived.Test.YtciafdbhkfhidaaVf
import Derived.Test.YtciafdbhkfhidaaVg
import Derived.Laws.MakeOwn
set_option linter.unusedSimpArgs false
set_option linter.unusedVariables false
namespace Go.Proofs.Ytciafdbhkfhidaa
open Go.Pth Go.Tre Go.RowKit Go.Word Go.Mod
abbrev zIns : Array Value := #[.int .i64 0, .string { data := #[] }, .string { data := #[] }, .int .i64 0, .int .i64 0]
/-- the law's list while its syncs are written -/
def rowS (i k : Nat) : Array Value := (Array.range (k * 5)).map (fun q => if q % 5 = 0 ∧ q / 5 < i then .int .i64 9 else zIns[q % zIns.size]!)
theorem rowS_size (i k : Nat) : (rowS i k).size = k * 5 := by simp [rowS]
theorem rowS_get (i k q : Nat) (h : q < k * 5) : (rowS i k)[q]? = some (if q % 5 = 0 ∧ q / 5 < i then .int .i64 9 else zIns[q % zIns.size]!) := by
  unfold rowS
  rw [Array.getElem?_map, Array.getElem?_range, if_pos h]
  rfl
theorem rowS_zero (k : Nat) : madeCells zIns (k * 5) = rowS 0 k := by
  unfold madeCells rowS
  congr 1
  funext q
  rw [if_neg (by omega)]
theorem rowS_set {i k : Nat} (h : i < k) : (rowS i k).setIfInBounds (i * 5) (.int .i64 9) = rowS (i + 1) k := by
  apply Array.ext_getElem?
  intro q
  rw [Array.getElem?_setIfInBounds]
  by_cases hq : q < k * 5
  · rw [rowS_get i k q hq, rowS_get (i + 1) k q hq]
    by_cases e : i * 5 = q
    · rw [if_pos e, if_pos (by rw [rowS_size]; omega), if_pos (by omega)]
    · rw [if_neg e]
      by_cases c : q % 5 = 0 ∧ q / 5 < i
      · rw [if_pos c, if_pos (by omega)]
      · rw [if_neg c, if_neg (by omega)]
  · rw [if_neg (by omega), Array.getElem?_eq_none (by rw [rowS_size]; omega), Array.getElem?_eq_none (by rw [rowS_size]; omega)]
theorem rowS_head {i k : Nat} (h : i < k) : (rowS i k)[i * 5]? = some (.int .i64 0) := by
  rw [rowS_get i k _ (by omega), if_neg (by omega), show i * 5 % zIns.size = 0 by show i * 5 % 5 = 0; omega]
  rfl
theorem syncs_of {W : World} {g k : Nat} (h : Lies W g 25 (rowS k k)) : Syncs W g (.string { data := #[] }) k := fun i hi j v hj => by
  rw [lies_cell h]
  have hj5 : j < 5 := by
    have := (List.getElem?_eq_some_iff.1 hj).1
    simpa using this
  rw [rowS_get k k _ (by omega)]
  match j, hj5, hj with
  | 0, _, hj => rw [if_pos (by omega)]; exact hj
  | 1, _, hj => rw [if_neg (by omega), show (i * 5 + 1) % zIns.size = 1 by show (i * 5 + 1) % 5 = 1; omega]; exact hj
  | 2, _, hj => rw [if_neg (by omega), show (i * 5 + 2) % zIns.size = 2 by show (i * 5 + 2) % 5 = 2; omega]; exact hj
  | 3, _, hj => rw [if_neg (by omega), show (i * 5 + 3) % zIns.size = 3 by show (i * 5 + 3) % 5 = 3; omega]; exact hj
  | 4, _, hj => rw [if_neg (by omega), show (i * 5 + 4) % zIns.size = 4 by show (i * 5 + 4) % 5 = 4; omega]; exact hj
theorem ins_info : (Try.prog.info? 25).map (fun i => (i.zero, i.size, i.bytes)) = some (some (.agg #[.int .i64 0, .string { data := #[] }, .string { data := #[] }, .int .i64 0, .int .i64 0]), 5, 56) := by kernel_rfl
theorem made_ins (w : World) (k : Nat) (hk : k ≤ 5000) : (Instr.makeSlice 23 (.int .i64 (k : Int)) (.int .i64 (k : Int))).run Try.prog w = .ok (.slice (some ⟨w.heap.size, 0, none⟩) k k) (w.alloc (.cells (rowS 0 k) 25)) := by
  obtain ⟨i, hi, hz, hs, hb⟩ := info_parts ins_info
  have h := run_make (P := Try.prog) w 23 25 i (.agg #[.int .i64 0, .string { data := #[] }, .string { data := #[] }, .int .i64 0, .int .i64 0]) Try.underlying23 hi hz .i64 .i64 k k (by omega) (Int.le_refl _) (by rw [hb]; omega) (by omega)
  rw [hs] at h
  rw [← rowS_zero]
  exact h
set_option maxRecDepth 100000 in
set_option maxHeartbeats 8000000 in
theorem long_law (n : Int) (w : World) : Calls Try.prog 3 #[.int .i64 n] w fun e w' => e = .returned (.bool true) ∧ Below w.heap.size w w' := by
  by_cases h1 : n < 4090
  · go_enter Try.func3, Try.ntmps3
    go_wp2_with (go_at_call 4; (with_reducible refine (alive_any w).mono ?_); rintro e w1 ⟨rfl, hb⟩; have H1 := Lib.hid hb; clear hb)
    go_ret
    exact ⟨rfl, H1.out⟩
  by_cases h2 : n > 4100
  · go_enter Try.func3, Try.ntmps3
    go_wp2_with (go_at_call 4; (with_reducible refine (alive_any w).mono ?_); rintro e w1 ⟨rfl, hb⟩; have H1 := Lib.hid hb; clear hb)
    go_ret
    exact ⟨rfl, H1.out⟩
  obtain ⟨k, rfl⟩ : ∃ k : Nat, n = (k : Int) := ⟨n.toNat, by omega⟩
  have kB : k ≤ 4100 := by omega
  have k0 : (0 : Int) ≤ (k : Int) := by omega
  have hz := zero29
  go_enter Try.func3, Try.ntmps3
  go_upto_region 4 with (go_at_call 4; (with_reducible refine (alive_any w).mono ?_); rintro e w1 ⟨rfl, hb⟩; have H1 := Lib.hid hb; clear hb)
  have MD := made_ins w1 k (by omega)
  have b2 : Below w1.heap.size w1 (w1.alloc (.cells (rowS 0 k) 25)) := (Below.refl _ _).alloc (Nat.le_refl _) _
  have H2 := Lib.hid (H1.out.trans (b2.mono H1.out.size))
  have M2 := Lib.hid (lies_new w1 25 (rowS 0 k))
  have GE := Lib.hid H1.out.size
  clear b2
  obtain ⟨g, hg⟩ : ∃ g, g = w1.heap.size := ⟨_, rfl⟩
  rw [← hg] at MD M2 GE
  clear hg
  go_upto_region 5 with (fail)
  clear MD H1
  generalize w1.alloc (.cells (rowS 0 k) 25) = w2 at *
  go_wp2
  go_loopw [5] (fun v5 wr => ∃ i : Nat, i ≤ k ∧ v5 = .int .i64 (i : Int) ∧ Lies wr g 25 (rowS i k) ∧ Below w.heap.size w wr) (fun v5 _ => k - (intOf v5).toNat)
  case atStart => exact ⟨0, Nat.zero_le _, rfl, M2.out, H2.out⟩
  case round =>
    obtain ⟨i, hi, rfl, hM, hb⟩ := hrel
    have HM := Lib.hid hM
    have HR := Lib.hid hb
    clear hM hb M2 H2
    by_cases hlt : i < k
    · have li : (i : Int) < (k : Int) := by omega
      have li0 : (0 : Int) ≤ (i : Int) := by omega
      have c0 : wr.cell? ⟨g, i * 5, none⟩ = some (.int .i64 0) := by rw [lies_cell HM.out]; exact rowS_head hlt
      have f0 := lies_free HM.out (i * 5)
      have M5 := Lib.hid (show Lies (wr.setCell ⟨g, i * 5, none⟩ (.int .i64 9)) g 25 (rowS (i + 1) k) by rw [← rowS_set hlt]; exact lies_set HM.out _ _)
      have H5 := Lib.hid (below_setCell HR.out (p := ⟨g, i * 5, none⟩) GE.out (.int .i64 9))
      clear hz
      go_wp2
      go_roundw
      case rel => exact ⟨i + 1, by omega, by go_num, M5.out, H5.out⟩
      case measure => first | (simp [intOf]; done) | (simp [intOf]; omega)
    · obtain rfl : i = k := by omega
      have li : ¬ (i : Int) < (i : Int) := by omega
      have HS := Lib.hid (syncs_of HM.out)
      have GL := Lib.hid (lies_lt HM.out)
      clear HM
      by_cases hl : i ≤ 4096
      · have hl2 : ¬ (i : Int) > 4096 := by omega
        have ii : ((i : Int) == (i : Int)) = true := by simp
        have KR := Lib.hid (run_sync (.string { data := #[] }) rfl g i hl wr HS.out GL.out)
        clear hl
        trace_state
        go_wp2_with (first
          | (go_at_call 5; (with_reducible refine KR.out.mono ?_); rintro e w6 ⟨rfl, hb⟩; have H6 := Lib.hid ((HR.out.trans (hb.mono HR.out.size)).alloc (HR.out.trans (hb.mono HR.out.size)).size o29); have L6 := Lib.hid (lies_new w6 29 #[.slice none 0 0, .slice none 0 0]); have E6 := Lib.hid (setRow_alloc w6 29 #[.slice none 0 0, .slice none 0 0] #[.slice none 0 0, .slice none 0 0]); clear hb)
          | (refine wpList_store_row rfl 29 _ _ rfl w6.heap.size #[.slice none 0 0, .slice none 0 0] rfl rfl 29 _ L6.out (by kernel_rfl) rfl (by simp [Value.oneCell']) ?_; rw [E6.out])
          | (go_at_call 6; (with_reducible refine (num_any _ _).mono ?_); rintro e w7 ⟨rfl, rfl⟩))
        go_ret
        exact ⟨rfl, H6.out⟩
      · have hl2 : (i : Int) > 4096 := by omega
        have KR := Lib.hid (run_long (.string { data := #[] }) rfl g i (by omega) wr HS.out GL.out)
        clear hl
        go_wp2_with (first
          | (go_at_call 5; (with_reducible refine KR.out.mono ?_); rintro e w6 ⟨rfl, hb⟩; have H6 := Lib.hid ((HR.out.trans (hb.mono HR.out.size)).alloc (HR.out.trans (hb.mono HR.out.size)).size o29); have L6 := Lib.hid (lies_new w6 29 #[.slice none 0 0, .slice none 0 0]); have E6 := Lib.hid (setRow_alloc w6 29 #[.slice none 0 0, .slice none 0 0] #[.slice none 0 0, .slice none 0 0]); clear hb)
          | (refine wpList_store_row rfl 29 _ _ rfl w6.heap.size #[.slice none 0 0, .slice none 0 0] rfl rfl 29 _ L6.out (by kernel_rfl) rfl (by simp [Value.oneCell']) ?_; rw [E6.out])
          | (go_at_call 6; (with_reducible refine (num_any _ _).mono ?_); rintro e w7 ⟨rfl, rfl⟩))
        go_ret
        exact ⟨rfl, H6.out⟩
end Go.Proofs.Ytciafdbhkfhidaa
