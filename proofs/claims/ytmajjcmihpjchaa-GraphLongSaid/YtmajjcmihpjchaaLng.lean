/-
What is proved here: the law GraphLong, by a contract.
-/
import Derived.Test.YtmajjcmihpjchaaLab
set_option linter.unusedSimpArgs false
set_option linter.unusedVariables false
namespace Go.Proofs.Ytmajjcmihpjchaa
open Go.Pth Go.Tre Go.RowKit Go.Word Go.Shelf Go.Mat Go.Gra
attribute [local go_sem] guard_eq guard_ne st_eql st_neq
/-- the law's row of renames while it is made -/
def MkR (W : World) (g k i : Nat) : Prop := g < W.heap.size ∧ W.there g 0 (k * 5) ∧ ∀ j, j < i → W.rangeAt g (j * 5) (mvC (lab j, lab (j + 1)))
theorem frozen_same {W W' : World} {g : Nat} (h : W'.heap[g]? = W.heap[g]?) (o : Nat) : W'.frozen? ⟨g, o, none⟩ = W.frozen? ⟨g, o, none⟩ := by
  unfold World.frozen?
  rw [show W'.heap[(⟨g, o, none⟩ : Addr).block]? = W.heap[(⟨g, o, none⟩ : Addr).block]? from h]
theorem mk_below {W W' : World} {g k i : Nat} (h : MkR W g k i) (hb : Below W.heap.size W W') : MkR W' g k i := by
  have e := hb.block g h.1
  refine ⟨Nat.lt_of_lt_of_le h.1 hb.size, fun j hj => ?_, fun j hj q v hq => (World.cell?_of_block (a := ⟨g, j * 5 + q, none⟩) e).trans (h.2.2 j hj q v hq)⟩
  rw [World.cell?_of_block (a := ⟨g, 0 + j, none⟩) e, frozen_same e]
  exact h.2.1 j hj
theorem mk_there {W : World} {g k i : Nat} (h : MkR W g k i) (hi : i < k) : W.there g (i * 5) 5 := fun j hj => by
  have := h.2.1 (i * 5 + j) (by omega)
  rwa [Nat.zero_add] at this
theorem setCells_size (g : Nat) : ∀ (vs : List Value) (o : Nat) (W : World), (W.setCells g o vs).heap.size = W.heap.size
  | [], _, _ => rfl
  | v :: r, o, W => by
    show ((W.setCell ⟨g, o, none⟩ v).setCells g (o + 1) r).heap.size = _
    rw [setCells_size g r]
    simp [World.setCell]
theorem below_cells {B g : Nat} {a : World} (hg : B ≤ g) : ∀ (vs : List Value) (o : Nat) (W : World), Below B a W → Below B a (W.setCells g o vs)
  | [], _, _, h => h
  | v :: r, o, W, h => below_cells hg r (o + 1) _ (below_setCell h (p := ⟨g, o, none⟩) hg v)
theorem mk_set {W : World} {g k i : Nat} (h : MkR W g k i) (hi : i < k) : MkR (W.setCells g (i * 5) (mvC (lab i, lab (i + 1)))) g k (i + 1) := by
  refine ⟨by rw [setCells_size]; exact h.1, World.there_setCells h.2.1 _ _ _, fun j hj => ?_⟩
  by_cases e : j = i
  · subst e
    exact World.rangeAt_setCells_same _ _ _ _ (mk_there h hi)
  · refine World.rangeAt_setCells_apart (h.2.2 j (by omega)) _ _ _ (.inr ?_)
    have : (mvC (lab j, lab (j + 1))).length = 5 := rfl
    have : (mvC (lab i, lab (i + 1))).length = 5 := rfl
    omega
theorem mk_acts {W : World} {g k : Nat} (h : MkR W g k k) : ActsAt W (some ⟨g, 0, none⟩) (rowM k) := fun i hi => by
  rw [rowM_at]
  rw [rowM_len] at hi
  refine ⟨g, 0, rfl, h.1, ?_⟩
  rw [Nat.zero_add]
  exact h.2.2 i hi
theorem act_info : (Try.prog.info? 26).map (fun i => (i.zero, i.size, i.bytes)) = some (some (.agg #[.int .i64 0, .string { data := #[] }, .string { data := #[] }, .int .i64 0, .int .i64 0]), 5, 56) := by kernel_rfl
theorem made_acts (w : World) (k : Nat) (hk : k ≤ 2000) : (Instr.makeSlice 23 (.int .i64 (k : Int)) (.int .i64 (k : Int))).run Try.prog w = .ok (.slice (some ⟨w.heap.size, 0, none⟩) k k) (w.alloc (.cells (madeCells #[.int .i64 0, .string { data := #[] }, .string { data := #[] }, .int .i64 0, .int .i64 0] (k * 5)) 26)) := by
  obtain ⟨i, hi, hz, hs, hb⟩ := info_parts act_info
  have h := run_make (P := Try.prog) w 23 26 i (.agg #[.int .i64 0, .string { data := #[] }, .string { data := #[] }, .int .i64 0, .int .i64 0]) Try.underlying23 hi hz .i64 .i64 k k (by omega) (Int.le_refl _) (by rw [hb]; omega) (by omega)
  rw [hs] at h
  exact h
theorem mk_made (w : World) (k : Nat) : MkR (w.alloc (.cells (madeCells #[.int .i64 0, .string { data := #[] }, .string { data := #[] }, .int .i64 0, .int .i64 0] (k * 5)) 26)) w.heap.size k 0 := by
  have L := lies_new w 26 (madeCells #[.int .i64 0, .string { data := #[] }, .string { data := #[] }, .int .i64 0, .int .i64 0] (k * 5))
  refine ⟨lies_lt L, fun j hj => ⟨?_, lies_free L _⟩, fun j hj => absurd hj (Nat.not_lt_zero _)⟩
  rw [lies_cell L, Nat.zero_add, Array.getElem?_eq_getElem (by rw [size_madeCells]; exact hj)]
  rfl
set_option maxRecDepth 100000 in
set_option maxHeartbeats 8000000 in
theorem long_law (n : Int) (w : World) : Calls Try.prog 3 #[.int .i64 n] w fun e w' => e = .returned (.bool true) ∧ Below w.heap.size w w' := by
  by_cases h1 : n < 1
  · go_enter Try.func3, Try.ntmps3
    go_wp2_with (go_at_call 4; (with_reducible refine (alive_any w).mono ?_); rintro e w1 ⟨rfl, hb⟩; have H1 := Lib.hid hb; clear hb)
    go_ret
    exact ⟨rfl, H1.out⟩
  by_cases h2 : n > 1030
  · go_enter Try.func3, Try.ntmps3
    go_wp2_with (go_at_call 4; (with_reducible refine (alive_any w).mono ?_); rintro e w1 ⟨rfl, hb⟩; have H1 := Lib.hid hb; clear hb)
    go_ret
    exact ⟨rfl, H1.out⟩
  obtain ⟨k, rfl⟩ : ∃ k : Nat, n = (k : Int) := ⟨n.toNat, by omega⟩
  have kB : k ≤ 1030 := by omega
  have k1 : 1 ≤ k := by omega
  go_enter Try.func3, Try.ntmps3
  go_upto_region 4 with (go_at_call 4; (with_reducible refine (alive_any w).mono ?_); rintro e w1 ⟨rfl, hb⟩; have H1 := Lib.hid hb; clear hb)
  have MD := made_acts w1 k (by omega)
  have b2 : Below w1.heap.size w1 (w1.alloc (.cells (madeCells #[.int .i64 0, .string { data := #[] }, .string { data := #[] }, .int .i64 0, .int .i64 0] (k * 5)) 26)) := (Below.refl _ _).alloc (Nat.le_refl _) _
  have H2 := Lib.hid (H1.out.trans (b2.mono H1.out.size))
  have M2 := Lib.hid (mk_made w1 k)
  have GE := Lib.hid H1.out.size
  clear b2
  obtain ⟨g, hg⟩ : ∃ g, g = w1.heap.size := ⟨_, rfl⟩
  rw [← hg] at MD M2 GE
  clear hg
  go_upto_region 5 with (fail)
  clear MD H1
  generalize w1.alloc (.cells (madeCells #[.int .i64 0, .string { data := #[] }, .string { data := #[] }, .int .i64 0, .int .i64 0] (k * 5)) 26) = w2 at *
  go_wp2
  go_loopw [5] (fun v5 wr => ∃ i : Nat, i ≤ k ∧ v5 = .int .i64 (i : Int) ∧ MkR wr g k i ∧ Below w.heap.size w wr) (fun v5 _ => k - (intOf v5).toNat)
  case atStart => exact ⟨0, Nat.zero_le _, rfl, M2.out, H2.out⟩
  case round =>
    obtain ⟨i, hi, rfl, hM, hb⟩ := hrel
    have HM := Lib.hid hM
    have HR := Lib.hid hb
    clear hM hb M2 H2
    by_cases hlt : i < k
    · have li : (i : Int) < (k : Int) := by omega
      have K1 := Lib.hid (fun W => label_any i (by omega) W)
      have K2 := Lib.hid (fun W => (show Calls Try.prog 5 #[.int .i64 ((i : Int) + 1)] W fun e w' => e = .returned (St (lab (i + 1))) ∧ Below W.heap.size W w' from by
        have := label_any (i + 1) (by omega) W
        rw [show (((i + 1 : Nat)) : Int) = (i : Int) + 1 by omega] at this
        exact this))
      have MS := Lib.hid (fun (W : World) (h : MkR W g k i) => mk_set h hlt)
      unfold mvC at MS
      obtain ⟨l1, hl1⟩ : ∃ s : ByteArray, St (lab i) = .string s := ⟨_, rfl⟩
      obtain ⟨l2, hl2⟩ : ∃ s : ByteArray, St (lab (i + 1)) = .string s := ⟨_, rfl⟩
      rw [hl1] at K1 MS
      rw [hl2] at K2 MS
      clear hl1 hl2
      go_upto_region 8 with (fail)
      go_upto_region 7 with (first
        | (go_at_call 5; (with_reducible refine (K1.out wr).mono ?_); rintro e w3 ⟨rfl, hb⟩; have H3 := Lib.hid (HR.out.trans (hb.mono HR.out.size)); have M3 := Lib.hid (mk_below HM.out hb); clear hb)
        | (go_at_call 5; (with_reducible refine (K2.out w3).mono ?_); rintro e w4 ⟨rfl, hb⟩; have H4 := Lib.hid (H3.out.trans (hb.mono H3.out.size)); have M4 := Lib.hid (mk_below M3.out hb); have TH := Lib.hid (mk_there M4.out hlt); clear hb)
        | (refine wpList_store_mid rfl 26 _ _ rfl g (i * 5) #[.int .i64 3, .string l1, .string l2, .int .i64 0, .int .i64 0] rfl rfl TH.out (by kernel_rfl) (by simp [Value.oneCell']) ?_))
      have M5 := Lib.hid (MS.out w4 M4.out)
      have H5 := Lib.hid (below_cells GE.out [.int .i64 3, .string l1, .string l2, .int .i64 0, .int .i64 0] (i * 5) w4 H4.out)
      clear H3 M3 H4 M4 TH HM HR K1 K2 MS
      generalize w4.setCells g (i * 5) [.int .i64 3, .string l1, .string l2, .int .i64 0, .int .i64 0] = w5 at *
      go_wp2
      go_roundw
      case rel => exact ⟨i + 1, by omega, by go_num, M5.out, H5.out⟩
      case measure => first | (simp [intOf]; done) | (simp [intOf]; omega)
    · obtain rfl : i = k := by omega
      have li : ¬ (i : Int) < (i : Int) := by omega
      have KN := needs_all (some ⟨g, 0, none⟩) i (rowM i) wr (mk_acts HM.out) (by rw [rowM_len]; omega) (fun x hx => by
        obtain ⟨q, hq, rfl⟩ := List.mem_map.1 hx
        have hq := List.mem_range.1 hq
        exact ⟨by simp [lab], by simp [lab], lab_up (by omega)⟩)
      unfold NedE at KN
      rw [rowM_len] at KN
      have ZF := Lib.hid (fun j hj => rowM_zf i (by omega) j hj)
      have KN := Lib.hid KN
      by_cases hl : 1024 < i
      · have hl2 : (i : Int) > 1024 := by omega
        replace KN := Lib.hid (KN.out.mono (R' := fun e w' => e = .returned (.tuple #[.slice none 0 0, .int .i64 2]) ∧ Below wr.heap.size wr w') (by
          rintro e W ⟨h | h, hb⟩
          · exact ⟨h.2, hb⟩
          · omega))
        clear HM hl ZF
        go_wp2_with (first
          | (go_at_call 6; (with_reducible refine KN.out.mono ?_); rintro e w6 ⟨rfl, hb⟩; have H6 := Lib.hid (HR.out.trans (hb.mono HR.out.size)); clear hb)
          | (go_at_call 7; (with_reducible refine (num_any _ _).mono ?_); rintro e w7 ⟨rfl, rfl⟩))
        go_ret
        exact ⟨rfl, H6.out⟩
      · have hl2 : ¬ (i : Int) > 1024 := by omega
        replace KN := Lib.hid (KN.out.mono (R' := fun e w' => (∃ L, e = .returned (.tuple #[.slice (some ⟨L, 0, none⟩) i i, .int .i64 0]) ∧ NdsR w' L i (zfOf (rowM i)) i) ∧ Below wr.heap.size wr w') (by
          rintro e W ⟨h | h, hb⟩
          · omega
          · exact ⟨h.2, hb⟩))
        obtain ⟨k', hk'⟩ : ∃ k' : Nat, i = k' + 1 := ⟨i - 1, by omega⟩
        have wk : (i : Int) - 1 = (k' : Int) := by omega
        have lk : (k' : Int) < (i : Int) := by omega
        have ii : ((i : Int) != (i : Int)) = false := by simp
        have HK' := Lib.hid hk'
        clear HM hl hk'
        go_upto_region 10 with (go_at_call 6; (with_reducible refine KN.out.mono ?_); rintro e w6 ⟨⟨L, rfl, hN⟩, hb⟩; have H6 := Lib.hid (HR.out.trans (hb.mono HR.out.size)); have N6 := Lib.hid hN; clear hb hN)
        obtain ⟨A0, C0, c0, _⟩ := nds_at N6.out (j := k') (by have := HK'.out; omega) (by have := HK'.out; omega)
        rw [ZF.out k' (by have := HK'.out; omega), if_neg (by have := HK'.out; omega)] at c0
        simp only [List.length_nil] at c0
        clear KN HR HK'
        go_wp2_with (go_at_call 7; (with_reducible refine (num_any _ _).mono ?_); rintro e w7 ⟨rfl, rfl⟩)
        clear c0 wk lk ii
        go_loopw [8] (fun v8 wq => ∃ j : Nat, j < i ∧ v8 = .int .i64 (j : Int) ∧ wq = w6) (fun v8 _ => i - (intOf v8).toNat)
        case atStart => exact ⟨0, by omega, rfl, rfl⟩
        case round =>
          obtain ⟨j, hj, rfl, hw⟩ := hrel
          have HW := Lib.hid hw
          clear hw
          by_cases hj2 : j + 1 < i
          · have lj : (j : Int) + 1 < (i : Int) := by omega
            have lj2 : (j : Int) < (i : Int) := by omega
            obtain ⟨A1, C1, c1, i1⟩ := nds_at N6.out (j := j) (by omega) (by omega)
            rw [ZF.out j (by omega), if_pos hj2] at c1 i1
            obtain ⟨b1, rfl, _, d1⟩ := i1 0 (by simp)
            simp only [List.length_cons, List.length_nil, Nat.zero_add, List.getElem_cons_zero] at c1 d1
            have c1 : wr.cell? ⟨L, j, none⟩ = some (.slice (some ⟨b1, 0, none⟩) 1 C1) := by rw [HW.out]; exact c1
            have d1 : wr.cell? ⟨b1, 0, none⟩ = some (.int .i64 ((j : Int) + 1)) := by rw [HW.out, show (j : Int) + 1 = ((j + 1 : Nat) : Int) by omega]; exact d1
            have jj : ((j : Int) + 1 != (j : Int) + 1) = false := by simp
            clear i1
            go_wp2
            go_roundw
            case rel => exact ⟨j + 1, by omega, by go_num, HW.out⟩
            case measure => first | (simp [intOf]; done) | (simp [intOf]; omega)
          · have lj : ¬ (j : Int) + 1 < (i : Int) := by omega
            have H7 := Lib.hid (show Below w.heap.size w wr by rw [HW.out]; exact H6.out)
            go_wp2
            go_ret
            exact ⟨rfl, H7.out⟩
end Go.Proofs.Ytmajjcmihpjchaa
