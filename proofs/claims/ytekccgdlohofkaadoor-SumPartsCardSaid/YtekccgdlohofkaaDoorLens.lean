/-
What is proved here: the law SumLength's walk.
-/
import Derived.Test.YtekccgdlohofkaaDoorShas
import Derived.Test.YtekccgdlohofkaaDoorHeld
set_option linter.unusedSimpArgs false
namespace Go.Proofs.YtekccgdlohofkaaDoor
open Go.Word Go.RowKit

theorem made_n (n : Nat) (h : n ≤ 20000) (W : World) : (Instr.makeSlice 22 (.int .i64 (n : Int)) (.int .i64 (n : Int))).run Tryd.prog W =
    .ok (.slice (some ⟨W.heap.size, 0, none⟩) n n) (W.alloc (.cells (madeCells #[.int .u8 0] n) 5)) := by
  obtain ⟨i, hi, hz0, hz1, hz2⟩ := info_parts byte_info
  have := run_make (P := Tryd.prog) W 22 5 i (.int .u8 0) Tryd.underlying22 hi hz0 .i64 .i64 (n : Int) (n : Int) (by omega) (by omega) (by rw [hz2]; omega) (by omega)
  rw [this, hz1, Int.toNat_natCast, Nat.mul_one]
  rfl
theorem row_made (w : World) (g n : Nat) (f : Nat → Value) (hg : w.heap.size = g) : Row (w.alloc (.cells (madeCells #[.int .u8 0] n) 5)) g 5 n f 0 :=
  row_new' _ _ _ _ _ _ _ hg (by simp [madeCells]) (fun j hj => by omega)
theorem byte_of (c : Int) (W : World) : (convert 3 5 (.int .i64 c)).run Tryd.prog W = .ok (Y (BitVec.ofInt 8 c)) W := by
  have e : Y (BitVec.ofInt 8 c) = .int .u8 (c % 256) := by
    unfold Y
    rw [BitVec.toNat_ofInt]
    congr 1
    omega
  rw [e]
  have := run_convert_int (P := Tryd.prog) (w := W) 3 5 .i64 c (by rw [Tryd.underlying3]; rfl) Tryd.underlying5
  rw [this]
  show Result.ok (Value.int .u8 (IntKind.u8.wrap c)) W = _
  rw [wrap8]
theorem slice_one (G n i : Nat) (hi : i < n) (W : World) : (Instr.slice 22 (.slice (some ⟨G, 0, none⟩) n n) (some (.int .i64 (i : Int))) (some (.int .i64 ((i : Int) + 1))) none).run Tryd.prog W = .ok (.slice (some ⟨G, i, none⟩) 1 (n - i)) W := by
  have := run_slice_lh (P := Tryd.prog) W 22 (some ⟨G, 0, none⟩) n n Tryd.underlying22 .i64 .i64 (i : Int) ((i : Int) + 1) (by omega) (by omega) (by omega)
  rw [this]
  have hz : (sizeOf (Tryd.prog.elem 22)).run Tryd.prog W = .ok 1 W := by kernel_rfl
  rw [hz]
  have e : ((i : Int) + 1).toNat = i + 1 := by omega
  simp [sliced, Result.andThen, e, show ¬ n = i by omega, Addr.add]
  omega
theorem hash_below {w w' : World} {g B : Nat} {L : List (BitVec 8)} (h : Hash w g L) (hb : Below B w w') (hg : g < B) : Hash w' g L := by
  obtain ⟨s, r, hl, hf⟩ := hash_form h
  exact hf _ _ (lies_below hl hb hg)
theorem hash_lt {w : World} {g : Nat} {L : List (BitVec 8)} (h : Hash w g L) : g < w.heap.size := by
  obtain ⟨s, r, hl, _⟩ := hash_form h
  exact lies_lt hl
theorem dig_sum {D : List Value} (g : Nat) (L : List (BitVec 8)) (hD : Dig D L) (w : World) (hT : Tabs w) (hh : Hash w g L) (hg : 2 ≤ g) (hn : L.length ≤ 20000) :
    Calls Tryd.prog 22 #[.pointer (some ⟨g, 0, none⟩)] w fun e w' => e = .returned (.agg D.toArray) ∧ Below w.heap.size w w' := by
  rw [← dig_row hD]; exact sum_any g L w hT.1 hh hg (by omega)
theorem size_hash (g n : Nat) (L : List (BitVec 8)) (w : World) (hh : Hash w g L) (hn : L.length = n) :
    Calls Tryd.prog 23 #[.pointer (some ⟨g, 0, none⟩)] w fun e w' => e = .returned (.int .i64 (n : Int)) ∧ w = w' := by
  obtain ⟨s, r, hl, _⟩ := hash_form hh
  rw [← hn]; exact size_any g s r _ w hl
theorem row_byt {w : World} {G n : Nat} {x : BitVec 8} (h : Row w G 5 n (fun _ => Y x) n) : Byt w (some ⟨G, 0, none⟩) (List.replicate n x) := fun _ => by
  refine ⟨_, rfl, row_lt h, fun j hj => ?_⟩
  rw [List.length_replicate] at hj
  rw [show (⟨G, 0, none⟩ : Addr).add j = ⟨G, j, none⟩ by unfold Addr.add; split <;> simp_all]
  rw [row_cell h hj]
  simp [List.getD_eq_getElem?_getD, hj]
theorem row_src {w : World} {G g n i : Nat} {x : BitVec 8} (h : Row w G 5 n (fun _ => Y x) n) (hi : i < n) (hne : G ≠ g) : Src w g (some ⟨G, i, none⟩) [x] := fun _ => by
  refine ⟨_, rfl, row_lt h, hne, fun j hj => ?_⟩
  obtain rfl : j = 0 := by simpa using hj
  rw [add_none, row_cell h hi]
  rfl
theorem row_only {w w' : World} {G g n k : Nat} {t : TypeId} {f : Nat → Value} (h : Row w G t n f k) (hg : w.grownBy w' (some g)) (hne : G ≠ g) : Row w' G t n f k := by
  obtain ⟨cs, k, r⟩ := h
  exact ⟨cs, (hg.block G (lies_lt k) (fun e => by injection e; omega)).trans k, r⟩

set_option maxHeartbeats 1000000 in
theorem lens_any (z c : Int) (w : World) (hT : Tabs w) :
    Calls Tryd.prog 8 #[.int .i64 z, .int .i64 c] w fun e w' => e = .returned (.bool true) ∧ Below w.heap.size w w' := by
  have HT := Lib.hid hT
  clear hT
  by_cases h1 : z < 0
  · go_enter Tryd.func8, Tryd.ntmps8
    go_wp2_with (go_at_call 11; (with_reducible refine (alive_any _ HT.out).mono ?_); rintro e w1 ⟨rfl, hb⟩; have H1 := Lib.hid hb; clear hb)
    go_ret
    exact ⟨rfl, H1.out⟩
  by_cases h2 : 600 < z
  · have t1 : decide (z < 0) = false := decide_eq_false h1
    go_enter Tryd.func8, Tryd.ntmps8
    go_wp2_with (go_at_call 11; (with_reducible refine (alive_any _ HT.out).mono ?_); rintro e w1 ⟨rfl, hb⟩; have H1 := Lib.hid hb; clear hb)
    go_ret
    exact ⟨rfl, H1.out⟩
  obtain ⟨n, rfl⟩ : ∃ n : Nat, z = (n : Int) := ⟨z.toNat, by omega⟩
  have hn : n ≤ 600 := by omega
  have t1 : decide ((n : Int) < 0) = false := decide_eq_false h1
  have t2 : decide ((600 : Int) < (n : Int)) = false := decide_eq_false h2
  clear h1 h2
  have hmk := fun W => made_n n (by omega) W
  obtain ⟨x, hx⟩ : ∃ x, x = BitVec.ofInt 8 c := ⟨_, rfl⟩
  have hcv := fun W => byte_of c W
  rw [← hx] at hcv
  clear hx
  go_enter Tryd.func8, Tryd.ntmps8
  go_upto_region 5 with (first
    | (go_at_call 11; (with_reducible refine (alive_any _ HT.out).mono ?_); rintro e w1 ⟨rfl, hb⟩; have H1 := Lib.hid hb; clear hb))
  clear hmk t1 t2
  obtain ⟨G, hG⟩ : ∃ G, w1.heap.size = G := ⟨_, rfl⟩
  have r0 := row_made w1 G n (fun _ => Y x) hG
  have hwG : w.heap.size ≤ G := by rw [← hG]; exact H1.out.size
  have b0 : Below w.heap.size w (w1.alloc (.cells (madeCells #[.int .u8 0] n) 5)) := H1.out.alloc H1.out.size _
  rw [hG]
  generalize w1.alloc (.cells (madeCells #[.int .u8 0] n) 5) = W1 at *
  clear hG H1
  go_wp2
  go_loopw [7] (fun v wr => ∃ i : Nat, i ≤ n ∧ v = .int .i64 i ∧ Row wr G 5 n (fun _ => Y x) i ∧ Below w.heap.size w wr) (fun v _ => n - (intOf v).toNat)
  case atStart => exact ⟨0, by omega, rfl, r0, b0⟩
  case round =>
    clear r0 b0
    obtain ⟨i, hi, rfl, hr, hb⟩ := hrel
    by_cases hlt : i < n
    · obtain ⟨v, d⟩ := row_some hr (i := i) hlt
      have f := row_free hr i
      have li : (i : Int) < (n : Int) := by omega
      go_wp2_with (rw [store_ys]; go_simp)
      go_roundw
      case rel => exact ⟨i + 1, by omega, by go_num, row_more hr hlt rfl, hb.setCell (p := ⟨G, i, none⟩) hwG _⟩
      case measure => simp [intOf]; omega
    · obtain rfl : i = n := by omega
      have hsz := hb.size
      have HR := Lib.hid hr
      have HB := Lib.hid hb
      have hGl := row_lt hr
      clear hcv hr hb
      go_upto_region 12 with (go_at_call 20; (with_reducible refine (new_at _).mono ?_); rintro e w2 ⟨g, rfl, hg, hh, hb2, hz2⟩; have HG := Lib.hid hg; have HH := Lib.hid hh; have H2 := Lib.hid hb2; clear hg hh hb2)
      have g2 : 2 ≤ g := by have := HT.out.1.1; have := HG.out; omega
      have hGg : G ≠ g := by have := HG.out; omega
      have hwg : w.heap.size ≤ g := by have := HG.out; omega
      have r1 := row_below HR.out H2.out hGl
      have b1 := up HB.out H2.out
      have h1 := HH.out
      clear HG HR H2 HB HH
      go_wp2
      go_loopw [9] (fun v wr => ∃ m : Nat, m ≤ i ∧ v = .int .i64 m ∧ Hash wr g (List.replicate m x) ∧ Row wr G 5 i (fun _ => Y x) i ∧ Below w.heap.size w wr) (fun v _ => i - (intOf v).toNat)
      case atStart => exact ⟨0, by omega, rfl, h1, r1, b1⟩
      case round =>
        clear r1 b1 h1
        obtain ⟨m, hm, rfl, hh, hr, hb⟩ := hrel
        by_cases hlt2 : m < i
        · have hsl := slice_one G i m hlt2
          have li : (m : Int) < (i : Int) := by omega
          have FA := Lib.hid (add_at g (some ⟨G, m, none⟩) 1 (i - m) (List.replicate m x) [x] wr rfl (tabs_below HT.out hb).1 hh (row_src hr hlt2 hGg) g2 (by omega) (by simp; omega))
          have HR := Lib.hid hr
          have HB := Lib.hid hb
          clear hr hb hh
          go_wp2_with (go_at_call 21; (with_reducible refine FA.out.mono ?_); rintro e w3 ⟨rfl, hh, hG⟩; have HH := Lib.hid hh; have HG := Lib.hid hG; clear hh hG)
          go_roundw
          case rel => exact ⟨m + 1, by omega, by go_num, (by rw [List.replicate_succ']; exact has_hash HH.out), row_only HR.out HG.out hGg, only_up HB.out HG.out hwg⟩
          case measure => simp [intOf]; omega
        · obtain rfl : m = i := by omega
          obtain ⟨L, hL⟩ : ∃ L, L = List.replicate m x := ⟨_, rfl⟩
          have hLl : L.length = m := by rw [hL]; simp
          have hby := row_byt hr
          rw [← hL] at hh hby
          obtain ⟨D, hD⟩ : ∃ D, Dig D L := ⟨_, rfl⟩
          obtain ⟨v, hv⟩ : ∃ v, more 0 L = v := ⟨_, rfl⟩
          have HD := Lib.hid hD
          have HV := Lib.hid hv
          have HLl := Lib.hid hLl
          have HBY := Lib.hid hby
          have HHH := Lib.hid hh
          have HBB := Lib.hid hb
          have F0 := Lib.hid (dig_ref (some ⟨G, 0, none⟩) m m L hD wr hLl hby (fun e => by cases e) (by omega))
          clear hL hLl hby hD hv hh hr hb hlt hlt2
          go_upto_region 17 with (first
            | (go_at_call 19; (with_reducible refine F0.out.mono ?_); rintro e w3 ⟨rfl, hb⟩; have H3 := Lib.hid hb; clear hb)
            | (refine wpList_store_row rfl 30 _ _ rfl _ D.toArray rfl rfl 30 _ (lies_new _ _ _) (by have := dig_len HD.out; rw [List.size_toArray]; exact this) (by have := dig_len HD.out; rw [List.size_toArray]; exact (Option.some.inj (this.symm.trans (by kernel_rfl))).symm) (dig_one HD.out) ?_))
          generalize hW : World.setRow _ w3.heap.size D.toArray = W
          obtain ⟨r1, r2, r3⟩ := behind_d hW
          have b3 := up H3.out r3
          have P1 := byt_below HBY.out b3
          have P2 := hash_below HHH.out b3 (hash_lt HHH.out)
          have P3 := up HBB.out b3
          have PT := tabs_below HT.out P3
          have pg := hash_lt P2
          have F1 := Lib.hid (fun W' (h : Below W.heap.size W W') => crc_v (some ⟨G, 0, none⟩) m m L W' HLl.out (tabs_below PT h) (byt_below P1 h) (by omega) v HV.out)
          have F2 := Lib.hid (fun W' (h : Below W.heap.size W W') => refcrc_v (some ⟨G, 0, none⟩) m m L W' HLl.out (byt_below P1 h) (by omega) v HV.out)
          have F3 := Lib.hid (fun W' (h : Below W.heap.size W W') => dig_sha (some ⟨G, 0, none⟩) m m L HD.out W' HLl.out (tabs_below PT h) (byt_below P1 h) (Nat.le_refl _) (by omega))
          have F4 := Lib.hid (fun W' (h : Below W.heap.size W W') => dig_sum g L HD.out W' (tabs_below PT h) (hash_below P2 h pg) g2 (by rw [HLl.out]; omega))
          have F5 := Lib.hid (fun W' (h : Below W.heap.size W W') => size_hash g m L W' (hash_below P2 h pg) HLl.out)
          have HWW := Lib.hid P3
          have HR := Lib.hid (show W.rangeAt w3.heap.size 0 D ∧ w3.heap.size < W.heap.size from ⟨r1, r2⟩)
          have de := dig_eql HD.out
          have dl := dig_len HD.out
          clear hW r1 r2 r3 b3 P1 P2 P3 PT pg H3 F0 HBY HHH HBB HLl
          obtain ⟨d0, hd0⟩ : ∃ d0, d0 = w3.heap.size := ⟨_, rfl⟩
          rw [← hd0] at HR ⊢
          refine wp_region_held_drew (S := fun w' => Below W.heap.size W w' ∧ w'.rangeAt d0 0 D) (by kernel_rfl) ⟨Below.drew (Below.refl _ _), HR.out.1⟩ (fun hH => ?_)
          refine held_take 0 (some 52) (.slice (some ⟨G, 0, none⟩) m m) rfl rfl (by kernel_rfl) (by kernel_rfl) (by kernel_rfl) (fun _ _ _ h => h) (by rfl) (fun W' hSW => (by kernel_rfl)) hH ?_
          simp only [Act.put, List.setIfInBounds_toArray, List.set_cons_zero, List.set_cons_succ]
          refine held_take 2 (some 54) (.slice (some ⟨G, 0, none⟩) m m) rfl rfl (by kernel_rfl) (by kernel_rfl) (by kernel_rfl) (fun _ _ _ h => h) (by rfl) (fun W' hSW => (by kernel_rfl)) hH ?_
          simp only [Act.put, List.setIfInBounds_toArray, List.set_cons_zero, List.set_cons_succ]
          refine held_call (i := 1) (some 53) (.int .i64 v) (by kernel_rfl) rfl rfl (by rfl) 13 #[.slice (some ⟨G, 0, none⟩) m m] (by kernel_rfl) ((F1.out _ hH.1).mono fun _ _ q => ⟨q.1, q.2 ▸ hH⟩) (fun W' hH => ?_)
          simp only [Act.put, List.setIfInBounds_toArray, List.set_cons_zero, List.set_cons_succ]
          refine held_call (i := 3) (some 55) (.int .i64 v) (by kernel_rfl) rfl rfl (by rfl) 16 #[.slice (some ⟨G, 0, none⟩) m m] (by kernel_rfl) ((F2.out _ hH.1).mono fun _ _ q => ⟨q.1, q.2 ▸ hH⟩) (fun W' hH => ?_)
          simp only [Act.put, List.setIfInBounds_toArray, List.set_cons_zero, List.set_cons_succ]
          refine held_take 4 (some 56) (.bool true) rfl rfl (by kernel_rfl) (by kernel_rfl) (by kernel_rfl) (fun _ _ _ h => h) (by rfl) (fun W' hSW => (by go_simp)) hH ?_
          simp only [Act.put, List.setIfInBounds_toArray, List.set_cons_zero, List.set_cons_succ]
          refine held_take 5 (some 57) (.bool true) rfl rfl (by kernel_rfl) (by kernel_rfl) (by kernel_rfl) (fun _ _ _ h => h) (by rfl) (fun W' hSW => (by kernel_rfl)) hH ?_
          simp only [Act.put, List.setIfInBounds_toArray, List.set_cons_zero, List.set_cons_succ]
          refine held_take 6 (some 58) (.slice (some ⟨G, 0, none⟩) m m) rfl rfl (by kernel_rfl) (by kernel_rfl) (by kernel_rfl) (fun _ _ _ h => h) (by rfl) (fun W' hSW => (by kernel_rfl)) hH ?_
          simp only [Act.put, List.setIfInBounds_toArray, List.set_cons_zero, List.set_cons_succ]
          refine held_take 8 (some 60) (.agg D.toArray) rfl rfl (by kernel_rfl) (by kernel_rfl) (by kernel_rfl) (fun _ _ _ h => h) (by rfl) (load_under 30 _ rfl d0 0 rfl _ _ (fun W' hSW => hSW.2) Tryd.underlying30 rfl dl) hH ?_
          simp only [Act.put, List.setIfInBounds_toArray, List.set_cons_zero, List.set_cons_succ]
          refine held_call (i := 7) (some 59) (.agg D.toArray) (by kernel_rfl) rfl rfl (by rfl) 18 #[.slice (some ⟨G, 0, none⟩) m m] (by kernel_rfl) ((F3.out _ hH.1).mono fun _ _ q => ⟨q.1, up hH.1 q.2, range_below HR.out.1 HR.out.2 (up hH.1 q.2)⟩) (fun W' hH => ?_)
          simp only [Act.put, List.setIfInBounds_toArray, List.set_cons_zero, List.set_cons_succ]
          refine held_take 9 (some 61) (.bool true) rfl rfl (by kernel_rfl) (by kernel_rfl) (by kernel_rfl) (fun _ _ _ h => h) (by rfl) (fun W' hSW => (by go_simp)) hH ?_
          simp only [Act.put, List.setIfInBounds_toArray, List.set_cons_zero, List.set_cons_succ]
          refine held_take 10 (some 62) (.bool true) rfl rfl (by kernel_rfl) (by kernel_rfl) (by kernel_rfl) (fun _ _ _ h => h) (by rfl) (fun W' hSW => (by kernel_rfl)) hH ?_
          simp only [Act.put, List.setIfInBounds_toArray, List.set_cons_zero, List.set_cons_succ]
          refine held_take 11 (some 63) (.bool true) rfl rfl (by kernel_rfl) (by kernel_rfl) (by kernel_rfl) (fun _ _ _ h => h) (by rfl) (fun W' hSW => (by kernel_rfl)) hH ?_
          simp only [Act.put, List.setIfInBounds_toArray, List.set_cons_zero, List.set_cons_succ]
          refine held_take 12 (some 64) (.pointer (some ⟨g, 0, none⟩)) rfl rfl (by kernel_rfl) (by kernel_rfl) (by kernel_rfl) (fun _ _ _ h => h) (by rfl) (fun W' hSW => (by kernel_rfl)) hH ?_
          simp only [Act.put, List.setIfInBounds_toArray, List.set_cons_zero, List.set_cons_succ]
          refine held_take 14 (some 66) (.agg D.toArray) rfl rfl (by kernel_rfl) (by kernel_rfl) (by kernel_rfl) (fun _ _ _ h => h) (by rfl) (load_under 30 _ rfl d0 0 rfl _ _ (fun W' hSW => hSW.2) Tryd.underlying30 rfl dl) hH ?_
          simp only [Act.put, List.setIfInBounds_toArray, List.set_cons_zero, List.set_cons_succ]
          refine held_call (i := 13) (some 65) (.agg D.toArray) (by kernel_rfl) rfl rfl (by rfl) 22 #[.pointer (some ⟨g, 0, none⟩)] (by kernel_rfl) ((F4.out _ hH.1).mono fun _ _ q => ⟨q.1, up hH.1 q.2, range_below HR.out.1 HR.out.2 (up hH.1 q.2)⟩) (fun W' hH => ?_)
          simp only [Act.put, List.setIfInBounds_toArray, List.set_cons_zero, List.set_cons_succ]
          refine held_take 15 (some 67) (.bool true) rfl rfl (by kernel_rfl) (by kernel_rfl) (by kernel_rfl) (fun _ _ _ h => h) (by rfl) (fun W' hSW => (by go_simp)) hH ?_
          simp only [Act.put, List.setIfInBounds_toArray, List.set_cons_zero, List.set_cons_succ]
          refine held_take 16 (some 68) (.bool true) rfl rfl (by kernel_rfl) (by kernel_rfl) (by kernel_rfl) (fun _ _ _ h => h) (by rfl) (fun W' hSW => (by kernel_rfl)) hH ?_
          simp only [Act.put, List.setIfInBounds_toArray, List.set_cons_zero, List.set_cons_succ]
          refine held_take 17 (some 69) (.bool true) rfl rfl (by kernel_rfl) (by kernel_rfl) (by kernel_rfl) (fun _ _ _ h => h) (by rfl) (fun W' hSW => (by kernel_rfl)) hH ?_
          simp only [Act.put, List.setIfInBounds_toArray, List.set_cons_zero, List.set_cons_succ]
          refine held_take 18 (some 70) (.pointer (some ⟨g, 0, none⟩)) rfl rfl (by kernel_rfl) (by kernel_rfl) (by kernel_rfl) (fun _ _ _ h => h) (by rfl) (fun W' hSW => (by kernel_rfl)) hH ?_
          simp only [Act.put, List.setIfInBounds_toArray, List.set_cons_zero, List.set_cons_succ]
          refine held_take 20 (some 72) (.int .i64 (m : Int)) rfl rfl (by kernel_rfl) (by kernel_rfl) (by kernel_rfl) (fun _ _ _ h => h) (by rfl) (fun W' hSW => (by kernel_rfl)) hH ?_
          simp only [Act.put, List.setIfInBounds_toArray, List.set_cons_zero, List.set_cons_succ]
          refine held_call (i := 19) (some 71) (.int .i64 (m : Int)) (by kernel_rfl) rfl rfl (by rfl) 23 #[.pointer (some ⟨g, 0, none⟩)] (by kernel_rfl) ((F5.out _ hH.1).mono fun _ _ q => ⟨q.1, q.2 ▸ hH⟩) (fun W' hH => ?_)
          simp only [Act.put, List.setIfInBounds_toArray, List.set_cons_zero, List.set_cons_succ]
          refine held_take 21 (some 73) (.bool true) rfl rfl (by kernel_rfl) (by kernel_rfl) (by kernel_rfl) (fun _ _ _ h => h) (by rfl) (fun W' hSW => (by go_simp)) hH ?_
          simp only [Act.put, List.setIfInBounds_toArray, List.set_cons_zero, List.set_cons_succ]
          refine held_take 22 (some 74) (.bool true) rfl rfl (by kernel_rfl) (by kernel_rfl) (by kernel_rfl) (fun _ _ _ h => h) (by rfl) (fun W' hSW => (by kernel_rfl)) hH ?_
          simp only [Act.put, List.setIfInBounds_toArray, List.set_cons_zero, List.set_cons_succ]
          refine held_take 23 (some 4) (.bool true) rfl rfl (by kernel_rfl) (by kernel_rfl) (by kernel_rfl) (fun _ _ _ h => h) (by rfl) (fun W' hSW => (by kernel_rfl)) hH ?_
          simp only [Act.put, List.setIfInBounds_toArray, List.set_cons_zero, List.set_cons_succ]
          refine wpAnyH_done (by kernel_rfl) ?_ _
          have hB := hH.1
          have HB2 := Lib.hid (up HWW.out hB)
          clear hB hH
          go_wp2
          go_ret
          exact ⟨rfl, HB2.out⟩
end Go.Proofs.YtekccgdlohofkaaDoor
