/-
What is proved here: the law DiskRefuses' walk.
-/
import Derived.Test.YtibidljblkfciaaAlv
set_option linter.unusedSimpArgs false
namespace Go.Proofs.Ytibidljblkfciaa
open Go.Word Go.RowKit

theorem held_callE {P : Program} {md : Region.Mode} {ops : Array Oper} {Q : Exit → Act → World → Prop} {S : World → Prop} {fuel : Nat} {listed : Array Bool} {a : Act} {w : World} {i : Nat} (R : Value → Prop) (d : Option Tmp) {oi : Oper} (hr : Region.ready md ops listed = [i]) (hi : ops[i]? = some oi) (hd : oi.dst = d) (hw : Region.wanted oi (yielded ops a.tmps) = true) (f : FuncId) (args : Array Value)
    (hx : (execOp a.eval oi).run P w = .ok (.enter f args) w) (hc : Calls P f args w fun e w' => ∃ v, e = .returned v ∧ S w' ∧ R v)
    (h : ∀ v w', S w' → R v → wpAnyH P md ops Q S fuel (listed.setIfInBounds i true) (a.put d v) w') : wpAnyH P md ops Q S (fuel + 1) listed a w :=
  wpAnyH_ready hr (by simp) (AllReadyH.cons hi (fun K hK => by
    rw [if_pos hw]
    unfold Oper.wp
    rw [hx]
    refine hc.mono ?_
    rintro e w' ⟨v, rfl, hS, hR⟩
    show K (a.put oi.dst v) w'
    rw [hd]
    exact hK.out _ _ hS (fun _ => h _ _ hS hR)) AllReadyH.nil)
theorem below_new (w : World) (o : Obj) : Below w.heap.size w (w.alloc o) := (Below.refl _ _).alloc (Nat.le_refl _) o

theorem write_L (z : Int) (at_ : Nat) (hz : z = at_) {g B base n K : Nat} {f : Nat → BitVec 8} {hv : Value} {hs : List Ent} {lf : Int} (ad : Addr) (L : Nat) (hL : L = 512) (c : Nat) (q : Nat → BitVec 8) (w : World) (ha : at_ < n) (hN : hs.length < 65536) (h1 : -1 ≤ lf) (h2 : lf ≤ 1000000)
    (h : Dsk w g B base n K f hv hs true lf) (hq : Src8 w ad q 512) (hl : ad.block < w.heap.size) (hn1 : ad.block ≠ g) (hn2 : hv.ownBlock ≠ some ad.block) :
    Calls Try.prog 22 #[.pointer (some ⟨g, 0, none⟩), .int .i64 z, .slice (some ad) L c] w fun e w' => e = .returned (.int .i64 0) ∧
      ∃ hv' e', Ent.at_ e' = at_ ∧ Ent.da e' = q ∧ Ent.dc e' = (fun j => f (512 * at_ + j)) ∧ Dsk w' g B base n K (put f (512 * at_) q) hv' (hs ++ [e']) (stepOn true lf) (stepLf lf) ∧ Below B w w' := by
  subst hL; exact write_z z at_ hz ad c q w ha hN h1 h2 h hq hl hn1 hn2
set_option maxRecDepth 100000 in
set_option maxHeartbeats 4000000 in
theorem refuses_any (z y : Int) (w : World) : Calls Try.prog 10 #[.int .i64 z, .int .i64 y] w fun e w' => e = .returned (.bool true) ∧ Below w.heap.size w w' := by
  by_cases h1 : y < 0
  · have t1 : decide (y < 0) = true := decide_eq_true h1
    go_enter Try.func10, Try.ntmps10
    go_wp2_with (go_at_call 11; (with_reducible refine (alive_any _).mono ?_); rintro e w1 ⟨rfl, hb⟩; have H1 := Lib.hid hb; clear hb)
    go_ret
    exact ⟨rfl, H1.out⟩
  have t1 : decide (y < 0) = false := decide_eq_false h1
  by_cases h2 : 2000 < y
  · have t2 : decide (2000 < y) = true := decide_eq_true h2
    go_enter Try.func10, Try.ntmps10
    go_wp2_with (go_at_call 11; (with_reducible refine (alive_any _).mono ?_); rintro e w1 ⟨rfl, hb⟩; have H1 := Lib.hid hb; clear hb)
    go_ret
    exact ⟨rfl, H1.out⟩
  have t2 : decide (2000 < y) = false := decide_eq_false h2
  obtain ⟨L, rfl⟩ : ∃ n : Nat, y = (n : Int) := ⟨y.toNat, by omega⟩
  have t2' : decide ((2000 : Int) < (L : Int)) = false := t2
  have hL : L ≤ 2000 := by omega
  have hmk := fun W => made_n L (by omega) W
  clear h1 h2
  go_enter Try.func10, Try.ntmps10
  go_upto_region 5 with (first
    | (go_at_call 11; (with_reducible refine (alive_any _).mono ?_); rintro e w1 ⟨rfl, hb⟩; have H1 := Lib.hid hb; clear hb)
    | (go_at_call 18; (with_reducible refine (new_z 6 6 rfl _ (by decide) (by decide)).mono ?_); rintro e w2 ⟨B, g, rfl, hB, hd, hb⟩; have HB := Lib.hid hB; have HD := Lib.hid hd; have H2 := Lib.hid hb; clear hB hd hb))
  clear t1 t2 t2'
  go_upto_region 6 with (first
    | (go_at_call 23; (with_reducible refine (blk_at _ _).mono ?_); rintro e w3 ⟨rfl, hl, hb⟩; have L3 := Lib.hid hl; have H3 := Lib.hid hb; clear hl hb)
    | (go_at_call 22; (with_reducible refine (write_z 1 1 rfl _ _ (blk 9) _ (by decide) (by decide) (by decide) (by decide) (dsk_below HD.out H3.out) (src_row L3.out) (lies_lt L3.out) (Nat.ne_of_gt (lies_lt HD.out.self)) (by simp [Value.ownBlock])).mono ?_); rintro e w4 ⟨rfl, hv, e', _, _, _, hd, hb⟩; have HD4 := Lib.hid (show Dsk w4 g B (g + 1) 6 (512 * 6) (put (fun _ => 0) (512 * 1) (blk 9)) hv ([] ++ [e']) true (-1) from hd); have H4 := Lib.hid hb; clear hd hb))
  have hBw : w.heap.size ≤ B := by have := HB.out; have := H1.out.size; omega
  have b3 := Lib.hid (up (up H1.out H2.out) H3.out)
  have b4 := Lib.hid (b3.out.trans (H4.out.mono hBw))
  clear HD H1 H2 H3 L3 b3 H4 HB
  go_upto_region 7 with (go_at_call 19; (with_reducible refine (fuse_any _ _ _ _ _ _ _ _ _ 1 _ (by decide) HD4.out).mono ?_); rintro e w5 ⟨rfl, hd, hg⟩; have HD5 := Lib.hid (show Dsk w5 g B (g + 1) 6 (512 * 6) (put (fun _ => 0) (512 * 1) (blk 9)) hv ([] ++ [e']) true 1 from hd); have H5 := Lib.hid hg; clear hd hg)
  have b5 := Lib.hid (b4.out.trans (grown_below (B := w.heap.size) H5.out (fun k e => by injection e with e; have := HD4.out.ord; omega) b4.out.size))
  clear HD4 b4 H5
  have hd5 := dsk_below HD5.out (below_new w5 (.cells (madeCells #[.int .u8 0] L) 5))
  have HD6 := Lib.hid hd5
  have b6 := Lib.hid (up b5.out (below_new w5 (.cells (madeCells #[.int .u8 0] L) 5)))
  have LZ := Lib.hid (lies_new w5 5 (madeCells #[.int .u8 0] L))
  have hgl := lies_lt HD5.out.self
  have HOB := Lib.hid (fun k hk => (World.ownsRow.lt HD5.out.held k hk).2)
  clear hd5 b5
  by_cases k1 : z < 0
  · have s1 : decide (z < 0) = true := decide_eq_true k1
    go_upto_region 8 with (go_at_call 22; (with_reducible refine (write_far z _ _ (.inl k1) HD6.out).mono ?_); rintro e w7 ⟨rfl, rfl⟩)
    generalize w5.alloc (.cells (madeCells #[.int .u8 0] L) 5) = w6 at *
    clear hmk LZ HD5 hgl HOB
    go_upto_region 14 with (first
      | (go_at_call 24; (with_reducible refine (num_any _ _).mono ?_); rintro e w' ⟨rfl, rfl⟩)
      | (go_at_call 21; (with_reducible refine (read_z 1 1 rfl _ (by decide) HD6.out).mono ?_); rintro e W ⟨r, rfl, hr, hl, hb⟩; have HL := Lib.hid hl; have H4 := Lib.hid hb; clear hr hl hb))
    have b7 := Lib.hid (up b6.out H4.out)
    have HD7 := Lib.hid (dsk_below HD6.out H4.out)
    have hl := HL.out
    rw [row_congr (put_same (fun _ => 0) (blk 9) (512 * 1))] at hl
    have HL2 := Lib.hid hl
    have hrW := lies_lt hl
    obtain ⟨T, hT⟩ : ∃ T, text8 (blk 9) 512 = T := ⟨_, rfl⟩
    have HT := Lib.hid hT
    clear hl HL HD6 H4 b6 hT
    have CV := Lib.hid (fun (W' : World) (h : Below W.heap.size W W') => show Src8 W' ⟨r, 0, none⟩ (blk 9) 512 from src_row (lies_below HL2.out h hrW))
    have ON := Lib.hid (fun (W' : World) (h : Below W.heap.size W W') => on_any g true W' (by rw [h.cell (p := ⟨g, 2, none⟩) (lies_lt HD7.out.self)]; exact lies_cell HD7.out.self 2))
    have PE := Lib.hid (fun (W' : World) (h : Below W.heap.size W W') => pend_any g (g + 1) hv ([] ++ [e']) W' (by simp) (Nat.lt_of_lt_of_le (lies_lt HD7.out.self) h.size) (lies_cell (dsk_below HD7.out h).self 1) (dsk_below HD7.out h).held)
    refine wp_region_held_drew (S := fun w' => Below W.heap.size W w') (by kernel_rfl) (Below.drew (Below.refl _ _)) (fun hH => ?_)
    refine held_take 0 (some 62) (.int .i64 10) rfl rfl (by kernel_rfl) (by kernel_rfl) (by kernel_rfl) (fun _ _ _ h => h) (by rfl) (fun W' hSW => (by kernel_rfl)) hH ?_
    simp only [Act.put, List.setIfInBounds_toArray, List.set_cons_zero, List.set_cons_succ]
    refine held_take 2 (some 64) (.int .i64 10) rfl rfl (by kernel_rfl) (by kernel_rfl) (by kernel_rfl) (fun _ _ _ h => h) (by rfl) (fun W' hSW => (by kernel_rfl)) hH ?_
    simp only [Act.put, List.setIfInBounds_toArray, List.set_cons_zero, List.set_cons_succ]
    refine held_call (i := 1) (some 63) (.int .i64 10) (by kernel_rfl) rfl rfl (by rfl) 24 #[.int .i64 10] (by kernel_rfl) ((num_any 10 _).mono fun _ _ q => ⟨q.1, q.2 ▸ hH⟩) (fun W' hH => ?_)
    simp only [Act.put, List.setIfInBounds_toArray, List.set_cons_zero, List.set_cons_succ]
    refine held_take 3 (some 65) (.bool true) rfl rfl (by kernel_rfl) (by kernel_rfl) (by kernel_rfl) (fun _ _ _ h => h) (by rfl) (fun W' hSW => (by go_simp)) hH ?_
    simp only [Act.put, List.setIfInBounds_toArray, List.set_cons_zero, List.set_cons_succ]
    refine held_take 4 (some 66) (.bool true) rfl rfl (by kernel_rfl) (by kernel_rfl) (by kernel_rfl) (fun _ _ _ h => h) (by rfl) (fun W' hSW => (by kernel_rfl)) hH ?_
    simp only [Act.put, List.setIfInBounds_toArray, List.set_cons_zero, List.set_cons_succ]
    refine held_take 5 (some 67) (.pointer (some ⟨g, 0, none⟩)) rfl rfl (by kernel_rfl) (by kernel_rfl) (by kernel_rfl) (fun _ _ _ h => h) (by rfl) (fun W' hSW => (by kernel_rfl)) hH ?_
    simp only [Act.put, List.setIfInBounds_toArray, List.set_cons_zero, List.set_cons_succ]
    refine held_call (i := 6) (some 68) (.bool true) (by kernel_rfl) rfl rfl (by rfl) 20 #[.pointer (some ⟨g, 0, none⟩)] (by kernel_rfl) ((ON.out _ hH).mono fun _ _ q => ⟨q.1, q.2 ▸ hH⟩) (fun W' hH => ?_)
    simp only [Act.put, List.setIfInBounds_toArray, List.set_cons_zero, List.set_cons_succ]
    refine held_take 7 (some 69) (.bool true) rfl rfl (by kernel_rfl) (by kernel_rfl) (by kernel_rfl) (fun _ _ _ h => h) (by rfl) (fun W' hSW => (by kernel_rfl)) hH ?_
    simp only [Act.put, List.setIfInBounds_toArray, List.set_cons_zero, List.set_cons_succ]
    refine held_take 8 (some 70) (.bool true) rfl rfl (by kernel_rfl) (by kernel_rfl) (by kernel_rfl) (fun _ _ _ h => h) (by rfl) (fun W' hSW => (by kernel_rfl)) hH ?_
    simp only [Act.put, List.setIfInBounds_toArray, List.set_cons_zero, List.set_cons_succ]
    refine held_take 9 (some 71) (.int .i64 0) rfl rfl (by kernel_rfl) (by kernel_rfl) (by kernel_rfl) (fun _ _ _ h => h) (by rfl) (fun W' hSW => (by kernel_rfl)) hH ?_
    simp only [Act.put, List.setIfInBounds_toArray, List.set_cons_zero, List.set_cons_succ]
    refine held_call (i := 10) (some 72) (.int .i64 0) (by kernel_rfl) rfl rfl (by rfl) 24 #[.int .i64 0] (by kernel_rfl) ((num_any 0 _).mono fun _ _ q => ⟨q.1, q.2 ▸ hH⟩) (fun W' hH => ?_)
    simp only [Act.put, List.setIfInBounds_toArray, List.set_cons_zero, List.set_cons_succ]
    refine held_take 11 (some 73) (.bool true) rfl rfl (by kernel_rfl) (by kernel_rfl) (by kernel_rfl) (fun _ _ _ h => h) (by rfl) (fun W' hSW => (by go_simp)) hH ?_
    simp only [Act.put, List.setIfInBounds_toArray, List.set_cons_zero, List.set_cons_succ]
    refine held_take 12 (some 74) (.bool true) rfl rfl (by kernel_rfl) (by kernel_rfl) (by kernel_rfl) (fun _ _ _ h => h) (by rfl) (fun W' hSW => (by kernel_rfl)) hH ?_
    simp only [Act.put, List.setIfInBounds_toArray, List.set_cons_zero, List.set_cons_succ]
    refine held_take 13 (some 75) (.bool true) rfl rfl (by kernel_rfl) (by kernel_rfl) (by kernel_rfl) (fun _ _ _ h => h) (by rfl) (fun W' hSW => (by kernel_rfl)) hH ?_
    simp only [Act.put, List.setIfInBounds_toArray, List.set_cons_zero, List.set_cons_succ]
    refine held_take 14 (some 76) (.slice (some ⟨r, 0, none⟩) 512 512) rfl rfl (by kernel_rfl) (by kernel_rfl) (by kernel_rfl) (fun _ _ _ h => h) (by rfl) (fun W' hSW => (by kernel_rfl)) hH ?_
    simp only [Act.put, List.setIfInBounds_toArray, List.set_cons_zero, List.set_cons_succ]
    refine held_take 15 (some 77) (.string T) rfl rfl (by kernel_rfl) (by kernel_rfl) (by kernel_rfl) (fun _ _ _ h => h) (by rfl) (fun W' hSW => (by rw [← HT.out]; exact conv_op _ rfl _ _ _ rfl _ (CV.out _ hSW))) hH ?_
    simp only [Act.put, List.setIfInBounds_toArray, List.set_cons_zero, List.set_cons_succ]
    refine held_call2 (i := 16) (fun w' => Lies w' W'.heap.size 5 (yRow (blk 9) 512)) (some 78) (.slice (some ⟨W'.heap.size, 0, none⟩) 512 512) (by kernel_rfl) rfl rfl (by rfl) 23 #[.int .i64 9] (by kernel_rfl) ((blk_at 9 _).mono fun _ _ q => ⟨q.1, up hH q.2.2, q.2.1⟩) (fun W5 hH hR => ?_)
    simp only [Act.put, List.setIfInBounds_toArray, List.set_cons_zero, List.set_cons_succ]
    refine held_one (i := 17) (some 79) (.string T) (by kernel_rfl) rfl rfl (by rfl) (by rw [← HT.out]; exact conv_op _ rfl _ _ _ rfl _ (src_row hR)) hH ?_
    simp only [Act.put, List.setIfInBounds_toArray, List.set_cons_zero, List.set_cons_succ]
    refine held_take 18 (some 80) (.bool true) rfl rfl (by kernel_rfl) (by kernel_rfl) (by kernel_rfl) (fun _ _ _ h => h) (by rfl) (fun W' hSW => (by go_simp)) hH ?_
    simp only [Act.put, List.setIfInBounds_toArray, List.set_cons_zero, List.set_cons_succ]
    refine held_take 19 (some 81) (.bool true) rfl rfl (by kernel_rfl) (by kernel_rfl) (by kernel_rfl) (fun _ _ _ h => h) (by rfl) (fun W' hSW => (by kernel_rfl)) hH ?_
    simp only [Act.put, List.setIfInBounds_toArray, List.set_cons_zero, List.set_cons_succ]
    refine held_take 20 (some 82) (.bool true) rfl rfl (by kernel_rfl) (by kernel_rfl) (by kernel_rfl) (fun _ _ _ h => h) (by rfl) (fun W' hSW => (by kernel_rfl)) hH ?_
    simp only [Act.put, List.setIfInBounds_toArray, List.set_cons_zero, List.set_cons_succ]
    refine held_take 21 (some 83) (.pointer (some ⟨g, 0, none⟩)) rfl rfl (by kernel_rfl) (by kernel_rfl) (by kernel_rfl) (fun _ _ _ h => h) (by rfl) (fun W' hSW => (by kernel_rfl)) hH ?_
    simp only [Act.put, List.setIfInBounds_toArray, List.set_cons_zero, List.set_cons_succ]
    refine held_callE (i := 22) (fun v => ∃ A C, v = .slice A 1 C) (some 84) (by kernel_rfl) rfl rfl (by rfl) 27 #[.pointer (some ⟨g, 0, none⟩)] (by kernel_rfl) ((PE.out _ hH).mono fun _ _ ⟨A, C, he, _, hb⟩ => ⟨_, he, up hH hb, A, C, rfl⟩) (fun v W6 hH hR => ?_)
    simp only [Act.put, List.setIfInBounds_toArray, List.set_cons_zero, List.set_cons_succ]
    obtain ⟨A, C, rfl⟩ := hR
    refine held_take 23 (some 85) (.int .i64 1) rfl rfl (by kernel_rfl) (by kernel_rfl) (by kernel_rfl) (fun _ _ _ h => h) (by rfl) (fun W' hSW => (by go_simp)) hH ?_
    simp only [Act.put, List.setIfInBounds_toArray, List.set_cons_zero, List.set_cons_succ]
    refine held_take 24 (some 86) (.bool true) rfl rfl (by kernel_rfl) (by kernel_rfl) (by kernel_rfl) (fun _ _ _ h => h) (by rfl) (fun W' hSW => (by go_simp)) hH ?_
    simp only [Act.put, List.setIfInBounds_toArray, List.set_cons_zero, List.set_cons_succ]
    refine held_take 25 (some 87) (.bool true) rfl rfl (by kernel_rfl) (by kernel_rfl) (by kernel_rfl) (fun _ _ _ h => h) (by rfl) (fun W' hSW => (by kernel_rfl)) hH ?_
    simp only [Act.put, List.setIfInBounds_toArray, List.set_cons_zero, List.set_cons_succ]
    refine held_take 26 (some 4) (.bool true) rfl rfl (by kernel_rfl) (by kernel_rfl) (by kernel_rfl) (fun _ _ _ h => h) (by rfl) (fun W' hSW => (by kernel_rfl)) hH ?_
    simp only [Act.put, List.setIfInBounds_toArray, List.set_cons_zero, List.set_cons_succ]
    refine wpAnyH_done (by kernel_rfl) ?_ _
    have HB2 := Lib.hid (up b7.out hH)
    clear hH
    go_wp2
    go_ret
    exact ⟨rfl, HB2.out⟩
  have s1 : decide (z < 0) = false := decide_eq_false k1
  by_cases k2 : 6 ≤ z
  · have s2 : decide (6 ≤ z) = true := decide_eq_true k2
    go_upto_region 8 with (go_at_call 22; (with_reducible refine (write_far z _ _ (.inr k2) HD6.out).mono ?_); rintro e w7 ⟨rfl, rfl⟩)
    generalize w5.alloc (.cells (madeCells #[.int .u8 0] L) 5) = w6 at *
    clear hmk LZ HD5 hgl HOB
    go_upto_region 14 with (first
      | (go_at_call 24; (with_reducible refine (num_any _ _).mono ?_); rintro e w' ⟨rfl, rfl⟩)
      | (go_at_call 21; (with_reducible refine (read_z 1 1 rfl _ (by decide) HD6.out).mono ?_); rintro e W ⟨r, rfl, hr, hl, hb⟩; have HL := Lib.hid hl; have H4 := Lib.hid hb; clear hr hl hb))
    have b7 := Lib.hid (up b6.out H4.out)
    have HD7 := Lib.hid (dsk_below HD6.out H4.out)
    have hl := HL.out
    rw [row_congr (put_same (fun _ => 0) (blk 9) (512 * 1))] at hl
    have HL2 := Lib.hid hl
    have hrW := lies_lt hl
    obtain ⟨T, hT⟩ : ∃ T, text8 (blk 9) 512 = T := ⟨_, rfl⟩
    have HT := Lib.hid hT
    clear hl HL HD6 H4 b6 hT
    have CV := Lib.hid (fun (W' : World) (h : Below W.heap.size W W') => show Src8 W' ⟨r, 0, none⟩ (blk 9) 512 from src_row (lies_below HL2.out h hrW))
    have ON := Lib.hid (fun (W' : World) (h : Below W.heap.size W W') => on_any g true W' (by rw [h.cell (p := ⟨g, 2, none⟩) (lies_lt HD7.out.self)]; exact lies_cell HD7.out.self 2))
    have PE := Lib.hid (fun (W' : World) (h : Below W.heap.size W W') => pend_any g (g + 1) hv ([] ++ [e']) W' (by simp) (Nat.lt_of_lt_of_le (lies_lt HD7.out.self) h.size) (lies_cell (dsk_below HD7.out h).self 1) (dsk_below HD7.out h).held)
    refine wp_region_held_drew (S := fun w' => Below W.heap.size W w') (by kernel_rfl) (Below.drew (Below.refl _ _)) (fun hH => ?_)
    refine held_take 0 (some 62) (.int .i64 10) rfl rfl (by kernel_rfl) (by kernel_rfl) (by kernel_rfl) (fun _ _ _ h => h) (by rfl) (fun W' hSW => (by kernel_rfl)) hH ?_
    simp only [Act.put, List.setIfInBounds_toArray, List.set_cons_zero, List.set_cons_succ]
    refine held_take 2 (some 64) (.int .i64 10) rfl rfl (by kernel_rfl) (by kernel_rfl) (by kernel_rfl) (fun _ _ _ h => h) (by rfl) (fun W' hSW => (by kernel_rfl)) hH ?_
    simp only [Act.put, List.setIfInBounds_toArray, List.set_cons_zero, List.set_cons_succ]
    refine held_call (i := 1) (some 63) (.int .i64 10) (by kernel_rfl) rfl rfl (by rfl) 24 #[.int .i64 10] (by kernel_rfl) ((num_any 10 _).mono fun _ _ q => ⟨q.1, q.2 ▸ hH⟩) (fun W' hH => ?_)
    simp only [Act.put, List.setIfInBounds_toArray, List.set_cons_zero, List.set_cons_succ]
    refine held_take 3 (some 65) (.bool true) rfl rfl (by kernel_rfl) (by kernel_rfl) (by kernel_rfl) (fun _ _ _ h => h) (by rfl) (fun W' hSW => (by go_simp)) hH ?_
    simp only [Act.put, List.setIfInBounds_toArray, List.set_cons_zero, List.set_cons_succ]
    refine held_take 4 (some 66) (.bool true) rfl rfl (by kernel_rfl) (by kernel_rfl) (by kernel_rfl) (fun _ _ _ h => h) (by rfl) (fun W' hSW => (by kernel_rfl)) hH ?_
    simp only [Act.put, List.setIfInBounds_toArray, List.set_cons_zero, List.set_cons_succ]
    refine held_take 5 (some 67) (.pointer (some ⟨g, 0, none⟩)) rfl rfl (by kernel_rfl) (by kernel_rfl) (by kernel_rfl) (fun _ _ _ h => h) (by rfl) (fun W' hSW => (by kernel_rfl)) hH ?_
    simp only [Act.put, List.setIfInBounds_toArray, List.set_cons_zero, List.set_cons_succ]
    refine held_call (i := 6) (some 68) (.bool true) (by kernel_rfl) rfl rfl (by rfl) 20 #[.pointer (some ⟨g, 0, none⟩)] (by kernel_rfl) ((ON.out _ hH).mono fun _ _ q => ⟨q.1, q.2 ▸ hH⟩) (fun W' hH => ?_)
    simp only [Act.put, List.setIfInBounds_toArray, List.set_cons_zero, List.set_cons_succ]
    refine held_take 7 (some 69) (.bool true) rfl rfl (by kernel_rfl) (by kernel_rfl) (by kernel_rfl) (fun _ _ _ h => h) (by rfl) (fun W' hSW => (by kernel_rfl)) hH ?_
    simp only [Act.put, List.setIfInBounds_toArray, List.set_cons_zero, List.set_cons_succ]
    refine held_take 8 (some 70) (.bool true) rfl rfl (by kernel_rfl) (by kernel_rfl) (by kernel_rfl) (fun _ _ _ h => h) (by rfl) (fun W' hSW => (by kernel_rfl)) hH ?_
    simp only [Act.put, List.setIfInBounds_toArray, List.set_cons_zero, List.set_cons_succ]
    refine held_take 9 (some 71) (.int .i64 0) rfl rfl (by kernel_rfl) (by kernel_rfl) (by kernel_rfl) (fun _ _ _ h => h) (by rfl) (fun W' hSW => (by kernel_rfl)) hH ?_
    simp only [Act.put, List.setIfInBounds_toArray, List.set_cons_zero, List.set_cons_succ]
    refine held_call (i := 10) (some 72) (.int .i64 0) (by kernel_rfl) rfl rfl (by rfl) 24 #[.int .i64 0] (by kernel_rfl) ((num_any 0 _).mono fun _ _ q => ⟨q.1, q.2 ▸ hH⟩) (fun W' hH => ?_)
    simp only [Act.put, List.setIfInBounds_toArray, List.set_cons_zero, List.set_cons_succ]
    refine held_take 11 (some 73) (.bool true) rfl rfl (by kernel_rfl) (by kernel_rfl) (by kernel_rfl) (fun _ _ _ h => h) (by rfl) (fun W' hSW => (by go_simp)) hH ?_
    simp only [Act.put, List.setIfInBounds_toArray, List.set_cons_zero, List.set_cons_succ]
    refine held_take 12 (some 74) (.bool true) rfl rfl (by kernel_rfl) (by kernel_rfl) (by kernel_rfl) (fun _ _ _ h => h) (by rfl) (fun W' hSW => (by kernel_rfl)) hH ?_
    simp only [Act.put, List.setIfInBounds_toArray, List.set_cons_zero, List.set_cons_succ]
    refine held_take 13 (some 75) (.bool true) rfl rfl (by kernel_rfl) (by kernel_rfl) (by kernel_rfl) (fun _ _ _ h => h) (by rfl) (fun W' hSW => (by kernel_rfl)) hH ?_
    simp only [Act.put, List.setIfInBounds_toArray, List.set_cons_zero, List.set_cons_succ]
    refine held_take 14 (some 76) (.slice (some ⟨r, 0, none⟩) 512 512) rfl rfl (by kernel_rfl) (by kernel_rfl) (by kernel_rfl) (fun _ _ _ h => h) (by rfl) (fun W' hSW => (by kernel_rfl)) hH ?_
    simp only [Act.put, List.setIfInBounds_toArray, List.set_cons_zero, List.set_cons_succ]
    refine held_take 15 (some 77) (.string T) rfl rfl (by kernel_rfl) (by kernel_rfl) (by kernel_rfl) (fun _ _ _ h => h) (by rfl) (fun W' hSW => (by rw [← HT.out]; exact conv_op _ rfl _ _ _ rfl _ (CV.out _ hSW))) hH ?_
    simp only [Act.put, List.setIfInBounds_toArray, List.set_cons_zero, List.set_cons_succ]
    refine held_call2 (i := 16) (fun w' => Lies w' W'.heap.size 5 (yRow (blk 9) 512)) (some 78) (.slice (some ⟨W'.heap.size, 0, none⟩) 512 512) (by kernel_rfl) rfl rfl (by rfl) 23 #[.int .i64 9] (by kernel_rfl) ((blk_at 9 _).mono fun _ _ q => ⟨q.1, up hH q.2.2, q.2.1⟩) (fun W5 hH hR => ?_)
    simp only [Act.put, List.setIfInBounds_toArray, List.set_cons_zero, List.set_cons_succ]
    refine held_one (i := 17) (some 79) (.string T) (by kernel_rfl) rfl rfl (by rfl) (by rw [← HT.out]; exact conv_op _ rfl _ _ _ rfl _ (src_row hR)) hH ?_
    simp only [Act.put, List.setIfInBounds_toArray, List.set_cons_zero, List.set_cons_succ]
    refine held_take 18 (some 80) (.bool true) rfl rfl (by kernel_rfl) (by kernel_rfl) (by kernel_rfl) (fun _ _ _ h => h) (by rfl) (fun W' hSW => (by go_simp)) hH ?_
    simp only [Act.put, List.setIfInBounds_toArray, List.set_cons_zero, List.set_cons_succ]
    refine held_take 19 (some 81) (.bool true) rfl rfl (by kernel_rfl) (by kernel_rfl) (by kernel_rfl) (fun _ _ _ h => h) (by rfl) (fun W' hSW => (by kernel_rfl)) hH ?_
    simp only [Act.put, List.setIfInBounds_toArray, List.set_cons_zero, List.set_cons_succ]
    refine held_take 20 (some 82) (.bool true) rfl rfl (by kernel_rfl) (by kernel_rfl) (by kernel_rfl) (fun _ _ _ h => h) (by rfl) (fun W' hSW => (by kernel_rfl)) hH ?_
    simp only [Act.put, List.setIfInBounds_toArray, List.set_cons_zero, List.set_cons_succ]
    refine held_take 21 (some 83) (.pointer (some ⟨g, 0, none⟩)) rfl rfl (by kernel_rfl) (by kernel_rfl) (by kernel_rfl) (fun _ _ _ h => h) (by rfl) (fun W' hSW => (by kernel_rfl)) hH ?_
    simp only [Act.put, List.setIfInBounds_toArray, List.set_cons_zero, List.set_cons_succ]
    refine held_callE (i := 22) (fun v => ∃ A C, v = .slice A 1 C) (some 84) (by kernel_rfl) rfl rfl (by rfl) 27 #[.pointer (some ⟨g, 0, none⟩)] (by kernel_rfl) ((PE.out _ hH).mono fun _ _ ⟨A, C, he, _, hb⟩ => ⟨_, he, up hH hb, A, C, rfl⟩) (fun v W6 hH hR => ?_)
    simp only [Act.put, List.setIfInBounds_toArray, List.set_cons_zero, List.set_cons_succ]
    obtain ⟨A, C, rfl⟩ := hR
    refine held_take 23 (some 85) (.int .i64 1) rfl rfl (by kernel_rfl) (by kernel_rfl) (by kernel_rfl) (fun _ _ _ h => h) (by rfl) (fun W' hSW => (by go_simp)) hH ?_
    simp only [Act.put, List.setIfInBounds_toArray, List.set_cons_zero, List.set_cons_succ]
    refine held_take 24 (some 86) (.bool true) rfl rfl (by kernel_rfl) (by kernel_rfl) (by kernel_rfl) (fun _ _ _ h => h) (by rfl) (fun W' hSW => (by go_simp)) hH ?_
    simp only [Act.put, List.setIfInBounds_toArray, List.set_cons_zero, List.set_cons_succ]
    refine held_take 25 (some 87) (.bool true) rfl rfl (by kernel_rfl) (by kernel_rfl) (by kernel_rfl) (fun _ _ _ h => h) (by rfl) (fun W' hSW => (by kernel_rfl)) hH ?_
    simp only [Act.put, List.setIfInBounds_toArray, List.set_cons_zero, List.set_cons_succ]
    refine held_take 26 (some 4) (.bool true) rfl rfl (by kernel_rfl) (by kernel_rfl) (by kernel_rfl) (fun _ _ _ h => h) (by rfl) (fun W' hSW => (by kernel_rfl)) hH ?_
    simp only [Act.put, List.setIfInBounds_toArray, List.set_cons_zero, List.set_cons_succ]
    refine wpAnyH_done (by kernel_rfl) ?_ _
    have HB2 := Lib.hid (up b7.out hH)
    clear hH
    go_wp2
    go_ret
    exact ⟨rfl, HB2.out⟩
  have s2 : decide (6 ≤ z) = false := decide_eq_false k2
  by_cases k3 : L = 512
  · obtain ⟨at_, rfl⟩ : ∃ n : Nat, z = (n : Int) := ⟨z.toNat, by omega⟩
    have lz : Lies (w5.alloc (.cells (madeCells #[.int .u8 0] L) 5)) w5.heap.size 5 (yRow (fun _ => 0) L) := by rw [← made_zero]; exact LZ.out
    have LZ2 := Lib.hid lz
    have SZ := Lib.hid (show Src8 (w5.alloc (.cells (madeCells #[.int .u8 0] L) 5)) ⟨w5.heap.size, 0, none⟩ (fun _ => 0) 512 from fun j hj => by
      have h9 : ∀ j, j < L → (w5.alloc (.cells (madeCells #[.int .u8 0] L) 5)).cell? ((⟨w5.heap.size, 0, none⟩ : Addr).add j) = some (Y ((fun _ => 0) j)) := src_row lz
      exact h9 j (by omega))
    have s3 : (at_ : Int) < 6 := by omega
    have ha : at_ < 6 := by omega
    have s4 : ((L : Int) == 512) = true := by rw [k3]; rfl
    have HK := Lib.hid k3
    clear lz LZ k3
    go_upto_region 8 with (go_at_call 22; (with_reducible refine (write_L (at_ : Int) at_ rfl _ L HK.out _ (fun _ => 0) _ ha (by simp) (by decide) (by decide) HD6.out SZ.out (lies_lt LZ2.out) (Nat.ne_of_gt hgl) (fun e => absurd (HOB.out _ e) (Nat.lt_irrefl _))).mono ?_); rintro e w7 ⟨rfl, _, _, _, _, _, _, hb⟩; have H7 := Lib.hid hb; clear hb)
    have HB2 := Lib.hid (b6.out.trans (H7.out.mono hBw))
    clear hmk HD6 HD5 LZ2 H7 HOB b6
    go_wp2_with (go_at_call 24; (with_reducible refine (num_any _ _).mono ?_); rintro e w' ⟨rfl, rfl⟩)
    go_ret
    exact ⟨rfl, HB2.out⟩
  · go_upto_region 8 with (go_at_call 22; (with_reducible refine (write_len z _ L L _ (by omega) (by omega) k3 HD6.out).mono ?_); rintro e w7 ⟨rfl, rfl⟩)
    generalize w5.alloc (.cells (madeCells #[.int .u8 0] L) 5) = w6 at *
    clear hmk LZ HD5 hgl HOB
    go_upto_region 14 with (first
      | (go_at_call 24; (with_reducible refine (num_any _ _).mono ?_); rintro e w' ⟨rfl, rfl⟩)
      | (go_at_call 21; (with_reducible refine (read_z 1 1 rfl _ (by decide) HD6.out).mono ?_); rintro e W ⟨r, rfl, hr, hl, hb⟩; have HL := Lib.hid hl; have H4 := Lib.hid hb; clear hr hl hb))
    have b7 := Lib.hid (up b6.out H4.out)
    have HD7 := Lib.hid (dsk_below HD6.out H4.out)
    have hl := HL.out
    rw [row_congr (put_same (fun _ => 0) (blk 9) (512 * 1))] at hl
    have HL2 := Lib.hid hl
    have hrW := lies_lt hl
    obtain ⟨T, hT⟩ : ∃ T, text8 (blk 9) 512 = T := ⟨_, rfl⟩
    have HT := Lib.hid hT
    clear hl HL HD6 H4 b6 hT
    have CV := Lib.hid (fun (W' : World) (h : Below W.heap.size W W') => show Src8 W' ⟨r, 0, none⟩ (blk 9) 512 from src_row (lies_below HL2.out h hrW))
    have ON := Lib.hid (fun (W' : World) (h : Below W.heap.size W W') => on_any g true W' (by rw [h.cell (p := ⟨g, 2, none⟩) (lies_lt HD7.out.self)]; exact lies_cell HD7.out.self 2))
    have PE := Lib.hid (fun (W' : World) (h : Below W.heap.size W W') => pend_any g (g + 1) hv ([] ++ [e']) W' (by simp) (Nat.lt_of_lt_of_le (lies_lt HD7.out.self) h.size) (lies_cell (dsk_below HD7.out h).self 1) (dsk_below HD7.out h).held)
    refine wp_region_held_drew (S := fun w' => Below W.heap.size W w') (by kernel_rfl) (Below.drew (Below.refl _ _)) (fun hH => ?_)
    refine held_take 0 (some 62) (.int .i64 1) rfl rfl (by kernel_rfl) (by kernel_rfl) (by kernel_rfl) (fun _ _ _ h => h) (by rfl) (fun W' hSW => (by kernel_rfl)) hH ?_
    simp only [Act.put, List.setIfInBounds_toArray, List.set_cons_zero, List.set_cons_succ]
    refine held_take 2 (some 64) (.int .i64 1) rfl rfl (by kernel_rfl) (by kernel_rfl) (by kernel_rfl) (fun _ _ _ h => h) (by rfl) (fun W' hSW => (by kernel_rfl)) hH ?_
    simp only [Act.put, List.setIfInBounds_toArray, List.set_cons_zero, List.set_cons_succ]
    refine held_call (i := 1) (some 63) (.int .i64 1) (by kernel_rfl) rfl rfl (by rfl) 24 #[.int .i64 1] (by kernel_rfl) ((num_any 1 _).mono fun _ _ q => ⟨q.1, q.2 ▸ hH⟩) (fun W' hH => ?_)
    simp only [Act.put, List.setIfInBounds_toArray, List.set_cons_zero, List.set_cons_succ]
    refine held_take 3 (some 65) (.bool true) rfl rfl (by kernel_rfl) (by kernel_rfl) (by kernel_rfl) (fun _ _ _ h => h) (by rfl) (fun W' hSW => (by go_simp)) hH ?_
    simp only [Act.put, List.setIfInBounds_toArray, List.set_cons_zero, List.set_cons_succ]
    refine held_take 4 (some 66) (.bool true) rfl rfl (by kernel_rfl) (by kernel_rfl) (by kernel_rfl) (fun _ _ _ h => h) (by rfl) (fun W' hSW => (by kernel_rfl)) hH ?_
    simp only [Act.put, List.setIfInBounds_toArray, List.set_cons_zero, List.set_cons_succ]
    refine held_take 5 (some 67) (.pointer (some ⟨g, 0, none⟩)) rfl rfl (by kernel_rfl) (by kernel_rfl) (by kernel_rfl) (fun _ _ _ h => h) (by rfl) (fun W' hSW => (by kernel_rfl)) hH ?_
    simp only [Act.put, List.setIfInBounds_toArray, List.set_cons_zero, List.set_cons_succ]
    refine held_call (i := 6) (some 68) (.bool true) (by kernel_rfl) rfl rfl (by rfl) 20 #[.pointer (some ⟨g, 0, none⟩)] (by kernel_rfl) ((ON.out _ hH).mono fun _ _ q => ⟨q.1, q.2 ▸ hH⟩) (fun W' hH => ?_)
    simp only [Act.put, List.setIfInBounds_toArray, List.set_cons_zero, List.set_cons_succ]
    refine held_take 7 (some 69) (.bool true) rfl rfl (by kernel_rfl) (by kernel_rfl) (by kernel_rfl) (fun _ _ _ h => h) (by rfl) (fun W' hSW => (by kernel_rfl)) hH ?_
    simp only [Act.put, List.setIfInBounds_toArray, List.set_cons_zero, List.set_cons_succ]
    refine held_take 8 (some 70) (.bool true) rfl rfl (by kernel_rfl) (by kernel_rfl) (by kernel_rfl) (fun _ _ _ h => h) (by rfl) (fun W' hSW => (by kernel_rfl)) hH ?_
    simp only [Act.put, List.setIfInBounds_toArray, List.set_cons_zero, List.set_cons_succ]
    refine held_take 9 (some 71) (.int .i64 0) rfl rfl (by kernel_rfl) (by kernel_rfl) (by kernel_rfl) (fun _ _ _ h => h) (by rfl) (fun W' hSW => (by kernel_rfl)) hH ?_
    simp only [Act.put, List.setIfInBounds_toArray, List.set_cons_zero, List.set_cons_succ]
    refine held_call (i := 10) (some 72) (.int .i64 0) (by kernel_rfl) rfl rfl (by rfl) 24 #[.int .i64 0] (by kernel_rfl) ((num_any 0 _).mono fun _ _ q => ⟨q.1, q.2 ▸ hH⟩) (fun W' hH => ?_)
    simp only [Act.put, List.setIfInBounds_toArray, List.set_cons_zero, List.set_cons_succ]
    refine held_take 11 (some 73) (.bool true) rfl rfl (by kernel_rfl) (by kernel_rfl) (by kernel_rfl) (fun _ _ _ h => h) (by rfl) (fun W' hSW => (by go_simp)) hH ?_
    simp only [Act.put, List.setIfInBounds_toArray, List.set_cons_zero, List.set_cons_succ]
    refine held_take 12 (some 74) (.bool true) rfl rfl (by kernel_rfl) (by kernel_rfl) (by kernel_rfl) (fun _ _ _ h => h) (by rfl) (fun W' hSW => (by kernel_rfl)) hH ?_
    simp only [Act.put, List.setIfInBounds_toArray, List.set_cons_zero, List.set_cons_succ]
    refine held_take 13 (some 75) (.bool true) rfl rfl (by kernel_rfl) (by kernel_rfl) (by kernel_rfl) (fun _ _ _ h => h) (by rfl) (fun W' hSW => (by kernel_rfl)) hH ?_
    simp only [Act.put, List.setIfInBounds_toArray, List.set_cons_zero, List.set_cons_succ]
    refine held_take 14 (some 76) (.slice (some ⟨r, 0, none⟩) 512 512) rfl rfl (by kernel_rfl) (by kernel_rfl) (by kernel_rfl) (fun _ _ _ h => h) (by rfl) (fun W' hSW => (by kernel_rfl)) hH ?_
    simp only [Act.put, List.setIfInBounds_toArray, List.set_cons_zero, List.set_cons_succ]
    refine held_take 15 (some 77) (.string T) rfl rfl (by kernel_rfl) (by kernel_rfl) (by kernel_rfl) (fun _ _ _ h => h) (by rfl) (fun W' hSW => (by rw [← HT.out]; exact conv_op _ rfl _ _ _ rfl _ (CV.out _ hSW))) hH ?_
    simp only [Act.put, List.setIfInBounds_toArray, List.set_cons_zero, List.set_cons_succ]
    refine held_call2 (i := 16) (fun w' => Lies w' W'.heap.size 5 (yRow (blk 9) 512)) (some 78) (.slice (some ⟨W'.heap.size, 0, none⟩) 512 512) (by kernel_rfl) rfl rfl (by rfl) 23 #[.int .i64 9] (by kernel_rfl) ((blk_at 9 _).mono fun _ _ q => ⟨q.1, up hH q.2.2, q.2.1⟩) (fun W5 hH hR => ?_)
    simp only [Act.put, List.setIfInBounds_toArray, List.set_cons_zero, List.set_cons_succ]
    refine held_one (i := 17) (some 79) (.string T) (by kernel_rfl) rfl rfl (by rfl) (by rw [← HT.out]; exact conv_op _ rfl _ _ _ rfl _ (src_row hR)) hH ?_
    simp only [Act.put, List.setIfInBounds_toArray, List.set_cons_zero, List.set_cons_succ]
    refine held_take 18 (some 80) (.bool true) rfl rfl (by kernel_rfl) (by kernel_rfl) (by kernel_rfl) (fun _ _ _ h => h) (by rfl) (fun W' hSW => (by go_simp)) hH ?_
    simp only [Act.put, List.setIfInBounds_toArray, List.set_cons_zero, List.set_cons_succ]
    refine held_take 19 (some 81) (.bool true) rfl rfl (by kernel_rfl) (by kernel_rfl) (by kernel_rfl) (fun _ _ _ h => h) (by rfl) (fun W' hSW => (by kernel_rfl)) hH ?_
    simp only [Act.put, List.setIfInBounds_toArray, List.set_cons_zero, List.set_cons_succ]
    refine held_take 20 (some 82) (.bool true) rfl rfl (by kernel_rfl) (by kernel_rfl) (by kernel_rfl) (fun _ _ _ h => h) (by rfl) (fun W' hSW => (by kernel_rfl)) hH ?_
    simp only [Act.put, List.setIfInBounds_toArray, List.set_cons_zero, List.set_cons_succ]
    refine held_take 21 (some 83) (.pointer (some ⟨g, 0, none⟩)) rfl rfl (by kernel_rfl) (by kernel_rfl) (by kernel_rfl) (fun _ _ _ h => h) (by rfl) (fun W' hSW => (by kernel_rfl)) hH ?_
    simp only [Act.put, List.setIfInBounds_toArray, List.set_cons_zero, List.set_cons_succ]
    refine held_callE (i := 22) (fun v => ∃ A C, v = .slice A 1 C) (some 84) (by kernel_rfl) rfl rfl (by rfl) 27 #[.pointer (some ⟨g, 0, none⟩)] (by kernel_rfl) ((PE.out _ hH).mono fun _ _ ⟨A, C, he, _, hb⟩ => ⟨_, he, up hH hb, A, C, rfl⟩) (fun v W6 hH hR => ?_)
    simp only [Act.put, List.setIfInBounds_toArray, List.set_cons_zero, List.set_cons_succ]
    obtain ⟨A, C, rfl⟩ := hR
    refine held_take 23 (some 85) (.int .i64 1) rfl rfl (by kernel_rfl) (by kernel_rfl) (by kernel_rfl) (fun _ _ _ h => h) (by rfl) (fun W' hSW => (by go_simp)) hH ?_
    simp only [Act.put, List.setIfInBounds_toArray, List.set_cons_zero, List.set_cons_succ]
    refine held_take 24 (some 86) (.bool true) rfl rfl (by kernel_rfl) (by kernel_rfl) (by kernel_rfl) (fun _ _ _ h => h) (by rfl) (fun W' hSW => (by go_simp)) hH ?_
    simp only [Act.put, List.setIfInBounds_toArray, List.set_cons_zero, List.set_cons_succ]
    refine held_take 25 (some 87) (.bool true) rfl rfl (by kernel_rfl) (by kernel_rfl) (by kernel_rfl) (fun _ _ _ h => h) (by rfl) (fun W' hSW => (by kernel_rfl)) hH ?_
    simp only [Act.put, List.setIfInBounds_toArray, List.set_cons_zero, List.set_cons_succ]
    refine held_take 26 (some 4) (.bool true) rfl rfl (by kernel_rfl) (by kernel_rfl) (by kernel_rfl) (fun _ _ _ h => h) (by rfl) (fun W' hSW => (by kernel_rfl)) hH ?_
    simp only [Act.put, List.setIfInBounds_toArray, List.set_cons_zero, List.set_cons_succ]
    refine wpAnyH_done (by kernel_rfl) ?_ _
    have HB2 := Lib.hid (up b7.out hH)
    clear hH
    go_wp2
    go_ret
    exact ⟨rfl, HB2.out⟩
end Go.Proofs.Ytibidljblkfciaa
