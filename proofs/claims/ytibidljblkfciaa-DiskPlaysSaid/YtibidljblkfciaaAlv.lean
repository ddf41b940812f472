/-
What is proved here: the laws' first look at the package answers true, by a contract.
-/
import Derived.Test.YtibidljblkfciaaLow
import Derived.Test.YtibidljblkfciaaHeld
set_option linter.unusedSimpArgs false
namespace Go.Proofs.Ytibidljblkfciaa
open Go.Word Go.RowKit

theorem held_call2 {P : Program} {md : Region.Mode} {ops : Array Oper} {Q : Exit → Act → World → Prop} {S : World → Prop} {fuel : Nat} {listed : Array Bool} {a : Act} {w : World} {i : Nat} (R : World → Prop) (d : Option Tmp) (v : Value) {oi : Oper} (hr : Region.ready md ops listed = [i]) (hi : ops[i]? = some oi) (hd : oi.dst = d) (hw : Region.wanted oi (yielded ops a.tmps) = true) (f : FuncId) (args : Array Value)
    (hx : (execOp a.eval oi).run P w = .ok (.enter f args) w) (hc : Calls P f args w fun e w' => e = .returned v ∧ S w' ∧ R w')
    (h : ∀ w', S w' → R w' → wpAnyH P md ops Q S fuel (listed.setIfInBounds i true) (a.put d v) w') : wpAnyH P md ops Q S (fuel + 1) listed a w :=
  wpAnyH_ready hr (by simp) (AllReadyH.cons hi (fun K hK => by
    rw [if_pos hw]
    unfold Oper.wp
    rw [hx]
    refine hc.mono ?_
    rintro e w' ⟨rfl, hS, hR⟩
    show K (a.put oi.dst v) w'
    rw [hd]
    exact hK.out _ _ hS (fun _ => h _ hS hR)) AllReadyH.nil)
theorem conv_op {ρ : Operand → Value} {oi : Oper} {w : World} (x : Operand) (ho : oi.op = .convert 44 9 x) (ad : Addr) (k c : Nat) (hx : ρ x = .slice (some ad) k c) (f : Nat → BitVec 8) (hs : Src8 w ad f k) :
    (execOp ρ oi).run Try.prog w = .ok (.value (.string (text8 f k))) w := by
  unfold execOp
  simp only [ho, hx, Sem.run_bind, run_text ad k c f w hs]
  rfl
theorem up {W W' w' : World} (h : Below W.heap.size W W') (hb : Below W'.heap.size W' w') : Below W.heap.size W w' := h.trans (hb.mono h.size)
theorem row_congr {f f' : Nat → BitVec 8} {k : Nat} (h : ∀ j, j < k → f j = f' j) : yRow f k = yRow f' k := by
  refine Array.ext_getElem? fun j => ?_
  by_cases hj : j < k
  · rw [yRow_at _ hj, yRow_at _ hj, h j hj]
  · rw [Array.getElem?_eq_none (by rw [yRow_size]; omega), Array.getElem?_eq_none (by rw [yRow_size]; omega)]
theorem put_same (f q : Nat → BitVec 8) (p : Nat) : ∀ j, j < 512 → put f p q (p + j) = q j := fun j hj => by
  unfold put
  rw [if_pos ⟨by omega, by omega⟩, show p + j - p = j by omega]

set_option maxRecDepth 100000 in
set_option maxHeartbeats 2000000 in
theorem alive_any (w : World) : Calls Try.prog 11 #[] w fun e w' => e = .returned (.bool true) ∧ Below w.heap.size w w' := by
  have F0 := Lib.hid (new_z 2 2 rfl w (by decide) (by decide))
  go_enter Try.func11, Try.ntmps11
  go_upto_region 4 with (first
    | (go_at_call 18; (with_reducible refine F0.out.mono ?_); rintro e w1 ⟨B, g, rfl, hB, hd, hb⟩; have HB := Lib.hid hB; have HD := Lib.hid hd; have H1 := Lib.hid hb; clear hB hd hb)
    | (go_at_call 24; (with_reducible refine (num_any _ _).mono ?_); rintro e w' ⟨rfl, rfl⟩))
  clear F0
  obtain ⟨z7, hz7⟩ : ∃ z : Int, z = 7 := ⟨_, rfl⟩
  go_upto_region 5 with (first
    | (go_at_call 23; (with_reducible refine (blk_at _ _).mono ?_); rintro e w2 ⟨rfl, hl, hb⟩; have L2 := Lib.hid hl; have H2 := Lib.hid hb; clear hl hb)
    | (go_at_call 22; (with_reducible refine (write_z 1 1 rfl _ _ (blk 7) _ (by decide) (by decide) (by decide) (by decide) (dsk_below HD.out H2.out) (src_row L2.out) (lies_lt L2.out) (Nat.ne_of_gt (lies_lt HD.out.self)) (by simp [Value.ownBlock])).mono ?_); rintro e w3 ⟨rfl, hv, e', _, _, _, hd, hb⟩; have HD3 := Lib.hid hd; have H3 := Lib.hid hb; clear hd hb))
  have b2 := Lib.hid (H1.out.trans (H2.out.mono H1.out.size))
  have b3 := Lib.hid (b2.out.trans (H3.out.mono (by have := HB.out; have := HD.out.ord; omega)))
  clear HD H1 H2 L2 b2 H3
  go_upto_region 6 with (go_at_call 21; (with_reducible refine (read_z 1 1 rfl _ (by decide) (show Dsk _ _ _ _ _ _ _ _ _ true _ from HD3.out)).mono ?_); rintro e W ⟨r, rfl, hr, hl, hb⟩; have HR := Lib.hid hr; have HL := Lib.hid hl; have H4 := Lib.hid hb; clear hr hl hb)
  have b4 := Lib.hid (up b3.out H4.out)
  have HD4 := Lib.hid (dsk_below HD3.out H4.out)
  have hl := HL.out
  rw [row_congr (put_same (fun _ => 0) (blk 7) (512 * 1))] at hl
  have HL2 := Lib.hid hl
  have hrW := lies_lt hl
  obtain ⟨T, hT⟩ : ∃ T, text8 (blk 7) 512 = T := ⟨_, rfl⟩
  have HT := Lib.hid hT
  clear hl HL HD3 H4 b3 hT
  have CV := Lib.hid (fun (W' : World) (h : Below W.heap.size W W') => show Src8 W' ⟨r, 0, none⟩ (blk 7) 512 from src_row (lies_below HL2.out h hrW))
  have BL := Lib.hid (fun (W' : World) (h : Below W.heap.size W W') => blocks_any g B 2 (512 * 2) W' rfl (by decide) (by
    rw [h.cell (p := ⟨g, 0, none⟩) (lies_lt HD4.out.self)]
    exact lies_cell HD4.out.self 0))
  refine wp_region_held_drew (S := fun w' => Below W.heap.size W w') (by kernel_rfl) (Below.drew (Below.refl _ _)) (fun hH => ?_)
  refine held_take 0 (some 25) (.int .i64 0) rfl rfl (by kernel_rfl) (by kernel_rfl) (by kernel_rfl) (fun _ _ _ h => h) (by rfl) (fun W' hSW => (by kernel_rfl)) hH ?_
  simp only [Act.put, List.setIfInBounds_toArray, List.set_cons_zero, List.set_cons_succ]
  refine held_call (i := 1) (some 26) (.int .i64 0) (by kernel_rfl) rfl rfl (by rfl) 24 #[.int .i64 0] (by kernel_rfl) ((num_any 0 _).mono fun _ _ q => ⟨q.1, q.2 ▸ hH⟩) (fun W' hH => ?_)
  simp only [Act.put, List.setIfInBounds_toArray, List.set_cons_zero, List.set_cons_succ]
  refine held_take 2 (some 27) (.bool true) rfl rfl (by kernel_rfl) (by kernel_rfl) (by kernel_rfl) (fun _ _ _ h => h) (by rfl) (fun W' hSW => (by kernel_rfl)) hH ?_
  simp only [Act.put, List.setIfInBounds_toArray, List.set_cons_zero, List.set_cons_succ]
  refine held_take 3 (some 28) (.bool true) rfl rfl (by kernel_rfl) (by kernel_rfl) (by kernel_rfl) (fun _ _ _ h => h) (by rfl) (fun W' hSW => (by kernel_rfl)) hH ?_
  simp only [Act.put, List.setIfInBounds_toArray, List.set_cons_zero, List.set_cons_succ]
  refine held_take 4 (some 29) (.int .i64 0) rfl rfl (by kernel_rfl) (by kernel_rfl) (by kernel_rfl) (fun _ _ _ h => h) (by rfl) (fun W' hSW => (by kernel_rfl)) hH ?_
  simp only [Act.put, List.setIfInBounds_toArray, List.set_cons_zero, List.set_cons_succ]
  refine held_call (i := 5) (some 30) (.int .i64 0) (by kernel_rfl) rfl rfl (by rfl) 24 #[.int .i64 0] (by kernel_rfl) ((num_any 0 _).mono fun _ _ q => ⟨q.1, q.2 ▸ hH⟩) (fun W' hH => ?_)
  simp only [Act.put, List.setIfInBounds_toArray, List.set_cons_zero, List.set_cons_succ]
  refine held_take 6 (some 31) (.bool true) rfl rfl (by kernel_rfl) (by kernel_rfl) (by kernel_rfl) (fun _ _ _ h => h) (by rfl) (fun W' hSW => (by kernel_rfl)) hH ?_
  simp only [Act.put, List.setIfInBounds_toArray, List.set_cons_zero, List.set_cons_succ]
  refine held_take 7 (some 32) (.bool true) rfl rfl (by kernel_rfl) (by kernel_rfl) (by kernel_rfl) (fun _ _ _ h => h) (by rfl) (fun W' hSW => (by kernel_rfl)) hH ?_
  simp only [Act.put, List.setIfInBounds_toArray, List.set_cons_zero, List.set_cons_succ]
  refine held_take 8 (some 33) (.bool true) rfl rfl (by kernel_rfl) (by kernel_rfl) (by kernel_rfl) (fun _ _ _ h => h) (by rfl) (fun W' hSW => (by kernel_rfl)) hH ?_
  simp only [Act.put, List.setIfInBounds_toArray, List.set_cons_zero, List.set_cons_succ]
  refine held_take 9 (some 34) (.slice (some ⟨r, 0, none⟩) 512 512) rfl rfl (by kernel_rfl) (by kernel_rfl) (by kernel_rfl) (fun _ _ _ h => h) (by rfl) (fun W' hSW => (by kernel_rfl)) hH ?_
  simp only [Act.put, List.setIfInBounds_toArray, List.set_cons_zero, List.set_cons_succ]
  refine held_take 10 (some 35) (.string T) rfl rfl (by kernel_rfl) (by kernel_rfl) (by kernel_rfl) (fun _ _ _ h => h) (by rfl) (fun W' hSW => (by rw [← HT.out]; exact conv_op _ rfl _ _ _ rfl _ (CV.out _ hSW))) hH ?_
  simp only [Act.put, List.setIfInBounds_toArray, List.set_cons_zero, List.set_cons_succ]
  refine held_call2 (i := 11) (fun w' => Lies w' W'.heap.size 5 (yRow (blk 7) 512)) (some 36) (.slice (some ⟨W'.heap.size, 0, none⟩) 512 512) (by kernel_rfl) rfl rfl (by rfl) 23 #[.int .i64 7] (by kernel_rfl) ((blk_at 7 _).mono fun _ _ q => ⟨q.1, up hH q.2.2, q.2.1⟩) (fun W5 hH hR => ?_)
  simp only [Act.put, List.setIfInBounds_toArray, List.set_cons_zero, List.set_cons_succ]
  refine held_one (i := 12) (some 37) (.string T) (by kernel_rfl) rfl rfl (by rfl) (by rw [← HT.out]; exact conv_op _ rfl _ _ _ rfl _ (src_row hR)) hH ?_
  simp only [Act.put, List.setIfInBounds_toArray, List.set_cons_zero, List.set_cons_succ]
  refine held_take 13 (some 38) (.bool true) rfl rfl (by kernel_rfl) (by kernel_rfl) (by kernel_rfl) (fun _ _ _ h => h) (by rfl) (fun W' hSW => (by go_simp)) hH ?_
  simp only [Act.put, List.setIfInBounds_toArray, List.set_cons_zero, List.set_cons_succ]
  refine held_take 14 (some 39) (.bool true) rfl rfl (by kernel_rfl) (by kernel_rfl) (by kernel_rfl) (fun _ _ _ h => h) (by rfl) (fun W' hSW => (by kernel_rfl)) hH ?_
  simp only [Act.put, List.setIfInBounds_toArray, List.set_cons_zero, List.set_cons_succ]
  refine held_take 15 (some 40) (.bool true) rfl rfl (by kernel_rfl) (by kernel_rfl) (by kernel_rfl) (fun _ _ _ h => h) (by rfl) (fun W' hSW => (by kernel_rfl)) hH ?_
  simp only [Act.put, List.setIfInBounds_toArray, List.set_cons_zero, List.set_cons_succ]
  refine held_take 16 (some 41) (.pointer (some ⟨g, 0, none⟩)) rfl rfl (by kernel_rfl) (by kernel_rfl) (by kernel_rfl) (fun _ _ _ h => h) (by rfl) (fun W' hSW => (by kernel_rfl)) hH ?_
  simp only [Act.put, List.setIfInBounds_toArray, List.set_cons_zero, List.set_cons_succ]
  refine held_call (i := 17) (some 42) (.int .i64 2) (by kernel_rfl) rfl rfl (by rfl) 30 #[.pointer (some ⟨g, 0, none⟩)] (by kernel_rfl) ((BL.out _ hH).mono fun _ _ q => ⟨q.1, q.2 ▸ hH⟩) (fun W' hH => ?_)
  simp only [Act.put, List.setIfInBounds_toArray, List.set_cons_zero, List.set_cons_succ]
  refine held_take 18 (some 43) (.bool true) rfl rfl (by kernel_rfl) (by kernel_rfl) (by kernel_rfl) (fun _ _ _ h => h) (by rfl) (fun W' hSW => (by kernel_rfl)) hH ?_
  simp only [Act.put, List.setIfInBounds_toArray, List.set_cons_zero, List.set_cons_succ]
  refine held_take 19 (some 44) (.bool true) rfl rfl (by kernel_rfl) (by kernel_rfl) (by kernel_rfl) (fun _ _ _ h => h) (by rfl) (fun W' hSW => (by kernel_rfl)) hH ?_
  simp only [Act.put, List.setIfInBounds_toArray, List.set_cons_zero, List.set_cons_succ]
  refine held_take 20 (some 0) (.bool true) rfl rfl (by kernel_rfl) (by kernel_rfl) (by kernel_rfl) (fun _ _ _ h => h) (by rfl) (fun W' hSW => (by kernel_rfl)) hH ?_
  simp only [Act.put, List.setIfInBounds_toArray, List.set_cons_zero, List.set_cons_succ]
  refine wpAnyH_done (by kernel_rfl) ?_ _
  have HB2 := Lib.hid (up b4.out hH)
  clear hH
  go_wp2
  go_ret
  exact ⟨rfl, HB2.out⟩
end Go.Proofs.Ytibidljblkfciaa
