/-
What is proved here: one mkdir played on the empty tree, by a contract.
-/
import Derived.Test.YtciafdbhkfhidaaVy
import Derived.Test.YtciafdbhkfhidaaVm
set_option linter.unusedSimpArgs false
set_option linter.unusedVariables false
namespace Go.Proofs.Ytciafdbhkfhidaa
open Go.Pth Go.Tre Go.RowKit Go.Word Go.Mod
/-- what was made stands where it is shown -/
def Pm (w : World) (L : Nat) (wr : World) : Prop := w.grownBy wr (some L) ∧ ∃ G C, Lies wr L 29 #[.slice (some ⟨G, 0, none⟩) 1 C, .slice none 0 0] ∧ wr.ownsRow (w.heap.size + 1) 38 3 (.slice (some ⟨G, 0, none⟩) 1 C) 1 [St [97], .int .i64 (-1), .int .i64 493]
/-- what was made stands in the box -/
def Pz (w : World) (L G C : Nat) (wr : World) : Prop := w.grownBy wr (some L) ∧ Lies wr w.heap.size 29 #[.slice (some ⟨G, 0, none⟩) 1 C, .slice none 0 0] ∧ Lies wr L 29 #[.slice none 0 0, .slice none 0 0] ∧ wr.ownsRow (w.heap.size + 1) 38 3 (.slice (some ⟨G, 0, none⟩) 1 C) 1 [St [97], .int .i64 (-1), .int .i64 493]
theorem pz_mk {w a : World} {L G C : Nat} (hL : L < w.heap.size) (h : Ps w L a) (ho : a.ownsRow (w.heap.size + 1) 38 3 (.slice (some ⟨G, 0, none⟩) 1 C) 1 [St [97], .int .i64 (-1), .int .i64 493]) : Pz w L G C (a.setRow w.heap.size #[.slice (some ⟨G, 0, none⟩) 1 C, .slice none 0 0]) :=
  ⟨gb_set h.1 (Nat.le_refl _) _, lies_setRow h.2.2.2 _, (setRow_other a w.heap.size L _ (by omega)).trans h.2.2.1, ho.kept (grown_setRow a _ _) (.inr (by have := own_ge ho; simp [Value.ownBlock]; omega))⟩
theorem pm_mk {w a b : World} {L G C : Nat} (hL : L < w.heap.size) (h : Pz w L G C a) (hs : Shown a L (.slice (some ⟨G, 0, none⟩) 1 C) (.slice none 0 0) b) : Pm w L b :=
  ⟨h.1.trans hs.2, G, C, hs.1, h.2.2.2.kept hs.2 (.inr (by have := own_ge h.2.2.2; simp [Value.ownBlock]; omega))⟩
set_option maxRecDepth 100000 in
set_option maxHeartbeats 4000000 in
theorem play_mk (L S c : Nat) (w : World) (hL : Lies w L 29 #[.slice none 0 0, .slice none 0 0]) (hS : w.rangeAt S 0 [.int .i64 1, St [97], St [], .int .i64 493, .int .i64 0]) (hSL : S ≠ L) :
    Calls Try.prog 8 #[.agg #[.slice none 0 0, .slice none 0 0], .slice (some ⟨S, 0, none⟩) 1 c, .slice none 0 0, .func (.func 11) #[] #[.pointer (some ⟨L, 0, none⟩)]] w
      fun e w' => e = .returned (.tuple #[.int .i64 1, .int .i64 0]) ∧ Pm w L w' := by
  have hlt := lies_lt hL
  have hz25 := zero25
  have hz29 := zero29
  have LB := lies_new w 29 #[.slice none 0 0, .slice none 0 0]
  have PX := Lib.hid (show Ps w L (w.alloc (.cells #[.slice none 0 0, .slice none 0 0] 29)) from ⟨World.grownBy_alloc w _ _, by simp, lies_alloc hL _, LB⟩)
  have HS := Lib.hid hS
  have t0 := lies_cell LB 0
  have t1 := lies_cell LB 1
  simp only [List.getElem?_toArray, List.getElem?_cons_zero, List.getElem?_cons_succ] at t0 t1
  clear hL hS LB
  go_enter Try.func8, Try.ntmps8
  go_upto_region 1 with (fail)
  generalize w.alloc (.cells #[.slice none 0 0, .slice none 0 0] 29) = X at *
  go_upto_region 4 with (go_at_call 12; (with_reducible refine (loose_nil X).mono ?_); rintro e w1 ⟨rfl, hb⟩; have P1 := Lib.hid (ps_below PX.out hb); clear hb)
  have t0 := lies_cell P1.out.2.2.2 0
  have t1 := lies_cell P1.out.2.2.2 1
  simp only [List.getElem?_toArray, List.getElem?_cons_zero, List.getElem?_cons_succ] at t0 t1
  have K9 := Lib.hid (show_11 L (.slice none 0 0) (.slice none 0 0) _ _ rfl rfl w1 P1.out.2.2.1)
  go_upto_region 7 with (go_at_call 11; (with_reducible refine K9.out.mono ?_); rintro e w2 ⟨rfl, hs⟩; have P2 := Lib.hid (ps_shown hlt P1.out hs); clear hs)
  clear t0 t1
  go_wp2
  go_loopw [11, 12, 13, 14, 28] (fun _ _ _ _ v28 wr => (v28 = .int .i64 0 ∧ Ps w L wr) ∨ (v28 = .int .i64 1 ∧ Pm w L wr)) (fun _ _ _ _ v28 _ => 1 - (intOf v28).toNat)
  case atStart => exact .inl ⟨rfl, P2.out⟩
  case round =>
    rcases hrel with ⟨rfl, hps⟩ | ⟨rfl, hps⟩
    · have LM := Lib.hid (show wr.rangeAt S 0 [.int .i64 1, St [97], St [], .int .i64 493, .int .i64 0] from fun j v hj => hps.1.cell (HS.out j v hj) (by simpa using hSL))
      have LN := Lib.hid (lies_new wr 25 #[.int .i64 0, .string ⟨#[]⟩, .string ⟨#[]⟩, .int .i64 0, .int .i64 0])
      have ES := Lib.hid (setRow_alloc wr 25 #[.int .i64 0, .string ⟨#[]⟩, .string ⟨#[]⟩, .int .i64 0, .int .i64 0] #[.int .i64 1, St [97], St [], .int .i64 493, .int .i64 0])
      have PR := Lib.hid hps
      clear hps
      go_upto_region 10 with (first
        | (refine wpList_load_mid rfl 25 _ rfl S 0 rfl [.int .i64 1, St [97], St [], .int .i64 493, .int .i64 0] _ LM.out Try.underlying25 rfl (by kernel_rfl) ?_)
        | (refine wpList_store_row rfl 25 _ _ rfl wr.heap.size #[.int .i64 1, St [97], St [], .int .i64 493, .int .i64 0] rfl rfl 25 _ LN.out (by kernel_rfl) rfl (by simp [Value.oneCell', St]) ?_; rw [ES.out]))
      obtain ⟨wx, hwx⟩ : ∃ wx, wx = wr.alloc (.cells #[.int .i64 1, St [97], St [], .int .i64 493, .int .i64 0] 25) := ⟨_, rfl⟩
      rw [← hwx]
      have Lx := (show Lies wx wr.heap.size 25 #[.int .i64 1, St [97], St [], .int .i64 493, .int .i64 0] by rw [hwx]; exact lies_new _ _ _)
      have Px := Lib.hid (show Ps w L wx by rw [hwx]; exact ps_below PR.out ((Below.refl _ _).alloc (Nat.le_refl _) _))
      clear hwx LN ES LM PR hz25
      have x0 := lies_cell Lx 0
      have x1 := lies_cell Lx 1
      have x2 := lies_cell Lx 2
      have x3 := lies_cell Lx 3
      have x4 := lies_cell Lx 4
      have t0 := lies_cell Px.out.2.2.2 0
      have t1 := lies_cell Px.out.2.2.2 1
      simp only [List.getElem?_toArray, List.getElem?_cons_zero, List.getElem?_cons_succ] at t0 t1 x0 x1 x2 x3 x4
      have KS := Lib.hid (step_mk wx)
      have SX := Lib.hid Px.out.2.1
      clear Lx
      go_upto_region 11 with (first
        | (go_at_call 13; (refine KS.out.mono ?_); rintro e w3 ⟨⟨G, C, rfl, ho⟩, hb⟩; have P3 := Lib.hid (ps_below Px.out hb); have O3 := Lib.hid (ho.mono (base' := w.heap.size + 1) SX.out); have L3 := Lib.hid (lies_new w3 29 #[.slice none 0 0, .slice none 0 0]); have E3 := Lib.hid (setRow_alloc w3 29 #[.slice none 0 0, .slice none 0 0] #[.slice (some ⟨G, 0, none⟩) 1 C, .slice none 0 0]); clear hb ho)
        | (refine wpList_store_row rfl 29 _ _ rfl w3.heap.size #[.slice (some ⟨G, 0, none⟩) 1 C, .slice none 0 0] rfl rfl 29 _ L3.out (by kernel_rfl) rfl (by simp [Value.oneCell']) ?_; rw [E3.out]))
      obtain ⟨wy, hwy⟩ : ∃ wy, wy = w3.alloc (.cells #[.slice (some ⟨G, 0, none⟩) 1 C, .slice none 0 0] 29) := ⟨_, rfl⟩
      rw [← hwy]
      have Ly := (show Lies wy w3.heap.size 29 #[.slice (some ⟨G, 0, none⟩) 1 C, .slice none 0 0] by rw [hwy]; exact lies_new _ _ _)
      have Py := Lib.hid (show Ps w L wy by rw [hwy]; exact ps_below P3.out ((Below.refl _ _).alloc (Nat.le_refl _) _))
      have Oy := Lib.hid (show wy.ownsRow (w.heap.size + 1) 38 3 (.slice (some ⟨G, 0, none⟩) 1 C) 1 [St [97], .int .i64 (-1), .int .i64 493] by rw [hwy]; exact O3.out.alloc _)
      have Pz := Lib.hid (pz_mk hlt Py.out Oy.out)
      clear hwy L3 E3 P3 O3 Oy Px SX KS hz29 x0 x1 x2 x3 x4 t0 t1
      have y0 := lies_cell Ly 0
      have y1 := lies_cell Ly 1
      simp only [List.getElem?_toArray, List.getElem?_cons_zero, List.getElem?_cons_succ] at y0 y1
      clear Ly
      go_upto_region 14 with (refine wpList_store_row rfl 29 _ _ rfl w.heap.size #[.slice (some ⟨G, 0, none⟩) 1 C, .slice none 0 0] rfl rfl 29 _ Py.out.2.2.2 (by kernel_rfl) rfl (by simp [Value.oneCell']) ?_)
      clear y0 y1
      generalize wy.setRow w.heap.size #[.slice (some ⟨G, 0, none⟩) 1 C, .slice none 0 0] = wz at *
      have t0 := lies_cell Pz.out.2.1 0
      have t1 := lies_cell Pz.out.2.1 1
      simp only [List.getElem?_toArray, List.getElem?_cons_zero, List.getElem?_cons_succ] at t0 t1
      have KZ := Lib.hid (show_11 L (.slice (some ⟨G, 0, none⟩) 1 C) (.slice none 0 0) _ _ rfl rfl wz Pz.out.2.2.1)
      go_wp2_with (go_at_call 11; (with_reducible refine KZ.out.mono ?_); rintro e w6 ⟨rfl, hs⟩; have P6 := Lib.hid (pm_mk hlt Pz.out hs); clear hs)
      go_roundw
      case rel => exact .inr ⟨rfl, P6.out⟩
      case measure => decide
    · have PE := Lib.hid hps
      clear hps hz25 hz29
      go_wp2
      (try simp only [Exit.inBlock, Exit.then])
      refine bodyPost_ret (results_tmp2 rfl _ _ _) rfl ?_
      exact ⟨rfl, PE.out⟩
end Go.Proofs.Ytciafdbhkfhidaa
