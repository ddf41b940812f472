/-
What is proved here: what package graph tells of one rename's needs, by a contract.
-/
import Derived.Test.YtmajjcmihpjchaaSrt
import Derived.Test.YtmajjcmihpjchaaLoo
import Derived.Deep.Onto
set_option linter.unusedSimpArgs false
set_option linter.unusedVariables false
namespace Go.Gra
open Go.Pth Go.Mat
/-- what a rename needs: the first one that empties its place, but itself -/
def needP (FE : Bt → Option Int) (m : Mv) (place : Int) : List Int := match FE m.2 with | some j => if j = place then [] else [j] | none => []
end Go.Gra
namespace Go.Proofs.Ytmajjcmihpjchaa
open Go.Pth Go.Tre Go.RowKit Go.Word Go.Shelf Go.Mat Go.Gra
attribute [local go_sem] guard_eq guard_ne st_eql st_neq
theorem intsO_none {w w' : World} {B : Nat} {v : Value} {zs : List Int} (h : IntsO w B v zs) (hg : w.grownBy w' none) : IntsO w' B v zs := h.kept hg (by cases v.ownBlock <;> simp)
theorem intsO_below {w w' : World} {B : Nat} {v : Value} {zs : List Int} (h : IntsO w B v zs) (hb : Below w.heap.size w w') : IntsO w' B v zs :=
  intsO_none h ⟨hb.os, hb.tape, hb.output, hb.size, fun i hi _ => hb.block i hi⟩
theorem why_range {W : World} {R : Nat} {a b c d e f g h : Value} (hL : Lies W R 52 #[a, b, c, d, e, f, g, h]) : W.rangeAt R 0 [a, b] ∧ W.rangeAt R 2 [c, d] ∧ W.rangeAt R 4 [e, f] ∧ W.rangeAt R 6 [g, h] := by
  refine ⟨?_, ?_, ?_, ?_⟩
  · intro j v hj
    rw [lies_cell hL, ← hj]
    match j, hj with
    | 0, _ => rfl
    | 1, _ => rfl
    | j + 2, hj => simp at hj
  · intro j v hj
    rw [lies_cell hL, ← hj]
    match j, hj with
    | 0, _ => rfl
    | 1, _ => rfl
    | j + 2, hj => simp at hj
  · intro j v hj
    rw [lies_cell hL, ← hj]
    match j, hj with
    | 0, _ => rfl
    | 1, _ => rfl
    | j + 2, hj => simp at hj
  · intro j v hj
    rw [lies_cell hL, ← hj]
    match j, hj with
    | 0, _ => rfl
    | 1, _ => rfl
    | j + 2, hj => simp at hj
set_option maxRecDepth 100000 in
set_option maxHeartbeats 8000000 in
theorem needs_mv (m : Mv) (place : Int) (R C bE bM bF n : Nat) (FE FF : Bt → Option Int) (w : World) (hW : WhyAt w R C bE bM bF n FE FF) (hl2 : m.2.length ≤ 100000) (hu : upP m.2 = []) :
    Calls Try.prog 10 #[mvV m, .int .i64 place, .slice (some ⟨R, 0, none⟩) 4 4] w fun e w' => (∃ A D, e = .returned (.slice A (needP FE m place).length D) ∧ IntsO w' w.heap.size (.slice A (needP FE m place).length D) (needP FE m place)) ∧ Below w.heap.size w w' := by
  obtain ⟨zs, hzs⟩ : ∃ zs, zs = needP FE m place := ⟨_, rfl⟩
  have ZS := Lib.hid hzs
  rw [← hzs]
  have Z1 := Lib.hid (show zs.length ≤ 1 by
    rw [hzs]
    unfold needP
    split
    · split <;> simp
    · simp)
  have hB : Below w.heap.size w (w.alloc (.cells #[.int .i64 3, St m.1, St m.2, .int .i64 0, .int .i64 0] 43)) := (Below.refl _ _).alloc (Nat.le_refl _) _
  have HB := Lib.hid hB
  have AL := Lib.hid (show (w.alloc (.cells #[.int .i64 3, St m.1, St m.2, .int .i64 0, .int .i64 0] 43)).rangeAt w.heap.size 0 [.int .i64 3, St m.1, St m.2, .int .i64 0, .int .i64 0] from fun j v hj => by
    rw [Nat.zero_add]
    have := lies_cell (lies_new w 43 #[.int .i64 3, St m.1, St m.2, .int .i64 0, .int .i64 0]) j
    rw [this]
    simpa using hj)
  have XZ := Lib.hid (show (w.alloc (.cells #[.int .i64 3, St m.1, St m.2, .int .i64 0, .int .i64 0] 43)).heap.size = w.heap.size + 1 by simp)
  have WX := Lib.hid (whyAt_below hW hB)
  have U := Lib.hid hu
  have KF := Lib.hid (fun W => fills_mv m W)
  have KN := Lib.hid (fun W => enters_mv m W hl2)
  have KC := Lib.hid (fun W => clears_mv m W C)
  have KU := Lib.hid (fun W => uses_mv m W)
  rw [hu] at KN
  have HL := Lib.hid hl2
  clear hzs hW hu hl2 hB
  unfold mvV at *
  go_enter Try.func10, Try.ntmps10
  go_upto_region 1 with (fail)
  generalize w.alloc (.cells #[.int .i64 3, St m.1, St m.2, .int .i64 0, .int .i64 0] 43) = X at *
  go_wp2
  go_loopw [7, 16] (fun v7 v16 wr => ∃ (r zl D : Nat) (A : Option Addr), r ≤ 4 ∧ v16 = .int .i64 (r : Int) ∧ v7 = .slice A zl D ∧ (r = 0 → v7 = .slice none 0 0) ∧ (1 ≤ r → zl = zs.length ∧ IntsO wr X.heap.size (.slice A zl D) zs) ∧ Below X.heap.size X wr) (fun _ v16 _ => 4 - (intOf v16).toNat)
  case atStart => exact ⟨0, 0, 0, none, by omega, rfl, rfl, (fun _ => rfl), (fun h => by omega), Below.refl _ _⟩
  case round =>
    obtain ⟨r, zl, D, A, hr, rfl, rfl, h0, h1, hb⟩ := hrel
    have HR := Lib.hid hb
    have WR := Lib.hid (whyAt_below WX.out hb)
    have RGS := Lib.hid (why_range WR.out.r)
    have AR := Lib.hid (show wr.rangeAt w.heap.size 0 [.int .i64 3, St m.1, St m.2, .int .i64 0, .int .i64 0] from fun j v hj => (hb.cell (p := ⟨w.heap.size, 0 + j, none⟩) (by have := XZ.out; show w.heap.size < _; omega)).trans (AL.out j v hj))
    have HH0 := Lib.hid h0
    have HH1 := Lib.hid h1
    clear hb h0 h1
    have hr5 : r = 0 ∨ r = 1 ∨ r = 2 ∨ r = 3 ∨ r = 4 := by omega
    rcases hr5 with rfl | rfl | rfl | rfl | rfl
    · have hv := HH0.out rfl
      injection hv with q1 q2 q3
      subst q1 q2 q3
      have LN := Lib.hid (lies_new wr 52 #[.nilFunc, .map none])
      have ES := Lib.hid (setRow_alloc wr 52 #[.nilFunc, .map none] #[.func (.func 16) #[] #[], .map (some bE)])
      have LR := Lib.hid (lies_new wr 52 #[.func (.func 16) #[] #[], .map (some bE)])
      go_upto_region 5 with (first
        | (refine wpList_load_mid rfl 52 _ rfl R 0 rfl [.func (.func 16) #[] #[], .map (some bE)] _ RGS.out.1 Try.underlying52 rfl (by kernel_rfl) ?_)
        | (refine wpList_store_row rfl 52 _ _ rfl wr.heap.size #[.func (.func 16) #[] #[], .map (some bE)] rfl rfl 52 _ LN.out (by kernel_rfl) rfl (by simp [Value.oneCell']) ?_; rw [ES.out]))
      have hbA : Below wr.heap.size wr (wr.alloc (.cells #[.func (.func 16) #[] #[], .map (some bE)] 52)) := (Below.refl _ _).alloc (Nat.le_refl _) _
      have H5 := Lib.hid (HR.out.trans (hbA.mono HR.out.size))
      have W5 := Lib.hid (whyAt_below WR.out hbA)
      have BA5 := Lib.hid hbA
      have A5 := Lib.hid (show (wr.alloc (.cells #[.func (.func 16) #[] #[], .map (some bE)] 52)).rangeAt w.heap.size 0 [.int .i64 3, St m.1, St m.2, .int .i64 0, .int .i64 0] from fun j v hj => (hbA.cell (p := ⟨w.heap.size, 0 + j, none⟩) (by have := XZ.out; have := HR.out.size; show w.heap.size < _; omega)).trans (AR.out j v hj))
      obtain ⟨gr, hgr⟩ : ∃ gr, gr = wr.heap.size := ⟨_, rfl⟩
      rw [← hgr] at LR
      rw [← hgr]
      clear LN ES hbA hgr WR RGS AR HR
      generalize wr.alloc (.cells #[.func (.func 16) #[] #[], .map (some bE)] 52) = W at *
      have y0 := lies_cell LR.out 0
      simp only [List.getElem?_toArray, List.getElem?_cons_zero, List.getElem?_cons_succ] at y0
      clear HH0 HH1
      go_upto_region 6 with (first
        | (refine wpList_load_mid rfl 43 _ rfl w.heap.size 0 rfl [.int .i64 3, St m.1, St m.2, .int .i64 0, .int .i64 0] _ A5.out Try.underlying43 rfl (by kernel_rfl) ?_)
        | (go_at_call 16; (with_reducible refine (KF.out W).mono ?_); rintro e w1 ⟨⟨g, rfl, hg, _⟩, hb⟩; have H1 := Lib.hid (H5.out.trans (hb.mono H5.out.size)); have G1 := Lib.hid hg; have W1 := Lib.hid (whyAt_below W5.out hb); have L1 := Lib.hid (lies_below LR.out hb (lies_lt LR.out)); clear hb hg))
      clear H5 W5 LR A5 y0 BA5
      obtain ⟨cz, hlk, hcz⟩ := numM_look W1.out.e m.2 HL.out
      have LK := Lib.hid (fun W (hW : W = w1) => (show (Instr.lookup 47 (.map (some bE)) (St m.2) true).run Try.prog W = .ok (.tuple #[.int .i64 cz, .bool (FE m.2).isSome]) W from by subst hW; exact hlk))
      have CZ := Lib.hid hcz
      clear hlk hcz
      go_loopw [7, 25] (fun v7 v25 wq => ∃ (j zl D : Nat) (A : Option Addr), j ≤ 1 ∧ v25 = .int .i64 (j : Int) ∧ v7 = .slice A zl D ∧ (j = 0 → v7 = .slice none 0 0 ∧ wq = w1) ∧ (j = 1 → zl = zs.length ∧ IntsO wq X.heap.size (.slice A zl D) zs ∧ Below X.heap.size X wq)) (fun _ v25 _ => 1 - (intOf v25).toNat)
      case atStart => exact ⟨0, 0, 0, none, Nat.zero_le _, rfl, rfl, (fun _ => ⟨rfl, rfl⟩), (fun h => by cases h)⟩
      case round =>
        obtain ⟨j, zl, D, A, hj, rfl, rfl, h0, h1⟩ := hrel
        rcases (show j = 0 ∨ j = 1 by omega) with rfl | rfl
        · obtain ⟨hv, hw⟩ := h0 rfl
          injection hv with q1 q2 q3
          subst q1 q2 q3
          have y0 := lies_cell (show Lies wr g 9 #[St m.2] by rw [hw]; exact G1.out) 0
          have y1 := lies_cell (show Lies wr gr 52 #[.func (.func 16) #[] #[], .map (some bE)] by rw [hw]; exact L1.out) 1
          simp only [List.getElem?_toArray, List.getElem?_cons_zero, List.getElem?_cons_succ] at y0 y1
          have lk := LK.out wr hw
          have H2 := Lib.hid (show Below X.heap.size X wr by rw [hw]; exact H1.out)
          clear h0 h1 hw G1 L1 LK
          cases hF : FE m.2 with
          | none =>
            rw [hF] at lk
            have zn := Lib.hid (show zs = [] by rw [ZS.out]; unfold needP; rw [hF])
            clear hF CZ
            go_wp2
            go_roundw
            case rel => exact ⟨1, 0, 0, none, by omega, rfl, rfl, (fun h => by cases h), fun _ => ⟨by rw [zn.out]; rfl, by rw [zn.out]; exact World.ownsRow_nil _ _ _ _, H2.out⟩⟩
            case measure => first | (simp [intOf]; done) | (simp [intOf]; omega)
          | some z =>
            rw [hF] at lk
            obtain rfl : cz = z := CZ.out z hF
            by_cases hp : cz = place
            · have zn := Lib.hid (show zs = [] by rw [ZS.out]; unfold needP; rw [hF]; simp [hp])
              have pn : (cz != place) = false := by simpa using hp
              clear hF CZ hp
              go_wp2
              go_roundw
              case rel => exact ⟨1, 0, 0, none, by omega, rfl, rfl, (fun h => by cases h), fun _ => ⟨by rw [zn.out]; rfl, by rw [zn.out]; exact World.ownsRow_nil _ _ _ _, H2.out⟩⟩
              case measure => first | (simp [intOf]; done) | (simp [intOf]; omega)
            · have zn := Lib.hid (show zs = [cz] by rw [ZS.out]; unfold needP; rw [hF]; simp [hp])
              have pn : (cz != place) = true := by simpa using hp
              obtain ⟨A2, D2, W2, hap, hI, hg⟩ := ints_first wr X.heap.size H2.out.size cz
              have AP := Lib.hid hap
              have H3 := Lib.hid (H2.out.grown hg H2.out.size (fun k e => by cases e))
              have I3 := Lib.hid hI
              clear hF CZ hp hap hg hI
              go_wp2_with (refine wpList_app_run (t1 := 36) (t2 := 36) rfl _ _ rfl rfl rfl AP.out ?_)
              go_roundw
              case rel => exact ⟨1, 1, D2, A2, by omega, rfl, rfl, (fun h => by cases h), fun _ => ⟨by rw [zn.out]; rfl, by rw [zn.out]; exact I3.out, H3.out⟩⟩
              case measure => first | (simp [intOf]; done) | (simp [intOf]; omega)
        · obtain ⟨hz, hI, hB⟩ := h1 rfl
          have NX := Lib.hid hI
          have ZE := Lib.hid hz
          have H3 := Lib.hid hB
          clear h0 h1 hz hI hB
          go_wp2
          go_roundw
          case rel => exact ⟨1, zl, D, A, by omega, rfl, rfl, (fun h => by omega), fun _ => ⟨ZE.out, NX.out⟩, H3.out⟩
          case measure => first | (simp [intOf]; done) | (simp [intOf]; omega)
    · have LN := Lib.hid (lies_new wr 52 #[.nilFunc, .map none])
      have ES := Lib.hid (setRow_alloc wr 52 #[.nilFunc, .map none] #[.func (.func 18) #[] #[], .map (some bM)])
      have LR := Lib.hid (lies_new wr 52 #[.func (.func 18) #[] #[], .map (some bM)])
      go_upto_region 5 with (first
        | (refine wpList_load_mid rfl 52 _ rfl R 2 rfl [.func (.func 18) #[] #[], .map (some bM)] _ RGS.out.2.1 Try.underlying52 rfl (by kernel_rfl) ?_)
        | (refine wpList_store_row rfl 52 _ _ rfl wr.heap.size #[.func (.func 18) #[] #[], .map (some bM)] rfl rfl 52 _ LN.out (by kernel_rfl) rfl (by simp [Value.oneCell']) ?_; rw [ES.out]))
      have hbA : Below wr.heap.size wr (wr.alloc (.cells #[.func (.func 18) #[] #[], .map (some bM)] 52)) := (Below.refl _ _).alloc (Nat.le_refl _) _
      have H5 := Lib.hid (HR.out.trans (hbA.mono HR.out.size))
      have W5 := Lib.hid (whyAt_below WR.out hbA)
      have BA5 := Lib.hid hbA
      have A5 := Lib.hid (show (wr.alloc (.cells #[.func (.func 18) #[] #[], .map (some bM)] 52)).rangeAt w.heap.size 0 [.int .i64 3, St m.1, St m.2, .int .i64 0, .int .i64 0] from fun j v hj => (hbA.cell (p := ⟨w.heap.size, 0 + j, none⟩) (by have := XZ.out; have := HR.out.size; show w.heap.size < _; omega)).trans (AR.out j v hj))
      obtain ⟨gr, hgr⟩ : ∃ gr, gr = wr.heap.size := ⟨_, rfl⟩
      rw [← hgr] at LR
      rw [← hgr]
      clear LN ES hbA hgr WR RGS AR HR
      generalize wr.alloc (.cells #[.func (.func 18) #[] #[], .map (some bM)] 52) = W at *
      have y0 := lies_cell LR.out 0
      simp only [List.getElem?_toArray, List.getElem?_cons_zero, List.getElem?_cons_succ] at y0
      have ZE := Lib.hid (HH1.out (by omega)).1
      have I5 := Lib.hid (intsO_below (HH1.out (by omega)).2 BA5.out)
      clear HH0 HH1 BA5
      go_upto_region 6 with (first
        | (refine wpList_load_mid rfl 43 _ rfl w.heap.size 0 rfl [.int .i64 3, St m.1, St m.2, .int .i64 0, .int .i64 0] _ A5.out Try.underlying43 rfl (by kernel_rfl) ?_)
        | (go_at_call 18; (with_reducible refine (KN.out W).mono ?_); rintro e w1 ⟨⟨g, rfl, hg, _⟩, hb⟩; have H1 := Lib.hid (H5.out.trans (hb.mono H5.out.size)); have G1 := Lib.hid hg; have W1 := Lib.hid (whyAt_below W5.out hb); have L1 := Lib.hid (lies_below LR.out hb (lies_lt LR.out)); have I1 := Lib.hid (intsO_below I5.out hb); clear hb hg))
      clear H5 W5 LR A5 y0 I5
      obtain ⟨cz, hlk, hcz⟩ := numM_look W1.out.m [] (by simp)
      have LK := Lib.hid (fun W (hW : W = w1) => (show (Instr.lookup 47 (.map (some bM)) (St []) true).run Try.prog W = .ok (.tuple #[.int .i64 cz, .bool false]) W from by subst hW; exact hlk))
      clear hlk hcz
      go_loopw [7, 25] (fun v7 v25 wq => ∃ j : Nat, j ≤ 1 ∧ v25 = .int .i64 (j : Int) ∧ v7 = .slice A zl D ∧ wq = w1) (fun _ v25 _ => 1 - (intOf v25).toNat)
      case atStart => exact ⟨0, Nat.zero_le _, rfl, rfl, rfl⟩
      case round =>
        obtain ⟨j, hj, rfl, rfl, hw⟩ := hrel
        rcases (show j = 0 ∨ j = 1 by omega) with rfl | rfl
        · have y0 := lies_cell (show Lies wr g 9 #[St []] by rw [hw]; exact G1.out) 0
          have y1 := lies_cell (show Lies wr gr 52 #[.func (.func 18) #[] #[], .map (some bM)] by rw [hw]; exact L1.out) 1
          simp only [List.getElem?_toArray, List.getElem?_cons_zero, List.getElem?_cons_succ] at y0 y1
          have lk := LK.out wr hw
          have HW := Lib.hid hw
          clear hw
          go_wp2
          go_roundw
          case rel => exact ⟨1, by omega, rfl, rfl, HW.out⟩
          case measure => first | (simp [intOf]; done) | (simp [intOf]; omega)
        · have I3 := Lib.hid (show IntsO wr X.heap.size (.slice A zl D) zs by rw [hw]; exact I1.out)
          have H3 := Lib.hid (show Below X.heap.size X wr by rw [hw]; exact H1.out)
          clear hw
          go_wp2
          go_roundw
          case rel => exact ⟨2, zl, D, A, by omega, rfl, rfl, (fun h => by omega), fun _ => ⟨ZE.out, I3.out⟩, H3.out⟩
          case measure => first | (simp [intOf]; done) | (simp [intOf]; omega)
    · have LN := Lib.hid (lies_new wr 52 #[.nilFunc, .map none])
      have ES := Lib.hid (setRow_alloc wr 52 #[.nilFunc, .map none] #[.func (.func 29) #[] #[.pointer (some ⟨C, 0, none⟩)], .map (some bE)])
      have LR := Lib.hid (lies_new wr 52 #[.func (.func 29) #[] #[.pointer (some ⟨C, 0, none⟩)], .map (some bE)])
      go_upto_region 5 with (first
        | (refine wpList_load_mid rfl 52 _ rfl R 4 rfl [.func (.func 29) #[] #[.pointer (some ⟨C, 0, none⟩)], .map (some bE)] _ RGS.out.2.2.1 Try.underlying52 rfl (by kernel_rfl) ?_)
        | (refine wpList_store_row rfl 52 _ _ rfl wr.heap.size #[.func (.func 29) #[] #[.pointer (some ⟨C, 0, none⟩)], .map (some bE)] rfl rfl 52 _ LN.out (by kernel_rfl) rfl (by simp [Value.oneCell']) ?_; rw [ES.out]))
      have hbA : Below wr.heap.size wr (wr.alloc (.cells #[.func (.func 29) #[] #[.pointer (some ⟨C, 0, none⟩)], .map (some bE)] 52)) := (Below.refl _ _).alloc (Nat.le_refl _) _
      have H5 := Lib.hid (HR.out.trans (hbA.mono HR.out.size))
      have W5 := Lib.hid (whyAt_below WR.out hbA)
      have BA5 := Lib.hid hbA
      have A5 := Lib.hid (show (wr.alloc (.cells #[.func (.func 29) #[] #[.pointer (some ⟨C, 0, none⟩)], .map (some bE)] 52)).rangeAt w.heap.size 0 [.int .i64 3, St m.1, St m.2, .int .i64 0, .int .i64 0] from fun j v hj => (hbA.cell (p := ⟨w.heap.size, 0 + j, none⟩) (by have := XZ.out; have := HR.out.size; show w.heap.size < _; omega)).trans (AR.out j v hj))
      obtain ⟨gr, hgr⟩ : ∃ gr, gr = wr.heap.size := ⟨_, rfl⟩
      rw [← hgr] at LR
      rw [← hgr]
      clear LN ES hbA hgr WR RGS AR HR
      generalize wr.alloc (.cells #[.func (.func 29) #[] #[.pointer (some ⟨C, 0, none⟩)], .map (some bE)] 52) = W at *
      have y0 := lies_cell LR.out 0
      simp only [List.getElem?_toArray, List.getElem?_cons_zero, List.getElem?_cons_succ] at y0
      have ZE := Lib.hid (HH1.out (by omega)).1
      have I5 := Lib.hid (intsO_below (HH1.out (by omega)).2 BA5.out)
      clear HH0 HH1 BA5
      go_upto_region 6 with (first
        | (refine wpList_load_mid rfl 43 _ rfl w.heap.size 0 rfl [.int .i64 3, St m.1, St m.2, .int .i64 0, .int .i64 0] _ A5.out Try.underlying43 rfl (by kernel_rfl) ?_)
        | (go_at_call 29; (with_reducible refine (KC.out W).mono ?_); rintro e w1 ⟨rfl, hb⟩; have H1 := Lib.hid (H5.out.trans (hb.mono H5.out.size)); have I1 := Lib.hid (intsO_below I5.out hb); clear hb))
      clear H5 W5 LR A5 y0 I5
      go_loopw [7, 25] (fun v7 v25 wq => v25 = .int .i64 0 ∧ v7 = .slice A zl D ∧ wq = w1) (fun _ _ _ => 0)
      case atStart => exact ⟨rfl, rfl, rfl⟩
      case round =>
        obtain ⟨rfl, rfl, hw⟩ := hrel
        have I3 := Lib.hid (show IntsO wr X.heap.size (.slice A zl D) zs by rw [hw]; exact I1.out)
        have H3 := Lib.hid (show Below X.heap.size X wr by rw [hw]; exact H1.out)
        clear hw
        go_wp2
        go_roundw
        case rel => exact ⟨3, zl, D, A, by omega, rfl, rfl, (fun h => by omega), fun _ => ⟨ZE.out, I3.out⟩, H3.out⟩
        case measure => first | (simp [intOf]; done) | (simp [intOf]; omega)
    · have LN := Lib.hid (lies_new wr 52 #[.nilFunc, .map none])
      have ES := Lib.hid (setRow_alloc wr 52 #[.nilFunc, .map none] #[.func (.func 20) #[] #[], .map (some bF)])
      have LR := Lib.hid (lies_new wr 52 #[.func (.func 20) #[] #[], .map (some bF)])
      go_upto_region 5 with (first
        | (refine wpList_load_mid rfl 52 _ rfl R 6 rfl [.func (.func 20) #[] #[], .map (some bF)] _ RGS.out.2.2.2 Try.underlying52 rfl (by kernel_rfl) ?_)
        | (refine wpList_store_row rfl 52 _ _ rfl wr.heap.size #[.func (.func 20) #[] #[], .map (some bF)] rfl rfl 52 _ LN.out (by kernel_rfl) rfl (by simp [Value.oneCell']) ?_; rw [ES.out]))
      have hbA : Below wr.heap.size wr (wr.alloc (.cells #[.func (.func 20) #[] #[], .map (some bF)] 52)) := (Below.refl _ _).alloc (Nat.le_refl _) _
      have H5 := Lib.hid (HR.out.trans (hbA.mono HR.out.size))
      have W5 := Lib.hid (whyAt_below WR.out hbA)
      have BA5 := Lib.hid hbA
      have A5 := Lib.hid (show (wr.alloc (.cells #[.func (.func 20) #[] #[], .map (some bF)] 52)).rangeAt w.heap.size 0 [.int .i64 3, St m.1, St m.2, .int .i64 0, .int .i64 0] from fun j v hj => (hbA.cell (p := ⟨w.heap.size, 0 + j, none⟩) (by have := XZ.out; have := HR.out.size; show w.heap.size < _; omega)).trans (AR.out j v hj))
      obtain ⟨gr, hgr⟩ : ∃ gr, gr = wr.heap.size := ⟨_, rfl⟩
      rw [← hgr] at LR
      rw [← hgr]
      clear LN ES hbA hgr WR RGS AR HR
      generalize wr.alloc (.cells #[.func (.func 20) #[] #[], .map (some bF)] 52) = W at *
      have y0 := lies_cell LR.out 0
      simp only [List.getElem?_toArray, List.getElem?_cons_zero, List.getElem?_cons_succ] at y0
      have ZE := Lib.hid (HH1.out (by omega)).1
      have I5 := Lib.hid (intsO_below (HH1.out (by omega)).2 BA5.out)
      clear HH0 HH1 BA5
      go_upto_region 6 with (first
        | (refine wpList_load_mid rfl 43 _ rfl w.heap.size 0 rfl [.int .i64 3, St m.1, St m.2, .int .i64 0, .int .i64 0] _ A5.out Try.underlying43 rfl (by kernel_rfl) ?_)
        | (go_at_call 20; (with_reducible refine (KU.out W).mono ?_); rintro e w1 ⟨rfl, hb⟩; have H1 := Lib.hid (H5.out.trans (hb.mono H5.out.size)); have I1 := Lib.hid (intsO_below I5.out hb); clear hb))
      clear H5 W5 LR A5 y0 I5
      go_loopw [7, 25] (fun v7 v25 wq => v25 = .int .i64 0 ∧ v7 = .slice A zl D ∧ wq = w1) (fun _ _ _ => 0)
      case atStart => exact ⟨rfl, rfl, rfl⟩
      case round =>
        obtain ⟨rfl, rfl, hw⟩ := hrel
        have I3 := Lib.hid (show IntsO wr X.heap.size (.slice A zl D) zs by rw [hw]; exact I1.out)
        have H3 := Lib.hid (show Below X.heap.size X wr by rw [hw]; exact H1.out)
        clear hw
        go_wp2
        go_roundw
        case rel => exact ⟨4, zl, D, A, by omega, rfl, rfl, (fun h => by omega), fun _ => ⟨ZE.out, I3.out⟩, H3.out⟩
        case measure => first | (simp [intOf]; done) | (simp [intOf]; omega)
    · have ZE := Lib.hid (HH1.out (by omega)).1
      have I3 := Lib.hid (HH1.out (by omega)).2
      have zl1 : zl ≤ 1 := by rw [ZE.out]; exact Z1.out
      clear HH0 HH1 WR RGS AR
      have KS := Lib.hid (sort_01 A zl D zl1 wr)
      have KP := Lib.hid (compact_01 A zl D zl1 wr)
      go_wp2_with (first
        | (go_at_call 21; (with_reducible refine KS.out.mono ?_); rintro e w5 ⟨rfl, hw5⟩; subst hw5)
        | (go_at_call 22; (with_reducible refine KP.out.mono ?_); rintro e w6 ⟨rfl, hw6⟩; subst hw6))
      go_ret
      refine ⟨⟨A, D, by rw [← ZE.out]; rfl, ?_⟩, HB.out.trans (HR.out.mono HB.out.size)⟩
      rw [← ZE.out]
      have h := I3.out
      unfold IntsO at h ⊢
      exact World.ownsRow.mono h (by have := XZ.out; omega)
end Go.Proofs.Ytmajjcmihpjchaa
