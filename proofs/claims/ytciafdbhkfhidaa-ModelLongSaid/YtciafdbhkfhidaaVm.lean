/-
What is proved here: a step of mkdir on the empty tree, by a contract.
-/
import Derived.Test.YtciafdbhkfhidaaVt
import Derived.Test.YtciafdbhkfhidaaVs
import Derived.Deep.Onto
set_option linter.unusedSimpArgs false
set_option linter.unusedVariables false
namespace Go.Proofs.Ytciafdbhkfhidaa
open Go.Pth Go.Tre Go.RowKit Go.Word Go.Mod
theorem zero64 (w : World) : (zeroValue 64).run Try.prog w = .ok (.agg #[.slice none 0 0, .slice none 0 0, .int .i64 0, .int .i64 0, .string ⟨#[]⟩, .string ⟨#[]⟩, .int .i64 0, .int .i64 0, .slice none 0 0]) w := by kernel_rfl
theorem view_nil (w : World) : Calls Try.prog 22 #[.agg #[.slice none 0 0, .slice none 0 0]] w fun e w' => e = .returned (.agg #[.int .i64 0, .func (.func 32) #[] #[.pointer (some ⟨w.heap.size, 0, none⟩)]]) ∧ Below w.heap.size w w' ∧ Lies w' w.heap.size 29 #[.slice none 0 0, .slice none 0 0] := view_any none none 0 0 0 0 w
/-- the cells of mkdir's instruction -/
def insM : Array Value := #[.int .i64 1, St [97], St [], .int .i64 493, .int .i64 0]
theorem field_mk (w : World) : (Instr.field 70 (.agg kindM) 5).run Try.prog w = .ok (.func (.func 40) #[] #[]) w := by kernel_rfl
/-- the work block ahead of the node -/
def rowM : Array Value := #[.slice none 0 0, .slice none 0 0, .int .i64 0, .int .i64 1, St [97], St [], .int .i64 493, .int .i64 0, .slice none 0 0]
/-- what stands while the work goes on -/
def Sm (w wc Z : World) : Prop := Below wc.heap.size wc Z ∧ wc.heap.size < Z.heap.size ∧ Lies Z w.heap.size 29 #[.slice none 0 0, .slice none 0 0] ∧ Lies Z (w.heap.size + 1) 25 #[.int .i64 1, St [97], St [], .int .i64 493, .int .i64 0] ∧ Lies Z (w.heap.size + 1 + 1) 29 #[.slice none 0 0, .slice none 0 0] ∧ Lies Z wc.heap.size 64 #[.slice none 0 0, .slice none 0 0, .int .i64 0, .int .i64 1, St [97], St [], .int .i64 493, .int .i64 0, .slice none 0 0]
theorem sm_below {w wc a b : World} (h : Sm w wc a) (hb : Below a.heap.size a b) : Sm w wc b :=
  ⟨h.1.trans (hb.mono h.1.size), Nat.lt_of_lt_of_le h.2.1 hb.size, lies_below h.2.2.1 hb (lies_lt h.2.2.1), lies_below h.2.2.2.1 hb (lies_lt h.2.2.2.1), lies_below h.2.2.2.2.1 hb (lies_lt h.2.2.2.2.1), lies_below h.2.2.2.2.2 hb (lies_lt h.2.2.2.2.2)⟩
theorem sm_set {w wc a : World} (hs : w.heap.size + 3 ≤ wc.heap.size) (h : Sm w wc a) (k : Nat) (v : Value) (hk : (#[.slice none 0 0, .slice none 0 0, .int .i64 0, .int .i64 1, St [97], St [], .int .i64 493, .int .i64 0, .slice none 0 0] : Array Value).setIfInBounds k v = #[.slice none 0 0, .slice none 0 0, .int .i64 0, .int .i64 1, St [97], St [], .int .i64 493, .int .i64 0, .slice none 0 0]) : Sm w wc (a.setCell ⟨wc.heap.size, k, none⟩ v) := by
  refine ⟨below_setCell h.1 (Nat.le_refl _) v, by have := h.2.1; simp [World.setCell]; omega, lies_far h.2.2.1 (by simp; omega) v, lies_far h.2.2.2.1 (by simp; omega) v, lies_far h.2.2.2.2.1 (by simp; omega) v, ?_⟩
  have := lies_set h.2.2.2.2.2 k v
  rw [hk] at this
  exact this
theorem sm_drew {w wc a : World} (h : Sm w wc a) : Sm w wc a.drew := ⟨h.1.drew, h.2⟩
/-- what stands behind the node's putting -/
def Sq (wc wx : World) : Prop := Below wc.heap.size wc wx ∧ ∃ G C, Lies wx wc.heap.size 64 #[.slice (some ⟨G, 0, none⟩) 1 C, .slice none 0 0, .int .i64 0, .int .i64 1, St [97], St [], .int .i64 493, .int .i64 0, .slice none 0 0] ∧ wx.ownsRow (wc.heap.size + 1) 38 3 (.slice (some ⟨G, 0, none⟩) 1 C) 1 [St [97], .int .i64 (-1), .int .i64 493]
theorem sq_mk {w wc wq wx : World} (h : Sm w wc wq) (hp : Put wq wc.heap.size (.slice none 0 0) (.int .i64 0) (.int .i64 1) (St [97]) (St []) (.int .i64 493) (.int .i64 0) (.slice none 0 0) wx) : Sq wc wx := by
  obtain ⟨G, C, h1, h2, h3⟩ := hp
  exact ⟨h.1.grown h3 h.1.size (fun k e => by cases e; exact Nat.le_refl _), G, C, h1, h2.mono h.2.1⟩
theorem grown_setRow (w : World) (g : Nat) (cs : Array Value) : w.grownBy (w.setRow g cs) (some g) :=
  ⟨rfl, rfl, rfl, by simp [World.setRow], fun i _ hne => setRow_other w g i cs (fun h => hne (by rw [h]))⟩
theorem own_ge {w : World} {B e k n C G : Nat} {xs : List Value} (h : w.ownsRow B e k (.slice (some ⟨G, 0, none⟩) (n + 1) C) (n + 1) xs) : B ≤ G := by
  obtain ⟨g, c, e1, h2, _⟩ := h.form (by omega)
  injection e1 with e1
  injection e1 with e1
  injection e1 with e1
  omega
theorem step_end {w wy wc w5 : World} {G C : Nat} (hs : w.heap.size + 3 ≤ wy.heap.size) (H1 : Below w.heap.size w wy) (h1 : Below wy.heap.size wy wc) (hG : wy.heap.size + 1 ≤ G) (h3 : wc.ownsRow (wy.heap.size + 1) 38 3 (.slice (some ⟨G, 0, none⟩) 1 C) 1 [St [97], .int .i64 (-1), .int .i64 493])
    (L29 : Lies wc (w.heap.size + 1 + 1) 29 #[.slice none 0 0, .slice none 0 0]) (g5 : wc.grownBy w5 (some wy.heap.size)) :
    Lies w5 (w.heap.size + 1 + 1) 29 #[.slice none 0 0, .slice none 0 0] ∧ (w5.setRow (w.heap.size + 1 + 1) #[.slice (some ⟨G, 0, none⟩) 1 C, .slice none 0 0]).ownsRow w.heap.size 38 3 (.slice (some ⟨G, 0, none⟩) 1 C) 1 [St [97], .int .i64 (-1), .int .i64 493] ∧ Below w.heap.size w (w5.setRow (w.heap.size + 1 + 1) #[.slice (some ⟨G, 0, none⟩) 1 C, .slice none 0 0]) := by
  refine ⟨(g5.block _ (lies_lt L29) (by simp; omega)).trans L29, ((h3.kept g5 (.inr (by simp [Value.ownBlock]; omega))).kept (grown_setRow w5 _ _) (.inr (by simp [Value.ownBlock]; omega))).mono (by omega), below_setRow (((H1.trans (h1.mono H1.size))).grown g5 (by have := h1.size; omega) (fun k e => by cases e; omega)) (by omega) _⟩
set_option maxRecDepth 100000 in
set_option maxHeartbeats 4000000 in
theorem step_mk (w : World) :
    Calls Try.prog 13 #[.agg #[.slice none 0 0, .slice none 0 0], .agg #[.int .i64 1, St [97], St [], .int .i64 493, .int .i64 0], .slice none 0 0] w fun e w' => (∃ G C, e = .returned (.tuple #[.agg #[.slice (some ⟨G, 0, none⟩) 1 C, .slice none 0 0], .int .i64 0]) ∧ w'.ownsRow w.heap.size 38 3 (.slice (some ⟨G, 0, none⟩) 1 C) 1 [St [97], .int .i64 (-1), .int .i64 493]) ∧ Below w.heap.size w w' := by
  have hz := zero29
  have hz64 := zero64
  have HB := Lib.hid (show Below w.heap.size w (((w.alloc (.cells #[.slice none 0 0, .slice none 0 0] 29)).alloc (.cells #[.int .i64 1, St [97], St [], .int .i64 493, .int .i64 0] 25)).alloc (.cells #[.slice none 0 0, .slice none 0 0] 29)) from (((Below.refl _ _).alloc (Nat.le_refl _) _).alloc (by simp) _).alloc (by simp; omega) _)
  have LT := Lib.hid (lies_alloc (lies_alloc (lies_new w 29 #[.slice none 0 0, .slice none 0 0]) (.cells #[.int .i64 1, St [97], St [], .int .i64 493, .int .i64 0] 25)) (.cells #[.slice none 0 0, .slice none 0 0] 29))
  have LI := lies_new (w.alloc (.cells #[.slice none 0 0, .slice none 0 0] 29)) 25 #[.int .i64 1, St [97], St [], .int .i64 493, .int .i64 0]
  rw [World.size_alloc] at LI
  have LI := Lib.hid (lies_alloc LI (.cells #[.slice none 0 0, .slice none 0 0] 29))
  have LR := lies_new ((w.alloc (.cells #[.slice none 0 0, .slice none 0 0] 29)).alloc (.cells #[.int .i64 1, St [97], St [], .int .i64 493, .int .i64 0] 25)) 29 #[.slice none 0 0, .slice none 0 0]
  simp only [World.size_alloc] at LR
  have LR := Lib.hid LR
  have SZ := Lib.hid (show (((w.alloc (.cells #[.slice none 0 0, .slice none 0 0] 29)).alloc (.cells #[.int .i64 1, St [97], St [], .int .i64 493, .int .i64 0] 25)).alloc (.cells #[.slice none 0 0, .slice none 0 0] 29)).heap.size = w.heap.size + 3 by simp)
  go_enter Try.func13, Try.ntmps13
  go_upto_region 1 with (fail)
  clear hz
  generalize ((w.alloc (.cells #[.slice none 0 0, .slice none 0 0] 29)).alloc (.cells #[.int .i64 1, St [97], St [], .int .i64 493, .int .i64 0] 25)).alloc (.cells #[.slice none 0 0, .slice none 0 0] 29) = X at *
  have LTD := Lib.hid (show Lies X.drew w.heap.size 29 #[.slice none 0 0, .slice none 0 0] from LT.out)
  have LID := Lib.hid (show Lies X.drew (w.heap.size + 1) 25 #[.int .i64 1, St [97], St [], .int .i64 493, .int .i64 0] from LI.out)
  go_cut [8] from 10 to 14 (fun v8 wx => v8 = .int .i64 0 ∧ Below X.heap.size X wx)
  case first =>
    have t0 := lies_cell LT.out 0
    have t1 := lies_cell LT.out 1
    have i0 := lies_cell LI.out 0
    have i1 := lies_cell LI.out 1
    have i2 := lies_cell LI.out 2
    have i3 := lies_cell LI.out 3
    have i4 := lies_cell LI.out 4
    simp only [List.getElem?_toArray, List.getElem?_cons_zero, List.getElem?_cons_succ] at t0 t1 i0 i1 i2 i3 i4
    clear hz64
    go_region_with (first
      | (go_at_call 22; (with_reducible refine (view_nil _).mono ?_); rintro e w1 ⟨rfl, hb, hT⟩; have LI1 := lies_below LID.out hb (lies_lt LID.out); have i0 := lies_cell LI1 0; have i1 := lies_cell LI1 1; have i2 := lies_cell LI1 2; have i3 := lies_cell LI1 3; have i4 := lies_cell LI1 4; simp only [List.getElem?_toArray, List.getElem?_cons_zero, List.getElem?_cons_succ] at i0 i1 i2 i3 i4; have B1 := Lib.hid hb; have KR := Lib.hid (refuses_mk _ w1 hT); clear hb hT LI1)
      | (go_at_call 23; (refine KR.out.mono ?_); rintro e w2 ⟨rfl, hb⟩; have B2 := Lib.hid (B1.out.trans (hb.mono B1.out.size)); clear hb))
    all_goals (go_wp2_with fail; go_meet; exact ⟨rfl, (Below.refl X.heap.size X).drew.trans B2.out⟩)
  case rest =>
    rename World => wy
    obtain ⟨rfl, hb⟩ := hcut
    have LT1 := lies_below LT.out hb (lies_lt LT.out)
    have LI1 := lies_below LI.out hb (lies_lt LI.out)
    have LR1 := Lib.hid (lies_below LR.out hb (lies_lt LR.out))
    have H1 := Lib.hid (HB.out.trans (hb.mono HB.out.size))
    have S1 := Lib.hid (show w.heap.size + 3 ≤ wy.heap.size by have := hb.size; have := SZ.out; omega)
    have t0 := lies_cell LT1 0
    have t1 := lies_cell LT1 1
    have i0 := lies_cell LI1 0
    have i1 := lies_cell LI1 1
    have i2 := lies_cell LI1 2
    have i3 := lies_cell LI1 3
    have i4 := lies_cell LI1 4
    simp only [List.getElem?_toArray, List.getElem?_cons_zero, List.getElem?_cons_succ] at t0 t1 i0 i1 i2 i3 i4
    have HT1 := Lib.hid LT1
    have HI1 := Lib.hid LI1
    clear hb LT1 LI1 LT LI LR LTD LID HB
    have L64 := lies_new wy 64 #[.slice none 0 0, .slice none 0 0, .int .i64 0, .int .i64 0, .string ⟨#[]⟩, .string ⟨#[]⟩, .int .i64 0, .int .i64 0, .slice none 0 0]
    have LW := Lib.hid (lies_setRow L64 #[.slice none 0 0, .slice none 0 0, .int .i64 0, .int .i64 1, St [97], St [], .int .i64 493, .int .i64 0, .slice none 0 0])
    have BW := Lib.hid (below_setRow ((Below.refl wy.heap.size wy).alloc (Nat.le_refl _) (.cells #[.slice none 0 0, .slice none 0 0, .int .i64 0, .int .i64 0, .string ⟨#[]⟩, .string ⟨#[]⟩, .int .i64 0, .int .i64 0, .slice none 0 0] 64)) (g := wy.heap.size) (Nat.le_refl _) #[.slice none 0 0, .slice none 0 0, .int .i64 0, .int .i64 1, St [97], St [], .int .i64 493, .int .i64 0, .slice none 0 0])
    have L64 := Lib.hid L64
    go_upto_region 7 with (refine wpList_store_row rfl 64 _ _ rfl wy.heap.size #[.slice none 0 0, .slice none 0 0, .int .i64 0, .int .i64 1, St [97], St [], .int .i64 493, .int .i64 0, .slice none 0 0] rfl rfl 64 _ L64.out (by kernel_rfl) rfl (by simp [Value.oneCell', St]) ?_)
    clear hz64 t0 t1 i0 i1 i2 i3 i4
    generalize (wy.alloc (.cells #[.slice none 0 0, .slice none 0 0, .int .i64 0, .int .i64 0, .string ⟨#[]⟩, .string ⟨#[]⟩, .int .i64 0, .int .i64 0, .slice none 0 0] 64)).setRow wy.heap.size #[.slice none 0 0, .slice none 0 0, .int .i64 0, .int .i64 1, St [97], St [], .int .i64 493, .int .i64 0, .slice none 0 0] = Y at *
    have n0 : ¬ w.heap.size = wy.heap.size := by have := S1.out; omega
    have n1 : ¬ w.heap.size + 1 = wy.heap.size := by have := S1.out; omega
    have n2 : ¬ w.heap.size + 1 + 1 = wy.heap.size := by have := S1.out; omega
    have LT2 := lies_below HT1.out BW.out (lies_lt HT1.out)
    have LI2 := lies_below HI1.out BW.out (lies_lt HI1.out)
    have t0 := lies_cell LT2 0
    have t1 := lies_cell LT2 1
    have i0 := lies_cell LI2 0
    have i1 := lies_cell LI2 1
    have g0 := lies_cell LW.out 0
    have g1 := lies_cell LW.out 1
    have g2 := lies_cell LW.out 2
    have f0 := lies_free LW.out 0
    have f1 := lies_free LW.out 1
    have f2 := lies_free LW.out 2
    simp only [List.getElem?_toArray, List.getElem?_cons_zero, List.getElem?_cons_succ] at t0 t1 i0 i1 g0 g1 g2
    have HI2 := Lib.hid LI2
    have HT2 := Lib.hid LT2
    have HR2 := Lib.hid (lies_below LR1.out BW.out (lies_lt LR1.out))
    clear LT2 LI2 HT1 HI1
    go_upto_region 9 with (fail)
    have SM := Lib.hid (sm_set S1.out (sm_set S1.out (show Sm w wy Y from ⟨BW.out, lies_lt LW.out, HT2.out, HI2.out, HR2.out, LW.out⟩) 0 (.slice none 0 0) rfl) 1 (.slice none 0 0) rfl)
    clear LW BW HI2 HR2 HT2 f0 f1 f2 t0 t1 i0 i1 g0 g1 g2
    obtain ⟨Z, hZ⟩ : ∃ Z, Z = (Y.setCell ⟨wy.heap.size, 0, none⟩ (.slice none 0 0)).setCell ⟨wy.heap.size, 1, none⟩ (.slice none 0 0) := ⟨_, rfl⟩
    rw [← hZ] at SM ⊢
    clear hZ
    have t0 := lies_cell SM.out.2.2.1 0
    have t1 := lies_cell SM.out.2.2.1 1
    have i1 := lies_cell SM.out.2.2.2.1 1
    simp only [List.getElem?_toArray, List.getElem?_cons_zero, List.getElem?_cons_succ] at t0 t1 i1
    go_upto_region 10 with (go_at_call 24; (with_reducible refine (place_empty (St [97]) Z).mono ?_); rintro e w1 ⟨rfl, hb⟩; have SM1 := Lib.hid (sm_below SM.out hb); have g2 := lies_cell SM1.out.2.2.2.2.2 2; have f2 := lies_free SM1.out.2.2.2.2.2 2; simp only [List.getElem?_toArray, List.getElem?_cons_zero, List.getElem?_cons_succ] at g2; clear hb)
    have SM2 := Lib.hid (sm_set S1.out SM1.out 2 (.int .i64 0) rfl)
    clear g2 f2 t0 t1 i1 SM SM1 n0 n1 n2
    obtain ⟨Q, hQ⟩ : ∃ Q, Q = w1.setCell ⟨wy.heap.size, 2, none⟩ (.int .i64 0) := ⟨_, rfl⟩
    rw [← hQ] at SM2 ⊢
    clear hQ
    have SD := Lib.hid (sm_drew SM2.out)
    go_cut [] from 50 to 55 (fun wx => Sq wy wx)
    case first =>
      have hix := index_mk
      have hfx := field_mk
      have i0 := lies_cell SM2.out.2.2.2.1 0
      simp only [List.getElem?_toArray, List.getElem?_cons_zero, List.getElem?_cons_succ] at i0
      go_region_with (first
        | (go_at_call 25; (with_reducible refine (rows_any _).mono ?_); rintro e w3 ⟨rfl, hb⟩; have SM3 := Lib.hid (sm_below SD.out hb); have i0 := lies_cell SM3.out.2.2.2.1 0; simp only [List.getElem?_toArray, List.getElem?_cons_zero, List.getElem?_cons_succ] at i0; have KM := Lib.hid (mkdir_new wy.heap.size _ _ _ _ _ _ w3 SM3.out.2.2.2.2.2); clear hb)
        | (go_at_call 40; (refine KM.out.mono ?_); rintro e w4 ⟨rfl, hp⟩; have HQ := Lib.hid (sq_mk SM3.out hp); clear hp))
      all_goals (go_wp2_with fail; go_meet; exact HQ.out)
    case rest =>
      clear SD SM2
      obtain ⟨h1, G, C, h2, h3⟩ := hcut
      have hGl : wy.heap.size + 1 ≤ G := own_ge h3
      have L29 := lies_below LR1.out h1 (lies_lt LR1.out)
      have KS := Lib.hid (settle_one wy.heap.size G C (wy.heap.size + 1) _ _ _ _ _ _ _ wc h2 h3)
      have HE := Lib.hid (fun (w5 : World) (l5 : Lies w5 wy.heap.size 64 #[.slice (some ⟨G, 0, none⟩) 1 C, .slice none 0 0, .int .i64 0, .int .i64 1, St [97], St [], .int .i64 493, .int .i64 0, .slice none 0 0]) (g5 : wc.grownBy w5 (some wy.heap.size)) => step_end (w := w) S1.out H1.out h1 hGl h3 L29 g5)
      clear h1 h2 h3 L29
      go_upto_region 12 with (go_at_call 26; (refine KS.out.mono ?_); rintro e w5 ⟨rfl, l5, g5⟩; have HF := Lib.hid (HE.out w5 l5 g5); have r0 := lies_cell l5 0; have r1 := lies_cell l5 1; simp only [List.getElem?_toArray, List.getElem?_cons_zero, List.getElem?_cons_succ] at r0 r1; clear l5 g5)
      clear KS HE
      go_wp2_with (refine wpList_store_row rfl 29 _ _ rfl (w.heap.size + 1 + 1) #[.slice (some ⟨G, 0, none⟩) 1 C, .slice none 0 0] rfl rfl 29 _ HF.out.1 (by kernel_rfl) rfl (by simp [Value.oneCell']) ?_)
      refine bodyPost_ret (results_row_tmp rfl _ _ (w.heap.size + 1 + 1) 29 #[.slice (some ⟨G, 0, none⟩) 1 C, .slice none 0 0] (0, 0) _ rfl _ rfl (lies_setRow HF.out.1 _) Try.underlying29 rfl (by kernel_rfl)) rfl ?_
      exact ⟨⟨G, C, rfl, HF.out.2.1⟩, HF.out.2.2⟩
end Go.Proofs.Ytciafdbhkfhidaa
