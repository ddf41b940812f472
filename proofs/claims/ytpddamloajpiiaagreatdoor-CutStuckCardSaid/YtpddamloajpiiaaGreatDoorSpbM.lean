/-
What is proved here: cut's split, by a contract.
-/
import Derived.Test.YtpddamloajpiiaaGreatDoorSpdM
import Derived.StillTailTactics
import Derived.Deep.RegionLaw
import Derived.Deep.AppendLies
import Derived.Deep.Cut
import Derived.Deep.CutRange
set_option linter.unusedSimpArgs false
set_option linter.unusedVariables false
namespace Go.Proofs.YtpddamloajpiiaaGreatDoor
open Go.Cmp Go.RowKit Go.Cut Go.Pth Go.Word Go.Shelf
attribute [local go_sem] guard_eq guard_ne st_eql st_neq store_fn store_s
set_option maxRecDepth 100000 in
set_option maxHeartbeats 8000000 in
theorem split_ok (ws : World) (WB : Nat) (s : Wk) (i : Nat) (w : World) (hT : Pow ws) (hB : Below ws.heap.size ws w) (hM : WkM ws.heap.size WB s w) (hP : WkP s) (hi : i < s.acts.length) (hb : s.acts.length < 1024) :
    Calls Tryz.prog 36 #[.pointer (some ⟨WB, 0, none⟩), .int .i64 (i : Int)] w fun e w' => e = .returned (.tuple #[]) ∧ WkM ws.heap.size WB (splitP tmpN s i) w' ∧ WkP (splitP tmpN s i) ∧ Below ws.heap.size ws w' := by
  have HPS := Lib.hid (wkp_split hP hi hb)
  have HB := Lib.hid hB
  have HP := Lib.hid hP
  have KT := Lib.hid (show Calls Tryz.prog 60 #[.int .i64 (s.cuts : Int)] w fun e w' => e = .returned (St (tmpN s.cuts)) ∧ Below w.heap.size w w' from temp_any s.cuts w (pow_below hT hB))
  obtain ⟨fs, sn, tz, av, nv, vs, hW⟩ := hM
  obtain ⟨AA, ac', eA', hAA⟩ := own_acts hW.own
  obtain ⟨g, ac, cur, eA, hBg, hLg, hlc, hcm, hcs, hct⟩ := own_some hW.own (by omega)
  obtain ⟨NA, nc, eN, hNA⟩ := rws_ls hW.row hW.rws
  subst eA eN
  injection eA' with eA1 eA2 eA3
  subst eA1
  clear eA2 eA3 hBg hlc hcm hcs hct
  have c5 := lies_cell hW.box 5
  simp only [List.getElem?_toArray, List.getElem?_cons_zero, List.getElem?_cons_succ] at c5
  obtain ⟨b, o, eA, hbw, hr⟩ := hAA i hi
  injection eA with eA
  injection eA with eA1 eA2
  subst eA1 eA2
  rw [Nat.zero_add] at hr
  obtain ⟨tb, htb⟩ : ∃ t : ByteArray, .string t = St (tmpN s.cuts) := ⟨_, rfl⟩
  have HTB := Lib.hid htb
  rw [← htb] at KT
  have eg : s.acts[i] = s.acts.getD i default := by rw [List.getD_eq_getElem?_getD, List.getElem?_eq_getElem hi]; rfl
  rw [eg] at hr
  obtain ⟨a0, ha0⟩ : ∃ a, a = s.acts.getD i default := ⟨_, rfl⟩
  have HA0 := Lib.hid ha0
  rw [← ha0] at hr
  clear eg
  have HW := Lib.hid hW
  have HR := Lib.hid hr
  have HI := Lib.hid hi
  have HBB := Lib.hid hb
  have HBW := Lib.hid hbw
  obtain ⟨n, hn⟩ : ∃ n, n = s.acts.length := ⟨_, rfl⟩
  have HN := Lib.hid hn
  have hin : (i : Int) < (n : Int) := by omega
  have i0 : (0 : Int) ≤ (i : Int) := by omega
  have hn2 : n < 1024 := by omega
  clear hT hB hW hAA hNA hr hP htb ha0 hbw hi hb hn hLg
  go_enter Tryz.func36, Tryz.ntmps36
  go_upto_region 1 with (go_at_call 60; (with_reducible refine KT.out.mono ?_); rintro e w1 ⟨rfl, hb1⟩; have HB1 := Lib.hid hb1; clear hb1)
  have HW1 := Lib.hid (wkb_below HW.out HB1.out)
  have c3 := lies_cell HW1.out.box 3
  have c4 := lies_cell HW1.out.box 4
  have c0 := lies_cell HW1.out.box 0
  have c1 := lies_cell HW1.out.box 1
  have c2 := lies_cell HW1.out.box 2
  have f0 := lies_free HW1.out.box 0
  have f1 := lies_free HW1.out.box 1
  have f2 := lies_free HW1.out.box 2
  simp only [List.getElem?_toArray, List.getElem?_cons_zero, List.getElem?_cons_succ] at c0 c1 c2 c3 c4
  rw [← HN.out] at c3
  obtain ⟨yb, hyb⟩ : ∃ t : ByteArray, .string t = St a0.t := ⟨_, rfl⟩
  have HYB := Lib.hid hyb
  have rt := (HB1.out.cell (p := ⟨g, i * 5 + 2, none⟩) HBW.out).trans (HR.out 2 (St a0.t) rfl)
  rw [← hyb] at rt
  clear hyb
  clear c5
  go_still_tail 16, (by kernel_rfl)
  change wpList _ _ _ _ _ w1.drew
  go_upto_region 2 with (fail)
  have HW2 := Lib.hid (show WkB ws.heap.size WB s (i : Int) (n : Int) a0.t (.slice (some ⟨g, 0, none⟩) s.acts.length ac) (.slice NA s.needs.length nc) vs (((w1.setCell ⟨WB, 0, none⟩ (.int .i64 (i : Int))).setCell ⟨WB, 1, none⟩ (.int .i64 (n : Int))).setCell ⟨WB, 2, none⟩ (.string yb)).drew from by
    rw [HYB.out]
    have bb : But (· = WB) w1 (((w1.setCell ⟨WB, 0, none⟩ (.int .i64 (i : Int))).setCell ⟨WB, 1, none⟩ (.int .i64 (n : Int))).setCell ⟨WB, 2, none⟩ (St a0.t)).drew := ((((But.refl (· = WB) w1).setCell (p := ⟨WB, 0, none⟩) (fun _ => rfl) _).setCell (p := ⟨WB, 1, none⟩) (fun _ => rfl) _).setCell (p := ⟨WB, 2, none⟩) (fun _ => rfl) _).drew
    refine wkb_box (c' := s.cuts) HW1.out bb ?_
    exact lies_set (lies_set (lies_set HW1.out.box 0 _) 1 _) 2 _)
  have HB2 := Lib.hid (show Below ws.heap.size ws (((w1.setCell ⟨WB, 0, none⟩ (.int .i64 (i : Int))).setCell ⟨WB, 1, none⟩ (.int .i64 (n : Int))).setCell ⟨WB, 2, none⟩ (.string yb)).drew from
    ((((HB.out.trans (HB1.out.mono HB.out.size)).setCell (p := ⟨WB, 0, none⟩) HW1.out.wb _).setCell (p := ⟨WB, 1, none⟩) HW1.out.wb _).setCell (p := ⟨WB, 2, none⟩) HW1.out.wb _).drew)
  clear c0 c1 c2 c3 c4 f0 f1 f2 rt HW1 HB1 HW HR HB KT
  generalize (((w1.setCell ⟨WB, 0, none⟩ (.int .i64 (i : Int))).setCell ⟨WB, 1, none⟩ (.int .i64 (n : Int))).setCell ⟨WB, 2, none⟩ (.string yb)).drew = W2 at *
  have c5 := lies_cell HW2.out.box 5
  have f5 := lies_free HW2.out.box 5
  simp only [List.getElem?_toArray, List.getElem?_cons_zero, List.getElem?_cons_succ] at c5
  have hcut : s.cuts ≤ 1024 := by have := HP.out.cut; have := HP.out.big; omega
  have wr1 : IntKind.i64.wrap ((s.cuts : Int) + 1) = ((s.cuts + 1 : Nat) : Int) := by
    simp [IntKind.wrap, IntKind.bits, IntKind.signed]
    omega
  have wr2 : wrap64 ((s.cuts : Int) + 1) = ((s.cuts + 1 : Nat) : Int) := by unfold wrap64; omega
  go_upto_region 3 with (fail)
  have HW3 := Lib.hid (show WkB ws.heap.size WB ⟨s.acts, s.needs, s.cuts + 1⟩ (i : Int) (n : Int) a0.t (.slice (some ⟨g, 0, none⟩) s.acts.length ac) (.slice NA s.needs.length nc) vs (W2.setCell ⟨WB, 5, none⟩ (.int .i64 ((s.cuts : Int) + 1))) from by
    rw [show (s.cuts : Int) + 1 = ((s.cuts + 1 : Nat) : Int) by omega]
    exact wkb_box (c' := s.cuts + 1) HW2.out ((But.refl (· = WB) W2).setCell (p := ⟨WB, 5, none⟩) (fun _ => rfl) _) (lies_set HW2.out.box 5 _))
  have HB3 := Lib.hid (show Below ws.heap.size ws (W2.setCell ⟨WB, 5, none⟩ (.int .i64 ((s.cuts : Int) + 1))) from HB2.out.setCell (p := ⟨WB, 5, none⟩) HW2.out.wb _)
  clear c5 f5 HW2 HB2 wr1 wr2
  generalize W2.setCell ⟨WB, 5, none⟩ (.int .i64 ((s.cuts : Int) + 1)) = W3 at *
  have c3 := lies_cell HW3.out.box 3
  simp only [List.getElem?_toArray, List.getElem?_cons_zero, List.getElem?_cons_succ] at c3
  rw [← HN.out] at c3
  obtain ⟨rt, ft⟩ : (∃ u, W3.cell? ⟨g, i * 5 + 2, none⟩ = some u) ∧ W3.frozen? ⟨g, i * 5 + 2, none⟩ = false := by
    obtain ⟨g', c', cur, hv, _, hL, hlc, _, hs, _⟩ := own_some HW3.out.own (by have := HI.out; show 0 < s.acts.length; omega)
    injection hv with e1 _ e3
    injection e1 with e1
    injection e1 with e1
    subst e1
    refine ⟨?_, lies_free hL _⟩
    rw [lies_cell hL]
    have : i * 5 + 2 < cur.size := by have := HI.out; have : s.acts.length ≤ c' := hlc; omega
    exact ⟨_, Array.getElem?_eq_getElem this⟩
  obtain ⟨u0, rt⟩ := rt
  go_upto_region 4 with (fail)
  have HW4 := Lib.hid (show WkB ws.heap.size WB ⟨s.acts.set i { s.acts.getD i default with t := tmpN s.cuts }, s.needs, s.cuts + 1⟩ (i : Int) (n : Int) a0.t (.slice (some ⟨g, 0, none⟩) s.acts.length ac) (.slice NA s.needs.length nc) vs (W3.setCell ⟨g, i * 5 + 2, none⟩ (.string tb)) from by
    rw [HTB.out]
    exact wkb_to (tmpN s.cuts) HW3.out rfl HI.out)
  have HB4 := Lib.hid (show Below ws.heap.size ws (W3.setCell ⟨g, i * 5 + 2, none⟩ (.string tb)) from HB3.out.setCell (p := ⟨g, i * 5 + 2, none⟩) (by
    obtain ⟨g', c', cur, hv, hBg, _⟩ := own_some HW3.out.own (by have := HI.out; show 0 < s.acts.length; omega)
    injection hv with e1 _ e3
    injection e1 with e1
    injection e1 with e1
    subst e1
    exact hBg) _)
  clear c3 rt ft HW3 HB3
  generalize W3.setCell ⟨g, i * 5 + 2, none⟩ (.string tb) = W4 at *
  obtain ⟨l4, hl4⟩ : ∃ l4, l4 = s.acts.set i { s.acts.getD i default with t := tmpN s.cuts } := ⟨_, rfl⟩
  have HL4 := Lib.hid hl4
  have hll : l4.length = n := by rw [hl4, HN.out]; simp
  rw [← hl4, ← HN.out] at HW4
  have c3 := lies_cell HW4.out.box 3
  have c2 := lies_cell HW4.out.box 2
  simp only [List.getElem?_toArray, List.getElem?_cons_zero, List.getElem?_cons_succ] at c3 c2
  rw [← HYB.out] at c2
  obtain ⟨ia, hia, hza0, hza1, hza2⟩ := info_parts ac_info
  have HIA := Lib.hid hia
  have HZ0 := Lib.hid hza0
  have HZ1 := Lib.hid hza1
  have HZ2 := Lib.hid hza2
  have OWH := Lib.hid (show (W4.alloc (.cells #[.int .i64 3, .string tb, .string yb, .int .i64 0, .int .i64 0] 29)).ownsRow ws.heap.size 29 5 (.slice (some ⟨g, 0, none⟩) n ac) n (acs l4) by
    have h := HW4.out.own
    unfold OwnA at h
    rw [hll] at h
    exact h.alloc _)
  have hgW : g ≠ WB := fun e => own_ne HW4.out.own HW4.out.box (by decide) (by rw [e]; rfl)
  have HGW := Lib.hid hgW
  have SZ4 := Lib.hid (show ws.heap.size ≤ W4.heap.size ∧ WB < W4.heap.size from ⟨HB4.out.size, lies_lt HW4.out.box⟩)
  have HLL := Lib.hid hll
  have gd3 := lies_cell (lies_alloc HW4.out.box (.cells #[.int .i64 3, .string tb, .string yb, .int .i64 0, .int .i64 0] 29)) 3
  have gd2 := lies_cell (lies_alloc HW4.out.box (.cells #[.int .i64 3, .string tb, .string yb, .int .i64 0, .int .i64 0] 29)) 2
  simp only [List.getElem?_toArray, List.getElem?_cons_zero, List.getElem?_cons_succ] at gd3 gd2
  rw [← HYB.out] at gd2
  clear hl4 hll hia hza0 hza1 hza2 hgW
  have OGB := Lib.hid (show ∀ k, some k = (Value.slice (some ⟨g, 0, none⟩) n ac).ownBlock → ws.heap.size ≤ k from fun k hk => by rw [← Option.some.inj (show some k = some g from hk).symm]; exact (own_heap HW4.out.own g rfl).1)
  go_cut [46] from 47 to 61 (fun v46 wx => v46 = .pointer (some ⟨WB, 0, none⟩) ∧ ∃ v, WkB ws.heap.size WB ⟨l4 ++ [⟨3, tmpN s.cuts, a0.t, 0, 0⟩], s.needs, s.cuts + 1⟩ (i : Int) (n : Int) a0.t v (.slice NA s.needs.length nc) vs wx ∧ Below ws.heap.size ws wx)
  case first =>
    go_region_law (first
      | (refine step_append_lies _ (by rfl) _ _ _ (by rfl) ws.heap.size 29 ia _ 5 56 Tryz.underlying22 HIA.out HZ0.out HZ1.out HZ2.out rfl (by omega) (.slice (some ⟨g, 0, none⟩) n ac) n (acs l4) (by rfl) OWH.out
          ⟨W4.heap.size, 0, none⟩ 1 1 [.int .i64 3, .string tb, .string yb, .int .i64 0, .int .i64 0] (by rfl) (by rfl) (World.news_of_block (cs := #[.int .i64 3, .string tb, .string yb, .int .i64 0, .int .i64 0]) (t := 29) (fr := (0, 0)) (heap_alloc_new _ _)) (fun u hu => by
            simp only [List.mem_cons, List.not_mem_nil, or_false] at hu
            rcases hu with rfl | rfl | rfl | rfl | rfl <;> rfl)
          (by omega) (by have : (100001 : Nat) ≤ maxLen := by decide
                         omega) (by omega) (by have := SZ4.out.1; simp; omega) (W4.heap.size + 1) (by simp) ?_; intro gg cap w5 hown1 hgrow hat hlt1; have L1 := (hgrow.block WB (by have := SZ4.out.2; simp; omega) (fun x => HGW.out (Option.some.inj (show some WB = some g from x)).symm)).trans (lies_alloc HW4.out.box (.cells #[.int .i64 3, .string tb, .string yb, .int .i64 0, .int .i64 0] 29)); have g1 := lies_cell (w := w5) L1 3; have fz := lies_free (w := w5) L1 3; simp only [List.getElem?_toArray, List.getElem?_cons_zero, List.getElem?_cons_succ] at g1; have HE := Lib.hid (wkb_push (a := ⟨3, tmpN s.cuts, a0.t, 0, 0⟩) HW4.out ((But.ofBelow ((Below.refl _ W4).alloc (Nat.le_refl _) (.cells #[.int .i64 3, .string tb, .string yb, .int .i64 0, .int .i64 0] 29)) (fun k => some k = (Value.slice (some ⟨g, 0, none⟩) n ac).ownBlock)).drew.trans (But.grown hgrow)) (by show w5.ownsRow _ 29 5 _ (l4.length + 1) _; rw [HLL.out]; rw [HTB.out, HYB.out] at hown1; exact hown1)); have HBE := Lib.hid (fun (u : Value) => (HB4.out.trans (((But.ofBelow ((Below.refl _ W4).alloc (Nat.le_refl _) (.cells #[.int .i64 3, .string tb, .string yb, .int .i64 0, .int .i64 0] 29)) (fun k => some k = (Value.slice (some ⟨g, 0, none⟩) n ac).ownBlock)).drew.trans (But.grown hgrow)).below HB4.out.size (fun k hk => OGB.out k hk))).setCell (p := ⟨WB, 3, none⟩) HW4.out.wb u); clear hat hlt1 L1 hown1 hgrow))
    all_goals (go_wp2_with fail)
    all_goals go_meet
    all_goals exact ⟨rfl, _, HE.out, HBE.out _⟩
  case rest =>
    obtain ⟨rfl, av5, hW5, hBcut⟩ := hcut
    have hln : s.needs.length = n := by rw [HN.out, ← HP.out.len]
    have hvn : vs.length = n := by rw [hW5.rws.len]; exact hln
    rw [hln] at hW5
    obtain ⟨nb, curN, eNb, hLn, hcn, hBn⟩ : ∃ nb curN, NA = some ⟨nb, 0, none⟩ ∧ Lies wc nb 33 curN ∧ curN[i]? = some (vs.getD i nilV) ∧ ws.heap.size ≤ nb := by
      rcases hW5.row.2 with ⟨_, h0⟩ | ⟨g', cap, cur', hv, hB', hg, hn', hcap, hs, ht⟩
      · rw [hvn] at h0; omega
      · injection hv with e1 _ _
        refine ⟨g', cur', e1, hg, ?_, hB'⟩
        have h4 : (cur'.toList.take (vs.length * 1))[i]? = cur'.toList[i]? := List.getElem?_take_of_lt (by omega)
        rw [← Array.getElem?_toList, ← h4, ht, List.getD_eq_getElem?_getD, List.getElem?_eq_getElem (by omega)]
        rfl
    subst eNb
    obtain ⟨FI, hFI⟩ : ∃ F, F = nx s.needs i := ⟨_, rfl⟩
    have hwi := hW5.rws.win i
    have hri := HP.out.up i
    have hbi : (nx s.needs i).length ≤ 1024 := by
      by_cases h : i < s.needs.length
      · have := rise_big HP.out.ok HP.out.up s.needs[i] (List.getElem_mem h)
        unfold nx
        rw [List.getD_eq_getElem?_getD, List.getElem?_eq_getElem h]
        show s.needs[i].length ≤ 1024
        omega
      · omega
    have hwi2 : Win wc ws.heap.size (vs.getD i nilV) (zs (nx s.needs i)) := hwi
    rw [← hFI] at hwi2 hri hbi
    obtain ⟨RA, rn, rc, hrv⟩ := win_slice2 hwi2
    rw [hrv] at hwi2 hcn
    have cn := lies_cell hLn i
    rw [hcn] at cn
    have c4 := lies_cell hW5.box 4
    simp only [List.getElem?_toArray, List.getElem?_cons_zero, List.getElem?_cons_succ] at c4
    have HW5 := Lib.hid hW5
    have HRV := Lib.hid hrv
    have HFI := Lib.hid hFI
    have HLN := Lib.hid hLn
    have HCN := Lib.hid hcn
    have HVN := Lib.hid hvn
    have HRI := Lib.hid hri
    have HBI := Lib.hid (show FI.length ≤ 2000 by omega)
    have hzB : ws.heap.size ≤ wc.heap.size := Nat.le_of_lt (Nat.lt_of_le_of_lt hBn (lies_lt hLn))
    obtain ⟨il, hil, hzl0, hzl1, hzl2⟩ := info_parts list_info
    have HIL := Lib.hid hil
    have HL0 := Lib.hid hzl0
    have HL1 := Lib.hid hzl1
    have HL2 := Lib.hid hzl2
    have HZB := Lib.hid hzB
    have HNB := Lib.hid hBn
    have HB5 := Lib.hid hBcut
    have HWI := Lib.hid hwi2
    have HROW := Lib.hid (show wc.ownsRow ws.heap.size 33 1 (.slice (some ⟨nb, 0, none⟩) n nc) n vs by have h := hW5.row; rw [hvn] at h; exact h)
    clear c2 c3 c4 cn gd2 gd3 hW5 hwi hwi2 hri hbi hrv hFI hLn hcn hBn hzB hil hzl0 hzl1 hzl2 hln hvn
    go_upto_region 5 with (fail)
    have KF : ∀ (lq : Array Bool) (pq kq : Nat) (uq : Value) (W W' : World), (pq ≠ 14) → W.grownBy W' none → ((fun (l_ : Array Bool) (j_ : Nat) (v_ : Value) (W : World) => match j_ with | 0 => v_ = .pointer (some ⟨WB, 0, none⟩) | 1 => v_ = .pointer (some ⟨WB, 0, none⟩) | 2 => v_ = .pointer (some ⟨WB, 0, none⟩) | 3 => v_ = .pointer (some ⟨WB, 4, none⟩) | 4 => v_ = .slice (some ⟨nb, 0, none⟩) n nc | 5 => v_ = .int .i64 (i : Int) | 6 => (∃ fb, v_ = .func (.func 87) #[] #[.pointer (some ⟨fb, 0, none⟩)] ∧ (l_.getD 14 false = false → Lies W fb 3 #[.int .i64 (i : Int)])) | 7 => v_ = .pointer (some ⟨WB, 0, none⟩) | 8 => v_ = .pointer (some ⟨WB, 0, none⟩) | 9 => v_ = .pointer (some ⟨WB, 4, none⟩) | 10 => v_ = .slice (some ⟨nb, 0, none⟩) n nc | 11 => v_ = .int .i64 (i : Int) | 12 => v_ = .pointer (some ⟨nb, i, none⟩) | 13 => v_ = .slice RA rn rc | 14 => (∃ A7 n7 c7, v_ = .slice A7 n7 c7 ∧ True) | 15 => (∃ sb, v_ = .slice (some ⟨sb, 0, none⟩) 1 1 ∧ True) | 16 => (∃ gn cp, v_ = .slice (some ⟨gn, 0, none⟩) (n + 1) cp ∧ True) | 17 => v_ = .pointer (some ⟨WB, 0, none⟩) | 18 => v_ = .pointer (some ⟨WB, 4, none⟩) | _ => True) : Array Bool → Nat → Value → World → Prop) lq kq uq W → ((fun (l_ : Array Bool) (j_ : Nat) (v_ : Value) (W : World) => match j_ with | 0 => v_ = .pointer (some ⟨WB, 0, none⟩) | 1 => v_ = .pointer (some ⟨WB, 0, none⟩) | 2 => v_ = .pointer (some ⟨WB, 0, none⟩) | 3 => v_ = .pointer (some ⟨WB, 4, none⟩) | 4 => v_ = .slice (some ⟨nb, 0, none⟩) n nc | 5 => v_ = .int .i64 (i : Int) | 6 => (∃ fb, v_ = .func (.func 87) #[] #[.pointer (some ⟨fb, 0, none⟩)] ∧ (l_.getD 14 false = false → Lies W fb 3 #[.int .i64 (i : Int)])) | 7 => v_ = .pointer (some ⟨WB, 0, none⟩) | 8 => v_ = .pointer (some ⟨WB, 0, none⟩) | 9 => v_ = .pointer (some ⟨WB, 4, none⟩) | 10 => v_ = .slice (some ⟨nb, 0, none⟩) n nc | 11 => v_ = .int .i64 (i : Int) | 12 => v_ = .pointer (some ⟨nb, i, none⟩) | 13 => v_ = .slice RA rn rc | 14 => (∃ A7 n7 c7, v_ = .slice A7 n7 c7 ∧ True) | 15 => (∃ sb, v_ = .slice (some ⟨sb, 0, none⟩) 1 1 ∧ True) | 16 => (∃ gn cp, v_ = .slice (some ⟨gn, 0, none⟩) (n + 1) cp ∧ True) | 17 => v_ = .pointer (some ⟨WB, 0, none⟩) | 18 => v_ = .pointer (some ⟨WB, 4, none⟩) | _ => True) : Array Bool → Nat → Value → World → Prop) (lq.setIfInBounds pq true) kq uq W' := fun lq pq kq uq W W' hp hg h => by
      have h14_ : (lq.setIfInBounds pq true).getD 14 false = lq.getD 14 false := by rw [getD_set_ne false (hp)]
      have kl : ∀ {g t cs}, Lies W g t cs → Lies W' g t cs := fun h => (hg.block _ (lies_lt h) (by simp)).trans h
      have ko : ∀ {B e z v k xs}, W.ownsRow B e z v k xs → W'.ownsRow B e z v k xs := fun {B e z v k xs} h => h.kept hg (by cases v.ownBlock <;> simp)
      match kq, h with
      | 0, h => exact h
      | 1, h => exact h
      | 2, h => exact h
      | 3, h => exact h
      | 4, h => exact h
      | 5, h => exact h
      | 6, ⟨fb, e, h⟩ => exact ⟨fb, e, fun h6 => by have h := h (by rw [← h14_]; exact h6); exact kl h⟩
      | 7, h => exact h
      | 8, h => exact h
      | 9, h => exact h
      | 10, h => exact h
      | 11, h => exact h
      | 12, h => exact h
      | 13, h => exact h
      | 14, ⟨A7, n7, c7, e, h⟩ => exact ⟨A7, n7, c7, e, trivial⟩
      | 15, ⟨sb, e, h⟩ => exact ⟨sb, e, trivial⟩
      | 16, ⟨gn, cp, e, h⟩ => exact ⟨gn, cp, e, trivial⟩
      | 17, h => exact h
      | 18, h => exact h
      | _ + 19, _ => exact trivial
    have gr : ∀ W : World, W.grownBy W none := fun W => ⟨rfl, rfl, rfl, Nat.le_refl _, fun _ _ _ => rfl⟩
    have KP := fun (lq : Array Bool) (pq : Nat) (W : World) (hp : pq ≠ 14) => fun (kq : Nat) (uq : Value) (_ : kq ≠ pq) (_ : lq.getD kq false = true) (h : ((fun (l_ : Array Bool) (j_ : Nat) (v_ : Value) (W : World) => match j_ with | 0 => v_ = .pointer (some ⟨WB, 0, none⟩) | 1 => v_ = .pointer (some ⟨WB, 0, none⟩) | 2 => v_ = .pointer (some ⟨WB, 0, none⟩) | 3 => v_ = .pointer (some ⟨WB, 4, none⟩) | 4 => v_ = .slice (some ⟨nb, 0, none⟩) n nc | 5 => v_ = .int .i64 (i : Int) | 6 => (∃ fb, v_ = .func (.func 87) #[] #[.pointer (some ⟨fb, 0, none⟩)] ∧ (l_.getD 14 false = false → Lies W fb 3 #[.int .i64 (i : Int)])) | 7 => v_ = .pointer (some ⟨WB, 0, none⟩) | 8 => v_ = .pointer (some ⟨WB, 0, none⟩) | 9 => v_ = .pointer (some ⟨WB, 4, none⟩) | 10 => v_ = .slice (some ⟨nb, 0, none⟩) n nc | 11 => v_ = .int .i64 (i : Int) | 12 => v_ = .pointer (some ⟨nb, i, none⟩) | 13 => v_ = .slice RA rn rc | 14 => (∃ A7 n7 c7, v_ = .slice A7 n7 c7 ∧ True) | 15 => (∃ sb, v_ = .slice (some ⟨sb, 0, none⟩) 1 1 ∧ True) | 16 => (∃ gn cp, v_ = .slice (some ⟨gn, 0, none⟩) (n + 1) cp ∧ True) | 17 => v_ = .pointer (some ⟨WB, 0, none⟩) | 18 => v_ = .pointer (some ⟨WB, 4, none⟩) | _ => True) : Array Bool → Nat → Value → World → Prop) lq kq uq W) => KF lq pq kq uq W W hp (gr W) h
    have IV : ∀ (lq : Array Bool) (pq : Nat) (W W' : World) {vq : Nat → Value} {uq : Value}, (pq ≠ 14 ∧ pq ≠ 15 ∧ pq ≠ 16 ∧ pq ≠ 19) → W.grownBy W' none → ((fun (l_ : Array Bool) (V_ : Nat → Value) (WW : World) => (l_.getD 14 false = false → But (fun _ => False) wc WW) ∧ (l_.getD 14 false = true → l_.getD 16 false = false → ∃ A7 n7 c7, V_ 14 = .slice A7 n7 c7 ∧ Sq7 wc ws.heap.size (.slice RA rn rc) (put i FI) (.slice A7 n7 c7) WW ∧ (l_.getD 15 false = true → ∃ sb, V_ 15 = .slice (some ⟨sb, 0, none⟩) 1 1 ∧ Lies WW sb 33 #[.slice A7 n7 c7])) ∧ (l_.getD 16 false = true → l_.getD 19 false = false → ∃ A7 n7 c7 gn cp, V_ 16 = .slice (some ⟨gn, 0, none⟩) (n + 1) cp ∧ Sq16 wc ws.heap.size (.slice RA rn rc) (put i FI) (.slice A7 n7 c7) (.slice (some ⟨nb, 0, none⟩) n nc) vs (.slice (some ⟨gn, 0, none⟩) (n + 1) cp) WW) ∧ (l_.getD 19 false = true → ∃ A7 n7 c7 gn cp, Sq19 wc ws.heap.size WB ((#[.int .i64 (i : Int), .int .i64 (n : Int), St a0.t, av5, .slice (some ⟨nb, 0, none⟩) n nc, .int .i64 ((s.cuts + 1 : Nat) : Int)] : Array Value).setIfInBounds 4 (.slice (some ⟨gn, 0, none⟩) (n + 1) cp)) (.slice RA rn rc) (put i FI) (.slice A7 n7 c7) (.slice (some ⟨nb, 0, none⟩) n nc) vs (.slice (some ⟨gn, 0, none⟩) (n + 1) cp) WW)) : Array Bool → (Nat → Value) → World → Prop) lq vq W → ((fun (l_ : Array Bool) (V_ : Nat → Value) (WW : World) => (l_.getD 14 false = false → But (fun _ => False) wc WW) ∧ (l_.getD 14 false = true → l_.getD 16 false = false → ∃ A7 n7 c7, V_ 14 = .slice A7 n7 c7 ∧ Sq7 wc ws.heap.size (.slice RA rn rc) (put i FI) (.slice A7 n7 c7) WW ∧ (l_.getD 15 false = true → ∃ sb, V_ 15 = .slice (some ⟨sb, 0, none⟩) 1 1 ∧ Lies WW sb 33 #[.slice A7 n7 c7])) ∧ (l_.getD 16 false = true → l_.getD 19 false = false → ∃ A7 n7 c7 gn cp, V_ 16 = .slice (some ⟨gn, 0, none⟩) (n + 1) cp ∧ Sq16 wc ws.heap.size (.slice RA rn rc) (put i FI) (.slice A7 n7 c7) (.slice (some ⟨nb, 0, none⟩) n nc) vs (.slice (some ⟨gn, 0, none⟩) (n + 1) cp) WW) ∧ (l_.getD 19 false = true → ∃ A7 n7 c7 gn cp, Sq19 wc ws.heap.size WB ((#[.int .i64 (i : Int), .int .i64 (n : Int), St a0.t, av5, .slice (some ⟨nb, 0, none⟩) n nc, .int .i64 ((s.cuts + 1 : Nat) : Int)] : Array Value).setIfInBounds 4 (.slice (some ⟨gn, 0, none⟩) (n + 1) cp)) (.slice RA rn rc) (put i FI) (.slice A7 n7 c7) (.slice (some ⟨nb, 0, none⟩) n nc) vs (.slice (some ⟨gn, 0, none⟩) (n + 1) cp) WW)) : Array Bool → (Nat → Value) → World → Prop) (lq.setIfInBounds pq true) (upd vq pq uq) W' := fun lq pq W W' vq uq hp hg h => by
      have h14 : (lq.setIfInBounds pq true).getD 14 false = lq.getD 14 false := by rw [getD_set_ne false hp.1]
      have h15 : (lq.setIfInBounds pq true).getD 15 false = lq.getD 15 false := by rw [getD_set_ne false hp.2.1]
      have h16 : (lq.setIfInBounds pq true).getD 16 false = lq.getD 16 false := by rw [getD_set_ne false hp.2.2.1]
      have h19 : (lq.setIfInBounds pq true).getD 19 false = lq.getD 19 false := by rw [getD_set_ne false hp.2.2.2]
      have bg : But (fun _ => False) W W' := (But.grown hg).mono (fun k _ e => by cases e)
      refine ⟨fun e => (h.1 (by rw [← h14]; exact e)).trans bg, fun e1 e2 => ?_, fun e1 e2 => ?_, fun e => ?_⟩
      · obtain ⟨A7, n7, c7, v14, s, k⟩ := h.2.1 (by rw [← h14]; exact e1) (by rw [← h16]; exact e2)
        refine ⟨A7, n7, c7, by rw [upd_other (Ne.symm hp.1)]; exact v14, s.grown bg, fun e15 => ?_⟩
        obtain ⟨sb, v15, hl⟩ := k (by rw [← h15]; exact e15)
        exact ⟨sb, by rw [upd_other (Ne.symm hp.2.1)]; exact v15, bg.lies hl id⟩
      · obtain ⟨A7, n7, c7, gn, cp, v16, s⟩ := h.2.2.1 (by rw [← h16]; exact e1) (by rw [← h19]; exact e2)
        exact ⟨A7, n7, c7, gn, cp, by rw [upd_other (Ne.symm hp.2.2.1)]; exact v16, s.grown bg⟩
      · obtain ⟨A7, n7, c7, gn, cp, s⟩ := h.2.2.2 (by rw [← h19]; exact e)
        exact ⟨A7, n7, c7, gn, cp, s.grown bg⟩
    refine wp_region_any (by kernel_rfl) ?_
    refine every_factV (own := ownAll _) id ((fun (l_ : Array Bool) (j_ : Nat) (v_ : Value) (W : World) => match j_ with | 0 => v_ = .pointer (some ⟨WB, 0, none⟩) | 1 => v_ = .pointer (some ⟨WB, 0, none⟩) | 2 => v_ = .pointer (some ⟨WB, 0, none⟩) | 3 => v_ = .pointer (some ⟨WB, 4, none⟩) | 4 => v_ = .slice (some ⟨nb, 0, none⟩) n nc | 5 => v_ = .int .i64 (i : Int) | 6 => (∃ fb, v_ = .func (.func 87) #[] #[.pointer (some ⟨fb, 0, none⟩)] ∧ (l_.getD 14 false = false → Lies W fb 3 #[.int .i64 (i : Int)])) | 7 => v_ = .pointer (some ⟨WB, 0, none⟩) | 8 => v_ = .pointer (some ⟨WB, 0, none⟩) | 9 => v_ = .pointer (some ⟨WB, 4, none⟩) | 10 => v_ = .slice (some ⟨nb, 0, none⟩) n nc | 11 => v_ = .int .i64 (i : Int) | 12 => v_ = .pointer (some ⟨nb, i, none⟩) | 13 => v_ = .slice RA rn rc | 14 => (∃ A7 n7 c7, v_ = .slice A7 n7 c7 ∧ True) | 15 => (∃ sb, v_ = .slice (some ⟨sb, 0, none⟩) 1 1 ∧ True) | 16 => (∃ gn cp, v_ = .slice (some ⟨gn, 0, none⟩) (n + 1) cp ∧ True) | 17 => v_ = .pointer (some ⟨WB, 0, none⟩) | 18 => v_ = .pointer (some ⟨WB, 4, none⟩) | _ => True) : Array Bool → Nat → Value → World → Prop) ((fun (l_ : Array Bool) (V_ : Nat → Value) (WW : World) => (l_.getD 14 false = false → But (fun _ => False) wc WW) ∧ (l_.getD 14 false = true → l_.getD 16 false = false → ∃ A7 n7 c7, V_ 14 = .slice A7 n7 c7 ∧ Sq7 wc ws.heap.size (.slice RA rn rc) (put i FI) (.slice A7 n7 c7) WW ∧ (l_.getD 15 false = true → ∃ sb, V_ 15 = .slice (some ⟨sb, 0, none⟩) 1 1 ∧ Lies WW sb 33 #[.slice A7 n7 c7])) ∧ (l_.getD 16 false = true → l_.getD 19 false = false → ∃ A7 n7 c7 gn cp, V_ 16 = .slice (some ⟨gn, 0, none⟩) (n + 1) cp ∧ Sq16 wc ws.heap.size (.slice RA rn rc) (put i FI) (.slice A7 n7 c7) (.slice (some ⟨nb, 0, none⟩) n nc) vs (.slice (some ⟨gn, 0, none⟩) (n + 1) cp) WW) ∧ (l_.getD 19 false = true → ∃ A7 n7 c7 gn cp, Sq19 wc ws.heap.size WB ((#[.int .i64 (i : Int), .int .i64 (n : Int), St a0.t, av5, .slice (some ⟨nb, 0, none⟩) n nc, .int .i64 ((s.cuts + 1 : Nat) : Int)] : Array Value).setIfInBounds 4 (.slice (some ⟨gn, 0, none⟩) (n + 1) cp)) (.slice RA rn rc) (put i FI) (.slice A7 n7 c7) (.slice (some ⟨nb, 0, none⟩) n nc) vs (.slice (some ⟨gn, 0, none⟩) (n + 1) cp) WW)) : Array Bool → (Nat → Value) → World → Prop) (acAll_of (by kernel_rfl)) (onAll_of (by kernel_rfl)) (dstAll_of (by kernel_rfl)) ?hop ?hend _ _ _ _ (fun _ => undef) rfl (shut_none _) (of_decide_eq_true (by kernel_rfl)) (tabd_start (fun i => rep_false _ i)) (fun k hk => by rw [rep_false] at hk; cases hk) ⟨fun _ => (But.refl (fun _ => False) wc).drew, fun e => (by rw [rep_false] at e; cases e), fun e => (by rw [rep_false] at e; cases e), fun e => (by rw [rep_false] at e; cases e)⟩
    case hop =>
      intro j oi a w0 listed vals hoi hs hcl hun hdeps ht hF hI
      have hj : j < 20 := (Array.getElem?_eq_some_iff.1 hoi).1
      have cj : j = 0 ∨ j = 1 ∨ j = 2 ∨ j = 3 ∨ j = 4 ∨ j = 5 ∨ j = 6 ∨ j = 7 ∨ j = 8 ∨ j = 9 ∨ j = 10 ∨ j = 11 ∨ j = 12 ∨ j = 13 ∨ j = 14 ∨ j = 15 ∨ j = 16 ∨ j = 17 ∨ j = 18 ∨ j = 19 := by omega
      obtain rfl | rfl | rfl | rfl | rfl | rfl | rfl | rfl | rfl | rfl | rfl | rfl | rfl | rfl | rfl | rfl | rfl | rfl | rfl | rfl := cj
      all_goals obtain rfl := Option.some.inj hoi
      · have e0 : a.eval (.tmp 0) = .pointer (some ⟨WB, 0, none⟩) := (tabd_old ht (t := 0) (of_decide_eq_true (by kernel_rfl)) (by kernel_rfl)).trans rfl
        exact .inl ⟨rfl, fun K hk => wp_val (v := .pointer (some ⟨WB, 0, none⟩)) (by clear hk hI hoi hdeps ht hF hcl hs KF KP IV; generalize a.eval = ρ at *; unfold execOp; simp only [e0]; go_simp; try (intro hq_; exfalso; omega)) (hk _ _ rfl (KP listed 0 w0 (by decide)) (IV listed 0 w0 w0 (by decide) (gr w0) hI))⟩
      · have e0 : a.eval (.tmp 0) = .pointer (some ⟨WB, 0, none⟩) := (tabd_old ht (t := 0) (of_decide_eq_true (by kernel_rfl)) (by kernel_rfl)).trans rfl
        exact .inl ⟨rfl, fun K hk => wp_val (v := .pointer (some ⟨WB, 0, none⟩)) (by clear hk hI hoi hdeps ht hF hcl hs KF KP IV; generalize a.eval = ρ at *; unfold execOp; simp only [e0]; go_simp; try (intro hq_; exfalso; omega)) (hk _ _ rfl (KP listed 1 w0 (by decide)) (IV listed 1 w0 w0 (by decide) (gr w0) hI))⟩
      · have d1 := hdeps ⟨1, .data⟩ (by simp) rfl
        have e63 : a.eval (.tmp 63) = .pointer (some ⟨WB, 0, none⟩) := (tabd_at ht (t := 63) (of_decide_eq_true (by kernel_rfl)) (by kernel_rfl) d1).trans (hF 1 d1)
        exact .inl ⟨rfl, fun K hk => wp_val (v := .pointer (some ⟨WB, 0, none⟩)) (by clear hk hI hoi hdeps ht hF hcl hs KF KP IV; generalize a.eval = ρ at *; unfold execOp; simp only [e63]; go_simp; try (intro hq_; exfalso; omega)) (hk _ _ rfl (KP listed 2 w0 (by decide)) (IV listed 2 w0 w0 (by decide) (gr w0) hI))⟩
      · have d2 := hdeps ⟨2, .data⟩ (by simp) rfl
        have e64 : a.eval (.tmp 64) = .pointer (some ⟨WB, 0, none⟩) := (tabd_at ht (t := 64) (of_decide_eq_true (by kernel_rfl)) (by kernel_rfl) d2).trans (hF 2 d2)
        exact .inl ⟨rfl, fun K hk => wp_val (v := .pointer (some ⟨WB, 4, none⟩)) (by clear hk hI hoi hdeps ht hF hcl hs KF KP IV; generalize a.eval = ρ at *; unfold execOp; simp only [e64]; go_simp; try (intro hq_; exfalso; omega)) (hk _ _ rfl (KP listed 3 w0 (by decide)) (IV listed 3 w0 w0 (by decide) (gr w0) hI))⟩
      · have d3 := hdeps ⟨3, .data⟩ (by simp) rfl
        have e65 : a.eval (.tmp 65) = .pointer (some ⟨WB, 4, none⟩) := (tabd_at ht (t := 65) (of_decide_eq_true (by kernel_rfl)) (by kernel_rfl) d3).trans (hF 3 d3)
        refine .inl ⟨rfl, fun K hk => ?_⟩
        have n16 : listed.getD 16 false = false := (by cases hh : listed.getD 16 false with | false => rfl | true => exact absurd (hcl 16 _ rfl hh ⟨4, .data⟩ (by simp) rfl) (by simp [hun]))
        have hbt : But (fun k => some k = wblk (.slice RA rn rc)) wc w0 := by
          cases h14 : listed.getD 14 false with
          | false => exact (hI.1 h14).mono (fun _ _ e => e.elim)
          | true => obtain ⟨_, _, _, _, s_, _⟩ := hI.2.1 h14 n16; exact s_.but
        have hL := hbt.lies HW5.out.box (fun e => win_ne HWI.out HW5.out.box (by decide) e.symm)
        have hc := lies_cell hL 4
        simp only [List.getElem?_toArray, List.getElem?_cons_zero, List.getElem?_cons_succ] at hc
        exact wp_val (v := .slice (some ⟨nb, 0, none⟩) n nc) (by clear hbt hL; clear hk hI hoi hdeps ht hF hcl hs KF KP IV; generalize a.eval = ρ at *; unfold execOp; simp only [e65]; go_simp) (hk _ _ rfl (KP listed 4 w0 (by decide)) (IV listed 4 w0 w0 (by decide) (gr w0) hI))
      · have e1 : a.eval (.tmp 1) = .int .i64 ↑i := (tabd_old ht (t := 1) (of_decide_eq_true (by kernel_rfl)) (by kernel_rfl)).trans rfl
        exact .inl ⟨rfl, fun K hk => wp_val (v := .int .i64 (i : Int)) (by clear hk hI hoi hdeps ht hF hcl hs KF KP IV; generalize a.eval = ρ at *; unfold execOp; simp only [e1]; go_simp; try (intro hq_; exfalso; omega)) (hk _ _ rfl (KP listed 5 w0 (by decide)) (IV listed 5 w0 w0 (by decide) (gr w0) hI))⟩
      · have d5 := hdeps ⟨5, .data⟩ (by simp) rfl
        have e67 : a.eval (.tmp 67) = .int .i64 (i : Int) := (tabd_at ht (t := 67) (of_decide_eq_true (by kernel_rfl)) (by kernel_rfl) d5).trans (hF 5 d5)
        have ef61 : a.eval (.func 61) = .func (.func 61) #[] #[] := rfl
        refine .inl ⟨rfl, fun K hk => ?_⟩
        have hR := with_any (i : Int) w0
        refine wp_enter (by clear hk hI hoi hdeps ht hF hcl hs KF KP IV hR; generalize a.eval = ρ at *; unfold execOp; simp only [e67, ef61]; go_simp) hR ?_
        rintro e w2 ⟨rfl, rfl⟩
        exact ⟨_, rfl, hk _ _ ⟨w0.heap.size, rfl, fun _ => lies_new w0 3 _⟩ (fun k u _ _ h => KF listed 6 k u w0 _ (by decide) (World.grownBy_alloc w0 _ none) h) (IV listed 6 w0 _ (by decide) (World.grownBy_alloc w0 _ none) hI)⟩
      · have e0 : a.eval (.tmp 0) = .pointer (some ⟨WB, 0, none⟩) := (tabd_old ht (t := 0) (of_decide_eq_true (by kernel_rfl)) (by kernel_rfl)).trans rfl
        exact .inl ⟨rfl, fun K hk => wp_val (v := .pointer (some ⟨WB, 0, none⟩)) (by clear hk hI hoi hdeps ht hF hcl hs KF KP IV; generalize a.eval = ρ at *; unfold execOp; simp only [e0]; go_simp; try (intro hq_; exfalso; omega)) (hk _ _ rfl (KP listed 7 w0 (by decide)) (IV listed 7 w0 w0 (by decide) (gr w0) hI))⟩
      · have d7 := hdeps ⟨7, .data⟩ (by simp) rfl
        have e69 : a.eval (.tmp 69) = .pointer (some ⟨WB, 0, none⟩) := (tabd_at ht (t := 69) (of_decide_eq_true (by kernel_rfl)) (by kernel_rfl) d7).trans (hF 7 d7)
        exact .inl ⟨rfl, fun K hk => wp_val (v := .pointer (some ⟨WB, 0, none⟩)) (by clear hk hI hoi hdeps ht hF hcl hs KF KP IV; generalize a.eval = ρ at *; unfold execOp; simp only [e69]; go_simp; try (intro hq_; exfalso; omega)) (hk _ _ rfl (KP listed 8 w0 (by decide)) (IV listed 8 w0 w0 (by decide) (gr w0) hI))⟩
      · have d8 := hdeps ⟨8, .data⟩ (by simp) rfl
        have e70 : a.eval (.tmp 70) = .pointer (some ⟨WB, 0, none⟩) := (tabd_at ht (t := 70) (of_decide_eq_true (by kernel_rfl)) (by kernel_rfl) d8).trans (hF 8 d8)
        exact .inl ⟨rfl, fun K hk => wp_val (v := .pointer (some ⟨WB, 4, none⟩)) (by clear hk hI hoi hdeps ht hF hcl hs KF KP IV; generalize a.eval = ρ at *; unfold execOp; simp only [e70]; go_simp; try (intro hq_; exfalso; omega)) (hk _ _ rfl (KP listed 9 w0 (by decide)) (IV listed 9 w0 w0 (by decide) (gr w0) hI))⟩
      · have d9 := hdeps ⟨9, .data⟩ (by simp) rfl
        have e71 : a.eval (.tmp 71) = .pointer (some ⟨WB, 4, none⟩) := (tabd_at ht (t := 71) (of_decide_eq_true (by kernel_rfl)) (by kernel_rfl) d9).trans (hF 9 d9)
        refine .inl ⟨rfl, fun K hk => ?_⟩
        have n16 : listed.getD 16 false = false := (by cases hh : listed.getD 16 false with | false => rfl | true => exact absurd (hcl 12 _ rfl (hcl 13 _ rfl (hcl 14 _ rfl (hcl 16 _ rfl hh ⟨14, .chain⟩ (by simp) rfl) ⟨13, .data⟩ (by simp) rfl) ⟨12, .data⟩ (by simp) rfl) ⟨10, .data⟩ (by simp) rfl) (by simp [hun]))
        have hbt : But (fun k => some k = wblk (.slice RA rn rc)) wc w0 := by
          cases h14 : listed.getD 14 false with
          | false => exact (hI.1 h14).mono (fun _ _ e => e.elim)
          | true => obtain ⟨_, _, _, _, s_, _⟩ := hI.2.1 h14 n16; exact s_.but
        have hL := hbt.lies HW5.out.box (fun e => win_ne HWI.out HW5.out.box (by decide) e.symm)
        have hc := lies_cell hL 4
        simp only [List.getElem?_toArray, List.getElem?_cons_zero, List.getElem?_cons_succ] at hc
        exact wp_val (v := .slice (some ⟨nb, 0, none⟩) n nc) (by clear hbt hL; clear hk hI hoi hdeps ht hF hcl hs KF KP IV; generalize a.eval = ρ at *; unfold execOp; simp only [e71]; go_simp) (hk _ _ rfl (KP listed 10 w0 (by decide)) (IV listed 10 w0 w0 (by decide) (gr w0) hI))
      · have e1 : a.eval (.tmp 1) = .int .i64 ↑i := (tabd_old ht (t := 1) (of_decide_eq_true (by kernel_rfl)) (by kernel_rfl)).trans rfl
        exact .inl ⟨rfl, fun K hk => wp_val (v := .int .i64 (i : Int)) (by clear hk hI hoi hdeps ht hF hcl hs KF KP IV; generalize a.eval = ρ at *; unfold execOp; simp only [e1]; go_simp; try (intro hq_; exfalso; omega)) (hk _ _ rfl (KP listed 11 w0 (by decide)) (IV listed 11 w0 w0 (by decide) (gr w0) hI))⟩
      · have d10 := hdeps ⟨10, .data⟩ (by simp) rfl
        have d11 := hdeps ⟨11, .data⟩ (by simp) rfl
        have e72 : a.eval (.tmp 72) = .slice (some ⟨nb, 0, none⟩) n nc := (tabd_at ht (t := 72) (of_decide_eq_true (by kernel_rfl)) (by kernel_rfl) d10).trans (hF 10 d10)
        have e73 : a.eval (.tmp 73) = .int .i64 (i : Int) := (tabd_at ht (t := 73) (of_decide_eq_true (by kernel_rfl)) (by kernel_rfl) d11).trans (hF 11 d11)
        exact .inl ⟨rfl, fun K hk => wp_val (v := .pointer (some ⟨nb, i, none⟩)) (by clear hk hI hoi hdeps ht hF hcl hs KF KP IV; generalize a.eval = ρ at *; unfold execOp; simp only [e72, e73]; go_simp; try (intro hq_; exfalso; omega)) (hk _ _ rfl (KP listed 12 w0 (by decide)) (IV listed 12 w0 w0 (by decide) (gr w0) hI))⟩
      · have d12 := hdeps ⟨12, .data⟩ (by simp) rfl
        have e74 : a.eval (.tmp 74) = .pointer (some ⟨nb, i, none⟩) := (tabd_at ht (t := 74) (of_decide_eq_true (by kernel_rfl)) (by kernel_rfl) d12).trans (hF 12 d12)
        refine .inl ⟨rfl, fun K hk => ?_⟩
        have n14 : listed.getD 14 false = false := (by cases hh : listed.getD 14 false with | false => rfl | true => exact absurd (hcl 14 _ rfl hh ⟨13, .data⟩ (by simp) rfl) (by simp [hun]))
        have hL := (hI.1 n14).lies HLN.out id
        have hc := (lies_cell hL i).trans HCN.out
        exact wp_val (v := .slice RA rn rc) (by clear hL; clear hk hI hoi hdeps ht hF hcl hs KF KP IV; generalize a.eval = ρ at *; unfold execOp; simp only [e74]; go_simp) (hk _ _ rfl (KP listed 13 w0 (by decide)) (IV listed 13 w0 w0 (by decide) (gr w0) hI))
      · have d6 := hdeps ⟨6, .data⟩ (by simp) rfl
        have d13 := hdeps ⟨13, .data⟩ (by simp) rfl
        have f6 := hF 6 d6
        have e68 : a.eval (.tmp 68) = vals 6 := tabd_at ht (t := 68) (of_decide_eq_true (by kernel_rfl)) (by kernel_rfl) d6
        have e75 : a.eval (.tmp 75) = .slice RA rn rc := (tabd_at ht (t := 75) (of_decide_eq_true (by kernel_rfl)) (by kernel_rfl) d13).trans (hF 13 d13)
        refine .inl ⟨rfl, fun K hk => ?_⟩
        have PR := fun W' => show ∀ (kq : Nat) (uq : Value), kq ≠ 14 → listed.getD kq false = true → ((fun (l_ : Array Bool) (j_ : Nat) (v_ : Value) (W : World) => match j_ with | 0 => v_ = .pointer (some ⟨WB, 0, none⟩) | 1 => v_ = .pointer (some ⟨WB, 0, none⟩) | 2 => v_ = .pointer (some ⟨WB, 0, none⟩) | 3 => v_ = .pointer (some ⟨WB, 4, none⟩) | 4 => v_ = .slice (some ⟨nb, 0, none⟩) n nc | 5 => v_ = .int .i64 (i : Int) | 6 => (∃ fb, v_ = .func (.func 87) #[] #[.pointer (some ⟨fb, 0, none⟩)] ∧ (l_.getD 14 false = false → Lies W fb 3 #[.int .i64 (i : Int)])) | 7 => v_ = .pointer (some ⟨WB, 0, none⟩) | 8 => v_ = .pointer (some ⟨WB, 0, none⟩) | 9 => v_ = .pointer (some ⟨WB, 4, none⟩) | 10 => v_ = .slice (some ⟨nb, 0, none⟩) n nc | 11 => v_ = .int .i64 (i : Int) | 12 => v_ = .pointer (some ⟨nb, i, none⟩) | 13 => v_ = .slice RA rn rc | 14 => (∃ A7 n7 c7, v_ = .slice A7 n7 c7 ∧ True) | 15 => (∃ sb, v_ = .slice (some ⟨sb, 0, none⟩) 1 1 ∧ True) | 16 => (∃ gn cp, v_ = .slice (some ⟨gn, 0, none⟩) (n + 1) cp ∧ True) | 17 => v_ = .pointer (some ⟨WB, 0, none⟩) | 18 => v_ = .pointer (some ⟨WB, 4, none⟩) | _ => True) : Array Bool → Nat → Value → World → Prop) listed kq uq w0 → ((fun (l_ : Array Bool) (j_ : Nat) (v_ : Value) (W : World) => match j_ with | 0 => v_ = .pointer (some ⟨WB, 0, none⟩) | 1 => v_ = .pointer (some ⟨WB, 0, none⟩) | 2 => v_ = .pointer (some ⟨WB, 0, none⟩) | 3 => v_ = .pointer (some ⟨WB, 4, none⟩) | 4 => v_ = .slice (some ⟨nb, 0, none⟩) n nc | 5 => v_ = .int .i64 (i : Int) | 6 => (∃ fb, v_ = .func (.func 87) #[] #[.pointer (some ⟨fb, 0, none⟩)] ∧ (l_.getD 14 false = false → Lies W fb 3 #[.int .i64 (i : Int)])) | 7 => v_ = .pointer (some ⟨WB, 0, none⟩) | 8 => v_ = .pointer (some ⟨WB, 0, none⟩) | 9 => v_ = .pointer (some ⟨WB, 4, none⟩) | 10 => v_ = .slice (some ⟨nb, 0, none⟩) n nc | 11 => v_ = .int .i64 (i : Int) | 12 => v_ = .pointer (some ⟨nb, i, none⟩) | 13 => v_ = .slice RA rn rc | 14 => (∃ A7 n7 c7, v_ = .slice A7 n7 c7 ∧ True) | 15 => (∃ sb, v_ = .slice (some ⟨sb, 0, none⟩) 1 1 ∧ True) | 16 => (∃ gn cp, v_ = .slice (some ⟨gn, 0, none⟩) (n + 1) cp ∧ True) | 17 => v_ = .pointer (some ⟨WB, 0, none⟩) | 18 => v_ = .pointer (some ⟨WB, 4, none⟩) | _ => True) : Array Bool → Nat → Value → World → Prop) (listed.setIfInBounds 14 true) kq uq W' from
          (fun kq uq hkp hkl h => by
            have s_ : (listed.setIfInBounds 14 true).getD 14 false = true := getD_here (by rw [hs]; decide)
            match kq, hkp, hkl, h with
            | 0, _, _, h => exact h
            | 1, _, _, h => exact h
            | 2, _, _, h => exact h
            | 3, _, _, h => exact h
            | 4, _, _, h => exact h
            | 5, _, _, h => exact h
            | 6, _, _, ⟨fb, e, _⟩ => exact ⟨fb, e, fun h6 => by rw [s_] at h6; cases h6⟩
            | 7, _, _, h => exact h
            | 8, _, _, h => exact h
            | 9, _, _, h => exact h
            | 10, _, _, h => exact h
            | 11, _, _, h => exact h
            | 12, _, _, h => exact h
            | 13, _, _, h => exact h
            | 14, hk, _, _ => exact absurd rfl hk
            | 15, _, _, h => exact h
            | 16, _, _, h => exact h
            | 17, _, _, h => exact h
            | 18, _, _, h => exact h
            | _ + 19, _, _, _ => exact trivial)
        have n15 : listed.getD 15 false = false := (by cases hh : listed.getD 15 false with | false => rfl | true => exact absurd (hcl 15 _ rfl hh ⟨14, .data⟩ (by simp) rfl) (by simp [hun]))
        have n16 : listed.getD 16 false = false := (by cases hh : listed.getD 16 false with | false => rfl | true => exact absurd (hcl 16 _ rfl hh ⟨14, .chain⟩ (by simp) rfl) (by simp [hun]))
        have n19 : listed.getD 19 false = false := (by cases hh : listed.getD 19 false with | false => rfl | true => exact absurd (hcl 19 _ rfl hh ⟨14, .phase⟩ (by simp) rfl) (by simp [hun]))
        obtain ⟨fb, v6, h6⟩ := f6
        have hl6 := h6 hun
        have hB := hI.1 hun
        rw [v6] at e68
        have cp := lies_cell hl6 0
        simp only [List.getElem?_toArray, List.getElem?_cons_zero] at cp
        have hR := with1_any ws.heap.size (.slice RA rn rc) FI i fb w0 (win_but HWI.out hB (fun _ _ => id)) HRI.out HBI.out cp (Nat.le_trans HZB.out hB.size)
        refine wp_enter (by clear hk hI hoi hdeps ht hF hcl hs KF KP IV hR hB cp hl6 h6 v6; generalize a.eval = ρ at *; unfold execOp; simp only [e68, e75]; go_simp) hR ?_
        rintro e w2 ⟨v7, rfl, hWv, hBt, hkv⟩
        obtain ⟨A7, n7, c7, rfl⟩ := win_slice2 hWv
        exact ⟨_, rfl, hk _ w2 ⟨A7, n7, c7, rfl, trivial⟩ (PR _) ⟨fun e => (by rw [getD_here (by rw [hs]; decide)] at e; cases e), fun _ _ => ⟨A7, n7, c7, upd_same _ _ _, ⟨hWv, hkv.imp id (fun h k hk => Nat.le_trans hB.size (h k hk)), (hB.mono (fun _ _ e => e.elim)).trans hBt⟩, fun e => (by rw [getD_set_ne false (by decide), n15] at e; cases e)⟩, fun e => (by rw [getD_set_ne false (by decide), n16] at e; cases e), fun e => (by rw [getD_set_ne false (by decide), n19] at e; cases e)⟩⟩
      · have d14 := hdeps ⟨14, .data⟩ (by simp) rfl
        have f14 := hF 14 d14
        have e76 : a.eval (.tmp 76) = vals 14 := tabd_at ht (t := 76) (of_decide_eq_true (by kernel_rfl)) (by kernel_rfl) d14
        refine .inl ⟨rfl, fun K hk => ?_⟩
        have n16 : listed.getD 16 false = false := (by cases hh : listed.getD 16 false with | false => rfl | true => exact absurd (hcl 16 _ rfl hh ⟨15, .data⟩ (by simp) rfl) (by simp [hun]))
        have n19 : listed.getD 19 false = false := (by cases hh : listed.getD 19 false with | false => rfl | true => exact absurd (hcl 19 _ rfl hh ⟨15, .phase⟩ (by simp) rfl) (by simp [hun]))
        obtain ⟨A7, n7, c7, v14, s_, _⟩ := hI.2.1 d14 n16
        rw [v14] at e76
        exact Go.wp_buildSlice 23 33 1 _ rfl #[.slice A7 n7 c7] il _ Tryz.underlying23 HIL.out HL0.out (by rw [HL1.out]; decide) (by rw [HL1.out]; decide) (by rw [HL1.out]; simp only [List.map_toArray, List.map_cons, List.map_nil, e76]; kernel_rfl) (hk _ _ ⟨w0.heap.size, rfl, trivial⟩ (fun k u _ _ h => KF listed 15 k u w0 _ (by decide) (World.grownBy_alloc w0 _ none) h) ⟨fun e => (by rw [getD_set_ne false (by decide), d14] at e; cases e), fun _ _ => ⟨A7, n7, c7, (upd_other (by decide)).trans v14, s_.grown ((But.refl (fun _ => False) w0).alloc _), fun _ => ⟨w0.heap.size, upd_same _ _ _, lies_new w0 33 _⟩⟩, fun e => (by rw [getD_set_ne false (by decide), n16] at e; cases e), fun e => (by rw [getD_set_ne false (by decide), n19] at e; cases e)⟩)
      · have d4 := hdeps ⟨4, .data⟩ (by simp) rfl
        have d15 := hdeps ⟨15, .data⟩ (by simp) rfl
        have d14 := hdeps ⟨14, .chain⟩ (by simp) rfl
        have e66 : a.eval (.tmp 66) = .slice (some ⟨nb, 0, none⟩) n nc := (tabd_at ht (t := 66) (of_decide_eq_true (by kernel_rfl)) (by kernel_rfl) d4).trans (hF 4 d4)
        have f15 := hF 15 d15
        have e77 : a.eval (.tmp 77) = vals 15 := tabd_at ht (t := 77) (of_decide_eq_true (by kernel_rfl)) (by kernel_rfl) d15
        refine .inl ⟨rfl, fun K hk => ?_⟩
        have PR := fun W' => show ∀ (kq : Nat) (uq : Value), kq ≠ 16 → listed.getD kq false = true → ((fun (l_ : Array Bool) (j_ : Nat) (v_ : Value) (W : World) => match j_ with | 0 => v_ = .pointer (some ⟨WB, 0, none⟩) | 1 => v_ = .pointer (some ⟨WB, 0, none⟩) | 2 => v_ = .pointer (some ⟨WB, 0, none⟩) | 3 => v_ = .pointer (some ⟨WB, 4, none⟩) | 4 => v_ = .slice (some ⟨nb, 0, none⟩) n nc | 5 => v_ = .int .i64 (i : Int) | 6 => (∃ fb, v_ = .func (.func 87) #[] #[.pointer (some ⟨fb, 0, none⟩)] ∧ (l_.getD 14 false = false → Lies W fb 3 #[.int .i64 (i : Int)])) | 7 => v_ = .pointer (some ⟨WB, 0, none⟩) | 8 => v_ = .pointer (some ⟨WB, 0, none⟩) | 9 => v_ = .pointer (some ⟨WB, 4, none⟩) | 10 => v_ = .slice (some ⟨nb, 0, none⟩) n nc | 11 => v_ = .int .i64 (i : Int) | 12 => v_ = .pointer (some ⟨nb, i, none⟩) | 13 => v_ = .slice RA rn rc | 14 => (∃ A7 n7 c7, v_ = .slice A7 n7 c7 ∧ True) | 15 => (∃ sb, v_ = .slice (some ⟨sb, 0, none⟩) 1 1 ∧ True) | 16 => (∃ gn cp, v_ = .slice (some ⟨gn, 0, none⟩) (n + 1) cp ∧ True) | 17 => v_ = .pointer (some ⟨WB, 0, none⟩) | 18 => v_ = .pointer (some ⟨WB, 4, none⟩) | _ => True) : Array Bool → Nat → Value → World → Prop) listed kq uq w0 → ((fun (l_ : Array Bool) (j_ : Nat) (v_ : Value) (W : World) => match j_ with | 0 => v_ = .pointer (some ⟨WB, 0, none⟩) | 1 => v_ = .pointer (some ⟨WB, 0, none⟩) | 2 => v_ = .pointer (some ⟨WB, 0, none⟩) | 3 => v_ = .pointer (some ⟨WB, 4, none⟩) | 4 => v_ = .slice (some ⟨nb, 0, none⟩) n nc | 5 => v_ = .int .i64 (i : Int) | 6 => (∃ fb, v_ = .func (.func 87) #[] #[.pointer (some ⟨fb, 0, none⟩)] ∧ (l_.getD 14 false = false → Lies W fb 3 #[.int .i64 (i : Int)])) | 7 => v_ = .pointer (some ⟨WB, 0, none⟩) | 8 => v_ = .pointer (some ⟨WB, 0, none⟩) | 9 => v_ = .pointer (some ⟨WB, 4, none⟩) | 10 => v_ = .slice (some ⟨nb, 0, none⟩) n nc | 11 => v_ = .int .i64 (i : Int) | 12 => v_ = .pointer (some ⟨nb, i, none⟩) | 13 => v_ = .slice RA rn rc | 14 => (∃ A7 n7 c7, v_ = .slice A7 n7 c7 ∧ True) | 15 => (∃ sb, v_ = .slice (some ⟨sb, 0, none⟩) 1 1 ∧ True) | 16 => (∃ gn cp, v_ = .slice (some ⟨gn, 0, none⟩) (n + 1) cp ∧ True) | 17 => v_ = .pointer (some ⟨WB, 0, none⟩) | 18 => v_ = .pointer (some ⟨WB, 4, none⟩) | _ => True) : Array Bool → Nat → Value → World → Prop) (listed.setIfInBounds 16 true) kq uq W' from
          (fun kq uq hkp hkl h => by
            have s_ : (listed.setIfInBounds 16 true).getD 16 false = true := getD_here (by rw [hs]; decide)
            match kq, hkp, hkl, h with
            | 0, _, _, h => exact h
            | 1, _, _, h => exact h
            | 2, _, _, h => exact h
            | 3, _, _, h => exact h
            | 4, _, _, h => exact h
            | 5, _, _, h => exact h
            | 6, _, _, ⟨fb, e, _⟩ => exact ⟨fb, e, fun h6 => by have h := hdeps ⟨14, .chain⟩ (by simp) rfl; have h := h; rw [getD_set_ne false (by decide), h] at h6; cases h6⟩
            | 7, _, _, h => exact h
            | 8, _, _, h => exact h
            | 9, _, _, h => exact h
            | 10, _, _, h => exact h
            | 11, _, _, h => exact h
            | 12, _, _, h => exact h
            | 13, _, _, h => exact h
            | 14, _, _, h => exact h
            | 15, _, _, h => exact h
            | 16, hk, _, _ => exact absurd rfl hk
            | 17, _, _, h => exact h
            | 18, _, _, h => exact h
            | _ + 19, _, _, _ => exact trivial)
        have n19 : listed.getD 19 false = false := (by cases hh : listed.getD 19 false with | false => rfl | true => exact absurd (hcl 19 _ rfl hh ⟨16, .data⟩ (by simp) rfl) (by simp [hun]))
        obtain ⟨A7, n7, c7, v14, s_, k15⟩ := hI.2.1 d14 hun
        obtain ⟨sb, v15, hlb⟩ := k15 d15
        rw [v15] at e77
        have hrow : w0.ownsRow ws.heap.size 33 1 (.slice (some ⟨nb, 0, none⟩) n nc) n vs := own_but HROW.out s_.but (fun k hq e => by
          have hq' : nb = k := Option.some.inj hq
          rw [← hq'] at e
          exact win_ne HWI.out HLN.out (by decide) e.symm)
        have cb := lies_cell hlb 0
        simp only [List.getElem?_toArray, List.getElem?_cons_zero] at cb
        obtain ⟨A9, C9, w2, hr, ho, hg, _⟩ := row_slice w0 ws.heap.size sb (.slice (some ⟨nb, 0, none⟩) n nc) (.slice A7 n7 c7) n vs hrow cb rfl (Nat.le_trans HZB.out s_.but.size) (by omega)
        obtain ⟨gn, cp, hv9, _⟩ := World.ownsRow.form ho (by omega)
        injection hv9 with e9 e10 e11
        subst e9
        have e12 := e11.symm
        subst e12
        have hnb : ∀ k, some k = (.slice (some ⟨nb, 0, none⟩) n nc : Value).ownBlock → k = nb := fun k hq => Option.some.inj hq
        have hgb : But (fun k => some k = (.slice (some ⟨nb, 0, none⟩) n nc : Value).ownBlock) w0 w2 := But.grown hg
        have hw7 : Win w2 ws.heap.size (.slice A7 n7 c7) (zs (put i FI)) := win_but s_.win hgb (fun k hq e => by
          rw [hnb k e] at hq
          have hLn := s_.but.lies HLN.out (fun e => win_ne HWI.out HLN.out (by decide) e.symm)
          exact win_ne s_.win hLn (by decide) hq)
        exact wp_valT (v := .slice (some ⟨gn, 0, none⟩) (n + 1) cp) (w' := w2) (app_op _ _ rfl e66 e77 hr) (hk _ _ ⟨gn, _, rfl, trivial⟩ (PR _) ⟨fun e => (by rw [getD_set_ne false (by decide), d14] at e; cases e), fun _ e => (by rw [getD_here (by rw [hs]; decide)] at e; cases e), fun _ _ => ⟨A7, n7, c7, gn, _, upd_same _ _ _, by rw [HVN.out]; exact ho, hw7, s_.blk, (s_.but.mono (fun _ _ e => .inl e)).trans (hgb.mono (fun _ _ e => .inr e))⟩, fun e => (by rw [getD_set_ne false (by decide), n19] at e; cases e)⟩)
      · have d0 := hdeps ⟨0, .data⟩ (by simp) rfl
        have e62 : a.eval (.tmp 62) = .pointer (some ⟨WB, 0, none⟩) := (tabd_at ht (t := 62) (of_decide_eq_true (by kernel_rfl)) (by kernel_rfl) d0).trans (hF 0 d0)
        exact .inl ⟨rfl, fun K hk => wp_val (v := .pointer (some ⟨WB, 0, none⟩)) (by clear hk hI hoi hdeps ht hF hcl hs KF KP IV; generalize a.eval = ρ at *; unfold execOp; simp only [e62]; go_simp; try (intro hq_; exfalso; omega)) (hk _ _ rfl (KP listed 17 w0 (by decide)) (IV listed 17 w0 w0 (by decide) (gr w0) hI))⟩
      · have d17 := hdeps ⟨17, .data⟩ (by simp) rfl
        have e79 : a.eval (.tmp 79) = .pointer (some ⟨WB, 0, none⟩) := (tabd_at ht (t := 79) (of_decide_eq_true (by kernel_rfl)) (by kernel_rfl) d17).trans (hF 17 d17)
        exact .inl ⟨rfl, fun K hk => wp_val (v := .pointer (some ⟨WB, 4, none⟩)) (by clear hk hI hoi hdeps ht hF hcl hs KF KP IV; generalize a.eval = ρ at *; unfold execOp; simp only [e79]; go_simp; try (intro hq_; exfalso; omega)) (hk _ _ rfl (KP listed 18 w0 (by decide)) (IV listed 18 w0 w0 (by decide) (gr w0) hI))⟩
      · have d18 := hdeps ⟨18, .data⟩ (by simp) rfl
        have d16 := hdeps ⟨16, .data⟩ (by simp) rfl
        have f16 := hF 16 d16
        have e78 : a.eval (.tmp 78) = vals 16 := tabd_at ht (t := 78) (of_decide_eq_true (by kernel_rfl)) (by kernel_rfl) d16
        have e80 : a.eval (.tmp 80) = .pointer (some ⟨WB, 4, none⟩) := (tabd_at ht (t := 80) (of_decide_eq_true (by kernel_rfl)) (by kernel_rfl) d18).trans (hF 18 d18)
        refine .inl ⟨rfl, fun K hk => ?_⟩
        have PR := fun W' => show ∀ (kq : Nat) (uq : Value), kq ≠ 19 → listed.getD kq false = true → ((fun (l_ : Array Bool) (j_ : Nat) (v_ : Value) (W : World) => match j_ with | 0 => v_ = .pointer (some ⟨WB, 0, none⟩) | 1 => v_ = .pointer (some ⟨WB, 0, none⟩) | 2 => v_ = .pointer (some ⟨WB, 0, none⟩) | 3 => v_ = .pointer (some ⟨WB, 4, none⟩) | 4 => v_ = .slice (some ⟨nb, 0, none⟩) n nc | 5 => v_ = .int .i64 (i : Int) | 6 => (∃ fb, v_ = .func (.func 87) #[] #[.pointer (some ⟨fb, 0, none⟩)] ∧ (l_.getD 14 false = false → Lies W fb 3 #[.int .i64 (i : Int)])) | 7 => v_ = .pointer (some ⟨WB, 0, none⟩) | 8 => v_ = .pointer (some ⟨WB, 0, none⟩) | 9 => v_ = .pointer (some ⟨WB, 4, none⟩) | 10 => v_ = .slice (some ⟨nb, 0, none⟩) n nc | 11 => v_ = .int .i64 (i : Int) | 12 => v_ = .pointer (some ⟨nb, i, none⟩) | 13 => v_ = .slice RA rn rc | 14 => (∃ A7 n7 c7, v_ = .slice A7 n7 c7 ∧ True) | 15 => (∃ sb, v_ = .slice (some ⟨sb, 0, none⟩) 1 1 ∧ True) | 16 => (∃ gn cp, v_ = .slice (some ⟨gn, 0, none⟩) (n + 1) cp ∧ True) | 17 => v_ = .pointer (some ⟨WB, 0, none⟩) | 18 => v_ = .pointer (some ⟨WB, 4, none⟩) | _ => True) : Array Bool → Nat → Value → World → Prop) listed kq uq w0 → ((fun (l_ : Array Bool) (j_ : Nat) (v_ : Value) (W : World) => match j_ with | 0 => v_ = .pointer (some ⟨WB, 0, none⟩) | 1 => v_ = .pointer (some ⟨WB, 0, none⟩) | 2 => v_ = .pointer (some ⟨WB, 0, none⟩) | 3 => v_ = .pointer (some ⟨WB, 4, none⟩) | 4 => v_ = .slice (some ⟨nb, 0, none⟩) n nc | 5 => v_ = .int .i64 (i : Int) | 6 => (∃ fb, v_ = .func (.func 87) #[] #[.pointer (some ⟨fb, 0, none⟩)] ∧ (l_.getD 14 false = false → Lies W fb 3 #[.int .i64 (i : Int)])) | 7 => v_ = .pointer (some ⟨WB, 0, none⟩) | 8 => v_ = .pointer (some ⟨WB, 0, none⟩) | 9 => v_ = .pointer (some ⟨WB, 4, none⟩) | 10 => v_ = .slice (some ⟨nb, 0, none⟩) n nc | 11 => v_ = .int .i64 (i : Int) | 12 => v_ = .pointer (some ⟨nb, i, none⟩) | 13 => v_ = .slice RA rn rc | 14 => (∃ A7 n7 c7, v_ = .slice A7 n7 c7 ∧ True) | 15 => (∃ sb, v_ = .slice (some ⟨sb, 0, none⟩) 1 1 ∧ True) | 16 => (∃ gn cp, v_ = .slice (some ⟨gn, 0, none⟩) (n + 1) cp ∧ True) | 17 => v_ = .pointer (some ⟨WB, 0, none⟩) | 18 => v_ = .pointer (some ⟨WB, 4, none⟩) | _ => True) : Array Bool → Nat → Value → World → Prop) (listed.setIfInBounds 19 true) kq uq W' from
          (fun kq uq hkp hkl h => by
            have s_ : (listed.setIfInBounds 19 true).getD 19 false = true := getD_here (by rw [hs]; decide)
            match kq, hkp, hkl, h with
            | 0, _, _, h => exact h
            | 1, _, _, h => exact h
            | 2, _, _, h => exact h
            | 3, _, _, h => exact h
            | 4, _, _, h => exact h
            | 5, _, _, h => exact h
            | 6, _, _, ⟨fb, e, _⟩ => exact ⟨fb, e, fun h6 => by have h := hdeps ⟨14, .phase⟩ (by simp) rfl; have h := h; rw [getD_set_ne false (by decide), h] at h6; cases h6⟩
            | 7, _, _, h => exact h
            | 8, _, _, h => exact h
            | 9, _, _, h => exact h
            | 10, _, _, h => exact h
            | 11, _, _, h => exact h
            | 12, _, _, h => exact h
            | 13, _, _, h => exact h
            | 14, _, _, h => exact h
            | 15, _, _, h => exact h
            | 16, _, _, h => exact h
            | 17, _, _, h => exact h
            | 18, _, _, h => exact h
            | _ + 19, _, _, _ => exact trivial)
        have d14 : listed.getD 14 false = true := (hcl 16 _ rfl d16 ⟨14, .chain⟩ (by simp) rfl)
        obtain ⟨A7, n7, c7, gn, cp, v16, s_⟩ := hI.2.2.1 d16 hun
        rw [v16] at e78
        have hL : Lies w0 WB 49 #[.int .i64 (i : Int), .int .i64 (n : Int), St a0.t, av5, .slice (some ⟨nb, 0, none⟩) n nc, .int .i64 ((s.cuts + 1 : Nat) : Int)] := s_.but.lies HW5.out.box (fun e => e.elim (fun e => win_ne HWI.out HW5.out.box (by decide) e.symm) (fun e => own_ne HROW.out HW5.out.box (by decide) e.symm))
        have hS := sq19_of s_ hL 4
        have c4 := lies_cell hL 4
        have f4 := lies_free hL 4
        simp only [List.getElem?_toArray, List.getElem?_cons_zero, List.getElem?_cons_succ] at c4
        exact wp_skipT (w' := w0.setCell ⟨WB, 4, none⟩ (.slice (some ⟨gn, 0, none⟩) (n + 1) cp)) (by clear hS hL s_ v16; clear hk hI hoi hdeps ht hF hcl hs KF KP IV; generalize a.eval = ρ at *; unfold execOp; simp only [e78, e80]; go_simp) (hk _ _ trivial (PR _) ⟨fun e => (by rw [getD_set_ne false (by decide), d14] at e; cases e), fun _ e => (by rw [getD_set_ne false (by decide), d16] at e; cases e), fun _ e => (by rw [getD_here (by rw [hs]; decide)] at e; cases e), fun _ => ⟨A7, n7, c7, gn, cp, hS⟩⟩)
    case hend =>
      intro a w0 listed vals hall ht hF hI
      rw [tabd_fill ht (fun t i ho => hall i (ownAll_lt ho))]
      have g0 : vals 0 = .pointer (some ⟨WB, 0, none⟩) := hF 0 (by decide)
      have g1 : vals 1 = .pointer (some ⟨WB, 0, none⟩) := hF 1 (by decide)
      have g2 : vals 2 = .pointer (some ⟨WB, 0, none⟩) := hF 2 (by decide)
      have g3 : vals 3 = .pointer (some ⟨WB, 4, none⟩) := hF 3 (by decide)
      have g4 : vals 4 = .slice (some ⟨nb, 0, none⟩) n nc := hF 4 (by decide)
      have g5 : vals 5 = .int .i64 (i : Int) := hF 5 (by decide)
      have g6 := hF 6 (by decide)
      have g7 : vals 7 = .pointer (some ⟨WB, 0, none⟩) := hF 7 (by decide)
      have g8 : vals 8 = .pointer (some ⟨WB, 0, none⟩) := hF 8 (by decide)
      have g9 : vals 9 = .pointer (some ⟨WB, 4, none⟩) := hF 9 (by decide)
      have g10 : vals 10 = .slice (some ⟨nb, 0, none⟩) n nc := hF 10 (by decide)
      have g11 : vals 11 = .int .i64 (i : Int) := hF 11 (by decide)
      have g12 : vals 12 = .pointer (some ⟨nb, i, none⟩) := hF 12 (by decide)
      have g13 : vals 13 = .slice RA rn rc := hF 13 (by decide)
      have g14 := hF 14 (by decide)
      have g15 := hF 15 (by decide)
      have g16 := hF 16 (by decide)
      have g17 : vals 17 = .pointer (some ⟨WB, 0, none⟩) := hF 17 (by decide)
      have g18 : vals 18 = .pointer (some ⟨WB, 4, none⟩) := hF 18 (by decide)
      change Exit.then _ _ Exit.normal { tmps := (.pointer (some ⟨WB, 0, none⟩) :: .int .i64 ↑i :: undef :: undef :: .string tb :: undef :: undef :: undef :: .pointer (some ⟨WB, 0, none⟩) :: .pointer (some ⟨WB, 0, none⟩) :: .pointer (some ⟨WB, 5, none⟩) :: .int .i64 ↑s.cuts :: .string tb :: .pointer (some ⟨WB, 0, none⟩) :: .int .i64 ↑i :: .pointer (some ⟨WB, 0, none⟩) :: .pointer (some ⟨WB, 0, none⟩) :: .pointer (some ⟨WB, 3, none⟩) :: .slice (some ⟨g, 0, none⟩) n ac :: .int .i64 ↑n :: .pointer (some ⟨WB, 0, none⟩) :: .pointer (some ⟨WB, 0, none⟩) :: .pointer (some ⟨WB, 3, none⟩) :: .slice (some ⟨g, 0, none⟩) n ac :: .int .i64 ↑i :: .pointer (some ⟨g, i * 5, none⟩) :: .pointer (some ⟨g, i * 5 + 2, none⟩) :: .string yb :: .agg #[.int .i64 ↑i, .int .i64 ↑n, .string yb] :: .pointer (some ⟨WB, 0, none⟩) :: .pointer (some ⟨WB, 0, none⟩) :: .pointer (some ⟨WB, 0, none⟩) :: .pointer (some ⟨WB, 0, none⟩) :: .pointer (some ⟨WB, 5, none⟩) :: .int .i64 ↑s.cuts :: .int .i64 (↑s.cuts + 1) :: .pointer (some ⟨WB, 0, none⟩) :: .pointer (some ⟨WB, 5, none⟩) :: .pointer (some ⟨WB, 0, none⟩) :: .pointer (some ⟨WB, 0, none⟩) :: .pointer (some ⟨WB, 3, none⟩) :: .slice (some ⟨g, 0, none⟩) n ac :: .int .i64 ↑i :: .string tb :: .pointer (some ⟨g, i * 5, none⟩) :: .pointer (some ⟨g, i * 5 + 2, none⟩) :: .pointer (some ⟨WB, 0, none⟩) :: u47 :: u48 :: u49 :: u50 :: u51 :: u52 :: u53 :: u54 :: u55 :: u56 :: u57 :: u58 :: u59 :: u60 :: u61 :: vals 0 :: vals 1 :: vals 2 :: vals 3 :: vals 4 :: vals 5 :: vals 6 :: vals 7 :: vals 8 :: vals 9 :: vals 10 :: vals 11 :: vals 12 :: vals 13 :: vals 14 :: vals 15 :: vals 16 :: vals 17 :: vals 18 :: undef :: undef :: undef :: undef :: undef :: undef :: undef :: undef :: undef :: undef :: undef :: undef :: undef :: undef :: undef :: undef :: undef :: undef :: undef :: undef :: undef :: undef :: undef :: undef :: undef :: undef :: undef :: undef :: undef :: undef :: undef :: undef :: undef :: undef :: undef :: undef :: undef :: undef :: undef :: undef :: undef :: undef :: undef :: undef :: undef :: undef :: undef :: undef :: undef :: []).toArray, defers := [] } w0
      simp only [g0, g1, g2, g3, g4, g5, g7, g8, g9, g10, g11, g12, g13, g17, g18]
      clear ht hF KF KP IV
      obtain ⟨A7, n7, c7, gn, cp, hS⟩ := hI.2.2.2 (hall 19 (by decide))
      have HS19 := Lib.hid hS
      clear hI hall hS
      generalize vals 6 = z6 at *
      generalize vals 14 = z14 at *
      generalize vals 15 = z15 at *
      generalize vals 16 = z16 at *
      have hvl : vs.length = n := HVN.out
      have hgnr := World.ownsRow.form HS19.out.row (by omega)
      have hs6 : Sq19 wc ws.heap.size WB #[.int .i64 (i : Int), .int .i64 (n : Int), St a0.t, av5, .slice (some ⟨gn, 0, none⟩) (n + 1) cp, .int .i64 ((s.cuts + 1 : Nat) : Int)] (.slice RA rn rc) (put i FI) (.slice A7 n7 c7) (.slice (some ⟨nb, 0, none⟩) n nc) vs (.slice (some ⟨gn, 0, none⟩) (n + 1) cp) w0 := HS19.out
      have c4 := lies_cell hs6.box 4
      simp only [List.getElem?_toArray, List.getElem?_cons_zero, List.getElem?_cons_succ] at c4
      obtain ⟨_, _, curg, hLg⟩ := own_heap hs6.row gn rfl
      have fg := lies_free hLg i
      have cg : w0.cell? ⟨gn, i, none⟩ = (vs ++ [.slice A7 n7 c7])[i]? := by
        have h := hs6.row
        rw [hvl] at h
        exact h.cellAt i (by omega)
      obtain ⟨u9, hu9⟩ : ∃ u9, (vs ++ [Value.slice A7 n7 c7])[i]? = some u9 := ⟨_, List.getElem?_eq_getElem (by rw [List.length_append, hvl]; simp; omega)⟩
      rw [hu9] at cg
      rw [show n + 1 = vs.length + 1 by rw [hvl], ← HRV.out, HFI.out] at hs6
      have hw6 := wkb_need HW5.out (by rw [hvl]; omega) hs6
      rw [hvl] at hw6
      have HW6 := Lib.hid (show WkB ws.heap.size WB ⟨l4 ++ [⟨3, tmpN s.cuts, a0.t, 0, 0⟩], needsS s i, s.cuts + 1⟩ (i : Int) (n : Int) a0.t av5 (.slice (some ⟨gn, 0, none⟩) (n + 1) cp) ((vs ++ [Value.slice A7 n7 c7]).set i nilV) (w0.setCell ⟨gn, i, none⟩ nilV) from hw6)
      clear hvl hgnr hs6 hLg hu9 hw6
      go_upto_region 7 with (fail)
      have HB6 := Lib.hid (show Below ws.heap.size ws (w0.setCell ⟨gn, i, none⟩ nilV) from by
        have h1 : Below ws.heap.size ws w0 := HB5.out.trans (HS19.out.but.below HB5.out.size (fun k hk => by
          rcases hk with (e | e) | e
          · exact (win_block HWI.out k e.symm).1
          · have hq := Option.some.inj e
            subst hq
            exact HNB.out
          · subst e; exact HW5.out.wb))
        exact h1.setCell (p := ⟨gn, i, none⟩) (own_heap HS19.out.row gn rfl).1 _)
      clear c4 fg cg HS19 HW5 HRV HFI HLN HCN HVN HRI HBI HIL HL0 HL1 HL2 HZB HWI HROW HB4
      unfold nilV at HW6 HB6
      generalize w0.setCell ⟨gn, i, none⟩ (.slice none 0 0) = W6 at *
      obtain ⟨vs6, hvs6⟩ : ∃ vs6, vs6 = (vs ++ [Value.slice A7 n7 c7]).set i (.slice none 0 0) := ⟨_, rfl⟩
      rw [← hvs6] at HW6
      clear hvs6
      have c0 := lies_cell HW6.out.box 0
      have c1 := lies_cell HW6.out.box 1
      simp only [List.getElem?_toArray, List.getElem?_cons_zero, List.getElem?_cons_succ] at c0 c1
      have KI := Lib.hid (fun W => instead_any (i : Int) (n : Int) W)
      go_cut [5] from 87 to 97 (fun v5 wx => ∃ OB, v5 = .func (.func 88) #[] #[.pointer (some ⟨OB, 0, none⟩), .pointer (some ⟨OB + 2, 0, none⟩)] ∧ SpL ws.heap.size WB OB ⟨l4 ++ [⟨3, tmpN s.cuts, a0.t, 0, 0⟩], needsS s i, s.cuts + 1⟩ i n a0.t av5 (.slice (some ⟨gn, 0, none⟩) (n + 1) cp) vs6 ws wx)
      case first =>
        go_region_with (go_at_call 62; (with_reducible refine (KI.out _).mono ?_); rintro e w7 ⟨rfl, hfo, hfp, hft, hlow⟩; have HS7 := Lib.hid (spl_start HW6.out HB6.out HB6.out.size hfo hfp hft ⟨hlow.os, hlow.tape, hlow.output, hlow.size, hlow.block⟩); clear hfo hfp hft hlow)
        all_goals (go_wp2_with fail)
        all_goals go_meet
        all_goals exact ⟨_, rfl, HS7.out⟩
      case rest =>
        obtain ⟨OB, rfl, hS7⟩ := hcut
        clear c0 c1 HW6 HB6 KI
        have hacts : l4 ++ [⟨3, tmpN s.cuts, a0.t, 0, 0⟩] = actsS tmpN s i := by unfold actsS; rw [HL4.out, HA0.out]
        have hal : (actsS tmpN s i).length = n + 1 := by rw [← hacts, List.length_append, HLL.out]; rfl
        have hto : a0.t = (s.acts.getD i default).t := by rw [HA0.out]
        have hnl : (needsS s i).length = s.acts.length + 1 := by unfold needsS; rw [List.length_set, List.length_append, ← HP.out.len]; rfl
        rw [hacts, ← parT_0 s i hnl] at hS7
        obtain ⟨A5, C5, eA5, _⟩ := own_acts hS7.wk.own
        have eA5' : av5 = .slice A5 (n + 1) C5 := by rw [eA5]; show Value.slice A5 (actsS tmpN s i).length C5 = _; rw [hal]
        subst eA5'
        clear eA5
        have c3 := lies_cell hS7.wk.box 3
        simp only [List.getElem?_toArray, List.getElem?_cons_zero, List.getElem?_cons_succ] at c3
        have HS8 := Lib.hid hS7
        have HAL := Lib.hid hal
        have HTO := Lib.hid hto
        have hz29 := zero29c
        clear hS7 hacts hal hto hnl HL4 HLL HW4 OWH OGB SZ4
        go_upto_region 9 with (fail)
        clear c3
        go_loopw [103] (fun v103 wr => ∃ (k : Nat) (vs' : List Value), k ≤ n + 1 ∧ v103 = .int .i64 (k : Int) ∧ vs'.length = n + 1 ∧ SpL ws.heap.size WB OB ⟨actsS tmpN s i, parT s i k, s.cuts + 1⟩ i n a0.t (.slice A5 (n + 1) C5) (.slice (some ⟨gn, 0, none⟩) (n + 1) cp) vs' ws wr) (fun v103 _ => n + 1 - (intOf v103).toNat)
        case atStart => exact ⟨0, vs6, Nat.zero_le _, rfl, by rw [HS8.out.wk.rws.len]; show (parT s i 0).length = n + 1; rw [parT_len, HN.out], HS8.out⟩
        case round =>
          obtain ⟨k, vs9, hk, rfl, hv9, hS⟩ := hrel
          have HS := Lib.hid hS
          clear hS
          by_cases hlt : k < n + 1
          · have lk : (k : Int) < ((n + 1 : Nat) : Int) := by omega
            have lk2 : (k : Int) < (n : Int) + 1 := by omega
            obtain ⟨A6, C6, eA6, hAA⟩ := own_acts HS.out.wk.own
            injection eA6 with e61 e62 e63
            subst e61
            clear e62 e63
            have hkl : k < (actsS tmpN s i).length := by rw [HAL.out]; exact hlt
            obtain ⟨b, o, eA, hbw, hr⟩ := hAA k hkl
            subst eA
            obtain ⟨ak, ha⟩ : ∃ ak, ak = (actsS tmpN s i)[k] := ⟨_, rfl⟩
            have hgd : (actsS tmpN s i).getD k default = ak := by rw [ha, List.getD_eq_getElem?_getD, List.getElem?_eq_getElem hkl]; rfl
            rw [show (⟨actsS tmpN s i, parT s i k, s.cuts + 1⟩ : Wk).acts[k] = ak from ha.symm] at hr
            have HGD := Lib.hid hgd
            have HR := Lib.hid hr
            have L0 := Lib.hid (lies_new wr 29 #[.int .i64 0, .string { data := #[] }, .string { data := #[] }, .int .i64 0, .int .i64 0])
            have HV9 := Lib.hid hv9
            clear hAA ha hgd hr hkl hbw hv9
            go_upto_region 11 with (first
              | (refine wpList_load_mid rfl 29 _ rfl b (o + k * 5) rfl (acC ak) _ HR.out Tryz.underlying29 rfl (by kernel_rfl) ?_)
              | (refine wpList_store_row rfl 29 _ _ rfl wr.heap.size #[.int .i64 ak.op, St ak.p, St ak.t, .int .i64 ak.mode, .int .i64 ak.ref] rfl rfl 29 _ L0.out (by kernel_rfl) rfl (by simp [Value.oneCell', St]) ?_))
            rw [setRow_alloc]
            have HSY := Lib.hid (spl_none HS.out ((But.refl (fun _ => False) wr).alloc (.cells #[.int .i64 ak.op, St ak.p, St ak.t, .int .i64 ak.mode, .int .i64 ak.ref] 29)) HS.out.low.size)
            have LA := lies_new wr 29 #[.int .i64 ak.op, St ak.p, St ak.t, .int .i64 ak.mode, .int .i64 ak.ref]
            generalize wr.alloc (.cells #[.int .i64 ak.op, St ak.p, St ak.t, .int .i64 ak.mode, .int .i64 ak.ref] 29) = Y at *
            have LW := HSY.out.wk.box
            obtain ⟨y0, hy0⟩ : ∃ t : ByteArray, .string t = St a0.t := ⟨_, rfl⟩
            obtain ⟨yp, hyp⟩ : ∃ t : ByteArray, .string t = St ak.p := ⟨_, rfl⟩
            obtain ⟨yt, hyt⟩ : ∃ t : ByteArray, .string t = St ak.t := ⟨_, rfl⟩
            have KT := fun W => takes_any (i : Int) (n : Int) a0.t ak W
            unfold acV at KT
            rw [← hyp, ← hyt] at LA
            rw [← hy0] at LW
            rw [← hy0, ← hyp, ← hyt] at KT
            have KT := Lib.hid KT
            have a0' := lies_cell LA 0
            have a1' := lies_cell LA 1
            have a2' := lies_cell LA 2
            have a3' := lies_cell LA 3
            have a4' := lies_cell LA 4
            have w0' := lies_cell LW 0
            have w1' := lies_cell LW 1
            have w2' := lies_cell LW 2
            simp only [List.getElem?_toArray, List.getElem?_cons_zero, List.getElem?_cons_succ] at a0' a1' a2' a3' a4' w0' w1' w2'
            clear hy0 hyp hyt LA LW L0 HR
            obtain ⟨tk, htk⟩ : ∃ tk, tk = takes a0.t ak := ⟨_, rfl⟩
            rw [← htk] at KT
            have HTK := Lib.hid htk
            clear htk
            cases tk with
            | false =>
              go_still_tail 5, (by kernel_rfl)
              change wpList _ _ _ _ _ Y.drew
              go_wp2_with (go_at_call 63; (with_reducible refine (KT.out _).mono ?_); rintro e w8 ⟨rfl, hb8⟩; have HS8' := Lib.hid (spl_none HSY.out (((But.refl (fun _ => False) Y).drew).trans (But.ofBelow hb8 _)) HSY.out.low.size); clear hb8)
              go_roundw
              case rel => exact ⟨k + 1, vs9, by omega, by go_num, HV9.out, by rw [← parT_no s i k (by rw [HGD.out, ← HTO.out]; exact HTK.out.symm)]; exact HS8'.out⟩
              case measure => first | (simp [intOf]; done) | (simp [intOf]; omega)
            | true =>
              go_still_tail 5, (by kernel_rfl)
              change wpList _ _ _ _ _ Y.drew
              go_upto_region 12 with (go_at_call 63; (with_reducible refine (KT.out _).mono ?_); rintro e w8 ⟨rfl, hb8⟩; have HS8' := Lib.hid (spl_none HSY.out (((But.refl (fun _ => False) Y).drew).trans (But.ofBelow hb8 _)) HSY.out.low.size); clear hb8)
              clear a0' a1' a2' a3' a4' w0' w1' w2' HSY HS KT
              have hwk : Win w8 ws.heap.size (vs9.getD k nilV) (zs (nx (parT s i k) k)) := HS8'.out.wk.rws.win k
              have hks : k < s.acts.length + 1 := by rw [← HN.out]; exact hlt
              have hni := needsS_rise HP.out HI.out k
              rw [← parT_at s i k hks] at hni
              obtain ⟨FK, hFK⟩ : ∃ FK, FK = nx (parT s i k) k := ⟨_, rfl⟩
              rw [← hFK] at hwk hni
              obtain ⟨RB, rb, cb', hrk⟩ := win_slice2 hwk
              have hrow8 : w8.ownsRow ws.heap.size 33 1 (.slice (some ⟨gn, 0, none⟩) (n + 1) cp) (n + 1) vs9 := by have := HS8'.out.wk.row; rw [HV9.out] at this; exact this
              obtain ⟨_, _, cur8, hL8⟩ := own_heap hrow8 gn rfl
              have hck : cur8[k]? = some (.slice RB rb cb') := by
                rw [← lies_cell hL8 k, hrow8.cellAt k (by omega), ← hrk, List.getD_eq_getElem?_getD, List.getElem?_eq_getElem (by rw [HV9.out]; exact hlt)]
                rfl
              rw [hrk] at hwk
              have HWK := Lib.hid hwk
              have HNI := Lib.hid hni
              have HFK := Lib.hid hFK
              have HRK := Lib.hid hrk
              have HL8 := Lib.hid hL8
              have HCK := Lib.hid hck
              have HKS := Lib.hid hks
              have HB8 := Lib.hid HS8'.out.low.size
              clear hwk hks hni hFK hrk hrow8 hL8 hck
              go_upto_region 12 with (fail)
              have KF : ∀ (lq : Array Bool) (pq kq : Nat) (uq : Value) (W W' : World), (True) → W.grownBy W' none → ((fun (l_ : Array Bool) (j_ : Nat) (v_ : Value) (W : World) => match j_ with | 0 => v_ = .pointer (some ⟨WB, 0, none⟩) | 1 => v_ = .pointer (some ⟨WB, 0, none⟩) | 2 => v_ = .pointer (some ⟨WB, 4, none⟩) | 3 => v_ = .slice (some ⟨gn, 0, none⟩) (n + 1) cp | 4 => v_ = .int .i64 (k : Int) | 5 => v_ = .func (.func 88) #[] #[.pointer (some ⟨OB, 0, none⟩), .pointer (some ⟨OB + 2, 0, none⟩)] | 6 => v_ = .pointer (some ⟨WB, 0, none⟩) | 7 => v_ = .pointer (some ⟨WB, 0, none⟩) | 8 => v_ = .pointer (some ⟨WB, 4, none⟩) | 9 => v_ = .slice (some ⟨gn, 0, none⟩) (n + 1) cp | 10 => v_ = .int .i64 (k : Int) | 11 => v_ = .pointer (some ⟨gn, k, none⟩) | 12 => v_ = .slice RB rb cb' | 13 => (∃ A7 n7 c7, v_ = .slice A7 n7 c7 ∧ True) | 14 => v_ = .pointer (some ⟨gn, k, none⟩) | _ => True) : Array Bool → Nat → Value → World → Prop) lq kq uq W → ((fun (l_ : Array Bool) (j_ : Nat) (v_ : Value) (W : World) => match j_ with | 0 => v_ = .pointer (some ⟨WB, 0, none⟩) | 1 => v_ = .pointer (some ⟨WB, 0, none⟩) | 2 => v_ = .pointer (some ⟨WB, 4, none⟩) | 3 => v_ = .slice (some ⟨gn, 0, none⟩) (n + 1) cp | 4 => v_ = .int .i64 (k : Int) | 5 => v_ = .func (.func 88) #[] #[.pointer (some ⟨OB, 0, none⟩), .pointer (some ⟨OB + 2, 0, none⟩)] | 6 => v_ = .pointer (some ⟨WB, 0, none⟩) | 7 => v_ = .pointer (some ⟨WB, 0, none⟩) | 8 => v_ = .pointer (some ⟨WB, 4, none⟩) | 9 => v_ = .slice (some ⟨gn, 0, none⟩) (n + 1) cp | 10 => v_ = .int .i64 (k : Int) | 11 => v_ = .pointer (some ⟨gn, k, none⟩) | 12 => v_ = .slice RB rb cb' | 13 => (∃ A7 n7 c7, v_ = .slice A7 n7 c7 ∧ True) | 14 => v_ = .pointer (some ⟨gn, k, none⟩) | _ => True) : Array Bool → Nat → Value → World → Prop) (lq.setIfInBounds pq true) kq uq W' := fun lq pq kq uq W W' hp hg h => by
                have kl : ∀ {g t cs}, Lies W g t cs → Lies W' g t cs := fun h => (hg.block _ (lies_lt h) (by simp)).trans h
                have ko : ∀ {B e z v k xs}, W.ownsRow B e z v k xs → W'.ownsRow B e z v k xs := fun {B e z v k xs} h => h.kept hg (by cases v.ownBlock <;> simp)
                match kq, h with
                | 0, h => exact h
                | 1, h => exact h
                | 2, h => exact h
                | 3, h => exact h
                | 4, h => exact h
                | 5, h => exact h
                | 6, h => exact h
                | 7, h => exact h
                | 8, h => exact h
                | 9, h => exact h
                | 10, h => exact h
                | 11, h => exact h
                | 12, h => exact h
                | 13, ⟨A7, n7, c7, e, h⟩ => exact ⟨A7, n7, c7, e, trivial⟩
                | 14, h => exact h
                | _ + 15, _ => exact trivial
              have gr : ∀ W : World, W.grownBy W none := fun W => ⟨rfl, rfl, rfl, Nat.le_refl _, fun _ _ _ => rfl⟩
              have KP := fun (lq : Array Bool) (pq : Nat) (W : World) (hp : True) => fun (kq : Nat) (uq : Value) (_ : kq ≠ pq) (_ : lq.getD kq false = true) (h : ((fun (l_ : Array Bool) (j_ : Nat) (v_ : Value) (W : World) => match j_ with | 0 => v_ = .pointer (some ⟨WB, 0, none⟩) | 1 => v_ = .pointer (some ⟨WB, 0, none⟩) | 2 => v_ = .pointer (some ⟨WB, 4, none⟩) | 3 => v_ = .slice (some ⟨gn, 0, none⟩) (n + 1) cp | 4 => v_ = .int .i64 (k : Int) | 5 => v_ = .func (.func 88) #[] #[.pointer (some ⟨OB, 0, none⟩), .pointer (some ⟨OB + 2, 0, none⟩)] | 6 => v_ = .pointer (some ⟨WB, 0, none⟩) | 7 => v_ = .pointer (some ⟨WB, 0, none⟩) | 8 => v_ = .pointer (some ⟨WB, 4, none⟩) | 9 => v_ = .slice (some ⟨gn, 0, none⟩) (n + 1) cp | 10 => v_ = .int .i64 (k : Int) | 11 => v_ = .pointer (some ⟨gn, k, none⟩) | 12 => v_ = .slice RB rb cb' | 13 => (∃ A7 n7 c7, v_ = .slice A7 n7 c7 ∧ True) | 14 => v_ = .pointer (some ⟨gn, k, none⟩) | _ => True) : Array Bool → Nat → Value → World → Prop) lq kq uq W) => KF lq pq kq uq W W hp (gr W) h
              have IV : ∀ (lq : Array Bool) (pq : Nat) (W W' : World) {vq : Nat → Value} {uq : Value}, (pq ≠ 13 ∧ pq ≠ 15) → W.grownBy W' none → ((fun (l_ : Array Bool) (V_ : Nat → Value) (WW : World) => (l_.getD 13 false = false → But (fun _ => False) w8 WW) ∧ (l_.getD 13 false = true → l_.getD 15 false = false → ∃ A7 n7 c7, V_ 13 = .slice A7 n7 c7 ∧ Sq7 w8 ws.heap.size (.slice RB rb cb') (inst i n FK) (.slice A7 n7 c7) WW) ∧ (l_.getD 15 false = true → ∃ A7 n7 c7, SpL ws.heap.size WB OB ⟨actsS tmpN s i, (parT s i k).set k (inst i n FK), s.cuts + 1⟩ i n a0.t (.slice (some ⟨b, o, none⟩) (n + 1) C5) (.slice (some ⟨gn, 0, none⟩) (n + 1) cp) (vs9.set k (.slice A7 n7 c7)) ws WW)) : Array Bool → (Nat → Value) → World → Prop) lq vq W → ((fun (l_ : Array Bool) (V_ : Nat → Value) (WW : World) => (l_.getD 13 false = false → But (fun _ => False) w8 WW) ∧ (l_.getD 13 false = true → l_.getD 15 false = false → ∃ A7 n7 c7, V_ 13 = .slice A7 n7 c7 ∧ Sq7 w8 ws.heap.size (.slice RB rb cb') (inst i n FK) (.slice A7 n7 c7) WW) ∧ (l_.getD 15 false = true → ∃ A7 n7 c7, SpL ws.heap.size WB OB ⟨actsS tmpN s i, (parT s i k).set k (inst i n FK), s.cuts + 1⟩ i n a0.t (.slice (some ⟨b, o, none⟩) (n + 1) C5) (.slice (some ⟨gn, 0, none⟩) (n + 1) cp) (vs9.set k (.slice A7 n7 c7)) ws WW)) : Array Bool → (Nat → Value) → World → Prop) (lq.setIfInBounds pq true) (upd vq pq uq) W' := fun lq pq W W' vq uq hp hg h => by
                have h13 : (lq.setIfInBounds pq true).getD 13 false = lq.getD 13 false := by rw [getD_set_ne false hp.1]
                have h15 : (lq.setIfInBounds pq true).getD 15 false = lq.getD 15 false := by rw [getD_set_ne false hp.2]
                have bg : But (fun _ => False) W W' := (But.grown hg).mono (fun k _ e => by cases e)
                refine ⟨fun e => (h.1 (by rw [← h13]; exact e)).trans bg, fun e1 e2 => ?_, fun e => ?_⟩
                · obtain ⟨A7, n7, c7, v13, s_⟩ := h.2.1 (by rw [← h13]; exact e1) (by rw [← h15]; exact e2)
                  exact ⟨A7, n7, c7, by rw [upd_other (Ne.symm hp.1)]; exact v13, s_.grown bg⟩
                · obtain ⟨A7, n7, c7, s_⟩ := h.2.2 (by rw [← h15]; exact e)
                  exact ⟨A7, n7, c7, spl_none s_ bg s_.low.size⟩
              refine wp_region_any (by kernel_rfl) ?_
              refine every_factV (own := ownAll _) id ((fun (l_ : Array Bool) (j_ : Nat) (v_ : Value) (W : World) => match j_ with | 0 => v_ = .pointer (some ⟨WB, 0, none⟩) | 1 => v_ = .pointer (some ⟨WB, 0, none⟩) | 2 => v_ = .pointer (some ⟨WB, 4, none⟩) | 3 => v_ = .slice (some ⟨gn, 0, none⟩) (n + 1) cp | 4 => v_ = .int .i64 (k : Int) | 5 => v_ = .func (.func 88) #[] #[.pointer (some ⟨OB, 0, none⟩), .pointer (some ⟨OB + 2, 0, none⟩)] | 6 => v_ = .pointer (some ⟨WB, 0, none⟩) | 7 => v_ = .pointer (some ⟨WB, 0, none⟩) | 8 => v_ = .pointer (some ⟨WB, 4, none⟩) | 9 => v_ = .slice (some ⟨gn, 0, none⟩) (n + 1) cp | 10 => v_ = .int .i64 (k : Int) | 11 => v_ = .pointer (some ⟨gn, k, none⟩) | 12 => v_ = .slice RB rb cb' | 13 => (∃ A7 n7 c7, v_ = .slice A7 n7 c7 ∧ True) | 14 => v_ = .pointer (some ⟨gn, k, none⟩) | _ => True) : Array Bool → Nat → Value → World → Prop) ((fun (l_ : Array Bool) (V_ : Nat → Value) (WW : World) => (l_.getD 13 false = false → But (fun _ => False) w8 WW) ∧ (l_.getD 13 false = true → l_.getD 15 false = false → ∃ A7 n7 c7, V_ 13 = .slice A7 n7 c7 ∧ Sq7 w8 ws.heap.size (.slice RB rb cb') (inst i n FK) (.slice A7 n7 c7) WW) ∧ (l_.getD 15 false = true → ∃ A7 n7 c7, SpL ws.heap.size WB OB ⟨actsS tmpN s i, (parT s i k).set k (inst i n FK), s.cuts + 1⟩ i n a0.t (.slice (some ⟨b, o, none⟩) (n + 1) C5) (.slice (some ⟨gn, 0, none⟩) (n + 1) cp) (vs9.set k (.slice A7 n7 c7)) ws WW)) : Array Bool → (Nat → Value) → World → Prop) (acAll_of (by kernel_rfl)) (onAll_of (by kernel_rfl)) (dstAll_of (by kernel_rfl)) ?hop ?hend _ _ _ _ (fun _ => undef) rfl (shut_none _) (of_decide_eq_true (by kernel_rfl)) (tabd_start (fun i => rep_false _ i)) (fun k hk => by rw [rep_false] at hk; cases hk) ⟨fun _ => (But.refl (fun _ => False) w8).drew, fun e => (by rw [rep_false] at e; cases e), fun e => (by rw [rep_false] at e; cases e)⟩
              case hop =>
                intro j oi a w0 listed vals hoi hs hcl hun hdeps ht hF hI
                have hj : j < 16 := (Array.getElem?_eq_some_iff.1 hoi).1
                have cj : j = 0 ∨ j = 1 ∨ j = 2 ∨ j = 3 ∨ j = 4 ∨ j = 5 ∨ j = 6 ∨ j = 7 ∨ j = 8 ∨ j = 9 ∨ j = 10 ∨ j = 11 ∨ j = 12 ∨ j = 13 ∨ j = 14 ∨ j = 15 := by omega
                obtain rfl | rfl | rfl | rfl | rfl | rfl | rfl | rfl | rfl | rfl | rfl | rfl | rfl | rfl | rfl | rfl := cj
                all_goals obtain rfl := Option.some.inj hoi
                · have e0 : a.eval (.tmp 0) = .pointer (some ⟨WB, 0, none⟩) := (tabd_old ht (t := 0) (of_decide_eq_true (by kernel_rfl)) (by kernel_rfl)).trans rfl
                  exact .inl ⟨rfl, fun K hk => wp_val (v := .pointer (some ⟨WB, 0, none⟩)) (by clear hk hI hoi hdeps ht hF hcl hs KF KP IV; generalize a.eval = ρ at *; unfold execOp; simp only [e0]; go_simp; try (intro hq_; exfalso; omega)) (hk _ _ rfl (KP listed 0 w0 (by decide)) (IV listed 0 w0 w0 (by decide) (gr w0) hI))⟩
                · have d0 := hdeps ⟨0, .data⟩ (by simp) rfl
                  have e114 : a.eval (.tmp 114) = .pointer (some ⟨WB, 0, none⟩) := (tabd_at ht (t := 114) (of_decide_eq_true (by kernel_rfl)) (by kernel_rfl) d0).trans (hF 0 d0)
                  exact .inl ⟨rfl, fun K hk => wp_val (v := .pointer (some ⟨WB, 0, none⟩)) (by clear hk hI hoi hdeps ht hF hcl hs KF KP IV; generalize a.eval = ρ at *; unfold execOp; simp only [e114]; go_simp; try (intro hq_; exfalso; omega)) (hk _ _ rfl (KP listed 1 w0 (by decide)) (IV listed 1 w0 w0 (by decide) (gr w0) hI))⟩
                · have d1 := hdeps ⟨1, .data⟩ (by simp) rfl
                  have e115 : a.eval (.tmp 115) = .pointer (some ⟨WB, 0, none⟩) := (tabd_at ht (t := 115) (of_decide_eq_true (by kernel_rfl)) (by kernel_rfl) d1).trans (hF 1 d1)
                  exact .inl ⟨rfl, fun K hk => wp_val (v := .pointer (some ⟨WB, 4, none⟩)) (by clear hk hI hoi hdeps ht hF hcl hs KF KP IV; generalize a.eval = ρ at *; unfold execOp; simp only [e115]; go_simp; try (intro hq_; exfalso; omega)) (hk _ _ rfl (KP listed 2 w0 (by decide)) (IV listed 2 w0 w0 (by decide) (gr w0) hI))⟩
                · have d2 := hdeps ⟨2, .data⟩ (by simp) rfl
                  have e116 : a.eval (.tmp 116) = .pointer (some ⟨WB, 4, none⟩) := (tabd_at ht (t := 116) (of_decide_eq_true (by kernel_rfl)) (by kernel_rfl) d2).trans (hF 2 d2)
                  refine .inl ⟨rfl, fun K hk => ?_⟩
                  have n15 : listed.getD 15 false = false := (by cases hh : listed.getD 15 false with | false => rfl | true => exact absurd (hcl 15 _ rfl hh ⟨3, .phase⟩ (by simp) rfl) (by simp [hun]))
                  have hbt : But (fun q => some q = wblk (.slice RB rb cb')) w8 w0 := by
                    cases h13 : listed.getD 13 false with
                    | false => exact (hI.1 h13).mono (fun _ _ e => e.elim)
                    | true => obtain ⟨_, _, _, _, s_⟩ := hI.2.1 h13 n15; exact s_.but
                  have hL := hbt.lies HS8'.out.wk.box (fun e => win_ne HWK.out HS8'.out.wk.box (by decide) e.symm)
                  have hc := lies_cell hL 4
                  simp only [List.getElem?_toArray, List.getElem?_cons_zero, List.getElem?_cons_succ] at hc
                  exact wp_val (v := .slice (some ⟨gn, 0, none⟩) (n + 1) cp) (by clear hbt hL; clear hk hI hoi hdeps ht hF hcl hs KF KP IV; generalize a.eval = ρ at *; unfold execOp; simp only [e116]; go_simp) (hk _ _ rfl (KP listed 3 w0 (by decide)) (IV listed 3 w0 w0 (by decide) (gr w0) hI))
                · have e6 : a.eval (.tmp 6) = .int .i64 ↑k := (tabd_old ht (t := 6) (of_decide_eq_true (by kernel_rfl)) (by kernel_rfl)).trans rfl
                  exact .inl ⟨rfl, fun K hk => wp_val (v := .int .i64 (k : Int)) (by clear hk hI hoi hdeps ht hF hcl hs KF KP IV; generalize a.eval = ρ at *; unfold execOp; simp only [e6]; go_simp; try (intro hq_; exfalso; omega)) (hk _ _ rfl (KP listed 4 w0 (by decide)) (IV listed 4 w0 w0 (by decide) (gr w0) hI))⟩
                · have e5 : a.eval (.tmp 5) = .func (Fn.func 88) #[] #[.pointer (some ⟨OB, 0, none⟩), .pointer (some ⟨OB + 2, 0, none⟩)] := (tabd_old ht (t := 5) (of_decide_eq_true (by kernel_rfl)) (by kernel_rfl)).trans rfl
                  exact .inl ⟨rfl, fun K hk => wp_val (v := .func (.func 88) #[] #[.pointer (some ⟨OB, 0, none⟩), .pointer (some ⟨OB + 2, 0, none⟩)]) (by clear hk hI hoi hdeps ht hF hcl hs KF KP IV; generalize a.eval = ρ at *; unfold execOp; simp only [e5]; go_simp; try (intro hq_; exfalso; omega)) (hk _ _ rfl (KP listed 5 w0 (by decide)) (IV listed 5 w0 w0 (by decide) (gr w0) hI))⟩
                · have e0 : a.eval (.tmp 0) = .pointer (some ⟨WB, 0, none⟩) := (tabd_old ht (t := 0) (of_decide_eq_true (by kernel_rfl)) (by kernel_rfl)).trans rfl
                  exact .inl ⟨rfl, fun K hk => wp_val (v := .pointer (some ⟨WB, 0, none⟩)) (by clear hk hI hoi hdeps ht hF hcl hs KF KP IV; generalize a.eval = ρ at *; unfold execOp; simp only [e0]; go_simp; try (intro hq_; exfalso; omega)) (hk _ _ rfl (KP listed 6 w0 (by decide)) (IV listed 6 w0 w0 (by decide) (gr w0) hI))⟩
                · have d6 := hdeps ⟨6, .data⟩ (by simp) rfl
                  have e120 : a.eval (.tmp 120) = .pointer (some ⟨WB, 0, none⟩) := (tabd_at ht (t := 120) (of_decide_eq_true (by kernel_rfl)) (by kernel_rfl) d6).trans (hF 6 d6)
                  exact .inl ⟨rfl, fun K hk => wp_val (v := .pointer (some ⟨WB, 0, none⟩)) (by clear hk hI hoi hdeps ht hF hcl hs KF KP IV; generalize a.eval = ρ at *; unfold execOp; simp only [e120]; go_simp; try (intro hq_; exfalso; omega)) (hk _ _ rfl (KP listed 7 w0 (by decide)) (IV listed 7 w0 w0 (by decide) (gr w0) hI))⟩
                · have d7 := hdeps ⟨7, .data⟩ (by simp) rfl
                  have e121 : a.eval (.tmp 121) = .pointer (some ⟨WB, 0, none⟩) := (tabd_at ht (t := 121) (of_decide_eq_true (by kernel_rfl)) (by kernel_rfl) d7).trans (hF 7 d7)
                  exact .inl ⟨rfl, fun K hk => wp_val (v := .pointer (some ⟨WB, 4, none⟩)) (by clear hk hI hoi hdeps ht hF hcl hs KF KP IV; generalize a.eval = ρ at *; unfold execOp; simp only [e121]; go_simp; try (intro hq_; exfalso; omega)) (hk _ _ rfl (KP listed 8 w0 (by decide)) (IV listed 8 w0 w0 (by decide) (gr w0) hI))⟩
                · have d8 := hdeps ⟨8, .data⟩ (by simp) rfl
                  have e122 : a.eval (.tmp 122) = .pointer (some ⟨WB, 4, none⟩) := (tabd_at ht (t := 122) (of_decide_eq_true (by kernel_rfl)) (by kernel_rfl) d8).trans (hF 8 d8)
                  refine .inl ⟨rfl, fun K hk => ?_⟩
                  have n15 : listed.getD 15 false = false := (by cases hh : listed.getD 15 false with | false => rfl | true => exact absurd (hcl 15 _ rfl hh ⟨9, .phase⟩ (by simp) rfl) (by simp [hun]))
                  have hbt : But (fun q => some q = wblk (.slice RB rb cb')) w8 w0 := by
                    cases h13 : listed.getD 13 false with
                    | false => exact (hI.1 h13).mono (fun _ _ e => e.elim)
                    | true => obtain ⟨_, _, _, _, s_⟩ := hI.2.1 h13 n15; exact s_.but
                  have hL := hbt.lies HS8'.out.wk.box (fun e => win_ne HWK.out HS8'.out.wk.box (by decide) e.symm)
                  have hc := lies_cell hL 4
                  simp only [List.getElem?_toArray, List.getElem?_cons_zero, List.getElem?_cons_succ] at hc
                  exact wp_val (v := .slice (some ⟨gn, 0, none⟩) (n + 1) cp) (by clear hbt hL; clear hk hI hoi hdeps ht hF hcl hs KF KP IV; generalize a.eval = ρ at *; unfold execOp; simp only [e122]; go_simp) (hk _ _ rfl (KP listed 9 w0 (by decide)) (IV listed 9 w0 w0 (by decide) (gr w0) hI))
                · have e6 : a.eval (.tmp 6) = .int .i64 ↑k := (tabd_old ht (t := 6) (of_decide_eq_true (by kernel_rfl)) (by kernel_rfl)).trans rfl
                  exact .inl ⟨rfl, fun K hk => wp_val (v := .int .i64 (k : Int)) (by clear hk hI hoi hdeps ht hF hcl hs KF KP IV; generalize a.eval = ρ at *; unfold execOp; simp only [e6]; go_simp; try (intro hq_; exfalso; omega)) (hk _ _ rfl (KP listed 10 w0 (by decide)) (IV listed 10 w0 w0 (by decide) (gr w0) hI))⟩
                · have d9 := hdeps ⟨9, .data⟩ (by simp) rfl
                  have d10 := hdeps ⟨10, .data⟩ (by simp) rfl
                  have e123 : a.eval (.tmp 123) = .slice (some ⟨gn, 0, none⟩) (n + 1) cp := (tabd_at ht (t := 123) (of_decide_eq_true (by kernel_rfl)) (by kernel_rfl) d9).trans (hF 9 d9)
                  have e124 : a.eval (.tmp 124) = .int .i64 (k : Int) := (tabd_at ht (t := 124) (of_decide_eq_true (by kernel_rfl)) (by kernel_rfl) d10).trans (hF 10 d10)
                  exact .inl ⟨rfl, fun K hk => wp_val (v := .pointer (some ⟨gn, k, none⟩)) (by clear hk hI hoi hdeps ht hF hcl hs KF KP IV; generalize a.eval = ρ at *; unfold execOp; simp only [e123, e124]; go_simp; try (intro hq_; exfalso; omega)) (hk _ _ rfl (KP listed 11 w0 (by decide)) (IV listed 11 w0 w0 (by decide) (gr w0) hI))⟩
                · have d11 := hdeps ⟨11, .data⟩ (by simp) rfl
                  have e125 : a.eval (.tmp 125) = .pointer (some ⟨gn, k, none⟩) := (tabd_at ht (t := 125) (of_decide_eq_true (by kernel_rfl)) (by kernel_rfl) d11).trans (hF 11 d11)
                  refine .inl ⟨rfl, fun K hk => ?_⟩
                  have n13 : listed.getD 13 false = false := (by cases hh : listed.getD 13 false with | false => rfl | true => exact absurd (hcl 13 _ rfl hh ⟨12, .data⟩ (by simp) rfl) (by simp [hun]))
                  have hL := (hI.1 n13).lies HL8.out id
                  have hc := (lies_cell hL k).trans HCK.out
                  exact wp_val (v := .slice RB rb cb') (by clear hL; clear hk hI hoi hdeps ht hF hcl hs KF KP IV; generalize a.eval = ρ at *; unfold execOp; simp only [e125]; go_simp) (hk _ _ rfl (KP listed 12 w0 (by decide)) (IV listed 12 w0 w0 (by decide) (gr w0) hI))
                · have d5 := hdeps ⟨5, .data⟩ (by simp) rfl
                  have d12 := hdeps ⟨12, .data⟩ (by simp) rfl
                  have e119 : a.eval (.tmp 119) = .func (.func 88) #[] #[.pointer (some ⟨OB, 0, none⟩), .pointer (some ⟨OB + 2, 0, none⟩)] := (tabd_at ht (t := 119) (of_decide_eq_true (by kernel_rfl)) (by kernel_rfl) d5).trans (hF 5 d5)
                  have e126 : a.eval (.tmp 126) = .slice RB rb cb' := (tabd_at ht (t := 126) (of_decide_eq_true (by kernel_rfl)) (by kernel_rfl) d12).trans (hF 12 d12)
                  refine .inl ⟨rfl, fun K hk => ?_⟩
                  have PR := fun W' => show ∀ (kq : Nat) (uq : Value), kq ≠ 13 → listed.getD kq false = true → ((fun (l_ : Array Bool) (j_ : Nat) (v_ : Value) (W : World) => match j_ with | 0 => v_ = .pointer (some ⟨WB, 0, none⟩) | 1 => v_ = .pointer (some ⟨WB, 0, none⟩) | 2 => v_ = .pointer (some ⟨WB, 4, none⟩) | 3 => v_ = .slice (some ⟨gn, 0, none⟩) (n + 1) cp | 4 => v_ = .int .i64 (k : Int) | 5 => v_ = .func (.func 88) #[] #[.pointer (some ⟨OB, 0, none⟩), .pointer (some ⟨OB + 2, 0, none⟩)] | 6 => v_ = .pointer (some ⟨WB, 0, none⟩) | 7 => v_ = .pointer (some ⟨WB, 0, none⟩) | 8 => v_ = .pointer (some ⟨WB, 4, none⟩) | 9 => v_ = .slice (some ⟨gn, 0, none⟩) (n + 1) cp | 10 => v_ = .int .i64 (k : Int) | 11 => v_ = .pointer (some ⟨gn, k, none⟩) | 12 => v_ = .slice RB rb cb' | 13 => (∃ A7 n7 c7, v_ = .slice A7 n7 c7 ∧ True) | 14 => v_ = .pointer (some ⟨gn, k, none⟩) | _ => True) : Array Bool → Nat → Value → World → Prop) listed kq uq w0 → ((fun (l_ : Array Bool) (j_ : Nat) (v_ : Value) (W : World) => match j_ with | 0 => v_ = .pointer (some ⟨WB, 0, none⟩) | 1 => v_ = .pointer (some ⟨WB, 0, none⟩) | 2 => v_ = .pointer (some ⟨WB, 4, none⟩) | 3 => v_ = .slice (some ⟨gn, 0, none⟩) (n + 1) cp | 4 => v_ = .int .i64 (k : Int) | 5 => v_ = .func (.func 88) #[] #[.pointer (some ⟨OB, 0, none⟩), .pointer (some ⟨OB + 2, 0, none⟩)] | 6 => v_ = .pointer (some ⟨WB, 0, none⟩) | 7 => v_ = .pointer (some ⟨WB, 0, none⟩) | 8 => v_ = .pointer (some ⟨WB, 4, none⟩) | 9 => v_ = .slice (some ⟨gn, 0, none⟩) (n + 1) cp | 10 => v_ = .int .i64 (k : Int) | 11 => v_ = .pointer (some ⟨gn, k, none⟩) | 12 => v_ = .slice RB rb cb' | 13 => (∃ A7 n7 c7, v_ = .slice A7 n7 c7 ∧ True) | 14 => v_ = .pointer (some ⟨gn, k, none⟩) | _ => True) : Array Bool → Nat → Value → World → Prop) (listed.setIfInBounds 13 true) kq uq W' from
                    (fun kq uq hkp hkl h => by
                      have s_ : (listed.setIfInBounds 13 true).getD 13 false = true := getD_here (by rw [hs]; decide)
                      match kq, hkp, hkl, h with
                      | 0, _, _, h => exact h
                      | 1, _, _, h => exact h
                      | 2, _, _, h => exact h
                      | 3, _, _, h => exact h
                      | 4, _, _, h => exact h
                      | 5, _, _, h => exact h
                      | 6, _, _, h => exact h
                      | 7, _, _, h => exact h
                      | 8, _, _, h => exact h
                      | 9, _, _, h => exact h
                      | 10, _, _, h => exact h
                      | 11, _, _, h => exact h
                      | 12, _, _, h => exact h
                      | 13, hk, _, _ => exact absurd rfl hk
                      | 14, _, _, h => exact h
                      | _ + 15, _, _, _ => exact trivial)
                  have n15 : listed.getD 15 false = false := (by cases hh : listed.getD 15 false with | false => rfl | true => exact absurd (hcl 15 _ rfl hh ⟨13, .data⟩ (by simp) rfl) (by simp [hun]))
                  have hB := hI.1 hun
                  have hfo := lies_cell (hB.lies HS8'.out.fo id) 0
                  have hfp := lies_cell (hB.lies HS8'.out.fp id) 0
                  have hft := lies_cell (hB.lies HS8'.out.ft id) 0
                  simp only [List.getElem?_toArray, List.getElem?_cons_zero] at hfo hfp hft
                  have hR := inst1_any ws.heap.size (.slice RB rb cb') FK i n OB (OB + 2) (OB + 1) w0 (win_but HWK.out hB (fun _ _ => id)) HNI.out.1 HNI.out.2 hfo hft hfp (Nat.le_trans HB8.out hB.size) (win_ne HWK.out HS8'.out.ft (by decide)) (fun e => (HS8'.out.ap k (OB + 1) (by rw [HRK.out]; exact e)).2 rfl) (Nat.lt_of_lt_of_le (lies_lt HS8'.out.ft) hB.size) (Nat.lt_of_lt_of_le (lies_lt HS8'.out.fp) hB.size)
                  refine wp_enter (by clear hk hI hoi hdeps ht hF hcl hs KF KP IV hR hB hfo hfp hft; generalize a.eval = ρ at *; unfold execOp; simp only [e119, e126]; go_simp) hR ?_
                  rintro e w2 ⟨v7, rfl, hWv, hBt, hkv⟩
                  obtain ⟨A7, n7, c7, rfl⟩ := win_slice2 hWv
                  exact ⟨_, rfl, hk _ w2 ⟨A7, n7, c7, rfl, trivial⟩ (PR w2) ⟨fun e => (by rw [getD_here (by rw [hs]; decide)] at e; cases e), fun _ _ => ⟨A7, n7, c7, upd_same _ _ _, hWv, hkv.imp id (fun h k hk => Nat.le_trans hB.size (h k hk)), (hB.mono (fun _ _ e => e.elim)).trans hBt⟩, fun e => (by rw [getD_set_ne false (by decide), n15] at e; cases e)⟩⟩
                · have d3 := hdeps ⟨3, .data⟩ (by simp) rfl
                  have d4 := hdeps ⟨4, .data⟩ (by simp) rfl
                  have e117 : a.eval (.tmp 117) = .slice (some ⟨gn, 0, none⟩) (n + 1) cp := (tabd_at ht (t := 117) (of_decide_eq_true (by kernel_rfl)) (by kernel_rfl) d3).trans (hF 3 d3)
                  have e118 : a.eval (.tmp 118) = .int .i64 (k : Int) := (tabd_at ht (t := 118) (of_decide_eq_true (by kernel_rfl)) (by kernel_rfl) d4).trans (hF 4 d4)
                  exact .inl ⟨rfl, fun K hk => wp_val (v := .pointer (some ⟨gn, k, none⟩)) (by clear hk hI hoi hdeps ht hF hcl hs KF KP IV; generalize a.eval = ρ at *; unfold execOp; simp only [e117, e118]; go_simp; try (intro hq_; exfalso; omega)) (hk _ _ rfl (KP listed 14 w0 (by decide)) (IV listed 14 w0 w0 (by decide) (gr w0) hI))⟩
                · have d14 := hdeps ⟨14, .data⟩ (by simp) rfl
                  have d13 := hdeps ⟨13, .data⟩ (by simp) rfl
                  have f13 := hF 13 d13
                  have e127 : a.eval (.tmp 127) = vals 13 := tabd_at ht (t := 127) (of_decide_eq_true (by kernel_rfl)) (by kernel_rfl) d13
                  have e128 : a.eval (.tmp 128) = .pointer (some ⟨gn, k, none⟩) := (tabd_at ht (t := 128) (of_decide_eq_true (by kernel_rfl)) (by kernel_rfl) d14).trans (hF 14 d14)
                  refine .inl ⟨rfl, fun K hk => ?_⟩
                  have PR := fun W' => show ∀ (kq : Nat) (uq : Value), kq ≠ 15 → listed.getD kq false = true → ((fun (l_ : Array Bool) (j_ : Nat) (v_ : Value) (W : World) => match j_ with | 0 => v_ = .pointer (some ⟨WB, 0, none⟩) | 1 => v_ = .pointer (some ⟨WB, 0, none⟩) | 2 => v_ = .pointer (some ⟨WB, 4, none⟩) | 3 => v_ = .slice (some ⟨gn, 0, none⟩) (n + 1) cp | 4 => v_ = .int .i64 (k : Int) | 5 => v_ = .func (.func 88) #[] #[.pointer (some ⟨OB, 0, none⟩), .pointer (some ⟨OB + 2, 0, none⟩)] | 6 => v_ = .pointer (some ⟨WB, 0, none⟩) | 7 => v_ = .pointer (some ⟨WB, 0, none⟩) | 8 => v_ = .pointer (some ⟨WB, 4, none⟩) | 9 => v_ = .slice (some ⟨gn, 0, none⟩) (n + 1) cp | 10 => v_ = .int .i64 (k : Int) | 11 => v_ = .pointer (some ⟨gn, k, none⟩) | 12 => v_ = .slice RB rb cb' | 13 => (∃ A7 n7 c7, v_ = .slice A7 n7 c7 ∧ True) | 14 => v_ = .pointer (some ⟨gn, k, none⟩) | _ => True) : Array Bool → Nat → Value → World → Prop) listed kq uq w0 → ((fun (l_ : Array Bool) (j_ : Nat) (v_ : Value) (W : World) => match j_ with | 0 => v_ = .pointer (some ⟨WB, 0, none⟩) | 1 => v_ = .pointer (some ⟨WB, 0, none⟩) | 2 => v_ = .pointer (some ⟨WB, 4, none⟩) | 3 => v_ = .slice (some ⟨gn, 0, none⟩) (n + 1) cp | 4 => v_ = .int .i64 (k : Int) | 5 => v_ = .func (.func 88) #[] #[.pointer (some ⟨OB, 0, none⟩), .pointer (some ⟨OB + 2, 0, none⟩)] | 6 => v_ = .pointer (some ⟨WB, 0, none⟩) | 7 => v_ = .pointer (some ⟨WB, 0, none⟩) | 8 => v_ = .pointer (some ⟨WB, 4, none⟩) | 9 => v_ = .slice (some ⟨gn, 0, none⟩) (n + 1) cp | 10 => v_ = .int .i64 (k : Int) | 11 => v_ = .pointer (some ⟨gn, k, none⟩) | 12 => v_ = .slice RB rb cb' | 13 => (∃ A7 n7 c7, v_ = .slice A7 n7 c7 ∧ True) | 14 => v_ = .pointer (some ⟨gn, k, none⟩) | _ => True) : Array Bool → Nat → Value → World → Prop) (listed.setIfInBounds 15 true) kq uq W' from
                    (fun kq uq hkp hkl h => by
                      have s_ : (listed.setIfInBounds 15 true).getD 15 false = true := getD_here (by rw [hs]; decide)
                      match kq, hkp, hkl, h with
                      | 0, _, _, h => exact h
                      | 1, _, _, h => exact h
                      | 2, _, _, h => exact h
                      | 3, _, _, h => exact h
                      | 4, _, _, h => exact h
                      | 5, _, _, h => exact h
                      | 6, _, _, h => exact h
                      | 7, _, _, h => exact h
                      | 8, _, _, h => exact h
                      | 9, _, _, h => exact h
                      | 10, _, _, h => exact h
                      | 11, _, _, h => exact h
                      | 12, _, _, h => exact h
                      | 13, _, _, h => exact h
                      | 14, _, _, h => exact h
                      | _ + 15, _, _, _ => exact trivial)
                  obtain ⟨A7, n7, c7, v13, s_⟩ := hI.2.1 d13 hun
                  rw [v13] at e127
                  have hL : Lies w0 gn 33 cur8 := s_.but.lies HL8.out (fun e => win_ne HWK.out HL8.out (by decide) e.symm)
                  have hS := spl_inst (F' := (inst i n FK)) (v' := .slice A7 n7 c7) (W := w0) HS8'.out HV9.out hlt HB8.out s_.win (by rw [HRK.out]; exact s_.blk) (by rw [HRK.out]; exact s_.but)
                  have c4 := (lies_cell hL k).trans HCK.out
                  have f4 := lies_free hL k
                  exact wp_skipT (w' := w0.setCell ⟨gn, k, none⟩ (.slice A7 n7 c7)) (by clear hS hL s_ v13; clear hk hI hoi hdeps ht hF hcl hs KF KP IV; generalize a.eval = ρ at *; unfold execOp; simp only [e127, e128]; go_simp) (hk _ _ trivial (PR (w0.setCell ⟨gn, k, none⟩ (.slice A7 n7 c7))) ⟨fun e => (by rw [getD_set_ne false (by decide), d13] at e; cases e), fun _ e => (by rw [getD_here (by rw [hs]; decide)] at e; cases e), fun _ => ⟨A7, n7, c7, hS⟩⟩)
              case hend =>
                intro a w0 listed vals hall ht hF hI
                rw [tabd_fill ht (fun t i ho => hall i (ownAll_lt ho))]
                have g0 : vals 0 = .pointer (some ⟨WB, 0, none⟩) := hF 0 (by decide)
                have g1 : vals 1 = .pointer (some ⟨WB, 0, none⟩) := hF 1 (by decide)
                have g2 : vals 2 = .pointer (some ⟨WB, 4, none⟩) := hF 2 (by decide)
                have g3 : vals 3 = .slice (some ⟨gn, 0, none⟩) (n + 1) cp := hF 3 (by decide)
                have g4 : vals 4 = .int .i64 (k : Int) := hF 4 (by decide)
                have g5 : vals 5 = .func (.func 88) #[] #[.pointer (some ⟨OB, 0, none⟩), .pointer (some ⟨OB + 2, 0, none⟩)] := hF 5 (by decide)
                have g6 : vals 6 = .pointer (some ⟨WB, 0, none⟩) := hF 6 (by decide)
                have g7 : vals 7 = .pointer (some ⟨WB, 0, none⟩) := hF 7 (by decide)
                have g8 : vals 8 = .pointer (some ⟨WB, 4, none⟩) := hF 8 (by decide)
                have g9 : vals 9 = .slice (some ⟨gn, 0, none⟩) (n + 1) cp := hF 9 (by decide)
                have g10 : vals 10 = .int .i64 (k : Int) := hF 10 (by decide)
                have g11 : vals 11 = .pointer (some ⟨gn, k, none⟩) := hF 11 (by decide)
                have g12 : vals 12 = .slice RB rb cb' := hF 12 (by decide)
                have g13 := hF 13 (by decide)
                have g14 : vals 14 = .pointer (some ⟨gn, k, none⟩) := hF 14 (by decide)
                change (Exit.inBlock _ (Exit.then _ _)) Exit.normal { tmps := (.pointer (some ⟨WB, 0, none⟩) :: .int .i64 ↑i :: undef :: undef :: .string tb :: .func (Fn.func 88) #[] #[.pointer (some ⟨OB, 0, none⟩), .pointer (some ⟨OB + 2, 0, none⟩)] :: .int .i64 ↑k :: .pointer (some ⟨wr.heap.size, 0, none⟩) :: .pointer (some ⟨WB, 0, none⟩) :: .pointer (some ⟨WB, 0, none⟩) :: .pointer (some ⟨WB, 5, none⟩) :: .int .i64 ↑s.cuts :: .string tb :: .pointer (some ⟨WB, 0, none⟩) :: .int .i64 ↑i :: .pointer (some ⟨WB, 0, none⟩) :: .pointer (some ⟨WB, 0, none⟩) :: .pointer (some ⟨WB, 3, none⟩) :: .slice (some ⟨g, 0, none⟩) n ac :: .int .i64 ↑n :: .pointer (some ⟨WB, 0, none⟩) :: .pointer (some ⟨WB, 0, none⟩) :: .pointer (some ⟨WB, 3, none⟩) :: .slice (some ⟨g, 0, none⟩) n ac :: .int .i64 ↑i :: .pointer (some ⟨g, i * 5, none⟩) :: .pointer (some ⟨g, i * 5 + 2, none⟩) :: .string yb :: .agg #[.int .i64 ↑i, .int .i64 ↑n, .string yb] :: .pointer (some ⟨WB, 0, none⟩) :: .pointer (some ⟨WB, 0, none⟩) :: .pointer (some ⟨WB, 0, none⟩) :: .pointer (some ⟨WB, 0, none⟩) :: .pointer (some ⟨WB, 5, none⟩) :: .int .i64 ↑s.cuts :: .int .i64 (↑s.cuts + 1) :: .pointer (some ⟨WB, 0, none⟩) :: .pointer (some ⟨WB, 5, none⟩) :: .pointer (some ⟨WB, 0, none⟩) :: .pointer (some ⟨WB, 0, none⟩) :: .pointer (some ⟨WB, 3, none⟩) :: .slice (some ⟨g, 0, none⟩) n ac :: .int .i64 ↑i :: .string tb :: .pointer (some ⟨g, i * 5, none⟩) :: .pointer (some ⟨g, i * 5 + 2, none⟩) :: .pointer (some ⟨WB, 0, none⟩) :: u47 :: u48 :: u49 :: u50 :: u51 :: u52 :: u53 :: u54 :: u55 :: u56 :: u57 :: u58 :: u59 :: u60 :: u61 :: .pointer (some ⟨WB, 0, none⟩) :: .pointer (some ⟨WB, 0, none⟩) :: .pointer (some ⟨WB, 0, none⟩) :: .pointer (some ⟨WB, 4, none⟩) :: .slice (some ⟨nb, 0, none⟩) n nc :: .int .i64 ↑i :: z6 :: .pointer (some ⟨WB, 0, none⟩) :: .pointer (some ⟨WB, 0, none⟩) :: .pointer (some ⟨WB, 4, none⟩) :: .slice (some ⟨nb, 0, none⟩) n nc :: .int .i64 ↑i :: .pointer (some ⟨nb, i, none⟩) :: .slice RA rn rc :: z14 :: z15 :: z16 :: .pointer (some ⟨WB, 0, none⟩) :: .pointer (some ⟨WB, 4, none⟩) :: .pointer (some ⟨WB, 0, none⟩) :: .pointer (some ⟨WB, 0, none⟩) :: .pointer (some ⟨WB, 4, none⟩) :: .slice (some ⟨gn, 0, none⟩) (n + 1) cp :: .int .i64 ↑i :: .pointer (some ⟨gn, i, none⟩) :: u87 :: u88 :: u89 :: u90 :: u91 :: u92 :: u93 :: u94 :: u95 :: u96 :: u97 :: .pointer (some ⟨WB, 0, none⟩) :: .pointer (some ⟨WB, 0, none⟩) :: .pointer (some ⟨WB, 3, none⟩) :: .slice (some ⟨b, o, none⟩) (n + 1) C5 :: .int .i64 (↑n + 1) :: .int .i64 ↑k :: .bool true :: .int .i64 ↑k :: .pointer (some ⟨b, o + k * 5, none⟩) :: .agg (acC ak).toArray :: .pointer (some ⟨WB, 0, none⟩) :: .pointer (some ⟨WB, 0, none⟩) :: .pointer (some ⟨WB, 0, none⟩) :: .agg #[.int .i64 ↑i, .int .i64 ↑n, .string y0] :: .agg #[.int .i64 ak.op, .string yp, .string yt, .int .i64 ak.mode, .int .i64 ak.ref] :: .bool true :: vals 0 :: vals 1 :: vals 2 :: vals 3 :: vals 4 :: vals 5 :: vals 6 :: vals 7 :: vals 8 :: vals 9 :: vals 10 :: vals 11 :: vals 12 :: vals 13 :: vals 14 :: u129 :: []).toArray, defers := [] } w0
                simp only [g0, g1, g2, g3, g4, g5, g6, g7, g8, g9, g10, g11, g12, g14]
                clear ht hF KF KP IV
                obtain ⟨A7, n7, c7, hS⟩ := hI.2.2 (hall 15 (by decide))
                have HSE := Lib.hid hS
                clear hI hall hS
                go_wp2
                go_roundw
                case rel => exact ⟨k + 1, vs9.set k (.slice A7 n7 c7), by omega, by go_num, by rw [List.length_set]; exact HV9.out, by rw [← parT_yes s i k HKS.out (by rw [HGD.out, ← HTO.out]; exact HTK.out.symm), ← HFK.out, ← HN.out]; exact HSE.out⟩
                case measure => first | (simp [intOf]; done) | (simp [intOf]; omega)
          · obtain rfl : k = n + 1 := by omega
            have lk : ¬ ((n + 1 : Nat) : Int) < ((n + 1 : Nat) : Int) := by omega
            have lk2 : ¬ (n : Int) + 1 < (n : Int) + 1 := by omega
            go_wp2
            have hend := HS.out
            rw [show n + 1 = s.acts.length + 1 by rw [HN.out]] at hend
            exact Go.Great.bodyPost_end0 rfl rfl ⟨rfl, ⟨_, _, _, _, _, _, by rw [← parT_end]; exact hend.wk⟩, HPS.out, hend.low⟩
end Go.Proofs.YtpddamloajpiiaaGreatDoor
