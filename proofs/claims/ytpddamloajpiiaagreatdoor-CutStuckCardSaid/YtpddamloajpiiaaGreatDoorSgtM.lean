/-
What is proved here: cut's straighten, by a contract, as far as split has one.
-/
import Derived.Test.YtpddamloajpiiaaGreatDoorWkmM
import Derived.Test.YtpddamloajpiiaaGreatDoorJlpM
set_option linter.unusedSimpArgs false
set_option linter.unusedVariables false
namespace Go.Proofs.YtpddamloajpiiaaGreatDoor
open Go.Cmp Go.RowKit Go.Cut Go.Pth Go.Word Go.Shelf
/-- what split is to do -/
def SplitOK : Prop := ∀ (w0 : World) (WB : Nat) (s : Wk) (i : Nat) (w : World), Pow w0 → Below w0.heap.size w0 w → WkM w0.heap.size WB s w → WkP s → i < s.acts.length → s.acts.length < 1024 →
  Calls Tryz.prog 36 #[.pointer (some ⟨WB, 0, none⟩), .int .i64 (i : Int)] w fun e w' => e = .returned (.tuple #[]) ∧ WkM w0.heap.size WB (splitP tmpN s i) w' ∧ WkP (splitP tmpN s i) ∧ Below w0.heap.size w0 w'
/-- the frame at the label -/
def FrS (WB : Nat) (a : Act) : Prop := ∃ u : Nat → Value, a = { tmps := #[.pointer (some ⟨WB, 0, none⟩), undef, .int .i64 0, .int .i64 0, u 4, u 5, u 6, u 7, u 8, u 9, u 10, u 11, u 12, u 13, u 14, u 15, u 16, u 17, u 18, u 19, u 20, u 21, u 22, u 23, u 24, u 25, u 26, u 27, u 28, u 29, u 30, u 31, u 32, u 33, u 34, u 35, u 36], defers := [] }
theorem frS_mk {WB : Nat} (a : Act) (h : a = { tmps := #[.pointer (some ⟨WB, 0, none⟩), undef, .int .i64 0, .int .i64 0, a.tmps.getD 4 undef, a.tmps.getD 5 undef, a.tmps.getD 6 undef, a.tmps.getD 7 undef, a.tmps.getD 8 undef, a.tmps.getD 9 undef, a.tmps.getD 10 undef, a.tmps.getD 11 undef, a.tmps.getD 12 undef, a.tmps.getD 13 undef, a.tmps.getD 14 undef, a.tmps.getD 15 undef, a.tmps.getD 16 undef, a.tmps.getD 17 undef, a.tmps.getD 18 undef, a.tmps.getD 19 undef, a.tmps.getD 20 undef, a.tmps.getD 21 undef, a.tmps.getD 22 undef, a.tmps.getD 23 undef, a.tmps.getD 24 undef, a.tmps.getD 25 undef, a.tmps.getD 26 undef, a.tmps.getD 27 undef, a.tmps.getD 28 undef, a.tmps.getD 29 undef, a.tmps.getD 30 undef, a.tmps.getD 31 undef, a.tmps.getD 32 undef, a.tmps.getD 33 undef, a.tmps.getD 34 undef, a.tmps.getD 35 undef, a.tmps.getD 36 undef], defers := [] }) : FrS WB a := ⟨fun k => a.tmps.getD k undef, h⟩
/-- what holds at the label, and how much room is left -/
def JmS (w0 : World) (WB : Nat) (s : Wk) (k l : Nat) (a : Act) (wr : World) : Prop :=
  l = 0 ∧ FrS WB a ∧ ∃ s', k = 1024 - s'.acts.length ∧ WkM w0.heap.size WB s' wr ∧ WkP s' ∧ Below w0.heap.size w0 wr ∧ ∀ e t, StrR s' e t → StrR s e t
def StrE (w0 : World) (WB : Nat) (s : Wk) (e : Ending) (w' : World) : Prop := ∃ (x : Int) (s' : Wk), e = .returned (.int .i64 x) ∧ StrR s x s' ∧ WkM w0.heap.size WB s' w' ∧ WkP s' ∧ Below w0.heap.size w0 w'
theorem wkp_cut (s : Wk) (i : Nat) : (splitP tmpN s i).acts.length = s.acts.length + 1 := by simp [splitP, actsS]
set_option maxRecDepth 100000 in
set_option maxHeartbeats 4000000 in
theorem straighten_of (hS : SplitOK) (w0 : World) (WB : Nat) (s : Wk) (w : World) (hT : Pow w0) (hB : Below w0.heap.size w0 w) (hM : WkM w0.heap.size WB s w) (hP : WkP s) :
    Calls Tryz.prog 20 #[.pointer (some ⟨WB, 0, none⟩)] w (StrE w0 WB s) := by
  have HS := Lib.hid hS
  have HT := Lib.hid hT
  have HB := Lib.hid hB
  have HM := Lib.hid hM
  have HP := Lib.hid hP
  clear hS hT hB hM hP
  go_enter Tryz.func20, Tryz.ntmps20
  go_wp2
  refine wp_scope_meas (JmS w0 WB s) ?_ ?_
  · rintro k l a wp ⟨rfl, ⟨u, rfl⟩, s1, hk, hM1, hP1, hB1, hR1⟩
    have HR1 := Lib.hid hR1
    have HP1 := Lib.hid hP1
    have HB1 := Lib.hid hB1
    have HM1 := Lib.hid hM1
    have HK := Lib.hid hk
    clear hR1 hk
    obtain ⟨fs, sn, to, av, nv, vs, hW⟩ := hM1
    obtain ⟨AA, ac, eA, hAA⟩ := own_acts hW.own
    obtain ⟨NA, nc, eN, hNA⟩ := rws_ls hW.row hW.rws
    subst eA eN
    have hn : s1.needs.length ≤ 1024 := by rw [← hP1.len]; exact hP1.big
    have hg : ∀ l ∈ s1.needs, l.length ≤ 1024 := fun l hl => Nat.le_trans (rise_big hP1.ok hP1.up l hl) hn
    have KR := Lib.hid (roundw_any WB _ NA nc s1.needs hP1.ok hn hg wp hW.box rfl hNA)
    have HW := Lib.hid hW
    have HA := Lib.hid hAA
    have HGN := Lib.hid hn
    clear hW hAA hNA hn hg hP1 hB1
    refine ⟨_, rfl, ?_⟩
    go_upto_region 3 with (go_at_call 34; (with_reducible refine KR.out.mono ?_); rintro e w1 ⟨GA, gc, es, rfl, hGr, hE, hb⟩; have HGr := Lib.hid hGr; have HE := Lib.hid hE; have HB2 := Lib.hid hb; clear hGr hE hb)
    obtain ⟨L, hL⟩ : ∃ L, L = es.filter fun e => !stillP s1.needs e.r := ⟨_, rfl⟩
    have HEL := Lib.hid (show Grps w1 wp.heap.size (.slice GA L.length gc) L by rw [hL]; exact HE.out)
    have HLr := Lib.hid (show (es.map Ent.r).filter (fun r => !stillP s1.needs r) = L.map Ent.r by rw [hL, List.filter_map]; rfl)
    have HW1 := Lib.hid (wkb_below HW.out HB2.out)
    have HBW := Lib.hid (show Below w0.heap.size w0 w1 from HB1.out.trans (HB2.out.mono HB1.out.size))
    rw [← hL]
    clear hL HE
    clear HM1
    go_loopw [3, 11] (fun v3 v11 wq => v3 = .int .i64 0 ∧ v11 = .int .i64 0 ∧ wq = w1) (fun _ _ _ => 0)
    case atStart => exact ⟨rfl, rfl, rfl⟩
    case round =>
      obtain ⟨rfl, rfl, hw⟩ := hrel
      have hw2 := hw.symm
      clear hw
      subst hw2
      cases L with
      | nil =>
        go_wp2
        change bodyPost Tryz.prog Tryz.f20 (StrE w0 WB s) .ret _ _
        go_ret
        exact ⟨0, s1, rfl, HR1.out _ _ (.done HGr.out HLr.out), ⟨_, _, _, _, _, _, HW1.out⟩, HP1.out, HBW.out⟩
      | cons e0 L0 =>
        obtain ⟨gb, eG, c0, o0⟩ : ∃ gb, GA = some ⟨gb, 0, none⟩ ∧ w1.cell? ⟨gb, 0, none⟩ = some (.slice e0.A e0.r.length e0.c) ∧ OwnI w1 wp.heap.size (.slice e0.A e0.r.length e0.c) (zs e0.r) := by
          rcases HEL.out.row.2 with ⟨_, h0⟩ | ⟨g, cap, cur, hv, hBg, hg, hn, hcap, hs, ht⟩
          · simp at h0
          · injection hv with hv
            refine ⟨g, hv, ?_, HEL.out.own e0 (by simp)⟩
            have hL : Lies w1 g 33 cur := hg
            have h4 : (cur.toList.take ((e0 :: L0).length * 1))[0]? = cur.toList[0]? := List.getElem?_take_of_lt (by simp)
            rw [lies_cell hL, ← Array.getElem?_toList, ← h4, ht]
            rfl
        subst eG
        have i0 := (ownI_ints o0).2
        clear o0
        generalize e0.A = A0 at c0 i0
        have I0 := Lib.hid i0
        clear i0
        have HLT := Lib.hid (show ∀ v ∈ e0.r, v < s1.acts.length from fun v hv => by
          rw [HP1.out.len]
          refine HGr.out.lt e0.r ?_ v hv
          have : e0.r ∈ (es.map Ent.r).filter (fun r => !stillP s1.needs r) := by rw [HLr.out]; simp
          exact (List.mem_filter.1 this).1)
        have hlt0 : (0 : Int) < ((L0.length + 1 : Nat) : Int) := by omega
        obtain ⟨m, hm⟩ : ∃ m, m = e0.r.length := ⟨_, rfl⟩
        have HMm := Lib.hid hm
        have hmb : m ≤ 1024 := by
          rw [hm]
          have h1 : e0.r ∈ (es.map Ent.r).filter (fun r => !stillP s1.needs r) := by rw [HLr.out]; simp
          exact Nat.le_trans ((grp_each HGr.out).2 _ (List.mem_filter.1 h1).1) HGN.out
        rw [← hm] at c0
        clear hm
        go_upto_region 6 with (fail)
        go_loopw [3, 17] (fun v3 v17 wz => v3 = .int .i64 0 ∧ ∃ j : Nat, j ≤ m ∧ v17 = .int .i64 (j : Int) ∧ (∀ x ∈ e0.r.take j, movP keptP (s1.acts.getD x default) = false) ∧ Below w1.heap.size w1 wz) (fun _ v17 _ => m - (intOf v17).toNat)
        case atStart => exact ⟨rfl, 0, Nat.zero_le _, rfl, by simp, .refl _ _⟩
        case round =>
          obtain ⟨rfl, j, hj, rfl, hno, hbz⟩ := hrel
          have HNO := Lib.hid hno
          have HBZ := Lib.hid hbz
          clear hno hbz
          by_cases hlt : j < m
          · have hjr : j < e0.r.length := by have := HMm.out; omega
            obtain ⟨b, o, eA, hb, hc⟩ := I0.out j (by simpa using hjr)
            have ez : (zs e0.r)[j]'(by simpa using hjr) = (e0.r[j] : Int) := by simp [zs]
            rw [ez] at hc
            have hAt : e0.r[j] < s1.acts.length := HLT.out _ (List.getElem_mem hjr)
            have HSp := Lib.hid (show e0.r = e0.r.take j ++ e0.r[j] :: e0.r.drop (j + 1) from by rw [← List.drop_eq_getElem_cons hjr, List.take_append_drop])
            obtain ⟨v, hv⟩ : ∃ v, v = e0.r[j] := ⟨_, rfl⟩
            have HV := Lib.hid hv
            rw [← hv] at hc hAt
            replace hc := (HBZ.out.cell (p := ⟨b, o + j, none⟩) hb).trans hc
            have hgt : s1.acts.getD v default = s1.acts[v] := by rw [List.getD_eq_getElem?_getD, List.getElem?_eq_getElem hAt]; rfl
            have KM := Lib.hid (movable_any WB s1.acts.length ac fs sn s1.cuts to AA (.slice NA s1.needs.length nc) s1.acts v hAt wr (lies_below HW1.out.box HBZ.out (lies_lt HW1.out.box)) rfl (actsAt_below (actsAt_below HA.out HB2.out) HBZ.out) (HP1.out.txt _ (List.getElem_mem hAt)))
            have li : (j : Int) < (m : Int) := by omega
            subst eA
            unfold iV at hc
            have HAt := Lib.hid hAt
            cases hmv : movP keptP s1.acts[v] with
            | false =>
              have HN2 := Lib.hid (show ∀ x ∈ e0.r.take (j + 1), movP keptP (s1.acts.getD x default) = false from fun x hx => by
                rw [List.take_succ_eq_append_getElem hjr] at hx
                rcases List.mem_append.1 hx with hx | hx
                · exact HNO.out x hx
                · obtain rfl := List.mem_singleton.1 hx
                  rw [← HV.out, hgt]; exact hmv)
              have KM2 := Lib.hid (show Calls Tryz.prog 35 #[.pointer (some ⟨WB, 0, none⟩), .int .i64 (v : Int)] wr (fun e w' => e = .returned (.bool false) ∧ Below wr.heap.size wr w') from KM.out.mono fun e w' h => ⟨h.1.trans (congrArg (fun b => Ending.returned (.bool b)) hmv), h.2⟩)
              clear KM hmv hgt hv hb ez hAt
              go_wp2_with (go_at_call 35; (with_reducible refine KM2.out.mono ?_); rintro e w2 ⟨rfl, hb2⟩; have HB3 := Lib.hid hb2; clear hb2)
              go_roundw
              case rel =>
                exact ⟨_, _, _, _, _, _, _, _, _, _, _, _, _, _, _, _, _, _, _, _, ⟨rfl, j + 1, by omega, by go_num, HN2.out, HBZ.out.trans (HB3.out.mono HBZ.out.size)⟩, rfl⟩
              case measure => first | (simp [intOf]; done) | (simp [intOf]; omega)
            | true =>
              have HMV := Lib.hid (show movP keptP (s1.acts.getD v default) = true by rw [hgt]; exact hmv)
              have KM2 := Lib.hid (show Calls Tryz.prog 35 #[.pointer (some ⟨WB, 0, none⟩), .int .i64 (v : Int)] wr (fun e w' => e = .returned (.bool true) ∧ Below wr.heap.size wr w') from KM.out.mono fun e w' h => ⟨h.1.trans (congrArg (fun b => Ending.returned (.bool b)) hmv), h.2⟩)
              clear KM hmv hgt hv hb ez hAt
              go_upto_region 9 with (go_at_call 35; (with_reducible refine KM2.out.mono ?_); rintro e w2 ⟨rfl, hb2⟩; have HB3 := Lib.hid hb2; clear hb2)
              have HB4 := Lib.hid (show Below w1.heap.size w1 w2 from HBZ.out.trans (HB3.out.mono HBZ.out.size))
              have HW2 := Lib.hid (wkb_below HW1.out HB4.out)
              have HB5 := Lib.hid (show Below w0.heap.size w0 w2 from HBW.out.trans (HB4.out.mono HBW.out.size))
              have c3 := lies_cell HW2.out.box 3
              simp only [List.getElem?_toArray, List.getElem?_cons_zero, List.getElem?_cons_succ] at c3
              clear hc
              by_cases h1024 : s1.acts.length = 1024
              · have HF := Lib.hid h1024
                have e1 : (s1.acts.length : Int) = 1024 := by omega
                clear h1024
                go_wp2
                change bodyPost Tryz.prog Tryz.f20 (StrE w0 WB s) .ret _ _
                go_ret
                exact ⟨2, s1, rfl, HR1.out _ _ (.full HGr.out (g := e0.r) (gs := L0.map Ent.r) (by rw [HLr.out]; rfl) HSp.out HNO.out (by rw [← HV.out]; exact HMV.out) HF.out), ⟨_, _, _, _, _, _, HW2.out⟩, HP1.out, HB5.out⟩
              · have HF := Lib.hid h1024
                have hbg := HP1.out.big
                have e1 : ((s1.acts.length : Int) == 1024) = false := by simp; omega
                have KS := Lib.hid (HS.out w0 WB s1 v w2 HT.out HB5.out ⟨_, _, _, _, _, _, HW2.out⟩ HP1.out HAt.out (by omega))
                clear h1024 hbg
                go_wp2_with (go_at_call 36; (with_reducible refine KS.out.mono ?_); rintro e w3 ⟨rfl, hW3, hP3, hB3⟩; have HW3 := Lib.hid hW3; have HP3 := Lib.hid hP3; have HB6 := Lib.hid hB3; clear hW3 hP3 hB3)
                go_step3
                refine ⟨_, ?_, rfl, frS_mk _ rfl, splitP tmpN s1 v, rfl, HW3.out, HP3.out, HB6.out, fun e t h => HR1.out _ _ (.cut HGr.out (g := e0.r) (gs := L0.map Ent.r) (by rw [HLr.out]; rfl) HSp.out HNO.out (by rw [← HV.out]; exact HMV.out) HF.out (by rw [← HV.out]; exact h))⟩
                rw [wkp_cut, HK.out]
                have := HP1.out.big
                have := HF.out
                omega
          · obtain rfl : j = m := by omega
            have li : ¬ (j : Int) < (j : Int) := by omega
            go_wp2
            change bodyPost Tryz.prog Tryz.f20 (StrE w0 WB s) .ret _ _
            go_ret
            refine ⟨33, s1, rfl, HR1.out _ _ (.stuck HGr.out (g := e0.r) (gs := L0.map Ent.r) (by rw [HLr.out]; rfl) (fun x hx => HNO.out x (by rw [HMm.out, List.take_length]; exact hx))), ⟨_, _, _, _, _, _, wkb_below HW1.out HBZ.out⟩, HP1.out, HBW.out.trans (HBZ.out.mono HBW.out.size)⟩
  · intro hjump
    have HJ := Lib.hid hjump
    clear hjump
    go_upto_region 1 with (fail)
    iterate 8 (try go_step)
    refine wp_label ?_
    go_step
    go_step
    exact HJ.out _ 0 _ _ _ rfl ⟨rfl, frS_mk _ rfl, s, rfl, HM.out, HP.out, HB.out, fun _ _ h => h⟩
end Go.Proofs.YtpddamloajpiiaaGreatDoor
