/-
What is proved here: the law StockPlays's walk.
-/
import Derived.Test.YtlnmaejpchncoaaFin
set_option linter.unusedSimpArgs false
set_option linter.unusedVariables false
namespace Go.Proofs.Ytlnmaejpchncoaa
open Go.Stk Go.RowKit Go.Word
attribute [local go_sem] guard_eq guard_ne st_eql st_neq xor_yB
theorem setRow_alloc (w : World) (t : TypeId) (c cs : Array Value) : (w.alloc (.cells c t)).setRow w.heap.size cs = w.alloc (.cells cs t) := by
  unfold World.setRow World.alloc
  congr 1
  refine Array.ext_getElem? fun i => ?_
  simp only [Array.getElem?_modify, Array.getElem?_push]
  by_cases h : w.heap.size = i
  · subst h; simp
  · rw [if_neg h]
    by_cases h2 : i = w.heap.size
    · exact absurd h2.symm h
    · simp [h2]
/-- an equation that no walk looks into -/
def Eqn (a b : Nat) : Prop := a = b
theorem range3 {w : World} {b o : Nat} {x y z : Value} (h0 : w.cell? ⟨b, o, none⟩ = some x) (h1 : w.cell? ⟨b, o + 1, none⟩ = some y) (h2 : w.cell? ⟨b, o + 2, none⟩ = some z) : w.rangeAt b o [x, y, z] := fun j v hj => by
  match j, hj with
  | 0, hj => injection hj with hj; subst hj; exact h0
  | 1, hj => injection hj with hj; subst hj; exact h1
  | 2, hj => injection hj with hj; subst hj; exact h2
  | j + 3, hj => simp at hj
set_option maxRecDepth 100000 in
set_option maxHeartbeats 16000000 in
theorem plays_law (lim : Int) (A1 : Option Addr) (c1 : Nat) (os : List Opr) (w : World) (hos : OpsAt w A1 os) (h1 : os.length ≤ 140737488355328) (h2 : ∀ x ∈ os, x.data.length ≤ 140737488355328) :
    Calls Try.prog 3 #[.int .i64 lim, .slice A1 os.length c1] w fun e w' => e = .returned (.bool true) ∧ Below w.heap.size w w' := by
  have HO := Lib.hid hos
  have H2 := Lib.hid h2
  have MU := fun (W : World) (hb : Below w.heap.size w W) => Lib.hid (much_any A1 c1 os W (opsAt_below hos hb) h1 h2)
  obtain ⟨n, hn⟩ : ∃ n, n = os.length := ⟨_, rfl⟩
  have NN := Lib.hid hn
  rw [← hn] at MU h1 ⊢
  clear hos h2 hn
  go_enter Try.func3, Try.ntmps3
  go_upto_region 3 with (first
    | (go_at_call 8; (with_reducible refine (alive_any _).mono ?_); rintro e w1 ⟨rfl, hb⟩; have B1 := Lib.hid hb; have MU1 := MU w1 hb; clear hb)
    | (go_at_call 9; (with_reducible refine MU1.out.mono ?_); rintro e w2 ⟨⟨hv, rfl, hmm⟩, rfl⟩; have MM := Lib.hid hmm; clear hmm))
  clear MU MU1
  cases hv with
  | true =>
    go_wp2
    go_ret
    exact ⟨rfl, B1.out⟩
  | false =>
    have TL := Lib.hid (MM.out rfl)
    clear MM
    by_cases c2 : lim < 0
    · have NW := Lib.hid (new_no lim w1 (.inl c2))
      go_wp2_with (first
        | (go_at_call 10; (with_reducible refine NW.out.mono ?_); rintro e w3 ⟨rfl, rfl⟩)
        | (go_at_call 11; (with_reducible refine (num_any _ _).mono ?_); rintro e w1' ⟨rfl, rfl⟩))
      go_ret
      exact ⟨rfl, B1.out⟩
    by_cases c3 : 65536 < lim
    · have NW := Lib.hid (new_no lim w1 (.inr c3))
      go_wp2_with (first
        | (go_at_call 10; (with_reducible refine NW.out.mono ?_); rintro e w3 ⟨rfl, rfl⟩)
        | (go_at_call 11; (with_reducible refine (num_any _ _).mono ?_); rintro e w1' ⟨rfl, rfl⟩))
      go_ret
      exact ⟨rfl, B1.out⟩
    have NW := Lib.hid (new_any lim w1 (by omega) (by omega))
    go_upto_region 12 with (first
      | (go_at_call 10; (with_reducible refine NW.out.mono ?_); rintro e w2 ⟨rfl, hs, hb, hz⟩; have S2 := Lib.hid hs; have B2 := Lib.hid (B1.out.trans (hb.mono B1.out.size)); have P1 := Lib.hid B1.out.size; clear hs hb hz)
      | (go_at_call 11; (with_reducible refine (num_any _ _).mono ?_); rintro e w1' ⟨rfl, rfl⟩))
    generalize w1.heap.size = gs at *
    clear NW B1
    go_wp2
    go_loopw [9, 10, 11, 12, 13, 14, 15, 16, 17, 18, 19, 20, 21] (fun v9 v10 v11 _ _ _ _ _ _ _ _ _ _ wr => ∃ (i L N : Nat) (cs : List Bt) (A : Option Addr) (c : Nat) (xs : List Value) (P M : Nat → Prop) (vB vE vM : Value), i ≤ n ∧ v9 = .slice A L c ∧ v10 = .int .i64 (N : Int) ∧ Eqn L cs.length ∧ Eqn N cs.flatten.length ∧ v11 = .int .i64 (i : Int) ∧ Stk wr P gs lim cs vB vE vM ∧ Mine wr M (.slice A L c) cs xs ∧ (∀ x, P x → w.heap.size ≤ x ∧ x < wr.heap.size ∧ ¬ M x) ∧ (∀ x, M x → w.heap.size ≤ x ∧ x < wr.heap.size) ∧ L ≤ i ∧ N ≤ totO (os.take i) ∧ Below w.heap.size w wr) (fun _ _ v11 _ _ _ _ _ _ _ _ _ _ _ => n - (intOf v11).toNat)
    case atStart => exact ⟨0, 0, 0, [], none, 0, [], fun x => x = gs ∧ x < w2.heap.size, fun _ => False, _, _, _, Nat.zero_le _, rfl, rfl, rfl, rfl, rfl, stk_cut S2.out, mine_nil _ _, fun x hx => ⟨by have := P1.out; have := hx.1; omega, hx.2, fun h => h⟩, fun x hx => hx.elim, Nat.le_refl _, Nat.zero_le _, B2.out⟩
    case round =>
      obtain ⟨i, L, N, cs, A, c, xs, P, M, vB, vE, vM, hi, rfl, rfl, hLe, hNe, rfl, hS, hM, hp, hm, hcl, hcf, hb⟩ := hrel
      have LE := Lib.hid (show L = cs.length from hLe)
      have NE := Lib.hid (show N = cs.flatten.length from hNe)
      clear hLe hNe
      have HS := Lib.hid hS
      have HM := Lib.hid hM
      have HP := Lib.hid hp
      have HMM := Lib.hid hm
      have HCF := Lib.hid hcf
      have HB := Lib.hid hb
      clear hS hM hp hm hcf hb
      by_cases hlt : i < n
      · have li : (i : Int) < (n : Int) := by omega
        have lf : i < os.length := by have := NN.out; omega
        obtain ⟨b, o', DA, dc, eA, hbl, d1, d2, d3, hby⟩ := HO.out i lf
        subst eA
        have hx := H2.out os[i] (List.getElem_mem lf)
        have TS := Lib.hid (totO_snoc os i lf)
        have T70 := Lib.hid (show totO (os.take i) + (1 + os[i].data.length) ≤ 70000 by have := TS.out; have := totO_le os (i + 1); have := TL.out.1; omega)
        have LM := Lib.hid (range3 ((HB.out.cell (p := ⟨b, o' + i * 3, none⟩) hbl).trans d1) ((HB.out.cell (p := ⟨b, o' + i * 3 + 1, none⟩) hbl).trans d2) ((HB.out.cell (p := ⟨b, o' + i * 3 + 2, none⟩) hbl).trans d3))
        have HBY := Lib.hid hby
        generalize os[i] = q at *
        obtain ⟨kind, at_, x⟩ := q
        have LM : Hid (wr.rangeAt b (o' + i * 3) [.int .i64 kind, .int .i64 at_, .slice DA x.length dc]) := LM
        have HBY : Hid (BytesAt w DA x) := HBY
        have T70 : Hid (totO (os.take i) + (1 + x.length) ≤ 70000) := T70
        have TS : Hid (totO (os.take (i + 1)) = totO (os.take i) + (1 + x.length)) := TS
        have hx : x.length ≤ 140737488355328 := hx
        clear d1 d2 d3 hby
        have OUT : Hid (∀ Q : Nat → Prop, (∀ y, Q y → w.heap.size ≤ y) → 0 < x.length → ∀ a, DA = some a → ¬ Q a.block) := Lib.hid (fun Q hQ h0 a e hp => by
          obtain ⟨bb, oo, e2, hl2, _⟩ := HBY.out 0 h0
          rw [e] at e2
          injection e2 with e2
          subst e2
          have hl2 : bb < w.heap.size := hl2
          have := hQ bb hp
          omega)
        obtain ⟨xl, hxl⟩ : ∃ xl, xl = x.length := ⟨_, rfl⟩
        have XL := Lib.hid hxl
        rw [← hxl] at LM
        have LN := Lib.hid (lies_new wr 33 #[.int .i64 0, .int .i64 0, .slice none 0 0])
        have ES := Lib.hid (setRow_alloc wr 33 #[.int .i64 0, .int .i64 0, .slice none 0 0] #[.int .i64 kind, .int .i64 at_, .slice DA xl dc])
        clear hxl
        go_upto_region 15 with (fail)
        go_upto_region 16 with (first
          | (refine wpList_load_mid rfl 33 _ rfl b (o' + i * 3) rfl [.int .i64 kind, .int .i64 at_, .slice DA xl dc] _ LM.out Try.underlying33 rfl (by kernel_rfl) ?_)
          | (refine wpList_store_row rfl 33 _ _ rfl wr.heap.size #[.int .i64 kind, .int .i64 at_, .slice DA xl dc] rfl rfl 33 _ LN.out (by kernel_rfl) rfl (by simp [Value.oneCell']) ?_; rw [ES.out]))
        have LW := lies_new wr 33 #[.int .i64 kind, .int .i64 at_, .slice DA xl dc]
        have bW : Below wr.heap.size wr (wr.alloc (.cells #[.int .i64 kind, .int .i64 at_, .slice DA xl dc] 33)) := (Below.refl _ _).alloc (Nat.le_refl _) _
        have HS := Lib.hid (stk_below HS.out bW)
        have HM := Lib.hid (mine_below HM.out bW)
        have HB1 := Lib.hid (HB.out.trans (bW.mono HB.out.size))
        have OG := Lib.hid HB.out.size
        have HP := Lib.hid (show ∀ y, P y → w.heap.size ≤ y ∧ y < wr.heap.size ∧ ¬ M y from HP.out)
        have o0 := lies_cell LW 0
        have o1 := lies_cell LW 1
        have o2 := lies_cell LW 2
        simp only [List.getElem?_toArray, List.getElem?_cons_zero, List.getElem?_cons_succ] at o0 o1 o2
        have LW := Lib.hid LW
        clear LM LN ES HB bW
        generalize wr.alloc (.cells #[.int .i64 kind, .int .i64 at_, .slice DA xl dc] 33) = W at *
        generalize wr.heap.size = og at *
        go_upto_region 38 with (fail)
        generalize kind.tmod 3 = r at *
        have HP0 := Lib.hid (show ∀ y, P y → w.heap.size ≤ y ∧ y < W.heap.size ∧ ¬ M y from fun y hy => ⟨(HP.out y hy).1, Nat.lt_trans (HP.out y hy).2.1 (lies_lt LW.out), (HP.out y hy).2.2⟩)
        have HM0 := Lib.hid (show ∀ y, M y → w.heap.size ≤ y ∧ y < W.heap.size from fun y hy => ⟨(HMM.out y hy).1, Nat.lt_trans (HMM.out y hy).2 (lies_lt LW.out)⟩)
        have TS1 : Hid (totO (os.take i) ≤ totO (os.take (i + 1))) := Lib.hid (by rw [TS.out]; omega)
        have small : Hid (L ≤ 200 ∧ N ≤ 70000) := Lib.hid ⟨by have := TL.out.2; omega, by have := HCF.out; have := T70.out; omega⟩
        by_cases r1 : r = 1
        · have rb : (r == 1) = true := by simpa using r1
          clear r1
          by_cases hat : at_ < 0 ∨ (L : Int) ≤ at_
          · have GN := Lib.hid (get_no at_ W HS.out (by rw [← LE.out]; exact hat))
            by_cases ha0 : at_ < 0
            · clear hat
              go_upto_region 40 with (go_at_call 12; (with_reducible refine GN.out.mono ?_); rintro e w3 ⟨rfl, rfl⟩)
              go_wp2_with (go_at_call 11; (with_reducible refine (num_any _ _).mono ?_); rintro e w1' ⟨rfl, rfl⟩)
              go_roundw
              case rel => exact ⟨i + 1, L, N, cs, A, c, xs, P, M, vB, vE, vM, by omega, rfl, rfl, LE.out, NE.out, by go_num, HS.out, HM.out, HP0.out, HM0.out, by omega, Nat.le_trans HCF.out TS1.out, HB1.out⟩
              case measure => first | (simp [intOf]; done) | (simp [intOf]; omega)
            · have ha1 : (L : Int) ≤ at_ := by omega
              clear hat
              go_upto_region 40 with (go_at_call 12; (with_reducible refine GN.out.mono ?_); rintro e w3 ⟨rfl, rfl⟩)
              go_wp2_with (go_at_call 11; (with_reducible refine (num_any _ _).mono ?_); rintro e w1' ⟨rfl, rfl⟩)
              go_roundw
              case rel => exact ⟨i + 1, L, N, cs, A, c, xs, P, M, vB, vE, vM, by omega, rfl, rfl, LE.out, NE.out, by go_num, HS.out, HM.out, HP0.out, HM0.out, by omega, Nat.le_trans HCF.out TS1.out, HB1.out⟩
              case measure => first | (simp [intOf]; done) | (simp [intOf]; omega)
          · obtain ⟨j, rfl⟩ : ∃ j : Nat, at_ = j := ⟨at_.toNat, by omega⟩
            have ha0 : ¬ ((j : Int) < 0) := by omega
            have ha1 : ¬ ((L : Int) ≤ (j : Int)) := by omega
            have la : (j : Int) < (L : Int) := by omega
            have jf : j < cs.length := by have := LE.out; omega
            clear hat
            have GN := Lib.hid (get_any j W HS.out jf (by have := LE.out; have := small.out.1; omega) (by have := NE.out; have := small.out.2; omega))
            obtain ⟨b3, o3, EA, ec, eA, hbl3, k0, hby3⟩ := (mine_list HM.out).2 j jf
            subst eA
            have yb0 : cs[j].length ≤ 100000 := by have := flat_at cs j jf; have := NE.out; have := small.out.2; omega
            generalize hy : cs[j] = y at *
            clear hy
            go_upto_region 40 with (go_at_call 12; (with_reducible refine GN.out.mono ?_); rintro e w3 ⟨⟨v, rfl, ho⟩, hb3⟩; have OV := Lib.hid ho; have B3 := Lib.hid hb3; clear ho hb3)
            obtain ⟨Av, Cv, ev⟩ := own_slice OV.out
            subst ev
            have OB := own_bytes OV.out
            obtain ⟨yl, hyl⟩ : ∃ yl, yl = y.length := ⟨_, rfl⟩
            have YL := Lib.hid hyl
            have yb : yl ≤ 100000 := by omega
            clear yb0
            have QF : ∃ q, W.heap.size ≤ q ∧ (0 < yl → Av = some ⟨q, 0, none⟩ ∧ U8Row w3 q yl) := by
              by_cases h0 : 0 < y.length
              · obtain ⟨q, rfl⟩ := own_at OV.out h0
                exact ⟨q, (OV.out.lt q rfl).1, fun _ => ⟨rfl, hyl ▸ u8_of OV.out⟩⟩
              · exact ⟨W.heap.size, Nat.le_refl _, fun h => absurd h (by omega)⟩
            obtain ⟨q, hq1, hq2⟩ := QF
            have QL := Lib.hid hq1
            have QU := Lib.hid hq2
            have HBW := Lib.hid (HB1.out.trans (B3.out.mono HB1.out.size))
            have o1' := (B3.out.cell (p := ⟨og, 1, none⟩) (lies_lt LW.out)).trans o1
            have k0' := (B3.out.cell (p := ⟨b3, o3 + j, none⟩) hbl3).trans k0
            have cv1 := fun q' => run_text Av y Cv (w3.drewN q') OB.2.1
            have cv2 := fun q' => run_text EA y ec (w3.drewN q') (bytesAt_below hby3 (below_drewN B3.out q'))
            have se : other y y = false := decide_eq_false (by simp)
            have S3 := Lib.hid (stk_below HS.out B3.out)
            have M3 := Lib.hid (mine_below HM.out B3.out)
            rw [← hyl] at cv1 cv2 k0 k0'
            clear hyl hq1 hq2 OB GN hby3 o0 o1 o2 k0
            rw [← YL.out]
            go_upto_region 43 with (fail)
            go_quiet ((go_at_call 11; exact Calls.quiet_of_same ((num_any _ _).mono (fun e w' h => ⟨h.1, h.2.symm⟩))))
            have S4 : Hid (Stk (w3.drewN nq) P gs lim cs vB vE vM) := Lib.hid (stk_same S3.out (fun _ _ _ => rfl))
            have M4 : Hid (Mine (w3.drewN nq) M (.slice (some ⟨b3, o3, none⟩) L c) cs xs) := Lib.hid (mine_same M3.out (fun _ _ _ => rfl) (Nat.le_refl _))
            have B4 := Lib.hid (below_drewN HBW.out nq)
            have Z4 : Hid (W.heap.size ≤ (w3.drewN nq).heap.size) := Lib.hid B3.out.size
            have QU4 : Hid (0 < yl → Av = some ⟨q, 0, none⟩ ∧ U8Row (w3.drewN nq) q yl) := Lib.hid (fun h => ⟨(QU.out h).1, u8_same (QU.out h).2 rfl⟩)
            generalize w3.drewN nq = w4 at *
            clear cv1 cv2 o1' k0' OV QU S3 M3 HBW
            go_wp2
            go_loopw [15] (fun vk ws => ∃ k : Nat, k ≤ yl ∧ vk = .int .i64 (k : Int) ∧ (0 < yl → U8Row ws q yl) ∧ Keeps (fun z => z = q) w4 ws) (fun vk _ => yl - (intOf vk).toNat)
            case atStart => exact ⟨0, Nat.zero_le _, rfl, fun h => (QU4.out h).2, keeps_refl _ _⟩
            case round =>
              obtain ⟨k, hk, rfl, hu, hkp⟩ := hrel
              have HU := Lib.hid hu
              have HK := Lib.hid hkp
              clear hu hkp
              by_cases hkl : k < yl
              · have lk : (k : Int) < (yl : Int) := by omega
                obtain ⟨eq, _⟩ := QU4.out (by omega)
                subst eq
                obtain ⟨z, u1, u2⟩ := u8_cell (HU.out (by omega)) hkl
                have US := Lib.hid (u8_set (j := k) (HU.out (by omega)) (z ^^^ 255))
                have KS := Lib.hid (keeps_trans HK.out (keeps_set wr q k (yB (z ^^^ 255))) (sub_refl _ _))
                go_wp2_with (rw [store_yB]; go_simp)
                go_roundw
                case rel => exact ⟨k + 1, by omega, by go_num, fun _ => US.out, KS.out⟩
                case measure => first | (simp [intOf]; done) | (simp [intOf]; omega)
              · obtain rfl : k = yl := by omega
                have lk : ¬ ((k : Int) < (k : Int)) := by omega
                go_wp2
                go_roundw
                case rel => exact ⟨i + 1, L, N, cs, some ⟨b3, o3, none⟩, c, xs, P, M, vB, vE, vM, by omega, rfl, rfl, LE.out, NE.out, by go_num, stk_keeps S4.out HK.out (fun y hy hp => by have := (HP0.out y hy).2.1; have := QL.out; omega), mine_keeps M4.out HK.out (fun y hy hp => by have := (HM0.out y hy).2; have := QL.out; omega), fun y hy => ⟨(HP0.out y hy).1, Nat.lt_of_lt_of_le (HP0.out y hy).2.1 (Nat.le_trans Z4.out HK.out.size), (HP0.out y hy).2.2⟩, fun y hy => ⟨(HM0.out y hy).1, Nat.lt_of_lt_of_le (HM0.out y hy).2 (Nat.le_trans Z4.out HK.out.size)⟩, by omega, Nat.le_trans HCF.out TS1.out, keeps_up HK.out B4.out (fun y hy => by have := QL.out; have := HB1.out.size; omega)⟩
                case measure => first | (simp [intOf]; done) | (simp [intOf]; omega)
        · have rb : (r == 1) = false := by simpa using r1
          clear r1
          by_cases r2 : r = 2
          · have rb2 : (r == 2) = true := by simpa using r2
            clear r2
            have FD := fun q => find_q DA dc x (W.drewN q) (stk_same HS.out (fun _ _ _ => rfl)) (bytesAt_below HBY.out (below_drewN HB1.out q)) (by have := T70.out; omega)
            have ML := mine_list HM.out
            have RF := fun q => reffind_any A DA c dc cs x (W.drewN q) (listAt_below ML.2 (below_drewN (Below.refl _ _) q)) (bytesAt_below HBY.out (below_drewN HB1.out q)) (by have := small.out.1; have := LE.out; omega)
            rw [← XL.out] at FD RF
            rw [← LE.out] at RF
            have FQ := fun q => Lib.hid (FD q)
            have RQ := fun q => Lib.hid (RF q)
            clear FD RF ML
            generalize find cs x = z at *
            go_upto_region 50 with (fail)
            go_quiet ((first
              | (go_at_call 13; exact Calls.quiet_of (FQ _).out)
              | (go_at_call 14; exact Calls.quiet_of (RQ _).out)))
            clear FQ RQ
            have HS9 : Hid (Stk (W.drewN nq) P gs lim cs vB vE vM) := Lib.hid (stk_same HS.out (fun _ _ _ => rfl))
            have HM9 : Hid (Mine (W.drewN nq) M (.slice A L c) cs xs) := Lib.hid (mine_same HM.out (fun _ _ _ => rfl) (Nat.le_refl _))
            have HB9 := Lib.hid (below_drewN HB1.out nq)
            have HP9 : Hid (∀ y, P y → w.heap.size ≤ y ∧ y < (W.drewN nq).heap.size ∧ ¬ M y) := Lib.hid HP0.out
            have HM09 : Hid (∀ y, M y → w.heap.size ≤ y ∧ y < (W.drewN nq).heap.size) := Lib.hid HM0.out
            generalize W.drewN nq = w9 at *
            go_wp2
            go_roundw
            case rel => exact ⟨i + 1, L, N, cs, A, c, xs, P, M, vB, vE, vM, by omega, rfl, rfl, LE.out, NE.out, by go_num, HS9.out, HM9.out, HP9.out, HM09.out, by omega, Nat.le_trans HCF.out TS1.out, HB9.out⟩
            case measure => first | (simp [intOf]; done) | (simp [intOf]; omega)
          · have rb2 : (r == 2) = false := by simpa using r2
            clear r2
            obtain ⟨v1, W1, hr1, ho1, hg1⟩ := run_app_fresh W 31 DA dc x (bytesAt_below HBY.out HB1.out) (by have := T70.out; omega)
            obtain ⟨Ab, Cb, e1⟩ := own_slice ho1
            subst e1
            have OB := own_bytes ho1
            have BW1 := Lib.hid (grown_below hg1)
            have hog : og < W.heap.size := lies_lt LW.out
            have QF : ∃ q, og ≤ q ∧ q < W1.heap.size ∧ (0 < xl → Ab = some ⟨q, 0, none⟩ ∧ U8Row W1 q xl) := by
              by_cases h0 : 0 < x.length
              · obtain ⟨q, rfl⟩ := own_at ho1 h0
                have hq := ho1.lt q rfl
                exact ⟨q, by omega, hq.2, fun _ => ⟨rfl, XL.out ▸ u8_of ho1⟩⟩
              · exact ⟨og, Nat.le_refl _, Nat.lt_of_lt_of_le hog hg1.size, fun h => absurd h (by have := XL.out; omega)⟩
            obtain ⟨q, hq1, hq2, hq3⟩ := QF
            have QL := Lib.hid hq1
            have QR := Lib.hid hq2
            have QU := Lib.hid hq3
            have HS1 := stk_below HS.out BW1.out
            have AD0 := add_any Ab Cb x W1 HS1 OB.2.1 (fun h0 a e hp => by
              have h3 := (hq3 (by have := XL.out; omega)).1
              rw [e] at h3
              injection h3 with h3
              subst h3
              have h5 : q < og := (HP.out _ hp).2.1
              omega) hx (by have := LE.out; have := small.out.1; omega) (by have := NE.out; have := small.out.2; omega)
            obtain ⟨z1, z2, cs2, hadd⟩ : ∃ z1 z2 cs2, addA lim cs x = (z1, z2, cs2) := ⟨_, _, _, rfl⟩
            rw [hadd] at AD0
            have AD := Lib.hid AD0
            have HADD := Lib.hid hadd
            obtain ⟨z, hz⟩ : ∃ z, z = find cs x := ⟨_, rfl⟩
            have RF := fun (W' : World) (hb : Below w.heap.size w W') (hM : Mine W' M (.slice A L c) cs xs) => Lib.hid (reffind_any A DA c dc cs x W' (mine_list hM).2 (bytesAt_below HBY.out hb) (by have := LE.out; have := small.out.1; omega))
            rw [← hz] at RF
            have ZE := Lib.hid hz
            have HR1 := Lib.hid hr1
            have HB2 := Lib.hid (HB1.out.trans (BW1.out.mono HB1.out.size))
            have HM1 := Lib.hid (mine_below HM.out BW1.out)
            have LW1 := Lib.hid (lies_below LW.out BW1.out hog)
            have xb : xl ≤ 100000 := by have := XL.out; have := T70.out; omega
            rw [← XL.out] at HR1 AD RF
            rw [← LE.out] at RF
            clear hr1 ho1 hg1 OB hq1 hq2 hq3 HS1 AD0 hadd hz o0 o1
            go_upto_region 18 with (refine wpList_app_run rfl _ _ rfl rfl rfl HR1.out ?_)
            go_upto_region 19 with (go_at_call 15; (with_reducible refine AD.out.mono ?_); rintro e w3 ⟨P3, vB3, vE3, vM3, rfl, hs, hsub, hk⟩; have S3 := Lib.hid hs; have SU3 := Lib.hid hsub; have K3 := Lib.hid hk; clear hs hsub hk)
            have HB3 := Lib.hid (keeps_up K3.out HB2.out (fun y hy => (HP.out y hy).1))
            have HM3 := Lib.hid (mine_keeps HM1.out K3.out (fun y hm hp => (HP.out y hp).2.2 hm))
            have LW3 : Hid (Lies w3 og 33 #[.int .i64 kind, .int .i64 at_, .slice DA xl dc]) := Lib.hid ((K3.out.block og (lies_lt LW1.out) (fun hp => by have := (HP.out og hp).2.1; omega)).trans LW1.out)
            have o2 := lies_cell LW3.out 2
            simp only [List.getElem?_toArray, List.getElem?_cons_zero, List.getElem?_cons_succ] at o2
            have RF3 := RF w3 HB3.out HM3.out
            have SC3 := Lib.hid (stk_cut S3.out)
            have PQ : Hid (∀ y, P3 y ∧ y < w3.heap.size → w.heap.size ≤ y ∧ y < w3.heap.size ∧ y ≠ q ∧ ¬ M y) := Lib.hid (fun y hy => by
              have q1 := QL.out
              have q2 := QR.out
              have g1 := HB2.out.size
              rcases SU3.out y hy.1 with h | h
              · have h5 := HP.out y h
                exact ⟨h5.1, hy.2, by omega, h5.2.2⟩
              · refine ⟨by omega, hy.2, by omega, fun hm => ?_⟩
                have h6 := (HMM.out y hm).2
                omega)
            have MQ : Hid (∀ y, M y → w.heap.size ≤ y ∧ y < w3.heap.size ∧ y ≠ q) := Lib.hid (fun y hy => by
              have h6 := HMM.out y hy
              have := QL.out
              have := lies_lt LW3.out
              exact ⟨h6.1, by omega, by omega⟩)
            have QU3 : Hid (0 < xl → Ab = some ⟨q, 0, none⟩ ∧ U8Row w3 q xl) := Lib.hid (fun h => ⟨(QU.out h).1, u8_same (QU.out h).2 (K3.out.block q QR.out (fun hp => by have := (HP.out q hp).2.1; have := QL.out; omega))⟩)
            have QR3 : Hid (q < w3.heap.size ∧ w.heap.size ≤ q) := Lib.hid ⟨Nat.lt_of_lt_of_le QR.out K3.out.size, by have := QL.out; have := OG.out; omega⟩
            clear AD HR1 HM1 LW1 S3 SU3 K3 HB2 QU RF QR
            go_upto_region 21 with (go_at_call 14; (with_reducible refine RF3.out.mono ?_); rintro e w4' ⟨rfl, m, rfl⟩)
            have S4 : Hid (Stk (w3.drewN m) (fun i => P3 i ∧ i < w3.heap.size) gs lim cs2 vB3 vE3 vM3) := Lib.hid (stk_same SC3.out (fun _ _ _ => rfl))
            have M4 : Hid (Mine (w3.drewN m) M (.slice A L c) cs xs) := Lib.hid (mine_same HM3.out (fun _ _ _ => rfl) (Nat.le_refl _))
            have B4 := Lib.hid (below_drewN HB3.out m)
            have QU4 : Hid (0 < xl → Ab = some ⟨q, 0, none⟩ ∧ U8Row (w3.drewN m) q xl) := Lib.hid (fun h => ⟨(QU3.out h).1, u8_same (QU3.out h).2 rfl⟩)
            have Z4 : Hid ((w3.drewN m).heap.size = w3.heap.size) := Lib.hid rfl
            have o4 : (w3.drewN m).cell? ⟨og, 2, none⟩ = some (.slice DA xl dc) := o2
            clear SC3 HM3 HB3 QU3 RF3 o2
            generalize w3.drewN m = w4 at *
            by_cases h8 : 8192 < xl
            · have hadd := HADD.out
              rw [addA_long lim cs x (by have := XL.out; omega)] at hadd
              obtain ⟨rfl, rfl, rfl⟩ : z1 = 0 ∧ z2 = 2 ∧ cs2 = cs := by
                injection hadd with h9 h10
                injection h10 with h10 h11
                exact ⟨h9.symm, h10.symm, h11.symm⟩
              have l8 : (8192 : Int) < (xl : Int) := by omega
              clear hadd HADD
              go_upto_region 34 with (go_at_call 11; (with_reducible refine (num_any _ _).mono ?_); rintro e w1' ⟨rfl, rfl⟩)
              go_wp2
              go_loopw [21] (fun vk ws => ∃ k : Nat, k ≤ xl ∧ vk = .int .i64 (k : Int) ∧ (0 < xl → U8Row ws q xl) ∧ Keeps (fun z => z = q) w4 ws) (fun vk _ => xl - (intOf vk).toNat)
              case atStart => exact ⟨0, Nat.zero_le _, rfl, fun h => (QU4.out h).2, keeps_refl _ _⟩
              case round =>
                obtain ⟨k, hk, rfl, hu, hkp⟩ := hrel
                have HU := Lib.hid hu
                have HK := Lib.hid hkp
                clear hu hkp
                by_cases hkl : k < xl
                · have lk : (k : Int) < (xl : Int) := by omega
                  obtain ⟨eq, _⟩ := QU4.out (by omega)
                  subst eq
                  obtain ⟨z, u1, u2⟩ := u8_cell (HU.out (by omega)) hkl
                  have US := Lib.hid (u8_set (j := k) (HU.out (by omega)) (z ^^^ 255))
                  have KS := Lib.hid (keeps_trans HK.out (keeps_set wr q k (yB (z ^^^ 255))) (sub_refl _ _))
                  go_wp2_with (rw [store_yB]; go_simp)
                  go_roundw
                  case rel => exact ⟨k + 1, by omega, by go_num, fun _ => US.out, KS.out⟩
                  case measure => first | (simp [intOf]; done) | (simp [intOf]; omega)
                · obtain rfl : k = xl := by omega
                  have lk : ¬ ((k : Int) < (k : Int)) := by omega
                  go_wp2
                  go_roundw
                  case rel => exact ⟨i + 1, L, N, cs2, A, c, xs, (fun y => P3 y ∧ y < w3.heap.size), M, vB3, vE3, vM3, by omega, rfl, rfl, LE.out, NE.out, by go_num, stk_keeps S4.out HK.out (fun y hy hp => (PQ.out y hy).2.2.1 hp), mine_keeps M4.out HK.out (fun y hy hp => (MQ.out y hy).2.2 hp), fun y hy => ⟨(PQ.out y hy).1, Nat.lt_of_lt_of_le (PQ.out y hy).2.1 (Nat.le_trans (Nat.le_of_eq Z4.out.symm) HK.out.size), (PQ.out y hy).2.2.2⟩, fun y hy => ⟨(MQ.out y hy).1, Nat.lt_of_lt_of_le (MQ.out y hy).2.1 (Nat.le_trans (Nat.le_of_eq Z4.out.symm) HK.out.size)⟩, by omega, Nat.le_trans HCF.out TS1.out, keeps_up HK.out B4.out (fun y hy => by have := QR3.out.2; have hy : y = q := hy; omega)⟩
                  case measure => first | (simp [intOf]; done) | (simp [intOf]; omega)
            · have l8 : ¬ ((8192 : Int) < (xl : Int)) := by omega
              by_cases hin : x ∈ cs
              · have hadd := HADD.out
                have e9 : addA lim cs x = (((cs.idxOf x : Nat) : Int), 0, cs) := by unfold addA; rw [if_neg (by have := XL.out; omega), if_pos hin]
                rw [e9] at hadd
                obtain ⟨k0, hk0⟩ : ∃ k0, k0 = cs.idxOf x := ⟨_, rfl⟩
                obtain ⟨rfl, rfl, rfl⟩ : z1 = (k0 : Int) ∧ z2 = 0 ∧ cs2 = cs := by
                  injection hadd with h9 h10
                  injection h10 with h10 h11
                  exact ⟨by rw [hk0]; exact h9.symm, h10.symm, h11.symm⟩
                obtain rfl : z = (k0 : Int) := by rw [ZE.out, find_yes hin, hk0]
                have k1 : ¬ ((k0 : Int) < 0) := by omega
                clear hadd HADD e9 hk0 ZE
                go_upto_region 34 with (go_at_call 11; (with_reducible refine (num_any _ _).mono ?_); rintro e w1' ⟨rfl, rfl⟩)
                go_wp2
                go_loopw [21] (fun vk ws => ∃ k : Nat, k ≤ xl ∧ vk = .int .i64 (k : Int) ∧ (0 < xl → U8Row ws q xl) ∧ Keeps (fun z => z = q) w4 ws) (fun vk _ => xl - (intOf vk).toNat)
                case atStart => exact ⟨0, Nat.zero_le _, rfl, fun h => (QU4.out h).2, keeps_refl _ _⟩
                case round =>
                  obtain ⟨k, hk, rfl, hu, hkp⟩ := hrel
                  have HU := Lib.hid hu
                  have HK := Lib.hid hkp
                  clear hu hkp
                  by_cases hkl : k < xl
                  · have lk : (k : Int) < (xl : Int) := by omega
                    obtain ⟨eq, _⟩ := QU4.out (by omega)
                    subst eq
                    obtain ⟨z, u1, u2⟩ := u8_cell (HU.out (by omega)) hkl
                    have US := Lib.hid (u8_set (j := k) (HU.out (by omega)) (z ^^^ 255))
                    have KS := Lib.hid (keeps_trans HK.out (keeps_set wr q k (yB (z ^^^ 255))) (sub_refl _ _))
                    go_wp2_with (rw [store_yB]; go_simp)
                    go_roundw
                    case rel => exact ⟨k + 1, by omega, by go_num, fun _ => US.out, KS.out⟩
                    case measure => first | (simp [intOf]; done) | (simp [intOf]; omega)
                  · obtain rfl : k = xl := by omega
                    have lk : ¬ ((k : Int) < (k : Int)) := by omega
                    go_wp2
                    go_roundw
                    case rel => exact ⟨i + 1, L, N, cs2, A, c, xs, (fun y => P3 y ∧ y < w3.heap.size), M, vB3, vE3, vM3, by omega, rfl, rfl, LE.out, NE.out, by go_num, stk_keeps S4.out HK.out (fun y hy hp => (PQ.out y hy).2.2.1 hp), mine_keeps M4.out HK.out (fun y hy hp => (MQ.out y hy).2.2 hp), fun y hy => ⟨(PQ.out y hy).1, Nat.lt_of_lt_of_le (PQ.out y hy).2.1 (Nat.le_trans (Nat.le_of_eq Z4.out.symm) HK.out.size), (PQ.out y hy).2.2.2⟩, fun y hy => ⟨(MQ.out y hy).1, Nat.lt_of_lt_of_le (MQ.out y hy).2.1 (Nat.le_trans (Nat.le_of_eq Z4.out.symm) HK.out.size)⟩, by omega, Nat.le_trans HCF.out TS1.out, keeps_up HK.out B4.out (fun y hy => by have := QR3.out.2; have hy : y = q := hy; omega)⟩
                    case measure => first | (simp [intOf]; done) | (simp [intOf]; omega)
              · obtain rfl : z = -1 := by rw [ZE.out, find_no hin]
                by_cases hsp : lim < (N : Int) + (xl : Int)
                · have hadd := HADD.out
                  have e9 : addA lim cs x = (0, 27, cs) := by unfold addA; rw [if_neg (by have := XL.out; omega), if_neg hin, if_pos (by have := XL.out; have := NE.out; omega)]
                  rw [e9] at hadd
                  obtain ⟨rfl, rfl, rfl⟩ : z1 = 0 ∧ z2 = 27 ∧ cs2 = cs := by
                    injection hadd with h9 h10
                    injection h10 with h10 h11
                    exact ⟨h9.symm, h10.symm, h11.symm⟩
                  have nb : N ≤ 70000 := small.out.2
                  clear hadd HADD e9 ZE hin
                  go_upto_region 34 with (go_at_call 11; (with_reducible refine (num_any _ _).mono ?_); rintro e w1' ⟨rfl, rfl⟩)
                  go_wp2
                  go_loopw [21] (fun vk ws => ∃ k : Nat, k ≤ xl ∧ vk = .int .i64 (k : Int) ∧ (0 < xl → U8Row ws q xl) ∧ Keeps (fun z => z = q) w4 ws) (fun vk _ => xl - (intOf vk).toNat)
                  case atStart => exact ⟨0, Nat.zero_le _, rfl, fun h => (QU4.out h).2, keeps_refl _ _⟩
                  case round =>
                    obtain ⟨k, hk, rfl, hu, hkp⟩ := hrel
                    have HU := Lib.hid hu
                    have HK := Lib.hid hkp
                    clear hu hkp
                    by_cases hkl : k < xl
                    · have lk : (k : Int) < (xl : Int) := by omega
                      obtain ⟨eq, _⟩ := QU4.out (by omega)
                      subst eq
                      obtain ⟨z, u1, u2⟩ := u8_cell (HU.out (by omega)) hkl
                      have US := Lib.hid (u8_set (j := k) (HU.out (by omega)) (z ^^^ 255))
                      have KS := Lib.hid (keeps_trans HK.out (keeps_set wr q k (yB (z ^^^ 255))) (sub_refl _ _))
                      go_wp2_with (rw [store_yB]; go_simp)
                      go_roundw
                      case rel => exact ⟨k + 1, by omega, by go_num, fun _ => US.out, KS.out⟩
                      case measure => first | (simp [intOf]; done) | (simp [intOf]; omega)
                    · obtain rfl : k = xl := by omega
                      have lk : ¬ ((k : Int) < (k : Int)) := by omega
                      go_wp2
                      go_roundw
                      case rel => exact ⟨i + 1, L, N, cs2, A, c, xs, (fun y => P3 y ∧ y < w3.heap.size), M, vB3, vE3, vM3, by omega, rfl, rfl, LE.out, NE.out, by go_num, stk_keeps S4.out HK.out (fun y hy hp => (PQ.out y hy).2.2.1 hp), mine_keeps M4.out HK.out (fun y hy hp => (MQ.out y hy).2.2 hp), fun y hy => ⟨(PQ.out y hy).1, Nat.lt_of_lt_of_le (PQ.out y hy).2.1 (Nat.le_trans (Nat.le_of_eq Z4.out.symm) HK.out.size), (PQ.out y hy).2.2.2⟩, fun y hy => ⟨(MQ.out y hy).1, Nat.lt_of_lt_of_le (MQ.out y hy).2.1 (Nat.le_trans (Nat.le_of_eq Z4.out.symm) HK.out.size)⟩, by omega, Nat.le_trans HCF.out TS1.out, keeps_up HK.out B4.out (fun y hy => by have := QR3.out.2; have hy : y = q := hy; omega)⟩
                      case measure => first | (simp [intOf]; done) | (simp [intOf]; omega)
                · have hadd := HADD.out
                  have e9 : addA lim cs x = (((cs.length : Nat) : Int), 0, cs ++ [x]) := by unfold addA; rw [if_neg (by have := XL.out; omega), if_neg hin, if_neg (by have := XL.out; have := NE.out; omega)]
                  rw [e9] at hadd
                  obtain ⟨rfl, rfl, rfl⟩ : z1 = (L : Int) ∧ z2 = 0 ∧ cs2 = cs ++ [x] := by
                    injection hadd with h9 h10
                    injection h10 with h10 h11
                    exact ⟨by rw [LE.out]; exact h9.symm, h10.symm, h11.symm⟩
                  have nb : N ≤ 70000 := small.out.2
                  have lb : L ≤ 200 := small.out.1
                  obtain ⟨v5, W5, hr5, ho5, hg5⟩ := run_app_fresh w4 31 DA dc x (bytesAt_below HBY.out B4.out) (by have := T70.out; omega)
                  obtain ⟨Ac, Cc, e5⟩ := own_slice ho5
                  subst e5
                  have b5 := grown_below hg5
                  have b6 : Below W5.heap.size W5 (W5.alloc (.cells #[.slice Ac x.length Cc] 31)) := (Below.refl _ _).alloc (Nat.le_refl _) _
                  have AB : ∀ a, Ac = some a → 0 < x.length → w4.heap.size ≤ a.block := fun a ea h0 => by
                    obtain ⟨g5, h5⟩ := own_at ho5 h0
                    rw [ea] at h5
                    injection h5 with h5
                    subst h5
                    subst ea
                    exact (ho5.lt g5 rfl).1
                  have m5 := mine_below (mine_below M4.out b5) b6
                  obtain ⟨v6, W6, hr6, hm6, hk6⟩ := mine_app m5 30 W5.heap.size Ac Cc x (lies_cell (lies_new W5 31 #[.slice Ac x.length Cc]) 0) (bytesAt_below (own_bytes ho5).2.1 b6) (by have := LE.out; omega) (fun a ea h0 e => by
                    have h7 := AB a ea h0
                    have h8 := (MQ.out _ (M4.out.own _ e)).2.1
                    have h9 := Z4.out
                    omega)
                  obtain ⟨A6, c6, e6⟩ := own_slice hm6.row
                  subst e6
                  have e7 : (cs ++ [x]).length = L + 1 := by rw [List.length_append, LE.out]; rfl
                  have bk : Below w4.heap.size w4 (W5.alloc (.cells #[.slice Ac x.length Cc] 31)) := b5.trans (b6.mono b5.size)
                  have z5 : w4.heap.size ≤ (W5.alloc (.cells #[.slice Ac x.length Cc] 31)).heap.size := bk.size
                  have same6 : ∀ y, y < w4.heap.size → ¬ M y → W6.heap[y]? = w4.heap[y]? := fun y hy hm => (hk6.block y (Nat.lt_of_lt_of_le hy z5) hm).trans (bk.block y hy)
                  have S6 : Hid (Stk W6 (fun i => P3 i ∧ i < w3.heap.size) gs lim (cs ++ [x]) vB3 vE3 vM3) := Lib.hid (stk_same S4.out (fun y hy hl => same6 y hl (PQ.out y hy).2.2.2))
                  have hqn : ¬ M q := fun hm => (MQ.out q hm).2.2 rfl
                  have QU6 : Hid (0 < xl → Ab = some ⟨q, 0, none⟩ ∧ U8Row W6 q xl) := Lib.hid (fun h => ⟨(QU4.out h).1, u8_same (QU4.out h).2 (same6 q (by have := QR3.out.1; have := Z4.out; omega) hqn)⟩)
                  have o6 : W6.cell? ⟨og, 2, none⟩ = some (.slice DA xl dc) := (World.cell?_of_block (a := ⟨og, 2, none⟩) (same6 og (by have := lies_lt LW3.out; have := Z4.out; omega) (fun hm => by have := (HMM.out og hm).2; omega))).trans o4
                  have MC := Lib.hid (mine_cut hm6)
                  have B6 := Lib.hid (B4.out.trans ((bk.mono B4.out.size).trans (below_keeps hk6 (Nat.le_trans B4.out.size z5) (fun y hy => (MQ.out y hy).1))))
                  have MQ6 : Hid (∀ y, ((M y ∨ y = (W5.alloc (.cells #[.slice Ac x.length Cc] 31)).heap.size ∨ (0 < x.length ∧ ∃ a, Ac = some a ∧ y = a.block)) ∧ y < W6.heap.size) → w.heap.size ≤ y ∧ y < W6.heap.size ∧ y ≠ q ∧ ¬ (P3 y ∧ y < w3.heap.size)) := Lib.hid (fun y hy => by
                    have h9 := Z4.out
                    have h10 := QR3.out
                    have h11 := B4.out.size
                    rcases hy.1 with h | h | ⟨h0, a, ea, h⟩
                    · exact ⟨(MQ.out y h).1, hy.2, (MQ.out y h).2.2, fun hp => (PQ.out y hp).2.2.2 h⟩
                    · exact ⟨by omega, hy.2, by omega, fun hp => by have := hp.2; omega⟩
                    · have h12 := AB a ea h0
                      exact ⟨by omega, hy.2, by omega, fun hp => by have := hp.2; omega⟩)
                  have Z6 : Hid (w4.heap.size ≤ W6.heap.size) := Lib.hid (Nat.le_trans z5 hk6.size)
                  have HR5 := Lib.hid hr5
                  have HR6 := Lib.hid hr6
                  rw [e7] at HR6 MC
                  rw [← XL.out] at HR5 HR6
                  have E8 : Hid (N + xl = (cs ++ [x]).flatten.length) := Lib.hid (by rw [List.flatten_append, List.length_append, NE.out, XL.out]; simp)
                  have E7 := Lib.hid e7
                  clear hadd HADD e9 ZE hin hr5 ho5 hg5 b5 b6 AB m5 hr6 hm6 hk6 e7 bk z5 same6 hqn QU4 M4 S4
                  generalize x.length = xll at *
                  go_upto_region 30 with (go_at_call 11; (with_reducible refine (num_any _ _).mono ?_); rintro e w1' ⟨rfl, rfl⟩)
                  go_upto_region 31 with (first
                    | (refine wpList_app_run (t1 := 31) (t2 := 31) rfl _ _ rfl rfl rfl HR5.out ?_)
                    | (refine wpList_app_run (t1 := 30) (t2 := 30) rfl _ _ rfl rfl rfl HR6.out ?_))
                  go_upto_region 34 with (fail)
                  go_wp2
                  go_loopw [21] (fun vk ws => ∃ k : Nat, k ≤ xl ∧ vk = .int .i64 (k : Int) ∧ (0 < xl → U8Row ws q xl) ∧ Keeps (fun z => z = q) W6 ws) (fun vk _ => xl - (intOf vk).toNat)
                  case atStart => exact ⟨0, Nat.zero_le _, rfl, fun h => (QU6.out h).2, keeps_refl _ _⟩
                  case round =>
                    obtain ⟨k, hk, rfl, hu, hkp⟩ := hrel
                    have HU := Lib.hid hu
                    have HK := Lib.hid hkp
                    clear hu hkp
                    by_cases hkl : k < xl
                    · have lk : (k : Int) < (xl : Int) := by omega
                      obtain ⟨eq, _⟩ := QU6.out (by omega)
                      subst eq
                      obtain ⟨z, u1, u2⟩ := u8_cell (HU.out (by omega)) hkl
                      have US := Lib.hid (u8_set (j := k) (HU.out (by omega)) (z ^^^ 255))
                      have KS := Lib.hid (keeps_trans HK.out (keeps_set wr q k (yB (z ^^^ 255))) (sub_refl _ _))
                      go_wp2_with (rw [store_yB]; go_simp)
                      go_roundw
                      case rel => exact ⟨k + 1, by omega, by go_num, fun _ => US.out, KS.out⟩
                      case measure => first | (simp [intOf]; done) | (simp [intOf]; omega)
                    · obtain rfl : k = xl := by omega
                      have lk : ¬ ((k : Int) < (k : Int)) := by omega
                      go_wp2
                      go_roundw
                      case rel => exact ⟨i + 1, L + 1, N + k, cs ++ [x], A6, c6, _, (fun y => P3 y ∧ y < w3.heap.size), _, vB3, vE3, vM3, by omega, rfl, by go_num, E7.out.symm, E8.out, by go_num, stk_keeps S6.out HK.out (fun y hy hp => (PQ.out y hy).2.2.1 hp), mine_keeps MC.out HK.out (fun y hy hp => (MQ6.out y hy).2.2.1 hp), fun y hy => ⟨(PQ.out y hy).1, Nat.lt_of_lt_of_le (PQ.out y hy).2.1 (Nat.le_trans (Nat.le_of_eq Z4.out.symm) (Nat.le_trans Z6.out HK.out.size)), fun hm => (MQ6.out y hm).2.2.2 hy⟩, fun y hy => ⟨(MQ6.out y hy).1, Nat.lt_of_lt_of_le (MQ6.out y hy).2.1 HK.out.size⟩, by omega, by have := HCF.out; have := TS.out; have := XL.out; omega, keeps_up HK.out B6.out (fun y hy => by have := QR3.out.2; have hy : y = q := hy; omega)⟩
                      case measure => first | (simp [intOf]; done) | (simp [intOf]; omega)
      · obtain rfl : i = n := by omega
        have li : ¬ ((i : Int) < (i : Int)) := by omega
        have nb : N ≤ 70000 := by
          have h9 := HCF.out
          rw [List.take_of_length_le (by have := NN.out; omega)] at h9
          have := TL.out.1
          omega
        have lb : L ≤ 200 := by have := TL.out.2; have := NN.out; omega
        have ALL := fun (W : World) (P' : Nat → Prop) (h : Stk W P' gs lim cs vB vE vM) => all_any W h (by have := LE.out; omega) (by have := NE.out; omega)
        have AL0 := ALL wr _ HS.out
        rw [← LE.out, ← NE.out] at AL0
        have AL := Lib.hid AL0
        have ALX := Lib.hid ALL
        clear AL0 ALL HCF TL
        go_upto_region 53 with (go_at_call 16; (with_reducible refine AL.out.mono ?_); rintro e w6 ⟨⟨GA, A2, rfl, hrow, C2, hown⟩, hb6⟩; have ROW := Lib.hid hrow; have OWN := Lib.hid hown; have B6 := Lib.hid hb6; clear hrow hown hb6)
        have rowL := ROW.out
        rw [LE.out] at rowL
        have ownN := OWN.out
        rw [NE.out] at ownN
        have obN := own_bytes ownN
        have S6 := Lib.hid (stk_below HS.out B6.out)
        have M6 := Lib.hid (mine_below HM.out B6.out)
        have SA0 := sameall_any (some ⟨GA, 0, none⟩) A cs.length c cs w6 (cut_list rowL obN.2.1) (mine_list M6.out).2 (by have := LE.out; omega)
        have LN0 := len_any w6 S6.out
        have SZ0 := size_any w6 S6.out
        rw [← LE.out] at SA0 LN0
        rw [← NE.out] at SZ0
        have SA := Lib.hid SA0
        have LN := Lib.hid LN0
        have SZ := Lib.hid SZ0
        have CEL := Lib.hid (show ∀ p (h : p < cs.length), w6.cell? ⟨GA, p, none⟩ = some (.slice (cutA A2 cs p) cs[p].length cs[p].length) from fun p h => cut_cell rowL p h)
        have QF : ∃ q, 0 < N → A2 = some ⟨q, 0, none⟩ ∧ U8Row w6 q N ∧ GA ≠ q ∧ wr.heap.size ≤ q := by
          by_cases h0 : 0 < N
          · obtain ⟨q, e⟩ := own_at (show w6.ownsRow wr.heap.size 5 1 (.slice A2 cs.flatten.length C2) cs.flatten.length (cs.flatten.map yB) from ownN) (by have := NE.out; omega)
            subst e
            refine ⟨q, fun _ => ⟨rfl, by rw [NE.out]; exact u8_of ownN, ?_, (ownN.lt q rfl).1⟩⟩
            obtain ⟨_, c1, h1⟩ := own_heap rowL GA rfl
            obtain ⟨_, c2, h2⟩ := own_heap ownN q rfl
            exact lies_eq h1 h2 (by decide)
          · exact ⟨0, fun h => absurd h h0⟩
        obtain ⟨q, hq⟩ := QF
        have QQ := Lib.hid hq
        have GL := Lib.hid (show GA < w6.heap.size from (rowL.lt GA rfl).2)
        have HB6 := Lib.hid (HB.out.trans (B6.out.mono HB.out.size))
        clear rowL ownN obN SA0 LN0 SZ0 hq ROW OWN
        go_upto_region 54 with (first
          | (go_at_call 17; (with_reducible refine LN.out.mono ?_); rintro e w7 ⟨rfl, rfl⟩)
          | (go_at_call 18; (with_reducible refine SZ.out.mono ?_); rintro e w7 ⟨rfl, rfl⟩)
          | (go_at_call 19; (with_reducible refine SA.out.mono ?_); rintro e w7 ⟨rfl, mm, rfl⟩))
        have S7 : Hid (Stk (w6.drewN mm) P gs lim cs vB vE vM) := Lib.hid (stk_same S6.out (fun _ _ _ => rfl))
        have M7 : Hid (Mine (w6.drewN mm) M (.slice A L c) cs xs) := Lib.hid (mine_same M6.out (fun _ _ _ => rfl) (Nat.le_refl _))
        have B7 := Lib.hid (below_drewN HB6.out mm)
        have Z7 : Hid (wr.heap.size ≤ (w6.drewN mm).heap.size ∧ GA < (w6.drewN mm).heap.size) := Lib.hid ⟨B6.out.size, GL.out⟩
        have CEL7 : Hid (∀ p (h : p < cs.length), (w6.drewN mm).cell? ⟨GA, p, none⟩ = some (.slice (cutA A2 cs p) cs[p].length cs[p].length)) := Lib.hid CEL.out
        have QQ7 : Hid (0 < N → A2 = some ⟨q, 0, none⟩ ∧ U8Row (w6.drewN mm) q N ∧ GA ≠ q ∧ wr.heap.size ≤ q) := Lib.hid (fun h => ⟨(QQ.out h).1, u8_same (QQ.out h).2.1 rfl, (QQ.out h).2.2⟩)
        generalize w6.drewN mm = w7 at *
        have HP7 := Lib.hid (show ∀ y, P y → w.heap.size ≤ y ∧ y < wr.heap.size from fun y hy => ⟨(HP.out y hy).1, (HP.out y hy).2.1⟩)
        have HM7 := Lib.hid (show ∀ y, M y → w.heap.size ≤ y ∧ y < wr.heap.size from HMM.out)
        have WZ := Lib.hid HB.out.size
        generalize wr.heap.size = zr at *
        clear SA LN SZ CEL QQ GL HB6 S6 M6 B6 AL HS HM HB HP HMM
        generalize wr = wold at *
        go_wp2
        go_loopw [24, 25] (fun v24 _ wr => ∃ p : Nat, p ≤ L ∧ v24 = .int .i64 (p : Int) ∧ (0 < N → U8Row wr q N) ∧ Keeps (fun z => 0 < N ∧ z = q) w7 wr) (fun v24 _ _ => L - (intOf v24).toNat)
        case atStart => exact ⟨0, Nat.zero_le _, rfl, fun h => (QQ7.out h).2.1, keeps_refl _ _⟩
        case round =>
          obtain ⟨p, hp, rfl, hu, hk⟩ := hrel
          have HU := Lib.hid hu
          have HK := Lib.hid hk
          clear hu hk
          by_cases hlt : p < L
          · have lp : (p : Int) < (L : Int) := by omega
            have pf : p < cs.length := by have := LE.out; omega
            have CC := CEL7.out p pf
            have BD := Lib.hid (show ∀ k, k < cs[p].length → (cs.take p).flatten.length + k < N from fun k hk => by rw [NE.out]; exact cut_bound pf hk)
            have CP := Lib.hid (show 0 < cs[p].length → A2 = some ⟨q, 0, none⟩ → cutA A2 cs p = some ⟨q, (cs.take p).flatten.length, none⟩ from fun h0 e => by rw [e]; exact cutA_pos pf h0)
            have yb : cs[p].length ≤ 100000 := by have := flat_at cs p pf; have := NE.out; omega
            obtain ⟨yl, hyl⟩ : ∃ yl, yl = cs[p].length := ⟨_, rfl⟩
            rw [← hyl] at CC BD CP yb
            obtain ⟨st, hst⟩ : ∃ st, st = (cs.take p).flatten.length := ⟨_, rfl⟩
            rw [← hst] at BD CP
            generalize cutA A2 cs p = CA at *
            clear hyl hst
            have CCW := Lib.hid (show ∀ W, Keeps (fun z => 0 < N ∧ z = q) w7 W → W.cell? ⟨GA, p, none⟩ = some (.slice CA yl yl) from fun W hk => (World.cell?_of_block (a := ⟨GA, p, none⟩) (hk.block GA Z7.out.2 (fun h => (QQ7.out h.1).2.2.1 h.2))).trans CC)
            clear CC
            go_wp2
            go_loopw [25] (fun v25 ws => ∃ k : Nat, k ≤ yl ∧ v25 = .int .i64 (k : Int) ∧ (0 < N → U8Row ws q N) ∧ Keeps (fun z => 0 < N ∧ z = q) w7 ws) (fun v25 _ => yl - (intOf v25).toNat)
            case atStart => exact ⟨0, Nat.zero_le _, rfl, HU.out, HK.out⟩
            case round =>
              clear HU HK
              obtain ⟨k, hk, rfl, hu, hkp⟩ := hrel
              have HU := Lib.hid hu
              have HK := Lib.hid hkp
              clear hu hkp
              have cw := CCW.out wr HK.out
              by_cases hkl : k < yl
              · have lk : (k : Int) < (yl : Int) := by omega
                have nk := BD.out k hkl
                have n0 : 0 < N := by omega
                have ca := CP.out (by omega) (QQ7.out n0).1
                subst ca
                obtain ⟨z, u1, u2⟩ := u8_cell (HU.out n0) nk
                have HKd : Keeps (fun z => 0 < N ∧ z = q) w7 wr.drew := ⟨HK.out.os, HK.out.tape, HK.out.output, HK.out.size, HK.out.block⟩
                have US := Lib.hid (u8_set (w := wr.drew) (j := st + k) (u8_same (HU.out n0) rfl) (z ^^^ 255))
                have KS := Lib.hid (keeps_trans HKd (keeps_mono (keeps_set wr.drew q (st + k) (yB (z ^^^ 255))) (fun y hy => (⟨n0, hy⟩ : 0 < N ∧ y = q))) (sub_refl _ _))
                clear HKd
                go_upto_region 60 with (fail)
                go_still_tail 14, (by kernel_rfl)
                change wpList _ _ _ _ _ wr.drew
                have u1 : wr.drew.cell? ⟨q, st + k, none⟩ = some (yB z) := u1
                have u2 : wr.drew.frozen? ⟨q, st + k, none⟩ = false := u2
                go_wp2_with (rw [store_yB]; go_simp)
                go_roundw
                case rel => exact ⟨k + 1, by omega, by go_num, fun _ => US.out, KS.out⟩
                case measure => first | (simp [intOf]; done) | (simp [intOf]; omega)
              · obtain rfl : k = yl := by omega
                have lk : ¬ ((k : Int) < (k : Int)) := by omega
                go_wp2
                go_roundw
                case rel => exact ⟨p + 1, by omega, by go_num, HU.out, HK.out⟩
                case measure => first | (simp [intOf]; done) | (simp [intOf]; omega)
          · obtain rfl : p = L := by omega
            have lp : ¬ ((p : Int) < (p : Int)) := by omega
            have S8 := Lib.hid (stk_keeps S7.out HK.out (fun y hy hh => by have := (HP7.out y hy).2; have := (QQ7.out hh.1).2.2.2; have := hh.2; omega))
            have M8 := Lib.hid (mine_keeps M7.out HK.out (fun y hy hh => by have := (HM7.out y hy).2; have := (QQ7.out hh.1).2.2.2; have := hh.2; omega))
            have B8 := Lib.hid (keeps_up HK.out B7.out (fun y hh => by have := (QQ7.out hh.1).2.2.2; have := hh.2; have := WZ.out; omega))
            have AL8 := ALX.out wr _ S8.out
            rw [← LE.out, ← NE.out] at AL8
            have AL9 := Lib.hid AL8
            have SAX := Lib.hid (show ∀ (W : World) (g2 : Nat) (A3 : Option Addr) (C3 B3 : Nat), W.ownsRow B3 31 1 (.slice (some ⟨g2, 0, none⟩) p p) p (cutRow A3 cs p) → OwnB W B3 (.slice A3 N C3) cs.flatten → Below wr.heap.size wr W → Calls Try.prog 19 #[.slice (some ⟨g2, 0, none⟩) p p, .slice A p c] W fun e w' => e = .returned (.bool true) ∧ ∃ m, w' = W.drewN m from fun W g2 A3 C3 B3 hr ho hb => by
              have hL := LE.out
              rw [hL] at hr ⊢
              exact sameall_any (some ⟨g2, 0, none⟩) A cs.length c cs W (cut_list hr (own_bytes ho).2.1) (by have := (mine_list (mine_below M8.out hb)).2; exact this) (by omega))
            clear AL8 ALX S7 M7 B7 CEL7 S8 HK HU QQ7
            go_wp2_with (first
              | (go_at_call 16; (with_reducible refine AL9.out.mono ?_); rintro e w9 ⟨⟨g2, A3, rfl, hrow, C3, hown⟩, hb9⟩; have SA9 := Lib.hid (SAX.out _ _ _ _ _ hrow hown hb9); have B9 := Lib.hid hb9; clear hrow hown hb9)
              | (go_at_call 19; (with_reducible refine SA9.out.mono ?_); rintro e w10 ⟨rfl, m9, rfl⟩))
            go_ret
            exact ⟨rfl, below_drewN (B8.out.trans (B9.out.mono B8.out.size)) _⟩
end Go.Proofs.Ytlnmaejpchncoaa
