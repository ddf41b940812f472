/-
What is proved here: package comp's order of components, by a contract.
-/
import Derived.Test.YtfgpaffcfkbjlaaOrm
import Derived.BigQuiet
import Derived.Deep.QuietTactic
set_option linter.unusedSimpArgs false
set_option linter.unusedVariables false
namespace Go.Proofs.Ytfgpaffcfkbjlaa
open Go.Cmp Go.RowKit
theorem orm_below {w w1 W : World} {O : Nat} {op : List Nat} {rv : Value} {l : List Nat} {lv : Value} {cs : List Value} (h : OrM w1 O op rv l lv cs W) (hb : Below w.heap.size w w1) (hO : w.heap.size ≤ O) : Below w.heap.size w W :=
  hb.trans (h.but.below hb.size (fun k hk => by have := hb.size; omega))
theorem orm_ask {w w1 W : World} {O R : Nat} {op : List Nat} {rv : Value} {l : List Nat} {lv : Value} {cs : List Value} {vs : List Value} {T : Gr} (h : OrM w1 O op rv l lv cs W) (hR : Lies w1 R 33 vs.toArray) (hSp : Sep w1 (w.heap.size + 3) vs (zg T)) (hRO : R ≠ O) (hO : O < w.heap.size + 3) {x : Nat} (hx : x < T.length) :
    W.cell? ⟨R, x, none⟩ = some (vs.getD x undef) ∧ OwnI W (w.heap.size + 3) (vs.getD x undef) (zs (nx T x)) := by
  have hvz : x < (zg T).length := by simpa using hx
  have ho := hSp.own x hvz
  rw [zg_getD] at ho
  have hl : x < vs.length := by rw [hSp.len]; exact hvz
  have hRl := lies_lt hR
  refine ⟨?_, own_but ho h.but (fun k hk e => by have := own_heap ho k hk; omega)⟩
  rw [lies_cell (h.but.lies hR (by omega)), List.getElem?_toArray, List.getElem?_eq_getElem hl, List.getD_eq_getElem?_getD, List.getElem?_eq_getElem hl]
  rfl
theorem win_form {w : World} {B : Nat} {v : Value} {l : List Int} (h : Win w B v l) : ∃ A c, v = .slice A l.length c := by
  rcases h with ⟨rfl, rfl⟩ | ⟨g, o, c, _, rfl, _⟩
  · exact ⟨none, 0, rfl⟩
  · exact ⟨_, _, rfl⟩
def slen : Value → Nat
  | .slice _ n _ => n
  | _ => 0
theorem cut_key2 {S A : Nat → World → Prop} {G : Prop} (main : (∀ a c, A a c → S a c) → G) (key : ∀ a c, A a c → S a c) : G := main key
/-- what ordered tells -/
def OrdE (G : Gr) (T : Gr) (es : List Ent) (w : World) (e : Ending) (w' : World) : Prop := ∃ A C out, e = .returned (.slice A out.length C) ∧ InTurn T es.length out ∧ (∀ g, g < es.length → g ∈ out) ∧ out.Nodup ∧
  w'.ownsRow w.heap.size 33 1 (.slice A out.length C) out.length (out.map fun k => (es.getD k ⟨0, none, [], 0⟩).rv) ∧ Below w.heap.size w w'
def AskT (G : Gr) (S : List (List Nat)) (T : Gr) : Prop := ∃ op, Asks G S T op
set_option maxRecDepth 100000 in
set_option maxHeartbeats 8000000 in
theorem ordered_any (B0 : Nat) (LA GA : Option Addr) (lc gc : Nat) (G : Gr) (es : List Ent) (hG : Ok G) (hS : Groups G (es.map Ent.r)) (hn : G.length ≤ 1024) (hg : ∀ l ∈ G, l.length ≤ 1024) (w : World) (hL : LsAt w LA (zg G)) (hE : Grps w B0 (.slice GA es.length gc) es) :
    Calls Try.prog 21 #[.slice LA G.length lc, .slice GA es.length gc] w fun e w' => ∃ T, AskT G (es.map Ent.r) T ∧ OrdE G T es w e w' := by
  have hK : es.length ≤ 1024 := by have := groups_len hS; simp at this; omega
  have kb := between_any LA GA lc gc G (es.map Ent.r) hG hS hn hg (by simpa using hK) w hL (grps_ls hE)
  rw [List.length_map] at kb
  have KB := Lib.hid kb
  have HE := Lib.hid hE
  have HS := Lib.hid hS
  clear kb hL hG hg hn
  obtain ⟨n, hnn⟩ : ∃ n, n = G.length := ⟨_, rfl⟩
  obtain ⟨K, hKK⟩ : ∃ K, K = es.length := ⟨_, rfl⟩
  have HKK := Lib.hid hKK
  rw [← hKK] at hK KB ⊢
  rw [← hnn] at KB ⊢
  clear hE hS hnn hKK
  go_enter Try.func21, Try.ntmps21
  go_upto_region 2 with (go_at_call 33; (with_reducible refine KB.out.mono ?_); rintro e w1 ⟨R, O, vs, T, op, rfl, hA, hR, hSp, hO, hBl, r1, r2, o1, o2⟩; rw [List.length_map, ← HKK.out]; have HA := Lib.hid hA; have HR := Lib.hid hR; have HSp := Lib.hid hSp; have HO := Lib.hid hO; have HBl := Lib.hid hBl; have HRB := Lib.hid (And.intro r1 (And.intro r2 (And.intro o1 o2))); clear hA hR hSp hO hBl r1 r2 o1 o2)
  go_upto_region 3 with (fail)
  have M0 := Lib.hid (orm_0 HO.out)
  have RK := Lib.hid (show R ≠ O from fun e => by
    have h1 := HR.out
    have h2 := HO.out
    unfold Lies at h1 h2
    rw [e, h2] at h1
    injection h1 with h1
    injection h1 with _ h1 _
    cases h1)
  generalize w1.alloc (.cells #[.slice none 0 0] 33) = X at *
  go_upto_region 5 with (fail)
  go_loopw [23] (fun v23 wr => ∃ (k : Nat) (l : List Nat) (rv : Value), k ≤ K ∧ v23 = .int .i64 (k : Int) ∧ R0 op l k ∧ OrM w1 O op rv l (.slice none 0 0) [] wr) (fun v23 _ => K - (intOf v23).toNat)
  case atStart => exact ⟨0, [], _, Nat.zero_le _, rfl, r0_0 op, M0.out⟩
  case round =>
    obtain ⟨k, l, rv, hk, rfl, hR0, hM⟩ := hrel
    have H0 := Lib.hid hR0
    have HM := Lib.hid hM
    clear hR0 hM
    by_cases hlt : k < K
    · have lk : (k : Int) < (K : Int) := by omega
      have hkO : k < op.length := by rw [HA.out.lenO, List.length_map, ← HKK.out]; exact hlt
      have co := (lies_cell HM.out.opn k).trans (iRow_at (l := op) (v := k) hkO)
      obtain ⟨p, hp⟩ : ∃ p, p = op.getD k 0 := ⟨_, rfl⟩
      rw [← hp] at co
      have HP := Lib.hid hp
      have ST := Lib.hid (r0_step H0.out)
      have SZ := Lib.hid (orm_size HM.out)
      have KA := Lib.hid (add_any (w1.heap.size + 1) w1.heap.size rv (zs l) (k : Int) wr HM.out.win (by unfold zs; rw [List.pairwise_map]; exact H0.out.srt.imp (fun h => by omega)) (by have := r0_len H0.out; simp [zs]; omega) HM.out.box (Nat.lt_succ_self _) SZ.out)
      clear hp
      by_cases hz : p = 0
      · have hzb : ((p : Int) == 0) = true := by simp [hz]
        go_wp2_with (go_at_call 34; (with_reducible refine KA.out.mono ?_); rintro e w2 ⟨rfl, hAd⟩; have HAd := Lib.hid hAd; clear hAd)
        go_roundw
        case rel =>
          obtain ⟨rv', hM'⟩ := orm_add HM.out HAd.out
          exact ⟨k + 1, _, rv', by omega, by go_num, by have := ST.out; rwa [if_pos (by rw [← HP.out]; exact hz)] at this, hM'⟩
        case measure => first | (simp [intOf]; done) | (simp [intOf]; omega)
      · have hzb : ((p : Int) == 0) = false := by simp; omega
        go_wp2
        go_roundw
        case rel => exact ⟨k + 1, _, _, by omega, by go_num, by have := ST.out; rwa [if_neg (by rw [← HP.out]; exact hz)] at this, HM.out⟩
        case measure => first | (simp [intOf]; done) | (simp [intOf]; omega)
    · obtain rfl : k = K := by omega
      have lk : ¬ (k : Int) < (k : Int) := by omega
      have hTK : T.length = k := by rw [HA.out.lenT, List.length_map, ← HKK.out]
      have HTK := Lib.hid hTK
      have RD := Lib.hid (show Rd T k op [] [] l by have := rd_0 HA.out (by rw [List.length_map, ← HKK.out]; exact H0.out); rwa [List.length_map, ← HKK.out] at this)
      have HLT := Lib.hid (show ∀ h g, g ∈ nx T h → g < k from fun h g hg => by have := ((HA.out.mem h g).1 hg).2.1; rwa [List.length_map, ← HKK.out] at this)
      clear hTK
      go_upto_region 11 with (fail)
      go_loopw [10] (fun v10 wr => ∃ (out : List Nat) (l op : List Nat) (rv : Value), slen v10 = out.length ∧ Rd T k op out [] l ∧ OrM w1 O op rv l v10 (out.map fun i => (es.getD i ⟨0, none, [], 0⟩).rv) wr) (fun v10 _ => k - slen v10)
      case atStart => exact ⟨[], l, op, rv, rfl, RD.out, HM.out⟩
      case round =>
        obtain ⟨out, l2, op2, rv2, hsl, hRd, hM2⟩ := hrel
        have HSL := Lib.hid hsl
        have HR2 := Lib.hid hRd
        have HM2 := Lib.hid hM2
        clear hsl hRd hM2
        obtain ⟨A2, c2, hrv⟩ := win_form HM2.out.win
        rw [zs_len] at hrv
        subst hrv
        have cb := lies_cell HM2.out.box 0
        have fb := lies_free HM2.out.box 0
        simp only [List.getElem?_toArray, List.getElem?_cons_zero] at cb
        cases l2 with
        | nil =>
          simp only [List.length_nil] at cb HM2
          go_wp2
          go_ret
          obtain ⟨LA2, LC2, hLV⟩ := own_slice HM2.out.row
          rw [List.length_map] at hLV
          subst hLV
          refine ⟨T, ⟨op, HA.out⟩, LA2, LC2, out, rfl, by rw [← HKK.out]; exact HR2.out.told, fun g hg => rd_all HS.out HA.out (by rw [List.length_map, ← HKK.out]; exact HR2.out) g (by rw [List.length_map]; exact hg), HR2.out.nd, ?_, orm_below HM2.out HBl.out HRB.out.2.2.1⟩
          have := HM2.out.row.mono (base' := w.heap.size) (by have := HBl.out.size; omega)
          rwa [List.length_map] at this
        | cons x l3 =>
          obtain ⟨m, hm⟩ : ∃ m, m = l3.length := ⟨_, rfl⟩
          have HMm := Lib.hid hm
          rw [List.length_cons, ← hm] at cb HM2
          clear hm
          have lk : (0 : Int) < ((m + 1 : Nat) : Int) := by omega
          have lk2 : (0 : Nat) < m + 1 := by omega
          obtain ⟨gb, ob, c', cur, hv, _, hLc, hlc, hcm, hoc, hcells⟩ := win_first HM2.out.win (by simp [zs])
          injection hv with e1 e2 e3
          subst e1 e3
          have c0 := (lies_cell hLc ob).trans (by have := hcells 0 (by simp [zs]); simpa [zs, iV] using this)
          have hmc : m + 1 ≤ c2 := by rw [zs_len] at hlc; simpa [HMm.out] using hlc
          have hcm2 : c2 ≤ 9223372036854775807 := by rw [maxLen_eq] at hcm; exact hcm
          have lk3 : (1 : Int) ≤ ((m + 1 : Nat) : Int) := by omega
          have lk4 : ((m + 1 : Nat) : Int) ≤ (c2 : Int) := by omega
          have HW := Lib.hid (fun o' ho => orm_tail HM2.out HMm.out o' ho)
          have RT := Lib.hid (rd_take HTK.out HLT.out HR2.out)
          have hxk : x < k := ((HR2.out.mem x).1 (by simp)).1
          clear e2 hcells hLc hlc hcm hoc HM
          go_upto_region 13 with (fail)
          by_cases hc1 : c2 = 1
          · have W1 := HW.out ob (by rw [if_pos hc1])
            have e0 : c2 - 1 = 0 := by omega
            rw [e0] at W1
            have W1 := Lib.hid W1
            clear e0

            go_upto_region 14 with (fail)
            generalize World.setCell wr _ _ = W at *
            have hxe : x < es.length := by rw [← HKK.out]; exact hxk
            obtain ⟨gG, eG, hgw, cG⟩ := grps_cell HE.out hxe
            replace cG := ((orm_below W1.out HBl.out HRB.out.2.2.1).cell (p := ⟨gG, 0 + x, none⟩) hgw).trans cG
            rw [Nat.zero_add] at cG
            have hu : (es.getD x ⟨0, none, [], 0⟩).rv = .slice es[x].A es[x].r.length es[x].c := by rw [List.getD_eq_getElem?_getD, List.getElem?_eq_getElem hxe]; rfl
            obtain ⟨A3, n3, c3, hA3⟩ : ∃ A n c, A = es[x].A ∧ n = es[x].r.length ∧ c = es[x].c := ⟨_, _, _, rfl, rfl, rfl⟩
            rw [← hA3.1, ← hA3.2.1, ← hA3.2.2] at cG hu
            have xi : (x : Int) < (k : Int) := by omega
            have HU := Lib.hid hu
            subst eG
            obtain ⟨N, hN⟩ : ∃ N, N = (out.map fun i => (es.getD i ⟨0, none, [], 0⟩).rv).length := ⟨_, rfl⟩
            have HNo := Lib.hid hN
            have NB := Lib.hid (show N ≤ 1000000 by rw [hN, List.length_map]; have := rd_out HR2.out; omega)
            have A1 := Lib.hid (orm_alloc W1.out (.cells #[.slice A3 n3 c3] 33))
            have ROW := Lib.hid (show (W.alloc (.cells #[.slice A3 n3 c3] 33)).ownsRow (w1.heap.size + 1) 33 1 u10 N _ by rw [hN]; exact A1.out.row)
            have LN := Lib.hid (lies_new W 33 #[.slice A3 n3 c3])
            have SZ := Lib.hid (orm_size A1.out)
            clear hu hA3 hN hgw cb fb c0
            go_upto_region 15 with (refine wpList_app_slice rfl _ _ rfl (w1.heap.size + 1) W.heap.size (.slice A3 n3 c3) u10 N _ rfl ROW.out rfl LN.out rfl NB.out SZ.out ?_; intro GB GC w7 g1 g2 g3; have M7 := Lib.hid (orm_list A1.out (u := .slice A3 n3 c3) (G := GB) (C := GC) (by rw [← HNo.out]; exact g1) g2 (g3.imp id (fun e => by rw [e]; exact Nat.le_refl _))); clear g1 g2 g3)
            rw [← HNo.out] at M7
            clear A1 ROW LN SZ W1 cG
            have hxT : x < T.length := by rw [HTK.out]; exact hxk
            have HXT := Lib.hid hxT
            obtain ⟨cR, oR⟩ := orm_ask M7.out HR.out HSp.out RK.out HRB.out.2.2.2 hxT
            obtain ⟨A5, C5, h5⟩ := own_slice oR
            rw [zs_len] at h5
            obtain ⟨m5, hm5⟩ : ∃ m5, m5 = (nx T x).length := ⟨_, rfl⟩
            rw [← hm5] at h5
            have H5 := Lib.hid h5
            have HM5 := Lib.hid hm5
            have HM5b := Lib.hid (show m5 ≤ 1048576 by rw [hm5]; exact HA.out.big x)
            rw [h5] at cR
            clear oR h5 hm5 hxT
            go_upto_region 16 with (fail)
            go_loopw [55] (fun v55 wq => ∃ (j : Nat) (l op : List Nat) (rv : Value), j ≤ m5 ∧ v55 = .int .i64 (j : Int) ∧ Rd T k op (out ++ [x]) ((nx T x).drop j) l ∧ OrM w1 O op rv l (.slice (some ⟨GB, 0, none⟩) (N + 1) GC) ((out.map fun i => (es.getD i ⟨0, none, [], 0⟩).rv) ++ [.slice A3 n3 c3]) wq) (fun v55 _ => m5 - (intOf v55).toNat)
            case atStart => exact ⟨0, l3, op2, _, Nat.zero_le _, rfl, RT.out, M7.out⟩
            case round =>
              obtain ⟨j, l4, op4, rv4, hj, rfl, hR4, hM4⟩ := hrel
              have HR4 := Lib.hid hR4
              have HM4 := Lib.hid hM4
              clear hR4 hM4
              by_cases hjl : j < m5
              · have hm5b := HM5b.out
                have lj : (j : Int) < (m5 : Int) := by omega
                have hjg : j < (nx T x).length := by rw [← HM5.out]; exact hjl
                obtain ⟨_, o4⟩ := orm_ask HM4.out HR.out HSp.out RK.out HRB.out.2.2.2 HXT.out
                rw [H5.out] at o4
                obtain ⟨b2, ob2, eA, hb2, cj⟩ := (ownI_ints o4).2 j (by simpa using hjg)
                have ez : (zs (nx T x))[j]'(by simpa using hjg) = ((nx T x)[j] : Int) := by simp [zs]
                rw [ez] at cj
                have hdr : (nx T x).drop j = (nx T x)[j] :: (nx T x).drop (j + 1) := List.drop_eq_getElem_cons hjg
                obtain ⟨g, hg⟩ : ∃ g, g = (nx T x)[j] := ⟨_, rfl⟩
                rw [← hg] at cj hdr
                have hrd := HR4.out
                rw [hdr] at hrd
                obtain ⟨hgk, hgp, _, _⟩ := rd_pos hrd
                have hgO : g < op4.length := by rw [hrd.lenO]; exact hgk
                have RD5 := Lib.hid (rd_dec hrd)
                have co := (lies_cell HM4.out.opn g).trans (iRow_at (l := op4) (v := g) hgO)
                have fo := lies_free HM4.out.opn g
                have hbo : op4.getD g 0 ≤ 1048576 := hrd.big g
                obtain ⟨q, hq⟩ : ∃ q, q + 1 = op4.getD g 0 := ⟨op4.getD g 0 - 1, by omega⟩
                rw [← hq] at co hbo
                have HQ := Lib.hid (show op4.getD g 0 - 1 = q by omega)
                have M5 := Lib.hid (orm_open HM4.out g q)
                have gi : (g : Int) < (k : Int) := by omega
                have qb : (q : Int) ≤ 2000000000000 := by omega
                have q0 : (0 : Int) ≤ (q : Int) := by omega
                rw [Int.natCast_add] at co
                subst eA
                clear o4 hb2 ez hdr hrd hgp hq hg hbo
                unfold iV at *
                go_upto_region 19 with (fail)
                generalize wr.setCell ⟨O, g, none⟩ (.int .i64 (q : Int)) = W5 at *
                have c5 := (lies_cell M5.out.opn g).trans (iRow_at (l := op4.set g q) (v := g) (by simpa using hgO))
                rw [getD_setN, if_pos ⟨rfl, hgO⟩] at c5
                rw [HQ.out] at RD5
                have KA := Lib.hid (add_any (w1.heap.size + 1) w1.heap.size rv4 (zs l4) (g : Int) W5 M5.out.win (by unfold zs; rw [List.pairwise_map]; exact HR4.out.srt.imp (fun h => by omega)) (by have := rd_len HR4.out; simp [zs]; omega) M5.out.box (Nat.lt_succ_self _) (orm_size M5.out))
                by_cases hz : q = 0
                · have hzb : ((q : Int) == 0) = true := by simp [hz]
                  have RD6 := Lib.hid (show Rd T k (op4.set g q) (out ++ [x]) ((nx T x).drop (j + 1)) (insN l4 g) by have := RD5.out; rwa [if_pos hz] at this)
                  clear hz RD5
                  go_wp2_with (go_at_call 34; (with_reducible refine KA.out.mono ?_); rintro e w2 ⟨rfl, hAd⟩; have HAd := Lib.hid hAd; clear hAd)
                  go_roundw
                  case rel =>
                    obtain ⟨rv', hM'⟩ := orm_add M5.out HAd.out
                    exact ⟨j + 1, _, _, rv', by omega, by go_num, RD6.out, hM'⟩
                  case measure => first | (simp [intOf]; done) | (simp [intOf]; omega)
                · have hzb : ((q : Int) == 0) = false := by simp; omega
                  have RD6 := Lib.hid (show Rd T k (op4.set g q) (out ++ [x]) ((nx T x).drop (j + 1)) l4 by have := RD5.out; rwa [if_neg hz] at this)
                  clear RD5
                  go_wp2
                  go_roundw
                  case rel => exact ⟨j + 1, _, _, rv4, by omega, by go_num, RD6.out, M5.out⟩
                  case measure => first | (simp [intOf]; done) | (simp [intOf]; omega)
              · obtain rfl : j = m5 := by omega
                have lj : ¬ (j : Int) < (j : Int) := by omega
                go_wp2
                go_roundw
                case rel =>
                  refine ⟨out ++ [x], l4, op4, rv4, ?_, ?_, ?_⟩
                  · show N + 1 = _
                    rw [HNo.out]; simp
                  · have := HR4.out
                    rwa [HM5.out, List.drop_length] at this
                  · have := HM4.out
                    rw [List.map_append, List.map_cons, List.map_nil, HU.out]
                    exact this
                case measure =>
                  show k - (N + 1) < k - slen u10
                  rw [HSL.out]
                  have := rd_out HR4.out
                  rw [List.length_append, List.length_singleton] at this
                  have e := HNo.out
                  rw [List.length_map] at e
                  omega

          · have W1 := Lib.hid (HW.out (ob + 1) (by rw [if_neg hc1]))

            go_upto_region 14 with (fail)
            generalize World.setCell wr _ _ = W at *
            have hxe : x < es.length := by rw [← HKK.out]; exact hxk
            obtain ⟨gG, eG, hgw, cG⟩ := grps_cell HE.out hxe
            replace cG := ((orm_below W1.out HBl.out HRB.out.2.2.1).cell (p := ⟨gG, 0 + x, none⟩) hgw).trans cG
            rw [Nat.zero_add] at cG
            have hu : (es.getD x ⟨0, none, [], 0⟩).rv = .slice es[x].A es[x].r.length es[x].c := by rw [List.getD_eq_getElem?_getD, List.getElem?_eq_getElem hxe]; rfl
            obtain ⟨A3, n3, c3, hA3⟩ : ∃ A n c, A = es[x].A ∧ n = es[x].r.length ∧ c = es[x].c := ⟨_, _, _, rfl, rfl, rfl⟩
            rw [← hA3.1, ← hA3.2.1, ← hA3.2.2] at cG hu
            have xi : (x : Int) < (k : Int) := by omega
            have HU := Lib.hid hu
            subst eG
            obtain ⟨N, hN⟩ : ∃ N, N = (out.map fun i => (es.getD i ⟨0, none, [], 0⟩).rv).length := ⟨_, rfl⟩
            have HNo := Lib.hid hN
            have NB := Lib.hid (show N ≤ 1000000 by rw [hN, List.length_map]; have := rd_out HR2.out; omega)
            have A1 := Lib.hid (orm_alloc W1.out (.cells #[.slice A3 n3 c3] 33))
            have ROW := Lib.hid (show (W.alloc (.cells #[.slice A3 n3 c3] 33)).ownsRow (w1.heap.size + 1) 33 1 u10 N _ by rw [hN]; exact A1.out.row)
            have LN := Lib.hid (lies_new W 33 #[.slice A3 n3 c3])
            have SZ := Lib.hid (orm_size A1.out)
            clear hu hA3 hN hgw cb fb c0
            go_upto_region 15 with (refine wpList_app_slice rfl _ _ rfl (w1.heap.size + 1) W.heap.size (.slice A3 n3 c3) u10 N _ rfl ROW.out rfl LN.out rfl NB.out SZ.out ?_; intro GB GC w7 g1 g2 g3; have M7 := Lib.hid (orm_list A1.out (u := .slice A3 n3 c3) (G := GB) (C := GC) (by rw [← HNo.out]; exact g1) g2 (g3.imp id (fun e => by rw [e]; exact Nat.le_refl _))); clear g1 g2 g3)
            rw [← HNo.out] at M7
            clear A1 ROW LN SZ W1 cG
            have hxT : x < T.length := by rw [HTK.out]; exact hxk
            have HXT := Lib.hid hxT
            obtain ⟨cR, oR⟩ := orm_ask M7.out HR.out HSp.out RK.out HRB.out.2.2.2 hxT
            obtain ⟨A5, C5, h5⟩ := own_slice oR
            rw [zs_len] at h5
            obtain ⟨m5, hm5⟩ : ∃ m5, m5 = (nx T x).length := ⟨_, rfl⟩
            rw [← hm5] at h5
            have H5 := Lib.hid h5
            have HM5 := Lib.hid hm5
            have HM5b := Lib.hid (show m5 ≤ 1048576 by rw [hm5]; exact HA.out.big x)
            rw [h5] at cR
            clear oR h5 hm5 hxT
            go_upto_region 16 with (fail)
            go_loopw [55] (fun v55 wq => ∃ (j : Nat) (l op : List Nat) (rv : Value), j ≤ m5 ∧ v55 = .int .i64 (j : Int) ∧ Rd T k op (out ++ [x]) ((nx T x).drop j) l ∧ OrM w1 O op rv l (.slice (some ⟨GB, 0, none⟩) (N + 1) GC) ((out.map fun i => (es.getD i ⟨0, none, [], 0⟩).rv) ++ [.slice A3 n3 c3]) wq) (fun v55 _ => m5 - (intOf v55).toNat)
            case atStart => exact ⟨0, l3, op2, _, Nat.zero_le _, rfl, RT.out, M7.out⟩
            case round =>
              obtain ⟨j, l4, op4, rv4, hj, rfl, hR4, hM4⟩ := hrel
              have HR4 := Lib.hid hR4
              have HM4 := Lib.hid hM4
              clear hR4 hM4
              by_cases hjl : j < m5
              · have hm5b := HM5b.out
                have lj : (j : Int) < (m5 : Int) := by omega
                have hjg : j < (nx T x).length := by rw [← HM5.out]; exact hjl
                obtain ⟨_, o4⟩ := orm_ask HM4.out HR.out HSp.out RK.out HRB.out.2.2.2 HXT.out
                rw [H5.out] at o4
                obtain ⟨b2, ob2, eA, hb2, cj⟩ := (ownI_ints o4).2 j (by simpa using hjg)
                have ez : (zs (nx T x))[j]'(by simpa using hjg) = ((nx T x)[j] : Int) := by simp [zs]
                rw [ez] at cj
                have hdr : (nx T x).drop j = (nx T x)[j] :: (nx T x).drop (j + 1) := List.drop_eq_getElem_cons hjg
                obtain ⟨g, hg⟩ : ∃ g, g = (nx T x)[j] := ⟨_, rfl⟩
                rw [← hg] at cj hdr
                have hrd := HR4.out
                rw [hdr] at hrd
                obtain ⟨hgk, hgp, _, _⟩ := rd_pos hrd
                have hgO : g < op4.length := by rw [hrd.lenO]; exact hgk
                have RD5 := Lib.hid (rd_dec hrd)
                have co := (lies_cell HM4.out.opn g).trans (iRow_at (l := op4) (v := g) hgO)
                have fo := lies_free HM4.out.opn g
                have hbo : op4.getD g 0 ≤ 1048576 := hrd.big g
                obtain ⟨q, hq⟩ : ∃ q, q + 1 = op4.getD g 0 := ⟨op4.getD g 0 - 1, by omega⟩
                rw [← hq] at co hbo
                have HQ := Lib.hid (show op4.getD g 0 - 1 = q by omega)
                have M5 := Lib.hid (orm_open HM4.out g q)
                have gi : (g : Int) < (k : Int) := by omega
                have qb : (q : Int) ≤ 2000000000000 := by omega
                have q0 : (0 : Int) ≤ (q : Int) := by omega
                rw [Int.natCast_add] at co
                subst eA
                clear o4 hb2 ez hdr hrd hgp hq hg hbo
                unfold iV at *
                go_upto_region 19 with (fail)
                generalize wr.setCell ⟨O, g, none⟩ (.int .i64 (q : Int)) = W5 at *
                have c5 := (lies_cell M5.out.opn g).trans (iRow_at (l := op4.set g q) (v := g) (by simpa using hgO))
                rw [getD_setN, if_pos ⟨rfl, hgO⟩] at c5
                rw [HQ.out] at RD5
                have KA := Lib.hid (add_any (w1.heap.size + 1) w1.heap.size rv4 (zs l4) (g : Int) W5 M5.out.win (by unfold zs; rw [List.pairwise_map]; exact HR4.out.srt.imp (fun h => by omega)) (by have := rd_len HR4.out; simp [zs]; omega) M5.out.box (Nat.lt_succ_self _) (orm_size M5.out))
                by_cases hz : q = 0
                · have hzb : ((q : Int) == 0) = true := by simp [hz]
                  have RD6 := Lib.hid (show Rd T k (op4.set g q) (out ++ [x]) ((nx T x).drop (j + 1)) (insN l4 g) by have := RD5.out; rwa [if_pos hz] at this)
                  clear hz RD5
                  go_wp2_with (go_at_call 34; (with_reducible refine KA.out.mono ?_); rintro e w2 ⟨rfl, hAd⟩; have HAd := Lib.hid hAd; clear hAd)
                  go_roundw
                  case rel =>
                    obtain ⟨rv', hM'⟩ := orm_add M5.out HAd.out
                    exact ⟨j + 1, _, _, rv', by omega, by go_num, RD6.out, hM'⟩
                  case measure => first | (simp [intOf]; done) | (simp [intOf]; omega)
                · have hzb : ((q : Int) == 0) = false := by simp; omega
                  have RD6 := Lib.hid (show Rd T k (op4.set g q) (out ++ [x]) ((nx T x).drop (j + 1)) l4 by have := RD5.out; rwa [if_neg hz] at this)
                  clear RD5
                  go_wp2
                  go_roundw
                  case rel => exact ⟨j + 1, _, _, rv4, by omega, by go_num, RD6.out, M5.out⟩
                  case measure => first | (simp [intOf]; done) | (simp [intOf]; omega)
              · obtain rfl : j = m5 := by omega
                have lj : ¬ (j : Int) < (j : Int) := by omega
                go_wp2
                go_roundw
                case rel =>
                  refine ⟨out ++ [x], l4, op4, rv4, ?_, ?_, ?_⟩
                  · show N + 1 = _
                    rw [HNo.out]; simp
                  · have := HR4.out
                    rwa [HM5.out, List.drop_length] at this
                  · have := HM4.out
                    rw [List.map_append, List.map_cons, List.map_nil, HU.out]
                    exact this
                case measure =>
                  show k - (N + 1) < k - slen u10
                  rw [HSL.out]
                  have := rd_out HR4.out
                  rw [List.length_append, List.length_singleton] at this
                  have e := HNo.out
                  rw [List.length_map] at e
                  omega

end Go.Proofs.Ytfgpaffcfkbjlaa
