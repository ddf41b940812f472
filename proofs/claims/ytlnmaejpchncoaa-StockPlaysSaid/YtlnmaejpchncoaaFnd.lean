/-
What is proved here: the law StockFinds's walk.
-/
import Derived.Test.YtlnmaejpchncoaaAll
import Derived.Test.YtlnmaejpchncoaaOpn
set_option linter.unusedSimpArgs false
set_option linter.unusedVariables false
namespace Go.Stk
/-- how much a list takes: a place and its bytes for each content -/
def tot (ls : List Bt) : Nat := (ls.map fun b => 1 + b.length).sum
theorem tot_snoc (ls : List Bt) (i : Nat) (h : i < ls.length) : tot (ls.take (i + 1)) = tot (ls.take i) + (1 + ls[i].length) := by
  unfold tot
  rw [List.take_succ_eq_append_getElem h, List.map_append, List.sum_append]
  simp
theorem tot_le (ls : List Bt) : ∀ i, tot (ls.take i) ≤ tot ls := fun i => by
  unfold tot
  conv => rhs; rw [← List.take_append_drop i ls]
  rw [List.map_append, List.sum_append]
  omega
theorem tot_at (ls : List Bt) (i : Nat) (h : i < ls.length) : ls[i].length ≤ tot ls := by
  have h1 := tot_snoc ls i h
  have h2 := tot_le ls (i + 1)
  omega
theorem addA_small (lim : Int) (cs : List Bt) (b : Bt) : (addA lim cs b).2.2.length ≤ cs.length + 1 ∧ ((addA lim cs b).2.2.flatten.length ≤ cs.flatten.length + b.length) := by
  unfold addA
  split
  · exact ⟨Nat.le_succ _, Nat.le_add_right _ _⟩
  · split
    · exact ⟨Nat.le_succ _, Nat.le_add_right _ _⟩
    · split
      · exact ⟨Nat.le_succ _, Nat.le_add_right _ _⟩
      · refine ⟨by simp, ?_⟩
        show (cs ++ [b]).flatten.length ≤ _
        rw [List.flatten_append, List.length_append, List.flatten_singleton]
        exact Nat.le_refl _
theorem addA_long (lim : Int) (cs : List Bt) (b : Bt) (h : 8192 < b.length) : addA lim cs b = (0, 2, cs) := by
  unfold addA
  rw [if_pos h]
/-- a content that fits: its place, and that it is there -/
theorem addA_fits (lim : Int) (cs : List Bt) (b : Bt) (h : ¬ 8192 < b.length) (hf : ((cs.flatten.length : Nat) : Int) + ((b.length : Nat) : Int) ≤ lim) :
    ∃ at_ : Nat, ∃ cs', addA lim cs b = ((at_ : Int), 0, cs') ∧ addA lim cs' b = ((at_ : Int), 0, cs') ∧ find cs' b = (at_ : Int) ∧ ∃ h : at_ < cs'.length, cs'[at_] = b := by
  by_cases hin : b ∈ cs
  · refine ⟨cs.idxOf b, cs, ?_, ?_, find_yes hin, List.idxOf_lt_length_of_mem hin, ?_⟩
    · unfold addA; rw [if_neg h, if_pos hin]
    · unfold addA; rw [if_neg h, if_pos hin]
    · exact List.getElem_idxOf _
  · have hin2 : b ∈ cs ++ [b] := by simp
    have hi : (cs ++ [b]).idxOf b = cs.length := by rw [List.idxOf_append, if_neg hin]; simp
    refine ⟨cs.length, cs ++ [b], ?_, ?_, by rw [find_yes hin2, hi], by simp, by simp⟩
    · unfold addA; rw [if_neg h, if_neg hin, if_neg (by omega)]
    · unfold addA; rw [if_neg h, if_pos hin2, hi]
end Go.Stk
namespace Go.Proofs.Ytlnmaejpchncoaa
open Go.Stk Go.RowKit Go.Word
attribute [local go_sem] guard_eq guard_ne st_eql st_neq
set_option maxRecDepth 100000 in
set_option maxHeartbeats 8000000 in
theorem finds_law (A0 A1 : Option Addr) (c0 c1 : Nat) (l o : List Bt) (w : World) (hl : ListAt w A0 l) (ho : ListAt w A1 o)
    (h1 : l.length ≤ 140737488355328) (h2 : o.length ≤ 140737488355328) (h3 : ∀ x ∈ l, x.length ≤ 140737488355328) (h4 : ∀ x ∈ o, x.length ≤ 140737488355328) :
    Calls Try.prog 6 #[.slice A0 l.length c0, .slice A1 o.length c1] w fun e w' => e = .returned (.bool true) ∧ Below w.heap.size w w' := by
  have HL := Lib.hid hl
  have HO := Lib.hid ho
  obtain ⟨n, hn⟩ : ∃ n, n = l.length := ⟨_, rfl⟩
  obtain ⟨m, hm⟩ : ∃ m, m = o.length := ⟨_, rfl⟩
  have NN := Lib.hid hn
  have MM := Lib.hid hm
  have H3 := Lib.hid h3
  have H4 := Lib.hid h4
  rw [← hn] at h1 ⊢
  rw [← hm] at h2 ⊢
  clear hl ho hn hm h3 h4
  go_enter Try.func6, Try.ntmps6
  go_upto_region 3 with (go_at_call 8; (with_reducible refine (alive_any _).mono ?_); rintro e w1 ⟨rfl, hb⟩; have B1 := Lib.hid hb; clear hb)
  go_wp2
  go_loopw [6, 7] (fun v6 v7 wr => wr = w1 ∧ ∃ i k : Nat, i ≤ n ∧ k ≤ 150000000000000 ∧ v6 = .int .i64 (k : Int) ∧ v7 = .int .i64 (i : Int) ∧ k = tot (l.take i)) (fun _ v7 _ => n - (intOf v7).toNat)
  case atStart => exact ⟨rfl, 0, 0, Nat.zero_le _, Nat.zero_le _, rfl, rfl, by simp [tot]⟩
  case round =>
    obtain ⟨hw, i, k, hi, hk, rfl, rfl, hkk⟩ := hrel
    have hw := hw.symm
    subst hw
    have KK := Lib.hid hkk
    clear hkk
    by_cases hgo : i < n ∧ k ≤ 60000
    · have li : (i : Int) < (n : Int) := by omega
      have lk : (k : Int) ≤ 60000 := by omega
      have lf : i < l.length := by have := NN.out; omega
      obtain ⟨b, o', DA, dc, eA, hlt, d1, _⟩ := HL.out i lf
      subst eA
      have d1 := (B1.out.cell (p := ⟨b, o' + i, none⟩) hlt).trans d1
      have hx := H3.out l[i] (List.getElem_mem lf)
      have TS := Lib.hid (tot_snoc l i lf)
      generalize l[i].length = x at *
      go_wp2
      go_roundw
      case rel => exact ⟨trivial, i + 1, k + 1 + x, by omega, by omega, by go_num, by go_num, by rw [TS.out, ← KK.out]; omega⟩
      case measure => first | (simp [intOf]; done) | (simp [intOf]; omega)
    · by_cases hin : i < n
      · have li : (i : Int) < (n : Int) := by omega
        have lk : ¬ ((k : Int) ≤ 60000) := by omega
        have lk2 : (60000 : Int) < (k : Int) := by omega
        go_wp2
        go_loopw [6, 8] (fun v6 v8 wr => wr = w1 ∧ v6 = .int .i64 (k : Int) ∧ v8 = .int .i64 0) (fun _ _ _ => 0)
        case atStart => exact ⟨rfl, rfl, rfl⟩
        case round =>
          obtain ⟨hw, rfl, rfl⟩ := hrel
          have hw := hw.symm
          subst hw
          by_cases hm0 : (0 : Int) < (m : Int)
          · go_wp2
            go_ret
            exact ⟨rfl, B1.out⟩
          · go_wp2
            go_ret
            exact ⟨rfl, B1.out⟩
      · obtain rfl : i = n := by omega
        have li : ¬ ((i : Int) < (i : Int)) := by omega
        have K1 : Hid (k = tot l) := Lib.hid (by rw [KK.out, List.take_of_length_le (by have := NN.out; omega)])
        clear KK hgo hin
        go_wp2
        go_loopw [6, 8] (fun v6 v8 wr => wr = w1 ∧ ∃ j k2 : Nat, j ≤ m ∧ k2 ≤ 300000000000000 ∧ v6 = .int .i64 (k2 : Int) ∧ v8 = .int .i64 (j : Int) ∧ k2 = k + tot (o.take j)) (fun _ v8 _ => m - (intOf v8).toNat)
        case atStart => exact ⟨rfl, 0, k, Nat.zero_le _, by omega, rfl, rfl, by simp [tot]⟩
        case round =>
          obtain ⟨hw, j, k2, hj, hk2, rfl, rfl, hkk⟩ := hrel
          have hw := hw.symm
          subst hw
          have KK := Lib.hid hkk
          clear hkk
          by_cases hgo : j < m ∧ k2 ≤ 60000
          · have lj : (j : Int) < (m : Int) := by omega
            have lk : (k2 : Int) ≤ 60000 := by omega
            have lf : j < o.length := by have := MM.out; omega
            obtain ⟨b, o', DA, dc, eA, hlt, d1, _⟩ := HO.out j lf
            subst eA
            have d1 := (B1.out.cell (p := ⟨b, o' + j, none⟩) hlt).trans d1
            have hx := H4.out o[j] (List.getElem_mem lf)
            have TS := Lib.hid (tot_snoc o j lf)
            generalize o[j].length = x at *
            go_wp2
            go_roundw
            case rel => exact ⟨trivial, j + 1, k2 + 1 + x, by omega, by omega, by go_num, by go_num, by rw [TS.out, KK.out]; omega⟩
            case measure => first | (simp [intOf]; done) | (simp [intOf]; omega)
          · by_cases hjn : j < m
            · have lj : (j : Int) < (m : Int) := by omega
              have lk : ¬ ((k2 : Int) ≤ 60000) := by omega
              have lk2 : (60000 : Int) < (k2 : Int) := by omega
              go_wp2
              go_ret
              exact ⟨rfl, B1.out⟩
            · obtain rfl : j = m := by omega
              have lj : ¬ ((j : Int) < (j : Int)) := by omega
              have K2 : Hid (k2 = tot l + tot o) := Lib.hid (by rw [KK.out, List.take_of_length_le (by have := MM.out; omega), K1.out])
              clear KK hgo hjn
              by_cases hb1 : (60000 : Int) < (k2 : Int)
              · go_wp2
                go_ret
                exact ⟨rfl, B1.out⟩
              by_cases hb2 : (100 : Int) < (i : Int)
              · go_wp2
                go_ret
                exact ⟨rfl, B1.out⟩
              by_cases hb3 : (100 : Int) < (j : Int)
              · go_wp2
                go_ret
                exact ⟨rfl, B1.out⟩
              have NS := Lib.hid (new_any 65536 w1 (by decide) (by decide))
              go_upto_region 14 with (go_at_call 10; (with_reducible refine NS.out.mono ?_); rintro e w2 ⟨rfl, hs, hb, hz⟩; have S2 := Lib.hid hs; have B2 := Lib.hid hb; have Z2 := Lib.hid hz; clear hs hb hz)
              have NT := Lib.hid (new_any 65536 w2 (by decide) (by decide))
              go_upto_region 17 with (go_at_call 10; (with_reducible refine NT.out.mono ?_); rintro e w3 ⟨rfl, hs, hb, hz⟩; have T3 := Lib.hid hs; have B3 := Lib.hid hb; have Z3 := Lib.hid hz; clear hs hb hz)
              have P1 := Lib.hid B1.out.size
              generalize hgs : w1.heap.size = gs at *
              have hgt : w2.heap.size = gs + 1 := Z2.out
              rw [hgt] at T3 B3 Z3 ⊢
              have S3 := Lib.hid (stk_below S2.out (hgt ▸ B3.out))
              have BW3 : Hid (Below w.heap.size w w3) := Lib.hid (B1.out.trans ((B2.out.mono P1.out).trans (B3.out.mono (by have := P1.out; omega))))
              clear B1 B2 B3 NS NT S2 Z2 hgs hgt
              have TL : Hid (tot l ≤ 60000 ∧ tot o ≤ 60000) := Lib.hid (by have := K2.out; omega)
              clear K1 K2 hb1
              go_wp2
              go_loopw [13] (fun v13 wr => ∃ (q : Nat) (ct : List Bt) (Pt : Nat → Prop) (vB vE vM : Value), q ≤ j ∧ v13 = .int .i64 (q : Int) ∧ Stk wr Pt (gs + 1) 65536 ct vB vE vM ∧ ct.length ≤ q ∧ ct.flatten.length ≤ tot (o.take q) ∧ (∀ x, Pt x → gs < x ∧ x < wr.heap.size) ∧ Stk wr (fun x => x = gs) gs 65536 [] (.slice none 0 0) (.slice none 0 0) (.map none) ∧ Below w.heap.size w wr) (fun v13 _ => j - (intOf v13).toNat)
              case atStart => exact ⟨0, [], fun x => x = gs + 1 ∧ x < w3.heap.size, _, _, _, Nat.zero_le _, rfl, stk_cut T3.out, Nat.le_refl _, by simp, fun x hx => ⟨by have := hx.1; omega, hx.2⟩, S3.out, BW3.out⟩
              case round =>
                obtain ⟨q, ct, Pt, vB, vE, vM, hq, rfl, hT, hcl, hcf, hpt, hS, hb⟩ := hrel
                have HT := Lib.hid hT
                have HCF := Lib.hid hcf
                have HPT := Lib.hid hpt
                have HS := Lib.hid hS
                have HB := Lib.hid hb
                clear hT hcf hpt hS hb
                by_cases hlt : q < j
                · have lq : (q : Int) < (j : Int) := by omega
                  have lf : q < o.length := by have := MM.out; omega
                  obtain ⟨b, o', DA, dc, eA, hbl, d1, hby⟩ := HO.out q lf
                  subst eA
                  have d1 := (HB.out.cell (p := ⟨b, o' + q, none⟩) hbl).trans d1
                  have hx := H4.out o[q] (List.getElem_mem lf)
                  have AD := Lib.hid (add_any DA dc o[q] wr HT.out (bytesAt_below hby HB.out) (fun h0 a e hp => by
                    obtain ⟨bb, oo, e2, hl2, _⟩ := hby 0 h0
                    rw [e] at e2
                    injection e2 with e2
                    subst e2
                    have hl2 : bb < w.heap.size := hl2
                    have := (HPT.out bb hp).1
                    have := P1.out
                    omega) hx (by omega) (by have := HCF.out; have := TL.out.2; have := tot_le o q; omega))
                  have SM := Lib.hid (addA_small 65536 ct o[q])
                  have TS := Lib.hid (tot_snoc o q lf)
                  clear hby
                  go_wp2_with (go_at_call 15; (with_reducible refine AD.out.mono ?_); rintro e w4 ⟨P4, vB4, vE4, vM4, rfl, hs, hsub, hk⟩; have T4 := Lib.hid hs; have SU4 := Lib.hid hsub; have K4 := Lib.hid hk; clear hs hsub hk)
                  go_roundw
                  case rel => exact ⟨q + 1, _, fun x => P4 x ∧ x < w4.heap.size, vB4, vE4, vM4, by omega, by go_num, stk_cut T4.out, by have := SM.out.1; omega, by have := SM.out.2; have := HCF.out; have := TS.out; omega, fun x hx => ⟨by
                    rcases SU4.out x hx.1 with h | h
                    · exact (HPT.out x h).1
                    · have := lies_lt HS.out.cell
                      omega, hx.2⟩, stk_keeps HS.out K4.out (fun x hx hp => by have := (HPT.out x hp).1; have hx : x = gs := hx; omega), keeps_up K4.out HB.out (fun x hx => by have := (HPT.out x hx).1; have := P1.out; omega)⟩
                  case measure => first | (simp [intOf]; done) | (simp [intOf]; omega)
                · obtain rfl : q = j := by omega
                  have lq : ¬ ((q : Int) < (q : Int)) := by omega
                  have LT := Lib.hid (len_any wr HT.out)
                  go_upto_region 22 with (go_at_call 17; (with_reducible refine LT.out.mono ?_); rintro e w4 ⟨rfl, rfl⟩)
                  have ZT : Hid (gs + 1 < wr.heap.size) := Lib.hid (lies_lt HT.out.cell)
                  have LTX := Lib.hid (fun (W : World) (h : Stk W Pt (gs + 1) 65536 ct vB vE vM) => len_any W h)
                  generalize ct.length = ctl at *
                  generalize wr = w5 at *
                  go_wp2
                  go_loopw [15, 16, 17, 18, 19, 20, 21] (fun v15 _ _ _ _ _ _ wx => ∃ (p : Nat) (cs : List Bt) (Ps : Nat → Prop) (uB uE uM : Value), p ≤ i ∧ v15 = .int .i64 (p : Int) ∧ Stk wx Ps gs 65536 cs uB uE uM ∧ cs.length ≤ p ∧ cs.flatten.length ≤ tot (l.take p) ∧ (∀ x, Ps x → w.heap.size ≤ x ∧ ¬ Pt x ∧ x < wx.heap.size) ∧ Stk wx Pt (gs + 1) 65536 ct vB vE vM ∧ Below w.heap.size w wx ∧ w5.heap.size ≤ wx.heap.size) (fun v15 _ _ _ _ _ _ _ => i - (intOf v15).toNat)
                  case atStart => exact ⟨0, [], fun x => x = gs, _, _, _, Nat.zero_le _, rfl, HS.out, Nat.le_refl _, by simp, fun x hx => ⟨by have := P1.out; omega, fun hp => by have := (HPT.out x hp).1; omega, by have := ZT.out; omega⟩, HT.out, HB.out, Nat.le_refl _⟩
                  case round =>
                    obtain ⟨p, cs, Ps, uB, uE, uM, hp, rfl, hS, hcl, hcf, hps, hT, hb, hz⟩ := hrel
                    have HCF := Lib.hid hcf
                    have HPS := Lib.hid hps
                    have HS := Lib.hid hS
                    have HT := Lib.hid hT
                    have HB := Lib.hid hb
                    have HZ := Lib.hid hz
                    clear hcf hps hS hT hb hz
                    by_cases hlt : p < i
                    · have lp : (p : Int) < (i : Int) := by omega
                      have lf : p < l.length := by have := NN.out; omega
                      obtain ⟨b, o', DA, dc, eA, hbl, d0, hby⟩ := HL.out p lf
                      subst eA
                      have d1 := (HB.out.cell (p := ⟨b, o' + p, none⟩) hbl).trans d0
                      have hx := H3.out l[p] (List.getElem_mem lf)
                      have TS := Lib.hid (tot_snoc l p lf)
                      have T60 := Lib.hid (show tot (l.take p) + (1 + l[p].length) ≤ 60000 by have := TS.out; have := tot_le l (p + 1); have := TL.out.1; omega)
                      have HBY := Lib.hid hby
                      generalize hxx : l[p] = x at *
                      clear hxx
                      have OUT : Hid (∀ Q : Nat → Prop, (∀ y, Q y → w.heap.size ≤ y) → 0 < x.length → ∀ a, DA = some a → ¬ Q a.block) := Lib.hid (fun Q hQ h0 a e hp => by
                        obtain ⟨bb, oo, e2, hl2, _⟩ := hby 0 h0
                        rw [e] at e2
                        injection e2 with e2
                        subst e2
                        have hl2 : bb < w.heap.size := hl2
                        have := hQ bb hp
                        omega)
                      clear hby
                      have AD := Lib.hid (add_any DA dc x wr HS.out (bytesAt_below HBY.out HB.out) (OUT.out Ps (fun y hy => (HPS.out y hy).1)) hx (by omega) (by have := HCF.out; have := T60.out; omega))
                      by_cases h8 : 8192 < x.length
                      · rw [addA_long _ _ _ h8] at AD
                        have l8 : (8192 : Int) < (x.length : Int) := by omega
                        generalize x.length = xl at *
                        go_upto_region 26 with (go_at_call 15; (with_reducible refine AD.out.mono ?_); rintro e w6 ⟨P6, vB6, vE6, vM6, rfl, hs, hsub, hk⟩; have S6 := Lib.hid hs; have SU6 := Lib.hid hsub; have K6 := Lib.hid hk; clear hs hsub hk)
                        have HB6 := Lib.hid (keeps_up K6.out HB.out (fun y hy => (HPS.out y hy).1))
                        have d2 := (HB6.out.cell (p := ⟨b, o' + p, none⟩) hbl).trans d0
                        clear AD d1
                        go_wp2_with (go_at_call 11; (with_reducible refine (num_any _ _).mono ?_); rintro e w1' ⟨rfl, rfl⟩)
                        go_roundw
                        case rel => exact ⟨p + 1, cs, fun y => P6 y ∧ y < w6.heap.size, vB6, vE6, vM6, by omega, by go_num, stk_cut S6.out, by omega, by have := HCF.out; have := TS.out; omega, fun y hy => by
                          rcases SU6.out y hy.1 with h | h
                          · exact ⟨(HPS.out y h).1, (HPS.out y h).2.1, hy.2⟩
                          · exact ⟨by have := HB.out.size; omega, fun hp => by have := (HPT.out y hp).2; have := HZ.out; omega, hy.2⟩, stk_keeps HT.out K6.out (fun y hy hp => (HPS.out y hp).2.1 hy), HB6.out, Nat.le_trans HZ.out K6.out.size⟩
                        case measure => first | (simp [intOf]; done) | (simp [intOf]; omega)
                      · obtain ⟨at_, cs', e1, e2, e3, hat, e4⟩ := addA_fits 65536 cs x h8 (by have := HCF.out; have := T60.out; omega)
                        have SM := Lib.hid (addA_small 65536 cs x)
                        rw [e1] at AD SM
                        have l8 : ¬ ((8192 : Int) < (x.length : Int)) := by omega
                        have AD2 := fun (W : World) (P' : Nat → Prop) (vB' vE' vM' : Value) (h : Stk W P' gs 65536 cs' vB' vE' vM') (hb : Below w.heap.size w W) (hP : ∀ y, P' y → w.heap.size ≤ y) => Lib.hid (add_any DA dc x W h (bytesAt_below HBY.out hb) (OUT.out P' hP) hx (by have := SM.out.1; have h9 : cs'.length ≤ cs.length + 1 := this; omega) (by have := SM.out.2; have h9 : cs'.flatten.length ≤ cs.flatten.length + x.length := this; have := HCF.out; have := T60.out; omega))
                        rw [e2] at AD2
                        have GT := fun (W : World) (P' : Nat → Prop) (vB' vE' vM' : Value) (h : Stk W P' gs 65536 cs' vB' vE' vM') => Lib.hid (get_any at_ W h hat (by have := SM.out.1; have h9 : cs'.length ≤ cs.length + 1 := this; omega) (by have := SM.out.2; have h9 : cs'.flatten.length ≤ cs.flatten.length + x.length := this; have := HCF.out; have := T60.out; omega))
                        rw [e4] at GT
                        have FD := fun (W : World) (P' : Nat → Prop) (vB' vE' vM' : Value) (h : Stk W P' gs 65536 cs' vB' vE' vM') (hb : Below w.heap.size w W) => Lib.hid (find_q DA dc x W h (bytesAt_below HBY.out hb) (by omega))
                        rw [e3] at FD
                        have LN := fun (W : World) (P' : Nat → Prop) (vB' vE' vM' : Value) (h : Stk W P' gs 65536 cs' vB' vE' vM') => Lib.hid (len_any W h)
                        have CV := fun (W : World) (hb : Below w.heap.size w W) => run_text DA x dc W (bytesAt_below HBY.out hb)
                        have CL' : Hid (cs'.length ≤ cs.length + 1 ∧ cs'.flatten.length ≤ cs.flatten.length + x.length) := Lib.hid ⟨SM.out.1, SM.out.2⟩
                        have lat : ¬ ((cs'.length : Int) ≤ (at_ : Int)) := by omega
                        have XL : ∀ (W : World) (v : Value) (B : Nat), OwnB W B v x → ∃ Av Cv, v = .slice Av x.length Cv ∧ BytesAt W Av x := fun W v B h => by
                          obtain ⟨Av, Cv, rfl⟩ := own_slice h
                          exact ⟨Av, Cv, rfl, (own_bytes h).2.1⟩
                        have CV2 := fun (W : World) (Av : Option Addr) (Cv : Nat) (h : BytesAt W Av x) => run_text Av x Cv W h
                        obtain ⟨xl, hxl⟩ : ∃ xl, xl = x.length := ⟨_, rfl⟩
                        have XE := Lib.hid hxl
                        rw [← hxl] at AD AD2 FD CV CV2 XL d0 d1 l8
                        clear hxl SM e1 e2 e3 e4 hat h8
                        have nst : other x x = false := decide_eq_false (by simp)
                        go_upto_region 26 with (go_at_call 15; (with_reducible refine AD.out.mono ?_); rintro e w6 ⟨P6, vB6, vE6, vM6, rfl, hs, hsub, hk⟩; have S6 := Lib.hid hs; have SU6 := Lib.hid hsub; have K6 := Lib.hid hk; clear hs hsub hk)
                        have HB6 := Lib.hid (keeps_up K6.out HB.out (fun y hy => (HPS.out y hy).1))
                        have d2 := (HB6.out.cell (p := ⟨b, o' + p, none⟩) hbl).trans d0
                        have HP6 := Lib.hid (show ∀ y, P6 y ∧ y < w6.heap.size → w.heap.size ≤ y ∧ ¬ Pt y ∧ y < w6.heap.size from fun y hy => by
                          rcases SU6.out y hy.1 with h | h
                          · exact ⟨(HPS.out y h).1, (HPS.out y h).2.1, hy.2⟩
                          · exact ⟨by have := HB.out.size; omega, fun hp => by have := (HPT.out y hp).2; have := HZ.out; omega, hy.2⟩)
                        have HT6 := Lib.hid (stk_keeps HT.out K6.out (fun y hy hp => (HPS.out y hp).2.1 hy))
                        have HZ6 := Lib.hid (Nat.le_trans HZ.out K6.out.size)
                        have SC6 := Lib.hid (stk_cut S6.out)
                        have AD6 := AD2 w6 _ _ _ _ SC6.out HB6.out (fun y hy => (HP6.out y hy).1)
                        clear AD d1 S6 SU6 K6 HT HB HPS HZ HS
                        go_upto_region 30 with (go_at_call 15; (with_reducible refine AD6.out.mono ?_); rintro e w7 ⟨P7, vB7, vE7, vM7, rfl, hs, hsub, hk⟩; have S7 := Lib.hid hs; have SU7 := Lib.hid hsub; have K7 := Lib.hid hk; clear hs hsub hk)
                        have HB7 := Lib.hid (keeps_up K7.out HB6.out (fun y hy => (HP6.out y hy).1))
                        have HP7 := Lib.hid (show ∀ y, P7 y ∧ y < w7.heap.size → w.heap.size ≤ y ∧ ¬ Pt y ∧ y < w7.heap.size from fun y hy => by
                          rcases SU7.out y hy.1 with h | h
                          · exact ⟨(HP6.out y h).1, (HP6.out y h).2.1, hy.2⟩
                          · exact ⟨by have := HB6.out.size; omega, fun hp => by have := (HPT.out y hp).2; have := HZ6.out; omega, hy.2⟩)
                        have HT7 := Lib.hid (stk_keeps HT6.out K7.out (fun y hy hp => (HP6.out y hp).2.1 hy))
                        have HZ7 := Lib.hid (Nat.le_trans HZ6.out K7.out.size)
                        have SC7 := Lib.hid (stk_cut S7.out)
                        have GT7 := GT w7 _ _ _ _ SC7.out
                        clear AD2 AD6 d2 S7 SU7 K7 HT6 HB6 HP6 HZ6 SC6
                        go_upto_region 31 with (go_at_call 12; (with_reducible refine GT7.out.mono ?_); rintro e w8 ⟨⟨v8, rfl, ho8⟩, hb8⟩; obtain ⟨Av, Cv, rfl, hby8⟩ := XL _ _ _ ho8; have BY8 := Lib.hid hby8; have B8 := Lib.hid hb8; clear ho8 hb8 hby8)
                        have HB8 := Lib.hid (HB7.out.trans (B8.out.mono HB7.out.size))
                        have d8 := (HB8.out.cell (p := ⟨b, o' + p, none⟩) hbl).trans d0
                        have HT8 := Lib.hid (stk_below HT7.out B8.out)
                        have SC8 := Lib.hid (stk_below SC7.out B8.out)
                        have cv1 := fun q => CV2 (w8.drewN q) Av Cv BY8.out
                        have cv2 := fun q => CV (w8.drewN q) (below_drewN HB8.out q)
                        have FQ := fun q => FD (w8.drewN q) _ _ _ _ (stk_same SC8.out (fun _ _ _ => rfl)) (below_drewN HB8.out q)
                        have LQ := fun q => LN (w8.drewN q) _ _ _ _ (stk_same SC8.out (fun _ _ _ => rfl))
                        clear GT GT7 FD LN CV CV2 XL
                        go_quiet ((first
                          | (go_at_call 11; exact Calls.quiet_of_same ((num_any _ _).mono (fun e w' h => ⟨h.1, h.2.symm⟩)))
                          | (go_at_call 13; exact Calls.quiet_of (FQ _).out)
                          | (go_at_call 17; exact Calls.quiet_of_same ((LQ _).out.mono (fun e w' h => ⟨h.1, h.2.symm⟩)))))
                        have HB9 := Lib.hid (below_drewN HB8.out nq)
                        have HT9 : Hid (Stk (w8.drewN nq) Pt (gs + 1) 65536 ct vB vE vM) := Lib.hid (stk_same HT8.out (fun _ _ _ => rfl))
                        have SC9 : Hid (Stk (w8.drewN nq) (fun i => P7 i ∧ i < w7.heap.size) gs 65536 cs' vB7 vE7 vM7) := Lib.hid (stk_same SC8.out (fun _ _ _ => rfl))
                        have HZ9 : Hid (w5.heap.size ≤ (w8.drewN nq).heap.size) := Lib.hid (Nat.le_trans HZ7.out B8.out.size)
                        have Z9 : Hid (w7.heap.size ≤ (w8.drewN nq).heap.size) := Lib.hid B8.out.size
                        generalize w8.drewN nq = w9 at *
                        clear cv1 cv2 FQ LQ d8 HT8 SC8 HB8
                        go_wp2
                        go_roundw
                        case rel => exact ⟨p + 1, cs', fun y => P7 y ∧ y < w7.heap.size, vB7, vE7, vM7, by omega, by go_num, SC9.out, by have := CL'.out.1; omega, by have := CL'.out.2; have := HCF.out; have := TS.out; omega, fun y hy => ⟨(HP7.out y hy).1, (HP7.out y hy).2.1, Nat.lt_of_lt_of_le hy.2 Z9.out⟩, HT9.out, HB9.out, HZ9.out⟩
                        case measure => first | (simp [intOf]; done) | (simp [intOf]; omega)
                    · obtain rfl : p = i := by omega
                      have lp : ¬ ((p : Int) < (p : Int)) := by omega
                      have LT9 := Lib.hid (LTX.out wr HT.out)
                      have AL := Lib.hid (all_any wr HS.out (by omega) (by have := HCF.out; have := TL.out.1; have := tot_le l p; omega))
                      have LS := fun (W : World) (hb : Below wr.heap.size wr W) => Lib.hid (len_any W (stk_below HS.out hb))
                      generalize cs.length = cl at *
                      go_wp2_with (first
                        | (go_at_call 17; (with_reducible refine LT9.out.mono ?_); rintro e w6 ⟨rfl, rfl⟩)
                        | (go_at_call 16; (with_reducible refine AL.out.mono ?_); rintro e w7 ⟨⟨GA, A2, rfl, _⟩, hb⟩; have B7 := Lib.hid hb; have L7 := LS w7 hb; clear hb)
                        | (go_at_call 17; (with_reducible refine L7.out.mono ?_); rintro e w8 ⟨rfl, rfl⟩))
                      go_ret
                      exact ⟨rfl, HB.out.trans (B7.out.mono HB.out.size)⟩
end Go.Proofs.Ytlnmaejpchncoaa
