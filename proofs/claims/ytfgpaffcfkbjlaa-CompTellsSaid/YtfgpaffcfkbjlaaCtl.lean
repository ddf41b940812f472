/-
What is proved here: law CompTells, by a contract.
-/
import Derived.Test.YtfgpaffcfkbjlaaUni
import Derived.Test.YtfgpaffcfkbjlaaRfc
import Derived.Test.YtfgpaffcfkbjlaaSty
import Derived.Test.YtfgpaffcfkbjlaaRfd
import Derived.Test.YtfgpaffcfkbjlaaMuc
set_option linter.unusedSimpArgs false
set_option linter.unusedVariables false
namespace Go.Proofs.Ytfgpaffcfkbjlaa
open Go.Cmp Go.RowKit
theorem much_sm {N : List (List Int)} (h : muchP N = false) : N.length ≤ 80 ∧ ∀ l ∈ N, l.length ≤ 3000 := by
  unfold muchP at h
  rw [Bool.or_eq_false_iff] at h
  have h1 := of_decide_eq_false h.1
  have h2 := of_decide_eq_false h.2
  refine ⟨by omega, fun l hl => ?_⟩
  obtain ⟨i, hi, rfl⟩ := List.getElem_of_mem hl
  have h3 := cst_succ hi
  have h4 := cst_mono N (i := i + 1) (j := N.length) (by omega) (Nat.le_refl _)
  omega
theorem grps_below {w w' : World} {B : Nat} {v : Value} {es : List Ent} (h : Grps w B v es) (hb : Below w.heap.size w w') : Grps w' B v es :=
  ⟨own_but h.row (But.of_below (P := fun _ => False) hb) (fun _ _ => id), fun e he => own_but (h.own e he) (But.of_below (P := fun _ => False) hb) (fun _ _ => id), h.sep⟩
/-- lists stay while others, made before, are written over -/
theorem grps_wiped {w w8 : World} {B B1 : Nat} {v v1 : Value} {es es1 : List Ent} (h : Grps w B v es) (h1 : ∀ e ∈ es1, ∀ k, e.rv.ownBlock = some k → k < B) (hb : But (fun k => ∃ e ∈ es1, e.rv.ownBlock = some k) w w8) : Grps w8 B v es :=
  ⟨own_but h.row hb (fun k hk ⟨e, he, e2⟩ => by have := (own_heap h.row k hk).1; have := h1 e he k e2; omega), fun e he => own_but (h.own e he) hb (fun k hk ⟨e', he', e2⟩ => by have := (own_heap (h.own e he) k hk).1; have := h1 e' he' k e2; omega), h.sep⟩
set_option maxRecDepth 100000 in
set_option maxHeartbeats 16000000 in
theorem ctells_main (LA MA : Option Addr) (lc mc : Nat) (N M : List (List Int)) (hN : muchP N = false) (hM : muchP M = false) (w : World) (hL : LsAt w LA N) (hL2 : LsAt w MA M) : Calls Try.prog 3 #[.slice LA N.length lc, .slice MA M.length mc] w fun e w' => e = .returned (.bool true) ∧ Below w.heap.size w w' := by
  obtain ⟨n1, n2⟩ := much_sm hN
  obtain ⟨m1, m2⟩ := much_sm hM
  have N2 := Lib.hid n2
  have M2 := Lib.hid m2
  have HL := Lib.hid hL
  have HL2 := Lib.hid hL2
  have KM1 := Lib.hid (fun (W : World) (hb : Below w.heap.size w W) => much_any LA lc N W (lsAt_below hL hb) (by omega) (fun l hl => by have := n2 l hl; omega))
  have KM2 := Lib.hid (fun (W : World) (hb : Below w.heap.size w W) => much_any MA mc M W (lsAt_below hL2 hb) (by omega) (fun l hl => by have := m2 l hl; omega))
  rw [hN] at KM1
  rw [hM] at KM2
  have KL := Lib.hid (fun (W : World) (hb : Below w.heap.size w W) => lent_any LA lc N W (lsAt_below hL hb) (by omega) (fun l hl => by have := n2 l hl; omega))
  have KC := Lib.hid (fun (A : Option Addr) (C : Nat) (W : World) (h : LsAt W A N) => comps_uni A C N W h (by omega) (fun l hl => by have := n2 l hl; omega))
  have KR := Lib.hid (fun (A : Option Addr) (C : Nat) (W : World) (h : LsAt W A N) => round_uni A C N W h (by omega) (fun l hl => by have := n2 l hl; omega))
  have KS := Lib.hid (fun (A : Option Addr) (B C : Nat) (W : World) (hF : LentF W B A C N) (hb : Below w.heap.size w W) => stay_any A LA B C lc N W hF (lsAt_below hL hb) (by omega) (fun l hl => by have := n2 l hl; omega))
  have KC2 := Lib.hid (fun (W : World) (hb : Below w.heap.size w W) => comps_uni MA mc M W (lsAt_below hL2 hb) (by omega) (fun l hl => by have := m2 l hl; omega))
  have KR2 := Lib.hid (fun (W : World) (hb : Below w.heap.size w W) => round_uni MA mc M W (lsAt_below hL2 hb) (by omega) (fun l hl => by have := m2 l hl; omega))
  have KF := Lib.hid (fun (W : World) (hb : Below w.heap.size w W) => refused_any LA lc N W (lsAt_below hL hb) (by omega) (fun l hl => by have := n2 l hl; omega))
  obtain ⟨n, hn⟩ : ∃ n, n = N.length := ⟨_, rfl⟩
  obtain ⟨m, hm⟩ : ∃ m, m = M.length := ⟨_, rfl⟩
  have HN := Lib.hid hn
  rw [← hn] at n1 KM1 KL KC KR KS KF ⊢
  rw [← hm] at m1 KM2 KC2 KR2 ⊢
  clear hL hL2 n2 m2 hN hM hn hm
  go_enter Try.func3, Try.ntmps3
  go_upto_region 5 with (first
    | (go_at_call 7; (with_reducible refine (alive_any _).mono ?_); rintro e w1 ⟨rfl, hb⟩; have B1 := Lib.hid hb; clear hb)
    | (go_at_call 8; (with_reducible refine (KM1.out _ B1.out).mono ?_); rintro e wm ⟨rfl, h⟩; have h := h.symm; subst h)
    | (go_at_call 8; (with_reducible refine (KM2.out _ B1.out).mono ?_); rintro e wm ⟨rfl, h⟩; have h := h.symm; subst h))
  go_upto_region 6 with (go_at_call 9; (with_reducible refine (KL.out _ B1.out).mono ?_); rintro e w2 ⟨⟨A7, C7, rfl, hF⟩, hb⟩; have HF := Lib.hid hF; have B2 := Lib.hid (B1.out.trans (hb.mono B1.out.size)); clear hF hb)
  go_upto_region 7 with (go_at_call 10; (with_reducible refine (KC.out A7 C7 w2 (lentF_ls HF.out)).mono ?_); rintro e w3 ⟨A8, C8, es8, hu⟩; obtain rfl := hu.eq; have U8 := Lib.hid hu; have HF3 := Lib.hid (lentF_below HF.out hu.low); have B3 := Lib.hid (B2.out.trans (hu.low.mono B2.out.size)); clear hu)
  go_upto_region 8 with (go_at_call 11; (with_reducible refine (KR.out A7 C7 w3 (lentF_ls HF3.out)).mono ?_); rintro e w4 ⟨A10, C10, es10, hu⟩; obtain rfl := hu.eq; have U10 := Lib.hid hu; have HF4 := Lib.hid (lentF_below HF3.out hu.low); have B4 := Lib.hid (B3.out.trans (hu.low.mono B3.out.size)); clear hu)
  go_upto_region 9 with (go_at_call 12; (with_reducible refine (KS.out A7 _ C7 w4 HF4.out B4.out).mono ?_); rintro e wq ⟨rfl, q, h⟩; subst h)
  have B5 := Lib.hid (below_drewN B4.out q)
  have S5 := Lib.hid (below_drewN (Below.refl w4.heap.size w4) q)
  generalize w4.drewN q = w5 at *
  go_upto_region 10 with (go_at_call 10; (with_reducible refine (KC2.out w5 B5.out).mono ?_); rintro e w6 ⟨A13, C13, es13, hu⟩; obtain rfl := hu.eq; have U13 := Lib.hid hu; have B6 := Lib.hid (B5.out.trans (hu.low.mono B5.out.size)); clear hu)
  go_upto_region 11 with (go_at_call 11; (with_reducible refine (KR2.out w6 B6.out).mono ?_); rintro e w7 ⟨A15, C15, es15, hu⟩; obtain rfl := hu.eq; have U15 := Lib.hid hu; have B7 := Lib.hid (B6.out.trans (hu.low.mono B6.out.size)); clear hu)
  have KW1 := Lib.hid (wipe_any w5.heap.size A13 C13 es13 w7 (grps_below U13.out.grp U15.out.low) (by have := U13.out.low.size; have := U15.out.low.size; omega) (by have := U13.out.len.1; omega) (fun e he => by have := U13.out.len.2 e he; omega))
  go_upto_region 12 with (go_at_call 13; (with_reducible refine KW1.out.mono ?_); rintro e w8 ⟨rfl, hb, hbt⟩; have L8 := Lib.hid hb; have G8 := Lib.hid (grps_wiped (v1 := .bool true) (B1 := 0) U15.out.grp (fun e he k hk => (own_heap (U13.out.grp.own e he) k hk).2.1) hbt); have Z8 := Lib.hid hb.size; clear hb hbt)
  have KW2 := Lib.hid (wipe_any w6.heap.size A15 C15 es15 w8 G8.out (by have := U15.out.low.size; have := Z8.out; omega) (by have := U15.out.len.1; omega) (fun e he => by have := U15.out.len.2 e he; omega))
  go_upto_region 13 with (go_at_call 13; (with_reducible refine KW2.out.mono ?_); rintro e w9 ⟨rfl, hb, -⟩; have L9 := Lib.hid hb; clear hb)
  have B9 := Lib.hid ((B7.out.trans (L8.out.mono B5.out.size)).trans (L9.out.mono B6.out.size))
  have C4 := Lib.hid (((((S5.out.trans (U13.out.low.mono S5.out.size)).trans (U15.out.low.mono (by have := S5.out.size; have := U13.out.low.size; omega))).trans (L8.out.mono S5.out.size)).trans (L9.out.mono (by have := S5.out.size; have := U13.out.low.size; omega))))
  have C3 := Lib.hid (U10.out.low.trans (C4.out.mono U10.out.low.size))
  have G10 := Lib.hid (lsAt_below (grps_ls U10.out.grp) C4.out)
  have G08 := Lib.hid (lsAt_below (grps_ls U8.out.grp) C3.out)
  go_upto_region 14 with (go_at_call 14; (with_reducible refine (KF.out w9 B9.out).mono ?_); rintro e wz ⟨rfl, h⟩; have h := h.symm; subst h)
  clear KM1 KM2 KL KC KR KS KC2 KR2 KF KW1 KW2 HF HF3 HF4 G8
  by_cases hc : chk N = 0
  · obtain ⟨G, hG0, hG, g1, g2⟩ := zg_of hc
    obtain ⟨S, T, out, hC, e8⟩ := U8.out.good G hG0 hG g1 g2
    obtain ⟨S2, hS2, e10⟩ := U10.out.good G hG0 hG g1 g2
    have KP := Lib.hid (refcomps_any LA lc G S T out hG g1 g2 hC w9 (by rw [← hG0]; exact lsAt_below HL.out B9.out))
    have KQ := Lib.hid (fun (W : World) (hb : Below w9.heap.size w9 W) => refround_any LA lc G S2 hG g1 g2 hS2 W (by rw [← hG0]; exact lsAt_below HL.out (B9.out.trans (hb.mono B9.out.size))))
    have hlen : G.length = n := by rw [HN.out, hG0, zg_len]
    rw [hlen] at KP KQ
    have SM8 := Lib.hid (fun (A : Option Addr) (C : Nat) (W : World) (hb : Below w9.heap.size w9 W) (h : LsAt W A (zg (es8.map Ent.r))) => same_any A8 A C8 C (zg (es8.map Ent.r)) W (lsAt_below G08.out hb) h (by have := U8.out.len.1; simp; omega) (fun l hl => by
      obtain ⟨l1, hl1, rfl⟩ := List.mem_map.1 hl
      obtain ⟨e1, he1, rfl⟩ := List.mem_map.1 hl1
      have := U8.out.len.2 e1 he1
      rw [zs_len]; omega))
    have SM10 := Lib.hid (fun (A : Option Addr) (C : Nat) (W : World) (hb : Below w9.heap.size w9 W) (h : LsAt W A (zg (es10.map Ent.r))) => same_any A10 A C10 C (zg (es10.map Ent.r)) W (lsAt_below G10.out hb) h (by have := U10.out.len.1; simp; omega) (fun l hl => by
      obtain ⟨l1, hl1, rfl⟩ := List.mem_map.1 hl
      obtain ⟨e1, he1, rfl⟩ := List.mem_map.1 hl1
      have := U10.out.len.2 e1 he1
      rw [zs_len]; omega))
    rw [zg_len, List.length_map] at SM8 SM10
    have E8 := Lib.hid (show es8.map Ent.r = toldL S out from e8)
    have E10 := Lib.hid e10
    rw [hc]
    have B0 := Lib.hid (Below.refl w9.heap.size w9)
    clear hc hG hG0 g1 g2 hC hS2 e8 e10 hlen U8 U10 U13 U15
    obtain ⟨k8, hk8⟩ : ∃ k8, k8 = es8.length := ⟨_, rfl⟩
    obtain ⟨k10, hk10⟩ : ∃ k10, k10 = es10.length := ⟨_, rfl⟩
    rw [← hk8] at SM8
    rw [← hk10] at SM10
    rw [← hk8, ← hk10]
    have HK8 := Lib.hid hk8
    have HK10 := Lib.hid hk10
    clear hk8 hk10
    go_upto_region 18 with (go_at_call 15; (with_reducible refine (num_any _ _).mono ?_); rintro e wz ⟨rfl, h⟩; have h := h.symm; subst h)
    go_wp2_with (first
      | (go_at_call 17; (with_reducible refine KP.out.mono ?_); rintro e w10 ⟨v, es1, rfl, e9, hm⟩; obtain ⟨A1, C1, hv⟩ := own_slice hm.grp.row; subst hv; have hl : es1.length = k8 := (by have := congrArg List.length e9; have h2 := congrArg List.length E8.out; rw [List.length_map] at this h2; rw [HK8.out]; omega); have T8 := Lib.hid (SM8.out A1 C1 w10 hm.low (by have := grps_ls hm.grp; rw [e9, ← E8.out] at this; exact this)); have D1 := Lib.hid hm.low; rw [hl]; clear hm e9 hl)
      | (go_at_call 16; (with_reducible refine T8.out.mono ?_); rintro e wz ⟨rfl, q2, h⟩; subst h; have D2 := Lib.hid (below_drewN D1.out q2))
      | (go_at_call 18; (with_reducible refine (KQ.out (w10.drewN q2) D2.out).mono ?_); rintro e w11 ⟨v, es2, rfl, e9, hm⟩; obtain ⟨A2, C2, hv⟩ := own_slice hm.grp.row; subst hv; have hl : es2.length = k10 := (by have := congrArg List.length e9; have h2 := congrArg List.length E10.out; rw [List.length_map] at this h2; rw [HK10.out]; omega); have D3 := Lib.hid (D2.out.trans (hm.low.mono D2.out.size)); have T10 := Lib.hid (SM10.out A2 C2 w11 D3.out (by have := grps_ls hm.grp; rw [e9, ← E10.out] at this; exact this)); rw [hl]; clear hm e9 hl)
      | (go_at_call 16; (with_reducible refine T10.out.mono ?_); rintro e wy ⟨rfl, q3, h⟩; subst h))
    go_ret
    exact ⟨rfl, B9.out.trans ((below_drewN D3.out q3).mono B9.out.size)⟩
  · have h8 := U8.out.bad hc
    have h10 := U10.out.bad hc
    subst h8
    subst h10
    have hz : (chk N != 0) = true := by simp [hc]
    generalize chk N = z at *
    go_wp2_with (go_at_call 15; (with_reducible refine (num_any _ _).mono ?_); rintro e wz ⟨rfl, h⟩; have h := h.symm; subst h)
    go_ret
    exact ⟨rfl, B9.out⟩
set_option maxRecDepth 100000 in
theorem ctells_any (LA MA : Option Addr) (lc mc : Nat) (N M : List (List Int)) (w : World) (hL : LsAt w LA N) (hL2 : LsAt w MA M) (hn : N.length ≤ 1000000000000000) (hs : ∀ l ∈ N, l.length ≤ 1000000000000000) (hn2 : M.length ≤ 1000000000000000) (hs2 : ∀ l ∈ M, l.length ≤ 1000000000000000) :
    Calls Try.prog 3 #[.slice LA N.length lc, .slice MA M.length mc] w fun e w' => e = .returned (.bool true) ∧ Below w.heap.size w w' := by
  have KM1 := Lib.hid (fun (W : World) (hb : Below w.heap.size w W) => much_any LA lc N W (lsAt_below hL hb) hn hs)
  have KM2 := Lib.hid (fun (W : World) (hb : Below w.heap.size w W) => much_any MA mc M W (lsAt_below hL2 hb) hn2 hs2)
  cases h1 : muchP N with
  | true =>
    rw [h1] at KM1
    generalize N.length = n at *
    generalize M.length = m at *
    clear hL hL2 hs hs2 h1 KM2
    go_enter Try.func3, Try.ntmps3
    go_wp2_with (first
      | (go_at_call 7; (with_reducible refine (alive_any _).mono ?_); rintro e w1 ⟨rfl, hb⟩; have B1 := Lib.hid hb; clear hb)
      | (go_at_call 8; (with_reducible refine (KM1.out _ B1.out).mono ?_); rintro e wm ⟨rfl, h⟩; have h := h.symm; subst h))
    go_ret
    exact ⟨rfl, B1.out⟩
  | false =>
    cases h2 : muchP M with
    | true =>
      rw [h1] at KM1
      rw [h2] at KM2
      generalize N.length = n at *
      generalize M.length = m at *
      clear hL hL2 hs hs2 h1 h2
      go_enter Try.func3, Try.ntmps3
      go_wp2_with (first
        | (go_at_call 7; (with_reducible refine (alive_any _).mono ?_); rintro e w1 ⟨rfl, hb⟩; have B1 := Lib.hid hb; clear hb)
        | (go_at_call 8; (with_reducible refine (KM1.out _ B1.out).mono ?_); rintro e wm ⟨rfl, h⟩; have h := h.symm; subst h)
        | (go_at_call 8; (with_reducible refine (KM2.out _ B1.out).mono ?_); rintro e wm ⟨rfl, h⟩; have h := h.symm; subst h))
      go_ret
      exact ⟨rfl, B1.out⟩
    | false => exact ctells_main LA MA lc mc N M h1 h2 w hL hL2
end Go.Proofs.Ytfgpaffcfkbjlaa
