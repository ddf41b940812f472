/-
What is proved here: law CompMore, by a contract.
-/
import Derived.Test.YtfgpaffcfkbjlaaPwh
import Derived.Test.YtfgpaffcfkbjlaaPmo
import Derived.Test.YtfgpaffcfkbjlaaMuc
import Derived.Test.YtfgpaffcfkbjlaaSam
import Derived.Test.YtfgpaffcfkbjlaaLiv
import Derived.Test.YtfgpaffcfkbjlaaRmm
import Derived.Test.YtfgpaffcfkbjlaaZro
import Derived.BigQuiet
import Derived.Deep.QuietTactic
set_option linter.unusedSimpArgs false
set_option linter.unusedVariables false
namespace Go.Proofs.Ytfgpaffcfkbjlaa
open Go.Cmp Go.RowKit
/-- lists of one's own, made since a world -/
structure MoM (W0 : World) (v : Value) (es : List Ent) (W : World) : Prop where
  grp : Grps W W0.heap.size v es
  low : Below W0.heap.size W0 W
theorem moM_0 (W0 : World) : MoM W0 (.slice none 0 0) [] W0 := ⟨⟨World.ownsRow_nil _ _ _ _, (fun e he => by cases he), .nil⟩, Below.refl _ _⟩
theorem mo_put {W0 wr W1 w3 : World} {v : Value} {es : List Ent} {e : Ent} (h : MoM W0 v es wr) (h1 : But (fun _ => False) wr W1) (hO : OwnI W1 wr.heap.size e.rv (zs e.r)) {o : Obj} {G C : Nat}
    (ho : w3.ownsRow W0.heap.size 33 1 (.slice (some ⟨G, 0, none⟩) (es.length + 1) C) (es.length + 1) (es.map Ent.rv ++ [e.rv])) (hg : (W1.alloc o).grownBy w3 v.ownBlock) : MoM W0 (.slice (some ⟨G, 0, none⟩) (es.length + 1) C) (es ++ [e]) w3 := by
  have hb : But (fun k => some k = v.ownBlock) W1 w3 := ((But.refl _ W1).alloc o).trans (But.grown hg)
  have hs := h.low.size
  have hv : ∀ k, some k = v.ownBlock → W0.heap.size ≤ k ∧ k < wr.heap.size := fun k hk => ⟨(own_heap h.grp.row k hk.symm).1, (own_heap h.grp.row k hk.symm).2.1⟩
  refine ⟨⟨by rw [List.length_append, List.map_append]; exact ho, fun e' he => ?_, ?_⟩, (h.low.trans (h1.below hs (fun k hk => hk.elim))).trans (hb.below (by have := h1.size; omega) (fun k hk => (hv k hk).1))⟩
  · rcases List.mem_append.1 he with he | he
    · have o1 := own_but (h.grp.own e' he) h1 (fun _ _ => id)
      exact own_but o1 hb (fun k hk e2 => by
        obtain ⟨_, _, cs, hl⟩ := own_heap (own_but h.grp.row h1 (fun _ _ => id)) k e2.symm
        exact own_ne o1 hl (by decide) hk)
    · obtain rfl := List.mem_singleton.1 he
      have o1 := own_base (B' := W0.heap.size) hO (fun k hk => by have := (own_heap hO k hk).1; omega)
      exact own_but o1 hb (fun k hk e2 => by
        have := (hv k e2).2
        have := (own_heap hO k hk).1
        omega)
  · refine List.pairwise_append.2 ⟨h.grp.sep, List.pairwise_singleton _ _, fun a ha b hb2 => ?_⟩
    obtain rfl := List.mem_singleton.1 hb2
    intro k hk hk2
    have := (own_heap (h.grp.own a ha) k hk).2.1
    have := (own_heap hO k hk2).1
    omega
/-- what Components tells, as lists -/
theorem cps_told2 {G : Gr} {w w' : World} {e : Ending} (h : CpsE G w e w') : ∃ (A : Option Addr) (C : Nat) (S T : Gr) (out : List Nat), e = .returned (.tuple #[.slice A (toldL S out).length C, .int .i64 0]) ∧ Cmps G S T out ∧ LsAt w' A (zg (toldL S out)) ∧ Below w.heap.size w w' := by
  obtain ⟨A, C, es, T, out, rfl, hC, hG, hB⟩ := h
  have e1 : (out.map fun k => es.getD k dE).map Ent.r = toldL (es.map Ent.r) out := by
    unfold toldL
    rw [List.map_map]
    refine List.map_congr_left fun k hk => ?_
    show (es.getD k dE).r = nx (es.map Ent.r) k
    unfold nx
    rw [List.getD_eq_getElem?_getD, List.getD_eq_getElem?_getD, List.getElem?_map]
    cases es[k]? <;> rfl
  refine ⟨A, C, es.map Ent.r, T, out, by simp [toldL], hC, ?_, hB⟩
  rw [← e1]
  exact grps_ls hG
/-- what Round tells, as lists -/
theorem rnd_told {G : Gr} {w w' : World} {e : Ending} (h : RndE G w e w') : ∃ (A : Option Addr) (C : Nat) (S : Gr), e = .returned (.tuple #[.slice A (S.filter fun r => !stillP G r).length C, .int .i64 0]) ∧ Groups G S ∧ LsAt w' A (zg (S.filter fun r => !stillP G r)) ∧ Below w.heap.size w w' := by
  obtain ⟨A, C, es, rfl, hS, hG, hB⟩ := h
  have e1 : (es.filter fun e => !stillP G e.r).map Ent.r = (es.map Ent.r).filter fun r => !stillP G r := by
    rw [List.filter_map]
    rfl
  refine ⟨A, C, es.map Ent.r, by rw [← e1, List.length_map], hS, ?_, hB⟩
  rw [← e1]
  exact grps_ls hG
theorem told_len {G S T : Gr} {out : List Nat} (h : Cmps G S T out) : (toldL S out).length ≤ G.length ∧ ∀ l ∈ toldL S out, l.length ≤ G.length := by
  have hW := wl_of h
  have h1 : ∀ i (hi : i < (toldL S out).length), (nx (toldL S out) i).length ≤ G.length ∧ 0 < (nx (toldL S out) i).length := fun i hi => by
    have h2 : ((toldL S out).take (i + 1)).map List.length = ((toldL S out).take (i + 1)).map List.length := rfl
    have h3 := sum_take hi
    have h4 : (((toldL S out).take (i + 1)).map List.length).sum ≤ ((toldL S out).map List.length).sum := by
      conv => rhs; rw [← List.take_append_drop (i + 1) (toldL S out), List.map_append, List.sum_append]
      omega
    have := hW.sm
    exact ⟨by omega, List.length_pos_iff.2 (hW.ne i hi)⟩
  refine ⟨?_, fun l hl => ?_⟩
  · rw [← hW.sm]
    have : ∀ M : List (List Nat), (∀ l ∈ M, 0 < l.length) → M.length ≤ (M.map List.length).sum := fun M => by
      induction M with
      | nil => intro _; simp
      | cons a t ih =>
        intro h
        have h1 := ih (fun l hl => h l (List.mem_cons_of_mem _ hl))
        have h2 := h a (by simp)
        simp only [List.length_cons, List.map_cons, List.sum_cons]
        omega
    refine this _ fun l hl => ?_
    obtain ⟨i, hi, rfl⟩ := List.getElem_of_mem hl
    have := (h1 i hi).2
    unfold nx at this
    rwa [List.getD_eq_getElem?_getD, List.getElem?_eq_getElem hi] at this
  · obtain ⟨i, hi, rfl⟩ := List.getElem_of_mem hl
    have := (h1 i hi).1
    unfold nx at this
    rwa [List.getD_eq_getElem?_getD, List.getElem?_eq_getElem hi] at this
theorem heads_len {n : Nat} : ∀ (S : List (List Nat)) (lo : Nat), (S.Pairwise fun a b => ∀ x y, a.head? = some x → b.head? = some y → x < y) → (∀ g ∈ S, ∃ x, g.head? = some x ∧ lo ≤ x ∧ x < n) → S.length + lo ≤ max n lo
  | [], lo, _, _ => by simp; omega
  | g :: t, lo, h, hx => by
    obtain ⟨x, h1, h2, h3⟩ := hx g (by simp)
    have ih := heads_len t (lo + 1) (List.pairwise_cons.1 h).2 (fun g' hg => by
      obtain ⟨y, a, b, c⟩ := hx g' (List.mem_cons_of_mem _ hg)
      have := (List.pairwise_cons.1 h).1 g' hg x y h1 a
      exact ⟨y, a, by omega, c⟩)
    simp only [List.length_cons]
    omega
theorem grp_lens {G S : Gr} (h : Groups G S) : S.length ≤ G.length ∧ ∀ g ∈ S, g.length ≤ G.length := by
  refine ⟨?_, fun g hg => nodup_bound _ _ ((h.up g hg).imp (fun {a b} h => Nat.ne_of_lt h)) (h.lt g hg)⟩
  have := heads_len (n := G.length) S 0 h.ord (fun g hg => by
    obtain ⟨r, hr, _⟩ := h.scc g hg
    cases g with
    | nil => cases hr
    | cons x t => exact ⟨x, rfl, Nat.zero_le _, h.lt _ hg x (by simp)⟩)
  omega
set_option maxRecDepth 100000 in
set_option maxHeartbeats 8000000 in
theorem cmore_main (LA : Option Addr) (lc : Nat) (G : Gr) (hG : Ok G) (hgs : ∀ i, i < G.length → (nx G i).length ≤ 500) (hn : G.length ≤ 80) (h0 : 0 < G.length) (hm : muchP (zg G) = false) (who : Int) (hwho : 0 ≤ who) (w : World) (hL : LsAt w LA (zg G)) : Calls Try.prog 6 #[.slice LA G.length lc, .int .i64 who] w fun e w' => e = .returned (.bool true) ∧ Below w.heap.size w w' := by
  have hsm : ∀ l ∈ G, l.length ≤ 1024 := fun l hl => by
    obtain ⟨i, hi, rfl⟩ := List.getElem_of_mem hl
    have := hgs i hi
    unfold nx at this
    rw [List.getD_eq_getElem?_getD, List.getElem?_eq_getElem hi] at this
    have h2 : G[i].length ≤ 500 := this
    omega
  have HGS := Lib.hid hgs
  have HG := Lib.hid hG
  have HL := Lib.hid hL
  have KM := Lib.hid (fun (W : World) (hb : Below w.heap.size w W) => much_any LA lc (zg G) W (lsAt_below hL hb) (by rw [zg_len]; omega) (fun l hl => by
    obtain ⟨l', hl', rfl⟩ := List.mem_map.1 hl
    rw [zs_len]
    have := hsm l' hl'
    omega))
  rw [hm, zg_len] at KM
  have KC := Lib.hid (fun (W : World) (hb : Below w.heap.size w W) => comps_any LA lc G hG (by omega) hsm W (lsAt_below hL hb))
  obtain ⟨k, hk⟩ : ∃ k : Nat, (k : Int) = Int.tmod who (G.length : Int) := ⟨(Int.tmod who (G.length : Int)).toNat, by
    have := Int.tmod_nonneg (G.length : Int) hwho
    omega⟩
  have hkn : k < G.length := by
    have := Int.tmod_lt_of_pos who (b := (G.length : Int)) (by omega)
    omega
  have TOK := Lib.hid (twins_ok hG hkn)
  have TSM := Lib.hid (twins_sm (k := k) hgs)
  have HKN := Lib.hid hkn
  obtain ⟨n, hnn⟩ : ∃ n, n = G.length := ⟨_, rfl⟩
  have HN := Lib.hid hnn
  rw [← hnn] at hn h0 hkn hk KM KC ⊢
  have n0 : ((n : Int) == 0) = false := by simp; omega
  have w0 : ¬ who < 0 := by omega
  have hrem : who.tmod (n : Int) = (k : Int) := hk.symm
  clear hL hG hgs hsm hnn hm hk
  go_enter Try.func6, Try.ntmps6
  go_upto_region 6 with (first
    | (go_at_call 7; (with_reducible refine (alive_any _).mono ?_); rintro e w1 ⟨rfl, hb⟩; have B1 := Lib.hid hb; clear hb)
    | (go_at_call 8; (with_reducible refine (KM.out _ B1.out).mono ?_); rintro e wm ⟨rfl, h⟩; subst h))
  go_loopw [7] (fun v7 wr => ∃ i : Nat, i ≤ n ∧ v7 = .int .i64 (i : Int) ∧ wr = wm) (fun v7 _ => n - (intOf v7).toNat)
  case atStart => exact ⟨0, Nat.zero_le _, rfl, (by first | rfl | trivial)⟩
  case round =>
    obtain ⟨i, hi, rfl, rfl⟩ := hrel
    by_cases hlt : i < n
    · have li : (i : Int) < (n : Int) := by omega
      have hiG : i < G.length := by rw [← HN.out]; exact hlt
      obtain ⟨b, o, A', c', eA, hbl, cc, _, hI⟩ := zrow_at (lsAt_below HL.out B1.out) hiG
      have h5 := HGS.out i hiG
      generalize (nx G i).length = m at *
      have l5 : ¬ (500 : Int) < (m : Int) := by omega
      subst eA
      clear hI hbl
      go_wp2
      go_roundw
      case rel => exact ⟨i + 1, by omega, by go_num, (by first | rfl | trivial)⟩
      case measure => first | (simp [intOf]; done) | (simp [intOf]; omega)
    · obtain rfl : i = n := by omega
      have li : ¬ (i : Int) < (i : Int) := by omega
      go_upto_region 14 with (first
        | (go_at_call 10; (with_reducible refine (KC.out _ B1.out).mono ?_); intro e w2 h; obtain ⟨A8, C8, S, T, out, rfl, hC, hA, hb⟩ := cps_told2 h; have HC := Lib.hid hC; have HA := Lib.hid hA; have B2 := Lib.hid (B1.out.trans (hb.mono B1.out.size)); clear hC hA hb h)
        | (go_at_call 15; (with_reducible refine (num_any _ _).mono ?_); rintro e w5 ⟨rfl, h⟩; subst h))
      have M0 := Lib.hid (moM_0 w5)
      have SZ5 := Lib.hid (Nat.le_refl w5.heap.size)
      go_upto_region 16 with (fail)
      go_loopw [11, 12] (fun v11 v12 wr => ∃ (j : Nat) (es : List Ent), j ≤ i ∧ v12 = .int .i64 (j : Int) ∧ Hid (es.map Ent.r = twins G k j) ∧ MoM w5 v11 es wr) (fun _ v12 _ => i - (intOf v12).toNat)
      case atStart => exact ⟨0, [], Nat.zero_le _, rfl, (rfl : _ = _), M0.out⟩
      case round =>
        obtain ⟨j, es, hj, rfl, hrr, hM⟩ := hrel
        have HRR := Lib.hid hrr
        have HM := Lib.hid hM
        obtain ⟨A4, C4, h4⟩ := own_slice hM.grp.row
        subst h4
        have hel : es.length = j := by have := congrArg List.length hrr.out; simpa [twins] using this
        have HEL := Lib.hid hel
        have EB := Lib.hid (show es.length ≤ 1000000 by omega)
        clear hrr hM hel
        by_cases hjl : j < i
        · have lj : (j : Int) < (i : Int) := by omega
          have hjG : j < G.length := by rw [← HN.out]; exact hjl
          obtain ⟨b, o, A', c', eA, hbl, cc, _, hI⟩ := zrow_at (lsAt_below HL.out (B2.out.trans (HM.out.low.mono B2.out.size))) hjG
          have h5 := HGS.out j hjG
          obtain ⟨m, hm⟩ : ∃ m, m = (nx G j).length := ⟨_, rfl⟩
          rw [← hm] at cc h5
          have HI := Lib.hid hI
          have HLN := Lib.hid (show m = (zs (nx G j)).length by rw [zs_len]; exact hm)
          have HB1 := Lib.hid (show (zs (nx G j)).length ≤ 100000000 by rw [← HLN.out]; omega)
          have HBL := Lib.hid hbl
          have HCC := Lib.hid cc
          subst eA
          clear hI hbl hm
          go_upto_region 19 with (refine wpList_app_list rfl _ _ rfl wr.heap.size (.slice none 0 0) [] rfl (ownI_nil _ _) A' m c' (zs (nx G j)) HLN.out rfl HI.out (by simp) HB1.out (Nat.le_refl _) ?_; intro v13 w6 g1 g2; have O1 := Lib.hid (show OwnI w6 wr.heap.size v13 (zs (nx G j)) from g1); have BF1 := Lib.hid (show But (fun _ => False) wr w6 from g2.mono (fun _ _ h => by cases h)); clear g1 g2)
          have BB1 := Lib.hid (BF1.out.below (Nat.le_refl _) (fun k hk => hk.elim))
          have cc6 := (BB1.out.cell (p := ⟨b, o + j, none⟩) HBL.out).trans HCC.out
          have HI6 := Lib.hid (intsAt_below HI.out BB1.out)
          have SZ6 := Lib.hid BF1.out.size
          clear cc
          go_upto_region 20 with (refine wpList_app_list rfl _ _ rfl wr.heap.size v13 (zs (nx G j)) rfl O1.out A' m c' (zs (nx G j)) HLN.out rfl HI6.out HB1.out HB1.out SZ6.out ?_; intro v14 w7 g1 g2; have O2 := Lib.hid g1; have BF2 := Lib.hid (show But (fun _ => False) wr w7 from BF1.out.step g2 (fun q hq e => by have := (own_heap O1.out q e.symm).1; omega)); clear g1 g2)
          clear cc6
          by_cases hjk : j = k
          · have hb : ((j : Int) == (k : Int)) = true := by simp [hjk]
            have HJK := Lib.hid hjk
            have O3 := Lib.hid (show OwnI (w7.alloc (.cells #[.int .i64 (k : Int)] 3)) wr.heap.size v14 (zs (nx G j) ++ zs (nx G j)) from O2.out.alloc _)
            have LN3 := Lib.hid (lies_new w7 3 #[.int .i64 (k : Int)])
            have HB2 := Lib.hid (show (zs (nx G j) ++ zs (nx G j)).length ≤ 100000000 by rw [List.length_append, ← HLN.out]; omega)
            have SZ7 := Lib.hid (show wr.heap.size ≤ (w7.alloc (.cells #[.int .i64 (k : Int)] 3)).heap.size by have := BF2.out.size; simp; omega)
            clear hjk
            go_upto_region 22 with (refine wpList_app_int rfl _ _ rfl wr.heap.size w7.heap.size (k : Int) v14 (zs (nx G j) ++ zs (nx G j)) rfl O3.out rfl LN3.out HB2.out SZ7.out ?_; intro v9 w9 g1 g2; have O9 := Lib.hid (show OwnI w9 wr.heap.size v9 (zs (twin G k j)) by unfold twin; rw [if_pos HJK.out]; simpa [zs] using g1); have BF9 := Lib.hid (show But (fun _ => False) wr w9 from (BF2.out.alloc (.cells #[.int .i64 (k : Int)] 3)).step (But.grown g2) (fun q hq e => by have := (own_heap O3.out q e.symm).1; omega)); clear g1 g2)
            rcases O9.out.2 with ⟨h13, hz⟩ | ⟨g13, C13, cur, h13, _⟩
            · subst h13
              have H13 := Lib.hid (show .slice none 0 0 = Ent.rv ⟨0, none, twin G k j, 0⟩ by unfold Ent.rv; rw [zs_len] at hz; rw [hz])
              have A1 := Lib.hid ((own_but HM.out.grp.row BF9.out (fun _ _ => id)).alloc (.cells #[.slice none 0 0] 33))
              have LN := Lib.hid (lies_new w9 33 #[.slice none 0 0])
              have SZ := Lib.hid (show w5.heap.size ≤ (w9.alloc (.cells #[.slice none 0 0] 33)).heap.size by have := HM.out.low.size; have := BF9.out.size; simp; omega)
              have M9 := Lib.hid (fun (GB GC : Nat) (w3 : World) (ho : w3.ownsRow w5.heap.size 33 1 (.slice (some ⟨GB, 0, none⟩) (es.length + 1) GC) (es.length + 1) (es.map Ent.rv ++ [.slice none 0 0])) (hg : (w9.alloc (.cells #[.slice none 0 0] 33)).grownBy w3 (Value.slice A4 es.length C4).ownBlock) => mo_put (e := ⟨0, none, twin G k j, 0⟩) HM.out BF9.out (by rw [← H13.out]; exact O9.out) (by rw [← H13.out]; exact ho) hg)
              have RR := Lib.hid (show Hid ((es ++ [(⟨0, none, twin G k j, 0⟩ : Ent)]).map Ent.r = twins G k (j + 1)) from (by rw [List.map_append, HRR.out.out, twins_succ]; rfl : _ = _))
              go_wp2_with (refine wpList_app_slice rfl _ _ rfl w5.heap.size w9.heap.size (.slice none 0 0) (.slice A4 es.length C4) es.length (es.map Ent.rv) rfl A1.out rfl LN.out rfl EB.out SZ.out ?_; intro GB GC w3 g1 g2 g3; have M4 := Lib.hid (M9.out GB GC w3 g1 g2); clear g1 g2 g3)
              go_roundw
              case rel => exact ⟨j + 1, _, by omega, by go_num, RR.out, M4.out⟩
              case measure => first | (simp [intOf]; done) | (simp [intOf]; omega)
            · obtain ⟨r0, hr0⟩ : ∃ r0, r0 = (zs (twin G k j)).length := ⟨_, rfl⟩
              rw [← hr0] at h13
              have HR0 := Lib.hid hr0
              subst h13
              clear hr0
              have H13 := Lib.hid (show .slice (some ⟨g13, 0, none⟩) r0 C13 = Ent.rv ⟨0, some ⟨g13, 0, none⟩, twin G k j, C13⟩ by unfold Ent.rv; rw [HR0.out, zs_len])
              have A1 := Lib.hid ((own_but HM.out.grp.row BF9.out (fun _ _ => id)).alloc (.cells #[.slice (some ⟨g13, 0, none⟩) r0 C13] 33))
              have LN := Lib.hid (lies_new w9 33 #[.slice (some ⟨g13, 0, none⟩) r0 C13])
              have SZ := Lib.hid (show w5.heap.size ≤ (w9.alloc (.cells #[.slice (some ⟨g13, 0, none⟩) r0 C13] 33)).heap.size by have := HM.out.low.size; have := BF9.out.size; simp; omega)
              have M9 := Lib.hid (fun (GB GC : Nat) (w3 : World) (ho : w3.ownsRow w5.heap.size 33 1 (.slice (some ⟨GB, 0, none⟩) (es.length + 1) GC) (es.length + 1) (es.map Ent.rv ++ [.slice (some ⟨g13, 0, none⟩) r0 C13])) (hg : (w9.alloc (.cells #[.slice (some ⟨g13, 0, none⟩) r0 C13] 33)).grownBy w3 (Value.slice A4 es.length C4).ownBlock) => mo_put (e := ⟨0, some ⟨g13, 0, none⟩, twin G k j, C13⟩) HM.out BF9.out (by rw [← H13.out]; exact O9.out) (by rw [← H13.out]; exact ho) hg)
              have RR := Lib.hid (show Hid ((es ++ [(⟨0, some ⟨g13, 0, none⟩, twin G k j, C13⟩ : Ent)]).map Ent.r = twins G k (j + 1)) from (by rw [List.map_append, HRR.out.out, twins_succ]; rfl : _ = _))
              go_wp2_with (refine wpList_app_slice rfl _ _ rfl w5.heap.size w9.heap.size (.slice (some ⟨g13, 0, none⟩) r0 C13) (.slice A4 es.length C4) es.length (es.map Ent.rv) rfl A1.out rfl LN.out rfl EB.out SZ.out ?_; intro GB GC w3 g1 g2 g3; have M4 := Lib.hid (M9.out GB GC w3 g1 g2); clear g1 g2 g3)
              go_roundw
              case rel => exact ⟨j + 1, _, by omega, by go_num, RR.out, M4.out⟩
              case measure => first | (simp [intOf]; done) | (simp [intOf]; omega)
          · have hb : ((j : Int) == (k : Int)) = false := by simp; omega
            have O9 := Lib.hid (show OwnI w7 wr.heap.size v14 (zs (twin G k j)) by unfold twin; rw [if_neg hjk, List.append_nil, show zs (nx G j ++ nx G j) = zs (nx G j) ++ zs (nx G j) by simp [zs]]; exact O2.out)
            have BF9 := BF2
            go_upto_region 22 with (fail)
            clear O2 BF2
            generalize hv9 : v14 = v9 at *
            generalize hw9 : w7 = w9 at *
            clear hv9 hw9 hjk
            rcases O9.out.2 with ⟨h13, hz⟩ | ⟨g13, C13, cur, h13, _⟩
            · subst h13
              have H13 := Lib.hid (show .slice none 0 0 = Ent.rv ⟨0, none, twin G k j, 0⟩ by unfold Ent.rv; rw [zs_len] at hz; rw [hz])
              have A1 := Lib.hid ((own_but HM.out.grp.row BF9.out (fun _ _ => id)).alloc (.cells #[.slice none 0 0] 33))
              have LN := Lib.hid (lies_new w9 33 #[.slice none 0 0])
              have SZ := Lib.hid (show w5.heap.size ≤ (w9.alloc (.cells #[.slice none 0 0] 33)).heap.size by have := HM.out.low.size; have := BF9.out.size; simp; omega)
              have M9 := Lib.hid (fun (GB GC : Nat) (w3 : World) (ho : w3.ownsRow w5.heap.size 33 1 (.slice (some ⟨GB, 0, none⟩) (es.length + 1) GC) (es.length + 1) (es.map Ent.rv ++ [.slice none 0 0])) (hg : (w9.alloc (.cells #[.slice none 0 0] 33)).grownBy w3 (Value.slice A4 es.length C4).ownBlock) => mo_put (e := ⟨0, none, twin G k j, 0⟩) HM.out BF9.out (by rw [← H13.out]; exact O9.out) (by rw [← H13.out]; exact ho) hg)
              have RR := Lib.hid (show Hid ((es ++ [(⟨0, none, twin G k j, 0⟩ : Ent)]).map Ent.r = twins G k (j + 1)) from (by rw [List.map_append, HRR.out.out, twins_succ]; rfl : _ = _))
              go_wp2_with (refine wpList_app_slice rfl _ _ rfl w5.heap.size w9.heap.size (.slice none 0 0) (.slice A4 es.length C4) es.length (es.map Ent.rv) rfl A1.out rfl LN.out rfl EB.out SZ.out ?_; intro GB GC w3 g1 g2 g3; have M4 := Lib.hid (M9.out GB GC w3 g1 g2); clear g1 g2 g3)
              go_roundw
              case rel => exact ⟨j + 1, _, by omega, by go_num, RR.out, M4.out⟩
              case measure => first | (simp [intOf]; done) | (simp [intOf]; omega)
            · obtain ⟨r0, hr0⟩ : ∃ r0, r0 = (zs (twin G k j)).length := ⟨_, rfl⟩
              rw [← hr0] at h13
              have HR0 := Lib.hid hr0
              subst h13
              clear hr0
              have H13 := Lib.hid (show .slice (some ⟨g13, 0, none⟩) r0 C13 = Ent.rv ⟨0, some ⟨g13, 0, none⟩, twin G k j, C13⟩ by unfold Ent.rv; rw [HR0.out, zs_len])
              have A1 := Lib.hid ((own_but HM.out.grp.row BF9.out (fun _ _ => id)).alloc (.cells #[.slice (some ⟨g13, 0, none⟩) r0 C13] 33))
              have LN := Lib.hid (lies_new w9 33 #[.slice (some ⟨g13, 0, none⟩) r0 C13])
              have SZ := Lib.hid (show w5.heap.size ≤ (w9.alloc (.cells #[.slice (some ⟨g13, 0, none⟩) r0 C13] 33)).heap.size by have := HM.out.low.size; have := BF9.out.size; simp; omega)
              have M9 := Lib.hid (fun (GB GC : Nat) (w3 : World) (ho : w3.ownsRow w5.heap.size 33 1 (.slice (some ⟨GB, 0, none⟩) (es.length + 1) GC) (es.length + 1) (es.map Ent.rv ++ [.slice (some ⟨g13, 0, none⟩) r0 C13])) (hg : (w9.alloc (.cells #[.slice (some ⟨g13, 0, none⟩) r0 C13] 33)).grownBy w3 (Value.slice A4 es.length C4).ownBlock) => mo_put (e := ⟨0, some ⟨g13, 0, none⟩, twin G k j, C13⟩) HM.out BF9.out (by rw [← H13.out]; exact O9.out) (by rw [← H13.out]; exact ho) hg)
              have RR := Lib.hid (show Hid ((es ++ [(⟨0, some ⟨g13, 0, none⟩, twin G k j, C13⟩ : Ent)]).map Ent.r = twins G k (j + 1)) from (by rw [List.map_append, HRR.out.out, twins_succ]; rfl : _ = _))
              go_wp2_with (refine wpList_app_slice rfl _ _ rfl w5.heap.size w9.heap.size (.slice (some ⟨g13, 0, none⟩) r0 C13) (.slice A4 es.length C4) es.length (es.map Ent.rv) rfl A1.out rfl LN.out rfl EB.out SZ.out ?_; intro GB GC w3 g1 g2 g3; have M4 := Lib.hid (M9.out GB GC w3 g1 g2); clear g1 g2 g3)
              go_roundw
              case rel => exact ⟨j + 1, _, by omega, by go_num, RR.out, M4.out⟩
              case measure => first | (simp [intOf]; done) | (simp [intOf]; omega)
        · obtain rfl : j = i := by omega
          have lj : ¬ (j : Int) < (j : Int) := by omega
          have hll := HEL.out
          obtain ⟨G2, hG2⟩ : ∃ G2, G2 = twins G k G.length := ⟨_, rfl⟩
          have L2 : G2.length = j := by rw [hG2, twins_len]; exact HN.out.symm
          have AL := Lib.hid (show Go.Cmp.Alike G G2 by rw [hG2]; exact twins_alike G k)
          have RX := Lib.hid (show ∀ S3 : Gr, Groups G2 S3 → ∃ g ∈ S3, k ∈ g ∧ stillP G2 g = false by rw [hG2]; exact fun S3 h => twins_round HKN.out h)
          have TOK2 := Lib.hid (show Ok G2 by rw [hG2]; exact TOK.out)
          have TSM2 := Lib.hid (show ∀ l ∈ G2, l.length ≤ 1024 by rw [hG2]; exact TSM.out)
          have LS := Lib.hid (show LsAt wr A4 (zg G2) by have := grps_ls HM.out.grp; rw [HRR.out.out, HN.out] at this; rw [hG2]; exact this)
          have BW := Lib.hid (B2.out.trans (HM.out.low.mono B2.out.size))
          have HAr := Lib.hid (lsAt_below HA.out HM.out.low)
          have tl := told_len HC.out
          have TL := Lib.hid tl.2
          have tl1 := tl.1
          rw [← HN.out] at tl1
          have KC2 := Lib.hid (fun (W : World) (hb : Below wr.heap.size wr W) => comps_any A4 C4 G2 TOK2.out (by omega) TSM2.out W (lsAt_below LS.out hb))
          have KR2 := Lib.hid (fun (W : World) (hb : Below wr.heap.size wr W) => round_any A4 C4 G2 TOK2.out (by omega) (by omega) TSM2.out W (lsAt_below LS.out hb))
          rw [L2] at KC2 KR2
          have HL2 := Lib.hid L2
          clear hG2 L2
          rw [hll]
          have B0 := Lib.hid (Below.refl wr.heap.size wr)
          clear HM HRR hll M0 tl EB HEL
          generalize wr = Z at *
          have KS := Lib.hid (fun (A14 : Option Addr) (C14 : Nat) (W : World) (hb : Below Z.heap.size Z W) (h2 : LsAt W A14 (zg (toldL S out))) => same_any A8 A14 C8 C14 (zg (toldL S out)) W (lsAt_below HAr.out hb) h2 (by rw [zg_len]; omega) (fun l hl => by
            obtain ⟨l', hl', rfl⟩ := List.mem_map.1 hl
            rw [zs_len]
            have := TL.out l' hl'
            rw [← HN.out] at this
            omega))
          rw [zg_len] at KS
          go_upto_region 28 with (first
            | (go_at_call 10; (with_reducible refine (KC2.out _ B0.out).mono ?_); intro e w2 h; obtain ⟨A14, C14, S2, T2, out2, rfl, hC2, hA2, hb⟩ := cps_told2 h; obtain ⟨hs, ho⟩ := Go.Cmp.alike_same AL.out HC.out hC2; rw [← hs, ← ho] at hA2; rw [← hs, ← ho]; have HA2 := Lib.hid hA2; have D1 := Lib.hid (B0.out.trans (hb.mono B0.out.size)); clear hC2 hA2 hs ho hb h)
            | (go_at_call 11; (with_reducible refine (KR2.out _ D1.out).mono ?_); intro e w3 h; obtain ⟨A16, C16, S3, rfl, hS3, hA3, hb⟩ := rnd_told h; have D2 := Lib.hid (D1.out.trans (hb.mono D1.out.size)); have K16 := Lib.hid (KS.out A14 C14 w3 D2.out (lsAt_below HA2.out hb)); have HA3 := Lib.hid hA3; have HX := Lib.hid (RX.out S3 hS3); have HS3 := Lib.hid hS3; clear hS3 hA3 hb h)
            | (go_at_call 15; (with_reducible refine (num_any _ _).mono ?_); rintro e wz ⟨rfl, h⟩; have h := h.symm; subst h)
            | (go_at_call 16; (with_reducible refine K16.out.mono ?_); rintro e w4 ⟨rfl, q, h⟩; subst h))
          have HXX := Lib.hid (show ∃ x, x < (S3.filter fun r => !stillP G2 r).length ∧ k ∈ nx (S3.filter fun r => !stillP G2 r) x by
            obtain ⟨g, hg, hkg, hst⟩ := HX.out
            have hg2 : g ∈ S3.filter fun r => !stillP G2 r := List.mem_filter.2 ⟨hg, by rw [hst]; rfl⟩
            obtain ⟨x, hx, e⟩ := List.getElem_of_mem hg2
            refine ⟨x, hx, ?_⟩
            unfold nx
            rw [List.getD_eq_getElem?_getD, List.getElem?_eq_getElem hx]
            simp only [Option.getD_some]
            rw [e]
            exact hkg)
          have RB := Lib.hid (show (S3.filter fun r => !stillP G2 r).length ≤ 1000000 ∧ ∀ x, (nx (S3.filter fun r => !stillP G2 r) x).length ≤ 1000000 by
            have hle := grp_lens HS3.out
            have h80 := HL2.out
            refine ⟨?_, fun x => ?_⟩
            · have := List.length_filter_le (fun r => !stillP G2 r) S3
              omega
            · rcases Nat.lt_or_ge x (S3.filter fun r => !stillP G2 r).length with h | h
              · have := hle.2 _ (List.mem_filter.1 (nx_mem h)).1
                omega
              · unfold nx
                rw [List.getD_eq_getElem?_getD, List.getElem?_eq_none h]
                simp)
          generalize (S3.filter fun r => !stillP G2 r) = R at *
          have rb := RB.out.1
          clear KC2 KR2 KS K16 RX HX HS3
          have HBF := Lib.hid (BW.out.trans (D2.out.mono BW.out.size))
          generalize w3 = Y at *
          obtain ⟨K3, hK3⟩ : ∃ K3, K3 = R.length := ⟨_, rfl⟩
          have HK3 := Lib.hid hK3
          rw [← hK3] at rb ⊢
          clear hK3
          go_loopw [18] (fun v18 wq => ∃ x : Nat, x ≤ K3 ∧ v18 = .int .i64 (x : Int) ∧ wq = Y.drewN q ∧ Hid (∀ y, y < x → k ∉ nx R y)) (fun v18 _ => K3 - (intOf v18).toNat)
          case atStart => exact ⟨0, Nat.zero_le _, rfl, (by first | rfl | trivial), fun y hy => absurd hy (Nat.not_lt_zero y)⟩
          case round =>
            obtain ⟨x, hx, rfl, rfl, hno⟩ := hrel
            by_cases hxk : x < K3
            · have lx : (x : Int) < (K3 : Int) := by omega
              obtain ⟨b, o, A', c', eA, hbl, cc, _, hI⟩ := zrow_at HA3.out (v := x) (by rw [← HK3.out]; exact hxk)
              have mb := RB.out.2 x
              obtain ⟨m, hm⟩ : ∃ m, m = (nx R x).length := ⟨_, rfl⟩
              rw [← hm] at cc mb
              have HI := Lib.hid hI
              have HM := Lib.hid hm
              have HNO := Lib.hid hno
              subst eA
              clear hI hbl hm hno
              go_upto_region 31 with (fail)
              go_loopw [19] (fun v19 wq => ∃ y : Nat, y ≤ m ∧ v19 = .int .i64 (y : Int) ∧ wq = Y.drewN q ∧ Hid (∀ z (h : z < (nx R x).length), z < y → (nx R x)[z] ≠ k)) (fun v19 _ => m - (intOf v19).toNat)
              case atStart => exact ⟨0, Nat.zero_le _, rfl, (by first | rfl | trivial), fun z h hz => absurd hz (Nat.not_lt_zero z)⟩
              case round =>
                obtain ⟨y, hy, rfl, rfl, hny⟩ := hrel
                by_cases hym : y < m
                · have ly : (y : Int) < (m : Int) := by omega
                  have hyl : y < (nx R x).length := by rw [← HM.out]; exact hym
                  obtain ⟨b', o', eA', hbl', cc'⟩ := HI.out y (by rw [zs_len]; exact hyl)
                  rw [show (zs (nx R x))[y]'(by rw [zs_len]; exact hyl) = (((nx R x)[y] : Nat) : Int) by simp [zs]] at cc'
                  unfold iV at cc'
                  have HNY := Lib.hid hny
                  obtain ⟨v, hv⟩ : ∃ v, v = (nx R x)[y] := ⟨_, rfl⟩
                  rw [← hv] at cc'
                  have HV := Lib.hid hv
                  subst eA'
                  clear hv hny hbl'
                  by_cases hvk : v = k
                  · have hb : ((v : Int) == (k : Int)) = true := by simp [hvk]
                    have HVK := Lib.hid hvk
                    clear hvk
                    go_wp2
                    go_ret
                    exact ⟨rfl, below_drewN HBF.out q⟩
                  · have hb : ((v : Int) == (k : Int)) = false := by simp; omega
                    have HVK := Lib.hid hvk
                    clear hvk
                    go_wp2
                    go_roundw
                    case rel =>
                      refine ⟨y + 1, by omega, by go_num, (by first | rfl | trivial), fun z h hz => ?_⟩
                      by_cases e : z = y
                      · subst e
                        rw [← HV.out]
                        exact HVK.out
                      · exact HNY.out.out z h (by omega)
                    case measure => first | (simp [intOf]; done) | (simp [intOf]; omega)
                · obtain rfl : y = m := by omega
                  have ly : ¬ (y : Int) < (y : Int) := by omega
                  have HNY := Lib.hid hny
                  clear hny
                  go_wp2
                  go_roundw
                  case rel =>
                    refine ⟨x + 1, by omega, by go_num, (by first | rfl | trivial), fun z hz hk => ?_⟩
                    by_cases e : z = x
                    · subst e
                      obtain ⟨a, ha, e2⟩ := List.getElem_of_mem hk
                      exact HNY.out.out a ha (by rw [HM.out]; exact ha) e2
                    · exact HNO.out.out z (by omega) hk
                  case measure => first | (simp [intOf]; done) | (simp [intOf]; omega)
            · exfalso
              obtain ⟨z, hz, hk⟩ := HXX.out
              exact hno.out z (by rw [← HK3.out] at hz; omega) hk
set_option maxRecDepth 100000 in
set_option maxHeartbeats 4000000 in
theorem cmore_any (A : Option Addr) (c : Nat) (N : List (List Int)) (who : Int) (w : World) (hL : LsAt w A N) (hn : N.length ≤ 1000000000000000) (hs : ∀ l ∈ N, l.length ≤ 1000000000000000) : Calls Try.prog 6 #[.slice A N.length c, .int .i64 who] w fun e w' => e = .returned (.bool true) ∧ Below w.heap.size w w' := by
  have KM := Lib.hid (fun (W : World) (hb : Below w.heap.size w W) => much_any A c N W (lsAt_below hL hb) hn hs)
  cases hm : muchP N with
  | true =>
    rw [hm] at KM
    generalize N.length = n at *
    clear hL hs hm
    go_enter Try.func6, Try.ntmps6
    go_wp2_with (first
      | (go_at_call 7; (with_reducible refine (alive_any _).mono ?_); rintro e w1 ⟨rfl, hb⟩; have B1 := Lib.hid hb; clear hb)
      | (go_at_call 8; (with_reducible refine (KM.out _ B1.out).mono ?_); rintro e wm ⟨rfl, h⟩; have h := h.symm; subst h))
    go_ret
    exact ⟨rfl, B1.out⟩
  | false =>
    rw [hm] at KM
    obtain ⟨m0, m1, m2⟩ : N.length ≤ 80 ∧ N.length ≤ 1000000000 ∧ ∀ l ∈ N, l.length ≤ 1000000000 := by
      unfold muchP at hm
      rw [Bool.or_eq_false_iff] at hm
      have h1 := of_decide_eq_false hm.1
      have h2 := of_decide_eq_false hm.2
      refine ⟨by omega, by omega, fun l hl => ?_⟩
      obtain ⟨i, hi, rfl⟩ := List.getElem_of_mem hl
      have h3 := cst_succ hi
      have h4 := cst_mono N (i := i + 1) (j := N.length) (by omega) (Nat.le_refl _)
      omega
    by_cases h0 : N.length = 0
    · rw [h0] at KM ⊢
      clear hL hs hm m1 m2 h0
      go_enter Try.func6, Try.ntmps6
      go_wp2_with (first
        | (go_at_call 7; (with_reducible refine (alive_any _).mono ?_); rintro e w1 ⟨rfl, hb⟩; have B1 := Lib.hid hb; clear hb)
        | (go_at_call 8; (with_reducible refine (KM.out _ B1.out).mono ?_); rintro e wm ⟨rfl, h⟩; have h := h.symm; subst h))
      go_ret
      exact ⟨rfl, B1.out⟩
    · by_cases hw : who < 0
      · have n0 : ((N.length : Int) == 0) = false := by rw [beq_eq_false_iff_ne]; omega
        generalize N.length = n at *
        clear hL hs hm m1 m2
        go_enter Try.func6, Try.ntmps6
        go_wp2_with (first
          | (go_at_call 7; (with_reducible refine (alive_any _).mono ?_); rintro e w1 ⟨rfl, hb⟩; have B1 := Lib.hid hb; clear hb)
          | (go_at_call 8; (with_reducible refine (KM.out _ B1.out).mono ?_); rintro e wm ⟨rfl, h⟩; have h := h.symm; subst h))
        go_ret
        exact ⟨rfl, B1.out⟩
      · by_cases hc : (∀ i (h : i < N.length), N[i].length ≤ 500) ∧ chk N = 0
        · obtain ⟨G, rfl, hG, h1, h2⟩ := zg_of hc.2
          rw [zg_len] at m0 h0 ⊢
          exact cmore_main A c G hG (fun i hi => by
            have := hc.1 i (by rw [zg_len]; exact hi)
            rw [zg_at (by rw [zg_len]; exact hi), zs_len] at this
            exact this) m0 (Nat.pos_of_ne_zero h0) hm who (Int.not_lt.1 hw) w hL
        · have HC := Lib.hid (fun (h : ∀ i (h : i < N.length), N[i].length ≤ 500) => show chk N ≠ 0 from fun e => hc ⟨h, e⟩)
          have KC := Lib.hid (fun (h : ∀ i (h : i < N.length), N[i].length ≤ 500) (W : World) (hb : Below w.heap.size w W) => comps_bad A c N W (lsAt_below hL hb) m1 m2 (HC.out h))
          have HL := Lib.hid hL
          have MM := Lib.hid m2
          obtain ⟨n, hnn⟩ : ∃ n, n = N.length := ⟨_, rfl⟩
          have HN := Lib.hid hnn
          rw [← hnn] at KM m0 h0 ⊢
          have n0 : ((n : Int) == 0) = false := by simp; omega
          clear hL hs hm m1 m2 hc hnn
          go_enter Try.func6, Try.ntmps6
          go_upto_region 6 with (first
            | (go_at_call 7; (with_reducible refine (alive_any _).mono ?_); rintro e w1 ⟨rfl, hb⟩; have B1 := Lib.hid hb; clear hb)
            | (go_at_call 8; (with_reducible refine (KM.out _ B1.out).mono ?_); rintro e wm ⟨rfl, h⟩; have h := h.symm; subst h))
          go_loopw [7] (fun v7 wr => ∃ i : Nat, i ≤ n ∧ v7 = .int .i64 (i : Int) ∧ wr = w1 ∧ Hid (∀ j (h : j < N.length), j < i → N[j].length ≤ 500)) (fun v7 _ => n - (intOf v7).toNat)
          case atStart => exact ⟨0, Nat.zero_le _, rfl, (by first | rfl | trivial), fun j h hj => absurd hj (Nat.not_lt_zero j)⟩
          case round =>
            obtain ⟨i, hi, rfl, rfl, hno⟩ := hrel
            have HNO := Lib.hid hno
            clear hno
            by_cases hlt : i < n
            · have li : (i : Int) < (n : Int) := by omega
              have hiN : i < N.length := by rw [← HN.out]; exact hlt
              obtain ⟨b, o, A', c', eA, hbl, cc, _, hI⟩ := (lsAt_below HL.out B1.out) i hiN
              have hmb := MM.out _ (List.getElem_mem hiN)
              obtain ⟨m, hm⟩ : ∃ m, m = N[i].length := ⟨_, rfl⟩
              rw [← hm] at cc hmb
              have HMM := Lib.hid hm
              subst eA
              clear hI hbl hm
              by_cases h5 : 500 < m
              · have l5 : (500 : Int) < (m : Int) := by omega
                go_wp2
                go_ret
                exact ⟨rfl, B1.out⟩
              · have l5 : ¬ (500 : Int) < (m : Int) := by omega
                have H5 := Lib.hid h5
                clear h5
                go_wp2
                go_roundw
                case rel =>
                  refine ⟨i + 1, by omega, by go_num, (by first | rfl | trivial), fun j h hj => ?_⟩
                  by_cases e : j = i
                  · subst e
                    have := H5.out
                    rw [HMM.out] at this
                    omega
                  · exact HNO.out.out j h (by omega)
                case measure => first | (simp [intOf]; done) | (simp [intOf]; omega)
            · obtain rfl : i = n := by omega
              have li : ¬ (i : Int) < (i : Int) := by omega
              have h5 : ∀ j (h : j < N.length), N[j].length ≤ 500 := fun j h => HNO.out.out j h (by rw [HN.out]; exact h)
              have hcn := HC.out h5
              have KC1 := Lib.hid (KC.out h5 _ B1.out)
              have hz : (chk N != 0) = true := by simp [hcn]
              rw [← HN.out] at KC1
              clear KC HC h5 hcn
              generalize chk N = z at *
              go_wp2_with (first
                | (go_at_call 10; (with_reducible refine KC1.out.mono ?_); rintro e w2 ⟨rfl, hb⟩; have B2 := Lib.hid (B1.out.trans (hb.mono B1.out.size)); clear hb)
                | (go_at_call 15; (with_reducible refine (num_any _ _).mono ?_); rintro e wz ⟨rfl, h⟩; have h := h.symm; subst h))
              go_ret
              exact ⟨rfl, B2.out⟩
end Go.Proofs.Ytfgpaffcfkbjlaa
