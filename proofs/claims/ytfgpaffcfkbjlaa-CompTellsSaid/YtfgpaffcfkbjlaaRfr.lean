/-
What is proved here: the document's own members of a component, and its own Round, by contracts.
-/
import Derived.Test.YtfgpaffcfkbjlaaPrt
import Derived.Deep.AppendLies
import Derived.Test.YtfgpaffcfkbjlaaApl
set_option linter.unusedSimpArgs false
set_option linter.unusedVariables false
namespace Go.Proofs.Ytfgpaffcfkbjlaa
open Go.Cmp Go.RowKit
def memP (to' : List Nat) (i j : Nat) : List Nat := (List.range j).filter fun v => to'.getD v 0 == i
theorem memP_end (to' : List Nat) (i : Nat) : memP to' i to'.length = memL to' i := rfl
theorem memP_succ (to' : List Nat) (i j : Nat) : memP to' i (j + 1) = memP to' i j ++ if to'.getD j 0 = i then [j] else [] := by
  unfold memP
  rw [List.range_succ, List.filter_append]
  congr 1
  by_cases h : to'.getD j 0 = i
  · rw [if_pos h]; exact List.filter_cons_of_pos (by simpa using h)
  · rw [if_neg h]; exact List.filter_cons_of_neg (by simpa using h)
theorem memP_len (to' : List Nat) (i j : Nat) : (memP to' i j).length ≤ j := by
  have := List.length_filter_le (fun v => to'.getD v 0 == i) (List.range j)
  simpa [memP] using this
set_option maxRecDepth 100000 in
set_option maxHeartbeats 4000000 in
theorem members_any (T c : Nat) (to' : List Nat) (i : Nat) (w : World) (hT : Lies w T 3 (nRow to')) (hn : to'.length ≤ 1024) :
    Calls Try.prog 26 #[.slice (some ⟨T, 0, none⟩) to'.length c, .int .i64 (i : Int)] w fun e w' => ∃ v, e = .returned v ∧ OwnI w' w.heap.size v (zs (memL to' i)) ∧ Below w.heap.size w w' := by
  rw [← memP_end]
  have HT := Lib.hid hT
  obtain ⟨n, hnn⟩ : ∃ n, n = to'.length := ⟨_, rfl⟩
  have HN := Lib.hid hnn
  rw [← hnn] at hn ⊢
  have O0 := Lib.hid (ownI_nil w w.heap.size)
  have B0 := Lib.hid (Below.refl w.heap.size w)
  have TL := Lib.hid (lies_lt hT)
  clear hT hnn
  go_enter Try.func26, Try.ntmps26
  go_upto_region 3 with (fail)
  go_loopw [5, 6] (fun v5 v6 wr => ∃ j : Nat, j ≤ n ∧ v6 = .int .i64 (j : Int) ∧ OwnI wr w.heap.size v5 (zs (memP to' i j)) ∧ Below w.heap.size w wr) (fun _ v6 _ => n - (intOf v6).toNat)
  case atStart => exact ⟨0, Nat.zero_le _, rfl, O0.out, B0.out⟩
  case round =>
    obtain ⟨j, hj, rfl, hO, hB⟩ := hrel
    have HO := Lib.hid hO
    have HB := Lib.hid hB
    clear hO hB
    by_cases hlt : j < n
    · have lj : (j : Int) < (n : Int) := by omega
      have cc := (lies_cell (lies_below HT.out HB.out TL.out) j).trans (nRow_at (l := to') (v := j) (by rw [← HN.out]; exact hlt))
      have hml := memP_len to' i j
      obtain ⟨t, ht⟩ : ∃ t, t = to'.getD j 0 := ⟨_, rfl⟩
      rw [← ht] at cc
      have HTT := Lib.hid ht
      have LB := Lib.hid (show (zs (memP to' i j)).length ≤ 100000000 by rw [zs_len]; omega)
      have MS := Lib.hid (memP_succ to' i j)
      clear ht hml
      by_cases hti : t = i
      · have hb : ((t : Int) == (i : Int)) = true := by simp [hti]
        have HTI := Lib.hid hti
        have A1 := Lib.hid (show OwnI (wr.alloc (.cells #[.int .i64 (j : Int)] 3)) w.heap.size u5 (zs (memP to' i j)) from HO.out.alloc _)
        have LN := Lib.hid (lies_new wr 3 #[.int .i64 (j : Int)])
        have SZ := Lib.hid (show w.heap.size ≤ (wr.alloc (.cells #[.int .i64 (j : Int)] 3)).heap.size by have := HB.out.size; simp; omega)
        have BA := Lib.hid (HB.out.alloc HB.out.size (.cells #[.int .i64 (j : Int)] 3))
        clear hti
        go_wp2_with (refine wpList_app_int rfl _ _ rfl w.heap.size wr.heap.size (j : Int) u5 (zs (memP to' i j)) rfl A1.out rfl LN.out LB.out SZ.out ?_; intro v9 w9 g1 g2; have O9 := Lib.hid (show OwnI w9 w.heap.size v9 (zs (memP to' i (j + 1))) by rw [MS.out, if_pos (by rw [← HTT.out]; exact HTI.out)]; simpa [zs] using g1); have B9 := Lib.hid (BA.out.trans ((But.grown g2).below BA.out.size (fun k hk => (own_heap A1.out k hk.symm).1))); clear g1 g2)
        go_roundw
        case rel => exact ⟨j + 1, by omega, by go_num, O9.out, B9.out⟩
        case measure => first | (simp [intOf]; done) | (simp [intOf]; omega)
      · have hb : ((t : Int) == (i : Int)) = false := by rw [beq_eq_false_iff_ne]; omega
        have O9 := Lib.hid (show OwnI wr w.heap.size u5 (zs (memP to' i (j + 1))) by rw [MS.out, if_neg (by rw [← HTT.out]; exact hti), List.append_nil]; exact HO.out)
        clear hti
        go_wp2
        go_roundw
        case rel => exact ⟨j + 1, by omega, by go_num, O9.out, HB.out⟩
        case measure => first | (simp [intOf]; done) | (simp [intOf]; omega)
    · obtain rfl : j = n := by omega
      have lj : ¬ (j : Int) < (j : Int) := by omega
      go_wp2
      go_ret
      exact ⟨_, rfl, HO.out, HB.out⟩
theorem members_pos (T c : Nat) (to' : List Nat) (i : Nat) (w : World) (hT : Lies w T 3 (nRow to')) (hn : to'.length ≤ 1024) (hp : 0 < (memL to' i).length) :
    Calls Try.prog 26 #[.slice (some ⟨T, 0, none⟩) to'.length c, .int .i64 (i : Int)] w fun e w' => ∃ g C, e = .returned (.slice (some ⟨g, 0, none⟩) (memL to' i).length C) ∧ OwnI w' w.heap.size (.slice (some ⟨g, 0, none⟩) (memL to' i).length C) (zs (memL to' i)) ∧ Below w.heap.size w w' :=
  (members_any T c to' i w hT hn).mono fun e w' ⟨v, h1, h2, h3⟩ => by
    obtain ⟨g, C, rfl, _, _⟩ := World.ownsRow.form h2 (by rw [zs_len]; exact hp)
    rw [zs_len] at h1 h2
    exact ⟨g, C, h1, h2, h3⟩
theorem memL_pos {to' : List Nat} {i : Nat} (hi : i < to'.length) (h : to'.getD i 0 = i) : 0 < (memL to' i).length := List.length_pos_of_mem (mem_memL.2 ⟨hi, h⟩)
theorem alM_at2 {w W : World} {G : Gr} {i : Nat} {A : Option Addr} {C : Nat} {bs : List Nat} {ms : List (List Bool)} (h : AlM w G i (.slice A i C) bs ms W) {k : Nat} (hk : k < i) : ∃ g, A = some ⟨g, 0, none⟩ ∧ W.cell? ⟨g, k, none⟩ = some (.slice (some ⟨bs.getD k 0, 0, none⟩) G.length G.length) ∧ (∀ j, j < G.length → W.cell? ⟨bs.getD k 0, j, none⟩ = some (.bool ((ms.getD k []).getD j false))) ∧ bs.getD k 0 < W.heap.size ∧ g < W.heap.size := by
  obtain ⟨g, cap, hv, hBg, hgl⟩ := World.ownsRow.form h.own (by omega)
  injection hv with e1 e2 e3
  subst e1 e3
  obtain ⟨h1, h2⟩ := h.row k hk
  refine ⟨g, rfl, ?_, fun j hj => ?_, lies_lt h1, hgl⟩
  · rw [h.own.cellAt k (by omega), List.getElem?_map, List.getElem?_eq_getElem (by rw [h.len]; exact hk), List.getD_eq_getElem?_getD, List.getElem?_eq_getElem (by rw [h.len]; exact hk)]
    rfl
  · rw [lies_cell h1, bRow_at (by rw [h2.1]; exact hj)]
end Go.Proofs.Ytfgpaffcfkbjlaa
namespace Go.Proofs.Ytfgpaffcfkbjlaa
open Go.Cmp Go.RowKit
/-- lists of one's own, made since a world -/
structure MoM (W0 : World) (v : Value) (es : List Ent) (W : World) : Prop where
  grp : Grps W W0.heap.size v es
  low : Below W0.heap.size W0 W
theorem moM_0 (W0 : World) : MoM W0 (.slice none 0 0) [] W0 := ⟨⟨World.ownsRow_nil _ _ _ _, (fun e he => by cases he), .nil⟩, Below.refl _ _⟩
theorem mo_put {W0 wr W1 w3 : World} {v : Value} {es : List Ent} {e : Ent} (h : MoM W0 v es wr) (h1 : But (fun _ => False) wr W1) (hO : OwnI W1 wr.heap.size e.rv (zs e.r)) {o : Obj} {G C : Nat}
    (ho : w3.ownsRow W0.heap.size 33 1 (.slice (some ⟨G, 0, none⟩) (es.length + 1) C) (es.length + 1) (es.map Ent.rv ++ [e.rv])) (hg : (W1.alloc o).grownBy w3 v.ownBlock) : MoM W0 (.slice (some ⟨G, 0, none⟩) (es.length + 1) C) (es ++ [e]) w3 := by
  have hb : But (fun k => some k = v.ownBlock) W1 w3 := ((But.refl _ W1).alloc o).trans (But.grown hg)
  have hs := h.low.size
  have hv : ∀ k, some k = v.ownBlock → W0.heap.size ≤ k ∧ k < wr.heap.size := fun k hk => ⟨(own_heap h.grp.row k hk.symm).1, (own_heap h.grp.row k hk.symm).2.1⟩
  refine ⟨⟨by rw [List.length_append, List.map_append]; exact ho, fun e' he => ?_, ?_⟩, (h.low.trans (h1.below hs (fun k hk => hk.elim))).trans (hb.below (by have := h1.size; omega) (fun k hk => (hv k hk).1))⟩
  · rcases List.mem_append.1 he with he | he
    · have o1 := own_but (h.grp.own e' he) h1 (fun _ _ => id)
      exact own_but o1 hb (fun k hk e2 => by
        obtain ⟨_, _, cs, hl⟩ := own_heap (own_but h.grp.row h1 (fun _ _ => id)) k e2.symm
        exact own_ne o1 hl (by decide) hk)
    · obtain rfl := List.mem_singleton.1 he
      have o1 := own_base (B' := W0.heap.size) hO (fun k hk => by have := (own_heap hO k hk).1; omega)
      exact own_but o1 hb (fun k hk e2 => by
        have := (hv k e2).2
        have := (own_heap hO k hk).1
        omega)
  · refine List.pairwise_append.2 ⟨h.grp.sep, List.pairwise_singleton _ _, fun a ha b hb2 => ?_⟩
    obtain rfl := List.mem_singleton.1 hb2
    intro k hk hk2
    have := (own_heap (h.grp.own a ha) k hk).2.1
    have := (own_heap hO k hk2).1
    omega
theorem moM_base {w w6 : World} {v : Value} {es : List Ent} {W : World} (h : MoM w6 v es W) (hb : Below w.heap.size w w6) : MoM w v es W :=
  ⟨⟨h.grp.row.mono hb.size, fun e he => (h.grp.own e he).mono hb.size, h.grp.sep⟩, hb.trans (h.low.mono hb.size)⟩
def rdP (to' : List Nat) (b : Nat → Bool) (i : Nat) : List (List Nat) := ((List.range i).filter fun v => (to'.getD v 0 == v) && b v).map (memL to')
theorem rdP_succ (to' : List Nat) (b : Nat → Bool) (i : Nat) : rdP to' b (i + 1) = rdP to' b i ++ if to'.getD i 0 = i ∧ b i = true then [memL to' i] else [] := by
  unfold rdP
  rw [List.range_succ, List.filter_append, List.map_append]
  congr 1
  by_cases h : to'.getD i 0 = i ∧ b i = true
  · rw [if_pos h, List.filter_cons_of_pos (by rw [h.2, Bool.and_true]; exact beq_iff_eq.2 h.1)]
    rfl
  · rw [if_neg h, List.filter_cons_of_neg (fun h2 => h (by rw [Bool.and_eq_true, beq_iff_eq] at h2; exact h2))]
    rfl
theorem rdP_len (to' : List Nat) (b : Nat → Bool) (i : Nat) : (rdP to' b i).length ≤ i := by
  unfold rdP
  rw [List.length_map]
  have := List.length_filter_le (fun v => (to'.getD v 0 == v) && b v) (List.range i)
  simpa using this
theorem rdP_end {G S : Gr} (h : Groups G S) {to' : List Nat} (ht : Tos G to') {b : Nat → Bool} (hb : ∀ v, v < G.length → (b v = true ↔ R1 G v v)) : rdP to' b G.length = S.filter fun r => !stillP G r := by
  have e1 : S.filter (fun r => !stillP G r) = ((List.range S.length).filter fun g => !stillP G (nx S g)).map fun g => nx S g := by
    have e2 : S = (List.range S.length).map fun g => nx S g := by
      refine List.ext_getElem (by simp) fun i h1 h2 => ?_
      rw [List.getElem_map, List.getElem_range]
      unfold nx
      rw [List.getD_eq_getElem?_getD, List.getElem?_eq_getElem h1]
      rfl
    conv => lhs; rw [e2]
    rw [List.filter_map]
    rfl
  have e3 : (List.range G.length).filter (fun v => (to'.getD v 0 == v) && b v) = ((List.range S.length).filter fun g => !stillP G (nx S g)).map (hd S) := by
    refine up_eq ((List.pairwise_lt_range (n := G.length)).filter _) ?_ fun v => ?_
    · rw [List.pairwise_map]
      refine List.Pairwise.imp_of_mem ?_ ((List.pairwise_lt_range (n := S.length)).filter _)
      intro a c ha hc hac
      exact hd_lt h hac (List.mem_range.1 (List.mem_filter.1 hc).1)
    · rw [List.mem_filter, List.mem_range, Bool.and_eq_true, beq_iff_eq, List.mem_map]
      constructor
      · rintro ⟨hv, h1, h2⟩
        obtain ⟨g, hg, hvg⟩ := grp_at h hv
        have e := to_grp h ht hvg
        rw [h1] at e
        refine ⟨g, List.mem_filter.2 ⟨List.mem_range.2 hg, ?_⟩, e.symm⟩
        have := (round_iff h ht hg).2 (by rw [← e]; exact (hb v hv).1 h2)
        rw [this]; rfl
      · rintro ⟨g, hg, rfl⟩
        obtain ⟨hg1, hg2⟩ := List.mem_filter.1 hg
        have hgl := List.mem_range.1 hg1
        have hm := hd_mem h hgl
        have hl := h.lt _ (nx_mem hgl) _ hm
        refine ⟨hl, to_grp h ht hm, (hb _ hl).2 ((round_iff h ht hgl).1 ?_)⟩
        cases e : stillP G (nx S g) with
        | false => rfl
        | true => rw [e] at hg2; cases hg2
  unfold rdP
  rw [e1, e3, List.map_map]
  refine List.map_congr_left fun g hg => ?_
  exact memL_hd h ht (List.mem_range.1 (List.mem_filter.1 hg).1)
set_option maxRecDepth 100000 in
set_option maxHeartbeats 8000000 in
theorem refround_any (LA : Option Addr) (lc : Nat) (G S : Gr) (hG : Ok G) (hn : G.length ≤ 1024) (hg : ∀ l ∈ G, l.length ≤ 1024) (hS : Groups G S) (w : World) (hL : LsAt w LA (zg G)) :
    Calls Try.prog 18 #[.slice LA G.length lc] w fun e w' => ∃ v es, e = .returned v ∧ es.map Ent.r = (S.filter fun r => !stillP G r) ∧ MoM w v es w' := by
  have KP := Lib.hid (parts_any LA lc G hG hn hg w hL)
  have HS := Lib.hid hS
  obtain ⟨n, hnn⟩ : ∃ n, n = G.length := ⟨_, rfl⟩
  have HN := Lib.hid hnn
  rw [← hnn] at hn KP ⊢
  clear hL hG hg hnn hS
  go_enter Try.func18, Try.ntmps18
  go_upto_region 4 with (go_at_call 19; (with_reducible refine KP.out.mono ?_); rintro e w6 ⟨T6, to6, C6, A6, bs, ms, rfl, hT, hlT, hAl⟩; have HT := Lib.hid hT; have HLT := Lib.hid hlT; have HAl := Lib.hid hAl; clear hT hlT hAl)
  have M0 := Lib.hid (moM_0 w6)
  rw [← HN.out]
  rw [← HN.out] at HAl
  have BL := Lib.hid (show ∀ v, v < G.length → ((ms.getD v []).getD v false = true ↔ R1 G v v) from fun v hv => ((HAl.out.row v (by rw [HN.out]; exact hv)).2.2 v))
  have TL := Lib.hid (lies_lt HLT.out)
  obtain ⟨bb, hbb⟩ : ∃ bb : Nat → Bool, bb = fun v => (ms.getD v []).getD v false := ⟨_, rfl⟩
  have HBB := Lib.hid hbb
  have BL2 := Lib.hid (show ∀ v, v < G.length → (bb v = true ↔ R1 G v v) from fun v hv => by rw [hbb]; exact BL.out v hv)
  clear BL hbb
  go_loopw [5, 6] (fun v5 v6 wr => ∃ (i : Nat) (es : List Ent), i ≤ n ∧ v6 = .int .i64 (i : Int) ∧ Hid (es.map Ent.r = rdP to6 bb i) ∧ MoM w6 v5 es wr) (fun _ v6 _ => n - (intOf v6).toNat)
  case atStart => exact ⟨0, [], Nat.zero_le _, rfl, (rfl : _ = _), M0.out⟩
  case round =>
    obtain ⟨i, es, hi, rfl, hrr, hM⟩ := hrel
    have HRR := Lib.hid hrr
    have HM := Lib.hid hM
    obtain ⟨A4, C4, h4⟩ := own_slice hM.grp.row
    subst h4
    have hel : es.length ≤ i := by have := congrArg List.length hrr.out; rw [List.length_map] at this; rw [this]; exact rdP_len _ _ _
    have EB := Lib.hid (show es.length ≤ 1000000 by omega)
    clear hrr hM hel
    by_cases hlt : i < n
    · have li : (i : Int) < (n : Int) := by omega
      have hiG : i < G.length := by rw [← HN.out]; exact hlt
      have c1 := (lies_cell (lies_below HLT.out HM.out.low TL.out) i).trans (nRow_at (l := to6) (v := i) (by rw [HT.out.1]; exact hiG))
      obtain ⟨gA, eA, c2, c3, b1, b2⟩ := alM_at2 HAl.out hlt
      have c3 := c3 i hiG
      replace c2 := (HM.out.low.cell (p := ⟨gA, i, none⟩) b2).trans c2
      replace c3 := (HM.out.low.cell (p := ⟨bs.getD i 0, i, none⟩) b1).trans c3
      rw [show (ms.getD i []).getD i false = bb i by rw [HBB.out]] at c3
      rw [← HN.out] at c2
      generalize bs.getD i 0 = bi at *
      obtain ⟨t, ht⟩ : ∃ t, t = to6.getD i 0 := ⟨_, rfl⟩
      rw [← ht] at c1
      have HTT := Lib.hid ht
      subst eA
      clear ht b1 b2
      by_cases hti : t = i
      · have hb : ((t : Int) == (i : Int)) = true := by simp [hti]
        have HTI := Lib.hid hti
        clear hti
        cases h2 : bb i with
        | false =>
          have TB := Lib.hid (show ¬ (to6.getD i 0 = i ∧ bb i = true) from fun h => by rw [h2] at h; cases h.2)
          rw [h2] at c3
          clear h2
          go_wp2
          go_roundw
          case rel => exact ⟨i + 1, es, by omega, by go_num, (by rw [HRR.out.out, rdP_succ, if_neg TB.out, List.append_nil] : _ = _), HM.out⟩
          case measure => first | (simp [intOf]; done) | (simp [intOf]; omega)
        | true =>
          have TB := Lib.hid (show to6.getD i 0 = i ∧ bb i = true from ⟨by rw [← HTT.out]; exact HTI.out, h2⟩)
          rw [h2] at c3
          have KMB := Lib.hid (members_pos T6 n to6 i wr (lies_below HLT.out HM.out.low TL.out) (by rw [HT.out.1, ← HN.out]; exact hn) (memL_pos (by rw [HT.out.1]; exact hiG) TB.out.1))
          rw [HT.out.1, ← HN.out] at KMB
          obtain ⟨r0, hr0⟩ : ∃ r0, r0 = (memL to6 i).length := ⟨_, rfl⟩
          have HR0 := Lib.hid hr0
          rw [← hr0] at KMB
          clear h2 hr0
          go_upto_region 7 with (fail)
          go_wp2_with (first
            | (go_at_call 26; (with_reducible refine KMB.out.mono ?_); rintro e w9 ⟨g13, C13, rfl, o9, b9⟩; have O9 := Lib.hid o9; have BF9 := Lib.hid (But.of_below (P := fun _ => False) b9); clear o9 b9; have H13 := Lib.hid (show .slice (some ⟨g13, 0, none⟩) r0 C13 = Ent.rv ⟨0, some ⟨g13, 0, none⟩, memL to6 i, C13⟩ by unfold Ent.rv; rw [HR0.out]); have A1 := Lib.hid ((own_but HM.out.grp.row BF9.out (fun _ _ => id)).alloc (.cells #[.slice (some ⟨g13, 0, none⟩) r0 C13] 33)); have LN := Lib.hid (lies_new w9 33 #[.slice (some ⟨g13, 0, none⟩) r0 C13]); have SZ := Lib.hid (show w6.heap.size ≤ (w9.alloc (.cells #[.slice (some ⟨g13, 0, none⟩) r0 C13] 33)).heap.size by have := HM.out.low.size; have := BF9.out.size; simp; omega); have M9 := Lib.hid (fun (GB GC : Nat) (w3 : World) (ho : w3.ownsRow w6.heap.size 33 1 (.slice (some ⟨GB, 0, none⟩) (es.length + 1) GC) (es.length + 1) (es.map Ent.rv ++ [.slice (some ⟨g13, 0, none⟩) r0 C13])) (hg : (w9.alloc (.cells #[.slice (some ⟨g13, 0, none⟩) r0 C13] 33)).grownBy w3 (Value.slice A4 es.length C4).ownBlock) => mo_put (e := ⟨0, some ⟨g13, 0, none⟩, memL to6 i, C13⟩) HM.out BF9.out (by rw [← H13.out]; exact O9.out) (by rw [← H13.out]; exact ho) hg); have G9 := Lib.hid (fun (w3 : World) (hg : (w9.alloc (.cells #[.slice (some ⟨g13, 0, none⟩) r0 C13] 33)).grownBy w3 (Value.slice A4 es.length C4).ownBlock) => show But (fun k => some k = (Value.slice A4 es.length C4).ownBlock) wr w3 from ((BF9.out.alloc (.cells #[.slice (some ⟨g13, 0, none⟩) r0 C13] 33)).mono (P' := fun k => some k = (Value.slice A4 es.length C4).ownBlock) (fun _ _ h => h.elim)).trans (But.grown hg)); have RR := Lib.hid (show Hid ((es ++ [(⟨0, some ⟨g13, 0, none⟩, memL to6 i, C13⟩ : Ent)]).map Ent.r = rdP to6 bb (i + 1)) from (by rw [List.map_append, HRR.out.out, rdP_succ, if_pos TB.out]; rfl : _ = _)))
            | (refine wpList_app_slice rfl _ _ rfl w6.heap.size w9.heap.size (.slice (some ⟨g13, 0, none⟩) r0 C13) (.slice A4 es.length C4) es.length (es.map Ent.rv) rfl A1.out rfl LN.out rfl EB.out SZ.out ?_; intro GB GC w3 g1 g2 g3; have M4 := Lib.hid (M9.out GB GC w3 g1 g2); have G4 := Lib.hid (G9.out w3 g2); clear g1 g2 g3))
          go_roundw
          case rel => exact ⟨i + 1, _, by omega, by go_num, RR.out, M4.out⟩
          case measure => first | (simp [intOf]; done) | (simp [intOf]; omega)
      · have hb : ((t : Int) == (i : Int)) = false := by rw [beq_eq_false_iff_ne]; omega
        have TB := Lib.hid (show ¬ (to6.getD i 0 = i ∧ bb i = true) from fun h => hti (by rw [HTT.out]; exact h.1))
        clear hti
        go_wp2
        go_roundw
        case rel => exact ⟨i + 1, es, by omega, by go_num, (by rw [HRR.out.out, rdP_succ, if_neg TB.out, List.append_nil] : _ = _), HM.out⟩
        case measure => first | (simp [intOf]; done) | (simp [intOf]; omega)
    · obtain rfl : i = n := by omega
      have li : ¬ (i : Int) < (i : Int) := by omega
      go_wp2
      go_ret
      have e := rdP_end HS.out HT.out BL2.out
      rw [← HN.out] at e
      exact ⟨_, rfl, es, by rw [← e]; exact HRR.out.out, moM_base HM.out HAl.out.low⟩
end Go.Proofs.Ytfgpaffcfkbjlaa
