/-
What is proved here: Settle, by a contract.
-/
import Derived.Test.YtjagddhkoacipaaSt1M
import Derived.Test.YtjagddhkoacipaaStcM
import Derived.Test.YtjagddhkoacipaaCn2M
import Derived.Test.YtjagddhkoacipaaCl3M
import Derived.Deep.QuietTactic
import Derived.BigQuiet
import Derived.Great.Walk
set_option linter.unusedSimpArgs false
set_option linter.unusedVariables false
namespace Go.Proofs.Ytjagddhkoacipaa
open Go.Pth Go.Tre Go.RowKit Go.Word Go.Shelf

theorem num_mono {w : World} {b n n' : Nat} {o : List Int} (h : NumAt w b n o) (hn : n ≤ n') : NumAt w b n' o := by
  obtain ⟨D, h1, h2⟩ := h
  exact ⟨D, h1.mono hn, h2⟩
set_option maxRecDepth 100000 in
set_option maxHeartbeats 16000000 in
theorem settle_any (T B : Nat) (vN vF : Value) (D : Nat → Value) (ns : List Nd) (fs : List Fl) (w : World) (hL : Lies w T 25 #[vN, vF]) (hC : CopyAt w B vN vF D ns fs) (hT : B ≤ T) (h1 : ns.length ≤ 1000) (h2 : fs.length ≤ 1000) :
    Calls Try.prog 42 #[.pointer (some ⟨T, 0, none⟩)] w fun e w' => e = .returned (.tuple #[]) ∧ ∃ ms vF' D', ms.Perm ns ∧ InOrder ms ∧ Lies w' T 25 #[vN, vF'] ∧ CopyAt w' B vN vF' D' (setN fs.length ms) (setF ms fs) ∧ Below B w w' := by
  have hmm := @run_makeMap Try.prog
  have SC := Lib.hid (sort_any vN ns B w hC.nodes (by omega))
  obtain ⟨A1, C1, rfl⟩ := own_slice hC.nodes
  obtain ⟨A2, C2, rfl⟩ := own_slice hC.files
  have HC := Lib.hid hC
  have HT := Lib.hid hT
  have HLT := Lib.hid hL
  have x0 := lies_cell hL 0
  have x1 := lies_cell hL 1
  simp only [List.getElem?_toArray, List.getElem?_cons_zero, List.getElem?_cons_succ] at x0 x1
  have wB := Lib.hid (show B ≤ w.heap.size from Nat.le_trans hT (Nat.le_of_lt (lies_lt hL)))
  clear hC hT hL
  generalize hne : ns.length = n at *
  generalize hme : fs.length = m at *
  have NE := Lib.hid hne
  have ME := Lib.hid hme
  clear hne hme
  go_enter Try.func42, Try.ntmps42
  go_upto_region 1 with (go_at_call 65; (with_reducible refine SC.out.mono ?_); rintro e w1 ⟨rfl, ms, hp, ho, hn, hg⟩)
  have MS := Lib.hid (show ms.length = n from hp.length_eq.trans NE.out)
  have HP := Lib.hid hp
  have HO := Lib.hid (show InOrder ms from ho)
  have bk : ∀ r, (Value.slice A1 n C1).ownBlock = some r → B ≤ r ∧ ∃ cs, w.heap[r]? = some (.cells cs 54 (0, 0)) := fun r e => own_heap HC.out.nodes r e
  have C1' := copy_nodes_turned HC.out (ns' := ms) (vN' := .slice A1 n C1) (by rw [MS.out]; exact hn) hg
  have L1 : Lies w1 T 25 #[.slice A1 n C1, .slice A2 m C2] := (hg.block T (lies_lt HLT.out) (fun e => by
    obtain ⟨_, cs, h3⟩ := bk T e.symm
    have h4 := (show w.heap[T]? = _ from HLT.out).symm.trans h3
    injection h4 with h4
    injection h4 with _ h5 _
    exact absurd h5 (by decide))).trans HLT.out
  have B1 : Below B w w1 := (Below.refl _ _).grown hg wB.out (fun k e => (bk k e).1)
  have bX : Below w1.heap.size w1 (w1.alloc (.map #[] 0)) := (Below.refl _ _).alloc (Nat.le_refl _) _
  have CX := Lib.hid (copy_below C1' bX)
  have LX := Lib.hid (lies_alloc L1 (.map #[] 0))
  have BX := Lib.hid (B1.alloc (Nat.le_trans wB.out B1.size) (.map #[] 0))
  have NX := Lib.hid (num_made w1)
  have VX : Hid (∀ r, (Value.slice A2 m C2).ownBlock = some r → r < (w1.alloc (.map #[] 0)).heap.size) := Lib.hid (fun r e => by
    obtain ⟨_, cs, h3⟩ := own_heap C1'.files r e
    have := (Array.getElem?_eq_some_iff.1 h3).1
    rw [World.size_alloc]
    omega)
  have XMB := Lib.hid (show w1.heap.size ≤ (w1.alloc (.map #[] 0)).heap.size by simp)
  have MB := Lib.hid (show B ≤ w1.heap.size from Nat.le_trans wB.out B1.size)
  clear SC hp ho hn hg bk C1' L1 B1 bX HLT HC x0 x1
  go_upto_region 3 with (fail)
  have y0 := lies_cell LX.out 0
  have y1 := lies_cell LX.out 1
  simp only [List.getElem?_toArray, List.getElem?_cons_zero, List.getElem?_cons_succ] at y0 y1
  generalize w1.alloc (.map #[] 0) = X at *
  generalize w1.heap.size = Mb at *
  have S0 := Lib.hid (stl_first (ns := ns) CX.out VX.out)
  clear CX VX
  go_wp2
  go_loopw [3, 19] (fun v3 v19 wr => ∃ j : Nat, j ≤ n ∧ v19 = .int .i64 (j : Int) ∧ StlAt wr B X.heap.size (.slice A1 n C1) (.slice A2 m C2) v3 D ms fs j ∧ NumAt wr Mb j (ordF fs.length (ms.take j)) ∧ Lies wr T 25 #[.slice A1 n C1, .slice A2 m C2] ∧ Below B w wr ∧ X.heap.size ≤ wr.heap.size) (fun _ v19 _ => n - (intOf v19).toNat)
  case atStart => exact ⟨0, Nat.zero_le _, rfl, S0.out, by simpa [ordF] using NX.out, LX.out, BX.out, Nat.le_refl _⟩
  case round =>
    obtain ⟨j, hj, rfl, hS, hN, hL, hB, hX⟩ := hrel
    have HSJ := Lib.hid hS
    have HNJ := Lib.hid hN
    have HLJ := Lib.hid hL
    have HBJ := Lib.hid hB
    have HXJ := Lib.hid hX
    clear hS hN hL hB hX y0 y1 S0 NX LX BX
    by_cases hlt : j < n
    · have lj : (j : Int) < (n : Int) := by omega
      have lm : j < ms.length := by have := MS.out; omega
      have cn := HSJ.out.nodes
      rw [MS.out] at cn
      obtain ⟨g, rfl⟩ := own_at cn (by omega)
      have lc : j < (cur fs.length ms j).length := by rw [cur_len]; exact lm
      have e0 := (cn.cellAt (j * 3) (by omega)).trans (ncells_at (cur fs.length ms j) j lc).1
      have e1 := (cn.cellAt (j * 3 + 1) (by omega)).trans (ncells_at (cur fs.length ms j) j lc).2.1
      have e2 := (cn.cellAt (j * 3 + 2) (by omega)).trans (ncells_at (cur fs.length ms j) j lc).2.2
      rw [cur_get lm] at e0 e1 e2
      obtain ⟨hgB, csg, hgg⟩ := own_heap cn g rfl
      have GG := Lib.hid (show Lies wr g 54 csg from hgg)
      have CSZ := Lib.hid (show ∃ z, csg[j * 3 + 1]? = some z from ⟨_, (lies_cell (show Lies wr g 54 csg from hgg) (j * 3 + 1)).symm.trans e1⟩)
      have GB := Lib.hid hgB
      clear cn lc hgg hgB
      obtain ⟨x, hx⟩ : ∃ x, x = ms[j] := ⟨_, rfl⟩
      rw [← hx] at e0 e1 e2
      have HX := Lib.hid hx
      clear hx
      obtain ⟨p, f, md⟩ := x
      have e0 : wr.cell? ⟨g, j * 3, none⟩ = some (St p) := e0
      have e1 : wr.cell? ⟨g, j * 3 + 1, none⟩ = some (.int .i64 f) := e1
      have e2 : wr.cell? ⟨g, j * 3 + 2, none⟩ = some (.int .i64 md) := e2
      have LM := Lib.hid (node_range (p := p) e0 e1 e2)
      clear e0 e1 e2
      have LN := Lib.hid (lies_new wr 54 #[.string { data := #[] }, .int .i64 0, .int .i64 0])
      have ES := Lib.hid (setRow_alloc wr 54 #[.string { data := #[] }, .int .i64 0, .int .i64 0] #[St p, .int .i64 f, .int .i64 md])
      go_upto_region 6 with (first
        | (refine wpList_load_mid rfl 54 _ rfl g (j * 3) rfl [St p, .int .i64 f, .int .i64 md] _ LM.out Try.underlying54 rfl (by kernel_rfl) ?_)
        | (refine wpList_store_row rfl 54 _ _ rfl wr.heap.size #[St p, .int .i64 f, .int .i64 md] rfl rfl 54 _ LN.out (by kernel_rfl) rfl (by simp [Value.oneCell', St]) ?_; rw [ES.out]))
      have LY := Lib.hid (lies_new wr 54 #[St p, .int .i64 f, .int .i64 md])
      have bY : Below wr.heap.size wr (wr.alloc (.cells #[St p, .int .i64 f, .int .i64 md] 54)) := (Below.refl _ _).alloc (Nat.le_refl _) _
      have SY := Lib.hid (stl_below HSJ.out bY)
      have NY := Lib.hid (num_same HNJ.out (bY.block Mb (num_lt HNJ.out)))
      have TY := Lib.hid (lies_below HLJ.out bY (lies_lt HLJ.out))
      have GY := Lib.hid (lies_below GG.out bY (lies_lt GG.out))
      have BY := Lib.hid (HBJ.out.trans (bY.mono (Nat.le_trans wB.out HBJ.out.size)))
      have XY := Lib.hid (Nat.le_trans HXJ.out bY.size)
      have ZS := Lib.hid (show wr.heap.size < (wr.alloc (.cells #[St p, .int .i64 f, .int .i64 md] 54)).heap.size from by simp)
      clear LM LN ES bY HSJ HNJ HLJ HBJ HXJ GG
      generalize wr.alloc (.cells #[St p, .int .i64 f, .int .i64 md] 54) = Y at *
      generalize wr.heap.size = S5 at *
      have s1 := lies_cell LY.out 1
      have t1 := lies_cell TY.out 1
      simp only [List.getElem?_toArray, List.getElem?_cons_zero, List.getElem?_cons_succ] at s1 t1
      have nosteps : hasF fs.length ms[j] = false → Hid (∀ q, StlAt (Y.drewN q) B X.heap.size (.slice (some ⟨g, 0, none⟩) n C1) (.slice A2 m C2) u3 D ms fs (j + 1) ∧ NumAt (Y.drewN q) Mb (j + 1) (ordF fs.length (ms.take (j + 1)))) := fun hno => Lib.hid (fun q => ⟨stl_no (stl_below SY.out (below_drewN (Below.refl _ _) q)) lm hno, by
        rw [ord_no lm hno]
        exact num_mono (num_same NY.out ((below_drewN (Below.refl Y.heap.size Y) q).block Mb (num_lt NY.out))) (by omega)⟩)
      by_cases hf0 : f < 0
      · have NS := nosteps (by rw [← HX.out]; exact decide_eq_false (by simp; omega))
        clear nosteps
        go_quiet (fail)
        go_wp2
        go_roundw
        case rel => exact ⟨j + 1, by omega, by go_num, (NS.out _).1, (NS.out _).2, lies_below TY.out (below_drewN (Below.refl _ _) _) (lies_lt TY.out), below_drewN BY.out _, XY.out⟩
        case measure => first | (simp [intOf]; done) | (simp [intOf]; omega)
      by_cases hf1 : (m : Int) ≤ f
      · have NS := nosteps (by rw [← HX.out]; exact decide_eq_false (by have := ME.out; simp; omega))
        clear nosteps
        go_quiet (fail)
        go_wp2
        go_roundw
        case rel => exact ⟨j + 1, by omega, by go_num, (NS.out _).1, (NS.out _).2, lies_below TY.out (below_drewN (Below.refl _ _) _) (lies_lt TY.out), below_drewN BY.out _, XY.out⟩
        case measure => first | (simp [intOf]; done) | (simp [intOf]; omega)
      obtain ⟨fi, rfl⟩ : ∃ fi : Nat, f = fi := ⟨f.toNat, by omega⟩
      have fl2 : fi < m := by omega
      have flm : (fi : Int) < (m : Int) := by omega
      have YES := Lib.hid (show hasF fs.length ms[j] = true from by rw [← HX.out]; exact decide_eq_true (by have := ME.out; simp; omega))
      have FX := Lib.hid (show ms[j].file = (fi : Int) from by rw [← HX.out])
      clear nosteps
      go_quiet (fail)
      have bq := fun q => below_drewN (Below.refl Y.heap.size Y) q
      have SY := Lib.hid (stl_below SY.out (bq nq))
      have NY := Lib.hid (num_same NY.out ((bq nq).block Mb (num_lt NY.out)))
      have TY := Lib.hid (lies_below TY.out (bq nq) (lies_lt TY.out))
      have GY := Lib.hid (lies_below GY.out (bq nq) (lies_lt GY.out))
      have LY := Lib.hid (lies_below LY.out (bq nq) (lies_lt LY.out))
      have BY := Lib.hid (BY.out.trans ((bq nq).mono (Nat.le_trans wB.out BY.out.size)))
      have XY : Hid (X.heap.size ≤ (Y.drewN nq).heap.size) := XY
      clear bq s1 t1 ZS
      generalize Y.drewN nq = Y at *
      have s1 := lies_cell LY.out 1
      have t0 := lies_cell TY.out 0
      have t1 := lies_cell TY.out 1
      simp only [List.getElem?_toArray, List.getElem?_cons_zero, List.getElem?_cons_succ] at s1 t0 t1
      obtain ⟨c, hlk, hc⟩ := num_look NY.out (fi : Int) (wf_int (by omega) (by have := ME.out; omega))
      by_cases hm : (fi : Int) ∈ ordF fs.length (ms.take j)
      · rw [decide_eq_true hm] at hlk
        have LK := Lib.hid hlk
        have CI := Lib.hid (hc hm)
        have S6 : Hid (StlAt (Y.setCell ⟨g, j * 3 + 1, none⟩ (.int .i64 c)) B X.heap.size (.slice (some ⟨g, 0, none⟩) n C1) (.slice A2 m C2) u3 D ms fs (j + 1)) := by
          have h3 := SY.out
          rw [← MS.out] at h3
          have hm' : ms[j].file ∈ ordF fs.length (ms.take j) := by rw [FX.out]; exact hm
          have h4 := stl_store h3.nodes h3.olds h3.data h3.apart h3.before lm YES.out (stl_old h3 lm hm')
          rw [ord_old lm hm', FX.out, ← CI.out, MS.out] at h4
          exact Lib.hid h4
        have N6 : Hid (NumAt (Y.setCell ⟨g, j * 3 + 1, none⟩ (.int .i64 c)) Mb (j + 1) (ordF fs.length (ms.take (j + 1)))) := by
          have hm' : ms[j].file ∈ ordF fs.length (ms.take j) := by rw [FX.out]; exact hm
          rw [ord_old lm hm']
          refine Lib.hid (num_mono (num_same NY.out (heap_setCell_other Y ⟨g, j * 3 + 1, none⟩ Mb _ (fun e => ?_))) (by omega))
          obtain ⟨q, hq, hw⟩ := num_map NY.out
          have e : Mb = g := e
          subst e
          rw [show _ = _ from GY.out] at hq
          injection hq with hq
          subst hq
          cases hw
        have T6 := Lib.hid (lies_far (p := ⟨g, j * 3 + 1, none⟩) TY.out (fun e => by
          have e : T = g := e
          subst e
          have h3 := (show Y.heap[T]? = _ from TY.out).symm.trans (show Y.heap[T]? = _ from GY.out)
          injection h3 with h3
          injection h3 with _ h4 _
          exact absurd h4 (by decide)) (.int .i64 c))
        have B6 := Lib.hid (below_setCell BY.out (p := ⟨g, j * 3 + 1, none⟩) GB.out (.int .i64 c))
        have X6 : Hid (X.heap.size ≤ (Y.setCell ⟨g, j * 3 + 1, none⟩ (.int .i64 c)).heap.size) := Lib.hid (Nat.le_trans XY.out (by simp))
        have hcell := lies_cell GY.out (j * 3 + 1)
        have hfr := lies_free GY.out (j * 3 + 1)
        obtain ⟨z, hz⟩ := CSZ.out
        rw [hz] at hcell
        clear hc hlk hz
        go_wp2_with (at_lookup; refine wpList_lookup_eq rfl _ _ 96 rfl (.map (some Mb)) (.int .i64 (fi : Int)) (.tuple #[.int .i64 c, .bool true]) rfl rfl LK.out ?_)
        go_roundw
        case rel => exact ⟨j + 1, by omega, by go_num, S6.out, N6.out, T6.out, B6.out, X6.out⟩
        case measure => first | (simp [intOf]; done) | (simp [intOf]; omega)
      · rw [decide_eq_false hm] at hlk
        have LK := Lib.hid hlk
        have OL := ordF_len fs.length (ms.take j)
        obtain ⟨w5, hr5, hn5, hg5⟩ := num_put NY.out (fi : Int) (wf_int (by omega) (by have := ME.out; omega)) (by omega) (by have := ME.out; omega) hm
        obtain ⟨q5, hq5, hw5⟩ := num_map NY.out
        have SV := stl_map SY.out hq5 hw5 hg5
        have nM : ∀ (r : Nat) (cs : Array Value) (t : TypeId), Y.heap[r]? = some (.cells cs t (0, 0)) → w5.heap[r]? = some (.cells cs t (0, 0)) := fun r cs t h => (hg5.block r (Array.getElem?_eq_some_iff.1 h).1 (fun e => by
          injection e with e
          subst e
          rw [hq5] at h
          injection h with h
          subst h
          cases hw5)).trans h
        have TV := Lib.hid (show Lies w5 T 25 _ from nM T _ 25 TY.out)
        have GV := Lib.hid (show Lies w5 g 54 csg from nM g _ 54 GY.out)
        have LV := Lib.hid (show Lies w5 S5 54 _ from nM S5 _ 54 LY.out)
        have BV := Lib.hid (BY.out.grown hg5 (Nat.le_trans wB.out BY.out.size) (fun k e => by injection e with e; subst e; exact MB.out))
        have XV := Lib.hid (Nat.le_trans XY.out hg5.size)
        have R5 := Lib.hid hr5
        have N5 := Lib.hid hn5
        obtain ⟨A3, C3, rfl⟩ := own_slice SV.news
        have SVH := Lib.hid SV
        obtain ⟨L, hL⟩ : ∃ L, L = (ordF fs.length (ms.take j)).length := ⟨_, rfl⟩
        rw [← hL] at R5 SVH SV ⊢
        have LL := Lib.hid hL
        have OLM := Lib.hid OL
        clear SY NY TY GY LY BY XY hr5 hn5 hg5 hq5 hw5 nM hc hlk OL hL SV
        go_upto_region 11 with (first
          | (at_lookup; refine wpList_lookup_eq rfl _ _ 96 rfl (.map (some Mb)) (.int .i64 (fi : Int)) (.tuple #[.int .i64 c, .bool false]) rfl rfl LK.out ?_)
          | (at_mapUpdate; refine wpList_put_eq rfl _ _ _ 96 rfl (.map (some Mb)) (.int .i64 (fi : Int)) (.int .i64 (L : Nat)) rfl rfl rfl R5.out ?_))
        have i1x := info_parts file_info2
        have olds := SVH.out.olds
        rw [ME.out] at olds
        obtain ⟨gF, rfl⟩ := own_at olds (by omega)
        have fl : fi < fs.length := by have := ME.out; omega
        have g0 := (olds.cellAt (fi * 2) (by omega)).trans (fcells_at D fs fi fl).1
        have g1 := (olds.cellAt (fi * 2 + 1) (by omega)).trans (fcells_at D fs fi fl).2
        have od := SVH.out.data fi fl
        have eY : fs.getD fi ⟨0, []⟩ = fs[fi] := by simp [List.getD_eq_getElem?_getD, List.getElem?_eq_getElem fl]
        have EY := Lib.hid eY
        rw [eY] at od
        obtain ⟨DA, dc, eD, _⟩ := own_bytes od
        rw [eD] at g1
        have ED := Lib.hid eD
        clear od eY eD
        obtain ⟨fm, hfm⟩ : ∃ fm, fm = fs[fi].mode := ⟨_, rfl⟩
        obtain ⟨dl, hdl⟩ : ∃ dl, dl = fs[fi].data.length := ⟨_, rfl⟩
        rw [← hfm] at g0
        rw [← hdl] at g1 ED
        have FM := Lib.hid hfm
        clear hfm hdl
        obtain ⟨i1, hj1, hz1, hs1, hb1⟩ := i1x
        have gA : w5.grownBy w5.drew none := ⟨rfl, rfl, rfl, Nat.le_refl _, fun _ _ _ => rfl⟩
        have gB : w5.grownBy (w5.drew.alloc (.cells #[.int .i64 fm, .slice DA dl dc] 57)) none := World.grownBy.trans gA (World.grownBy_alloc w5.drew (.cells #[.int .i64 fm, .slice DA dl dc] 57) none)
        have nw := SVH.out.news
        rw [← LL.out] at nw
        have rB : (w5.drew.alloc (.cells #[.int .i64 fm, .slice DA dl dc] 57)).ownsRow X.heap.size 57 2 (.slice A3 L C3) L (fcells (newD D (ordF fs.length (ms.take j))) (setF (ms.take j) fs)) := nw.kept gB (by cases (Value.slice A3 L C3).ownBlock <;> simp)
        have LB := lies_new w5.drew 57 #[.int .i64 fm, .slice DA dl dc]
        have lsm : L ≤ 1000 := by have := OLM.out; have := LL.out; have := ME.out; omega
        obtain ⟨vG, Z, hr, ho, hg, _⟩ := run_append_own (P := Try.prog) (w5.drew.alloc (.cells #[.int .i64 fm, .slice DA dl dc] 57)) X.heap.size 23 23 57 i1 _ 2 32 Try.underlying23 hj1 hz1 hs1 hb1 rfl (by decide) (.slice A3 L C3) L (fcells (newD D (ordF fs.length (ms.take j))) (setF (ms.take j) fs)) rB ⟨w5.drew.heap.size, 0, none⟩ 1 1 [.int .i64 fm, .slice DA dl dc] rfl (fun q u hq => by
          match q, hq with
          | 0, hq => injection hq with hq; subst hq; exact lies_cell LB 0
          | 1, hq => injection hq with hq; subst hq; exact lies_cell LB 1
          | q + 2, hq => simp at hq) (fun u hu => by simp at hu; rcases hu with h | h <;> subst h <;> rfl) (by unfold maxLen; omega) (by omega) (Nat.le_trans XV.out gB.size)
        obtain ⟨Ag, Cg, rfl⟩ := own_slice ho
        have gZ : w5.grownBy Z (Value.slice A3 L C3).ownBlock := (World.grownBy.but gB _).trans hg
        have blk : ∀ r, (Value.slice A3 L C3).ownBlock = some r → X.heap.size ≤ r ∧ ∃ cs, w5.heap[r]? = some (.cells cs 57 (0, 0)) := fun r e => own_heap nw r e
        have nT : ∀ (r : Nat) (cs : Array Value) (t : TypeId), w5.heap[r]? = some (.cells cs t (0, 0)) → t ≠ 57 → Z.heap[r]? = some (.cells cs t (0, 0)) := fun r cs t h ht => (gZ.block r (Array.getElem?_eq_some_iff.1 h).1 (fun e => by
          obtain ⟨_, cs', h3⟩ := blk r e.symm
          rw [h] at h3
          injection h3 with h3
          injection h3 with _ h4 _
          exact ht h4)).trans h
        have ap := stl_app (v3' := .slice Ag (L + 1) Cg) SVH.out lm YES.out (by rw [FX.out]; exact hm) gZ (by
          rw [FX.out, ← LL.out, Int.toNat_natCast, EY.out, ED.out, ← FM.out]
          exact ho)
        obtain ⟨a1, a2, a3, a4⟩ := ap
        have TZ := Lib.hid (show Lies Z T 25 _ from nT T _ 25 TV.out (by decide))
        have GZ := Lib.hid (show Lies Z g 54 csg from nT g _ 54 GV.out (by decide))
        have LZ := Lib.hid (show Lies Z S5 54 _ from nT S5 _ 54 LV.out (by decide))
        have BZ := Lib.hid (BV.out.grown gZ (Nat.le_trans wB.out BV.out.size) (fun k e => Nat.le_trans (Nat.le_trans MB.out XMB.out) (blk k e).1))
        have XZ := Lib.hid (Nat.le_trans XV.out gZ.size)
        have NZ : Hid (NumAt Z Mb (j + 1) (ordF fs.length (ms.take (j + 1)))) := by
          rw [ord_new lm YES.out (by rw [FX.out]; exact hm), FX.out]
          obtain ⟨q, hq, hw⟩ := num_map N5.out
          refine Lib.hid (num_same N5.out (gZ.block Mb (num_lt N5.out) (fun e => ?_)))
          obtain ⟨_, cs', h3⟩ := blk Mb e.symm
          rw [hq] at h3
          injection h3 with h3
          subst h3
          cases hw
        have IX : Hid ((ordF fs.length (ms.take (j + 1))).idxOf ms[j].file = L) := Lib.hid (by
          rw [ord_new lm YES.out (by rw [FX.out]; exact hm), FX.out, List.idxOf_append, if_neg hm, ← LL.out]
          simp)
        have S6 : Hid (StlAt (Z.setCell ⟨g, j * 3 + 1, none⟩ (.int .i64 (L : Nat))) B X.heap.size (.slice (some ⟨g, 0, none⟩) n C1) (.slice (some ⟨gF, 0, none⟩) m C2) (.slice Ag (L + 1) Cg) D ms fs (j + 1)) := by
          rw [← MS.out] at a1
          have h4 := stl_store a1 a2 a3 SVH.out.apart SVH.out.before lm YES.out a4
          rw [IX.out, MS.out] at h4
          exact Lib.hid h4
        have T6 := Lib.hid (lies_far (p := ⟨g, j * 3 + 1, none⟩) TZ.out (fun e => by
          have e : T = g := e
          subst e
          have h3 := (show Z.heap[T]? = _ from TZ.out).symm.trans (show Z.heap[T]? = _ from GZ.out)
          injection h3 with h3
          injection h3 with _ h4 _
          exact absurd h4 (by decide)) (.int .i64 (L : Nat)))
        have N6 : Hid (NumAt (Z.setCell ⟨g, j * 3 + 1, none⟩ (.int .i64 (L : Nat))) Mb (j + 1) (ordF fs.length (ms.take (j + 1)))) := Lib.hid (num_same NZ.out (heap_setCell_other Z ⟨g, j * 3 + 1, none⟩ Mb _ (fun e => by
          obtain ⟨q, hq, hw⟩ := num_map NZ.out
          have e : Mb = g := e
          subst e
          rw [show _ = _ from GZ.out] at hq
          injection hq with hq
          subst hq
          cases hw)))
        have B6 := Lib.hid (below_setCell BZ.out (p := ⟨g, j * 3 + 1, none⟩) GB.out (.int .i64 (L : Nat)))
        have X6 : Hid (X.heap.size ≤ (Z.setCell ⟨g, j * 3 + 1, none⟩ (.int .i64 (L : Nat))).heap.size) := Lib.hid (Nat.le_trans XZ.out (by simp))
        have cA : ∀ (r k : Nat) (cs : Array Value) (t : TypeId) (u : Value), w5.heap[r]? = some (.cells cs t (0, 0)) → cs[k]? = some u → w5.drew.cell? ⟨r, k, none⟩ = some u ∧ (w5.drew.alloc (.cells #[.int .i64 fm, .slice DA dl dc] 57)).cell? ⟨r, k, none⟩ = some u := fun r k cs t u h hu => ⟨(cell_of_row w5 r k cs t (0, 0) h).trans hu, (cell_of_row _ r k cs t (0, 0) ((gB.block r (Array.getElem?_eq_some_iff.1 h).1 (by simp)).trans h)).trans hu⟩
        obtain ⟨kF, csF, hgF⟩ := own_heap olds gF rfl
        have zF : Z.heap[gF]? = some (.cells csF 57 (0, 0)) := (gZ.block gF (Array.getElem?_eq_some_iff.1 hgF).1 (fun e => by
          have h3 := (blk gF e.symm).1
          have h4 := SVH.out.before gF rfl
          omega)).trans hgF
        have F4 := Lib.hid (fun (l : Array Bool) => stc_all (i := 9) (j := 10) (k := 99) (A := w5.drew) (B := w5.drew.alloc (.cells #[.int .i64 fm, .slice DA dl dc] 57)) (C := Z) (D := Z) (l := l) (fun W => W.cell? ⟨T, 1, none⟩ = some (.slice (some ⟨gF, 0, none⟩) m C2)) (cA T 1 _ 25 _ TV.out rfl).1 (cA T 1 _ 25 _ TV.out rfl).2 (lies_cell TZ.out 1) (fun _ => lies_cell TZ.out 1))
        have F6 := Lib.hid (fun (l : Array Bool) => stc_all (i := 9) (j := 10) (k := 99) (A := w5.drew) (B := w5.drew.alloc (.cells #[.int .i64 fm, .slice DA dl dc] 57)) (C := Z) (D := Z) (l := l) (fun W => W.cell? ⟨S5, 1, none⟩ = some (.int .i64 (fi : Int))) (cA S5 1 _ 54 _ LV.out rfl).1 (cA S5 1 _ 54 _ LV.out rfl).2 (lies_cell LZ.out 1) (fun _ => lies_cell LZ.out 1))
        have c0 := (cell_of_row w5 gF (fi * 2) csF 57 (0, 0) hgF).symm.trans g0
        have c1 := (cell_of_row w5 gF (fi * 2 + 1) csF 57 (0, 0) hgF).symm.trans g1
        have rZ : Z.rangeAt gF (fi * 2) [.int .i64 fm, .slice DA dl dc] := file_range ((cell_of_row Z gF (fi * 2) csF 57 (0, 0) zF).trans c0) ((cell_of_row Z gF (fi * 2 + 1) csF 57 (0, 0) zF).trans c1)
        have F8 := Lib.hid (fun (l : Array Bool) => stc_all (i := 9) (j := 10) (k := 99) (A := w5.drew) (B := w5.drew.alloc (.cells #[.int .i64 fm, .slice DA dl dc] 57)) (C := Z) (D := Z) (l := l) (fun W => W.rangeAt gF (fi * 2) [.int .i64 fm, .slice DA dl dc]) (file_range (cA gF _ _ 57 _ hgF c0).1 (cA gF _ _ 57 _ hgF c1).1) (file_range (cA gF _ _ 57 _ hgF c0).2 (cA gF _ _ 57 _ hgF c1).2) rZ (fun _ => rZ))
        have HR := Lib.hid hr
        have hcell := lies_cell GZ.out (j * 3 + 1)
        have hfr := lies_free GZ.out (j * 3 + 1)
        obtain ⟨z, hz⟩ := CSZ.out
        rw [hz] at hcell
        have HCL := Lib.hid hcell
        have HFR := Lib.hid hfr
        have tz0 := lies_cell TZ.out 0
        have TZ0 := Lib.hid tz0
        clear gA gB nw rB LB ho hg gZ blk nT a1 a2 a3 a4 cA kF hgF zF c0 c1 rZ hr hz hcell hfr tz0 s1 t0 t1 g0 g1 olds
        refine wp_region_any (by kernel_rfl) ?_
        refine every_at (own := ownAll _) (vals := fun k => match k with | 0 => .slice A3 L C3 | 1 => .pointer (some ⟨T, 0, none⟩) | 2 => .pointer (some ⟨T, 0, none⟩) | 3 => .pointer (some ⟨T, 1, none⟩) | 4 => .slice (some ⟨gF, 0, none⟩) m C2 | 5 => .pointer (some ⟨S5, 1, none⟩) | 6 => .int .i64 (fi : Int) | 7 => .pointer (some ⟨gF, fi * 2, none⟩) | 8 => .agg #[.int .i64 fm, .slice DA dl dc] | 9 => .slice (some ⟨w5.drew.heap.size, 0, none⟩) 1 1 | 10 => .slice Ag (L + 1) Cg | 11 => .slice Ag (L + 1) Cg | _ => undef) id (fun l W => W = (Stc 9 10 99 (w5.drew) (w5.drew.alloc (.cells #[.int .i64 fm, .slice DA dl dc] 57)) (Z) (Z)) l) (acAll_of (by kernel_rfl)) (onAll_of (by kernel_rfl)) (dstAll_of (by kernel_rfl)) ?hop ?hend _ _ _ _ rfl (shut_none _) (of_decide_eq_true (by kernel_rfl)) (tabd_start (fun i => rep_false _ i)) rfl
        case hop =>
          intro x oi a w0 listed hoi hun hsz hcl hdeps ht hI
          have hx : x < 12 := (Array.getElem?_eq_some_iff.1 hoi).1
          have cx : x = 0 ∨ x = 1 ∨ x = 2 ∨ x = 3 ∨ x = 4 ∨ x = 5 ∨ x = 6 ∨ x = 7 ∨ x = 8 ∨ x = 9 ∨ x = 10 ∨ x = 11 := by omega
          have sz : listed.size = 12 := hsz
          have uj : listed.getD 10 false = true → listed.getD 9 false = true := fun h => hcl 10 _ rfl h ⟨9, .data⟩ (by simp) rfl
          have k0 : listed.getD 99 false = false := by rw [Array.getD_eq_getD_getElem?, Array.getElem?_eq_none (by omega)]; rfl
          have uk : listed.getD 99 false = true → listed.getD 10 false = true := fun h => by rw [k0] at h; cases h
          have u11 : listed.getD 11 false = true → listed.getD 0 false = true := fun h => hcl 11 _ rfl h ⟨0, .phase⟩ (by simp) rfl
          clear hcl
          obtain rfl | rfl | rfl | rfl | rfl | rfl | rfl | rfl | rfl | rfl | rfl | rfl := cx
          all_goals obtain rfl := Option.some.inj hoi
          · have e3 : a.eval (.tmp 3) = .slice A3 L C3 := (tabd_unlisted ht (t := 3) (of_decide_eq_true (by kernel_rfl)) (by kernel_rfl) (no_of u11 (by simp [hun]))).trans rfl
            exact .inl ⟨rfl, fun K hk => wp_val (v := .slice A3 L C3) (by generalize a.eval = ρ at *; unfold execOp; simp only [e3]; go_simp) (hk _ (hI.trans (stc_keep (by decide) (by decide) (by decide)).symm))⟩
          · have e0 : a.eval (.tmp 0) = .pointer (some ⟨T, 0, none⟩) := (tabd_old ht (t := 0) (of_decide_eq_true (by kernel_rfl)) (by kernel_rfl)).trans rfl
            exact .inl ⟨rfl, fun K hk => wp_val (v := .pointer (some ⟨T, 0, none⟩)) (by generalize a.eval = ρ at *; unfold execOp; simp only [e0]; go_simp) (hk _ (hI.trans (stc_keep (by decide) (by decide) (by decide)).symm))⟩
          · have d1 := hdeps ⟨1, .data⟩ (by simp) rfl
            have e53 : a.eval (.tmp 53) = .pointer (some ⟨T, 0, none⟩) := tabd_at ht (t := 53) (of_decide_eq_true (by kernel_rfl)) (by kernel_rfl) d1
            exact .inl ⟨rfl, fun K hk => wp_val (v := .pointer (some ⟨T, 0, none⟩)) (by generalize a.eval = ρ at *; unfold execOp; simp only [e53]; go_simp) (hk _ (hI.trans (stc_keep (by decide) (by decide) (by decide)).symm))⟩
          · have d2 := hdeps ⟨2, .data⟩ (by simp) rfl
            have e54 : a.eval (.tmp 54) = .pointer (some ⟨T, 0, none⟩) := tabd_at ht (t := 54) (of_decide_eq_true (by kernel_rfl)) (by kernel_rfl) d2
            exact .inl ⟨rfl, fun K hk => wp_val (v := .pointer (some ⟨T, 1, none⟩)) (by generalize a.eval = ρ at *; unfold execOp; simp only [e54]; go_simp) (hk _ (hI.trans (stc_keep (by decide) (by decide) (by decide)).symm))⟩
          · have d3 := hdeps ⟨3, .data⟩ (by simp) rfl
            have e55 : a.eval (.tmp 55) = .pointer (some ⟨T, 1, none⟩) := tabd_at ht (t := 55) (of_decide_eq_true (by kernel_rfl)) (by kernel_rfl) d3
            have h : w0.cell? ⟨T, 1, none⟩ = some (.slice (some ⟨gF, 0, none⟩) m C2) := by rw [hI]; exact F4.out listed
            exact .inl ⟨rfl, fun K hk => wp_val (v := .slice (some ⟨gF, 0, none⟩) m C2) (by clear hk hI hoi hdeps ht; generalize a.eval = ρ at *; unfold execOp; simp only [e55]; go_simp) (hk _ (hI.trans (stc_keep (by decide) (by decide) (by decide)).symm))⟩
          · have e5 : a.eval (.tmp 5) = .pointer (some ⟨S5, 0, none⟩) := (tabd_old ht (t := 5) (of_decide_eq_true (by kernel_rfl)) (by kernel_rfl)).trans rfl
            exact .inl ⟨rfl, fun K hk => wp_val (v := .pointer (some ⟨S5, 1, none⟩)) (by generalize a.eval = ρ at *; unfold execOp; simp only [e5]; go_simp) (hk _ (hI.trans (stc_keep (by decide) (by decide) (by decide)).symm))⟩
          · have d5 := hdeps ⟨5, .data⟩ (by simp) rfl
            have e57 : a.eval (.tmp 57) = .pointer (some ⟨S5, 1, none⟩) := tabd_at ht (t := 57) (of_decide_eq_true (by kernel_rfl)) (by kernel_rfl) d5
            have h : w0.cell? ⟨S5, 1, none⟩ = some (.int .i64 (fi : Int)) := by rw [hI]; exact F6.out listed
            exact .inl ⟨rfl, fun K hk => wp_val (v := .int .i64 (fi : Int)) (by clear hk hI hoi hdeps ht; generalize a.eval = ρ at *; unfold execOp; simp only [e57]; go_simp) (hk _ (hI.trans (stc_keep (by decide) (by decide) (by decide)).symm))⟩
          · have d4 := hdeps ⟨4, .data⟩ (by simp) rfl
            have d6 := hdeps ⟨6, .data⟩ (by simp) rfl
            have e56 : a.eval (.tmp 56) = .slice (some ⟨gF, 0, none⟩) m C2 := tabd_at ht (t := 56) (of_decide_eq_true (by kernel_rfl)) (by kernel_rfl) d4
            have e58 : a.eval (.tmp 58) = .int .i64 (fi : Int) := tabd_at ht (t := 58) (of_decide_eq_true (by kernel_rfl)) (by kernel_rfl) d6
            exact .inl ⟨rfl, fun K hk => wp_val (v := .pointer (some ⟨gF, fi * 2, none⟩)) (by generalize a.eval = ρ at *; unfold execOp; simp only [e56, e58]; go_simp) (hk _ (hI.trans (stc_keep (by decide) (by decide) (by decide)).symm))⟩
          · have d7 := hdeps ⟨7, .data⟩ (by simp) rfl
            have e59 : a.eval (.tmp 59) = .pointer (some ⟨gF, fi * 2, none⟩) := tabd_at ht (t := 59) (of_decide_eq_true (by kernel_rfl)) (by kernel_rfl) d7
            have h := F8.out listed
            rw [← hI] at h
            exact .inl ⟨rfl, fun K hk => wp_val (v := .agg #[.int .i64 fm, .slice DA dl dc]) (load_op 57 _ rfl gF (fi * 2) e59 [.int .i64 fm, .slice DA dl dc] _ h Try.underlying57 rfl (by kernel_rfl)) (hk _ (hI.trans (stc_keep (by decide) (by decide) (by decide)).symm))⟩
          · have d8 := hdeps ⟨8, .data⟩ (by simp) rfl
            have e60 : a.eval (.tmp 60) = .agg #[.int .i64 fm, .slice DA dl dc] := tabd_at ht (t := 60) (of_decide_eq_true (by kernel_rfl)) (by kernel_rfl) d8
            have hst : (Stc 9 10 99 (w5.drew) (w5.drew.alloc (.cells #[.int .i64 fm, .slice DA dl dc] 57)) (Z) (Z)) listed = w5.drew ∧ (Stc 9 10 99 (w5.drew) (w5.drew.alloc (.cells #[.int .i64 fm, .slice DA dl dc] 57)) (Z) (Z)) (listed.setIfInBounds 9 true) = w5.drew.alloc (.cells #[.int .i64 fm, .slice DA dl dc] 57) := stc_0 (by decide) (by decide) uj uk (by omega) hun
            have hw : w5.drew = w0 := (hI.trans hst.1).symm
            subst hw
            exact .inl ⟨rfl, fun K hk => wp_buildSlice 23 57 1 _ rfl #[.int .i64 fm, .slice DA dl dc] i1 _ Try.underlying23 hj1 hz1 (by rw [hs1]; decide) (by rw [hs1]; decide) (by rw [hs1]; simp only [List.map_toArray, List.map_cons, List.map_nil, e60]; kernel_rfl) (hk _ hst.2.symm)⟩
          · have d0 := hdeps ⟨0, .data⟩ (by simp) rfl
            have d9 := hdeps ⟨9, .data⟩ (by simp) rfl
            have e52 : a.eval (.tmp 52) = .slice A3 L C3 := tabd_at ht (t := 52) (of_decide_eq_true (by kernel_rfl)) (by kernel_rfl) d0
            have e61 : a.eval (.tmp 61) = .slice (some ⟨w5.drew.heap.size, 0, none⟩) 1 1 := tabd_at ht (t := 61) (of_decide_eq_true (by kernel_rfl)) (by kernel_rfl) d9
            have hst : (Stc 9 10 99 (w5.drew) (w5.drew.alloc (.cells #[.int .i64 fm, .slice DA dl dc] 57)) (Z) (Z)) listed = w5.drew.alloc (.cells #[.int .i64 fm, .slice DA dl dc] 57) ∧ (Stc 9 10 99 (w5.drew) (w5.drew.alloc (.cells #[.int .i64 fm, .slice DA dl dc] 57)) (Z) (Z)) (listed.setIfInBounds 10 true) = Z := stc_1 (by decide) (by decide) uk (by omega) hun d9
            have hw : w5.drew.alloc (.cells #[.int .i64 fm, .slice DA dl dc] 57) = w0 := (hI.trans hst.1).symm
            subst hw
            exact .inl ⟨rfl, fun K hk => wp_valT (v := .slice Ag (L + 1) Cg) (w' := Z) (app_op _ _ rfl e52 e61 HR.out) (hk _ hst.2.symm)⟩
          · have d10 := hdeps ⟨10, .data⟩ (by simp) rfl
            have e62 : a.eval (.tmp 62) = .slice Ag (L + 1) Cg := tabd_at ht (t := 62) (of_decide_eq_true (by kernel_rfl)) (by kernel_rfl) d10
            exact .inl ⟨rfl, fun K hk => wp_val (v := .slice Ag (L + 1) Cg) (by generalize a.eval = ρ at *; unfold execOp; simp only [e62]; go_simp) (hk _ (hI.trans (stc_keep (by decide) (by decide) (by decide)).symm))⟩
        case hend =>
          intro a w0 listed hall ht hI
          rw [tabd_fill ht (fun t i ho => hall i (ownAll_lt ho))]
          have hw : w0 = _ := hI.trans (stc_end3 (hall 10 (of_decide_eq_true (by kernel_rfl))))
          change Exit.then _ (Exit.inBlock _ (Exit.then _ _)) Exit.normal { tmps := (.pointer (some ⟨T, 0, none⟩) :: undef :: .map (some Mb) :: .slice Ag (L + 1) Cg :: .int .i64 (j : Int) :: .pointer (some ⟨S5, 0, none⟩) :: .int .i64 (L : Int) :: .bool false :: .pointer (some ⟨T, 0, none⟩) :: .pointer (some ⟨T, 0, none⟩) :: .pointer (some ⟨T, 0, none⟩) :: .slice (some ⟨g, 0, none⟩) n C1 :: .tuple #[] :: .map (some Mb) :: .pointer (some ⟨T, 0, none⟩) :: .pointer (some ⟨T, 0, none⟩) :: .pointer (some ⟨T, 0, none⟩) :: .slice (some ⟨g, 0, none⟩) n C1 :: .int .i64 (n : Int) :: .int .i64 (j : Int) :: .bool true :: .int .i64 (j : Int) :: .pointer (some ⟨g, j * 3, none⟩) :: .agg #[St p, .int .i64 (fi : Int), .int .i64 md] :: .pointer (some ⟨S5, 1, none⟩) :: .int .i64 (fi : Int) :: .bool false :: .bool false :: .pointer (some ⟨S5, 1, none⟩) :: .int .i64 (fi : Int) :: .pointer (some ⟨T, 0, none⟩) :: .pointer (some ⟨T, 0, none⟩) :: .pointer (some ⟨T, 1, none⟩) :: .slice (some ⟨gF, 0, none⟩) m C2 :: .int .i64 (m : Int) :: .bool false :: .bool false :: .tuple #[.int .i64 c, .bool false] :: .map (some Mb) :: .pointer (some ⟨S5, 1, none⟩) :: .int .i64 (fi : Int) :: .tuple #[.int .i64 c, .bool false] :: .int .i64 c :: .bool false :: .bool false :: .bool true :: .slice A3 L C3 :: .int .i64 (L : Int) :: .map (some Mb) :: .pointer (some ⟨S5, 1, none⟩) :: .int .i64 (fi : Int) :: .int .i64 (L : Int) :: .slice A3 L C3 :: .pointer (some ⟨T, 0, none⟩) :: .pointer (some ⟨T, 0, none⟩) :: .pointer (some ⟨T, 1, none⟩) :: .slice (some ⟨gF, 0, none⟩) m C2 :: .pointer (some ⟨S5, 1, none⟩) :: .int .i64 (fi : Int) :: .pointer (some ⟨gF, fi * 2, none⟩) :: .agg #[.int .i64 fm, .slice DA dl dc] :: .slice (some ⟨w5.drew.heap.size, 0, none⟩) 1 1 :: .slice Ag (L + 1) Cg :: u63 :: u64 :: u65 :: u66 :: u67 :: u68 :: u69 :: u70 :: u71 :: undef :: undef :: undef :: undef :: []).toArray, defers := [] } w0
          clear hall ht hI
          subst hw
          have hcell := HCL.out
          have hfr := HFR.out
          have tz0 := TZ0.out
          simp only [List.getElem?_toArray, List.getElem?_cons_zero, List.getElem?_cons_succ] at tz0
          clear HCL HFR TZ0 F4 F6 F8 HR
          go_wp2
          go_roundw
          case rel => exact ⟨j + 1, by omega, by go_num, S6.out, N6.out, T6.out, B6.out, X6.out⟩
          case measure => first | (simp [intOf]; done) | (simp [intOf]; omega)
    · have lj : ¬ (j : Int) < (n : Int) := by omega
      have CL := stl_last HSJ.out (by have := MS.out; omega) (Nat.le_trans MB.out XMB.out)
      obtain ⟨A3, C3, e3⟩ := own_slice CL.files
      subst e3
      generalize (setF ms fs).length = L at *
      have S6 := Lib.hid (copy_kept CL (grown_setCell wr T 1 (.slice A3 L C3)) (fun r e => by injection e with e; subst e; exact ⟨_, 25, HLJ.out, by decide, by decide, by decide⟩))
      have L6 : Hid (Lies (wr.setCell ⟨T, 1, none⟩ (.slice A3 L C3)) T 25 #[.slice A1 n C1, .slice A3 L C3]) := Lib.hid (lies_set HLJ.out 1 (.slice A3 L C3))
      have B6 := Lib.hid (below_setCell HBJ.out (p := ⟨T, 1, none⟩) HT.out (.slice A3 L C3))
      have y1 := lies_cell HLJ.out 1
      have f1 := lies_free HLJ.out 1
      simp only [List.getElem?_toArray, List.getElem?_cons_zero, List.getElem?_cons_succ] at y1
      clear CL
      go_wp2
      refine Go.Great.bodyPost_end0 rfl rfl ?_
      have S7 := S6.out
      rw [ME.out] at S7
      exact ⟨rfl, ms, HP.out, HO.out, _, L6.out, ⟨_, S7⟩, B6.out⟩
end Go.Proofs.Ytjagddhkoacipaa
