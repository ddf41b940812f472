/-
What is proved here: order's needs turned, with how many each has, by a contract.
-/
import Derived.Test.YtnbjfmkckebfgaaGreatOrp
import Derived.Test.YtnbjfmkckebfgaaGreatTrn
import Derived.Deep.Cut
import Derived.Deep.CutRange
set_option linter.unusedSimpArgs false
set_option linter.unusedVariables false
namespace Go.Proofs.YtnbjfmkckebfgaaGreat
open Go.Cmp Go.RowKit
def oRow (op : List Int) : Array Value := (op.map iV).toArray
/-- what is made: the row of lists, the lists, the counts -/
structure OtM (w : World) (R O : Nat) (vs : List Value) (T : Gr) (op : List Int) (wr : World) : Prop where
  row : Lies wr R 27 vs.toArray
  sep : Sep wr (w.heap.size + 2) vs (zg T)
  opn : Lies wr O 3 (oRow op)
  low : Below w.heap.size w wr
  ro : w.heap.size ≤ R ∧ w.heap.size ≤ O ∧ R < w.heap.size + 2 ∧ O < w.heap.size + 2
  ne : R ≠ O
  sz : w.heap.size + 2 ≤ wr.heap.size
theorem otM_app {w : World} {R O : Nat} {vs : List Value} {T : Gr} {op : List Int} {wr w1 : World} (h : OtM w R O vs T op wr) {v x : Nat} (hv : v < T.length) {o : Obj} {G C : Nat} (hg : (wr.alloc o).grownBy w1 (vs.getD v undef).ownBlock)
    (ho : OwnI w1 (w.heap.size + 2) (.slice (some ⟨G, 0, none⟩) ((nx T v).length + 1) C) (zs (nx T v) ++ [(x : Int)])) (hat : (vs.getD v undef).ownBlock = some G ∨ G = (wr.alloc o).heap.size) :
    OtM w R O (vs.set v (.slice (some ⟨G, 0, none⟩) ((nx T v).length + 1) C)) (putT x T v) op (w1.setCell ⟨R, v, none⟩ (.slice (some ⟨G, 0, none⟩) ((nx T v).length + 1) C)) := by
  have hvz : v < (zg T).length := by simpa using hv
  have hb : But (fun k => some k = (vs.getD v undef).ownBlock) wr w1 := ((But.refl _ wr).alloc o).trans (But.grown hg)
  have hlow : ∀ k, some k = (vs.getD v undef).ownBlock → w.heap.size + 2 ≤ k := fun k hk => (own_heap (h.sep.own v hvz) k hk.symm).1
  have e : zg (putT x T v) = (zg T).set v (zs (nx T v) ++ [(x : Int)]) := by unfold putT; rw [zg_set]; simp [zs]
  have hs : (wr.alloc o).heap.size = wr.heap.size + 1 := by simp
  have hro := h.ro
  have hsz := h.sz
  have h1 := h.sep.turn hvz hb ho (by
    rcases hat with h1 | h1
    · exact .inl h1.symm
    · exact .inr (fun k hk => by injection hk with hk; have hk' : G = k := hk; omega))
  have hR : Lies w1 R 27 vs.toArray := hb.lies h.row (fun x => by have := hlow R x; omega)
  have hO : Lies w1 O 3 (oRow op) := hb.lies h.opn (fun x => by have := hlow O x; omega)
  have hw : But (· = R) w1 (w1.setCell ⟨R, v, none⟩ (.slice (some ⟨G, 0, none⟩) ((nx T v).length + 1) C)) := (But.refl (· = R) w1).setCell (p := ⟨R, v, none⟩) (fun _ => rfl) _
  refine ⟨?_, ?_, hw.lies hO (fun e => h.ne e.symm), ?_, hro, h.ne, ?_⟩
  · have := lies_set hR v (.slice (some ⟨G, 0, none⟩) ((nx T v).length + 1) C)
    rwa [List.setIfInBounds_toArray] at this
  · rw [e]
    exact h1.but hw (fun u k hu hk x => by have := (own_heap (h1.own u hu) k hk).1; omega)
  · exact (h.low.trans (hb.below (by omega) (fun k hk => by have := hlow k hk; omega))).setCell (p := ⟨R, v, none⟩) hro.1 _
  · have := hb.size; simp [World.setCell]; omega
theorem otM_row {w : World} {R O : Nat} {vs : List Value} {T : Gr} {op : List Int} {wr w1 : World} (h : OtM w R O vs T op wr) {v : Nat} (hv : v < T.length) {o : Obj} (hg : (wr.alloc o).grownBy w1 (vs.getD v undef).ownBlock) : Lies w1 R 27 vs.toArray := by
  have hvz : v < (zg T).length := by simpa using hv
  have hb : But (fun k => some k = (vs.getD v undef).ownBlock) wr w1 := ((But.refl _ wr).alloc o).trans (But.grown hg)
  exact hb.lies h.row (fun x => by have := (own_heap (h.sep.own v hvz) R x.symm).1; have := h.ro; omega)
/-- a list of those that are made -/
theorem otM_at {w : World} {R O : Nat} {vs : List Value} {T : Gr} {op : List Int} {wr : World} (h : OtM w R O vs T op wr) {v : Nat} (hv : v < T.length) : ∃ A c, vs.getD v undef = .slice A (nx T v).length c ∧ wr.cell? ⟨R, v, none⟩ = some (.slice A (nx T v).length c) ∧ OwnI wr (w.heap.size + 2) (vs.getD v undef) (zs (nx T v)) ∧ vs.toArray[v]? = some (vs.getD v undef) := by
  have hvz : v < (zg T).length := by simpa using hv
  have ho := h.sep.own v hvz
  rw [zg_getD] at ho
  obtain ⟨A, c, e, _⟩ := ownI_cap ho
  rw [zs_len] at e
  have hl : v < vs.length := by rw [h.sep.len]; exact hvz
  have ha : vs.toArray[v]? = some (vs.getD v undef) := by
    rw [List.getElem?_toArray, List.getElem?_eq_getElem hl, List.getD_eq_getElem?_getD, List.getElem?_eq_getElem hl]
    rfl
  exact ⟨A, c, e, by rw [lies_cell h.row, ha, e], ho, ha⟩
theorem oRow_at (op : List Int) (i : Nat) (h : i < op.length) : (oRow op)[i]? = some (.int .i64 (op.getD i 0)) := by
  unfold oRow
  rw [List.getElem?_toArray, List.getElem?_map, List.getElem?_eq_getElem h, List.getD_eq_getElem?_getD, List.getElem?_eq_getElem h]
  rfl
theorem oRow_set (op : List Int) (i : Nat) (z : Int) : (oRow op).setIfInBounds i (.int .i64 z) = oRow (op.set i z) := by
  unfold oRow
  rw [List.setIfInBounds_toArray, List.map_set]
  rfl
theorem otM_set {w : World} {R O : Nat} {vs : List Value} {T : Gr} {op : List Int} {wr : World} (h : OtM w R O vs T op wr) (i : Nat) (z : Int) : OtM w R O vs T (op.set i z) (wr.setCell ⟨O, i, none⟩ (.int .i64 z)) := by
  have hw : But (· = O) wr (wr.setCell ⟨O, i, none⟩ (.int .i64 z)) := (But.refl (· = O) wr).setCell (p := ⟨O, i, none⟩) (fun _ => rfl) _
  have hro := h.ro
  refine ⟨hw.lies h.row h.ne, h.sep.but hw (fun u k hu hk x => by have := (own_heap (h.sep.own u hu) k hk).1; omega), ?_, h.low.setCell (p := ⟨O, i, none⟩) hro.2.1 _, hro, h.ne, by have := h.sz; simpa [World.setCell] using this⟩
  have := lies_set h.opn i (.int .i64 z)
  rwa [oRow_set] at this
/-- how many each of the first i needs -/
def opI (G : Gr) (i : Nat) : List Int := (List.range G.length).map fun k => if k < i then ((nx G k).length : Int) else 0
theorem opI_len (G : Gr) (i : Nat) : (opI G i).length = G.length := by simp [opI]
theorem opI_at (G : Gr) (i k : Nat) (h : k < G.length) : (opI G i).getD k 0 = if k < i then ((nx G k).length : Int) else 0 := by
  unfold opI
  rw [List.getD_eq_getElem?_getD, List.getElem?_map, List.getElem?_range h]; rfl
theorem opI_step (G : Gr) (i : Nat) (h : i < G.length) : (opI G i).set i ((nx G i).length : Int) = opI G (i + 1) := by
  refine set_eq _ _ _ _ (by rw [opI_len, opI_len]) (fun j hj => ?_)
  rw [opI_len] at hj
  rw [opI_at G _ j hj, opI_at G _ j hj]
  by_cases e : i = j
  · subst e; rw [if_pos rfl, if_pos (by omega)]
  · rw [if_neg e]
    by_cases e2 : j < i
    · rw [if_pos e2, if_pos (by omega)]
    · rw [if_neg e2, if_neg (by omega)]
theorem opI_end (G : Gr) : opI G G.length = opn0 G := by
  unfold opI opn0
  apply List.ext_getElem?
  intro j
  rw [List.getElem?_map, List.getElem?_map]
  by_cases h : j < G.length
  · rw [List.getElem?_range h, List.getElem?_eq_getElem h]
    show some (if j < G.length then ((nx G j).length : Int) else 0) = some (G[j].length : Int)
    rw [if_pos h]
    unfold nx
    rw [List.getD_eq_getElem?_getD, List.getElem?_eq_getElem h]
    rfl
  · rw [List.getElem?_eq_none (by simp; omega), List.getElem?_eq_none (by omega)]
    rfl
theorem opI_0 (G : Gr) : opI G 0 = List.replicate G.length 0 := by
  unfold opI
  apply List.ext_getElem?
  intro j
  rw [List.getElem?_map, List.getElem?_replicate]
  by_cases h : j < G.length
  · rw [List.getElem?_range h, if_pos h]; rfl
  · rw [List.getElem?_eq_none (by simp; omega), if_neg h]; rfl
/-- what the needs turned leave -/
def OtE (G : Gr) (w : World) (e : Ending) (w' : World) : Prop := ∃ R O vs, e = .returned (.tuple #[.slice (some ⟨R, 0, none⟩) G.length G.length, .slice (some ⟨O, 0, none⟩) G.length G.length]) ∧ OtM w R O vs (trI G G.length) (opn0 G) w'
theorem nxT_fold (i : Nat) : ∀ (l : List Nat) (T : Gr) (b : Nat), (∀ v, (nx T v).length ≤ b) → ∀ v, (nx (l.foldl (putT i) T) v).length ≤ b + l.length
  | [], T, b, hT, v => by simpa using hT v
  | x :: r, T, b, hT, v => by
    rw [List.foldl_cons]
    have := nxT_fold i r (putT i T x) (b + 1) (fun u => by
      unfold putT
      rw [nx_set]
      split
      · rename_i hh; rw [List.length_append]; have := hT x; simp; omega
      · have := hT u; omega) v
    simp only [List.length_cons]
    omega
theorem nxT_big (G : Gr) (hg : ∀ v, (nx G v).length ≤ 1024) (j : Nat) : ∀ i v, i ≤ j → (nx (trI G i) v).length ≤ i * 1024
  | 0, v, _ => by rw [show nx (trI G 0) v = [] from nx_none _ v]; simp
  | i + 1, v, h => by
    have ih := nxT_big G hg j i
    have := nxT_fold i (nx G i) (trI G i) (i * 1024) (fun u => ih u (by omega)) v
    have := hg i
    rw [trI]
    omega
set_option maxRecDepth 100000 in
set_option maxHeartbeats 4000000 in
theorem oturned_any (LA : Option Addr) (lc : Nat) (G : Gr) (hG : Ok G) (hn : G.length ≤ 1024) (hg : ∀ l ∈ G, l.length ≤ 1024) (w : World) (hL : LsAt w LA (zg G)) :
    Calls Tryz.prog 27 #[.slice LA G.length lc] w (OtE G w) := by
  have mk1 := fun W => mk_lists W G.length (by omega)
  have mk2 := fun W => mk_ints W G.length (by omega)
  have X0 : ∀ (R O : Nat) (W : World), Lies W R 27 (Array.replicate G.length (.slice none 0 0)) → Lies W O 3 (Array.replicate G.length (.int .i64 0)) → Below w.heap.size w W → w.heap.size ≤ R ∧ w.heap.size ≤ O ∧ R < w.heap.size + 2 ∧ O < w.heap.size + 2 → R ≠ O → w.heap.size + 2 ≤ W.heap.size → OtM w R O (List.replicate G.length nilV) (trI G 0) (opI G 0) W := fun R O W h1 h2 h3 h4 h5 h6 =>
    ⟨by rw [List.toArray_replicate]; exact h1, by have := sep_made W (w.heap.size + 2) G.length; simpa [zg, zs, trI] using this, by rw [opI_0]; unfold oRow; rw [List.map_replicate, List.toArray_replicate]; exact h2, h3, h4, h5, h6⟩
  have HX0 := Lib.hid X0
  obtain ⟨n, hnn⟩ : ∃ n, n = G.length := ⟨_, rfl⟩
  have HL := Lib.hid hL
  have HG := Lib.hid hG
  have HGL := Lib.hid (show ∀ v, (nx G v).length ≤ 1024 from fun v => by
    unfold nx
    rw [List.getD_eq_getElem?_getD]
    cases e : G[v]? with
    | none => simp
    | some l => exact hg l (List.mem_of_getElem? e))
  have HN := Lib.hid hnn
  rw [← hnn] at mk1 mk2 hn HX0 ⊢
  clear hL hG hg hnn X0
  go_enter Tryz.func27, Tryz.ntmps27
  go_upto_region 1 with (fail)
  go_cut [2, 3] from 8 to 13 (fun v2 v3 wx => ∃ R O, v2 = .slice (some ⟨R, 0, none⟩) n n ∧ v3 = .slice (some ⟨O, 0, none⟩) n n ∧ OtM w R O (List.replicate n nilV) (trI G 0) (opI G 0) wx)
  case first =>
    go_region
    all_goals go_wp2
    all_goals go_meet
    · refine ⟨w.heap.size, w.heap.size + 1, rfl, rfl, ?_⟩
      have l1 := lies_new w 27 (Array.replicate n (.slice none 0 0))
      have l2 := lies_new (w.alloc (.cells (Array.replicate n (.slice none 0 0)) 27)) 3 (Array.replicate n (.int .i64 0))
      rw [World.size_alloc] at l2
      exact HX0.out _ _ _ (lies_alloc l1 _) l2 (((Below.refl _ w).alloc (Nat.le_refl _) _).alloc (by simp) _).drew ⟨Nat.le_refl _, by omega, by omega, by omega⟩ (by omega) (by show w.heap.size + 2 ≤ (World.alloc _ _).heap.size; simp)
    · refine ⟨w.heap.size + 1, w.heap.size, rfl, rfl, ?_⟩
      have l1 := lies_new w 3 (Array.replicate n (.int .i64 0))
      have l2 := lies_new (w.alloc (.cells (Array.replicate n (.int .i64 0)) 3)) 27 (Array.replicate n (.slice none 0 0))
      rw [World.size_alloc] at l2
      exact HX0.out _ _ _ l2 (lies_alloc l1 _) (((Below.refl _ w).alloc (Nat.le_refl _) _).alloc (by simp) _).drew ⟨by omega, Nat.le_refl _, by omega, by omega⟩ (by omega) (by show w.heap.size + 2 ≤ (World.alloc _ _).heap.size; simp)
  case rest =>
    obtain ⟨R, O, rfl, rfl, hM⟩ := hcut
    have HM0 := Lib.hid hM
    clear hM mk1 mk2 HX0
    go_wp2
    go_loopw [16] (fun v16 wr => ∃ (i : Nat) (vs : List Value), i ≤ n ∧ v16 = .int .i64 (i : Int) ∧ OtM w R O vs (trI G i) (opI G i) wr) (fun v16 _ => n - (intOf v16).toNat)
    case atStart => exact ⟨0, _, Nat.zero_le _, rfl, HM0.out⟩
    case round =>
      obtain ⟨i, vs, hi, rfl, hM⟩ := hrel
      have HM := Lib.hid hM
      clear hM
      by_cases hlt : i < n
      · have li : (i : Int) < (n : Int) := by omega
        obtain ⟨b, o, A, c, eL, hbw, c2, hA, hAc⟩ := ls_at HL.out (v := i) (by have := HN.out; omega)
        replace c2 := (HM.out.low.cell (p := ⟨b, o + i, none⟩) hbw).trans c2
        subst eL
        obtain ⟨k, hk⟩ : ∃ k, k = (nx G i).length := ⟨_, rfl⟩
        have KE := Lib.hid hk
        have HA := Lib.hid hA
        have hk2 : k ≤ 1024 := by rw [hk]; exact HGL.out i
        rw [← hk] at c2
        have ci := (lies_cell HM.out.opn i).trans (oRow_at _ _ (by rw [opI_len, ← HN.out]; exact hlt))
        have fi := lies_free HM.out.opn i
        have HS := Lib.hid (show OtM w R O vs (trI G i) (opI G (i + 1)) (wr.setCell ⟨O, i, none⟩ (.int .i64 (k : Int))) by
          have := otM_set HM.out i (k : Int)
          rw [hk, opI_step G i (by rw [← HN.out]; exact hlt)] at this
          rw [hk]
          exact this)
        clear hk hA hAc hbw
        go_upto_region 6 with (fail)
        clear ci fi c2
        generalize wr.setCell ⟨O, i, none⟩ (.int .i64 (k : Int)) = W6 at *
        go_upto_region 7 with (fail)
        go_loopw [28] (fun v28 wq => ∃ (j : Nat) (vs : List Value), j ≤ k ∧ v28 = .int .i64 (j : Int) ∧ OtM w R O vs (((nx G i).take j).foldl (putT i) (trI G i)) (opI G (i + 1)) wq) (fun v28 _ => k - (intOf v28).toNat)
        case atStart => exact ⟨0, vs, Nat.zero_le _, rfl, HS.out⟩
        case round =>
          obtain ⟨j, vs2, hj, rfl, hM2⟩ := hrel
          by_cases hjl : j < k
          · have lj : (j : Int) < (k : Int) := by omega
            have hjg : j < (nx G i).length := by rw [← KE.out]; exact hjl
            obtain ⟨b2, o2, eA, hb2, c3⟩ := HA.out j (by simpa using hjg)
            replace c3 := (hM2.low.cell (p := ⟨b2, o2 + j, none⟩) hb2).trans c3
            have ez : (zs (nx G i))[j]'(by simpa using hjg) = ((nx G i)[j] : Int) := by simp [zs]
            rw [ez] at c3
            have hvg : (nx G i)[j] < n := by have := (nx_lt HG.out (List.getElem_mem hjg)).1; rw [HN.out]; exact this
            obtain ⟨v, hv⟩ : ∃ v, v = (nx G i)[j] := ⟨_, rfl⟩
            rw [← hv] at c3 hvg
            have hst : ((nx G i).take (j + 1)).foldl (putT i) (trI G i) = putT i (((nx G i).take j).foldl (putT i) (trI G i)) v := by
              rw [List.take_succ_eq_append_getElem hjg, List.foldl_append, hv]; rfl
            have hbig0 : ∀ u, (nx (((nx G i).take j).foldl (putT i) (trI G i)) u).length ≤ 100000000 := fun u => by
              have h1 := nxT_fold i ((nx G i).take j) (trI G i) (i * 1024) (nxT_big G HGL.out i i · (Nat.le_refl _)) u
              have h2 : i * 1024 ≤ 1024 * 1024 := Nat.mul_le_mul_right 1024 (by omega)
              have h3 : ((nx G i).take j).length ≤ 1024 := by rw [List.length_take]; omega
              omega
            have hTl : (((nx G i).take j).foldl (putT i) (trI G i)).length = n := by rw [foldT_len, trI_len, HN.out]
            obtain ⟨T2, hT2⟩ : ∃ T2, T2 = ((nx G i).take j).foldl (putT i) (trI G i) := ⟨_, rfl⟩
            rw [← hT2] at hM2 hst hbig0 hTl
            have HT2 := Lib.hid hT2
            have hvT : v < T2.length := by rw [hTl]; exact hvg
            obtain ⟨A3, cc, e3, c4, o4, va⟩ := otM_at hM2 hvT
            have VA := Lib.hid va
            clear va
            have hbig := hbig0 v
            obtain ⟨VV, hVV⟩ : ∃ VV, VV = vs2.getD v undef := ⟨_, rfl⟩
            rw [← e3, ← hVV] at c4
            have LN := Lib.hid (lies_new wr 3 #[iV i])
            have OL := Lib.hid (show OwnI (wr.alloc (.cells #[iV i] 3)) (w.heap.size + 2) VV (zs (nx T2 v)) by rw [hVV]; exact World.ownsRow.alloc o4 _)
            have SZ := Lib.hid (show w.heap.size + 2 ≤ (wr.alloc (.cells #[iV i] 3)).heap.size by have := hM2.sz; simp; omega)
            have LB := Lib.hid (show (zs (nx T2 v)).length ≤ 100000000 by rw [zs_len]; exact hbig)
            have HM2 := Lib.hid hM2
            have E3 := Lib.hid hVV
            have HVT := Lib.hid hvT
            have HST := Lib.hid hst
            have vi : (v : Int) < (n : Int) := by omega
            subst eA
            clear hM2 e3 o4 hVV hv hbig hbig0 ez hb2 hvT hT2 hst hTl hjg
            unfold iV at *
            go_wp2_with (refine wpList_app_at rfl _ _ rfl (w.heap.size + 2) wr.heap.size i VV (zs (nx T2 v)) rfl OL.out rfl LN.out LB.out SZ.out ?_; intro G' C w1 h1 h2 h3; rw [E3.out] at h2 h3; have RW := otM_row HM2.out HVT.out h2; have fR := lies_free RW v; have cR := (lies_cell RW v).trans VA.out; have M1 := Lib.hid (otM_app HM2.out HVT.out h2 (by rw [zs_len] at h1; exact h1) h3); rw [zs_len]; clear h1 h2 h3 RW)
            go_roundw
            case rel => exact ⟨j + 1, _, by omega, by go_num, by have := M1.out; rw [HST.out]; exact this⟩
            case measure => first | (simp [intOf]; done) | (simp [intOf]; omega)
          · obtain rfl : j = k := by omega
            have lj : ¬ (j : Int) < (j : Int) := by omega
            have HM2 := Lib.hid hM2
            clear hM2
            go_wp2
            go_roundw
            case rel => exact ⟨i + 1, vs2, by omega, by go_num, by have := HM2.out; rw [KE.out, List.take_length] at this; rw [trI]; exact this⟩
            case measure => first | (simp [intOf]; done) | (simp [intOf]; omega)
      · obtain rfl : i = n := by omega
        have li : ¬ (i : Int) < (i : Int) := by omega
        go_wp2
        go_ret2
        refine ⟨R, O, vs, ?_, by have := HM.out; rw [HN.out, opI_end] at this; exact this⟩
        rw [← HN.out]
        rfl
end Go.Proofs.YtnbjfmkckebfgaaGreat
