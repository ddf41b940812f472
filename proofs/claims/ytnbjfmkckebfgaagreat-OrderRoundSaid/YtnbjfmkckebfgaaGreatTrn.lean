/-
What is proved here: package comp's lists turned, by a contract.
-/
import Derived.Test.YtnbjfmkckebfgaaGreatMks
import Derived.Test.YtnbjfmkckebfgaaGreatDow
set_option linter.unusedSimpArgs false
set_option linter.unusedVariables false
namespace Go.Cmp
/-- lists turned, as far as the first i lists and j numbers of the next -/
structure Tr (G : Gr) (i j : Nat) (T : Gr) : Prop where
  len : T.length = G.length
  mem : ∀ v x, x ∈ nx T v ↔ (x < i ∧ v ∈ nx G x) ∨ (x = i ∧ v ∈ (nx G i).take j)
  big : ∀ v, (nx T v).length ≤ i * 1024 + j
theorem nx_set (T : Gr) (v k : Nat) (l : List Nat) : nx (T.set v l) k = if v = k ∧ k < T.length then l else nx T k := by
  unfold nx
  rw [List.getD_eq_getElem?_getD, List.getElem?_set]
  by_cases e : v = k
  · subst e
    by_cases h : v < T.length
    · simp [h]
    · simp [h, List.getD_eq_getElem?_getD]
  · rw [if_neg e, if_neg (fun h => e h.1), ← List.getD_eq_getElem?_getD]
theorem tr_0 (G : Gr) : Tr G 0 0 (List.replicate G.length []) := by
  have e : ∀ v, nx (List.replicate G.length ([] : List Nat)) v = [] := fun v => by
    unfold nx
    rw [List.getD_eq_getElem?_getD, List.getElem?_replicate]
    split <;> rfl
  exact ⟨by simp, fun v x => by rw [e]; simp, fun v => by rw [e]; simp⟩
theorem tr_step {G : Gr} (hG : Ok G) {i j : Nat} {T : Gr} (h : Tr G i j T) (hi : i < G.length) (hj : j < (nx G i).length) : Tr G i (j + 1) (T.set (nx G i)[j] (nx T (nx G i)[j] ++ [i])) := by
  have hv : (nx G i)[j] < T.length := by rw [h.len]; exact (nx_lt hG (List.getElem_mem hj)).1
  refine ⟨by simp [h.len], fun v x => ?_, fun v => ?_⟩
  · rw [nx_set, List.take_succ_eq_append_getElem hj]
    by_cases e : (nx G i)[j] = v
    · subst e
      rw [if_pos ⟨rfl, hv⟩]
      simp only [List.mem_append, List.mem_singleton, h.mem]
      constructor
      · rintro ((h1 | h1) | h1)
        · exact .inl h1
        · exact .inr ⟨h1.1, .inl h1.2⟩
        · exact .inr ⟨h1, .inr trivial⟩
      · rintro (h1 | ⟨h1, h2 | h2⟩)
        · exact .inl (.inl h1)
        · exact .inl (.inr ⟨h1, h2⟩)
        · exact .inr h1
    · rw [if_neg (fun x => e x.1), h.mem]
      simp only [List.mem_append, List.mem_singleton]
      constructor
      · rintro (h1 | h1)
        · exact .inl h1
        · exact .inr ⟨h1.1, .inl h1.2⟩
      · rintro (h1 | ⟨h1, h2 | h2⟩)
        · exact .inl h1
        · exact .inr ⟨h1, h2⟩
        · exact absurd h2.symm e
  · rw [nx_set]
    have := h.big v
    split
    · rename_i hh
      rw [hh.1, List.length_append]; simp; omega
    · omega
set_option maxRecDepth 100000 in
theorem tr_next {G : Gr} {i : Nat} {T : Gr} (hb : (nx G i).length ≤ 1024) (h : Tr G i (nx G i).length T) : Tr G (i + 1) 0 T := by
  refine ⟨h.len, fun v x => ?_, fun v => by have := h.big v; omega⟩
  rw [h.mem, List.take_length]
  simp only [List.take_zero, List.not_mem_nil, and_false, or_false]
  constructor
  · rintro (h1 | ⟨rfl, h1⟩)
    · exact ⟨by omega, h1.2⟩
    · exact ⟨by omega, h1⟩
  · rintro ⟨h1, h2⟩
    by_cases e : x = i
    · subst e; exact .inr ⟨rfl, h2⟩
    · exact .inl ⟨by omega, h2⟩
/-- lists turned -/
structure Turned (G T : Gr) : Prop where
  len : T.length = G.length
  mem : ∀ v x, x ∈ nx T v ↔ v ∈ nx G x
theorem turned_of {G : Gr} {T : Gr} (h : Tr G G.length 0 T) : Turned G T := ⟨h.len, fun v x => by
  rw [h.mem]
  simp only [List.take_zero, List.not_mem_nil, and_false, or_false]
  refine ⟨fun h1 => h1.2, fun h1 => ⟨?_, h1⟩⟩
  rcases Nat.lt_or_ge x G.length with h2 | h2
  · exact h2
  · unfold nx at h1
    rw [List.getD_eq_getElem?_getD, List.getElem?_eq_none h2] at h1
    cases h1⟩
theorem ok_turned {G T : Gr} (h : Turned G T) : Ok T := fun l hl x hx => by
  obtain ⟨v, hv, rfl⟩ := List.getElem_of_mem hl
  have e : nx T v = T[v] := by unfold nx; rw [List.getD_eq_getElem?_getD, List.getElem?_eq_getElem hv]; rfl
  have := (h.mem v x).1 (by rw [e]; exact hx)
  rw [h.len]
  rcases Nat.lt_or_ge x G.length with h2 | h2
  · exact h2
  · unfold nx at this
    rw [List.getD_eq_getElem?_getD, List.getElem?_eq_none h2] at this
    cases this
end Go.Cmp
namespace Go.Proofs.YtnbjfmkckebfgaaGreat
open Go.Cmp Go.RowKit
theorem zg_getD (T : Gr) (v : Nat) : (zg T).getD v [] = zs (nx T v) := by
  unfold zg nx
  rw [List.getD_eq_getElem?_getD, List.getElem?_map, List.getD_eq_getElem?_getD]
  cases T[v]? <;> rfl
theorem zg_set (T : Gr) (v : Nat) (l : List Nat) : zg (T.set v l) = (zg T).set v (zs l) := by simp [zg, List.map_set]
/-- what is made: the row, and the lists in it -/
structure TrM (w : World) (R : Nat) (vs : List Value) (T : Gr) (wr : World) : Prop where
  row : Lies wr R 27 vs.toArray
  sep : Sep wr (R + 1) vs (zg T)
  low : Below R w wr
  sz : R + 1 ≤ wr.heap.size
theorem trM_app {w : World} {R : Nat} {vs : List Value} {T : Gr} {wr w1 : World} (h : TrM w R vs T wr) {v x : Nat} (hv : v < T.length) {o : Obj} {G C : Nat} (hg : (wr.alloc o).grownBy w1 (vs.getD v undef).ownBlock)
    (ho : OwnI w1 (R + 1) (.slice (some ⟨G, 0, none⟩) ((nx T v).length + 1) C) (zs (nx T v) ++ [(x : Int)])) (hat : (vs.getD v undef).ownBlock = some G ∨ G = (wr.alloc o).heap.size) :
    TrM w R (vs.set v (.slice (some ⟨G, 0, none⟩) ((nx T v).length + 1) C)) (T.set v (nx T v ++ [x])) (w1.setCell ⟨R, v, none⟩ (.slice (some ⟨G, 0, none⟩) ((nx T v).length + 1) C)) := by
  have hvz : v < (zg T).length := by simpa using hv
  have hb : But (fun k => some k = (vs.getD v undef).ownBlock) wr w1 := ((But.refl _ wr).alloc o).trans (But.grown hg)
  have hlow : ∀ k, some k = (vs.getD v undef).ownBlock → R + 1 ≤ k := fun k hk => (own_heap (h.sep.own v hvz) k hk.symm).1
  have e : zg (T.set v (nx T v ++ [x])) = (zg T).set v (zs (nx T v) ++ [(x : Int)]) := by rw [zg_set]; simp [zs]
  have hs : (wr.alloc o).heap.size = wr.heap.size + 1 := by simp
  have h1 := h.sep.turn hvz hb ho (by
    rcases hat with h1 | h1
    · exact .inl h1.symm
    · exact .inr (fun k hk => by injection hk with hk; have hk' : G = k := hk; omega))
  have hR : Lies w1 R 27 vs.toArray := hb.lies h.row (fun x => by have := hlow R x; omega)
  have hw : But (· = R) w1 (w1.setCell ⟨R, v, none⟩ (.slice (some ⟨G, 0, none⟩) ((nx T v).length + 1) C)) := (But.refl (· = R) w1).setCell (p := ⟨R, v, none⟩) (fun _ => rfl) _
  refine ⟨?_, ?_, ?_, ?_⟩
  · have := lies_set hR v (.slice (some ⟨G, 0, none⟩) ((nx T v).length + 1) C)
    rwa [List.setIfInBounds_toArray] at this
  · rw [e]
    exact h1.but hw (fun u k hu hk x => by have := (own_heap (h1.own u hu) k hk).1; omega)
  · exact (h.low.trans (hb.below (by have := h.sz; omega) (fun k hk => by have := hlow k hk; omega))).setCell (p := ⟨R, v, none⟩) (Nat.le_refl R) _
  · have := h.sz; have := hb.size; simp [World.setCell]; omega
theorem trM_row {w : World} {R : Nat} {vs : List Value} {T : Gr} {wr w1 : World} (h : TrM w R vs T wr) {v : Nat} (hv : v < T.length) {o : Obj} (hg : (wr.alloc o).grownBy w1 (vs.getD v undef).ownBlock) : Lies w1 R 27 vs.toArray := by
  have hvz : v < (zg T).length := by simpa using hv
  have hb : But (fun k => some k = (vs.getD v undef).ownBlock) wr w1 := ((But.refl _ wr).alloc o).trans (But.grown hg)
  exact hb.lies h.row (fun x => by have := (own_heap (h.sep.own v hvz) R x.symm).1; omega)
/-- a list of those that are made -/
theorem trM_at {w : World} {R : Nat} {vs : List Value} {T : Gr} {wr : World} (h : TrM w R vs T wr) {v : Nat} (hv : v < T.length) : ∃ A c, vs.getD v undef = .slice A (nx T v).length c ∧ wr.cell? ⟨R, v, none⟩ = some (.slice A (nx T v).length c) ∧ OwnI wr (R + 1) (vs.getD v undef) (zs (nx T v)) ∧ vs.toArray[v]? = some (vs.getD v undef) := by
  have hvz : v < (zg T).length := by simpa using hv
  have ho := h.sep.own v hvz
  rw [zg_getD] at ho
  obtain ⟨A, c, e, _⟩ := ownI_cap ho
  rw [zs_len] at e
  have hl : v < vs.length := by rw [h.sep.len]; exact hvz
  have ha : vs.toArray[v]? = some (vs.getD v undef) := by
    rw [List.getElem?_toArray, List.getElem?_eq_getElem hl, List.getD_eq_getElem?_getD, List.getElem?_eq_getElem hl]
    rfl
  exact ⟨A, c, e, by rw [lies_cell h.row, ha, e], ho, ha⟩
/-- what the lists turned leave -/
def TurnE (G : Gr) (w w' : World) : Prop := ∃ T vs, Turned G T ∧ TrM w w.heap.size vs T w'
set_option maxRecDepth 100000 in
set_option maxHeartbeats 4000000 in
theorem turned_any (LA : Option Addr) (lc : Nat) (G : Gr) (hG : Ok G) (hn : G.length ≤ 1024) (hg : ∀ l ∈ G, l.length ≤ 1024) (w : World) (hL : LsAt w LA (zg G)) :
    Calls Tryz.prog 63 #[.slice LA G.length lc] w fun e w' => e = .returned (.slice (some ⟨w.heap.size, 0, none⟩) G.length G.length) ∧ TurnE G w w' := by
  have mk := mk_lists w G.length (by omega)
  have M0 := Lib.hid (show TrM w w.heap.size (List.replicate G.length nilV) (List.replicate G.length []) (w.alloc (.cells (Array.replicate G.length (.slice none 0 0)) 27)) from
    ⟨by rw [List.toArray_replicate]; exact lies_new _ _ _, by have := sep_made (w.alloc (.cells (Array.replicate G.length (.slice none 0 0)) 27)) (w.heap.size + 1) G.length; simpa [zg, zs] using this, (Below.refl _ _).alloc (Nat.le_refl _) _, by simp⟩)
  have T0 := Lib.hid (tr_0 G)
  obtain ⟨n, hnn⟩ : ∃ n, n = G.length := ⟨_, rfl⟩
  have HL := Lib.hid hL
  have HG := Lib.hid hG
  have HGL := Lib.hid (show ∀ v, (nx G v).length ≤ 1024 from fun v => by
    unfold nx
    rw [List.getD_eq_getElem?_getD]
    cases e : G[v]? with
    | none => simp
    | some l => exact hg l (List.mem_of_getElem? e))
  have HN := Lib.hid hnn
  rw [← hnn] at mk M0 hn ⊢
  clear hL hG hg hnn
  go_enter Tryz.func63, Tryz.ntmps63
  go_upto_region 2 with (fail)
  clear mk
  generalize w.alloc (.cells (Array.replicate n (.slice none 0 0)) 27) = X at *
  go_wp2
  go_loopw [13] (fun v13 wr => ∃ (i : Nat) (T : Gr) (vs : List Value), i ≤ n ∧ v13 = .int .i64 (i : Int) ∧ Tr G i 0 T ∧ TrM w w.heap.size vs T wr) (fun v13 _ => n - (intOf v13).toNat)
  case atStart => exact ⟨0, _, _, Nat.zero_le _, rfl, by have := T0.out; rw [← HN.out] at this; exact this, M0.out⟩
  case round =>
    obtain ⟨i, T, vs, hi, rfl, hT, hM⟩ := hrel
    have HT := Lib.hid hT
    have HM := Lib.hid hM
    clear hT hM
    by_cases hlt : i < n
    · have li : (i : Int) < (n : Int) := by omega
      obtain ⟨b, o, A, c, eL, hbw, c2, hA, hAc⟩ := ls_at HL.out (v := i) (by have := HN.out; omega)
      replace c2 := (HM.out.low.cell (p := ⟨b, o + i, none⟩) hbw).trans c2
      subst eL
      obtain ⟨k, hk⟩ : ∃ k, k = (nx G i).length := ⟨_, rfl⟩
      have KE := Lib.hid hk
      have HA := Lib.hid hA
      have hk2 : k ≤ 1024 := by rw [hk]; exact HGL.out i
      rw [← hk] at c2
      clear hk hA hAc hbw
      go_upto_region 6 with (fail)
      go_loopw [20] (fun v20 wq => ∃ (j : Nat) (T : Gr) (vs : List Value), j ≤ k ∧ v20 = .int .i64 (j : Int) ∧ Tr G i j T ∧ TrM w w.heap.size vs T wq) (fun v20 _ => k - (intOf v20).toNat)
      case atStart => exact ⟨0, T, vs, Nat.zero_le _, rfl, HT.out, HM.out⟩
      case round =>
        obtain ⟨j, T2, vs2, hj, rfl, hT2, hM2⟩ := hrel
        by_cases hjl : j < k
        · have lj : (j : Int) < (k : Int) := by omega
          have hjg : j < (nx G i).length := by rw [← KE.out]; exact hjl
          obtain ⟨b2, o2, eA, hb2, c3⟩ := HA.out j (by simpa using hjg)
          replace c3 := (hM2.low.cell (p := ⟨b2, o2 + j, none⟩) hb2).trans c3
          have ez : (zs (nx G i))[j]'(by simpa using hjg) = ((nx G i)[j] : Int) := by simp [zs]
          rw [ez] at c3
          have hvg : (nx G i)[j] < n := by have := (nx_lt HG.out (List.getElem_mem hjg)).1; rw [HN.out]; exact this
          obtain ⟨v, hv⟩ : ∃ v, v = (nx G i)[j] := ⟨_, rfl⟩
          rw [← hv] at c3 hvg
          have HV := Lib.hid hv
          have hvT : v < T2.length := by rw [hT2.len, ← HN.out]; exact hvg
          obtain ⟨A3, cc, e3, c4, o4, va⟩ := trM_at hM2 hvT
          have VA := Lib.hid va
          clear va
          have hbig : (nx T2 v).length ≤ 100000000 := by
            have := hT2.big v
            have : i * 1024 ≤ 1024 * 1024 := Nat.mul_le_mul_right 1024 (by omega)
            omega
          obtain ⟨VV, hVV⟩ : ∃ VV, VV = vs2.getD v undef := ⟨_, rfl⟩
          rw [← e3, ← hVV] at c4
          have LN := Lib.hid (lies_new wr 3 #[iV i])
          have OL := Lib.hid (show OwnI (wr.alloc (.cells #[iV i] 3)) (w.heap.size + 1) VV (zs (nx T2 v)) by rw [hVV]; exact World.ownsRow.alloc o4 _)
          have SZ := Lib.hid (show w.heap.size + 1 ≤ (wr.alloc (.cells #[iV i] 3)).heap.size by have := hM2.sz; simp; omega)
          have LB := Lib.hid (show (zs (nx T2 v)).length ≤ 100000000 by rw [zs_len]; exact hbig)
          have HT2 := Lib.hid hT2
          have HM2 := Lib.hid hM2
          have E3 := Lib.hid hVV
          have HVT := Lib.hid hvT
          have HJ := Lib.hid hjg
          have vi : (v : Int) < (n : Int) := by omega
          subst eA
          clear hT2 hM2 e3 o4 hVV hv hbig ez hb2 hvT
          unfold iV at *
          go_wp2_with (refine wpList_app_at rfl _ _ rfl (w.heap.size + 1) wr.heap.size i VV (zs (nx T2 v)) rfl OL.out rfl LN.out LB.out SZ.out ?_; intro G' C w1 h1 h2 h3; rw [E3.out] at h2 h3; have RW := trM_row HM2.out HVT.out h2; have fR := lies_free RW v; have cR := (lies_cell RW v).trans VA.out; have M1 := Lib.hid (trM_app HM2.out HVT.out h2 (by rw [zs_len] at h1; exact h1) h3); rw [zs_len]; clear h1 h2 h3 RW)
          have HTS := Lib.hid (tr_step HG.out HT2.out (show i < G.length by rw [← HN.out]; exact hlt) HJ.out)
          go_roundw
          case rel => exact ⟨j + 1, _, _, by omega, by go_num, by have := HTS.out; rw [← HV.out] at this; exact this, M1.out⟩
          case measure => first | (simp [intOf]; done) | (simp [intOf]; omega)
        · obtain rfl : j = k := by omega
          have lj : ¬ (j : Int) < (j : Int) := by omega
          have HT2 := Lib.hid hT2
          have HM2 := Lib.hid hM2
          clear hT2 hM2
          go_wp2
          go_roundw
          case rel => exact ⟨i + 1, T2, vs2, by omega, by go_num, tr_next (HGL.out i) (by have := HT2.out; rw [KE.out] at this; exact this), HM2.out⟩
          case measure => first | (simp [intOf]; done) | (simp [intOf]; omega)
    · obtain rfl : i = n := by omega
      have li : ¬ (i : Int) < (i : Int) := by omega
      go_wp2
      go_ret
      exact ⟨rfl, T, vs, turned_of (by have := HT.out; rw [HN.out] at this; exact this), HM.out⟩
end Go.Proofs.YtnbjfmkckebfgaaGreat
