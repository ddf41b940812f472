/-
What is proved here: what taking a place from package comp's stack does, by a contract.
-/
import Derived.Test.YtnbjfmkckebfgaaGreatStk
set_option linter.unusedSimpArgs false
set_option linter.unusedVariables false
namespace Go.Proofs.YtnbjfmkckebfgaaGreat
open Go.Cmp Go.RowKit
def TakeW (w : World) (B wy : Nat) (es : List Ent) (w' : World) : Prop :=
  ∃ v', Lies w' wy 143 #[v'] ∧ OwnW w' B v' es ∧ But (· = wy) w w' ∧ ∀ k, v'.ownBlock = some k → k < w.heap.size
theorem two_one {a b : Value} (ha : a.oneCell' = true) (hb : b.oneCell' = true) : (#[a, b] : Array Value).all (·.oneCell') = true := by simp [ha, hb]
theorem take_end {w Y : World} {B wy g cap n : Nat} {cur : Array Value} {es : List Ent} {e : Ent} (hb : But (· = wy) w Y) (hW : Lies Y wy 143 #[.slice (some ⟨g, 0, none⟩) (n + 1) cap]) (hG : Lies Y g 145 cur) (hgw : g ≠ wy) (hgs : g < w.heap.size) (hn : n = es.length) (hnc : n + 1 ≤ cap) (hcm : cap ≤ maxLen)
    (ht : B ≤ g ∧ cur.size = cap * 2 ∧ cur.toList.take ((n + 1) * 2) = wcs es ++ e.cs) : TakeW w B wy es (Y.setCell ⟨wy, 0, none⟩ (.slice (some ⟨g, 0, none⟩) n cap)) := by
  refine ⟨_, lies_set hW 0 _, ⟨wcs_len es, .inr ⟨g, cap, cur, by rw [hn], ht.1, ?_, by omega, hcm, ht.2.1, ?_⟩⟩, hb.setCell (fun _ => rfl) _, fun k hk => by injection hk with hk; exact hk ▸ hgs⟩
  · exact lies_far hG hgw _
  · have h := congrArg (List.take (es.length * 2)) ht.2.2
    rw [List.take_take, Nat.min_eq_left (by omega), List.take_append_of_le_length (by rw [wcs_len]; omega)] at h
    rw [h, List.take_of_length_le (by rw [wcs_len]; omega)]
set_option maxRecDepth 100000 in
set_option maxHeartbeats 4000000 in
theorem take_any (B wy : Nat) (vW : Value) (es : List Ent) (e : Ent) (w : World) (hg : Lies w wy 143 #[vW]) (hown : OwnW w B vW (es ++ [e])) (hB : B ≤ w.heap.size) (hn : es.length ≤ 100000) :
    Calls Tryz.prog 80 #[.pointer (some ⟨wy, 0, none⟩)] w fun r w' => r = .returned (.agg #[iV e.x, e.rv]) ∧ TakeW w B wy es w' := by
  have hlt := lies_lt hg
  obtain ⟨g, cap, cur, rfl, hBg, hgb, hnc, hcm, hcs, htk⟩ : ∃ g cap cur, vW = .slice (some ⟨g, 0, none⟩) (es.length + 1) cap ∧ B ≤ g ∧ w.heap[g]? = some (.cells cur 145 (0, 0)) ∧ es.length + 1 ≤ cap ∧ cap ≤ maxLen ∧ cur.size = cap * 2 ∧ cur.toList.take ((es.length + 1) * 2) = wcs es ++ e.cs := by
    rcases hown.2 with ⟨_, h0⟩ | ⟨g, cap, cur, h1, h2, h3, h4, h5, h6, h7⟩
    · simp at h0
    · rw [List.length_append] at h1 h4 h7
      rw [wcs_snoc] at h7
      exact ⟨g, cap, cur, h1, h2, h3, h4, h5, h6, h7⟩
  have hgs : g < w.heap.size := (Array.getElem?_eq_some_iff.1 hgb).1
  have hgw : g ≠ wy := fun x => by subst x; unfold Lies at hg; rw [hg] at hgb; injection hgb with hgb; injection hgb with _ h _; cases h
  obtain ⟨rv, hrv⟩ : ∃ rv, rv = e.rv := ⟨_, rfl⟩
  have hO1 : rv.oneCell' = true := by rw [hrv]; rfl
  have hct : ∀ j u, [iV e.x, rv][j]? = some u → cur[es.length * 2 + j]? = some u := fun j u hj => by
    have hj2 : j < 2 := by have := (List.getElem?_eq_some_iff.1 hj).1; simpa using this
    have := congrArg (fun l => l[es.length * 2 + j]?) htk
    rw [← Array.getElem?_toList]
    rw [List.getElem?_take_of_lt (by omega), List.getElem?_append_right (by rw [wcs_len]; omega), wcs_len] at this
    rw [this, show es.length * 2 + j - es.length * 2 = j by omega, ← hj, hrv]
    rfl
  have L2 : Lies (w.alloc (.cells #[.int .i64 0, .slice none 0 0] 145)) w.heap.size 145 #[.int .i64 0, .slice none 0 0] := lies_new _ _ _
  have RG : ∀ W : World, Lies W g 145 cur → W.rangeAt g (es.length * 2) [iV e.x, rv] := fun W hW j u hj => by
    rw [lies_cell hW]; exact hct j u hj
  have G0 : Lies w g 145 cur := hgb
  have b1 : But (· = wy) w (w.alloc (.cells #[.int .i64 0, .slice none 0 0] 145)) := (But.refl _ _).alloc _
  have sz1 : (w.alloc (.cells #[.int .i64 0, .slice none 0 0] 145)).heap.size = w.heap.size + 1 := by simp
  have hgw1 := lies_alloc hg (.cells #[.int .i64 0, .slice none 0 0] 145)
  have G1 := lies_alloc G0 (.cells #[.int .i64 0, .slice none 0 0] 145)
  have hL2 := Lib.hid L2
  have hRG := Lib.hid RG
  have hG1 := Lib.hid G1
  have hB1 := Lib.hid b1
  have hS1 := Lib.hid sz1
  have hW1 := Lib.hid hgw1
  have hRV := Lib.hid hrv
  have hO := Lib.hid hO1
  have hTK := Lib.hid (And.intro hBg (And.intro hcs htk))
  have hCM := Lib.hid hcm
  have hGW := Lib.hid hgw
  have hLT := Lib.hid hlt
  have hGS := Lib.hid hgs
  have c0 := lies_cell hgw1 0
  have f0 := lies_free hgw1 0
  simp only [List.getElem?_toArray, List.getElem?_cons_zero] at c0
  rw [← hrv]
  clear L2 RG G1 b1 sz1 hgw1 G0 hct htk hcs hgb hg hown hrv hO1 hBg hcm hgw hlt hgs
  obtain ⟨n, hnn⟩ : ∃ n, n = es.length := ⟨_, rfl⟩
  rw [← hnn] at hn hRG hTK hnc c0 hW1
  have HN2 := Lib.hid hnn
  clear hnn
  go_enter Tryz.func80, Tryz.ntmps80
  go_upto_region 1 with (fail)
  generalize w.alloc (.cells #[.int .i64 0, .slice none 0 0] 145) = X at *
  go_upto_region 2 with (fail)
  have RG1 := Lib.hid (hRG.out X hG1.out)
  have LN := Lib.hid (lies_new X 145 #[.int .i64 0, .slice none 0 0])
  have LR := Lib.hid (lies_new X 145 #[iV e.x, rv])
  have ES := Lib.hid (setRow_alloc X 145 #[.int .i64 0, .slice none 0 0] #[iV e.x, rv])
  go_upto_region 3 with (first
    | (refine wpList_load_mid rfl 145 _ rfl g (n * 2) rfl [iV e.x, rv] _ RG1.out Tryz.underlying145 rfl (by kernel_rfl) ?_)
    | (refine wpList_store_row rfl 145 _ _ rfl X.heap.size #[iV e.x, rv] rfl rfl 145 _ LN.out (by kernel_rfl) rfl (two_one rfl hO.out) ?_; rw [ES.out]))
  have xg : But (· = wy) X (X.alloc (.cells #[iV e.x, rv] 145)) := (But.refl _ _).alloc _
  have W2 := lies_alloc hW1.out (.cells #[iV e.x, rv] 145)
  have G2 := lies_alloc hG1.out (.cells #[iV e.x, rv] 145)
  have L22 := lies_alloc hL2.out (.cells #[iV e.x, rv] 145)
  have B2 := Lib.hid (hB1.out.trans xg)
  have S2 := Lib.hid (show X.heap.size < (X.alloc (.cells #[iV e.x, rv] 145)).heap.size by simp)
  obtain ⟨q, hq⟩ : ∃ q, q = X.heap.size := ⟨_, rfl⟩
  have HQ := Lib.hid (show q = w.heap.size + 1 by rw [hq]; exact hS1.out)
  rw [← hq] at LR S2 ⊢
  have hW2 := Lib.hid W2
  have hG2 := Lib.hid G2
  have hL22 := Lib.hid L22
  clear RG1 LN ES xg hB1 hq hS1 hW1 hG1 hL2 hRG c0 f0 W2 G2 L22
  generalize X.alloc (.cells #[iV e.x, rv] 145) = Y at *
  have c0 := lies_cell hW2.out 0
  have f0 := lies_free hW2.out 0
  simp only [List.getElem?_toArray, List.getElem?_cons_zero] at c0
  go_upto_region 4 with (fail)
  have E := Lib.hid (take_end B2.out hW2.out hG2.out hGW.out hGS.out HN2.out hnc hCM.out hTK.out)
  have RY := Lib.hid (rng2 (lies_far LR.out (p := ⟨wy, 0, none⟩) (show q ≠ wy by have := HQ.out; have := hLT.out; omega) (.slice (some ⟨g, 0, none⟩) n cap)))
  have LZ := Lib.hid (lies_far hL22.out (p := ⟨wy, 0, none⟩) (show w.heap.size ≠ wy by have := hLT.out; omega) (.slice (some ⟨g, 0, none⟩) n cap))
  clear LR hW2 hG2 hL22 c0 f0 B2 hTK
  generalize Y.setCell ⟨wy, 0, none⟩ (.slice (some ⟨g, 0, none⟩) n cap) = Z at *
  have LF := Lib.hid (lies_setRow LZ.out #[iV e.x, rv])
  have EF := Lib.hid (show TakeW w B wy es (Z.setRow w.heap.size #[iV e.x, rv]) by
    obtain ⟨v', h1, h2, h3, h4⟩ := E.out
    have hlt := hLT.out
    refine ⟨v', (setRow_other Z w.heap.size wy _ (by omega)).trans h1, own_but h2 (P := (· = w.heap.size)) ((But.refl (· = w.heap.size) Z).setRow (g := w.heap.size) (fun _ => rfl) _) (fun k hk x => ?_), h3.setRow (fun h => by omega) _, h4⟩
    have h5 := h4 k hk
    omega)
  clear E
  go_wp2_with (first
    | (refine wpList_load_mid rfl 145 _ rfl q 0 rfl [iV e.x, rv] _ RY.out Tryz.underlying145 rfl (by kernel_rfl) ?_)
    | (refine wpList_store_row rfl 145 _ _ rfl w.heap.size #[iV e.x, rv] rfl rfl 145 _ LZ.out (by kernel_rfl) rfl (two_one rfl hO.out) ?_))
  rw [hRV.out] at LF EF ⊢
  refine bodyPost_ret (results_cell_row rfl _ _ w.heap.size 145 #[iV e.x, e.rv] (0, 0) _ rfl LF.out Tryz.underlying145 rfl (by kernel_rfl)) rfl ⟨rfl, EF.out⟩
end Go.Proofs.YtnbjfmkckebfgaaGreat
