/-
What is proved here: needs in memory of their own, each list in order and without what stands twice: cut's rising, by a contract.
-/
import Derived.Test.YtpddamloajpiiaaGreatDoorRwmM
import Derived.Test.YtpddamloajpiiaaGreatDoorMa3
set_option linter.unusedSimpArgs false
set_option linter.unusedVariables false
namespace Go.Proofs.YtpddamloajpiiaaGreatDoor
open Go.Cmp Go.RowKit Go.Cut
theorem But.ofBelow {w w' : World} (h : Below w.heap.size w w') (P : Nat → Prop) : But P w w' := ⟨h.os, h.tape, h.output, h.size, fun k hk _ => h.block k hk⟩
theorem win_ne {w : World} {B g t : Nat} {v : Value} {l : List Int} {cs : Array Value} (h : Win w B v l) (hL : Lies w g t cs) (ht : t ≠ 3) : wblk v ≠ some g := fun e => by
  rcases h with ⟨rfl, _⟩ | ⟨g', o, c, cur, rfl, hB, hL2, _⟩
  · cases e
  · injection e with e
    have e2 : g' = g := e
    subst e2
    unfold Lies at hL hL2
    rw [hL] at hL2
    injection hL2 with hL2
    injection hL2 with _ h2 _
    exact ht h2
theorem win_mono {w : World} {B B' : Nat} {v : Value} {l : List Int} (h : Win w B v l) (hb : B' ≤ B) : Win w B' v l := by
  rcases h with h | ⟨g, o, c, cur, e, hB, rest⟩
  · exact .inl h
  · exact .inr ⟨g, o, c, cur, e, Nat.le_trans hb hB, rest⟩
theorem win_slice {w : World} {B : Nat} {v : Value} {l : List Int} (h : Win w B v l) : ∃ A c, v = .slice A l.length c := by
  rcases h with ⟨rfl, rfl⟩ | ⟨g, o, c, cur, rfl, _⟩
  · exact ⟨none, 0, rfl⟩
  · exact ⟨_, c, rfl⟩
/-- rows of numbers, each in memory of its own -/
structure Rws (w : World) (B : Nat) (vs : List Value) (G : Gr) : Prop where
  len : vs.length = G.length
  win : ∀ i, Win w B (vs.getD i nilV) (zs (nx G i))
  sep : ∀ i j k, i ≠ j → wblk (vs.getD i nilV) = some k → wblk (vs.getD j nilV) ≠ some k
theorem getD_setv (vs : List Value) (i j : Nat) (v : Value) (hi : i < vs.length) : (vs.set i v).getD j nilV = if i = j then v else vs.getD j nilV := by
  rw [List.getD_eq_getElem?_getD, List.getElem?_set]
  by_cases e : i = j
  · subst e; simp [hi]
  · rw [if_neg e, if_neg e, ← List.getD_eq_getElem?_getD]
theorem rws_set {P : Nat → Prop} {w w' : World} {B : Nat} {vs : List Value} {T : Gr} {i : Nat} {v' : Value} {l' : List Nat} (h : Rws w B vs T) (hi : i < vs.length) (hb : But P w w') (hP : ∀ j k, j ≠ i → wblk (vs.getD j nilV) = some k → ¬ P k) (hw : Win w' B v' (zs l'))
    (hs : ∀ j k, j ≠ i → wblk v' = some k → wblk (vs.getD j nilV) ≠ some k) : Rws w' B (vs.set i v') (T.set i l') := by
  have hiT : i < T.length := by rw [← h.len]; exact hi
  refine ⟨by simp [h.len], fun j => ?_, fun a b k hab => ?_⟩
  · rw [getD_setv _ _ _ _ hi, nx_set]
    by_cases e : i = j
    · subst e
      rw [if_pos rfl, if_pos ⟨rfl, hiT⟩]
      exact hw
    · rw [if_neg e, if_neg (fun x => e x.1)]
      exact win_but (h.win j) hb (fun k hk => hP j k (fun x => e x.symm) hk)
  · rw [getD_setv _ _ _ _ hi, getD_setv _ _ _ _ hi]
    by_cases ea : i = a
    · subst ea
      rw [if_pos rfl, if_neg hab]
      exact fun h1 => hs b k (fun x => hab x.symm) h1
    · rw [if_neg ea]
      by_cases eb : i = b
      · subst eb
        rw [if_pos rfl]
        exact fun h1 h2 => hs a k (fun x => ea x.symm) h2 h1
      · rw [if_neg eb]
        exact h.sep a b k hab
/-- while rising runs -/
structure RisM (w : World) (G : Gr) (i : Nat) (vs : List Value) (T : Gr) (wr : World) : Prop where
  row : Lies wr w.heap.size 33 vs.toArray
  len : T.length = G.length
  rws : Rws wr w.heap.size vs T
  val : ∀ v, nx T v = if v < i then rise (nx G v) else []
  low : Below w.heap.size w wr
def RisE (G : Gr) (w : World) (e : Ending) (w' : World) : Prop := ∃ vs, e = .returned (.slice (some ⟨w.heap.size, 0, none⟩) G.length G.length) ∧ Lies w' w.heap.size 33 vs.toArray ∧ Rws w' w.heap.size vs (G.map rise) ∧ Below w.heap.size w w'
theorem ris_end {w wr : World} {G T : Gr} {vs : List Value} (h : RisM w G G.length vs T wr) : T = G.map rise := by
  refine List.ext_getElem? fun j => ?_
  have hv := h.val j
  unfold nx at hv
  by_cases hj : j < G.length
  · rw [if_pos hj, List.getD_eq_getElem?_getD, List.getD_eq_getElem?_getD, List.getElem?_eq_getElem (by rw [h.len]; exact hj), List.getElem?_eq_getElem hj] at hv
    rw [List.getElem?_eq_getElem (by rw [h.len]; exact hj), List.getElem?_map, List.getElem?_eq_getElem hj]
    exact congrArg some hv
  · rw [List.getElem?_eq_none (by rw [h.len]; omega), List.getElem?_eq_none (by simp; omega)]
theorem sortZ_facts (l : List Int) : (sortZ l).Pairwise (· ≤ ·) ∧ (sortZ l).Perm l := by
  refine ⟨?_, List.mergeSort_perm l _⟩
  have := List.pairwise_mergeSort (le := fun x y : Int => decide (x ≤ y)) (fun a b c h1 h2 => by simp at h1 h2 ⊢; omega) (fun a b => by simp; omega) l
  exact this.imp (fun {a b} h => by simpa using h)
theorem ris_step {w wr w3 : World} {G T : Gr} {i v0 : Nat} {vs : List Value} {v' : Value} (h : RisM w G i vs T wr) (hi : i < G.length) (hb : Below wr.heap.size wr w3) (hw : Win w3 wr.heap.size v' (zs (rise (nx G i)))) :
    RisM w G (i + 1) (vs.set i v') (T.set i (rise (nx G i))) (w3.setCell ⟨w.heap.size, i, none⟩ v') := by
  have hsz : w.heap.size ≤ wr.heap.size := h.low.size
  have hlt : w.heap.size < wr.heap.size := lies_lt h.row
  have hiv : i < vs.length := by rw [h.rws.len, h.len]; exact hi
  have L3 := lies_below h.row hb hlt
  have hold : ∀ j k, wblk (vs.getD j nilV) = some k → k < wr.heap.size := fun j k hk => (win_block (h.rws.win j) k hk).2
  have bs : But (· = w.heap.size) w3 (w3.setCell ⟨w.heap.size, i, none⟩ v') := (But.refl (· = w.heap.size) w3).setCell (p := ⟨w.heap.size, i, none⟩) (fun _ => rfl) _
  have b2 : But (· = w.heap.size) wr (w3.setCell ⟨w.heap.size, i, none⟩ v') := (But.ofBelow hb _).trans bs
  have hwn : wblk v' ≠ some w.heap.size := fun e => by have := (win_block hw _ e).1; omega
  refine ⟨?_, by simp [h.len], rws_set h.rws hiv b2 (fun j k _ hk e => ?_) (win_mono (win_but hw bs (fun k hk e => hwn (e ▸ hk))) hsz) (fun j k _ h1 h2 => ?_), fun v => ?_, ?_⟩
  · have := lies_set L3 i v'
    simpa using this
  · subst e
    exact win_ne (h.rws.win j) h.row (by decide) hk
  · have := (win_block hw k h1).1
    have := hold j k h2
    omega
  · rw [nx_set, h.val v, h.len]
    by_cases e : i = v
    · subst e
      rw [if_pos ⟨rfl, hi⟩, if_pos (by omega)]
    · rw [if_neg (fun x => e x.1)]
      by_cases e2 : v < i
      · rw [if_pos e2, if_pos (by omega)]
      · rw [if_neg e2, if_neg (by omega)]
  · exact (h.low.trans (hb.mono hsz)).setCell (p := ⟨w.heap.size, i, none⟩) (Nat.le_refl _) _
set_option maxRecDepth 100000 in
set_option maxHeartbeats 4000000 in
theorem rising_any (LA : Option Addr) (lc : Nat) (G : Gr) (hn : G.length ≤ 1024) (hg : ∀ l ∈ G, l.length ≤ 1024) (w : World) (hL : LsAt w LA (zg G)) :
    Calls Tryz.prog 19 #[.slice LA G.length lc] w (RisE G w) := by
  have mk := mk_lists w G.length (by omega)
  have M0 := Lib.hid (show RisM w G 0 (List.replicate G.length nilV) (List.replicate G.length []) (w.alloc (.cells (Array.replicate G.length (.slice none 0 0)) 33)) from
    ⟨by rw [List.toArray_replicate]; exact lies_new _ _ _, by simp, ⟨by simp, fun i => .inl ⟨by rw [List.getD_eq_getElem?_getD, List.getElem?_replicate]; split <;> rfl, by
      have : nx (List.replicate G.length ([] : List Nat)) i = [] := by unfold nx; rw [List.getD_eq_getElem?_getD, List.getElem?_replicate]; split <;> rfl
      rw [this]; rfl⟩, fun i j k _ h => by
        have : (List.replicate G.length nilV).getD i nilV = nilV := by rw [List.getD_eq_getElem?_getD, List.getElem?_replicate]; split <;> rfl
        rw [this] at h; cases h⟩, fun v => by
      rw [if_neg (Nat.not_lt_zero _)]
      unfold nx; rw [List.getD_eq_getElem?_getD, List.getElem?_replicate]; split <;> rfl, (Below.refl _ _).alloc (Nat.le_refl _) _⟩)
  obtain ⟨n, hnn⟩ : ∃ n, n = G.length := ⟨_, rfl⟩
  have HL := Lib.hid hL
  have HGL := Lib.hid (show ∀ v, (nx G v).length ≤ 1024 from fun v => by
    unfold nx
    rw [List.getD_eq_getElem?_getD]
    cases e : G[v]? with
    | none => simp
    | some l => exact hg l (List.mem_of_getElem? e))
  have HN := Lib.hid hnn
  rw [← hnn] at mk M0 hn ⊢
  clear hL hg hnn
  go_enter Tryz.func19, Tryz.ntmps19
  go_upto_region 2 with (fail)
  clear mk
  generalize w.alloc (.cells (Array.replicate n (.slice none 0 0)) 33) = X at *
  go_wp2
  go_loopw [11] (fun v11 wr => ∃ (i : Nat) (T : Gr) (vs : List Value), i ≤ n ∧ v11 = .int .i64 (i : Int) ∧ RisM w G i vs T wr) (fun v11 _ => n - (intOf v11).toNat)
  case atStart => exact ⟨0, _, _, Nat.zero_le _, rfl, M0.out⟩
  case round =>
    obtain ⟨i, T, vs, hi, rfl, hM⟩ := hrel
    have HM := Lib.hid hM
    clear hM
    by_cases hlt : i < n
    · have li : (i : Int) < (n : Int) := by omega
      obtain ⟨b, o, A, c, eL, hbw, c2, hA, hAc⟩ := ls_at HL.out (v := i) (by have := HN.out; omega)
      replace c2 := (HM.out.low.cell (p := ⟨b, o + i, none⟩) hbw).trans c2
      have hA2 := intsAt_below hA HM.out.low
      subst eL
      obtain ⟨F, hF⟩ : ∃ F, F = nx G i := ⟨_, rfl⟩
      rw [← hF] at c2 hA2
      have KF := Lib.hid hF
      have hk2 : F.length ≤ 1024 := by rw [hF]; exact HGL.out i
      have hb1 := (Below.refl wr.heap.size wr).alloc (Nat.le_refl _) (.cells #[.slice A F.length c] 33)
      have cb := lies_cell (lies_new wr 33 #[.slice A F.length c]) 0
      simp only [List.getElem?_toArray, List.getElem?_cons_zero] at cb
      have K33 := Lib.hid (vals_any A F.length c wr)
      have K32 := Lib.hid (sorted_any F (by omega) wr.heap.size c A (wr.alloc (.cells #[.slice A F.length c] 33)) cb (by simp) (intsAt_below hA2 hb1))
      have HB1 := Lib.hid hb1
      have SF := sortZ_facts (zs F)
      have HC := Lib.hid (show Go.Lib.compactUpTo (sortZ (zs F)).toArray (sortZ (zs F)).toArray.size = zs (rise F) from compact_rise F _ SF.1 SF.2)
      have hls : (sortZ (zs F)).length ≤ 100000 := by rw [SF.2.length_eq, zs_len]; omega
      have K31 := Lib.hid (fun (W : World) (v : Value) (h : OwnI W (wr.alloc (.cells #[.slice A F.length c] 33)).heap.size v (sortZ (zs F))) => compact_any _ v _ W (win_of h) hls)
      obtain ⟨cv, hcv⟩ : ∃ cv, cv = vs.getD i nilV := ⟨_, rfl⟩
      have cw := lies_cell HM.out.row i
      have hiv : i < vs.length := by have := HM.out.rws.len; have := HM.out.len; have := HN.out; omega
      rw [List.getElem?_toArray, List.getElem?_eq_getElem hiv] at cw
      clear hF hA hA2 hAc hbw cb hb1 SF hls hcv cv
      go_upto_region 5 with (fail)
      go_wp2_with (first
        | (go_at_call 33; (with_reducible refine K33.out.mono ?_); rintro e w1 ⟨rfl, rfl⟩)
        | (go_at_call 32; (with_reducible refine K32.out.mono ?_); rintro e w2 ⟨v, rfl, ho, hB2⟩; have KW := Lib.hid (K31.out w2 v ho); have HO := Lib.hid ho; have HB2 := Lib.hid hB2; clear ho hB2)
        | (go_at_call 31; go_loud ((with_reducible refine KW.out.mono ?_); rintro e w3 ⟨v', rfl, hw3, hb3, hk3⟩; rw [HC.out] at hw3; obtain ⟨A', c', rfl⟩ := win_slice hw3; rw [zs_len] at hw3 hk3 ⊢; have BB := Lib.hid (show Below wr.heap.size wr w3 from ((HB1.out.trans (HB2.out.mono (by simp))).trans (hb3.below (Nat.le_trans (Nat.le_of_lt (by simp)) HB2.out.size) (fun k hk => Nat.le_trans (Nat.le_of_lt (by simp)) (own_heap HO.out k (by rw [hk]; cases v <;> rfl)).1)))); have W3 := Lib.hid (show Win w3 wr.heap.size (.slice A' (rise F).length c') (zs (rise (nx G i))) from KF.out ▸ win_mono hw3 (by simp)); have cw3 := (BB.out.cell (p := ⟨w.heap.size, i, none⟩) (lies_lt HM.out.row)).trans cw; have fw3 := lies_free (lies_below HM.out.row BB.out (lies_lt HM.out.row)) i; clear hw3 hb3 hk3)))
      have R4 := Lib.hid (ris_step (v0 := 0) HM.out (by have := HN.out; omega) BB.out W3.out)
      go_roundw
      case rel => exact ⟨i + 1, _, _, by omega, by go_num, R4.out⟩
      case measure => first | (simp [intOf]; done) | (simp [intOf]; omega)
    · obtain rfl : i = n := by omega
      have li : ¬ (i : Int) < (i : Int) := by omega
      go_wp2
      go_ret
      refine ⟨vs, by rw [HN.out]; rfl, HM.out.row, ?_, HM.out.low⟩
      have h := HM.out
      rw [HN.out] at h
      rw [← ris_end h]
      exact h.rws
end Go.Proofs.YtpddamloajpiiaaGreatDoor
