/-
What is proved here: order's line of numbers that wait: one more put in, the least taken out, by contracts.
-/
import Derived.Test.YtnbjfmkckebfgaaGreatOrp
import Derived.Test.YtnbjfmkckebfgaaGreatRwm
import Derived.BigQuiet
import Derived.Deep.QuietTactic
set_option linter.unusedSimpArgs false
set_option linter.unusedVariables false
namespace Go.Proofs.YtnbjfmkckebfgaaGreat
open Go.Cmp Go.RowKit Go.Sort Go.Lib
set_option maxRecDepth 100000 in
theorem cless_any (x y : Int) (w : World) : Calls Tryz.prog 14 #[.int .i64 x, .int .i64 y] w fun e w' => e = .returned (.bool (decide (x < y))) ∧ w' = w := by
  have KN := Lib.hid (nan_any x w)
  go_enter Tryz.func14, Tryz.ntmps14
  go_wp2_with (go_at_call 40; (with_reducible refine KN.out.mono ?_); rintro e w1 ⟨rfl, h⟩; have h := h.symm; subst h)
  go_ret
  exact ⟨rfl, rfl⟩
/-- one out of a row of one's own -/
theorem delete_own (B g C : Nat) (l : List Int) (i : Nat) (w : World) (h : OwnI w B (.slice (some ⟨g, 0, none⟩) l.length C) l) (hi : i < l.length) :
    Calls Tryz.prog 41 #[.slice (some ⟨g, 0, none⟩) l.length C, .int .i64 (i : Int), .int .i64 ((i : Int) + 1)] w fun e w' => e = .returned (.slice (some ⟨g, 0, none⟩) (l.length - 1) C) ∧ OwnI w' B (.slice (some ⟨g, 0, none⟩) (l.length - 1) C) (l.eraseIdx i) ∧ But (fun k => k = g) w w' := by
  obtain ⟨g', C', hv, hgl, hgc⟩ := World.ownsRow.form h (by omega)
  injection hv with e1 e2 e3
  injection e1 with e1
  injection e1 with e1
  subst e1 e3
  have hW := win_of h
  have hlc : l.length ≤ C ∧ C ≤ maxLen := by
    rcases h.2 with ⟨h0, _⟩ | ⟨g', cap', cur, hv, hg, hb, hn, hcap, hs, _⟩
    · cases h0
    · injection hv with _ _ e3
      subst e3
      exact ⟨hn, hcap⟩
  have hcon := Tryz.slices_Delete_int_arr g 0 C i (i + 1) l.toArray w (win_holds hW) (by simpa using hlc.1) (by rw [← maxLen_eq]; exact hlc.2) (by omega) (by simp; omega)
  rw [show l.toArray.size = l.length by simp, show i + 1 - i = 1 by omega] at hcon
  refine (show Calls Tryz.prog 41 #[.slice (some ⟨g, 0, none⟩) l.length C, .int .i64 (i : Int), .int .i64 ((i : Int) + 1)] w _ from hcon).mono ?_
  rintro e w' ⟨rfl, q, rfl⟩
  refine ⟨rfl, ?_, (but_putr _).mono (fun k _ hk => hk)⟩
  have hel : (l.eraseIdx i).length = l.length - 1 := List.length_eraseIdx_of_lt hi
  have het : l.take i ++ l.drop (i + 1) = l.eraseIdx i := (List.eraseIdx_eq_take_drop_succ l i).symm
  have hw : putRow encI (Sort.ahead w q) g 0 (l.toArray.toList.take i ++ l.toArray.toList.drop (i + 1) ++ List.replicate 1 0).toArray = grow (putRow encI (Sort.ahead w q) g 0 (l.eraseIdx i ++ List.replicate 1 0).toArray) #[] := by
    rw [grow_empty, ← het]
  rw [hw]
  have hO := own_less (n := 0) (own_put (enc := encI) (n := q) (os := #[]) (d := (l.eraseIdx i ++ List.replicate 1 0).toArray) h (by simp [hel]; omega)) (show l.length - 1 ≤ l.length by omega)
  unfold OwnI
  rw [hel]
  have e : ((l.eraseIdx i ++ List.replicate 1 0).toArray.toList.map encI).take (l.length - 1) = (l.eraseIdx i).map iV := by
    rw [List.map_append, List.take_append_of_le_length (by simp [hel]), List.take_of_length_le (by simp [hel])]
    rfl
  rw [e] at hO
  exact hO
/-- the line in memory -/
structure LnM (B g : Nat) (v : Value) (l : List Nat) (w : World) : Prop where
  box : Lies w g 51 #[v, .func (.func 14) #[] #[]]
  own : OwnI w B v (zs l)
def LnE (B g : Nat) (v : Value) (l : List Nat) (w w' : World) : Prop := ∃ v', LnM B g v' l w' ∧ But (fun k => k = g ∨ some k = v.ownBlock) w w' ∧ (v'.ownBlock = v.ownBlock ∨ ∀ k, v'.ownBlock = some k → w.heap.size ≤ k)
theorem zs_app (l : List Nat) (x : Nat) : zs (l ++ [x]) = zs l ++ [(x : Int)] := by simp [zs]
theorem lnM_push {B g : Nat} {v : Value} {l : List Nat} {w w1 : World} {o : Obj} {x G C : Nat} (h : LnM B g v l w) (h1 : OwnI w1 B (.slice (some ⟨G, 0, none⟩) (l.length + 1) C) (zs l ++ [(x : Int)])) (h2 : (w.alloc o).grownBy w1 v.ownBlock) (h3 : v.ownBlock = some G ∨ G = (w.alloc o).heap.size) :
    LnE B g v (l ++ [x]) w (w1.setCell ⟨g, 0, none⟩ (.slice (some ⟨G, 0, none⟩) (l.length + 1) C)) := by
  have hb : But (fun k => some k = v.ownBlock) w w1 := ((But.refl _ w).alloc o).trans (But.grown h2)
  have hne : ¬ some g = v.ownBlock := fun e => own_ne h.own h.box (by decide) e.symm
  have L1 := hb.lies h.box hne
  have hw : But (· = g) w1 (w1.setCell ⟨g, 0, none⟩ (.slice (some ⟨G, 0, none⟩) (l.length + 1) C)) := (But.refl (· = g) w1).setCell (p := ⟨g, 0, none⟩) (fun _ => rfl) _
  refine ⟨.slice (some ⟨G, 0, none⟩) (l.length + 1) C, ⟨?_, ?_⟩, (hb.mono (fun k _ hk => .inr hk)).trans (hw.mono (fun k _ hk => .inl hk)), ?_⟩
  · have := lies_set L1 0 (.slice (some ⟨G, 0, none⟩) (l.length + 1) C)
    simpa using this
  · rw [zs_app]
    exact own_but h1 hw (fun k hk e => own_ne h1 L1 (by decide) (e ▸ hk))
  · rcases h3 with h3 | h3
    · exact .inl h3.symm
    · refine .inr (fun k hk => ?_)
      injection hk with hk
      have hk' : G = k := hk
      rw [World.size_alloc] at h3
      omega
set_option maxRecDepth 100000 in
set_option maxHeartbeats 4000000 in
theorem lput_any (B g : Nat) (v : Value) (l : List Nat) (x : Nat) (w : World) (h : LnM B g v l w) (hl : l.length ≤ 100000000) (hB : B ≤ w.heap.size) :
    Calls Tryz.prog 15 #[.pointer (some ⟨g, 0, none⟩), .int .i64 (x : Int)] w fun e w' => e = .returned (.tuple #[]) ∧ LnE B g v (l ++ [x]) w w' := by
  have c0 := lies_cell h.box 0
  simp only [List.getElem?_toArray, List.getElem?_cons_zero] at c0
  have LN := Lib.hid (lies_new w 3 #[iV x])
  have OL := Lib.hid (show OwnI (w.alloc (.cells #[iV x] 3)) B v (zs l) from World.ownsRow.alloc h.own _)
  have SZ := Lib.hid (show B ≤ (w.alloc (.cells #[iV x] 3)).heap.size by simp; omega)
  have LB := Lib.hid (show (zs l).length ≤ 100000000 by rw [zs_len]; omega)
  have HH := Lib.hid h
  obtain ⟨A0, C0, ev⟩ := own_slice h.own
  have EV := Lib.hid ev
  clear h hl hB ev
  unfold iV at *
  go_enter Tryz.func15, Tryz.ntmps15
  go_wp2_with (refine wpList_app_at rfl _ _ rfl B w.heap.size x v (zs l) rfl OL.out rfl LN.out LB.out SZ.out ?_; intro G' C w1 h1 h2 h3; have hne : ¬ some g = v.ownBlock := (fun e => own_ne HH.out.own HH.out.box (by decide) e.symm); have L1 := (((But.refl (fun k => some k = v.ownBlock) w).alloc _).trans (But.grown h2)).lies HH.out.box hne; have c1 := lies_cell L1 0; have f1 := lies_free L1 0; simp only [List.getElem?_toArray, List.getElem?_cons_zero] at c1; have HE := Lib.hid (lnM_push HH.out (by rw [zs_len] at h1; exact h1) h2 h3); rw [zs_len]; clear h1 h2 h3 hne L1)
  exact Go.Great.bodyPost_end0 rfl rfl ⟨rfl, HE.out⟩
end Go.Proofs.YtnbjfmkckebfgaaGreat
