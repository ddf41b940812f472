/-
What is proved here: what lies in memory while cut's split puts the new place instead of the old one.
-/
import Derived.Test.YtpddamloajpiiaaGreatDoorSpcM
set_option linter.unusedSimpArgs false
set_option linter.unusedVariables false
namespace Go.Proofs.YtpddamloajpiiaaGreatDoor
open Go.Cmp Go.RowKit Go.Cut Go.Pth Go.Word Go.Shelf
/-- the needs as far as the first k are turned -/
def parT (s : Wk) (i k : Nat) : Gr := (List.range (s.acts.length + 1)).map fun j => if j < k ∧ takes (s.acts.getD i default).t ((actsS tmpN s i).getD j default) = true then inst i s.acts.length (nx (needsS s i) j) else nx (needsS s i) j
theorem parT_len (s : Wk) (i k : Nat) : (parT s i k).length = s.acts.length + 1 := by simp [parT]
theorem nx_parT (s : Wk) (i k j : Nat) (hj : j < s.acts.length + 1) : nx (parT s i k) j = if j < k ∧ takes (s.acts.getD i default).t ((actsS tmpN s i).getD j default) = true then inst i s.acts.length (nx (needsS s i) j) else nx (needsS s i) j := by
  unfold parT
  rw [nx_map, if_pos hj]
theorem parT_0 (s : Wk) (i : Nat) (h : (needsS s i).length = s.acts.length + 1) : parT s i 0 = needsS s i := by
  apply List.ext_getElem?
  intro j
  unfold parT
  rw [List.getElem?_map]
  by_cases hj : j < s.acts.length + 1
  · rw [List.getElem?_range hj, Option.map_some, if_neg (by omega), List.getElem?_eq_getElem (by omega)]
    unfold nx
    rw [List.getD_eq_getElem?_getD, List.getElem?_eq_getElem (by omega)]
    rfl
  · rw [List.getElem?_eq_none (by simp; omega), List.getElem?_eq_none (by omega)]
    rfl
theorem parT_yes (s : Wk) (i k : Nat) (hk : k < s.acts.length + 1) (ht : takes (s.acts.getD i default).t ((actsS tmpN s i).getD k default) = true) : (parT s i k).set k (inst i s.acts.length (nx (parT s i k) k)) = parT s i (k + 1) := by
  rw [nx_parT s i k k hk, if_neg (by omega)]
  apply List.ext_getElem?
  intro j
  rw [List.getElem?_set]
  unfold parT
  rw [List.getElem?_map, List.getElem?_map]
  by_cases hj : j < s.acts.length + 1
  · rw [List.getElem?_range hj, Option.map_some, Option.map_some]
    by_cases e : k = j
    · subst e
      rw [if_pos rfl, if_pos (by simp; omega), if_pos ⟨by omega, ht⟩]
    · rw [if_neg e]
      by_cases e2 : j < k ∧ takes (s.acts.getD i default).t ((actsS tmpN s i).getD j default) = true
      · rw [if_pos e2, if_pos ⟨by omega, e2.2⟩]
      · rw [if_neg e2, if_neg (fun x => e2 ⟨by omega, x.2⟩)]
  · rw [if_neg (by omega), List.getElem?_eq_none (by simp; omega)]
    rfl
theorem parT_no (s : Wk) (i k : Nat) (ht : takes (s.acts.getD i default).t ((actsS tmpN s i).getD k default) = false) : parT s i k = parT s i (k + 1) := by
  unfold parT
  refine List.map_congr_left fun j hj => ?_
  by_cases e2 : j < k ∧ takes (s.acts.getD i default).t ((actsS tmpN s i).getD j default) = true
  · rw [if_pos e2, if_pos ⟨by omega, e2.2⟩]
  · rw [if_neg e2]
    by_cases e3 : j < k + 1 ∧ takes (s.acts.getD i default).t ((actsS tmpN s i).getD j default) = true
    · have : j = k := by
        rcases Nat.lt_or_ge j k with h | h
        · exact absurd ⟨h, e3.2⟩ e2
        · omega
      subst this
      rw [ht] at e3
      cases e3.2
    · rw [if_neg e3]
theorem parT_end (s : Wk) (i : Nat) : (⟨actsS tmpN s i, parT s i (s.acts.length + 1), s.cuts + 1⟩ : Wk) = splitP tmpN s i := by
  unfold splitP parT
  congr 1
  refine List.map_congr_left fun j hj => ?_
  have := List.mem_range.1 hj
  by_cases e : takes (s.acts.getD i default).t ((actsS tmpN s i).getD j default) = true
  · rw [if_pos ⟨this, e⟩, if_pos e]; rfl
  · rw [if_neg (fun x => e x.2), if_neg e]; rfl
theorem needsS_rise {s : Wk} (h : WkP s) {i : Nat} (hi : i < s.acts.length) (k : Nat) : Rise (nx (needsS s i) k) ∧ (nx (needsS s i) k).length ≤ 2000 := by
  have hin : i < s.needs.length := by rw [← h.len]; exact hi
  have hu : Rise (nx (needsS s i) k) := by
    rw [nx_needs s i k hin]
    split
    · exact .nil
    · split
      · exact rise_put (h.up i) i
      · exact h.up k
  have hm : ∀ x ∈ nx (needsS s i) k, x < s.acts.length := fun x hx => by
    rw [nx_needs s i k hin] at hx
    split at hx
    · cases hx
    · split at hx
      · rcases (mem_put _ _ _).1 hx with e | e
        · omega
        · rw [h.len]; exact (nx_lt h.ok e).1
      · rw [h.len]; exact (nx_lt h.ok hx).1
  have hb := nodup_bound s.acts.length _ (List.Pairwise.imp (fun {a b} h => Nat.ne_of_lt h) hu) hm
  have := h.big
  exact ⟨hu, by omega⟩
theorem parT_at (s : Wk) (i k : Nat) (hk : k < s.acts.length + 1) : nx (parT s i k) k = nx (needsS s i) k := by rw [nx_parT s i k k hk, if_neg (by omega)]
/-- the work, and what stands for the closure -/
structure SpL (B WB OB : Nat) (s : Wk) (i n : Nat) (to : Bt) (av nv : Value) (vs : List Value) (ws wr : World) : Prop where
  wk : WkB B WB s (i : Int) (n : Int) to av nv vs wr
  fo : Lies wr OB 3 #[.int .i64 (i : Int)]
  fp : Lies wr (OB + 1) 3 #[.int .i64 (n : Int)]
  ft : Lies wr (OB + 2) 58 #[.func (.func 87) #[] #[.pointer (some ⟨OB + 1, 0, none⟩)]]
  ap : ∀ j q, wblk (vs.getD j nilV) = some q → q ≠ OB ∧ q ≠ OB + 1
  low : Below B ws wr
theorem spl_none {B WB OB : Nat} {s : Wk} {i n : Nat} {to : Bt} {av nv : Value} {vs : List Value} {ws wr w' : World} (h : SpL B WB OB s i n to av nv vs ws wr) (hb : But (fun _ => False) wr w') (hB : B ≤ wr.heap.size) : SpL B WB OB s i n to av nv vs ws w' :=
  ⟨wkb_but h.wk hb (fun _ _ => id), hb.lies h.fo id, hb.lies h.fp id, hb.lies h.ft id, h.ap, h.low.trans (hb.below hB (fun _ e => e.elim))⟩
theorem spl_start {B WB : Nat} {s : Wk} {i n : Nat} {to : Bt} {av nv : Value} {vs : List Value} {ws W6 w7 : World} (h : WkB B WB s (i : Int) (n : Int) to av nv vs W6) (hl : Below B ws W6) (hB : B ≤ W6.heap.size) (fo : Lies w7 W6.heap.size 3 #[.int .i64 (i : Int)]) (fp : Lies w7 (W6.heap.size + 1) 3 #[.int .i64 (n : Int)])
    (ft : Lies w7 (W6.heap.size + 2) 58 #[.func (.func 87) #[] #[.pointer (some ⟨W6.heap.size + 1, 0, none⟩)]]) (hb : Below W6.heap.size W6 w7) : SpL B WB W6.heap.size s i n to av nv vs ws w7 :=
  ⟨wkb_below h hb, fo, fp, ft, fun j q hq => by have := (win_block (h.rws.win j) q hq).2; omega, hl.trans (hb.mono hB)⟩
/-- a list of those that want the file, turned -/
theorem spl_inst {B WB OB gn m cp k : Nat} {acts : List Ac} {T : Gr} {cuts i n : Nat} {to : Bt} {av v' : Value} {F' : List Nat} {vs : List Value} {ws X W : World} (h : SpL B WB OB ⟨acts, T, cuts⟩ i n to av (.slice (some ⟨gn, 0, none⟩) m cp) vs ws X) (hm : vs.length = m) (hk : k < m) (hB : B ≤ X.heap.size)
    (hw : Win W B v' (zs F')) (hblk : wblk v' = wblk (vs.getD k nilV) ∨ ∀ q, wblk v' = some q → X.heap.size ≤ q) (hb : But (fun q => some q = wblk (vs.getD k nilV)) X W) :
    SpL B WB OB ⟨acts, T.set k F', cuts⟩ i n to av (.slice (some ⟨gn, 0, none⟩) m cp) (vs.set k v') ws (W.setCell ⟨gn, k, none⟩ v') := by
  have hwk : ∀ j, Win X B (vs.getD j nilV) (zs (nx T j)) := h.wk.rws.win
  have hrow : X.ownsRow B 33 1 (.slice (some ⟨gn, 0, none⟩) m cp) m vs := by have := h.wk.row; rw [hm] at this; exact this
  obtain ⟨hgB, hgl, cur, hLg⟩ := own_heap hrow gn rfl
  have hLgW : Lies W gn 33 cur := hb.lies hLg (fun e => win_ne (hwk k) hLg (by decide) e.symm)
  have hrowW : W.ownsRow B 33 1 (.slice (some ⟨gn, 0, none⟩) m cp) m vs := own_but hrow hb (fun q hq e => by
    have hq' : gn = q := Option.some.inj hq
    rw [← hq'] at e
    exact win_ne (hwk k) hLg (by decide) e.symm)
  have hs : But (· = gn) W (W.setCell ⟨gn, k, none⟩ v') := (But.refl (· = gn) W).setCell (p := ⟨gn, k, none⟩) (fun _ => rfl) _
  have hbs : But (fun q => some q = wblk (vs.getD k nilV) ∨ q = gn) X (W.setCell ⟨gn, k, none⟩ v') := (hb.mono (fun _ _ e => .inl e)).trans (hs.mono (fun _ _ e => .inr e))
  have hOB := lies_lt h.fo
  have hPB := lies_lt h.fp
  have nOB : ∀ t cs, Lies X gn t cs → t = 33 := fun t cs hl => by
    unfold Lies at hl hLg
    rw [hLg] at hl
    injection hl with hl
    injection hl with _ hl _
    exact hl.symm
  have hne : ∀ (g t : Nat) (cs : Array Value), Lies X g t cs → t ≠ 33 → g ≠ gn := fun g t cs hl ht e => by
    subst e
    exact ht (nOB t cs hl)
  refine ⟨⟨?_, ?_, ?_, rws_set h.wk.rws (by rw [hm]; exact hk) hbs (fun j q hj hq hp => ?_) (win_but hw hs (fun q hq e => by subst e; exact win_ne hw hLgW (by decide) hq)) (fun j q hj hq hq2 => ?_), h.wk.wb⟩, ?_, ?_, ?_, fun j q hq => ?_, ?_⟩
  · exact hbs.lies h.wk.box (fun e => e.elim (fun e => win_ne (hwk k) h.wk.box (by decide) e.symm) (hne _ _ _ h.wk.box (by decide)))
  · exact own_but h.wk.own hbs (fun q hq e => by
      obtain ⟨_, _, cs, hl⟩ := own_heap h.wk.own q hq
      rcases e with e | e
      · exact win_ne (hwk k) hl (by decide) e.symm
      · exact hne _ _ _ hl (by decide) e)
  · have := own_setc hrowW k v'
    rw [show (vs.set k v').length = m by simp [hm]]
    exact this
  · rcases hp with e | e
    · exact h.wk.rws.sep j k q hj hq e.symm
    · subst e; exact win_ne (hwk j) hLg (by decide) hq
  · rcases hblk with e | e
    · exact h.wk.rws.sep j k q hj hq2 (e ▸ hq)
    · have h1 := e q hq
      have h2 := (win_block (hwk j) q hq2).2
      omega
  · exact hbs.lies h.fo (fun e => e.elim (fun e => (h.ap k OB e.symm).1 rfl) (hne _ _ _ h.fo (by decide)))
  · exact hbs.lies h.fp (fun e => e.elim (fun e => (h.ap k (OB + 1) e.symm).2 rfl) (hne _ _ _ h.fp (by decide)))
  · exact hbs.lies h.ft (fun e => e.elim (fun e => win_ne (hwk k) h.ft (by decide) e.symm) (hne _ _ _ h.ft (by decide)))
  · rw [getD_setv _ _ _ _ (by rw [hm]; exact hk)] at hq
    by_cases e : k = j
    · rw [if_pos e] at hq
      rcases hblk with e2 | e2
      · exact h.ap k q (e2 ▸ hq)
      · have := e2 q hq; omega
    · rw [if_neg e] at hq
      exact h.ap j q hq
  · exact h.low.trans (hbs.below hB (fun q hp => by
      rcases hp with e | e
      · exact (win_block (hwk k) q e.symm).1
      · subst e; exact hgB))
end Go.Proofs.YtpddamloajpiiaaGreatDoor
