/-
What is proved here: the law PathParts's walk.
-/
import Derived.Test.YtocaijklgomhiaaDoorSame
set_option linter.unusedSimpArgs false
namespace Go.Proofs.YtocaijklgomhiaaDoor
open Go.Pth Go.RowKit Go.Word
attribute [local go_sem] guard_eq guard_ne st_eql len_st

/-- a list of the call's own: its cells may be written -/
def Mine (w : World) (b : Nat) (A : Option Addr) (k : Nat) : Prop := k = 0 ∨ ∃ g cur, A = some ⟨g, 0, none⟩ ∧ b ≤ g ∧ w.heap[g]? = some (.cells cur 9 (0, 0)) ∧ k ≤ cur.size
theorem lt_heap {w : World} {g : Nat} {o : Obj} (h : w.heap[g]? = some o) : g < w.heap.size := (Array.getElem?_eq_some_iff.1 h).1
theorem mine_own {w : World} {base : Nat} {A : Option Addr} {C k : Nat} {xs : List Value} (h : w.ownsRow base 9 1 (.slice A k C) k xs) : Mine w base A k := by
  rcases h.2 with ⟨e1, e2⟩ | ⟨g, cap, cur, e1, hb, hg, hn, _, hs, _⟩
  · exact .inl e2
  · injection e1 with e1 _ _
    exact .inr ⟨g, cur, e1, hb, hg, by omega⟩
theorem mine_below {w w' : World} {b : Nat} {A : Option Addr} {k : Nat} (h : Mine w b A k) (hb : Below w.heap.size w w') : Mine w' b A k := by
  rcases h with h | ⟨g, cur, e, hg, hh, hs⟩
  · exact .inl h
  · exact .inr ⟨g, cur, e, hg, (hb.block g (lt_heap hh)).trans hh, hs⟩
/-- .. that lies from block b on, ahead of block c -/
def Mid (w : World) (b c : Nat) (A : Option Addr) (k : Nat) : Prop := k = 0 ∨ ∃ g cur, A = some ⟨g, 0, none⟩ ∧ b ≤ g ∧ g < c ∧ w.heap[g]? = some (.cells cur 9 (0, 0)) ∧ k ≤ cur.size
theorem mid_of {w w' : World} {b b' : Nat} {A : Option Addr} {k : Nat} (h : Mine w b A k) (hb : Below w.heap.size w w') (hbb : b' ≤ b) : Mid w' b' w.heap.size A k := by
  rcases h with h | ⟨g, cur, e, hg, hh, hs⟩
  · exact .inl h
  · exact .inr ⟨g, cur, e, Nat.le_trans hbb hg, lt_heap hh, (hb.block g (lt_heap hh)).trans hh, hs⟩
theorem below_up {w w1 w2 : World} (h : Below w.heap.size w w1) (h2 : Below w1.heap.size w1 w2) : Below w.heap.size w w2 := h.trans (h2.mono h.size)

set_option maxRecDepth 100000 in
set_option maxHeartbeats 4000000 in
theorem parts_any (l : Bt) (w : World) : Calls Tryd.prog 3 #[St l] w fun e w' => e = .returned (.bool true) ∧ Below w.heap.size w w' := by
  by_cases h2 : 2000 < l.length
  · have h2' : 2000 < (l.length : Int) := by omega
    go_enter Tryd.func3, Tryd.ntmps3
    go_wp2_with (go_at_call 10; (with_reducible refine (alive_any _).mono ?_); rintro e w1 ⟨rfl, hb⟩; have H1 := Lib.hid hb; clear hb)
    go_ret
    exact ⟨rfl, H1.out⟩
  have h2' : ¬ 2000 < (l.length : Int) := by omega
  have hl : l.length ≤ 100000 := by omega
  have L := fun w => Lib.hid (list_any l hl w)
  have R := fun w => Lib.hid (names_ref l w hl)
  have V := fun w => Lib.hid (valid_any l w hl)
  have V2 := fun w => Lib.hid (valid_ref l w hl)
  have P := fun w => Lib.hid (parent_any l w hl)
  have P2 := fun w => Lib.hid (parent_ref l w hl)
  have B := fun w => Lib.hid (base_any l w hl)
  have B2 := fun w => Lib.hid (base_ref l w hl)
  have K := fun w => Lib.hid (kept_any l hl w)
  have K2 := fun w => Lib.hid (kept_ref l w hl)
  have hn6 := names_six l
  have s1 : same (upP l) (upP l) = true := decide_eq_true rfl
  have s2 : same (baseP l) (baseP l) = true := decide_eq_true rfl
  generalize namesP l = ns at *
  generalize isPath l = p at *
  generalize upP l = u at *
  generalize baseP l = bs at *
  generalize keptP l = kp at *
  clear h2 hl
  go_enter Tryd.func3, Tryd.ntmps3
  go_wp2_with (first
    | (go_at_call 10; (with_reducible refine (alive_any _).mono ?_); rintro e w1 ⟨rfl, hb⟩; have H1 := Lib.hid hb; clear hb)
    | (go_at_call 11; (with_reducible refine (L _).out.mono ?_); rintro e w2 ⟨A, C, rfl, ho, hb⟩; have H2 := Lib.hid (below_up H1.out hb); have M2 := Lib.hid (mine_own ho); have T2 := Lib.hid (show Tx w2 w1.heap.size A ns by obtain ⟨A0, C0, e0, t0⟩ := tx_own ho; injection e0 with e0 _ _; rw [e0]; exact t0); clear hb ho)
    | (go_at_call 12; (with_reducible refine (R _).out.mono ?_); rintro e w3 ⟨A', C', rfl, ht, hb⟩; have H3 := Lib.hid (below_up H2.out hb); have M3 := Lib.hid (mine_below M2.out hb); have T3 := Lib.hid (tx_below T2.out hb); have U3 := Lib.hid ht; have H3W := Lib.hid hb; clear hb ht)
    | (go_at_call 13; (with_reducible refine (V _).out.mono ?_); rintro e w4 ⟨rfl, hb⟩; have H4 := Lib.hid hb; clear hb)
    | (go_at_call 14; (with_reducible refine (V2 _).out.mono ?_); rintro e w5 ⟨rfl, hb⟩; have H5 := Lib.hid (below_up H4.out hb); clear hb)
    | (go_at_call 15; (with_reducible refine (same_any A A' C C' _ _ ns _ (tx_below T3.out H5.out) (tx_below U3.out H5.out) (by omega)).mono ?_); rintro e w6 ⟨rfl, hb⟩; have H6 := Lib.hid (below_up H5.out hb); clear hb))
  have HM := Lib.hid (mid_of M2.out (H3W.out.trans (H6.out.mono H3W.out.size)) H1.out.size)
  have HB0 := Lib.hid (below_up H3.out H6.out)
  have HU0 := Lib.hid (tx_below U3.out H6.out)
  clear M2 T2 M3 T3 U3 H1 H3W V V2
  generalize hc2 : w2.heap.size = c2 at *
  clear hc2 H2
  go_loopw [7] (fun x wr => ∃ i : Nat, i ≤ ns.length ∧ x = .int .i64 i ∧ Mid wr w.heap.size c2 A ns.length ∧ Tx wr c2 A' ns ∧ Below w.heap.size w wr) (fun x _ => ns.length - (intOf x).toNat)
  case atStart => exact ⟨0, by omega, rfl, HM.out, HU0.out, HB0.out⟩
  case round =>
    obtain ⟨i, hil, rfl, hm, ht, hb⟩ := hrel
    have HB := Lib.hid hb
    by_cases hlt : i < ns.length
    · obtain ⟨g, cur, rfl, hg1, hg2, hh, hs⟩ : ∃ g cur, A = some ⟨g, 0, none⟩ ∧ w.heap.size ≤ g ∧ g < c2 ∧ wr.heap[g]? = some (.cells cur 9 (0, 0)) ∧ ns.length ≤ cur.size := by
        rcases hm with h | h
        · omega
        · exact h
      have li : (i : Int) < (ns.length : Int) := by omega
      have q2 : i + 1 ≤ ns.length := hlt
      obtain ⟨old, cc⟩ : ∃ old, wr.cell? ⟨g, i, none⟩ = some old := ⟨_, (cell_of_row wr g i cur 9 (0, 0) hh).trans (Array.getElem?_eq_getElem (by omega))⟩
      have ff := frozen_of_row wr g i cur 9 hh
      have HM' := Lib.hid (show Mid (wr.setCell ⟨g, i, none⟩ (.string { data := #[45] })) w.heap.size c2 (some ⟨g, 0, none⟩) ns.length from .inr ⟨g, _, rfl, hg1, hg2, heap_setCell_same wr g i cur 9 _ hh, by rw [Array.size_setIfInBounds]; exact hs⟩)
      have HT' := Lib.hid (show Tx (wr.setCell ⟨g, i, none⟩ (.string { data := #[45] })) c2 A' ns from fun j hj => by
        obtain ⟨g', e', hg', hc'⟩ := ht j hj
        refine ⟨g', e', hg', ?_⟩
        rw [← hc']
        exact World.cell?_of_block (heap_setCell_other wr ⟨g, i, none⟩ g' _ (by show g' ≠ g; omega)))
      have HB' := Lib.hid (hb.setCell (p := ⟨g, i, none⟩) hg1 (.string { data := #[45] }))
      clear hm ht hb hh hs HM HB0 HU0 hg1 hg2
      go_wp2
      go_roundw
      case rel => exact ⟨i + 1, q2, by go_num, HM'.out, HT'.out, HB'.out⟩
      case measure => first | (simp [intOf]; done) | (simp [intOf]; omega)
    · have li : ¬ (i : Int) < (ns.length : Int) := by omega
      have HT := Lib.hid ht
      clear hm ht hb HM HB0 HU0
      go_wp2_with (first
        | (go_at_call 11; (with_reducible refine (L _).out.mono ?_); rintro e w7 ⟨A2, C2, rfl, ho, hb⟩; have H7 := Lib.hid hb; have T7 := Lib.hid (show Tx w7 wr.heap.size A2 ns by obtain ⟨A0, C0, e0, t0⟩ := tx_own ho; injection e0 with e0 _ _; rw [e0]; exact t0); clear hb ho)
        | (go_at_call 15; (with_reducible refine (same_any A2 A' C2 C' _ _ ns _ T7.out (tx_below HT.out H7.out) (by omega)).mono ?_); rintro e w8 ⟨rfl, hb⟩; have H8 := Lib.hid (below_up H7.out hb); clear hb)
        | (go_at_call 16; (with_reducible refine (P _).out.mono ?_); rintro e w9 ⟨rfl, hb⟩; have H9 := Lib.hid (below_up H8.out hb); clear hb)
        | (go_at_call 17; (with_reducible refine (P2 _).out.mono ?_); rintro e wa ⟨rfl, hb⟩; have Ha := Lib.hid (below_up H9.out hb); clear hb)
        | (go_at_call 18; (with_reducible refine (B _).out.mono ?_); rintro e wb ⟨rfl, hb⟩; have Hb := Lib.hid (below_up Ha.out hb); clear hb)
        | (go_at_call 19; (with_reducible refine (B2 _).out.mono ?_); rintro e wc ⟨rfl, hb⟩; have Hc := Lib.hid (below_up Hb.out hb); clear hb)
        | (go_at_call 20; (with_reducible refine (K _).out.mono ?_); rintro e wd ⟨rfl, hb⟩; have Hd := Lib.hid (below_up Hc.out hb); clear hb)
        | (go_at_call 21; (with_reducible refine (K2 _).out.mono ?_); rintro e we ⟨rfl, hb⟩; have He := Lib.hid (below_up Hd.out hb); clear hb))
      go_ret
      exact ⟨by first | rfl | simp, below_up HB.out He.out⟩
end Go.Proofs.YtocaijklgomhiaaDoor
