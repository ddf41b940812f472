/-
What is proved here: a tree of one directory cloned, and the empty one, by contracts.
-/
import Derived.Test.YtciafdbhkfhidaaVm
import Derived.Test.YtciafdbhkfhidaaVn
set_option linter.unusedSimpArgs false
set_option linter.unusedVariables false
namespace Go.Proofs.Ytciafdbhkfhidaa
open Go.Pth Go.Tre Go.RowKit Go.Word Go.Mod
theorem step_store_row {P : Program} {w : World} {ops : Array Oper} {o : Oper} {a : Act} {K : Act → World → Prop} {Q : Exit → Act → World → Prop} {E : Prop} (hgd : o.guard = none) (ty : TypeId) (x y : Operand) (ho : o.op = .store ty x y)
    (g : Nat) (cells : Array Value) (hx : a.eval x = .pointer (some ⟨g, 0, none⟩)) (hy : a.eval y = .agg cells) (t : TypeId) (old : Array Value) (hg : w.heap[g]? = some (.cells old t (0, 0))) (hi : (P.info? ty).map (·.size) = some cells.size)
    (hold : old.size = cells.size) (h1 : cells.all (·.oneCell') = true) (h : K (a.put o.dst undef) (w.setRow g cells)) :
    if Region.wanted o (yielded ops a.tmps) = true then Oper.wp P o a w K Q else E := by
  have hw : Region.wanted o (yielded ops a.tmps) = true := by simp [Region.wanted, hgd]
  rw [if_pos hw]
  exact wp_store_row ty x y ho g cells hx hy t old hg hi hold h1 h
theorem gg_eq {gg H : Nat} (h : (Value.slice none 0 0).ownBlock = some gg ∨ gg = H) : gg = H := by
  rcases h with h | h
  · cases h
  · exact h
abbrev o29 : Obj := .cells #[.slice none 0 0, .slice none 0 0] 29
abbrev xsM : List Value := [St [97], .int .i64 (-1), .int .i64 493]
/-- what stands behind the first statement of Clone -/
def Ck (w : World) (v : Value) (wx : World) : Prop := ∃ b G C, v = .pointer (some ⟨b, 0, none⟩) ∧ w.heap.size + 1 < b ∧ Lies wx b 29 #[.slice (some ⟨G, 0, none⟩) 1 C, .slice none 0 0] ∧ wx.ownsRow (w.heap.size + 2) 38 3 (.slice (some ⟨G, 0, none⟩) 1 C) 1 xsM ∧ Below w.heap.size w wx ∧ Lies wx (w.heap.size + 1) 29 #[.slice none 0 0, .slice none 0 0]
theorem ck_mk {w W2 : World} {b G C : Nat} (hb : w.heap.size + 1 < b) (hbG : G ≠ b) (own : W2.ownsRow (w.heap.size + 2) 38 3 (.slice (some ⟨G, 0, none⟩) (0 + 1) C) (0 + 1) ([] ++ xsM)) (hB : Below w.heap.size w W2) (hR : Lies W2 (w.heap.size + 1) 29 #[.slice none 0 0, .slice none 0 0]) (hL : Lies W2 b 29 #[.slice none 0 0, .slice none 0 0]) :
    Ck w (.pointer (some ⟨b, 0, none⟩)) (W2.setRow b #[.slice (some ⟨G, 0, none⟩) 1 C, .slice none 0 0]) :=
  ⟨b, G, C, rfl, hb, lies_setRow hL _, own.kept (grown_setRow W2 _ _) (.inr (by simp [Value.ownBlock]; omega)), below_setRow hB (by omega) _, (setRow_other W2 b (w.heap.size + 1) _ (by omega)).trans hR⟩
theorem ck_cells {w W2 : World} {b G C : Nat} (hb : w.heap.size + 1 < b) (hbG : G ≠ b) (own : W2.ownsRow (w.heap.size + 2) 38 3 (.slice (some ⟨G, 0, none⟩) (0 + 1) C) (0 + 1) ([] ++ xsM)) (hB : Below w.heap.size w W2) (hR : Lies W2 (w.heap.size + 1) 29 #[.slice none 0 0, .slice none 0 0]) (hL : Lies W2 b 29 #[.slice none 0 0, .slice none 0 0]) :
    Ck w (.pointer (some ⟨b, 0, none⟩)) ((W2.setCell ⟨b, 0, none⟩ (.slice (some ⟨G, 0, none⟩) 1 C)).setCell ⟨b, 1, none⟩ (.slice none 0 0)) := by
  rw [setCell_eq_setRow W2 b 0 _ 29 (0, 0) _ hL, setCell_eq_setRow _ b 1 _ 29 (0, 0) _ (lies_setRow hL _), setRow_setRow]
  exact ck_mk hb hbG own hB hR hL
theorem ck_new {w W2 : World} {G C : Nat} (hb : w.heap.size + 1 < W2.heap.size) (hG : G < W2.heap.size) (own : W2.ownsRow (w.heap.size + 2) 38 3 (.slice (some ⟨G, 0, none⟩) (0 + 1) C) (0 + 1) ([] ++ xsM)) (hB : Below w.heap.size w W2) (hR : Lies W2 (w.heap.size + 1) 29 #[.slice none 0 0, .slice none 0 0]) :
    Ck w (.pointer (some ⟨W2.heap.size, 0, none⟩)) (W2.alloc (.cells #[.slice (some ⟨G, 0, none⟩) 1 C, .slice none 0 0] 29)) := by
  rw [← setRow_alloc W2 29 #[.slice none 0 0, .slice none 0 0]]
  exact ck_mk hb (by omega) (own.alloc o29) (hB.alloc hB.size o29) (lies_alloc hR o29) (lies_new W2 29 #[.slice none 0 0, .slice none 0 0])
set_option maxRecDepth 100000 in
set_option maxHeartbeats 8000000 in
theorem clone_one (B G C : Nat) (w : World) (hG : w.ownsRow B 38 3 (.slice (some ⟨G, 0, none⟩) 1 C) 1 xsM) :
    Calls Try.prog 10 #[.agg #[.slice (some ⟨G, 0, none⟩) 1 C, .slice none 0 0]] w fun e w' => (∃ G2 C2, e = .returned (.agg #[.slice (some ⟨G2, 0, none⟩) 1 C2, .slice none 0 0]) ∧ w'.ownsRow (w.heap.size + 2) 38 3 (.slice (some ⟨G2, 0, none⟩) 1 C2) 1 xsM) ∧ Below w.heap.size w w' := by
  obtain ⟨i0, hi0, hz0, hz1, hz2⟩ := info_parts node_info3
  have HI := Lib.hid hi0
  have HZ0 := Lib.hid hz0
  have HZ1 := Lib.hid hz1
  have HZ2 := Lib.hid hz2
  clear hi0 hz0 hz1 hz2
  have hz := zero29
  have LT := lies_alloc (lies_new w 29 #[.slice (some ⟨G, 0, none⟩) 1 C, .slice none 0 0]) o29
  have LR := lies_new (w.alloc (.cells #[.slice (some ⟨G, 0, none⟩) 1 C, .slice none 0 0] 29)) 29 #[.slice none 0 0, .slice none 0 0]
  rw [World.size_alloc] at LR
  have HB := Lib.hid (show Below w.heap.size w ((w.alloc (.cells #[.slice (some ⟨G, 0, none⟩) 1 C, .slice none 0 0] 29)).alloc o29) from ((Below.refl _ _).alloc (Nat.le_refl _) _).alloc (by simp) _)
  have SR := Lib.hid (fun j u (h : xsM[j]? = some u) => ((hG.alloc (.cells #[.slice (some ⟨G, 0, none⟩) 1 C, .slice none 0 0] 29)).alloc o29).cells rfl j u h)
  have SZ := Lib.hid (show ((w.alloc (.cells #[.slice (some ⟨G, 0, none⟩) 1 C, .slice none 0 0] 29)).alloc o29).heap.size = w.heap.size + 2 by simp)
  have t0 := lies_cell LT 0
  have t1 := lies_cell LT 1
  have t0a := lies_cell (lies_alloc LT o29) 0
  have t1a := lies_cell (lies_alloc LT o29) 1
  simp only [List.getElem?_toArray, List.getElem?_cons_zero, List.getElem?_cons_succ] at t0 t1 t0a t1a
  have LT := Lib.hid LT
  have LR := Lib.hid LR
  clear hG
  go_enter Try.func10, Try.ntmps10
  go_upto_region 1 with (fail)
  generalize (w.alloc (.cells #[.slice (some ⟨G, 0, none⟩) 1 C, .slice none 0 0] 29)).alloc o29 = X at *
  go_cut [3] from 6 to 12 (fun v3 wx => Ck w v3 wx)
  case first =>
    have SA := Lib.hid (fun j u (h : xsM[j]? = some u) => (World.grownBy_alloc X o29 none).cell (SR.out j u h) (by simp))
    go_region_law (first
      | ((refine step_append_lies _ (by rfl) _ _ _ (by rfl) (w.heap.size + 2) 38 i0 _ 3 32 Try.underlying26 HI.out HZ0.out HZ1.out HZ2.out rfl (by omega) (.slice none 0 0) 0 [] (by rfl) (show X.drew.ownsRow (w.heap.size + 2) 38 3 (.slice none 0 0) 0 [] from World.ownsRow_nil _ _ _ _) ⟨G, 0, none⟩ 1 C xsM (by rfl) (by rfl) SR.out (by simp [Value.oneCell', St]) (by omega) (by decide) (by decide) (by have := SZ.out; simp; omega) X.heap.size rfl ?_); intro gg cap w1 hown1 hgrow hat hlt1
         have B1 := HB.out.drew.grown hgrow (by have := SZ.out; simp; omega) (fun k e => by cases e)
         have R1 := (hgrow.block (w.heap.size + 1) (by have := SZ.out; simp; omega) (by simp [Value.ownBlock])).trans LR.out
         have T1 := (hgrow.block w.heap.size (by have := SZ.out; simp; omega) (by simp [Value.ownBlock])).trans LT.out
         have t1 := lies_cell (w := w1) T1 1
         have t1a := lies_cell (w := w1.alloc o29) (lies_alloc T1 o29) 1
         simp only [List.getElem?_toArray, List.getElem?_cons_zero, List.getElem?_cons_succ] at t1 t1a
         have HE := Lib.hid (ck_new (W2 := w1) (by have := hgrow.size; have := SZ.out; simp at *; omega) hlt1 hown1 B1 R1)
         clear hown1 hgrow hat hlt1 B1 R1 T1)
      | (refine step_append_lies _ (by rfl) _ _ _ (by rfl) (w.heap.size + 2) 38 i0 _ 3 32 Try.underlying26 HI.out HZ0.out HZ1.out HZ2.out rfl (by omega) (.slice none 0 0) 0 [] (by rfl) (show (X.alloc o29).drew.ownsRow (w.heap.size + 2) 38 3 (.slice none 0 0) 0 [] from World.ownsRow_nil _ _ _ _) ⟨G, 0, none⟩ 1 C xsM (by rfl) (by rfl) SA.out (by simp [Value.oneCell', St]) (by omega) (by decide) (by decide) (by have := SZ.out; simp; omega) (X.heap.size + 1) (by simp) ?_; intro gg cap w1 hown1 hgrow hat hlt1
         have B1 := (HB.out.alloc HB.out.size o29).drew.grown hgrow (by have := SZ.out; simp; omega) (fun k e => by cases e)
         have R1 := (hgrow.block (w.heap.size + 1) (by have := SZ.out; simp; omega) (by simp [Value.ownBlock])).trans (lies_alloc LR.out o29)
         have T1 := (hgrow.block w.heap.size (by have := SZ.out; simp; omega) (by simp [Value.ownBlock])).trans (lies_alloc LT.out o29)
         have L1 := (hgrow.block X.heap.size (by simp) (by simp [Value.ownBlock])).trans (lies_new X 29 #[.slice none 0 0, .slice none 0 0])
         have t1 := lies_cell (w := w1) T1 1
         simp only [List.getElem?_toArray, List.getElem?_cons_zero, List.getElem?_cons_succ] at t1
         have HE := Lib.hid (ck_cells (W2 := w1) (b := X.heap.size) (by have := SZ.out; omega) (by have := gg_eq hat; omega) hown1 B1 R1 L1)
         have s0 := lies_cell (w := w1) L1 0
         have s1 := lies_cell (w := w1) L1 1
         have f0 := lies_free (w := w1) L1 0
         have f1 := lies_free (w := w1) L1 1
         simp only [List.getElem?_toArray, List.getElem?_cons_zero, List.getElem?_cons_succ] at s0 s1
         clear hown1 hgrow hat hlt1 B1 R1 T1 L1))
    all_goals (go_wp2_with fail; go_meet; exact HE.out)
  case rest =>
    obtain ⟨b, G2, C2, rfl, hb, hL, hO, hBB, hR⟩ := hcut
    clear t0 t1 t0a t1a SR LT LR HB SZ hz HI HZ0 HZ1 HZ2
    have y0 := lies_cell hL 0
    have y1 := lies_cell hL 1
    simp only [List.getElem?_toArray, List.getElem?_cons_zero, List.getElem?_cons_succ] at y0 y1
    have HO := Lib.hid (hO.kept (grown_setRow wc (w.heap.size + 1) #[.slice (some ⟨G2, 0, none⟩) 1 C2, .slice none 0 0]) (.inr (by have := own_ge hO; simp [Value.ownBlock]; omega)))
    have HW := Lib.hid (below_setRow hBB (g := w.heap.size + 1) (by omega) #[.slice (some ⟨G2, 0, none⟩) 1 C2, .slice none 0 0])
    have HR := Lib.hid hR
    clear hL hO hBB hR
    go_wp2
    go_loopw [4, 5, 16] (fun _ _ v16 wr => v16 = .int .i64 0 ∧ wc = wr) (fun _ _ _ _ => 0)
    case atStart => exact ⟨rfl, rfl⟩
    case round =>
      obtain ⟨rfl, hw⟩ := hrel
      subst hw
      go_wp2_with (refine wpList_store_row rfl 29 _ _ rfl (w.heap.size + 1) #[.slice (some ⟨G2, 0, none⟩) 1 C2, .slice none 0 0] rfl rfl 29 _ HR.out (by kernel_rfl) rfl (by simp [Value.oneCell']) ?_)
      (try simp only [Exit.inBlock, Exit.then])
      refine bodyPost_ret (results_cell_row rfl _ _ (w.heap.size + 1) 29 #[.slice (some ⟨G2, 0, none⟩) 1 C2, .slice none 0 0] (0, 0) _ rfl (lies_setRow HR.out _) Try.underlying29 rfl (by kernel_rfl)) rfl ?_
      exact ⟨⟨G2, C2, rfl, HO.out⟩, HW.out⟩
end Go.Proofs.Ytciafdbhkfhidaa
