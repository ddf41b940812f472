/-
What is proved here: Do of one mkdir on the empty tree, by a contract.
-/
import Derived.Test.YtciafdbhkfhidaaVd
import Derived.Test.YtciafdbhkfhidaaVk
set_option linter.unusedSimpArgs false
set_option linter.unusedVariables false
namespace Go.Proofs.Ytciafdbhkfhidaa
open Go.Pth Go.Tre Go.RowKit Go.Word Go.Mod
/-- what stands behind the play -/
def Dp (w wx : World) : Prop := Below w.heap.size w wx ∧ w.heap.size + 3 < wx.heap.size ∧ Lies wx (w.heap.size + 1 + 1) 29 #[.slice none 0 0, .slice none 0 0] ∧ ∃ G C, Lies wx (w.heap.size + 1 + 1 + 1) 29 #[.slice (some ⟨G, 0, none⟩) 1 C, .slice none 0 0] ∧ wx.ownsRow (w.heap.size + 4) 38 3 (.slice (some ⟨G, 0, none⟩) 1 C) 1 xsM
theorem dp_mk {w a b : World} (hB : Below w.heap.size w a) (hs : w.heap.size + 3 < a.heap.size) (hR : Lies a (w.heap.size + 1 + 1) 29 #[.slice none 0 0, .slice none 0 0]) (hp : Pm a (w.heap.size + 1 + 1 + 1) b) : Dp w b := by
  obtain ⟨hg, G, C, h1, h2⟩ := hp
  exact ⟨hB.grown hg hB.size (fun k e => by cases e; omega), Nat.lt_of_lt_of_le hs hg.size, gb_row hg hR (by omega), G, C, h1, h2.mono (by omega)⟩
set_option maxRecDepth 100000 in
set_option maxHeartbeats 8000000 in
theorem do_mk (w : World) :
    Calls Try.prog 7 #[.agg #[.slice none 0 0, .slice none 0 0], .agg #[.int .i64 1, St [97], St [], .int .i64 493, .int .i64 0], .slice none 0 0] w fun e w' => (∃ G C, e = .returned (.tuple #[.agg #[.slice (some ⟨G, 0, none⟩) 1 C, .slice none 0 0], .int .i64 0]) ∧ w'.ownsRow w.heap.size 38 3 (.slice (some ⟨G, 0, none⟩) 1 C) 1 xsM) ∧ Below w.heap.size w w' := by
  have hz := zero29
  have LT := lies_alloc (lies_alloc (lies_alloc (lies_new w 29 #[.slice none 0 0, .slice none 0 0]) (.cells #[.int .i64 1, St [97], St [], .int .i64 493, .int .i64 0] 25)) o29) o29
  have LI := lies_new (w.alloc o29) 25 #[.int .i64 1, St [97], St [], .int .i64 493, .int .i64 0]
  rw [World.size_alloc] at LI
  have LI := lies_alloc (lies_alloc LI o29) o29
  have LR := lies_new ((w.alloc o29).alloc (.cells #[.int .i64 1, St [97], St [], .int .i64 493, .int .i64 0] 25)) 29 #[.slice none 0 0, .slice none 0 0]
  simp only [World.size_alloc] at LR
  have LR := Lib.hid (lies_alloc LR o29)
  have LL := lies_new (((w.alloc o29).alloc (.cells #[.int .i64 1, St [97], St [], .int .i64 493, .int .i64 0] 25)).alloc o29) 29 #[.slice none 0 0, .slice none 0 0]
  simp only [World.size_alloc] at LL
  have LL := Lib.hid LL
  have HB := Lib.hid (show Below w.heap.size w ((((w.alloc o29).alloc (.cells #[.int .i64 1, St [97], St [], .int .i64 493, .int .i64 0] 25)).alloc o29).alloc o29) from ((((Below.refl _ _).alloc (Nat.le_refl _) _).alloc (by simp) _).alloc (by simp; omega) _).alloc (by simp; omega) _)
  have SZ := Lib.hid (show ((((w.alloc o29).alloc (.cells #[.int .i64 1, St [97], St [], .int .i64 493, .int .i64 0] 25)).alloc o29).alloc o29).heap.size = w.heap.size + 4 by simp)
  have t0 := lies_cell LT 0
  have t1 := lies_cell LT 1
  have i0 := lies_cell LI 0
  have i1 := lies_cell LI 1
  have i2 := lies_cell LI 2
  have i3 := lies_cell LI 3
  have i4 := lies_cell LI 4
  simp only [List.getElem?_toArray, List.getElem?_cons_zero, List.getElem?_cons_succ] at t0 t1 i0 i1 i2 i3 i4
  clear LT LI
  go_enter Try.func7, Try.ntmps7
  go_upto_region 2 with (fail)
  generalize (((w.alloc o29).alloc (.cells #[.int .i64 1, St [97], St [], .int .i64 493, .int .i64 0] 25)).alloc o29).alloc o29 = X at *
  clear hz
  have IN : Lies (X.alloc (.cells #[.int .i64 1, St [97], St [], .int .i64 493, .int .i64 0] 25)) X.heap.size 25 #[.int .i64 1, St [97], St [], .int .i64 493, .int .i64 0] := lies_new X 25 _
  have KP := Lib.hid (play_mk (w.heap.size + 1 + 1 + 1) X.heap.size 1 (X.alloc (.cells #[.int .i64 1, St [97], St [], .int .i64 493, .int .i64 0] 25)) (lies_alloc LL.out _) (fun j v hj => by
    rw [Nat.zero_add, lies_cell IN j]
    simpa using hj) (by have := SZ.out; omega))
  have KD := Lib.hid (fun b (hp : Pm (X.alloc (.cells #[.int .i64 1, St [97], St [], .int .i64 493, .int .i64 0] 25)) (w.heap.size + 1 + 1 + 1) b) => dp_mk (w := w) (HB.out.alloc HB.out.size _) (by have := SZ.out; simp; omega) (lies_alloc LR.out _) hp)
  clear IN LL LR HB
  go_upto_region 3 with (go_at_call 8; (with_reducible refine KP.out.mono ?_); rintro e w1 ⟨rfl, hp⟩; have HD := Lib.hid (KD.out w1 hp); clear hp)
  obtain ⟨h1, h2, h3, G, C, h4, h5⟩ := HD.out
  have y0 := lies_cell h4 0
  have y1 := lies_cell h4 1
  simp only [List.getElem?_toArray, List.getElem?_cons_zero, List.getElem?_cons_succ] at y0 y1
  have KC := Lib.hid (clone_one _ G C w1 h5)
  have H2 := Lib.hid h2
  have KE := Lib.hid (fun (w2 : World) (G2 C2 : Nat) (ho : w2.ownsRow (w1.heap.size + 2) 38 3 (.slice (some ⟨G2, 0, none⟩) 1 C2) 1 xsM) (hb : Below w1.heap.size w1 w2) => show Below w.heap.size w (w2.setRow (w.heap.size + 1 + 1) #[.slice (some ⟨G2, 0, none⟩) 1 C2, .slice none 0 0]) ∧ Lies w2 (w.heap.size + 1 + 1) 29 #[.slice none 0 0, .slice none 0 0] ∧ (w2.setRow (w.heap.size + 1 + 1) #[.slice (some ⟨G2, 0, none⟩) 1 C2, .slice none 0 0]).ownsRow w.heap.size 38 3 (.slice (some ⟨G2, 0, none⟩) 1 C2) 1 xsM from ⟨below_setRow (h1.trans (hb.mono h1.size)) (by omega) _, lies_below h3 hb (lies_lt h3), (ho.kept (grown_setRow w2 _ _) (.inr (by have := own_ge ho; have := H2.out; simp [Value.ownBlock]; omega))).mono (by have := H2.out; omega)⟩)
  clear h1 h2 h3 h4 h5 HD KD KP t0 t1 i0 i1 i2 i3 i4
  go_wp2_with (first
    | (go_at_call 10; (refine KC.out.mono ?_); rintro e w2 ⟨⟨G2, C2, rfl, ho⟩, hb⟩; have HE := Lib.hid (KE.out w2 G2 C2 ho hb); clear ho hb)
    | (refine wpList_store_row rfl 29 _ _ rfl (w.heap.size + 1 + 1) #[.slice (some ⟨G2, 0, none⟩) 1 C2, .slice none 0 0] rfl rfl 29 _ HE.out.2.1 (by kernel_rfl) rfl (by simp [Value.oneCell']) ?_))
  (try simp only [Exit.inBlock, Exit.then])
  refine bodyPost_ret (results_row_tmp rfl _ _ (w.heap.size + 1 + 1) 29 #[.slice (some ⟨G2, 0, none⟩) 1 C2, .slice none 0 0] (0, 0) _ rfl _ rfl (lies_setRow HE.out.2.1 _) Try.underlying29 rfl (by kernel_rfl)) rfl ?_
  exact ⟨⟨G2, C2, rfl, HE.out.2.2⟩, HE.out.1⟩
end Go.Proofs.Ytciafdbhkfhidaa
