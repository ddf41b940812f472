/-
What is proved here: a node put among none, by a contract.
-/
import Derived.Test.YtciafdbhkfhidaaVr
import Derived.Deep.AppendLies
import Derived.Deep.RegionLaw
import Derived.Great.Walk
set_option linter.unusedSimpArgs false
set_option linter.unusedVariables false
namespace Go.Proofs.Ytciafdbhkfhidaa
open Go.Pth Go.Tre Go.RowKit Go.Word Go.Mod
theorem node_info3 : (Try.prog.info? 38).map (fun i => (i.zero, i.size, i.bytes)) = some (some (.agg #[.string ⟨#[]⟩, .int .i64 0, .int .i64 0]), 3, 32) := by kernel_rfl
def Put (w : World) (g : Nat) (c1 c2 c3 c4 c5 c6 c7 c8 : Value) (w' : World) : Prop := ∃ G C, Lies w' g 64 #[.slice (some ⟨G, 0, none⟩) 1 C, c1, c2, c3, c4, c5, c6, c7, c8] ∧ w'.ownsRow w.heap.size 38 3 (.slice (some ⟨G, 0, none⟩) 1 C) 1 [St [97], .int .i64 (-1), .int .i64 493] ∧ w.grownBy w' (some g)
theorem grown_some {a b : World} {g : Nat} (h : a.grownBy b none) : a.grownBy b (some g) := ⟨h.os, h.tape, h.output, h.size, fun i hi _ => h.block i hi (by simp)⟩
theorem put_end {w X W w1 : World} {g gg cap : Nat} {c1 c2 c3 c4 c5 c6 c7 c8 : Value} (hlt : g < w.heap.size) (hX : w.grownBy X none) (hW : X.grownBy W none) (h1 : W.grownBy w1 none) (LG : Lies X g 64 #[.slice none 0 0, c1, c2, c3, c4, c5, c6, c7, c8])
    (own : w1.ownsRow w.heap.size 38 3 (.slice (some ⟨gg, 0, none⟩) (0 + 1) cap) (0 + 1) ([] ++ [St [97], .int .i64 (-1), .int .i64 493])) (hgg : (Value.slice none 0 0).ownBlock = some gg ∨ gg = X.heap.size + 1) :
    Put w g c1 c2 c3 c4 c5 c6 c7 c8 (w1.setCell ⟨g, 0, none⟩ (.slice (some ⟨gg, 0, none⟩) 1 cap)) := by
  have e : gg = X.heap.size + 1 := by rcases hgg with h | h; · cases h
                                      · exact h
  have hs := hX.size
  have hws := hW.size
  have L1 : Lies w1 g 64 #[.slice none 0 0, c1, c2, c3, c4, c5, c6, c7, c8] := (h1.block g (by omega) (by simp)).trans ((hW.block g (by omega) (by simp)).trans LG)
  have hc : w1.grownBy (w1.setCell ⟨g, 0, none⟩ (.slice (some ⟨gg, 0, none⟩) 1 cap)) (some g) := ⟨rfl, rfl, rfl, by simp [World.setCell, World.setCell], fun i _ hne => Below.heap_setCell _ _ _ i (fun h => hne (by rw [h]))⟩
  refine ⟨gg, cap, lies_set L1 0 _, own.kept hc (.inr (fun h => ?_)), (((grown_some hX).trans (grown_some hW)).trans (grown_some h1)).trans hc⟩
  simp only [Value.ownBlock, Option.some.injEq] at h
  omega
set_option maxRecDepth 100000 in
set_option maxHeartbeats 4000000 in
theorem put_new (g : Nat) (c1 c2 c3 c4 c5 c6 c7 c8 : Value) (w : World) (hg : Lies w g 64 #[.slice none 0 0, c1, c2, c3, c4, c5, c6, c7, c8]) :
    Calls Try.prog 57 #[.pointer (some ⟨g, 0, none⟩), .agg #[St [97], .int .i64 (-1), .int .i64 493]] w fun e w' => e = .returned (.tuple #[]) ∧ Put w g c1 c2 c3 c4 c5 c6 c7 c8 w' := by
  obtain ⟨i0, hi0, hz0, hz1, hz2⟩ := info_parts node_info3
  have hlt := lies_lt hg
  have LG := lies_alloc hg (.cells #[St [97], .int .i64 (-1), .int .i64 493] 38)
  have LN := lies_new w 38 #[St [97], .int .i64 (-1), .int .i64 493]
  have g0 := lies_cell LG 0
  have n0 := lies_cell LN 0
  have n1 := lies_cell LN 1
  have n2 := lies_cell LN 2
  simp only [List.getElem?_toArray, List.getElem?_cons_zero, List.getElem?_cons_succ] at g0 n0 n1 n2
  have HG := Lib.hid LG
  have HN := Lib.hid LN
  have HI := Lib.hid hi0
  have HZ0 := Lib.hid hz0
  have HZ1 := Lib.hid hz1
  have HZ2 := Lib.hid hz2
  have SZ := Lib.hid (World.size_alloc w (.cells #[St [97], .int .i64 (-1), .int .i64 493] 38))
  have GR := Lib.hid (show w.grownBy (w.alloc (.cells #[St [97], .int .i64 (-1), .int .i64 493] 38)) none from World.grownBy_alloc w _ none)
  clear LG LN hg hi0 hz0 hz1 hz2
  go_enter Try.func57, Try.ntmps57
  go_upto_region 1 with (fail)
  generalize w.alloc (.cells #[St [97], .int .i64 (-1), .int .i64 493] 38) = X at *
  have GD := Lib.hid (show (X.alloc (.cells #[St [97], .int .i64 (-1), .int .i64 493] 38)).grownBy (X.alloc (.cells #[St [97], .int .i64 (-1), .int .i64 493] 38)).drew none from ⟨rfl, rfl, rfl, Nat.le_refl _, fun _ _ _ => rfl⟩)
  have gd := lies_cell (lies_alloc HG.out (.cells #[St [97], .int .i64 (-1), .int .i64 493] 38)) 0
  simp only [List.getElem?_toArray, List.getElem?_cons_zero] at gd
  go_region_law (first
    | (refine step_append_lies _ (by rfl) _ _ _ (by rfl) w.heap.size 38 i0 _ 3 32 Try.underlying26 HI.out HZ0.out HZ1.out HZ2.out rfl (by omega) (.slice none 0 0) 0 [] (by rfl) (World.ownsRow_nil _ _ _ _)
        ⟨X.heap.size, 0, none⟩ 1 1 [St [97], .int .i64 (-1), .int .i64 493] (by rfl) (by rfl) (World.news_of_block (cs := #[St [97], .int .i64 (-1), .int .i64 493]) (t := 38) (fr := (0, 0)) (heap_alloc_new _ _)) (by simp [Value.oneCell', St])
        (by omega) (by decide) (by decide) (by simp; have := SZ.out; omega) (X.heap.size + 1) (by simp) ?_; intro gg cap w1 hown1 hgrow hat hlt1; have hW := World.grownBy.trans (World.grownBy_alloc X (.cells #[St [97], .int .i64 (-1), .int .i64 493] 38) none) GD.out; have L1 := (hgrow.block g (by have := SZ.out; simp; omega) (by simp [Value.ownBlock])).trans (lies_alloc HG.out (.cells #[St [97], .int .i64 (-1), .int .i64 493] 38)); have g1 := lies_cell (w := w1) L1 0; have fz := lies_free (w := w1) L1 0; simp only [List.getElem?_toArray, List.getElem?_cons_zero] at g1; have HE := Lib.hid (put_end hlt GR.out hW hgrow HG.out hown1 hat); clear hown1 hgrow hat hlt1 hW L1))
  all_goals (go_wp2_with fail)
  all_goals exact Go.Great.bodyPost_end0 rfl rfl ⟨rfl, HE.out⟩
theorem put_drew {w w' : World} {g : Nat} {c1 c2 c3 c4 c5 c6 c7 c8 : Value} (h : Put w.drew g c1 c2 c3 c4 c5 c6 c7 c8 w') : Put w g c1 c2 c3 c4 c5 c6 c7 c8 w' := by
  obtain ⟨G, C, h1, h2, h3⟩ := h
  exact ⟨G, C, h1, h2, ⟨h3.os, h3.tape, h3.output, h3.size, h3.block⟩⟩
set_option maxRecDepth 100000 in
set_option maxHeartbeats 4000000 in
theorem mkdir_new (g : Nat) (c1 c2 c3 c5 c7 c8 : Value) (w : World) (hg : Lies w g 64 #[.slice none 0 0, c1, c2, c3, St [97], c5, .int .i64 493, c7, c8]) :
    Calls Try.prog 40 #[.pointer (some ⟨g, 0, none⟩)] w fun e w' => e = .returned (.tuple #[]) ∧ Put w g c1 c2 c3 (St [97]) c5 (.int .i64 493) c7 c8 w' := by
  have g4 := lies_cell hg 4
  have g6 := lies_cell hg 6
  simp only [List.getElem?_toArray, List.getElem?_cons_zero, List.getElem?_cons_succ] at g4 g6
  have KP := Lib.hid (put_new g c1 c2 c3 (St [97]) c5 (.int .i64 493) c7 c8 w.drew hg)
  clear hg
  go_enter Try.func40, Try.ntmps40
  go_region_with (go_at_call 57; (with_reducible refine KP.out.mono ?_); rintro e w1 ⟨rfl, hp⟩; have HP := Lib.hid (put_drew hp); clear hp)
  all_goals (go_wp2_with fail)
  all_goals exact Go.Great.bodyPost_end0 rfl rfl ⟨rfl, HP.out⟩
end Go.Proofs.Ytciafdbhkfhidaa
