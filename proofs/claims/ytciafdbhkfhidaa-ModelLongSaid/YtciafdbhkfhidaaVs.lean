/-
What is proved here: the library's sort of one node, and a tree of one directory settled, by contracts.
-/
import Derived.Test.YtciafdbhkfhidaaVp
import Derived.Test.YtciafdbhkfhidaaLoo
import Derived.Deep.QuietTactic
import Derived.BigQuiet
set_option linter.unusedSimpArgs false
set_option linter.unusedVariables false
namespace Go.Proofs.Ytciafdbhkfhidaa
open Go.Pth Go.Tre Go.RowKit Go.Word Go.Mod
set_option maxRecDepth 100000 in
theorem len64_1 (w : World) : Calls Try.prog 76 #[.int .u64 1] w fun e w' => e = .returned (.int .i64 1) ∧ w = w' := by
  go_enter Try.func76, Try.ntmps76
  go_wp2
  go_ret
  exact ⟨by kernel_rfl, rfl⟩
theorem len_1 (w : World) : Calls Try.prog 63 #[.int .u64 1] w fun e w' => e = .returned (.int .i64 1) ∧ w = w' := by
  go_enter Try.func63, Try.ntmps63
  go_wp2_with (go_at_call 76; (with_reducible refine (len64_1 w).mono ?_); rintro e w1 ⟨rfl, rfl⟩)
  go_ret
  exact ⟨rfl, rfl⟩
theorem ins_1 (A : Option Addr) (c : Nat) (f : Value) (w : World) : Calls Try.prog 67 #[.slice A 1 c, .int .i64 0, .int .i64 1, f] w fun e w' => e = .returned (.tuple #[]) ∧ w = w' := by
  go_enter Try.func67, Try.ntmps67
  go_wp2
  go_loopw [8] (fun v6 wr => v6 = .int .i64 1 ∧ w = wr) (fun _ _ => 0)
  case atStart => exact ⟨rfl, rfl⟩
  case round =>
    obtain ⟨rfl, hw⟩ := hrel
    subst hw
    go_wp2
    exact Go.Great.bodyPost_end0 rfl rfl ⟨rfl, rfl⟩
set_option maxRecDepth 100000 in
theorem pdq_1 (A : Option Addr) (c : Nat) (f : Value) (lim : Int) (w : World) : Calls Try.prog 62 #[.slice A 1 c, .int .i64 0, .int .i64 1, .int .i64 lim, f] w fun e w' => e = .returned (.tuple #[]) ∧ w = w' := by
  have K := Lib.hid (ins_1 A c f w)
  go_enter Try.func62, Try.ntmps62
  go_wp2
  go_loopw [1, 2, 3] (fun v1 v2 v3 wr => v1 = .int .i64 0 ∧ v2 = .int .i64 1 ∧ v3 = .int .i64 lim ∧ w = wr) (fun _ _ _ _ => 0)
  case atStart => exact ⟨rfl, rfl, rfl, rfl⟩
  case round =>
    obtain ⟨rfl, rfl, rfl, hw⟩ := hrel
    subst hw
    go_wp2_with (go_at_call 67; (with_reducible refine K.out.mono ?_); rintro e w1 ⟨rfl, rfl⟩)
    (try simp only [Exit.inBlock, Exit.then])
    refine bodyPost_ret (results_none rfl _ _ _) rfl ⟨rfl, rfl⟩
set_option maxRecDepth 100000 in
theorem sort_1 (A : Option Addr) (c : Nat) (f : Value) (w : World) : Calls Try.prog 50 #[.slice A 1 c, f] w fun e w' => e = .returned (.tuple #[]) ∧ w = w' := by
  have K := Lib.hid (fun lim => pdq_1 A c f lim w)
  go_enter Try.func50, Try.ntmps50
  go_wp2_with (first
    | (go_at_call 63; (with_reducible refine (len_1 w).mono ?_); rintro e w1 ⟨rfl, rfl⟩)
    | (go_at_call 62; (with_reducible refine (K.out 1).mono ?_); rintro e w1 ⟨rfl, rfl⟩))
  exact Go.Great.bodyPost_end0 rfl rfl ⟨rfl, rfl⟩
theorem zero38 (w : World) : (zeroValue 38).run Try.prog w = .ok (.agg #[.string ⟨#[]⟩, .int .i64 0, .int .i64 0]) w := by kernel_rfl
set_option maxRecDepth 100000 in
set_option maxHeartbeats 4000000 in
theorem settle_one (g G C B : Nat) (c2 c3 c4 c5 c6 c7 c8 : Value) (w : World) (hg : Lies w g 64 #[.slice (some ⟨G, 0, none⟩) 1 C, .slice none 0 0, c2, c3, c4, c5, c6, c7, c8]) (hG : w.ownsRow B 38 3 (.slice (some ⟨G, 0, none⟩) 1 C) 1 [St [97], .int .i64 (-1), .int .i64 493]) :
    Calls Try.prog 26 #[.pointer (some ⟨g, 0, none⟩)] w fun e w' => e = .returned (.tuple #[]) ∧ Lies w' g 64 #[.slice (some ⟨G, 0, none⟩) 1 C, .slice none 0 0, c2, c3, c4, c5, c6, c7, c8] ∧ w.grownBy w' (some g) := by
  have g0 := lies_cell hg 0
  simp only [List.getElem?_toArray, List.getElem?_cons_zero] at g0
  have hR : w.rangeAt G 0 [St [97], .int .i64 (-1), .int .i64 493] := fun j v hj => by
    have h := hG.cells rfl j v hj
    rw [show (⟨G, 0, none⟩ : Addr).add j = ⟨G, 0 + j, none⟩ by unfold Addr.add; split <;> simp_all] at h
    exact h
  have hGl : G < w.heap.size := World.block_lt_of_cell? w _ (hR 0 _ rfl)
  have HG := Lib.hid hg
  have HR := Lib.hid hR
  have hmm := @run_makeMap Try.prog
  have hz := zero38
  clear hg hG hR
  go_enter Try.func26, Try.ntmps26
  go_upto_region 3 with (first
    | (go_at_call 50; (with_reducible refine (sort_1 _ _ _ w).mono ?_); rintro e w1 ⟨rfl, rfl⟩))
  clear hmm
  have LX := lies_alloc HG.out (.map #[] 0)
  have x0 := lies_cell LX 0
  simp only [List.getElem?_toArray, List.getElem?_cons_zero] at x0
  have HX := Lib.hid (show Below w.heap.size w (w.alloc (.map #[] 0)) from (Below.refl _ _).alloc (Nat.le_refl _) _)
  have LX := Lib.hid LX
  clear g0
  generalize w.alloc (.map #[] 0) = X at *
  go_wp2
  go_loopw [3, 4, 5, 6, 7, 19] (fun v3 _ _ _ _ v19 wr => v3 = .slice none 0 0 ∧ ∃ i : Nat, i ≤ 1 ∧ v19 = .int .i64 (i : Int) ∧ Below w.heap.size w wr) (fun _ _ _ _ _ v19 _ => 1 - (intOf v19).toNat)
  case atStart => exact ⟨rfl, 0, by omega, rfl, HX.out⟩
  case round =>
    obtain ⟨rfl, i, hi, rfl, hb⟩ := hrel
    have LM := Lib.hid (show wr.rangeAt G 0 [St [97], .int .i64 (-1), .int .i64 493] from fun j v hj => by rw [hb.cell hGl]; exact HR.out j v hj)
    have LR := Lib.hid (lies_below HG.out hb (lies_lt HG.out))
    have HB := Lib.hid hb
    clear hb x0
    have hi2 : i = 0 ∨ i = 1 := by omega
    clear hi
    rcases hi2 with rfl | rfl
    · have LN := Lib.hid (lies_new wr 38 #[.string { data := #[] }, .int .i64 0, .int .i64 0])
      have ES := Lib.hid (setRow_alloc wr 38 #[.string { data := #[] }, .int .i64 0, .int .i64 0] #[St [97], .int .i64 (-1), .int .i64 493])
      go_upto_region 6 with (first
        | (refine wpList_load_mid rfl 38 _ rfl G 0 rfl [St [97], .int .i64 (-1), .int .i64 493] _ LM.out Try.underlying38 rfl (by kernel_rfl) ?_)
        | (refine wpList_store_row rfl 38 _ _ rfl wr.heap.size #[St [97], .int .i64 (-1), .int .i64 493] rfl rfl 38 _ LN.out (by kernel_rfl) rfl (by simp [Value.oneCell', St]) ?_; rw [ES.out]))
      obtain ⟨wx, hwx⟩ : ∃ wx, wx = wr.alloc (.cells #[St [97], .int .i64 (-1), .int .i64 493] 38) := ⟨_, rfl⟩
      rw [← hwx]
      have Lx := (show Lies wx wr.heap.size 38 #[St [97], .int .i64 (-1), .int .i64 493] by rw [hwx]; exact lies_new _ _ _)
      have Bx := Lib.hid (show Below w.heap.size w wx by rw [hwx]; exact HB.out.alloc HB.out.size _)
      have x1 : wx.cell? ⟨wr.heap.size, 1, none⟩ = some (.int .i64 (-1)) := lies_cell Lx 1
      clear hwx LN ES LM Lx
      go_quiet (fail)
      go_wp2
      go_roundw
      case rel => exact ⟨rfl, 1, by omega, rfl, below_drewN Bx.out _⟩
      case measure => decide
    · clear hz LM
      have r0 := lies_cell LR.out 0
      have r1 := lies_cell LR.out 1
      have f1 := lies_free LR.out 1
      simp only [List.getElem?_toArray, List.getElem?_cons_zero, List.getElem?_cons_succ] at r0 r1
      have HE := Lib.hid (show w.grownBy (wr.setCell ⟨g, 1, none⟩ (.slice none 0 0)) (some g) from (show w.grownBy wr (some g) from ⟨HB.out.os, HB.out.tape, HB.out.output, HB.out.size, fun i hi _ => HB.out.block i hi⟩).trans ⟨rfl, rfl, rfl, by simp [World.setCell], fun i _ hne => Below.heap_setCell _ _ _ i (fun h => hne (by rw [h]))⟩)
      have LE := Lib.hid (show Lies (wr.setCell ⟨g, 1, none⟩ (.slice none 0 0)) g 64 #[.slice (some ⟨G, 0, none⟩) 1 C, .slice none 0 0, c2, c3, c4, c5, c6, c7, c8] from lies_set LR.out 1 _)
      go_wp2
      exact Go.Great.bodyPost_end0 rfl rfl ⟨rfl, LE.out, HE.out⟩
end Go.Proofs.Ytciafdbhkfhidaa
