/-
What is proved here: the document's own disk where nothing is done; its Fuse.
-/
import Derived.Test.YtibidljblkfciaaNod
set_option linter.unusedSimpArgs false
namespace Go.Proofs.Ytibidljblkfciaa
open Go.Word Go.RowKit

section
variable {w w' : World} {g r n : Nat} {F : Bytes} {ws : List (Nat × Bytes)} {on : Bool} {lf : Int} {fp fq : Nat → Prop}
set_option maxRecDepth 100000 in
set_option maxHeartbeats 1000000 in
theorem rd_read_no {z y : Int} (w : World) (hy : Bars on n z y) (h : RD w r n F ws on lf fp) :
    Calls Try.prog 34 #[.pointer (some ⟨r, 0, none⟩), .int .i64 z] w fun e w' => e = .returned (.tuple #[.agg (yRow nil8 512), .int .i64 y]) ∧ Below w.heap.size w w' := by
  have bb : Below w.heap.size w (w.alloc (.cells (yRow nil8 512) 78)) := (Below.refl _ w).alloc (Nat.le_refl _) _
  obtain ⟨FB, C0, A, C, c0, _, _, c3, _⟩ := rd_cells (rd_below h bb)
  have HNEW := Lib.hid (lies_new w 78 (yRow nil8 512))
  have HB := Lib.hid bb
  have hz := zero78
  clear h bb
  rcases hy with ⟨rfl, rfl⟩ | ⟨rfl, rfl, h⟩
  · have c3' : (w.alloc (.cells (yRow nil8 512) 78)).cell? ⟨r, 3, none⟩ = some (.bool true) := c3
    clear c3
    go_enter Try.func34, Try.ntmps34
    go_upto_region 2 with (fail)
    generalize w.alloc (.cells (yRow nil8 512) 78) = W at *
    clear hz
    go_wp2_with (first
      | (refine wpList_built rfl 78 _ rfl (yRow nil8 512) (by kernel_rfl) ?_)
      | (refine wpList_store_row rfl 78 _ _ rfl w.heap.size (yRow nil8 512) rfl rfl 78 _ HNEW.out (by rw [yRow_size]; kernel_rfl) rfl (yRow_one _ _) ?_))
    refine bodyPost_ret (results_cell_slot rfl _ _ w.heap.size 78 (yRow nil8 512) (0, 0) _ (.int .i64 11) rfl rfl (lies_setRow HNEW.out _) Try.underlying78 rfl (by rw [yRow_size]; kernel_rfl)) rfl ⟨rfl, below_setRow HB.out (Nat.le_refl _) _⟩
  · have c3' : (w.alloc (.cells (yRow nil8 512) 78)).cell? ⟨r, 3, none⟩ = some (.bool false) := c3
    clear c3
    by_cases h0 : z < 0
    · have t1 : decide (z < 0) = true := decide_eq_true h0
      go_enter Try.func34, Try.ntmps34
      go_upto_region 3 with (fail)
      generalize w.alloc (.cells (yRow nil8 512) 78) = W at *
      clear hz
      go_wp2_with (first
        | (refine wpList_built rfl 78 _ rfl (yRow nil8 512) (by kernel_rfl) ?_)
        | (refine wpList_store_row rfl 78 _ _ rfl w.heap.size (yRow nil8 512) rfl rfl 78 _ HNEW.out (by rw [yRow_size]; kernel_rfl) rfl (yRow_one _ _) ?_))
      refine bodyPost_ret (results_cell_slot rfl _ _ w.heap.size 78 (yRow nil8 512) (0, 0) _ (.int .i64 10) rfl rfl (lies_setRow HNEW.out _) Try.underlying78 rfl (by rw [yRow_size]; kernel_rfl)) rfl ⟨rfl, below_setRow HB.out (Nat.le_refl _) _⟩
    · have t1 : decide (z < 0) = false := decide_eq_false h0
      have t2 : decide ((n : Int) ≤ z) = true := decide_eq_true (by omega)
      go_enter Try.func34, Try.ntmps34
      go_upto_region 3 with (fail)
      generalize w.alloc (.cells (yRow nil8 512) 78) = W at *
      clear hz
      go_wp2_with (first
        | (refine wpList_built rfl 78 _ rfl (yRow nil8 512) (by kernel_rfl) ?_)
        | (refine wpList_store_row rfl 78 _ _ rfl w.heap.size (yRow nil8 512) rfl rfl 78 _ HNEW.out (by rw [yRow_size]; kernel_rfl) rfl (yRow_one _ _) ?_))
      refine bodyPost_ret (results_cell_slot rfl _ _ w.heap.size 78 (yRow nil8 512) (0, 0) _ (.int .i64 10) rfl rfl (lies_setRow HNEW.out _) Try.underlying78 rfl (by rw [yRow_size]; kernel_rfl)) rfl ⟨rfl, below_setRow HB.out (Nat.le_refl _) _⟩
set_option maxRecDepth 100000 in
theorem rd_write_no {z y : Int} (b : Value) (w : World) (hy : Bars on n z y) (h : RD w r n F ws on lf fp) :
    Calls Try.prog 35 #[.pointer (some ⟨r, 0, none⟩), .int .i64 z, b] w fun e w' => e = .returned (.int .i64 y) ∧ w = w' := by
  obtain ⟨FB, C0, A, C, c0, _, _, c3, _⟩ := rd_cells h
  clear h
  rcases hy with ⟨rfl, rfl⟩ | ⟨rfl, rfl, h⟩
  · have c3' : w.cell? ⟨r, 3, none⟩ = some (.bool true) := c3
    clear c3
    go_enter Try.func35, Try.ntmps35
    go_wp2
    go_ret
    exact ⟨rfl, rfl⟩
  · have c3' : w.cell? ⟨r, 3, none⟩ = some (.bool false) := c3
    clear c3
    by_cases h0 : z < 0
    · have t1 : decide (z < 0) = true := decide_eq_true h0
      go_enter Try.func35, Try.ntmps35
      go_wp2
      go_ret
      exact ⟨rfl, rfl⟩
    · have t1 : decide (z < 0) = false := decide_eq_false h0
      have t2 : decide ((n : Int) ≤ z) = true := decide_eq_true (by omega)
      go_enter Try.func35, Try.ntmps35
      go_wp2
      go_ret
      exact ⟨rfl, rfl⟩
set_option maxRecDepth 100000 in
theorem rd_write_len {z : Int} (A : Option Addr) (L C : Nat) (w : World) (h1 : 0 ≤ z) (h2 : z < (n : Int)) (hL : L ≠ 512) (h : RD w r n F ws true lf fp) :
    Calls Try.prog 35 #[.pointer (some ⟨r, 0, none⟩), .int .i64 z, .slice A L C] w fun e w' => e = .returned (.int .i64 1) ∧ w = w' := by
  obtain ⟨FB, C0, A', C', c0, _, _, c3, _⟩ := rd_cells h
  clear h
  have c3' : w.cell? ⟨r, 3, none⟩ = some (.bool false) := c3
  have t1 : decide (z < 0) = false := decide_eq_false (by omega)
  have t2 : decide ((n : Int) ≤ z) = false := decide_eq_false (by omega)
  have t3 : ((L : Int) != 512) = true := by
    have : ¬ (L : Int) = 512 := by omega
    simpa using this
  clear c3
  go_enter Try.func35, Try.ntmps35
  go_wp2
  go_ret
  exact ⟨rfl, rfl⟩
set_option maxRecDepth 100000 in
theorem rd_flush_off (w : World) (h : RD w r n F ws false lf fp) :
    Calls Try.prog 36 #[.pointer (some ⟨r, 0, none⟩)] w fun e w' => e = .returned (.int .i64 11) ∧ w = w' := by
  obtain ⟨FB, C0, A', C', c0, _, _, c3, _⟩ := rd_cells h
  clear h
  have c3' : w.cell? ⟨r, 3, none⟩ = some (.bool true) := c3
  clear c3
  go_enter Try.func36, Try.ntmps36
  go_wp2
  go_ret
  exact ⟨rfl, rfl⟩
theorem rd_fuse_low (z : Int) (w : World) (hz : z < -1) : Calls Try.prog 37 #[.pointer (some ⟨r, 0, none⟩), .int .i64 z] w fun e w' => e = .returned (.int .i64 1) ∧ w = w' := by
  have t1 : decide (z < -1) = true := decide_eq_true hz
  go_enter Try.func37, Try.ntmps37
  go_wp2
  go_ret
  exact ⟨rfl, rfl⟩
theorem rd_fuse_off (z : Int) (w : World) (hz : ¬ z < -1) (h : RD w r n F ws false lf fp) :
    Calls Try.prog 37 #[.pointer (some ⟨r, 0, none⟩), .int .i64 z] w fun e w' => e = .returned (.int .i64 11) ∧ w = w' := by
  obtain ⟨FB, C0, A', C', c0, _, _, c3, _⟩ := rd_cells h
  clear h
  have c3' : w.cell? ⟨r, 3, none⟩ = some (.bool true) := c3
  have t1 : decide (z < -1) = false := decide_eq_false hz
  clear c3
  go_enter Try.func37, Try.ntmps37
  go_wp2
  go_ret
  exact ⟨rfl, rfl⟩
theorem rd_fuse (z : Int) (w : World) (h1 : -1 ≤ z) (h : RD w r n F ws true lf fp) :
    Calls Try.prog 37 #[.pointer (some ⟨r, 0, none⟩), .int .i64 z] w fun e w' => e = .returned (.int .i64 0) ∧ RD w' r n F ws (decide (z ≠ 0)) z fp ∧ Keeps fp w w' := by
  obtain ⟨⟨F2', FB, C0, rv, hF, hd, f1, f2, f3⟩, hlt⟩ := h
  have c2 : w.cell? ⟨r, 2, none⟩ = some (.int .i64 lf) := lies_cell hd.self 2
  have c3 : w.cell? ⟨r, 3, none⟩ = some (.bool false) := lies_cell hd.self 3
  have g2 := lies_free hd.self 2
  have g3 := lies_free hd.self 3
  have t1 : decide (z < -1) = false := decide_eq_false (by omega)
  have H := Lib.hid hd
  have HFF := Lib.hid hF
  have F1 := Lib.hid f1
  have F2 := Lib.hid f2
  have F3 := Lib.hid f3
  have HL := Lib.hid hlt
  clear hd f1 f2 f3 hlt hF
  go_enter Try.func37, Try.ntmps37
  go_wp2
  go_ret
  have hg := only_setCell (only_setCell (World.grownBy.refl w (some r)) 2 (.int .i64 z)) 3 (.bool (z == 0))
  have e : (!decide (z ≠ 0)) = (z == 0) := by by_cases hz : z = 0 <;> simp [hz]
  refine ⟨rfl, ⟨⟨F2', FB, C0, rv, HFF.out, { self := ?_, fast := (hg.block FB (lies_lt H.out.fast) (fun e => by injection e with e; exact H.out.apart e)).trans H.out.fast, held := ?_, most := H.out.most, ats := H.out.ats, apart := H.out.apart }, F1.out, F2.out, F3.out⟩, fun i hi => Nat.lt_of_lt_of_le (HL.out i hi) hg.size⟩, ⟨hg.os, hg.tape, hg.output, hg.size, fun i hi hn => hg.block i hi (fun e => by injection e with e; subst e; exact hn F1.out)⟩⟩
  · rw [e]; exact lies_set (lies_set H.out.self 2 _) 3 _
  · refine ⟨H.out.held.1, ?_⟩
    rcases H.out.held.2 with h0 | ⟨gg, cap, cur, e, h1, h2, h3⟩
    · exact .inl h0
    · exact .inr ⟨gg, cap, cur, e, h1, (hg.block gg (HL.out gg (F3.out gg (by rw [e]; rfl))) (fun e2 => by injection e2 with e2; subst e2; exact (rdk_own H.out).1 (by rw [e]; rfl))).trans h2, h3⟩
end
end Go.Proofs.Ytibidljblkfciaa
