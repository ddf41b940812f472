/-
What is proved here: the document's own disk: New, step, Write of it, each by a contract.
-/
import Derived.Test.YtibidljblkfciaaRka
set_option linter.unusedSimpArgs false
namespace Go.Proofs.Ytibidljblkfciaa
open Go.Word Go.RowKit

theorem info78 : (Try.prog.info? 78).map (fun i => (i.zero, i.size, i.bytes)) = some (some (.agg (yRow nil8 512)), 512, 512) := by kernel_rfl
theorem made_blocks (n : Nat) (h : n ≤ 4096) (W : World) : (Instr.makeSlice 74 (.int .i64 (n : Int)) (.int .i64 (n : Int))).run Try.prog W =
    .ok (.slice (some ⟨W.heap.size, 0, none⟩) n n) (W.alloc (.cells (yRow nil8 (512 * n)) 78)) := by
  obtain ⟨i, hi, hz0, hz1, hz2⟩ := info_parts info78
  have := run_make (P := Try.prog) W 74 78 i _ Try.underlying74 hi hz0 .i64 .i64 (n : Int) (n : Int) (by omega) (by omega) (by rw [hz2]; omega) (by omega)
  rw [this, hz1, Int.toNat_natCast]
  have e : madeCells (Value.cells (.agg (yRow nil8 512))) (n * 512) = yRow nil8 (512 * n) := by
    refine Array.ext_getElem? fun j => ?_
    have hc : Value.cells (.agg (yRow nil8 512)) = yRow nil8 512 := rfl
    rw [hc]
    by_cases hj : j < 512 * n
    · rw [yRow_at _ hj]
      have hm : j % 512 < 512 := Nat.mod_lt _ (by decide)
      have hjn : j < n * 512 := by omega
      have hs : (yRow nil8 512).size = 512 := yRow_size _ _
      have hg := yRow_at nil8 hm
      simp only [madeCells, hs]
      simp [hjn]
      have hlt : j % 512 < (yRow nil8 512).size := by rw [hs]; exact hm
      rw [Array.getElem?_eq_getElem hlt] at hg
      injection hg with hg
      rw [getElem!_pos (yRow nil8 512) (j % 512) hlt, hg]
      rfl
    · rw [Array.getElem?_eq_none (by simp [madeCells]; omega), Array.getElem?_eq_none (by rw [yRow_size]; omega)]
  rw [e]
set_option maxHeartbeats 400000 in
theorem rnew_any (z : Int) (n : Nat) (hz : z = n) (w : World) (h1 : 1 ≤ n) (h2 : n ≤ 4096) :
    Calls Try.prog 31 #[.int .i64 z] w fun e w' => ∃ r FB, e = .returned (.tuple #[.pointer (some ⟨r, 0, none⟩), .int .i64 0]) ∧ w.heap.size = FB ∧ r = FB + 1 ∧ Rdk w' r FB (.slice none 0 0) n (fun _ => 0) [] true (-1) ∧ Below w.heap.size w w' := by
  subst hz
  have t1 : decide ((n : Int) < 1) = false := decide_eq_false (by omega)
  have t2 : decide ((4096 : Int) < (n : Int)) = false := decide_eq_false (by omega)
  have hmk := fun W => made_blocks n h2 W
  go_enter Try.func31, Try.ntmps31
  go_wp2
  go_ret2
  exact ⟨w.heap.size + 1, w.heap.size, rfl, rfl, rfl, { self := heap_alloc2_new w _ _, fast := lies_alloc (lies_new w 78 _) _, held := ⟨rfl, .inl ⟨rfl, rfl⟩⟩, most := ⟨h1, h2⟩, ats := (fun x hx => by cases hx), apart := by omega }, ((Below.refl _ _).alloc (Nat.le_refl _) _).alloc (by simp) _⟩
set_option maxHeartbeats 400000 in
theorem rstep_any (r FB n : Nat) (rv : Value) (lf : Int) (b : Bool) (w : World) (h1 : -1 ≤ lf) (h2 : lf ≤ 1000000) (h0 : lf ≠ 0) (h : Lies w r 77 #[.slice (some ⟨FB, 0, none⟩) n n, rv, .int .i64 lf, .bool b]) :
    Calls Try.prog 44 #[.pointer (some ⟨r, 0, none⟩)] w fun e w' => e = .returned (.tuple #[]) ∧ Lies w' r 77 #[.slice (some ⟨FB, 0, none⟩) n n, rv, .int .i64 (stepLf lf), .bool (!stepOn true lf)] ∧ w.grownBy w' (some r) := by
  have c2 : w.cell? ⟨r, 2, none⟩ = some (.int .i64 lf) := lies_cell h 2
  have c3 : w.cell? ⟨r, 3, none⟩ = some (.bool b) := lies_cell h 3
  have f2 := lies_free h 2
  have f3 := lies_free h 3
  have H := Lib.hid h
  clear h
  by_cases he : lf = -1
  · subst he
    go_enter Try.func44, Try.ntmps44
    go_wp2
    go_end0
    exact ⟨rfl, lies_set H.out 3 _, only_setCell (World.grownBy.refl w _) 3 _⟩
  · have t1 : decide (0 < lf) = true := decide_eq_true (by omega)
    have e1 : (!stepOn true lf) = (lf - 1 == 0) := by
      unfold stepOn
      rw [if_neg he]
      by_cases h3 : lf - 1 = 0
      · rw [h3]; rfl
      · have : 0 < lf - 1 := by omega
        rw [decide_eq_true this]
        have h4 : (lf - 1 == 0) = false := by simpa using h3
        rw [h4]
        rfl
    have e2 : stepLf lf = lf - 1 := if_neg he
    rw [e1, e2]
    clear e1 e2
    go_enter Try.func44, Try.ntmps44
    go_wp2
    go_end0
    exact ⟨rfl, lies_set (lies_set H.out 2 _) 3 _, only_setCell (only_setCell (World.grownBy.refl w _) 2 _) 3 _⟩
end Go.Proofs.Ytibidljblkfciaa
