/-
What is proved here: what a disk, and the document's own disk, answer where nothing is done: without power, of a block that is not there, of another length.
-/
import Derived.Test.YtibidljblkfciaaAlk
import Derived.Test.YtibidljblkfciaaLow
set_option linter.unusedSimpArgs false
namespace Go.Proofs.Ytibidljblkfciaa
open Go.Word Go.RowKit

section
variable {w w' : World} {g r n : Nat} {F : Bytes} {ws : List (Nat × Bytes)} {on : Bool} {lf : Int} {fp fq : Nat → Prop}
/-- no power, or no such block -/
def Bars (on : Bool) (n : Nat) (z y : Int) : Prop := (on = false ∧ y = 11) ∨ (on = true ∧ y = 10 ∧ (z < 0 ∨ (n : Int) ≤ z))
theorem bars_why {z y : Int} (h : Bars on n z y) : why on n z = y := by
  rcases h with ⟨rfl, rfl⟩ | ⟨rfl, rfl, h⟩
  · unfold why; rw [if_pos rfl]
  · unfold why; rw [if_neg (by decide), if_pos h]
theorem bars_y {z y : Int} (h : Bars on n z y) : y = 10 ∨ y = 11 := by rcases h with ⟨_, rfl⟩ | ⟨_, rfl, _⟩ <;> simp
theorem dk_read_no {z y : Int} (w : World) (hy : Bars on n z y) (h : DK w g n F ws on lf fp) :
    Calls Try.prog 21 #[.pointer (some ⟨g, 0, none⟩), .int .i64 z] w fun e w' => e = .returned (.tuple #[.slice none 0 0, .int .i64 y]) ∧ w = w' := by
  obtain ⟨⟨B, base, hv, hs, hd, _⟩, _⟩ := h
  have F1 := Lib.hid (reach_any g B n (512 * n) hv on lf z w hd.size hd.most.2 hd.self)
  rw [bars_why hy] at F1
  rcases bars_y hy with rfl | rfl
  all_goals
    clear hd hy
    go_enter Try.func21, Try.ntmps21
    go_wp2_with (go_at_call 39; (with_reducible refine F1.out.mono ?_); rintro e w' ⟨rfl, rfl⟩)
    go_ret2
    exact ⟨rfl, rfl⟩
theorem dk_write_no {z y : Int} (b : Value) (w : World) (hy : Bars on n z y) (h : DK w g n F ws on lf fp) :
    Calls Try.prog 22 #[.pointer (some ⟨g, 0, none⟩), .int .i64 z, b] w fun e w' => e = .returned (.int .i64 y) ∧ w = w' := by
  obtain ⟨⟨B, base, hv, hs, hd, _⟩, _⟩ := h
  have F1 := Lib.hid (reach_any g B n (512 * n) hv on lf z w hd.size hd.most.2 hd.self)
  rw [bars_why hy] at F1
  rcases bars_y hy with rfl | rfl
  all_goals
    clear hd hy
    go_enter Try.func22, Try.ntmps22
    go_wp2_with (go_at_call 39; (with_reducible refine F1.out.mono ?_); rintro e w' ⟨rfl, rfl⟩)
    go_ret
    exact ⟨rfl, rfl⟩
theorem dk_write_len {z : Int} (A : Option Addr) (L C : Nat) (w : World) (h1 : 0 ≤ z) (h2 : z < (n : Int)) (hL : L ≠ 512) (h : DK w g n F ws true lf fp) :
    Calls Try.prog 22 #[.pointer (some ⟨g, 0, none⟩), .int .i64 z, .slice A L C] w fun e w' => e = .returned (.int .i64 1) ∧ w = w' := by
  obtain ⟨⟨B, base, hv, hs, hd, _⟩, _⟩ := h
  exact write_len z A L C w h1 h2 hL hd
theorem dk_flush_off (w : World) (h : DK w g n F ws false lf fp) :
    Calls Try.prog 25 #[.pointer (some ⟨g, 0, none⟩)] w fun e w' => e = .returned (.int .i64 11) ∧ w = w' := by
  obtain ⟨⟨B, base, hv, hs, hd, _⟩, _⟩ := h
  have F1 := Lib.hid (on_any g false w (lies_cell hd.self 2))
  clear hd
  go_enter Try.func25, Try.ntmps25
  go_wp2_with (go_at_call 20; (with_reducible refine F1.out.mono ?_); rintro e w' ⟨rfl, rfl⟩)
  go_ret
  exact ⟨rfl, rfl⟩
theorem dk_fuse_low (z : Int) (w : World) (hz : z < -1) : Calls Try.prog 19 #[.pointer (some ⟨g, 0, none⟩), .int .i64 z] w fun e w' => e = .returned (.int .i64 1) ∧ w = w' := by
  have t1 : decide (z < -1) = true := decide_eq_true hz
  go_enter Try.func19, Try.ntmps19
  go_wp2
  go_ret
  exact ⟨rfl, rfl⟩
theorem dk_fuse_off (z : Int) (w : World) (hz : ¬ z < -1) (h : DK w g n F ws false lf fp) :
    Calls Try.prog 19 #[.pointer (some ⟨g, 0, none⟩), .int .i64 z] w fun e w' => e = .returned (.int .i64 11) ∧ w = w' := by
  obtain ⟨⟨B, base, hv, hs, hd, _⟩, _⟩ := h
  have F1 := Lib.hid (on_any g false w (lies_cell hd.self 2))
  have t1 : decide (z < -1) = false := decide_eq_false hz
  clear hd
  go_enter Try.func19, Try.ntmps19
  go_wp2_with (go_at_call 20; (with_reducible refine F1.out.mono ?_); rintro e w' ⟨rfl, rfl⟩)
  go_ret
  exact ⟨rfl, rfl⟩
end
end Go.Proofs.Ytibidljblkfciaa
