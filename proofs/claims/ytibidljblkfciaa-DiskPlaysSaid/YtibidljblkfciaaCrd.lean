/-
What is proved here: the laws' helper 'call', for a read of a block that is not there, or without power.
-/
import Derived.Test.YtibidljblkfciaaCfl
import Derived.Test.YtibidljblkfciaaCld
set_option linter.unusedSimpArgs false
namespace Go.Proofs.Ytibidljblkfciaa
open Go.Word Go.RowKit

section
variable {w w' : World} {g r n : Nat} {F : Bytes} {ws : List (Nat × Bytes)} {on : Bool} {lf : Int} {fp fq : Nat → Prop}
set_option maxRecDepth 100000 in
set_option maxHeartbeats 4000000 in
theorem call_read_no (z y b : Int) (kv : Value) (w : World) (hy : Bars on n z y) (h : Two2 w g r n F ws on lf fp fq) :
    Calls Try.prog 16 #[.pointer (some ⟨g, 0, none⟩), .pointer (some ⟨r, 0, none⟩), .agg #[.int .i64 0, .int .i64 z, .int .i64 b, kv]] w fun e w' => e = .returned (.bool true) ∧ Below w.heap.size w w' := by
  have bb := (Below.refl w.heap.size w).alloc (Nat.le_refl _) (.cells #[.int .i64 0, .int .i64 z, .int .i64 b, kv] 33)
  have H1 := Lib.hid (two_below h bb)
  have BB := Lib.hid bb
  have cA : (w.alloc (.cells #[.int .i64 0, .int .i64 z, .int .i64 b, kv] 33)).cell? ⟨w.heap.size, 1, none⟩ = some (.int .i64 z) := lies_cell (lies_new w 33 _) 1
  have R1 := Lib.hid (dk_read_no _ hy H1.out.d)
  have R2 := Lib.hid (rd_read_no _ hy H1.out.r)
  have hz := zero78
  have hyy := bars_y hy
  clear h bb hy H1
  rcases hyy with rfl | rfl
  all_goals
    go_enter Try.func16, Try.ntmps16
    go_upto_region 3 with (fail)
    generalize w.alloc (.cells #[.int .i64 0, .int .i64 z, .int .i64 b, kv] 33) = W at *
    go_upto_region 4 with (go_at_call 21; (with_reducible refine R1.out.mono ?_); rintro e w1 ⟨rfl, rfl⟩)
    go_upto_region 5 with (first
      | (go_at_call 34; (with_reducible refine R2.out.mono ?_); rintro e w2 ⟨rfl, hb⟩; have H3 := Lib.hid hb; have LN := Lib.hid (lies_new w2 78 (yRow nil8 512)); have ES := Lib.hid (setRow_alloc w2 78 (yRow nil8 512) (yRow nil8 512)); clear hb)
      | (go_at_call 24; (with_reducible refine (num_any _ _).mono ?_); rintro e w' ⟨rfl, rfl⟩)
      | (refine wpList_store_row rfl 78 _ _ rfl w2.heap.size (yRow nil8 512) rfl rfl 78 _ LN.out (by rw [yRow_size]; exact size78) rfl (yRow_one _ _) ?_; rw [ES.out]))
    have BX := Lib.hid (show Below w.heap.size w (w2.alloc (.cells (yRow nil8 512) 78)) from (up BB.out H3.out).alloc (up BB.out H3.out).size _)
    clear LN ES hz
    generalize w2.alloc (.cells (yRow nil8 512) 78) = X at *
    go_wp2
    go_ret
    exact ⟨rfl, BX.out⟩
end
end Go.Proofs.Ytibidljblkfciaa
