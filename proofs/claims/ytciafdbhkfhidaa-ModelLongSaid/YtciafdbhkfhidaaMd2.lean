/-
What is proved here: the kinds of instructions, by a contract.
-/
import Derived.Test.YtciafdbhkfhidaaMd1
import Derived.Laws.ResultCell
import Derived.Laws.Rows
set_option linter.unusedSimpArgs false
set_option linter.unusedVariables false
namespace Go.Proofs.Ytciafdbhkfhidaa
open Go.Pth Go.Tre Go.RowKit Go.Word Go.Mod
/-- a row of the table of kinds -/
def kindC (mode to ref adds : Bool) (asks does : Value) : List Value := [.bool mode, .bool to, .bool ref, .bool adds, asks, does]
def fnV (f : FuncId) : Value := .func (.func f) #[] #[]
def kindsC : Array Value := (kindC false false false false .nilFunc .nilFunc ++ kindC true false false true (fnV 36) (fnV 40) ++ kindC false false false false (fnV 41) (fnV 42) ++ kindC false true false false (fnV 43) (fnV 44) ++ kindC false true false true (fnV 43) (fnV 45) ++ kindC false false false false (fnV 43) (fnV 42) ++ kindC true false true true (fnV 36) (fnV 46) ++ kindC true true false true (fnV 43) (fnV 47) ++ kindC true false false false (fnV 48) (fnV 49)).toArray
def kindsZ : Array Value := (kindC false false false false .nilFunc .nilFunc ++ kindC false false false false .nilFunc .nilFunc ++ kindC false false false false .nilFunc .nilFunc ++ kindC false false false false .nilFunc .nilFunc ++ kindC false false false false .nilFunc .nilFunc ++ kindC false false false false .nilFunc .nilFunc ++ kindC false false false false .nilFunc .nilFunc ++ kindC false false false false .nilFunc .nilFunc ++ kindC false false false false .nilFunc .nilFunc).toArray
theorem zero128 (w : World) : (zeroValue 71).run Try.prog w = .ok (.agg kindsZ) w := by kernel_rfl
set_option maxRecDepth 100000 in
set_option maxHeartbeats 8000000 in
theorem rows_any (w : World) : Calls Try.prog 25 #[] w fun e w' => e = .returned (.agg kindsC) ∧ Below w.heap.size w w' := by
  have hz := zero128
  have LN := Lib.hid (lies_new w 71 kindsZ)
  have BZ := Lib.hid (below_setRow ((Below.refl w.heap.size w).alloc (Nat.le_refl _) (.cells kindsZ 71)) (g := w.heap.size) (Nat.le_refl _) kindsC)
  go_enter Try.func25, Try.ntmps25
  go_upto_region 1 with (fail)
  go_wp2_with (refine wpList_store_row rfl 71 _ _ rfl w.heap.size kindsC rfl (by kernel_rfl) 71 _ LN.out (by kernel_rfl) (by kernel_rfl) (by kernel_rfl) ?_)
  refine bodyPost_ret (results_cell_row rfl _ _ w.heap.size 71 kindsC (0, 0) _ rfl (lies_setRow LN.out kindsC) Try.underlying71 rfl (by kernel_rfl)) rfl ?_
  exact ⟨rfl, BZ.out⟩
end Go.Proofs.Ytciafdbhkfhidaa
