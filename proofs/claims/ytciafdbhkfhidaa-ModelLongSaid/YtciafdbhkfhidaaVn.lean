/-
What is proved here: what Do and Run show, and that nothing is loose, by contracts.
-/
import Derived.Test.YtciafdbhkfhidaaVw
import Derived.Test.YtciafdbhkfhidaaLoo
import Derived.Maps.AppendAt
import Derived.Great.Walk
import Derived.Laws.Rows
set_option linter.unusedSimpArgs false
set_option linter.unusedVariables false
namespace Go.Proofs.Ytciafdbhkfhidaa
open Go.Pth Go.Tre Go.RowKit Go.Word Go.Mod
theorem loose_nil (w : World) : Calls Try.prog 12 #[.agg #[.slice none 0 0, .slice none 0 0]] w fun e w' => e = .returned (.int .i64 0) ∧ Below w.heap.size w w' :=
  loose_any none none 0 0 [] [] w (fun i h => absurd h (Nat.not_lt_zero i)) (fun i h => absurd h (Nat.not_lt_zero i)) (by simp)
theorem gb_set {w a : World} {L g : Nat} (h : w.grownBy a (some L)) (hg : w.heap.size ≤ g) (cs : Array Value) : w.grownBy (a.setRow g cs) (some L) :=
  ⟨h.os, h.tape, h.output, by have := h.size; simpa [World.setRow] using this, fun i hi hne => (setRow_other a g i cs (by omega)).trans (h.block i hi hne)⟩
theorem gb_below {w a b : World} {L : Nat} (h : w.grownBy a (some L)) (hb : Below a.heap.size a b) : w.grownBy b (some L) :=
  ⟨hb.os.trans h.os, hb.tape.trans h.tape, hb.output.trans h.output, Nat.le_trans h.size hb.size, fun i hi hne => (hb.block i (Nat.lt_of_lt_of_le hi h.size)).trans (h.block i hi hne)⟩
theorem gb_row {w w' : World} {L g : Nat} {t cs} (h : w.grownBy w' (some L)) (hl : Lies w g t cs) (hne : g ≠ L) : Lies w' g t cs := (h.block g (lies_lt hl) (by simpa using hne)).trans hl
/-- what showing leaves -/
def Shown (w : World) (L : Nat) (a b : Value) (w' : World) : Prop := Lies w' L 29 #[a, b] ∧ w.grownBy w' (some L)
theorem shown_mk {w : World} {L : Nat} {a b a0 b0 : Value} (hL : Lies w L 29 #[a0, b0]) : Shown w L a b ((w.alloc (.cells #[a, b] 29)).setRow L #[a, b]) :=
  ⟨lies_setRow (lies_alloc hL _) _, ⟨rfl, rfl, rfl, by simp [World.setRow], fun i hi hne => (setRow_other _ L i _ (fun h => hne (by rw [h]))).trans (Below.heap_alloc w _ i hi)⟩⟩
set_option maxRecDepth 100000 in
theorem show_11 (L : Nat) (a b a0 b0 : Value) (ha : a.oneCell' = true) (hb : b.oneCell' = true) (w : World) (hL : Lies w L 29 #[a0, b0]) :
    Calls Try.prog 11 #[.agg #[a, b], .pointer (some ⟨L, 0, none⟩)] w fun e w' => e = .returned (.tuple #[]) ∧ Shown w L a b w' := by
  have LL := Lib.hid (lies_alloc hL (.cells #[a, b] 29))
  have T0 := Lib.hid (rngA (lies_new w 29 #[a, b]))
  have HS := Lib.hid (shown_mk (a := a) (b := b) hL)
  have HA := Lib.hid ha
  have HB := Lib.hid hb
  clear hL ha hb
  go_enter Try.func11, Try.ntmps11
  go_wp2_with (first
    | (refine wpList_load_mid rfl 29 _ rfl w.heap.size 0 rfl [a, b] _ T0.out Try.underlying29 rfl (by kernel_rfl) ?_)
    | (refine wpList_store_row rfl 29 _ _ rfl L #[a, b] rfl rfl 29 _ LL.out (by kernel_rfl) rfl (by simp [HA.out, HB.out]) ?_))
  exact Go.Great.bodyPost_end0 rfl rfl ⟨rfl, HS.out⟩
set_option maxRecDepth 100000 in
theorem show_9 (L : Nat) (a b a0 b0 : Value) (ha : a.oneCell' = true) (hb : b.oneCell' = true) (w : World) (hL : Lies w L 29 #[a0, b0]) :
    Calls Try.prog 9 #[.agg #[a, b], .pointer (some ⟨L, 0, none⟩)] w fun e w' => e = .returned (.tuple #[]) ∧ Shown w L a b w' := by
  have LL := Lib.hid (lies_alloc hL (.cells #[a, b] 29))
  have T0 := Lib.hid (rngA (lies_new w 29 #[a, b]))
  have HS := Lib.hid (shown_mk (a := a) (b := b) hL)
  have HA := Lib.hid ha
  have HB := Lib.hid hb
  clear hL ha hb
  go_enter Try.func9, Try.ntmps9
  go_wp2_with (first
    | (refine wpList_load_mid rfl 29 _ rfl w.heap.size 0 rfl [a, b] _ T0.out Try.underlying29 rfl (by kernel_rfl) ?_)
    | (refine wpList_store_row rfl 29 _ _ rfl L #[a, b] rfl rfl 29 _ LL.out (by kernel_rfl) rfl (by simp [HA.out, HB.out]) ?_))
  exact Go.Great.bodyPost_end0 rfl rfl ⟨rfl, HS.out⟩
end Go.Proofs.Ytciafdbhkfhidaa
