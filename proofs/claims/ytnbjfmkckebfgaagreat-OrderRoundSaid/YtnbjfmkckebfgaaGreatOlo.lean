/-
What is proved here: the empty tree is loose; what order refuses, by contracts.
-/
import Derived.Test.YtnbjfmkckebfgaaGreatOrx
import Derived.Maps.OwnSet
import Derived.Maps.OwnOps
import Derived.Maps.Views
import Derived.StringKeys
import Derived.Laws.Cover1
set_option linter.unusedSimpArgs false
set_option linter.unusedVariables false
namespace Go.Proofs.YtnbjfmkckebfgaaGreat
open Go.Cmp Go.RowKit Go.Word
set_option maxRecDepth 100000 in
theorem index_no (C : Nat) (f : Value) (w : World) : Calls Tryz.prog 54 #[.slice none 0 C, f] w fun e w' => e = .returned (.int .i64 (-1)) ∧ w' = w := by
  go_enter Tryz.func54, Tryz.ntmps54
  go_wp2
  go_loopw [8] (fun v8 wr => v8 = .int .i64 0 ∧ wr = w) (fun _ _ => 0)
  case atStart => exact ⟨rfl, (by first | rfl | trivial)⟩
  case round =>
    obtain ⟨rfl, rfl⟩ := hrel
    go_wp2
    go_ret
    exact ⟨rfl, rfl⟩
set_option maxRecDepth 100000 in
theorem contains_no (C : Nat) (f : Value) (w : World) : Calls Tryz.prog 33 #[.slice none 0 C, f] w fun e w' => e = .returned (.bool false) ∧ w' = w := by
  go_enter Tryz.func33, Tryz.ntmps33
  go_wp2_with (go_at_call 54; (with_reducible refine (index_no _ _ _).mono ?_); rintro e w1 ⟨rfl, h⟩; have h := h.symm; subst h)
  go_ret
  exact ⟨rfl, rfl⟩
set_option maxRecDepth 100000 in
theorem great_no (w : World) : Calls Tryz.prog 28 #[.agg #[.slice none 0 0, .slice none 0 0]] w fun e w' => e = .returned (.bool false) ∧ Below w.heap.size w w' := by
  have hb0 : Below w.heap.size w (w.alloc (.cells #[.slice none 0 0, .slice none 0 0] 34)) := (Below.refl _ _).alloc (Nat.le_refl _) _
  have HB0 := Lib.hid hb0
  clear hb0
  go_enter Tryz.func28, Tryz.ntmps28
  go_wp2_with (go_at_call 33; (with_reducible refine (contains_no _ _ _).mono ?_); rintro e w1 ⟨rfl, h⟩; have h := h.symm; subst h)
  go_ret
  exact ⟨rfl, HB0.out⟩
theorem keyed9 : Maps.Keyed Tryz.prog 9 := Maps.string_keyed Tryz.underlying9
theorem key_no : keyOf Tryz.prog 9 (.string { data := #[] }) = some (.string []) := by
  simp [keyOf, mapKey, Tryz.underlying9, ByteArray.size, maxLen]
theorem put_root (w : World) : ∃ w', (Instr.mapUpdate 74 (.map (some w.heap.size)) (.string { data := #[] }) (.agg #[])).run Tryz.prog (w.alloc (.map #[] 0)) = .ok () w' ∧ Below w.heap.size w w' := by
  have h1 : (w.alloc (.map #[] 0)).ownsMap Tryz.prog 9 (unitElem (H := Unit)) w.heap.size 0 (.map []) := World.ownsMap_made w Tryz.prog 9 unitElem
  obtain ⟨w', hr, h3, h4⟩ := h1.update keyed9 Tryz.underlying74 (by unfold maxLen; omega) key_no unitElem_mk
  exact ⟨w', hr, ⟨h4.os, h4.tape, h4.output, by have := h4.size; simp at this; omega, fun i hi => (h4.block i (by simp; omega) (fun e => by injection e with e; omega)).trans (Below.heap_alloc w _ i hi)⟩⟩
set_option maxRecDepth 100000 in
set_option maxHeartbeats 4000000 in
theorem loose_no (w : World) : Calls Tryz.prog 12 #[.agg #[.slice none 0 0, .slice none 0 0]] w fun e w' => e = .returned (.int .i64 0) ∧ Below w.heap.size w w' := by
  have hmm := @run_makeMap Tryz.prog
  have hb0 : Below w.heap.size w (w.alloc (.cells #[.slice none 0 0, .slice none 0 0] 34)) := (Below.refl _ _).alloc (Nat.le_refl _) _
  have HB0 := Lib.hid hb0
  have LB := lies_new w 34 #[.slice none 0 0, .slice none 0 0]
  have HLB := Lib.hid LB
  have KG := Lib.hid (great_no (w.alloc (.cells #[.slice none 0 0, .slice none 0 0] 34)))
  have SZ := Lib.hid (World.size_alloc w (.cells #[.slice none 0 0, .slice none 0 0] 34))
  clear hb0 LB
  go_enter Tryz.func12, Tryz.ntmps12
  go_wp2
  generalize w.alloc (.cells #[.slice none 0 0, .slice none 0 0] 34) = X at *
  have x0 := lies_cell HLB.out 0
  have x1 := lies_cell HLB.out 1
  simp only [List.getElem?_toArray, List.getElem?_cons_zero, List.getElem?_cons_succ] at x0 x1
  refine wp_scope_meas (fun _ _ _ _ => False) ?_ ?_
  · rintro k l a wp h; exact h.elim
  · intro h
    clear h
    go_upto_region 3 with (go_at_call 28; (with_reducible refine KG.out.mono ?_); rintro e w1 ⟨rfl, hb⟩; have L1 := Lib.hid (lies_below HLB.out hb (by have := SZ.out; omega)); have W1 := Lib.hid (HB0.out.trans (hb.mono HB0.out.size)); have c0 := lies_cell L1.out 0; have c1 := lies_cell L1.out 1; simp only [List.getElem?_toArray, List.getElem?_cons_zero, List.getElem?_cons_succ] at c0 c1; clear hb)
    clear x0 x1
    obtain ⟨w2, hput, hB2⟩ := put_root w1
    have c0' := (hB2.cell (p := ⟨w.heap.size, 0, Option.none⟩) (lies_lt L1.out)).trans c0
    have c1' := (hB2.cell (p := ⟨w.heap.size, 1, Option.none⟩) (lies_lt L1.out)).trans c1
    have W2 := Lib.hid (W1.out.trans (hB2.mono W1.out.size))
    clear hB2
    go_upto_region 6 with (fail)
    clear hput hmm c0 c1
    go_loopw [18, 5] (fun v18 v5 wr => v18 = .int .i64 0 ∧ v5 = .int .i64 0 ∧ wr = w2) (fun _ _ _ => 0)
    case atStart => exact ⟨rfl, rfl, (by first | rfl | trivial)⟩
    case round =>
      obtain ⟨rfl, rfl, rfl⟩ := hrel
      go_wp2_with (go_at_call 33; (with_reducible refine (contains_no _ _ _).mono ?_); rintro e w5 ⟨rfl, h⟩; have h := h.symm; subst h)
      change bodyPost Tryz.prog Tryz.f12 (fun e w' => e = .returned (.int .i64 0) ∧ Below w.heap.size w w') .ret _ _
      go_ret
      exact ⟨rfl, W2.out⟩
end Go.Proofs.YtnbjfmkckebfgaaGreat
