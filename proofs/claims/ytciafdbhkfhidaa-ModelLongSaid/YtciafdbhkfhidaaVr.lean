/-
What is proved here: why a tree refuses an instruction, for sync on any tree and for mkdir on the empty one, by contracts.
-/
import Derived.Test.YtciafdbhkfhidaaVx
import Derived.Deep.RegionWith
import Derived.Deep.CutRange
import Derived.Laws.Tables
import Derived.StillTailTactics
set_option linter.unusedSimpArgs false
set_option linter.unusedVariables false
namespace Go.Proofs.Ytciafdbhkfhidaa
open Go.Pth Go.Tre Go.RowKit Go.Word Go.Mod
attribute [local go_sem] guard_eq guard_ne st_eql st_neq eql_nil
theorem zero70 (w : World) : (zeroValue 70).run Try.prog w = .ok (.agg #[.bool false, .bool false, .bool false, .bool false, .nilFunc, .nilFunc]) w := by kernel_rfl
set_option maxRecDepth 100000 in
set_option maxHeartbeats 2000000 in
theorem refuses_sync (V p q m r S : Value) (n : Int) (F : Value) (hV : V = .agg #[.int .i64 n, F]) (w : World) :
    Calls Try.prog 23 #[V, .agg #[.int .i64 9, p, q, m, r], S] w fun e w' => e = .returned (.int .i64 0) ∧ Below w.heap.size w w' := by
  subst hV
  have hz := zero70
  have HB := Lib.hid (show Below w.heap.size w (((w.alloc (.cells #[.int .i64 n, F] 60)).alloc (.cells #[.int .i64 9, p, q, m, r] 25)).alloc (.cells #[.bool false, .bool false, .bool false, .bool false, .nilFunc, .nilFunc] 70)) from (((Below.refl _ _).alloc (Nat.le_refl _) _).alloc (by simp) _).alloc (by simp; omega) _)
  have LI := lies_new (w.alloc (.cells #[.int .i64 n, F] 60)) 25 #[.int .i64 9, p, q, m, r]
  rw [World.size_alloc] at LI
  have LI := lies_alloc LI (.cells #[.bool false, .bool false, .bool false, .bool false, .nilFunc, .nilFunc] 70)
  have i0 := lies_cell LI 0
  simp only [List.getElem?_toArray, List.getElem?_cons_zero, List.getElem?_cons_succ] at i0
  clear LI
  go_enter Try.func23, Try.ntmps23
  go_wp2
  refine wp_scope_labels (fun _ _ _ => False) (fun _ _ _ => 0) ?_ ?_
  · intro k a wr h
    exact h.elim
  · intro h
    clear h
    go_upto_region 2 with (fail)
    generalize ((w.alloc (.cells #[.int .i64 n, F] 60)).alloc (.cells #[.int .i64 9, p, q, m, r] 25)).alloc (.cells #[.bool false, .bool false, .bool false, .bool false, .nilFunc, .nilFunc] 70) = X at *
    go_wp2
    change bodyPost Try.prog Try.f23 (fun e w' => e = .returned (.int .i64 0) ∧ Below w.heap.size w w') .ret _ _
    go_ret
    exact ⟨rfl, HB.out⟩
/-- the row of mkdir -/
def kindM : Array Value := #[.bool true, .bool false, .bool false, .bool true, fnV 36, fnV 40]
theorem index_mk (w : World) : (Instr.index 71 (.agg kindsC) (.int .i64 1)).run Try.prog w = .ok (.agg kindM) w := by kernel_rfl
/-- what stands behind the look-up of the kind -/
def Rf (w : World) (C : Nat) (wx : World) : Prop := Below w.heap.size w wx ∧ Lies wx w.heap.size 60 #[.int .i64 0, .func (.func 32) #[] #[.pointer (some ⟨C, 0, none⟩)]] ∧ Lies wx (w.heap.size + 1) 25 #[.int .i64 1, St [97], St [], .int .i64 493, .int .i64 0] ∧ Lies wx (w.heap.size + 1 + 1) 70 kindM ∧ Lies wx C 29 #[.slice none 0 0, .slice none 0 0]
theorem rf_mk {w X w1 : World} {C : Nat} (hC : C < w.heap.size) (HB : Below w.heap.size w X) (LT : Lies X C 29 #[.slice none 0 0, .slice none 0 0]) (LV : Lies X w.heap.size 60 #[.int .i64 0, .func (.func 32) #[] #[.pointer (some ⟨C, 0, none⟩)]]) (LI : Lies X (w.heap.size + 1) 25 #[.int .i64 1, St [97], St [], .int .i64 493, .int .i64 0]) (LK : Lies X (w.heap.size + 1 + 1) 70 #[.bool false, .bool false, .bool false, .bool false, .nilFunc, .nilFunc]) (hb : Below X.drew.heap.size X.drew w1) :
    Rf w C (w1.setRow (w.heap.size + 1 + 1) kindM) := by
  have lt : ∀ {g t cs}, Lies X g t cs → Lies w1 g t cs := fun {g t cs} h => lies_below (w := X.drew) (show Lies X.drew g t cs from h) hb (lies_lt (w := X.drew) (show Lies X.drew g t cs from h))
  have so : ∀ {g t cs}, g ≠ w.heap.size + 1 + 1 → Lies w1 g t cs → Lies (w1.setRow (w.heap.size + 1 + 1) kindM) g t cs := fun {g t cs} hg h => (setRow_other w1 (w.heap.size + 1 + 1) g kindM hg).trans h
  exact ⟨below_setRow (HB.drew.trans (hb.mono HB.drew.size)) (by omega) _, so (by omega) (lt LV), so (by omega) (lt LI), lies_setRow (lt LK) _, so (by omega) (lt LT)⟩
theorem wrong_mk2 (w : World) : Calls Try.prog 34 #[.agg #[.bool true, .bool false, .bool false, .bool true, .func (.func 36) #[] #[], .func (.func 40) #[] #[]], .agg #[.int .i64 1, St [97], St [], .int .i64 493, .int .i64 0], .slice none 0 0] w fun e w' => e = .returned (.int .i64 0) ∧ Below w.heap.size w w' := wrong_mk w
theorem rf_next {w a b : World} {C : Nat} (h : Rf w C a) (hb : Below a.heap.size a b) : Rf w C b :=
  ⟨h.1.trans (hb.mono h.1.size), lies_below h.2.1 hb (lies_lt h.2.1), lies_below h.2.2.1 hb (lies_lt h.2.2.1), lies_below h.2.2.2.1 hb (lies_lt h.2.2.2.1), lies_below h.2.2.2.2 hb (lies_lt h.2.2.2.2)⟩
theorem rf_cells {w x : World} {C : Nat} (h : Rf w C x) :
    x.cell? ⟨w.heap.size, 0, none⟩ = some (.int .i64 0) ∧ x.cell? ⟨w.heap.size, 1, none⟩ = some (.func (.func 32) #[] #[.pointer (some ⟨C, 0, none⟩)]) ∧
    x.cell? ⟨w.heap.size + 1, 0, none⟩ = some (.int .i64 1) ∧ x.cell? ⟨w.heap.size + 1, 1, none⟩ = some (St [97]) ∧ x.cell? ⟨w.heap.size + 1, 2, none⟩ = some (St []) ∧ x.cell? ⟨w.heap.size + 1, 3, none⟩ = some (.int .i64 493) ∧ x.cell? ⟨w.heap.size + 1, 4, none⟩ = some (.int .i64 0) ∧
    x.cell? ⟨w.heap.size + 1 + 1, 0, none⟩ = some (.bool true) ∧ x.cell? ⟨w.heap.size + 1 + 1, 1, none⟩ = some (.bool false) ∧ x.cell? ⟨w.heap.size + 1 + 1, 2, none⟩ = some (.bool false) ∧ x.cell? ⟨w.heap.size + 1 + 1, 3, none⟩ = some (.bool true) ∧ x.cell? ⟨w.heap.size + 1 + 1, 4, none⟩ = some (.func (.func 36) #[] #[]) ∧ x.cell? ⟨w.heap.size + 1 + 1, 5, none⟩ = some (.func (.func 40) #[] #[]) :=
  ⟨lies_cell h.2.1 0, lies_cell h.2.1 1, lies_cell h.2.2.1 0, lies_cell h.2.2.1 1, lies_cell h.2.2.1 2, lies_cell h.2.2.1 3, lies_cell h.2.2.1 4, lies_cell h.2.2.2.1 0, lies_cell h.2.2.2.1 1, lies_cell h.2.2.2.1 2, lies_cell h.2.2.2.1 3, lies_cell h.2.2.2.1 4, lies_cell h.2.2.2.1 5⟩
set_option maxRecDepth 100000 in
set_option maxHeartbeats 4000000 in
theorem refuses_mk (C : Nat) (w : World) (hT : Lies w C 29 #[.slice none 0 0, .slice none 0 0]) :
    Calls Try.prog 23 #[.agg #[.int .i64 0, .func (.func 32) #[] #[.pointer (some ⟨C, 0, none⟩)]], .agg #[.int .i64 1, St [97], St [], .int .i64 493, .int .i64 0], .slice none 0 0] w fun e w' => e = .returned (.int .i64 0) ∧ Below w.heap.size w w' := by
  have hz := zero70
  have HB := Lib.hid (show Below w.heap.size w (((w.alloc (.cells #[.int .i64 0, .func (.func 32) #[] #[.pointer (some ⟨C, 0, none⟩)]] 60)).alloc (.cells #[.int .i64 1, St [97], St [], .int .i64 493, .int .i64 0] 25)).alloc (.cells #[.bool false, .bool false, .bool false, .bool false, .nilFunc, .nilFunc] 70)) from (((Below.refl _ _).alloc (Nat.le_refl _) _).alloc (by simp) _).alloc (by simp; omega) _)
  have LT := Lib.hid (lies_alloc (lies_alloc (lies_alloc hT (.cells #[.int .i64 0, .func (.func 32) #[] #[.pointer (some ⟨C, 0, none⟩)]] 60)) (.cells #[.int .i64 1, St [97], St [], .int .i64 493, .int .i64 0] 25)) (.cells #[.bool false, .bool false, .bool false, .bool false, .nilFunc, .nilFunc] 70))
  have LV := Lib.hid (lies_alloc (lies_alloc (lies_new w 60 #[.int .i64 0, .func (.func 32) #[] #[.pointer (some ⟨C, 0, none⟩)]]) (.cells #[.int .i64 1, St [97], St [], .int .i64 493, .int .i64 0] 25)) (.cells #[.bool false, .bool false, .bool false, .bool false, .nilFunc, .nilFunc] 70))
  have LI := lies_new (w.alloc (.cells #[.int .i64 0, .func (.func 32) #[] #[.pointer (some ⟨C, 0, none⟩)]] 60)) 25 #[.int .i64 1, St [97], St [], .int .i64 493, .int .i64 0]
  rw [World.size_alloc] at LI
  have LI := lies_alloc LI (.cells #[.bool false, .bool false, .bool false, .bool false, .nilFunc, .nilFunc] 70)
  have i0 := lies_cell LI 0
  simp only [List.getElem?_toArray, List.getElem?_cons_zero, List.getElem?_cons_succ] at i0
  have LK := lies_new ((w.alloc (.cells #[.int .i64 0, .func (.func 32) #[] #[.pointer (some ⟨C, 0, none⟩)]] 60)).alloc (.cells #[.int .i64 1, St [97], St [], .int .i64 493, .int .i64 0] 25)) 70 #[.bool false, .bool false, .bool false, .bool false, .nilFunc, .nilFunc]
  simp only [World.size_alloc] at LK
  have LI := Lib.hid LI
  have LK := Lib.hid LK
  have hC := lies_lt hT
  clear hT
  go_enter Try.func23, Try.ntmps23
  go_wp2
  refine wp_scope_labels (fun _ _ _ => False) (fun _ _ _ => 0) ?_ ?_
  · intro k a wr h
    exact h.elim
  · intro h
    clear h
    go_upto_region 2 with (fail)
    clear hz
    generalize ((w.alloc (.cells #[.int .i64 0, .func (.func 32) #[] #[.pointer (some ⟨C, 0, none⟩)]] 60)).alloc (.cells #[.int .i64 1, St [97], St [], .int .i64 493, .int .i64 0] 25)).alloc (.cells #[.bool false, .bool false, .bool false, .bool false, .nilFunc, .nilFunc] 70) = X at *
    go_upto_region 7 with (fail)
    go_cut [] from 22 to 25 (fun wx => Rf w C wx)
    case first =>
      have hix := index_mk
      have LD := Lib.hid (show Lies X.drew (w.heap.size + 1) 25 #[.int .i64 1, St [97], St [], .int .i64 493, .int .i64 0] from LI.out)
      have LKD := Lib.hid (show Lies X.drew (w.heap.size + 1 + 1) 70 #[.bool false, .bool false, .bool false, .bool false, .nilFunc, .nilFunc] from LK.out)
      go_region_with (go_at_call 25; (with_reducible refine (rows_any _).mono ?_); rintro e w1 ⟨rfl, hb⟩; have LI1 := lies_below LD.out hb (lies_lt LD.out); have i0 := lies_cell LI1 0; simp only [List.getElem?_toArray, List.getElem?_cons_zero] at i0; have LK1 := lies_below LKD.out hb (lies_lt LKD.out); have hst : Sem.run Try.prog (storeCells ⟨w.heap.size + 1 + 1, 0, none⟩ kindM.toList) w1 = .ok () (w1.setRow (w.heap.size + 1 + 1) kindM) := (run_storeCells_from _ 70 kindM.toList 0 _ w1 LK1 rfl (by simp [kindM, fnV, Value.oneCell'])).trans rfl; have HR := Lib.hid (rf_mk hC HB.out LT.out LV.out LI.out LK.out hb); clear hb LI1 LK1)
      all_goals (go_wp2_with fail; go_meet; exact HR.out)
    case rest =>
      clear HB LT LV LI LK i0
      have HR := Lib.hid hcut
      have ⟨v0, v1, i0, i1, i2, i3, i4, k0, k1, k2, k3, k4, k5⟩ := rf_cells hcut
      clear hcut
      go_wp2_with (first
        | (go_at_call 34; (with_reducible refine (wrong_mk2 _).mono ?_); rintro e w2 ⟨rfl, hb⟩; have HR2 := Lib.hid (rf_next HR.out hb); have ⟨v0, v1, i0, i1, i2, i3, i4, k0, k1, k2, k3, k4, k5⟩ := rf_cells HR2.out; have KA := Lib.hid (asks_root [97] (by decide) 0 C w2 HR2.out.2.2.2.2); clear hb)
        | (go_at_call 35; (with_reducible refine KA.out.mono ?_); rintro e w3 ⟨rfl, hb⟩; have HR3 := Lib.hid (rf_next HR2.out hb); have ⟨v0, v1, i0, i1, i2, i3, i4, k0, k1, k2, k3, k4, k5⟩ := rf_cells HR3.out; clear hb))
      change bodyPost Try.prog Try.f23 (fun e w' => e = .returned (.int .i64 0) ∧ Below w.heap.size w w') .ret _ _
      go_ret
      exact ⟨rfl, HR3.out.1⟩
end Go.Proofs.Ytciafdbhkfhidaa
