/-
What is proved here: what the root of the empty tree answers when asked, and that mkdir of a name is right in its fields, by contracts.
-/
import Derived.Test.YtciafdbhkfhidaaVw
set_option linter.unusedSimpArgs false
set_option linter.unusedVariables false
namespace Go.Proofs.Ytciafdbhkfhidaa
open Go.Pth Go.Tre Go.RowKit Go.Word Go.Mod
theorem eql_nil (t : TypeId) (a : Bt) : binOp .eql t (St a) (.string { data := #[] }) = pure (.bool (same a [])) := st_eql t a _
attribute [local go_sem] guard_eq guard_ne st_eql st_neq eql_nil
set_option maxRecDepth 100000 in
set_option maxHeartbeats 2000000 in
theorem asks_root (l : Bt) (hl : ∀ c ∈ l, c.toNat < 128 ∧ c ≠ 47) (n : Int) (C : Nat) (w : World) (hT : Lies w C 29 #[.slice none 0 0, .slice none 0 0]) :
    Calls Try.prog 35 #[.agg #[.int .i64 n, .func (.func 32) #[] #[.pointer (some ⟨C, 0, none⟩)]], St l, .func (.func 36) #[] #[]] w fun e w' => e = .returned (.int .i64 0) ∧ Below w.heap.size w w' := by
  have hz := zero81
  have HB := Lib.hid (show Below w.heap.size w (w.alloc (.cells #[.int .i64 n, .func (.func 32) #[] #[.pointer (some ⟨C, 0, none⟩)]] 60)) from (Below.refl _ _).alloc (Nat.le_refl _) _)
  have LT := Lib.hid (lies_alloc hT (.cells #[.int .i64 n, .func (.func 32) #[] #[.pointer (some ⟨C, 0, none⟩)]] 60))
  have LV := lies_new w 60 #[.int .i64 n, .func (.func 32) #[] #[.pointer (some ⟨C, 0, none⟩)]]
  have v0 := lies_cell LV 0
  have v1 := lies_cell LV 1
  simp only [List.getElem?_toArray, List.getElem?_cons_zero, List.getElem?_cons_succ] at v0 v1
  have HL := Lib.hid hl
  clear LV hT hl
  go_enter Try.func35, Try.ntmps35
  go_upto_region 1 with (fail)
  generalize w.alloc (.cells #[.int .i64 n, .func (.func 32) #[] #[.pointer (some ⟨C, 0, none⟩)]] 60) = X at *
  go_upto_region 2 with (first
    | (go_at_call 55; (with_reducible refine (look_flat l HL.out n 0 false C X (fun W hW => at_empty (St l) C W (lies_below LT.out hW (lies_lt LT.out)))).mono ?_); rintro e w1 ⟨rfl, hb⟩; have H1 := Lib.hid (HB.out.trans (hb.mono HB.out.size)); have L8 := Lib.hid (lies_new w1 81 #[.int .i64 0, .bool false]); have A8 := Lib.hid (H1.out.alloc H1.out.size (.cells #[.int .i64 0, .bool false] 81)); clear hb v0 v1)
    | (refine wpList_store_row rfl 81 _ _ rfl w1.heap.size #[.int .i64 0, .bool false] rfl rfl 81 _ L8.out (by kernel_rfl) rfl (by simp [Value.oneCell']) ?_))
  have W3 := Lib.hid (below_setRow A8.out (g := w1.heap.size) H1.out.size #[.int .i64 0, .bool false])
  have L9 := lies_setRow L8.out #[.int .i64 0, .bool false]
  have r0 := lies_cell L9 0
  have r1 := lies_cell L9 1
  simp only [List.getElem?_toArray, List.getElem?_cons_zero, List.getElem?_cons_succ] at r0 r1
  clear hz L8 A8 HB LT L9
  generalize hY : World.setRow (w1.alloc (.cells #[.int .i64 0, .bool false] 81)) w1.heap.size #[.int .i64 0, .bool false] = Y at *
  trace_state
  go_wp2_with (go_at_call 36; (with_reducible refine (nothing_any _ _ _).mono ?_); rintro e w2 ⟨rfl, hb⟩; have H4 := Lib.hid (W3.out.trans (hb.mono W3.out.size)); clear hb)
  go_ret
  exact ⟨rfl, H4.out⟩
set_option maxRecDepth 100000 in
set_option maxHeartbeats 2000000 in
theorem wrong_mk (w : World) : Calls Try.prog 34 #[.agg (kindC true false false true (fnV 36) (fnV 40)).toArray, .agg #[.int .i64 1, St [97], St [], .int .i64 493, .int .i64 0], .slice none 0 0] w fun e w' => e = .returned (.int .i64 0) ∧ Below w.heap.size w w' := by
  show Calls Try.prog 34 #[.agg #[.bool true, .bool false, .bool false, .bool true, fnV 36, fnV 40], .agg #[.int .i64 1, St [97], St [], .int .i64 493, .int .i64 0], .slice none 0 0] w fun e w' => e = .returned (.int .i64 0) ∧ Below w.heap.size w w'
  have hB : Below w.heap.size w ((w.alloc (.cells #[.bool true, .bool false, .bool false, .bool true, fnV 36, fnV 40] 70)).alloc (.cells #[.int .i64 1, St [97], St [], .int .i64 493, .int .i64 0] 25)) := ((Below.refl _ _).alloc (Nat.le_refl _) _).alloc (by simp) _
  have HB := Lib.hid hB
  have LK := lies_alloc (lies_new w 70 #[.bool true, .bool false, .bool false, .bool true, fnV 36, fnV 40]) (.cells #[.int .i64 1, St [97], St [], .int .i64 493, .int .i64 0] 25)
  have LI := lies_new (w.alloc (.cells #[.bool true, .bool false, .bool false, .bool true, fnV 36, fnV 40] 70)) 25 #[.int .i64 1, St [97], St [], .int .i64 493, .int .i64 0]
  rw [World.size_alloc] at LI
  have k0 := lies_cell LK 0
  have k1 := lies_cell LK 1
  have k2 := lies_cell LK 2
  have i1 := lies_cell LI 1
  have i3 := lies_cell LI 3
  simp only [List.getElem?_toArray, List.getElem?_cons_zero, List.getElem?_cons_succ] at k0 k1 k2 i1 i3
  have hs1 : same ([97] : Bt) [] = false := by decide
  have hv : isPath ([97] : Bt) = true := by decide
  have HK := Lib.hid LK
  clear hB LK LI
  go_enter Try.func34, Try.ntmps34
  go_upto_region 1 with (fail)
  generalize (w.alloc (.cells #[.bool true, .bool false, .bool false, .bool true, fnV 36, fnV 40] 70)).alloc (.cells #[.int .i64 1, St [97], St [], .int .i64 493, .int .i64 0] 25) = X at *
  go_wp2_with (go_at_call 16; (with_reducible refine (valid_any _ _ (by simp)).mono ?_); rintro e w1 ⟨rfl, hb⟩; have H1 := Lib.hid (HB.out.trans (hb.mono HB.out.size)); have L1 := lies_below HK.out hb (lies_lt HK.out); have m1 := lies_cell L1 1; have m2 := lies_cell L1 2; simp only [List.getElem?_toArray, List.getElem?_cons_zero, List.getElem?_cons_succ] at m1 m2; rw [hv]; clear hb L1)
  trace_state
  go_ret
  exact ⟨rfl, H1.out⟩
end Go.Proofs.Ytciafdbhkfhidaa
