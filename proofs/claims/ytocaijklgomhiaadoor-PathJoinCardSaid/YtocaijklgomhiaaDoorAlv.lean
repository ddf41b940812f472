/-
What is proved here: package path's Temp, and the laws' own look at what the document fixes, by contracts.
-/
import Derived.Test.YtocaijklgomhiaaDoorSpl
set_option linter.unusedSimpArgs false
namespace Go.Proofs.YtocaijklgomhiaaDoor
open Go.Pth Go.RowKit Go.Word

/-- the temporary name of a number -/
def tempOf (k : Int) : Bt := if 0 ≤ k ∧ k ≤ 9999 then [46, 116, 115, 45] ++ Lib.decDigits k.toNat else []
theorem temp_add (x : Bt) (hx : x.length ≤ 100000) (w : World) : (binOp .add 9 (.string { data := #[46, 116, 115, 45] }) (St x)).run Tryd.prog w = .ok (St ([46, 116, 115, 45] ++ x)) w := by
  have h := run_string_add_lists (P := Tryd.prog) (w := w) [46, 116, 115, 45] x (by simp) (by omega)
  unfold St
  rw [binOp_string_add]
  exact h

theorem temp12 (w : World) : Calls Tryd.prog 24 #[.int .i64 12] w fun e w' => e = .returned (St [46, 116, 115, 45, 49, 50]) ∧ w = w' := by
  have hd : Lib.decDigits 12 = [49, 50] := by rw [Lib.decDigits_two (by decide) (by decide)]; decide
  have K := fun w => Lib.hid (show Calls Tryd.prog 35 #[.int .i64 12] w (fun e w' => e = .returned (St [49, 50]) ∧ w = w') from (Tryd.strconv_Itoa_small 12 (by decide) w).mono fun _ _ h => by rw [hd] at h; exact ⟨h.1, h.2.symm⟩)
  have A := temp_add [49, 50] (by decide)
  simp only [List.cons_append, List.nil_append] at A
  go_enter Tryd.func24, Tryd.ntmps24
  go_wp2_with (go_at_call 35; (with_reducible refine (K _).out.mono ?_); rintro e w2 ⟨rfl, rfl⟩)
  go_ret
  exact ⟨rfl, rfl⟩

theorem eql_st (t : TypeId) (a b : Bt) (v : ByteArray) (hv : v = ⟨b.toArray⟩) : binOp .eql t (St a) (.string v) = pure (.bool (same a b)) := by
  subst hv; exact st_eql t a b
theorem eql_a (t : TypeId) : binOp .eql t (St [97]) (.string { data := #[97] }) = pure (.bool true) := eql_st t _ [97] _ rfl
theorem eql_12 (t : TypeId) : binOp .eql t (St [46, 116, 115, 45, 49, 50]) (.string { data := #[46, 116, 115, 45, 49, 50] }) = pure (.bool true) := eql_st t _ [46, 116, 115, 45, 49, 50] _ rfl
attribute [local go_sem] guard_eq eql_a eql_12

set_option maxHeartbeats 1000000 in
theorem alive_any (w : World) : Calls Tryd.prog 10 #[] w fun e w' => e = .returned (.bool true) ∧ Below w.heap.size w w' := by
  have h1 : isPath [97, 47, 98] = true := by decide +kernel
  have h2 : upP [97, 47, 98, 99] = [97] := by decide +kernel
  have V := fun w => Lib.hid (show Calls Tryd.prog 13 #[.string { data := #[97, 47, 98] }] w (fun e w' => e = .returned (.bool true) ∧ Below w.heap.size w w') from by have := valid_any [97, 47, 98] w (by decide); rw [h1] at this; exact this)
  have U := fun w => Lib.hid (show Calls Tryd.prog 16 #[.string { data := #[97, 47, 98, 99] }] w (fun e w' => e = .returned (St [97]) ∧ Below w.heap.size w w') from by have := parent_any [97, 47, 98, 99] w (by decide); rw [h2] at this; exact this)
  clear h1 h2
  go_enter Tryd.func10, Tryd.ntmps10
  go_wp2_with (first
    | (go_at_call 13; (with_reducible refine (V _).out.mono ?_); rintro e w1 ⟨rfl, hb⟩; have H1 := Lib.hid hb; clear hb)
    | (go_at_call 16; (with_reducible refine (U _).out.mono ?_); rintro e w2 ⟨rfl, hb⟩; have H2 := Lib.hid hb; clear hb)
    | (go_at_call 24; (with_reducible refine (temp12 _).mono ?_); rintro e w3 ⟨rfl, rfl⟩))
  go_ret
  exact ⟨rfl, H1.out.trans (H2.out.mono H1.out.size)⟩
end Go.Proofs.YtocaijklgomhiaaDoor
