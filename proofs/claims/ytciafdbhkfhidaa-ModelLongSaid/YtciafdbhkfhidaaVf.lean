/-
What is proved here: the law's alive, by a contract.
-/
import Derived.Test.YtciafdbhkfhidaaVe
set_option linter.unusedSimpArgs false
set_option linter.unusedVariables false
namespace Go.Proofs.Ytciafdbhkfhidaa
open Go.Pth Go.Tre Go.RowKit Go.Word Go.Mod
theorem num_any (k : Int) (w : World) : Calls Try.prog 6 #[.int .i64 k] w fun e w' => e = .returned (.int .i64 k) ∧ w = w' := by
  go_enter Try.func6, Try.ntmps6
  go_wp2
  go_ret
  exact ⟨rfl, rfl⟩
theorem do_lit (w : World) :
    Calls Try.prog 7 #[.agg #[.slice none 0 0, .slice none 0 0], .agg #[.int .i64 1, .string { data := #[97] }, .string { data := #[] }, .int .i64 493, .int .i64 0], .slice none 0 0] w fun e w' => (∃ G C, e = .returned (.tuple #[.agg #[.slice (some ⟨G, 0, none⟩) 1 C, .slice none 0 0], .int .i64 0]) ∧ w'.ownsRow w.heap.size 38 3 (.slice (some ⟨G, 0, none⟩) 1 C) 1 xsM) ∧ Below w.heap.size w w' := do_mk w
set_option maxRecDepth 100000 in
set_option maxHeartbeats 4000000 in
theorem alive_any (w : World) : Calls Try.prog 4 #[] w fun e w' => e = .returned (.bool true) ∧ Below w.heap.size w w' := by
  have hz := zero29
  have KD := Lib.hid (do_lit w)
  go_enter Try.func4, Try.ntmps4
  go_upto_region 2 with (first
    | (go_at_call 7; (refine KD.out.mono ?_); rintro e w1 ⟨⟨G, C, rfl, ho⟩, hb⟩; have HO := Lib.hid ho; have HB := Lib.hid hb; have L1 := Lib.hid (lies_new w1 29 #[.slice none 0 0, .slice none 0 0]); have E1 := Lib.hid (setRow_alloc w1 29 #[.slice none 0 0, .slice none 0 0] #[.slice (some ⟨G, 0, none⟩) 1 C, .slice none 0 0]); clear ho hb)
    | (refine wpList_store_row rfl 29 _ _ rfl w1.heap.size #[.slice (some ⟨G, 0, none⟩) 1 C, .slice none 0 0] rfl rfl 29 _ L1.out (by kernel_rfl) rfl (by simp [Value.oneCell']) ?_; rw [E1.out]))
  clear hz L1 E1 KD
  have LX := lies_new w1 29 #[.slice (some ⟨G, 0, none⟩) 1 C, .slice none 0 0]
  have x0 := lies_cell LX 0
  simp only [List.getElem?_toArray, List.getElem?_cons_zero] at x0
  have HX := Lib.hid (HB.out.alloc HB.out.size (.cells #[.slice (some ⟨G, 0, none⟩) 1 C, .slice none 0 0] 29))
  have OX := HO.out.alloc (.cells #[.slice (some ⟨G, 0, none⟩) 1 C, .slice none 0 0] 29)
  have TX := Lib.hid (show (w1.alloc (.cells #[.slice (some ⟨G, 0, none⟩) 1 C, .slice none 0 0] 29)).rangeAt G 0 [.string { data := #[97] }, .int .i64 (-1), .int .i64 493] from fun j v hj => by
    have h := OX.cells rfl j v hj
    rw [show (⟨G, 0, none⟩ : Addr).add j = ⟨G, 0 + j, none⟩ by unfold Addr.add; split <;> simp_all] at h
    exact h)
  clear LX OX HO
  have n0 := TX.out 0 _ rfl
  have n1 := TX.out 1 _ rfl
  have n2 := TX.out 2 _ rfl
  simp only [Nat.zero_add] at n0 n1 n2
  generalize w1.alloc (.cells #[.slice (some ⟨G, 0, none⟩) 1 C, .slice none 0 0] 29) = X at *
  go_wp2_with (go_at_call 6; (with_reducible refine (num_any _ _).mono ?_); rintro e w2 ⟨rfl, rfl⟩)
  trace_state
  go_ret
  exact ⟨rfl, HX.out⟩
end Go.Proofs.Ytciafdbhkfhidaa
