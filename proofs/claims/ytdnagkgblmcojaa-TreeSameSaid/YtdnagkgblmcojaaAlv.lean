/-
What is proved here: the law's own look at answers that the document fixes, and num, by contracts.
-/
import Derived.Test.YtdnagkgblmcojaaWgn
import Derived.Lib.SlBytesConst
set_option linter.unusedSimpArgs false
namespace Go.Proofs.Ytdnagkgblmcojaa
open Go.Pth Go.Tre Go.RowKit Go.Word Go.Shelf Go.Fl

theorem num_any (z : Int) (w : World) : Calls Try.prog 21 #[.int .i64 z] w fun e w' => e = .returned (.int .i64 z) ∧ w = w' := by
  go_enter Try.func21, Try.ntmps21
  go_wp2
  go_ret
  exact ⟨rfl, rfl⟩
def aNs : List Nd := [⟨[97], -1, 493⟩, ⟨[98], 0, 0⟩]
def aFs : List Fl := [⟨420, [104, 105]⟩]
theorem a_loose : looseE aNs aFs = 0 := by decide +kernel
theorem a_check : checkE aNs aFs = 0 := by decide +kernel
theorem a_weight : weightB aNs aFs = 3 ∧ weightI aNs aFs = 3 := by decide +kernel

theorem rep_three : Rep 4613937818241073152 3 := ⟨false, 51, by decide +kernel, by decide⟩
theorem order_same {x y : Nat} {a : Int} (hx : Rep x a) (hy : Rep y a) : FloatKind.f64.format.order x y = some .eq := by
  rw [order_rep hx hy]
  exact congrArg some (Int.compare_eq_eq.2 rfl)
set_option maxRecDepth 100000 in
theorem alive_any (w : World) : Calls Try.prog 8 #[] w fun e w' => e = .returned (.bool true) ∧ Below w.heap.size w w' := by
  go_enter Try.func8, Try.ntmps8
  have kc := Lib.run_convert_bytes_const (P := Try.prog) (w.alloc (.cells #[.string { data := #[97] }, .int .i64 (-1), .int .i64 493, .string { data := #[98] }, .int .i64 0, .int .i64 0] 41)) 42 5 #[.int .u8 104, .int .u8 105] 2 2 Try.underlying42 Try.underlying5
  rw [World.size_alloc] at kc
  have kc : (convert 42 42 (.slice (some ⟨w.heap.size + 1, 0, none⟩) 2 2)).run Try.prog ((w.alloc (.cells #[.string { data := #[97] }, .int .i64 (-1), .int .i64 493, .string { data := #[98] }, .int .i64 0, .int .i64 0] 41)).alloc (.cells #[.int .u8 104, .int .u8 105] 5)) = .ok (.slice (some ⟨w.heap.size + 1, 0, none⟩) 2 2) ((w.alloc (.cells #[.string { data := #[97] }, .int .i64 (-1), .int .i64 493, .string { data := #[98] }, .int .i64 0, .int .i64 0] 41)).alloc (.cells #[.int .u8 104, .int .u8 105] 5 (2, 3))) := kc
  go_upto_region 2 with (fail)
  obtain ⟨X, hX⟩ : ∃ X, X = (((w.alloc (.cells #[St [97], .int .i64 (-1), .int .i64 493, St [98], .int .i64 0, .int .i64 0] 41)).alloc (.cells #[.int .u8 104, .int .u8 105] 5 (2, 3))).alloc (.cells #[.int .i64 420, .slice (some ⟨w.heap.size + 1, 0, none⟩) 2 2] 49)).alloc (.cells #[.slice (some ⟨w.heap.size, 0, none⟩) 2 2, .slice (some ⟨w.heap.size + 1 + 1, 0, none⟩) 1 1] 25) := ⟨_, rfl⟩
  change Code.wp _ _ _ _ ((((w.alloc (.cells #[St [97], .int .i64 (-1), .int .i64 493, St [98], .int .i64 0, .int .i64 0] 41)).alloc (.cells #[.int .u8 104, .int .u8 105] 5 (2, 3))).alloc (.cells #[.int .i64 420, .slice (some ⟨w.heap.size + 1, 0, none⟩) 2 2] 49)).alloc (.cells #[.slice (some ⟨w.heap.size, 0, none⟩) 2 2, .slice (some ⟨w.heap.size + 1 + 1, 0, none⟩) 1 1] 25))
  rw [← hX]
  have z1 : (w.alloc (.cells #[St [97], .int .i64 (-1), .int .i64 493, St [98], .int .i64 0, .int .i64 0] 41)).heap.size = w.heap.size + 1 := by simp
  have LN : Lies X w.heap.size 41 #[St [97], .int .i64 (-1), .int .i64 493, St [98], .int .i64 0, .int .i64 0] := by
    rw [hX]; exact lies_alloc (lies_alloc (lies_alloc (lies_new w 41 _) _) _) _
  have LB : ∀ i v, (#[.int .u8 104, .int .u8 105] : Array Value)[i]? = some v → X.cell? ⟨w.heap.size + 1, i, none⟩ = some v := fun i v h => by
    have h0 : ((w.alloc (.cells #[St [97], .int .i64 (-1), .int .i64 493, St [98], .int .i64 0, .int .i64 0] 41)).alloc (.cells #[.int .u8 104, .int .u8 105] 5 (2, 3))).heap[w.heap.size + 1]? = some (.cells #[.int .u8 104, .int .u8 105] 5 (2, 3)) := by
      have := heap_alloc_new (w.alloc (.cells #[St [97], .int .i64 (-1), .int .i64 493, St [98], .int .i64 0, .int .i64 0] 41)) (.cells #[.int .u8 104, .int .u8 105] 5 (2, 3))
      rw [World.size_alloc] at this
      exact this
    have h1 : X.heap[w.heap.size + 1]? = some (.cells #[.int .u8 104, .int .u8 105] 5 (2, 3)) := by
      rw [hX]
      exact (Below.heap_alloc _ _ _ (by simp)).trans ((Below.heap_alloc _ _ _ (by simp)).trans h0)
    exact (cell_of_row X (w.heap.size + 1) i _ 5 (2, 3) h1).trans h
  have LF : Lies X (w.heap.size + 1 + 1) 49 #[.int .i64 420, .slice (some ⟨w.heap.size + 1, 0, none⟩) 2 2] := by
    rw [hX]
    have := lies_new ((w.alloc (.cells #[St [97], .int .i64 (-1), .int .i64 493, St [98], .int .i64 0, .int .i64 0] 41)).alloc (.cells #[.int .u8 104, .int .u8 105] 5 (2, 3))) 49 #[.int .i64 420, .slice (some ⟨w.heap.size + 1, 0, none⟩) 2 2]
    rw [World.size_alloc, World.size_alloc] at this
    exact lies_alloc this _
  have LT : Lies X (w.heap.size + 1 + 1 + 1) 25 #[.slice (some ⟨w.heap.size, 0, none⟩) 2 2, .slice (some ⟨w.heap.size + 1 + 1, 0, none⟩) 1 1] := by
    rw [hX]
    have := lies_new (((w.alloc (.cells #[St [97], .int .i64 (-1), .int .i64 493, St [98], .int .i64 0, .int .i64 0] 41)).alloc (.cells #[.int .u8 104, .int .u8 105] 5 (2, 3))).alloc (.cells #[.int .i64 420, .slice (some ⟨w.heap.size + 1, 0, none⟩) 2 2] 49)) 25 #[.slice (some ⟨w.heap.size, 0, none⟩) 2 2, .slice (some ⟨w.heap.size + 1 + 1, 0, none⟩) 1 1]
    rw [World.size_alloc, World.size_alloc, World.size_alloc] at this
    exact this
  have HB := Lib.hid (show Below w.heap.size w X by
    rw [hX]
    exact ((((Below.refl _ w).alloc (Nat.le_refl _) _).alloc (by simp) _).alloc (by simp; omega) _).alloc (by simp; omega) _)
  have nX := lies_lt LT
  have hN : NodesAt X (some ⟨w.heap.size, 0, none⟩) aNs := fun i hi => by
    match i, hi with
    | 0, _ => exact ⟨_, _, rfl, by omega, lies_cell LN 0, lies_cell LN 1, lies_cell LN 2⟩
    | 1, _ => exact ⟨_, _, rfl, by omega, lies_cell LN 3, lies_cell LN 4, lies_cell LN 5⟩
  have hF : FilesAt X (some ⟨w.heap.size + 1 + 1, 0, none⟩) aFs := fun i hi => by
    match i, hi with
    | 0, _ => exact ⟨_, _, some ⟨w.heap.size + 1, 0, none⟩, 2, rfl, by omega, lies_cell LF 0, lies_cell LF 1, fun j hj => by
        match j, hj with
        | 0, _ => exact ⟨_, _, rfl, by omega, LB 0 _ rfl⟩
        | 1, _ => exact ⟨_, _, rfl, by omega, LB 1 _ rfl⟩⟩
  have hp : ∀ x ∈ aNs, x.path.length ≤ 100000 := by decide
  have LH := Lib.hid LT
  have HN := Lib.hid hN
  have HF := Lib.hid hF
  have HP := Lib.hid hp
  have A : Hid (Calls Try.prog 23 #[.agg #[.slice (some ⟨w.heap.size, 0, none⟩) 2 2, .slice (some ⟨w.heap.size + 1 + 1, 0, none⟩) 1 1]] X fun e w' => e = .returned (.int .i64 0) ∧ Below X.heap.size X w') := by
    have := check_any _ _ 2 1 aNs aFs X hN hF hp
    rw [a_check] at this
    exact Lib.hid this
  have d0 : X.cell? ⟨w.heap.size + 1 + 1 + 1, 0, none⟩ = some (.slice (some ⟨w.heap.size, 0, none⟩) 2 2) := lies_cell LT 0
  have d1 : X.cell? ⟨w.heap.size + 1 + 1 + 1, 1, none⟩ = some (.slice (some ⟨w.heap.size + 1 + 1, 0, none⟩) 1 1) := lies_cell LT 1
  clear kc hX z1 LN LB LF LT hN hF hp
  have go36 : ∀ W, Below X.heap.size X W → Hid (Calls Try.prog 24 #[.agg #[.slice (some ⟨w.heap.size, 0, none⟩) 2 2, .slice (some ⟨w.heap.size + 1 + 1, 0, none⟩) 1 1]] W fun e w' => (∃ x y, e = .returned (.tuple #[.complex .f64 x y, .int .i64 0]) ∧ Rep x 3 ∧ Rep y 3) ∧ Below W.heap.size W w') := fun W hb => by
    have := weight_any _ _ 2 1 aNs aFs W (nodesAt_below HN.out hb) (filesAt_below HF.out hb) HP.out a_loose
    rw [a_weight.1, a_weight.2] at this
    exact Lib.hid this
  go_wp2_with (first
    | (go_at_call 23; (with_reducible refine A.out.mono ?_); rintro e w1 ⟨rfl, hb⟩; have H1 := Lib.hid hb; have d2 := (hb.cell (p := ⟨w.heap.size + 1 + 1 + 1, 0, none⟩) nX).trans d0; have d3 := (hb.cell (p := ⟨w.heap.size + 1 + 1 + 1, 1, none⟩) nX).trans d1; clear hb)
    | (go_at_call 24; (with_reducible refine (go36 _ H1.out).out.mono ?_); rintro e w2 ⟨⟨x, y, rfl, hx, hy⟩, hb⟩; have H2 := Lib.hid hb; have o1 := order_same hx rep_three; have o2 := order_same hy rep_three; clear hb hx hy)
    | (go_at_call 21; (with_reducible refine (num_any _ _).mono ?_); rintro e w3 ⟨rfl, rfl⟩))
  go_ret
  exact ⟨rfl, HB.out.trans ((H1.out.mono HB.out.size).trans (H2.out.mono (Nat.le_trans HB.out.size H1.out.size)))⟩
end Go.Proofs.Ytdnagkgblmcojaa
