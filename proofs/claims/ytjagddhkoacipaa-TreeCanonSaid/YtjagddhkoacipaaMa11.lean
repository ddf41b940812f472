/-
What is proved here: several texts in one (Cp3, Cpn, Alv, Cp4, Cl1, Eft, Cl2): each says what it is about.
-/
import Derived.Test.YtjagddhkoacipaaMa10
import Derived.Laws.Rows
import Derived.Test.YtjagddhkoacipaaMa6
import Derived.Lib.SlBytesConst
import Derived.Great.BuildSlice
import Derived.Lib.SliceRun
/-
What is proved here: what a region with four writes one behind the other comes to; a copy that begins.
-/
set_option linter.unusedSimpArgs false
namespace Go.Proofs.Ytjagddhkoacipaa
open Go.Pth Go.Tre Go.RowKit Go.Word Go.Shelf

/-- the world of a region with four writes one behind the other, by what has come up -/
def Stg (A B C D E : World) (l : Array Bool) : World := if l.getD 19 false = true then E else if l.getD 17 false = true then D else if l.getD 16 false = true then C else if l.getD 14 false = true then B else A
theorem getD_set (l : Array Bool) (i k : Nat) : (l.setIfInBounds i true).getD k false = if i = k ∧ i < l.size then true else l.getD k false := by
  rw [Array.getD_eq_getD_getElem?, Array.getD_eq_getD_getElem?, Array.getElem?_setIfInBounds]
  by_cases h : i = k
  · subst h
    by_cases h2 : i < l.size
    · simp [h2]
    · simp [h2]
  · simp [h]
theorem stg_keep {A B C D E : World} {l : Array Bool} {i : Nat} (h1 : i ≠ 14) (h2 : i ≠ 16) (h3 : i ≠ 17) (h4 : i ≠ 19) : Stg A B C D E (l.setIfInBounds i true) = Stg A B C D E l := by
  unfold Stg
  simp only [getD_set, h1, h2, h3, h4, false_and, if_false]
theorem stg_all {A B C D E : World} {l : Array Bool} (p : World → Prop) (hA : p A) (hB : p B) (hC : p C) (hD : p D) (hE : l.getD 19 false = true → p E) : p (Stg A B C D E l) := by
  unfold Stg
  split
  · exact hE (by assumption)
  · split
    · exact hD
    · split
      · exact hC
      · split
        · exact hB
        · exact hA
theorem stg_0 {A B C D E : World} {l : Array Bool} (up16 : l.getD 16 false = true → l.getD 14 false = true) (up17 : l.getD 17 false = true → l.getD 16 false = true) (up19 : l.getD 19 false = true → l.getD 17 false = true) (hs : l.size = 20) (hu : l.getD 14 false = false) : Stg A B C D E l = A ∧ Stg A B C D E (l.setIfInBounds 14 true) = B := by
  have h16 : l.getD 16 false = false := by cases h : l.getD 16 false with | false => rfl | true => rw [up16 h] at hu; cases hu
  have h17 : l.getD 17 false = false := by cases h : l.getD 17 false with | false => rfl | true => rw [up17 h] at h16; cases h16
  have h19 : l.getD 19 false = false := by cases h : l.getD 19 false with | false => rfl | true => rw [up19 h] at h17; cases h17
  unfold Stg
  simp only [getD_set, hs, h16, h17, h19, hu, Nat.reduceEqDiff, Nat.reduceLT, reduceIte, false_and, true_and, and_self, Bool.false_eq_true]
theorem stg_1 {A B C D E : World} {l : Array Bool} (up17 : l.getD 17 false = true → l.getD 16 false = true) (up19 : l.getD 19 false = true → l.getD 17 false = true) (hs : l.size = 20) (hu : l.getD 16 false = false) (h14 : l.getD 14 false = true) : Stg A B C D E l = B ∧ Stg A B C D E (l.setIfInBounds 16 true) = C := by
  have h17 : l.getD 17 false = false := by cases h : l.getD 17 false with | false => rfl | true => rw [up17 h] at hu; cases hu
  have h19 : l.getD 19 false = false := by cases h : l.getD 19 false with | false => rfl | true => rw [up19 h] at h17; cases h17
  unfold Stg
  simp only [getD_set, hs, h14, h17, h19, hu, Nat.reduceEqDiff, Nat.reduceLT, reduceIte, false_and, true_and, and_self, Bool.false_eq_true]
theorem stg_2 {A B C D E : World} {l : Array Bool} (up19 : l.getD 19 false = true → l.getD 17 false = true) (hs : l.size = 20) (hu : l.getD 17 false = false) (h16 : l.getD 16 false = true) : Stg A B C D E l = C ∧ Stg A B C D E (l.setIfInBounds 17 true) = D := by
  have h19 : l.getD 19 false = false := by cases h : l.getD 19 false with | false => rfl | true => rw [up19 h] at hu; cases hu
  unfold Stg
  simp only [getD_set, hs, h16, h19, hu, Nat.reduceEqDiff, Nat.reduceLT, reduceIte, false_and, true_and, and_self, Bool.false_eq_true]
theorem stg_3 {A B C D E : World} {l : Array Bool}  (hs : l.size = 20) (hu : l.getD 19 false = false) (h17 : l.getD 17 false = true) : Stg A B C D E l = D ∧ Stg A B C D E (l.setIfInBounds 19 true) = E := by
  unfold Stg
  simp only [getD_set, hs, h17, hu, Nat.reduceEqDiff, Nat.reduceLT, reduceIte, false_and, true_and, and_self, Bool.false_eq_true]
theorem stg_end {A B C D E : World} {l : Array Bool} (h : l.getD 19 false = true) : Stg A B C D E l = E := by
  unfold Stg
  rw [if_pos h]
theorem copy_mono {w : World} {B B' : Nat} {vN vF : Value} {D : Nat → Value} {ns : List Nd} {fs : List Fl} (h : CopyAt w B vN vF D ns fs) (hB : B' ≤ B) : CopyAt w B' vN vF D ns fs where
  nodes := h.nodes.mono hB
  files := h.files.mono hB
  data := fun i hi => World.ownsRow.mono (h.data i hi) hB
  apart := h.apart
theorem grown_setRow (w : World) (g : Nat) (cs : Array Value) : w.grownBy (w.setRow g cs) (some g) :=
  ⟨rfl, rfl, rfl, by simp, fun k hk hne => by simp at hne; exact setRow_other w g k cs hne⟩
theorem grown_setCell (w : World) (g i : Nat) (u : Value) : w.grownBy (w.setCell ⟨g, i, none⟩ u) (some g) :=
  ⟨rfl, rfl, rfl, by simp [World.setCell], fun k hk hne => Below.heap_setCell w ⟨g, i, none⟩ u k (by simpa using hne)⟩
theorem copy_first {w : World} {B : Nat} {vN : Value} {ns : List Nd} (h : w.ownsRow B 54 3 vN ns.length (ncells ns)) (o : Obj) : CopyAt (w.alloc o) B vN (.slice none 0 0) (fun _ => undef) ns [] where
  nodes := h.kept (World.grownBy_alloc w o none) (by cases vN.ownBlock <;> simp)
  files := World.ownsRow_nil _ _ _ _
  data := fun i hi => by simp at hi
  apart := fun i k _ hk => by simp at hk
end Go.Proofs.Ytjagddhkoacipaa

/-
What is proved here: a copy's nodes and files as they lie in slices; a copy of which one row is turned.
-/
set_option linter.unusedSimpArgs false
namespace Go.Proofs.Ytjagddhkoacipaa
open Go.Pth Go.Tre Go.RowKit Go.Word Go.Shelf
theorem copy_nodes {w : World} {B : Nat} {vN vF : Value} {D : Nat → Value} {ns : List Nd} {fs : List Fl} (h : CopyAt w B vN vF D ns fs) : ∃ NA nc, vN = .slice NA ns.length nc ∧ NodesAt w NA ns := by
  rcases h.nodes.2 with ⟨e, h0⟩ | ⟨g, cap, cur, e, hg, hb, _⟩
  · exact ⟨none, 0, by rw [e, h0], fun i hi => by omega⟩
  · subst e
    refine ⟨_, _, rfl, fun i hi => ⟨g, 0, rfl, (Array.getElem?_eq_some_iff.1 hb).1, ?_⟩⟩
    obtain ⟨k1, k2, k3⟩ := ncells_at ns i hi
    rw [Nat.zero_add, h.nodes.cellAt _ (by omega), h.nodes.cellAt _ (by omega), h.nodes.cellAt _ (by omega)]
    exact ⟨k1, k2, k3⟩
theorem fcells_at (D : Nat → Value) : ∀ (fs : List Fl) (i : Nat) (h : i < fs.length), (fcells D fs)[i * 2]? = some (.int .i64 fs[i].mode) ∧ (fcells D fs)[i * 2 + 1]? = some (D i) := fun fs i h => by
  have key : ∀ (k : Nat), k ≤ fs.length → i < k → ((List.range k).flatMap fun i => [Value.int .i64 (fs.getD i ⟨0, []⟩).mode, D i])[i * 2]? = some (.int .i64 fs[i].mode) ∧ ((List.range k).flatMap fun i => [Value.int .i64 (fs.getD i ⟨0, []⟩).mode, D i])[i * 2 + 1]? = some (D i) := by
    intro k
    induction k with
    | zero => intro _ h; omega
    | succ k ih =>
      intro hk hik
      have hl : ((List.range k).flatMap fun i => [Value.int .i64 (fs.getD i ⟨0, []⟩).mode, D i]).length = k * 2 := by
        clear ih hk hik
        induction k with
        | zero => rfl
        | succ k ih => rw [List.range_succ, List.flatMap_append, List.length_append, ih]; simp; omega
      rw [List.range_succ, List.flatMap_append]
      by_cases e : i = k
      · subst e
        rw [List.getElem?_append_right (by omega), List.getElem?_append_right (by omega), hl, show i * 2 - i * 2 = 0 by omega, show i * 2 + 1 - i * 2 = 1 by omega]
        simp [List.getD_eq_getElem?_getD, List.getElem?_eq_getElem h]
      · rw [List.getElem?_append_left (by omega), List.getElem?_append_left (by omega)]
        exact ih (by omega) (by omega)
  exact key fs.length (Nat.le_refl _) h
theorem fcells_len (D : Nat → Value) (fs : List Fl) : (fcells D fs).length = fs.length * 2 := by
  unfold fcells
  generalize fs.length = k
  induction k with
  | zero => rfl
  | succ k ih => rw [List.range_succ, List.flatMap_append, List.length_append, ih]; simp; omega
theorem own_bytes {w : World} {B : Nat} {v : Value} {l : Bt} (h : OwnB w B v l) : ∃ DA dc, v = .slice DA l.length dc ∧ BytesAt w DA l := by
  rcases h.2 with ⟨e, h0⟩ | ⟨g, cap, cur, e, hg, hb, _⟩
  · exact ⟨none, 0, by rw [e, h0], fun i hi => by omega⟩
  · subst e
    refine ⟨_, _, rfl, fun i hi => ⟨g, 0, rfl, (Array.getElem?_eq_some_iff.1 hb).1, ?_⟩⟩
    have h' : w.ownsRow B 5 1 (.slice (some ⟨g, 0, none⟩) l.length cap) l.length (l.map yB) := h
    rw [Nat.zero_add, h'.cellAt _ (by omega), List.getElem?_map, List.getElem?_eq_getElem hi]
    simp [yB]
theorem copy_files {w : World} {B : Nat} {vN vF : Value} {D : Nat → Value} {ns : List Nd} {fs : List Fl} (h : CopyAt w B vN vF D ns fs) : ∃ FA fc, vF = .slice FA fs.length fc ∧ FilesAt w FA fs := by
  rcases h.files.2 with ⟨e, h0⟩ | ⟨g, cap, cur, e, hg, hb, _⟩
  · exact ⟨none, 0, by rw [e, h0], fun i hi => by omega⟩
  · subst e
    refine ⟨_, _, rfl, fun i hi => ?_⟩
    obtain ⟨k1, k2⟩ := fcells_at D fs i hi
    have hd := h.data i hi
    have e : fs.getD i ⟨0, []⟩ = fs[i] := by simp [List.getD_eq_getElem?_getD, List.getElem?_eq_getElem hi]
    rw [e] at hd
    obtain ⟨DA, dc, e1, e2⟩ := own_bytes hd
    refine ⟨g, 0, DA, dc, rfl, (Array.getElem?_eq_some_iff.1 hb).1, ?_, ?_, e2⟩
    · rw [Nat.zero_add, h.files.cellAt _ (by omega), k1]
    · rw [Nat.zero_add, h.files.cellAt _ (by omega), k2, e1]
/-- other nodes in the copy's row -/
theorem copy_nodes_turned {w w' : World} {B : Nat} {vN vN' vF : Value} {D : Nat → Value} {ns ns' : List Nd} {fs : List Fl} (h : CopyAt w B vN vF D ns fs) (h1 : w'.ownsRow B 54 3 vN' ns'.length (ncells ns')) (hg : w.grownBy w' vN.ownBlock) : CopyAt w' B vN' vF D ns' fs where
  nodes := h1
  files := h.files.kept hg (own_other h.files (fun r e => by obtain ⟨_, cs, h2⟩ := own_heap h.nodes r e; exact ⟨cs, 54, h2, by decide⟩))
  data := fun i hi => World.ownsRow.kept (h.data i hi) hg (own_other (h.data i hi) (fun r e => by obtain ⟨_, cs, h2⟩ := own_heap h.nodes r e; exact ⟨cs, 54, h2, by decide⟩))
  apart := h.apart
/-- other modes in the copy's row of files -/
theorem copy_files_turned {w w' : World} {B : Nat} {vN vF vF' : Value} {D : Nat → Value} {ns : List Nd} {fs fs' : List Fl} (h : CopyAt w B vN vF D ns fs) (hl : fs'.length = fs.length) (hd : ∀ i, i < fs.length → (fs'.getD i ⟨0, []⟩).data = (fs.getD i ⟨0, []⟩).data) (h1 : w'.ownsRow B 57 2 vF' fs'.length (fcells D fs')) (hg : w.grownBy w' vF.ownBlock) : CopyAt w' B vN vF' D ns fs' where
  nodes := h.nodes.kept hg (own_other h.nodes (fun r e => by obtain ⟨_, cs, h2⟩ := own_heap h.files r e; exact ⟨cs, 57, h2, by decide⟩))
  files := h1
  data := fun i hi => by rw [hd i (by omega)]; exact World.ownsRow.kept (h.data i (by omega)) hg (own_other (h.data i (by omega)) (fun r e => by obtain ⟨_, cs, h2⟩ := own_heap h.files r e; exact ⟨cs, 57, h2, by decide⟩))
  apart := fun i k hik hk => h.apart i k hik (by omega)
end Go.Proofs.Ytjagddhkoacipaa

/-
What is proved here: the law's own look at answers that the document fixes, and num, by contracts.
-/
set_option linter.unusedSimpArgs false
namespace Go.Proofs.Ytjagddhkoacipaa
open Go.Pth Go.Tre Go.RowKit Go.Word Go.Shelf Go.Fl

theorem num_any (z : Int) (w : World) : Calls Try.prog 18 #[.int .i64 z] w fun e w' => e = .returned (.int .i64 z) ∧ w = w' := by
  go_enter Try.func18, Try.ntmps18
  go_wp2
  go_ret
  exact ⟨rfl, rfl⟩
def aNs : List Nd := [⟨[97], -1, 493⟩, ⟨[98], 0, 0⟩]
def aFs : List Fl := [⟨420, [104, 105]⟩]
theorem a_loose : looseE aNs aFs = 0 := by decide +kernel
theorem a_check : checkE aNs aFs = 0 := by decide +kernel
theorem a_weight : weightB aNs aFs = 3 ∧ weightI aNs aFs = 3 := by decide +kernel

theorem rep_three : Rep 4613937818241073152 3 := ⟨false, 51, by decide +kernel, by decide⟩
theorem order_same {x y : Nat} {a : Int} (hx : Rep x a) (hy : Rep y a) : FloatKind.f64.format.order x y = some .eq := by
  rw [order_rep hx hy]
  exact congrArg some (Int.compare_eq_eq.2 rfl)
set_option maxRecDepth 100000 in
theorem alive_any (w : World) : Calls Try.prog 13 #[] w fun e w' => e = .returned (.bool true) ∧ Below w.heap.size w w' := by
  go_enter Try.func13, Try.ntmps13
  have kc := Lib.run_convert_bytes_const (P := Try.prog) (w.alloc (.cells #[.string { data := #[97] }, .int .i64 (-1), .int .i64 493, .string { data := #[98] }, .int .i64 0, .int .i64 0] 54)) 37 5 #[.int .u8 104, .int .u8 105] 2 2 Try.underlying37 Try.underlying5
  rw [World.size_alloc] at kc
  have kc : (convert 37 37 (.slice (some ⟨w.heap.size + 1, 0, none⟩) 2 2)).run Try.prog ((w.alloc (.cells #[.string { data := #[97] }, .int .i64 (-1), .int .i64 493, .string { data := #[98] }, .int .i64 0, .int .i64 0] 54)).alloc (.cells #[.int .u8 104, .int .u8 105] 5)) = .ok (.slice (some ⟨w.heap.size + 1, 0, none⟩) 2 2) ((w.alloc (.cells #[.string { data := #[97] }, .int .i64 (-1), .int .i64 493, .string { data := #[98] }, .int .i64 0, .int .i64 0] 54)).alloc (.cells #[.int .u8 104, .int .u8 105] 5 (2, 3))) := kc
  go_upto_region 2 with (fail)
  obtain ⟨X, hX⟩ : ∃ X, X = (((w.alloc (.cells #[St [97], .int .i64 (-1), .int .i64 493, St [98], .int .i64 0, .int .i64 0] 54)).alloc (.cells #[.int .u8 104, .int .u8 105] 5 (2, 3))).alloc (.cells #[.int .i64 420, .slice (some ⟨w.heap.size + 1, 0, none⟩) 2 2] 57)).alloc (.cells #[.slice (some ⟨w.heap.size, 0, none⟩) 2 2, .slice (some ⟨w.heap.size + 1 + 1, 0, none⟩) 1 1] 25) := ⟨_, rfl⟩
  change Code.wp _ _ _ _ ((((w.alloc (.cells #[St [97], .int .i64 (-1), .int .i64 493, St [98], .int .i64 0, .int .i64 0] 54)).alloc (.cells #[.int .u8 104, .int .u8 105] 5 (2, 3))).alloc (.cells #[.int .i64 420, .slice (some ⟨w.heap.size + 1, 0, none⟩) 2 2] 57)).alloc (.cells #[.slice (some ⟨w.heap.size, 0, none⟩) 2 2, .slice (some ⟨w.heap.size + 1 + 1, 0, none⟩) 1 1] 25))
  rw [← hX]
  have z1 : (w.alloc (.cells #[St [97], .int .i64 (-1), .int .i64 493, St [98], .int .i64 0, .int .i64 0] 54)).heap.size = w.heap.size + 1 := by simp
  have LN : Lies X w.heap.size 54 #[St [97], .int .i64 (-1), .int .i64 493, St [98], .int .i64 0, .int .i64 0] := by
    rw [hX]; exact lies_alloc (lies_alloc (lies_alloc (lies_new w 54 _) _) _) _
  have LB : ∀ i v, (#[.int .u8 104, .int .u8 105] : Array Value)[i]? = some v → X.cell? ⟨w.heap.size + 1, i, none⟩ = some v := fun i v h => by
    have h0 : ((w.alloc (.cells #[St [97], .int .i64 (-1), .int .i64 493, St [98], .int .i64 0, .int .i64 0] 54)).alloc (.cells #[.int .u8 104, .int .u8 105] 5 (2, 3))).heap[w.heap.size + 1]? = some (.cells #[.int .u8 104, .int .u8 105] 5 (2, 3)) := by
      have := heap_alloc_new (w.alloc (.cells #[St [97], .int .i64 (-1), .int .i64 493, St [98], .int .i64 0, .int .i64 0] 54)) (.cells #[.int .u8 104, .int .u8 105] 5 (2, 3))
      rw [World.size_alloc] at this
      exact this
    have h1 : X.heap[w.heap.size + 1]? = some (.cells #[.int .u8 104, .int .u8 105] 5 (2, 3)) := by
      rw [hX]
      exact (Below.heap_alloc _ _ _ (by simp)).trans ((Below.heap_alloc _ _ _ (by simp)).trans h0)
    exact (cell_of_row X (w.heap.size + 1) i _ 5 (2, 3) h1).trans h
  have LF : Lies X (w.heap.size + 1 + 1) 57 #[.int .i64 420, .slice (some ⟨w.heap.size + 1, 0, none⟩) 2 2] := by
    rw [hX]
    have := lies_new ((w.alloc (.cells #[St [97], .int .i64 (-1), .int .i64 493, St [98], .int .i64 0, .int .i64 0] 54)).alloc (.cells #[.int .u8 104, .int .u8 105] 5 (2, 3))) 57 #[.int .i64 420, .slice (some ⟨w.heap.size + 1, 0, none⟩) 2 2]
    rw [World.size_alloc, World.size_alloc] at this
    exact lies_alloc this _
  have LT : Lies X (w.heap.size + 1 + 1 + 1) 25 #[.slice (some ⟨w.heap.size, 0, none⟩) 2 2, .slice (some ⟨w.heap.size + 1 + 1, 0, none⟩) 1 1] := by
    rw [hX]
    have := lies_new (((w.alloc (.cells #[St [97], .int .i64 (-1), .int .i64 493, St [98], .int .i64 0, .int .i64 0] 54)).alloc (.cells #[.int .u8 104, .int .u8 105] 5 (2, 3))).alloc (.cells #[.int .i64 420, .slice (some ⟨w.heap.size + 1, 0, none⟩) 2 2] 57)) 25 #[.slice (some ⟨w.heap.size, 0, none⟩) 2 2, .slice (some ⟨w.heap.size + 1 + 1, 0, none⟩) 1 1]
    rw [World.size_alloc, World.size_alloc, World.size_alloc] at this
    exact this
  have HB := Lib.hid (show Below w.heap.size w X by
    rw [hX]
    exact ((((Below.refl _ w).alloc (Nat.le_refl _) _).alloc (by simp) _).alloc (by simp; omega) _).alloc (by simp; omega) _)
  have nX := lies_lt LT
  have hN : NodesAt X (some ⟨w.heap.size, 0, none⟩) aNs := fun i hi => by
    match i, hi with
    | 0, _ => exact ⟨_, _, rfl, by omega, lies_cell LN 0, lies_cell LN 1, lies_cell LN 2⟩
    | 1, _ => exact ⟨_, _, rfl, by omega, lies_cell LN 3, lies_cell LN 4, lies_cell LN 5⟩
  have hF : FilesAt X (some ⟨w.heap.size + 1 + 1, 0, none⟩) aFs := fun i hi => by
    match i, hi with
    | 0, _ => exact ⟨_, _, some ⟨w.heap.size + 1, 0, none⟩, 2, rfl, by omega, lies_cell LF 0, lies_cell LF 1, fun j hj => by
        match j, hj with
        | 0, _ => exact ⟨_, _, rfl, by omega, LB 0 _ rfl⟩
        | 1, _ => exact ⟨_, _, rfl, by omega, LB 1 _ rfl⟩⟩
  have hp : ∀ x ∈ aNs, x.path.length ≤ 100000 := by decide
  have LH := Lib.hid LT
  have HN := Lib.hid hN
  have HF := Lib.hid hF
  have HP := Lib.hid hp
  have A : Hid (Calls Try.prog 38 #[.agg #[.slice (some ⟨w.heap.size, 0, none⟩) 2 2, .slice (some ⟨w.heap.size + 1 + 1, 0, none⟩) 1 1]] X fun e w' => e = .returned (.int .i64 0) ∧ Below X.heap.size X w') := by
    have := check_any _ _ 2 1 aNs aFs X hN hF hp
    rw [a_check] at this
    exact Lib.hid this
  have d0 : X.cell? ⟨w.heap.size + 1 + 1 + 1, 0, none⟩ = some (.slice (some ⟨w.heap.size, 0, none⟩) 2 2) := lies_cell LT 0
  have d1 : X.cell? ⟨w.heap.size + 1 + 1 + 1, 1, none⟩ = some (.slice (some ⟨w.heap.size + 1 + 1, 0, none⟩) 1 1) := lies_cell LT 1
  clear kc hX z1 LN LB LF LT hN hF hp
  have go36 : ∀ W, Below X.heap.size X W → Hid (Calls Try.prog 39 #[.agg #[.slice (some ⟨w.heap.size, 0, none⟩) 2 2, .slice (some ⟨w.heap.size + 1 + 1, 0, none⟩) 1 1]] W fun e w' => (∃ x y, e = .returned (.tuple #[.complex .f64 x y, .int .i64 0]) ∧ Rep x 3 ∧ Rep y 3) ∧ Below W.heap.size W w') := fun W hb => by
    have := weight_any _ _ 2 1 aNs aFs W (nodesAt_below HN.out hb) (filesAt_below HF.out hb) HP.out a_loose
    rw [a_weight.1, a_weight.2] at this
    exact Lib.hid this
  go_wp2_with (first
    | (go_at_call 38; (with_reducible refine A.out.mono ?_); rintro e w1 ⟨rfl, hb⟩; have H1 := Lib.hid hb; have d2 := (hb.cell (p := ⟨w.heap.size + 1 + 1 + 1, 0, none⟩) nX).trans d0; have d3 := (hb.cell (p := ⟨w.heap.size + 1 + 1 + 1, 1, none⟩) nX).trans d1; clear hb)
    | (go_at_call 39; (with_reducible refine (go36 _ H1.out).out.mono ?_); rintro e w2 ⟨⟨x, y, rfl, hx, hy⟩, hb⟩; have H2 := Lib.hid hb; have o1 := order_same hx rep_three; have o2 := order_same hy rep_three; clear hb hx hy)
    | (go_at_call 18; (with_reducible refine (num_any _ _).mono ?_); rintro e w3 ⟨rfl, rfl⟩))
  go_ret
  exact ⟨rfl, HB.out.trans ((H1.out.mono HB.out.size).trans (H2.out.mono (Nat.le_trans HB.out.size H1.out.size)))⟩
end Go.Proofs.Ytjagddhkoacipaa

/-
What is proved here: the document's own Copy, by a contract.
-/
set_option linter.unusedSimpArgs false
namespace Go.Proofs.Ytjagddhkoacipaa
open Go.Pth Go.Tre Go.RowKit Go.Word Go.Shelf

end Go.Proofs.Ytjagddhkoacipaa

/-
What is proved here: bytes.Clone, by a contract.
-/
set_option linter.unusedSimpArgs false
namespace Go.Proofs.Ytjagddhkoacipaa
open Go.Pth Go.Tre Go.RowKit Go.Word Go.Shelf
set_option maxRecDepth 100000 in
theorem bclone_any (DA : Option Addr) (dc : Nat) (d : Bt) (w : World) (hd : BytesAt w DA d) (hb : d.length ≤ 1000000) :
    Calls Try.prog 64 #[.slice DA d.length dc] w fun e w' => (∃ v, e = .returned v ∧ OwnB w' w.heap.size v d) ∧ Below w.heap.size w w' := by
  have he := fun (W : World) => Go.Lib.run_eql_slice_nil (P := Try.prog) W 37 5 DA d.length dc 0 0 Try.underlying37
  cases DA with
  | none =>
    have hd0 : d = [] := by
      cases d with
      | nil => rfl
      | cons c t =>
        obtain ⟨b, o, e, _⟩ := hd 0 (by simp)
        cases e
    subst hd0
    clear he
    have he := fun (W : World) => Go.Lib.run_eql_slice_nil (P := Try.prog) W 37 5 none 0 dc 0 0 Try.underlying37
    go_enter Try.func64, Try.ntmps64
    go_wp2
    all_goals go_ret
    all_goals exact ⟨⟨_, rfl, ownB_nil _ _⟩, Below.refl _ _⟩
  | some ad =>
    have o0 : OwnB (w.alloc (.cells #[] 5)) w.heap.size (.slice (some ⟨w.heap.size, 0, none⟩) 0 0) [] := World.ownsRow_lit (base := w.heap.size) (size := 1) w #[] 0 (Nat.le_refl _) (by decide) rfl
    have b0 : Below w.heap.size w (w.alloc (.cells #[] 5)) := (Below.refl _ _).alloc (Nat.le_refl _) _
    have HD := Lib.hid (bytesAt_below hd b0)
    have O0 := Lib.hid o0
    have B0 := Lib.hid b0
    clear hd o0 b0
    generalize hk : d.length = k at *
    have DN := Lib.hid hk
    clear hk
    go_enter Try.func64, Try.ntmps64
    go_wp2_with (refine wpList_app_bytes rfl _ _ rfl w.heap.size _ _ rfl O0.out (some ad) dc d (by rw [DN.out]; rfl) HD.out (by simp) (by rw [DN.out]; omega) (by simp) ?_; intro v1 w1 hO hb hk; have B1 := Lib.hid (B0.out.trans hb); have O1 := Lib.hid hO; clear hO hb hk)
    go_ret
    exact ⟨⟨_, rfl, by simpa using O1.out⟩, B1.out⟩
end Go.Proofs.Ytjagddhkoacipaa

/-
What is proved here: a region whose order is open: where each operation comes to a value and a world of which a fact of its own holds, and keeps the others' facts, every order comes to a frame and a world of which all the facts hold; the last operation does what it will. Of whatever program.
-/
set_option linter.unusedSimpArgs false
namespace Go.Word
section
variable {P : Program} {md : Region.Mode} {ops : Array Oper} {Q : Exit → Act → World → Prop} {own : Nat → Option Nat} {vals : Nat → Value} {a0 : Act}
def upd (vals : Nat → Value) (i : Nat) (v : Value) : Nat → Value := fun k => if k = i then v else vals k
theorem upd_same (vals : Nat → Value) (i : Nat) (v : Value) : upd vals i v i = v := by simp [upd]
theorem upd_other {vals : Nat → Value} {i : Nat} {v : Value} {k : Nat} (h : k ≠ i) : upd vals i v k = vals k := by simp [upd, h]
theorem tabd_upd {listed : Array Bool} {a : Act} {i : Nat} (v : Value) (h : Tabd own vals a0 listed a) (hi : listed.getD i false = false) : Tabd own (upd vals i v) a0 listed a := by
  obtain ⟨h1, h2, h3⟩ := h
  refine ⟨h1, h2, fun t ht => ?_⟩
  rw [h3 t ht]
  cases ho : own t with
  | none => rfl
  | some j =>
    by_cases e : j = i
    · subst e
      simp only [hi, Bool.false_eq_true, if_false]
    · simp only [upd_other e]
theorem wpAny_done2 {listed : Array Bool} {a : Act} {w : World} (hr : Region.ready md ops listed = []) (hq : Q .normal a w) : ∀ fuel, wpAny P md ops Q fuel listed a w
  | 0 => ⟨hr, hq⟩
  | _ + 1 => ⟨fun _ => hq, fun i hi => by rw [hr] at hi; cases hi⟩
theorem every_fact (rank : Nat → Nat) (last : Nat) (F : Nat → Value → World → Prop) (Inv : World → Prop)
    (hac : ∀ (i : Nat) (oi : Oper), ops[i]? = some oi → ∀ e ∈ oi.after, Region.binds md e = true → rank e.on < rank i)
    (hon : ∀ (i : Nat) (oi : Oper), ops[i]? = some oi → ∀ e ∈ oi.after, e.on < ops.size)
    (hdst : ∀ i oi, ops[i]? = some oi → (oi.dst = none ∧ ∀ t, own t ≠ some i) ∨ ∃ d, oi.dst = some d ∧ d < a0.tmps.size ∧ own d = some i ∧ ∀ t, own t = some i → t = d)
    (hop : ∀ i oi a w listed vals, ops[i]? = some oi → i ≠ last → (∀ e ∈ oi.after, Region.binds md e = true → listed.getD e.on false = true) → Tabd own vals a0 listed a → (∀ k, listed.getD k false = true → F k (vals k) w) → Inv w →
      (Region.wanted oi (yielded ops a.tmps) = true ∧ ∀ K : Act → World → Prop, (∀ v w', F i v w' → (∀ k u, k ≠ i → F k u w → F k u w') → Inv w' → K (a.put oi.dst v) w') → Oper.wp P oi a w K Q) ∨ (Region.wanted oi (yielded ops a.tmps) = false ∧ F i undef w))
    (hall : ∀ listed : Array Bool, (∀ ol, ops[last]? = some ol → ∀ e ∈ ol.after, Region.binds md e = true → listed.getD e.on false = true) → ∀ i, i < ops.size → i ≠ last → listed.getD i false = true)
    (hl : ∀ a w listed vals ol, ops[last]? = some ol → (∀ i, i < ops.size → i ≠ last → listed.getD i false = true) → (∀ e ∈ ol.after, Region.binds md e = true → listed.getD e.on false = true) → listed.getD last false = false → Tabd own vals a0 listed a → (∀ k, k < ops.size → k ≠ last → F k (vals k) w) → Inv w →
      Region.wanted ol (yielded ops a.tmps) = true ∧ ∀ K : Act → World → Prop, (∀ a' w', Q .normal a' w' → K a' w') → Oper.wp P ol a w K Q)
    (hend : ∀ a w listed vals, (∀ i, i < ops.size → listed.getD i false = true) → Tabd own vals a0 listed a → (∀ k, k < ops.size → F k (vals k) w) → Inv w → ops.size ≤ last → Q .normal a w) :
    ∀ (fuel : Nat) (listed : Array Bool) (a : Act) (w : World) (vals : Nat → Value), listed.size = ops.size → (last < ops.size → listed.getD last false = false) → listed.toList.count false ≤ fuel → Tabd own vals a0 listed a → (∀ k, listed.getD k false = true → F k (vals k) w) → Inv w → wpAny P md ops Q fuel listed a w := by
  intro fuel
  induction fuel with
  | zero =>
    intro listed a w vals hs hlf hc ht hF hI
    have hr : Region.ready md ops listed = [] := List.eq_nil_iff_forall_not_mem.2 fun j hj => by
      obtain ⟨hun, oj, hoj, _⟩ := mem_ready.1 hj
      have hjlt : j < ops.size := (Array.getElem?_eq_some_iff.1 hoj).1
      have := count_pos (by omega) hun
      omega
    have ha := all_listed hac hs hon hr
    refine ⟨hr, hend a w listed vals ha ht (fun k hk => hF k (ha k hk)) hI ?_⟩
    rcases Nat.lt_or_ge last ops.size with h | h
    · have h1 := hlf h
      rw [ha last h] at h1
      cases h1
    · exact h
  | succ fuel ih =>
    intro listed a w vals hs hlf hc ht hF hI
    refine ⟨fun hr => ?_, fun i hi => ?_⟩
    · have ha := all_listed hac hs hon hr
      refine hend a w listed vals ha ht (fun k hk => hF k (ha k hk)) hI ?_
      rcases Nat.lt_or_ge last ops.size with h | h
      · have h1 := hlf h
        rw [ha last h] at h1
        cases h1
      · exact h
    obtain ⟨hun, oi, hoi, hdeps⟩ := mem_ready.1 hi
    have hilt : i < ops.size := (Array.getElem?_eq_some_iff.1 hoi).1
    have hun2 : listed.getD i false = false := by
      rw [Array.getD_eq_getD_getElem?, Array.getElem?_eq_getElem (by omega)] at hun ⊢
      simpa using hun
    by_cases hil : i = last
    · subst hil
      have hothers := hall listed (fun ol hol => by rw [hoi] at hol; injection hol with hol; subst hol; exact hdeps)
      obtain ⟨hw, hK⟩ := hl a w listed vals oi hoi hothers hdeps hun2 ht (fun k hk hne => hF k (hothers k hk hne)) hI
      unfold wpOp
      rw [hoi]
      simp only [hw, if_true]
      refine .inl (hK _ fun a' w' hq => wpAny_done2 (List.eq_nil_iff_forall_not_mem.2 fun j hj => ?_) hq fuel)
      obtain ⟨hj1, oj, hoj, _⟩ := mem_ready.1 hj
      have hjlt : j < ops.size := (Array.getElem?_eq_some_iff.1 hoj).1
      by_cases hji : j = i
      · subst hji
        simp [hs, hjlt] at hj1
      · rw [getD_set_ne true (Ne.symm hji)] at hj1
        have h2 := hothers j hjlt hji
        rw [Array.getD_eq_getD_getElem?, Array.getElem?_eq_getElem (by omega)] at hj1 h2
        simp only [Option.getD_some] at hj1 h2
        rw [hj1] at h2
        cases h2
    have next : ∀ v w', F i v w' → (∀ k u, k ≠ i → F k u w → F k u w') → Inv w' → wpAny P md ops Q fuel (listed.setIfInBounds i true) (a.put oi.dst v) w' := fun v w' h1 h2 h3 => by
      have ht1 := tabd_upd v ht hun2
      have hv : upd vals i v i = v := upd_same vals i v
      have ht' : Tabd own (upd vals i v) a0 (listed.setIfInBounds i true) (a.put oi.dst v) := by
        rcases hdst i oi hoi with ⟨hd, hno⟩ | ⟨d, hd, hdl, hod, hinj⟩
        · have := tabd_skip ht1 hno
          rw [hv] at this
          rw [hd]; exact this
        · have := tabd_put ht1 (by omega) hdl hod hinj
          rw [hv] at this
          rw [hd]; exact this
      refine ih _ _ _ (upd vals i v) (by simp [hs]) (fun h => by rw [getD_set_ne false hil]; exact hlf h) (count_set (by omega) hun hc) ht' (fun k hk => ?_) h3
      by_cases e : k = i
      · subst e
        rw [hv]; exact h1
      · rw [upd_other e]
        rw [getD_set_ne false (Ne.symm e)] at hk
        exact h2 k _ e (hF k hk)
    unfold wpOp
    rw [hoi]
    rcases hop i oi a w listed vals hoi hil hdeps ht hF hI with ⟨hw, hK⟩ | ⟨hw, hv⟩
    · simp only [hw, if_true]
      exact .inl (hK _ next)
    · simp only [hw, Bool.false_eq_true, if_false]
      have ht1 := tabd_upd undef ht hun2
      have hv1 : upd vals i undef i = undef := upd_same vals i undef
      have ht' : Tabd own (upd vals i undef) a0 (listed.setIfInBounds i true) (a.put oi.dst undef) := by
        rcases hdst i oi hoi with ⟨hd, hno⟩ | ⟨d, hd, hdl, hod, hinj⟩
        · have := tabd_skip ht1 hno
          rw [hv1] at this
          rw [hd]; exact this
        · have := tabd_put ht1 (by omega) hdl hod hinj
          rw [hv1] at this
          rw [hd]; exact this
      refine ih _ _ _ (upd vals i undef) (by simp [hs]) (fun h => by rw [getD_set_ne false hil]; exact hlf h) (count_set (by omega) hun hc) ht' (fun k hk => ?_) hI
      by_cases e : k = i
      · subst e
        rw [hv1]; exact hv
      · rw [upd_other e]
        rw [getD_set_ne false (Ne.symm e)] at hk
        exact hF k hk
end
end Go.Word

/-
What is proved here: a row of files that came in, as cells; a copy of it of which some files' bytes are copied already.
-/
set_option linter.unusedSimpArgs false
namespace Go.Proofs.Ytjagddhkoacipaa
open Go.Pth Go.Tre Go.RowKit Go.Word Go.Shelf

theorem ownsRow_below {B : Nat} {e : TypeId} {k : Nat} {v : Value} {n : Nat} {xs : List Value} {w w' : World} (h : w.ownsRow B e k v n xs) (hb : Below w.heap.size w w') : w'.ownsRow B e k v n xs :=
  h.kept (row := none) ⟨hb.os, hb.tape, hb.output, hb.size, fun j hj _ => hb.block j hj⟩ (by cases hv : v.ownBlock <;> simp)
theorem fcells_congr {D D' : Nat → Value} {fs : List Fl} (h : ∀ i, i < fs.length → D i = D' i) : fcells D fs = fcells D' fs := by
  unfold fcells
  rw [List.flatMap_def, List.flatMap_def]
  congr 1
  refine List.map_congr_left (fun i hi => ?_)
  rw [h i (by simpa using hi)]
theorem fcells_put (D : Nat → Value) (u : Value) (fs : List Fl) (k : Nat) (h : k < fs.length) : (fcells D fs).set (k * 2 + 1) u = fcells (fun i => if i = k then u else D i) fs := by
  apply List.ext_getElem?
  intro i
  by_cases hi : i < fs.length * 2
  · obtain ⟨k1, k2⟩ := fcells_at (fun i => if i = k then u else D i) fs (i / 2) (by omega)
    obtain ⟨j1, j2⟩ := fcells_at D fs (i / 2) (by omega)
    have h2 : i % 2 = 0 ∨ i % 2 = 1 := by omega
    rcases h2 with h2 | h2
    · rw [show (fcells (fun i => if i = k then u else D i) fs)[i]? = (fcells (fun i => if i = k then u else D i) fs)[i / 2 * 2]? by congr 1; omega, k1, List.getElem?_set, if_neg (by omega), show (fcells D fs)[i]? = (fcells D fs)[i / 2 * 2]? by congr 1; omega, j1]
    · rw [show (fcells (fun i => if i = k then u else D i) fs)[i]? = (fcells (fun i => if i = k then u else D i) fs)[i / 2 * 2 + 1]? by congr 1; omega, k2, List.getElem?_set]
      by_cases e : k * 2 + 1 = i
      · have e2 : i / 2 = k := by omega
        rw [if_pos e, if_pos (by rw [fcells_len]; omega), if_pos e2]
      · have e2 : i / 2 ≠ k := by omega
        rw [if_neg e, if_neg e2, show (fcells D fs)[i]? = (fcells D fs)[i / 2 * 2 + 1]? by congr 1; omega, j2]
  · rw [List.getElem?_eq_none (by rw [List.length_set, fcells_len]; omega), List.getElem?_eq_none (by rw [fcells_len]; omega)]
theorem fcells_src {w : World} {ad : Addr} {D : Nat → Value} {fs : List Fl} (h : ∀ i (hi : i < fs.length), w.cell? (ad.add (i * 2)) = some (.int .i64 fs[i].mode) ∧ w.cell? (ad.add (i * 2 + 1)) = some (D i)) : ∀ j u, (fcells D fs)[j]? = some u → w.cell? (ad.add j) = some u := fun j u hj => by
  have hl : j < (fcells D fs).length := (List.getElem?_eq_some_iff.1 hj).1
  rw [fcells_len] at hl
  obtain ⟨k1, k2⟩ := fcells_at D fs (j / 2) (by omega)
  obtain ⟨d1, d2⟩ := h (j / 2) (by omega)
  have h2 : j % 2 = 0 ∨ j % 2 = 1 := by omega
  rcases h2 with h2 | h2
  · have ej : j = j / 2 * 2 := by omega
    rw [ej, k1] at hj
    rw [← hj, show ad.add j = ad.add (j / 2 * 2) by rw [← ej]]
    exact d1
  · have ej : j = j / 2 * 2 + 1 := by omega
    rw [ej, k2] at hj
    rw [← hj, show ad.add j = ad.add (j / 2 * 2 + 1) by rw [← ej]]
    exact d2
theorem files_row {w : World} {FA : Option Addr} {fs : List Fl} (h : FilesAt w FA fs) : ∃ D : Nat → Value, (∀ i (hi : i < fs.length), ∃ DA dc, D i = .slice DA fs[i].data.length dc ∧ BytesAt w DA fs[i].data) ∧ ∀ ad, FA = some ad → ∀ j u, (fcells D fs)[j]? = some u → w.cell? (ad.add j) = some u := by
  have hc : ∀ i, ∃ v : Value, ∀ (hi : i < fs.length), ∃ DA dc, v = .slice DA fs[i].data.length dc ∧ BytesAt w DA fs[i].data ∧ ∀ ad, FA = some ad → w.cell? (ad.add (i * 2)) = some (.int .i64 fs[i].mode) ∧ w.cell? (ad.add (i * 2 + 1)) = some v := fun i => by
    by_cases hi : i < fs.length
    · obtain ⟨b, o, DA, dc, e, hl, h1, h2, h3⟩ := h i hi
      refine ⟨.slice DA fs[i].data.length dc, fun _ => ⟨DA, dc, rfl, h3, fun ad ha => ?_⟩⟩
      rw [e] at ha
      injection ha with ha
      subst ha
      rw [Addr.add_mid, Addr.add_mid]
      exact ⟨h1, by rw [← Nat.add_assoc]; exact h2⟩
    · exact ⟨undef, fun h => absurd h hi⟩
  have hD := fun i => Classical.choose_spec (hc i)
  refine ⟨fun i => Classical.choose (hc i), fun i hi => ?_, fun ad ha => fcells_src (fun i hi => ?_)⟩
  · obtain ⟨DA, dc, e, h1, _⟩ := hD i hi
    exact ⟨DA, dc, e, h1⟩
  · obtain ⟨DA, dc, e, h1, h2⟩ := hD i hi
    exact h2 ad ha
theorem fcells_one {D : Nat → Value} {fs : List Fl} (h : ∀ i, i < fs.length → (D i).oneCell' = true) : ∀ u ∈ fcells D fs, u.oneCell' = true := fun u hu => by
  unfold fcells at hu
  obtain ⟨i, hi, hx⟩ := List.mem_flatMap.1 hu
  simp at hx hi
  rcases hx with rfl | rfl
  · rfl
  · exact h i hi
theorem run_app_files (w : World) (ty : TypeId) (FA : Option Addr) (fc : Nat) (D : Nat → Value) (fs : List Fl) (hF : FilesAt w FA fs) (hs : ∀ ad, FA = some ad → ∀ j u, (fcells D fs)[j]? = some u → w.cell? (ad.add j) = some u) (ho : ∀ i, i < fs.length → (D i).oneCell' = true) (hb : fs.length ≤ 1000000) :
    ∃ v' w', (Builtin.append_ #[23, 23] ty #[.slice none 0 0, .slice FA fs.length fc]).run Try.prog w = .ok v' w' ∧ w'.ownsRow w.heap.size 57 2 v' fs.length (fcells D fs) ∧ w.grownBy w' none := by
  obtain ⟨i0, hi, hz0, hz1, hz2⟩ := info_parts file_info2
  have hnil : w.ownsRow w.heap.size 57 2 (.slice none 0 0) 0 [] := World.ownsRow_nil _ _ _ _
  cases FA with
  | none =>
    have hd0 : fs = [] := by
      cases fs with
      | nil => rfl
      | cons c t =>
        obtain ⟨b, o, DA, dc, e, _⟩ := hF 0 (by simp)
        cases e
    subst hd0
    exact ⟨_, w, run_append_none_cap w w.heap.size 23 ty 57 i0 2 Try.underlying23 hi (.slice none 0 0) 0 [] fc hnil, hnil, ⟨rfl, rfl, rfl, Nat.le_refl _, fun _ _ _ => rfl⟩⟩
  | some ad =>
    obtain ⟨v', w', h1, h2, h3, _⟩ := run_append_own (P := Try.prog) w w.heap.size 23 ty 57 i0 _ 2 32 Try.underlying23 hi hz0 hz1 hz2 rfl (by decide) (.slice none 0 0) 0 [] hnil ad fs.length fc (fcells D fs) (fcells_len D fs) (hs ad rfl) (fcells_one ho) (by unfold maxLen; omega) (by omega) (Nat.le_refl _)
    refine ⟨v', w', h1, ?_, h3⟩
    simpa using h2
/-- a copy of a tree of which the first j files' bytes are copied, too -/
structure CloneAt (w : World) (B : Nat) (vN vF : Value) (D0 D : Nat → Value) (ns : List Nd) (fs : List Fl) (j : Nat) : Prop where
  nodes : w.ownsRow B 54 3 vN ns.length (ncells ns)
  files : w.ownsRow B 57 2 vF fs.length (fcells (fun i => if i < j then D i else D0 i) fs)
  data : ∀ i, i < j → OwnB w B (D i) (fs.getD i ⟨0, []⟩).data
  apart : ∀ i k, i < k → k < j → ∀ b, (D i).ownBlock = some b → (D k).ownBlock ≠ some b
theorem clone_below {w w' : World} {B : Nat} {vN vF : Value} {D0 D : Nat → Value} {ns : List Nd} {fs : List Fl} {j : Nat} (h : CloneAt w B vN vF D0 D ns fs j) (hb : Below w.heap.size w w') : CloneAt w' B vN vF D0 D ns fs j where
  nodes := ownsRow_below h.nodes hb
  files := ownsRow_below h.files hb
  data := fun i hi => ownsRow_below (h.data i hi) hb
  apart := h.apart
theorem copy_below {w w' : World} {B : Nat} {vN vF : Value} {D : Nat → Value} {ns : List Nd} {fs : List Fl} (h : CopyAt w B vN vF D ns fs) (hb : Below w.heap.size w w') : CopyAt w' B vN vF D ns fs where
  nodes := ownsRow_below h.nodes hb
  files := ownsRow_below h.files hb
  data := fun i hi => ownsRow_below (h.data i hi) hb
  apart := h.apart
theorem clone_first {w : World} {B : Nat} {vN vF : Value} {D : Nat → Value} {ns : List Nd} {fs : List Fl} (h1 : w.ownsRow B 54 3 vN ns.length (ncells ns)) (h2 : w.ownsRow B 57 2 vF fs.length (fcells D fs)) : CloneAt w B vN vF D D ns fs 0 where
  nodes := h1
  files := by simpa using h2
  data := fun i hi => by omega
  apart := fun i k _ hk => by omega
theorem clone_last {w : World} {B : Nat} {vN vF : Value} {D0 D : Nat → Value} {ns : List Nd} {fs : List Fl} {j : Nat} (h : CloneAt w B vN vF D0 D ns fs j) (hj : fs.length = j) : CopyAt w B vN vF D ns fs where
  nodes := h.nodes
  files := by
    have := h.files
    rw [fcells_congr (D' := D) (fun i hi => by rw [if_pos (by omega)])] at this
    exact this
  data := fun i hi => h.data i (by omega)
  apart := fun i k hik hk => h.apart i k hik (by omega)
theorem clone_step {w w1 : World} {B g C : Nat} {vN v : Value} {D0 D : Nat → Value} {ns : List Nd} {fs : List Fl} {j : Nat} (h : CloneAt w B vN (.slice (some ⟨g, 0, none⟩) fs.length C) D0 D ns fs j) (hj : j < fs.length) (hB : B ≤ w.heap.size) (hb : Below w.heap.size w w1) (hv : OwnB w1 w.heap.size v fs[j].data) :
    CloneAt (w1.setCell ⟨g, j * 2 + 1, none⟩ v) B vN (.slice (some ⟨g, 0, none⟩) fs.length C) D0 (fun i => if i = j then v else D i) ns fs (j + 1) := by
  have c1 := clone_below h hb
  obtain ⟨s1, s2⟩ := c1.files.stored (j * 2 + 1) v
  obtain ⟨_, cs, hg⟩ := own_heap c1.files g rfl
  have ot : ∀ (t : TypeId) (r : Nat), t ≠ 57 → some g = some r → ∃ cs t', w1.heap[r]? = some (.cells cs t' (0, 0)) ∧ t' ≠ t := fun t r ht e => by
    injection e with e
    subst e
    exact ⟨cs, 57, hg, fun e => ht e.symm⟩
  refine ⟨c1.nodes.kept s2 (own_other c1.nodes (fun r e => ot 54 r (by decide) e)), ?_, fun i hi => ?_, fun i k hik hk b hb1 hb2 => ?_⟩
  · rw [fcells_put _ _ _ _ hj] at s1
    rw [fcells_congr (D' := fun i => if i = j then v else if i < j then D i else D0 i) (fun i hi => ?_)]
    · exact s1
    · by_cases e : i = j
      · rw [if_pos (by omega), if_pos e, if_pos e]
      · rw [if_neg e, if_neg e]
        by_cases e2 : i < j
        · rw [if_pos (by omega), if_pos e2]
        · rw [if_neg (by omega), if_neg e2]
  · by_cases e : i = j
    · subst e
      rw [if_pos rfl]
      have e2 : (fs.getD i ⟨0, []⟩).data = fs[i].data := by simp [List.getD_eq_getElem?_getD, List.getElem?_eq_getElem hj]
      rw [e2]
      exact World.ownsRow.mono (World.ownsRow.kept hv s2 (own_other hv (fun r e => ot 5 r (by decide) e))) hB
    · rw [if_neg e]
      exact World.ownsRow.kept (c1.data i (by omega)) s2 (own_other (c1.data i (by omega)) (fun r e => ot 5 r (by decide) e))
  · by_cases e : k = j
    · subst e
      rw [if_pos rfl] at hb2
      rw [if_neg (by omega)] at hb1
      have h5 := (own_heap hv b hb2).1
      obtain ⟨cs, h6⟩ := (own_heap (h.data i hik) b hb1).2
      have := (Array.getElem?_eq_some_iff.1 h6).1
      omega
    · rw [if_neg e] at hb2
      rw [if_neg (by omega)] at hb1
      exact h.apart i k hik (by omega) b hb1 hb2
end Go.Proofs.Ytjagddhkoacipaa
