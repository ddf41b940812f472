/-
What is proved here: the worlds in which the document's own Canon numbers the files.
-/
import Derived.Test.YtjagddhkoacipaaRc1M
import Derived.Test.YtjagddhkoacipaaCl3M
set_option linter.unusedSimpArgs false
set_option linter.unusedVariables false
namespace Go.Tre
open Go.Pth Go.Op
theorem canon_bad {us : List Nd} {gs : List Fl} (x : Nd) (hx : x ∈ us) (h : x.file ≠ -1) (hf : hasF gs.length x = false) : canonE us gs ≠ 0 := by
  unfold canonE
  split
  · decide
  · intro h0
    have h1 : x ∈ canonN us gs := setA_mem _ x hf _ _ ((sortI_perm us).symm.subset hx)
    have h2 : (canonF us gs).length ≤ gs.length := setF_len _ _
    have h4 := of_decide_eq_false hf
    rcases loose_files h0 x h1 with h3 | h3
    · exact h h3
    · omega
theorem setN_path2 {m : Nat} {ms : List Nd} {x : Nd} (h : x ∈ setN m ms) : ∃ y ∈ ms, y.path = x.path := by
  have h1 : x.path ∈ (setN m ms).map (·.path) := List.mem_map.2 ⟨x, h, rfl⟩
  unfold setN at h1
  rw [setA_path] at h1
  obtain ⟨y, hy, e⟩ := List.mem_map.1 h1
  exact ⟨y, hy, e⟩
theorem canon_end {ns : List Nd} {fs : List Fl} (ht : tooB ns.length fs = false) : canonE ns fs = if looseB (canonN ns fs) (canonF ns fs) = true then 0 else 30 := by
  unfold canonE
  rw [if_neg (by simp [ht])]
  have h := set_small (fs := fs) (sortI ns) (sortI_len ns) ht
  unfold looseE
  have h2 : tooB (canonN ns fs).length (canonF ns fs) = false := h
  rw [h2]
  rfl
end Go.Tre
namespace Go.Proofs.Ytjagddhkoacipaa
open Go.Pth Go.Tre Go.RowKit Go.Word Go.Shelf
theorem int_info : (Try.prog.info? 3).map (fun i => (i.zero, i.size, i.bytes)) = some (some (.int .i64 0), 1, 8) := by kernel_rfl
theorem made_ints (n : Nat) (h : n ≤ 3000000) (W : World) : (Instr.makeSlice 77 (.int .i64 (n : Int)) (.int .i64 (n : Int))).run Try.prog W =
    .ok (.slice (some ⟨W.heap.size, 0, none⟩) n n) (W.alloc (.cells (madeCells #[.int .i64 0] n) 3)) := by
  obtain ⟨i, hi, hz0, hz1, hz2⟩ := info_parts int_info
  have := run_makeSlice (P := Try.prog) W 77 3 i (.int .i64 0) Try.underlying77 hi hz0 .i64 .i64 (n : Int) (n : Int) (by omega) (by omega) (by rw [hz1]; omega) (by rw [hz2]; omega) (by omega)
  rw [this, hz1, Int.toNat_natCast, Nat.mul_one]
  rfl
theorem made_row (n : Nat) (h : n ≤ 3000000) (W : World) (B : Nat) (hB : B ≤ W.heap.size) : (W.alloc (.cells (madeCells #[.int .i64 0] n) 3)).ownsRow B 3 1 (.slice (some ⟨W.heap.size, 0, none⟩) n n) n (toZ n 0) := by
  have := World.ownsRow_lit (base := B) (e := 3) (size := 1) W (madeCells #[.int .i64 0] n) n hB (by unfold maxLen; omega) (by simp [madeCells])
  rw [toList_madeCells_one] at this
  rw [toZ_first]
  exact this
section
variable {w : World} {B m n g C T RT j : Nat} {vF vT : Value} {D : Nat → Value} {ms : List Nd} {gs : List Fl} {rs : List Value}
/-- the node's new number is stored -/
theorem ref_step {q : Nat} (CC : CopyAt w B (.slice (some ⟨g, 0, none⟩) n C) vF D (cur m ms j) gs) (RR : w.ownsRow B 3 1 vT m rs) (LL : Lies w T 25 #[.slice (some ⟨g, 0, none⟩) n C, vF]) (hn : n = ms.length) (hj : j < ms.length) (hh : hasF m ms[j] = true) (hq : q = (ordF m (ms.take (j + 1))).idxOf ms[j].file) :
    CopyAt (w.setCell ⟨g, j * 3 + 1, none⟩ (.int .i64 (q : Int))) B (.slice (some ⟨g, 0, none⟩) n C) vF D (cur m ms (j + 1)) gs ∧ (w.setCell ⟨g, j * 3 + 1, none⟩ (.int .i64 (q : Int))).ownsRow B 3 1 vT m rs ∧ Lies (w.setCell ⟨g, j * 3 + 1, none⟩ (.int .i64 (q : Int))) T 25 #[.slice (some ⟨g, 0, none⟩) n C, vF] := by
  subst hn
  have hl : (cur m ms j).length = ms.length := cur_len m ms j
  have hN := CC.nodes
  rw [hl] at hN
  obtain ⟨s1, s2⟩ := hN.stored (j * 3 + 1) (.int .i64 (q : Int))
  obtain ⟨_, cs, hg⟩ := own_heap hN g rfl
  have e := ncells_set 1 (.int .i64 (q : Int)) (fun _ => numT m (ordF m (ms.take (j + 1))) ms[j]) (by decide) (cur m ms j) j (by rw [cur_len]; exact hj) (by
    rw [cur_get hj]
    unfold numT
    rw [if_pos hh, hq]
    rfl)
  rw [e, ← cur_step hj] at s1
  have hl1 : (cur m ms (j + 1)).length = ms.length := cur_len m ms (j + 1)
  refine ⟨copy_nodes_turned CC (by rw [hl1]; exact s1) s2, RR.kept s2 (own_other RR (fun r e => by injection e with e; subst e; exact ⟨cs, 54, hg, by decide⟩)), ?_⟩
  refine lies_far (p := ⟨g, j * 3 + 1, none⟩) LL (fun e => ?_) _
  have e : T = g := e
  subst e
  have h1 := (show _ = _ from LL).symm.trans hg
  injection h1 with h1
  injection h1 with _ h2 _
  exact absurd h2 (by decide)
/-- a file's new number is kept -/
theorem ref_to {vN : Value} {us : List Nd} {f : Nat} (o : List Int) (CC : CopyAt w B vN vF D us gs) (RR : w.ownsRow B 3 1 (.slice (some ⟨RT, 0, none⟩) m m) m (toL m o)) (LL : Lies w T 25 #[vN, vF]) (hf : f < m) (hno : (f : Int) ∉ o) :
    CopyAt (w.setCell ⟨RT, f, none⟩ (.int .i64 (o.length : Nat))) B vN vF D us gs ∧ (w.setCell ⟨RT, f, none⟩ (.int .i64 (o.length : Nat))).ownsRow B 3 1 (.slice (some ⟨RT, 0, none⟩) m m) m (toL m (o ++ [(f : Int)])) ∧ Lies (w.setCell ⟨RT, f, none⟩ (.int .i64 (o.length : Nat))) T 25 #[vN, vF] := by
  obtain ⟨s1, s2⟩ := RR.stored f (.int .i64 (o.length : Nat))
  obtain ⟨_, cs, hg⟩ := own_heap RR RT rfl
  rw [toL_new m o f hf hno] at s1
  refine ⟨copy_kept CC s2 (fun r e => by injection e with e; subst e; exact ⟨cs, 3, hg, by decide, by decide, by decide⟩), s1, ?_⟩
  refine lies_far (p := ⟨RT, f, none⟩) LL (fun e => ?_) _
  have e : T = RT := e
  subst e
  have h1 := (show _ = _ from LL).symm.trans hg
  injection h1 with h1
  injection h1 with _ h2 _
  exact absurd h2 (by decide)
theorem ref_lay {vN : Value} {us : List Nd} {i : Nat} (CC : CopyAt w B vN vF D us gs) (RR : w.ownsRow B 3 1 (.slice (some ⟨RT, 0, none⟩) m m) m (toZ m i)) (LL : Lies w T 25 #[vN, vF]) (hi : i < m) :
    CopyAt (w.setCell ⟨RT, i, none⟩ (.int .i64 (-1))) B vN vF D us gs ∧ (w.setCell ⟨RT, i, none⟩ (.int .i64 (-1))).ownsRow B 3 1 (.slice (some ⟨RT, 0, none⟩) m m) m (toZ m (i + 1)) ∧ Lies (w.setCell ⟨RT, i, none⟩ (.int .i64 (-1))) T 25 #[vN, vF] := by
  obtain ⟨s1, s2⟩ := RR.stored i (.int .i64 (-1))
  obtain ⟨_, cs, hg⟩ := own_heap RR RT rfl
  rw [toZ_step m i hi] at s1
  refine ⟨copy_kept CC s2 (fun r e => by injection e with e; subst e; exact ⟨cs, 3, hg, by decide, by decide, by decide⟩), s1, ?_⟩
  refine lies_far (p := ⟨RT, i, none⟩) LL (fun e => ?_) _
  have e : T = RT := e
  subst e
  have h1 := (show _ = _ from LL).symm.trans hg
  injection h1 with h1
  injection h1 with _ h2 _
  exact absurd h2 (by decide)
set_option maxRecDepth 100000 in
/-- one file more -/
theorem file_worlds {vN : Value} {us : List Nd} (DA : Option Addr) (dc : Nat) (d : Bt) (md : Int) (CC : CopyAt w B vN vF D us gs) (LL : Lies w T 25 #[vN, vF]) (hB : B ≤ w.heap.size) (hT : B ≤ T) (hd : BytesAt w DA d) (hl : d.length ≤ 40000) (hg : gs.length ≤ 300) :
    ∃ Ad Cd Z1, (Builtin.append_ #[37, 37] 37 #[.slice none 0 0, .slice DA d.length dc]).run Try.prog w.drew = .ok (.slice Ad d.length Cd) Z1 ∧
    ∃ Ag Cg Z3, (Builtin.append_ #[23, 23] 23 #[vF, .slice (some ⟨Z1.heap.size, 0, none⟩) 1 1]).run Try.prog (Z1.alloc (.cells #[.int .i64 md, .slice Ad d.length Cd] 57)) = .ok (.slice Ag (gs.length + 1) Cg) Z3 ∧
      Lies Z1 T 25 #[vN, vF] ∧ Lies (Z1.alloc (.cells #[.int .i64 md, .slice Ad d.length Cd] 57)) T 25 #[vN, vF] ∧ Lies Z3 T 25 #[vN, vF] ∧ Lies (Z3.setCell ⟨T, 1, none⟩ (.slice Ag (gs.length + 1) Cg)) T 25 #[vN, .slice Ag (gs.length + 1) Cg] ∧
      (∃ D', CopyAt (Z3.setCell ⟨T, 1, none⟩ (.slice Ag (gs.length + 1) Cg)) B vN (.slice Ag (gs.length + 1) Cg) D' us (gs ++ [⟨md, d⟩])) ∧ Below B w Z1 ∧ Below B w (Z1.alloc (.cells #[.int .i64 md, .slice Ad d.length Cd] 57)) ∧ Below B w Z3 ∧ Below B w (Z3.setCell ⟨T, 1, none⟩ (.slice Ag (gs.length + 1) Cg)) ∧
      (∀ v k xs, w.ownsRow B 3 1 v k xs → (Z3.setCell ⟨T, 1, none⟩ (.slice Ag (gs.length + 1) Cg)).ownsRow B 3 1 v k xs) := by
  obtain ⟨i1, hj, hj0, hj1, hj2⟩ := info_parts file_info2
  obtain ⟨vD, Z1, hr1, ho1, hg1⟩ := run_app_fresh w.drew 37 DA dc d (bytesAt_below hd ((Below.refl w.heap.size w).drew)) (by omega)
  obtain ⟨Ad, Cd, rfl⟩ := own_slice ho1
  have cj := copy_kept CC (row := none) (w' := w.drew) ⟨rfl, rfl, rfl, Nat.le_refl _, fun _ _ _ => rfl⟩ (fun r e => by cases e)
  have c1 := copy_kept cj hg1 (fun r e => by cases e)
  have c2 := copy_kept c1 (World.grownBy_alloc Z1 (.cells #[.int .i64 md, (.slice Ad d.length Cd)] 57) none) (fun r e => by cases e)
  have LZ2 := lies_new Z1 57 #[.int .i64 md, (.slice Ad d.length Cd)]
  have zs : B ≤ Z1.heap.size := Nat.le_trans hB hg1.size
  obtain ⟨vG, Z3, hr3, ho3, hg3, _⟩ := run_append_own (P := Try.prog) (Z1.alloc (.cells #[.int .i64 md, (.slice Ad d.length Cd)] 57)) B 23 23 57 i1 _ 2 32 Try.underlying23 hj hj0 hj1 hj2 rfl (by decide) vF gs.length (fcells D gs) c2.files ⟨Z1.heap.size, 0, none⟩ 1 1 [.int .i64 md, (.slice Ad d.length Cd)] rfl (fun q u hq => by
    match q, hq with
    | 0, hq => injection hq with hq; subst hq; exact lies_cell LZ2 0
    | 1, hq => injection hq with hq; subst hq; exact lies_cell LZ2 1
    | q + 2, hq => simp at hq) (fun u hu => by simp at hu; rcases hu with h | h <;> subst h <;> rfl) (by unfold maxLen; omega) (by omega) (by simp; omega)
  obtain ⟨Ag, Cg, rfl⟩ := own_slice ho3
  have c3 := copy_step cj (Nat.le_trans hB (Nat.le_refl _)) ho1 hg1 rfl ho3 hg3
  have l1 : Lies Z1 T 25 #[vN, vF] := (hg1.block T (lies_lt LL) (by simp)).trans LL
  have l2 := lies_alloc l1 (.cells #[.int .i64 md, (.slice Ad d.length Cd)] 57)
  have ne : vF.ownBlock ≠ some T := fun e => by
    obtain ⟨_, cs, h⟩ := own_heap c2.files T e
    rw [show _ = _ from l2] at h
    injection h with h
    injection h with _ h _
    cases h
  have l3 : Lies Z3 T 25 #[vN, vF] := (hg3.block T (lies_lt l2) (fun e => ne e.symm)).trans l2
  have l4 : Lies (Z3.setCell ⟨T, 1, none⟩ (.slice Ag (gs.length + 1) Cg)) T 25 #[vN, (.slice Ag (gs.length + 1) Cg)] := lies_set l3 1 (.slice Ag (gs.length + 1) Cg)
  have c4 := copy_kept c3 (grown_setCell Z3 T 1 (.slice Ag (gs.length + 1) Cg)) (fun r e => by injection e with e; subst e; exact ⟨_, 25, l3, by decide, by decide, by decide⟩)
  have b0 : Below B w w.drew := (Below.refl B w).drew
  have b1 : Below B w Z1 := b0.grown hg1 hB (fun k e => by cases e)
  have b2 : Below B w (Z1.alloc (.cells #[.int .i64 md, (.slice Ad d.length Cd)] 57)) := b1.alloc zs _
  have b3 : Below B w Z3 := b2.grown hg3 (Nat.le_trans zs (by simp)) (fun k e => (own_heap c2.files k e).1)
  have b4 : Below B w (Z3.setCell ⟨T, 1, none⟩ (.slice Ag (gs.length + 1) Cg)) := below_setCell b3 hT _
  refine ⟨Ad, Cd, Z1, hr1, Ag, Cg, Z3, hr3, l1, l2, l3, l4, ⟨_, c4⟩, b1, b2, b3, b4, fun v k xs h => ?_⟩
  have h1 := h.kept (w' := Z1) (row := none) ⟨hg1.os, hg1.tape, hg1.output, hg1.size, hg1.block⟩ (by cases v.ownBlock <;> simp)
  have h2 := h1.kept (World.grownBy_alloc Z1 (.cells #[.int .i64 md, (.slice Ad d.length Cd)] 57) none) (by cases v.ownBlock <;> simp)
  have h3 := h2.kept hg3 (own_other h2 (fun r e => by obtain ⟨_, cs, h⟩ := own_heap c2.files r e; exact ⟨cs, 57, h, by decide⟩))
  exact h3.kept (grown_setCell Z3 T 1 (.slice Ag (gs.length + 1) Cg)) (own_other h3 (fun r e => by injection e with e; subst e; exact ⟨_, 25, l3, by decide⟩))
end
end Go.Proofs.Ytjagddhkoacipaa
