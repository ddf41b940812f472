/-
What is proved here: the law TreeUnnamed, by a contract.
-/
import Derived.Test.YtaanihmbnjjhcaaCanM
import Derived.Test.YtaanihmbnjjhcaaMa7
import Derived.Test.YtaanihmbnjjhcaaMa10
import Derived.Test.YtaanihmbnjjhcaaMa12
import Derived.Test.YtaanihmbnjjhcaaMa1
set_option linter.unusedSimpArgs false
set_option linter.unusedVariables false
namespace Go.Tre
open Go.Pth Go.Op
/-- the files that no node names -/
def moreF (r : Nat) : List Fl := (List.range r).map fun k => ⟨-5, [UInt8.ofNat k]⟩
theorem moreF_len (r : Nat) : (moreF r).length = r := by unfold moreF; simp
theorem moreF_succ (r : Nat) : moreF (r + 1) = moreF r ++ [⟨-5, [UInt8.ofNat r]⟩] := by unfold moreF; rw [List.range_succ, List.map_append]; rfl
theorem moreF_small (r : Nat) : ∀ x ∈ moreF r, x.data.length ≤ 8192 := fun x hx => by
  unfold moreF at hx
  obtain ⟨k, _, rfl⟩ := List.mem_map.1 hx
  simp
theorem tooB_of {n : Nat} {fs : List Fl} (h1 : n ≤ 256) (h2 : fs.length ≤ 256) (h3 : ∀ x ∈ fs, x.data.length ≤ 8192) : tooB n fs = false := by
  unfold tooB anyGreat
  simp only [Bool.or_eq_false_iff, decide_eq_false_iff_not, List.any_eq_false, decide_eq_true_eq]
  exact ⟨by omega, by omega, fun x hx => by have := h3 x hx; omega⟩
end Go.Tre
namespace Go.Proofs.Ytaanihmbnjjhcaa
open Go.Pth Go.Tre Go.RowKit Go.Word Go.Shelf
attribute [local go_sem] guard_eq guard_ne st_eql st_neq

set_option maxRecDepth 100000 in
/-- a file of one byte comes to the copy -/
theorem copy_one {w : World} {B T : Nat} {vN vF : Value} {D : Nat → Value} {ns : List Nd} {fs : List Fl} (c : UInt8) (h : CopyAt w B vN vF D ns fs) (hL : Lies w T 25 #[vN, vF]) (hB : B ≤ w.heap.size) (hT : B ≤ T) (hl : fs.length ≤ 1000) :
    ∃ A C Z D', (Builtin.append_ #[23, 23] 23 #[vF, .slice (some ⟨w.heap.size + 1, 0, none⟩) 1 1]).run Try.prog ((w.alloc (.cells #[.int .u8 (c.toNat : Int)] 5)).alloc (.cells #[.int .i64 (-5), .slice (some ⟨w.heap.size, 0, none⟩) 1 1] 42)) = .ok (.slice A (fs.length + 1) C) Z ∧
      CopyAt (Z.setCell ⟨T, 1, none⟩ (.slice A (fs.length + 1) C)) B vN (.slice A (fs.length + 1) C) D' ns (fs ++ [⟨-5, [c]⟩]) ∧ Lies (Z.setCell ⟨T, 1, none⟩ (.slice A (fs.length + 1) C)) T 25 #[vN, .slice A (fs.length + 1) C] ∧ Lies Z T 25 #[vN, vF] ∧ Below B w (Z.setCell ⟨T, 1, none⟩ (.slice A (fs.length + 1) C)) := by
  obtain ⟨i1, hj, hj0, hj1, hj2⟩ := info_parts file_info2
  have g1 : w.grownBy (w.alloc (.cells #[.int .u8 (c.toNat : Int)] 5)) none := World.grownBy_alloc w _ none
  have o1 : OwnB (w.alloc (.cells #[.int .u8 (c.toNat : Int)] 5)) w.heap.size (.slice (some ⟨w.heap.size, 0, none⟩) 1 1) [c] := World.ownsRow_lit (base := w.heap.size) (size := 1) w #[.int .u8 (c.toNat : Int)] 1 (Nat.le_refl _) (by decide) rfl
  have c1 := copy_kept h g1 (fun r e => by cases e)
  have g2 := World.grownBy_alloc (w.alloc (.cells #[.int .u8 (c.toNat : Int)] 5)) (.cells #[.int .i64 (-5), .slice (some ⟨w.heap.size, 0, none⟩) 1 1] 42) none
  have c2 := copy_kept c1 g2 (fun r e => by cases e)
  have LZ := lies_new (w.alloc (.cells #[.int .u8 (c.toNat : Int)] 5)) 42 #[.int .i64 (-5), .slice (some ⟨w.heap.size, 0, none⟩) 1 1]
  rw [World.size_alloc] at LZ
  obtain ⟨vG, Z, hr, ho, hg, _⟩ := run_append_own (P := Try.prog) ((w.alloc (.cells #[.int .u8 (c.toNat : Int)] 5)).alloc (.cells #[.int .i64 (-5), .slice (some ⟨w.heap.size, 0, none⟩) 1 1] 42)) B 23 23 42 i1 _ 2 32 Try.underlying23 hj hj0 hj1 hj2 rfl (by decide) vF fs.length (fcells D fs) c2.files ⟨w.heap.size + 1, 0, none⟩ 1 1 [.int .i64 (-5), .slice (some ⟨w.heap.size, 0, none⟩) 1 1] rfl (fun q u hq => by
    match q, hq with
    | 0, hq => injection hq with hq; subst hq; exact lies_cell LZ 0
    | 1, hq => injection hq with hq; subst hq; exact lies_cell LZ 1
    | q + 2, hq => simp at hq) (fun u hu => by simp at hu; rcases hu with h | h <;> subst h <;> rfl) (by unfold maxLen; omega) (by omega) (by simp; omega)
  obtain ⟨A, C, rfl⟩ := own_slice ho
  have c3 := copy_step h hB o1 g1 rfl ho hg
  have l1 := lies_alloc (lies_alloc hL (.cells #[.int .u8 (c.toNat : Int)] 5)) (.cells #[.int .i64 (-5), .slice (some ⟨w.heap.size, 0, none⟩) 1 1] 42)
  have l3 : Lies Z T 25 #[vN, vF] := (hg.block T (lies_lt l1) (fun e => by
    obtain ⟨_, cs, h4⟩ := own_heap c2.files T e.symm
    have h5 := (show _ = _ from l1).symm.trans h4
    injection h5 with h5
    injection h5 with _ h6 _
    exact absurd h6 (by decide))).trans l1
  have b2 : Below B w ((w.alloc (.cells #[.int .u8 (c.toNat : Int)] 5)).alloc (.cells #[.int .i64 (-5), .slice (some ⟨w.heap.size, 0, none⟩) 1 1] 42)) := ((Below.refl _ _).alloc hB _).alloc (by simp; omega) _
  have b3 : Below B w Z := b2.grown hg (Nat.le_trans hB b2.size) (fun k e => (own_heap c2.files k e).1)
  exact ⟨A, C, Z, _, hr, copy_kept c3 (grown_setCell Z T 1 _) (fun r e => by injection e with e; subst e; exact ⟨_, 25, l3, by decide, by decide, by decide⟩), lies_set l3 1 _, l3, below_setCell b3 hT _⟩
set_option maxRecDepth 100000 in
/-- a node comes to the copy -/
theorem node_one {w : World} {B T : Nat} {vN vF : Value} {D : Nat → Value} {ns : List Nd} {fs : List Fl} (x : Nd) (h : CopyAt w B vN vF D ns fs) (hL : Lies w T 25 #[vN, vF]) (hB : B ≤ w.heap.size) (hT : B ≤ T) (hl : ns.length ≤ 1000) :
    ∃ A C Z, (Builtin.append_ #[22, 22] 22 #[vN, .slice (some ⟨w.heap.size, 0, none⟩) 1 1]).run Try.prog (w.alloc (.cells #[St x.path, .int .i64 x.file, .int .i64 x.mode] 39)) = .ok (.slice A (ns.length + 1) C) Z ∧
      CopyAt (Z.setCell ⟨T, 0, none⟩ (.slice A (ns.length + 1) C)) B (.slice A (ns.length + 1) C) vF D (ns ++ [x]) fs ∧ Lies (Z.setCell ⟨T, 0, none⟩ (.slice A (ns.length + 1) C)) T 25 #[.slice A (ns.length + 1) C, vF] ∧ Lies Z T 25 #[vN, vF] ∧ Below B w (Z.setCell ⟨T, 0, none⟩ (.slice A (ns.length + 1) C)) := by
  obtain ⟨i1, hj, hj0, hj1, hj2⟩ := info_parts node_info3
  have g1 := World.grownBy_alloc w (.cells #[St x.path, .int .i64 x.file, .int .i64 x.mode] 39) none
  have c2 := copy_kept h g1 (fun r e => by cases e)
  have LZ := lies_new w 39 #[St x.path, .int .i64 x.file, .int .i64 x.mode]
  obtain ⟨vG, Z, hr, ho, hg, _⟩ := run_append_own (P := Try.prog) (w.alloc (.cells #[St x.path, .int .i64 x.file, .int .i64 x.mode] 39)) B 22 22 39 i1 _ 3 32 Try.underlying22 hj hj0 hj1 hj2 rfl (by decide) vN ns.length (ncells ns) c2.nodes ⟨w.heap.size, 0, none⟩ 1 1 [St x.path, .int .i64 x.file, .int .i64 x.mode] rfl (fun q u hq => by
    match q, hq with
    | 0, hq => injection hq with hq; subst hq; exact lies_cell LZ 0
    | 1, hq => injection hq with hq; subst hq; exact lies_cell LZ 1
    | 2, hq => injection hq with hq; subst hq; exact lies_cell LZ 2
    | q + 3, hq => simp at hq) (fun u hu => by simp at hu; rcases hu with h | h | h <;> subst h <;> rfl) (by unfold maxLen; omega) (by omega) (by simp; omega)
  obtain ⟨A, C, rfl⟩ := own_slice ho
  have ho2 : Z.ownsRow B 39 3 (.slice A (ns.length + 1) C) (ns ++ [x]).length (ncells (ns ++ [x])) := by
    have e : ncells (ns ++ [x]) = ncells ns ++ [St x.path, .int .i64 x.file, .int .i64 x.mode] := by unfold ncells; rw [List.flatMap_append]; rfl
    rw [List.length_append, e]
    exact ho
  have c3 := copy_nodes_turned (ns' := ns ++ [x]) c2 ho2 hg
  have l1 := lies_alloc hL (.cells #[St x.path, .int .i64 x.file, .int .i64 x.mode] 39)
  have l3 : Lies Z T 25 #[vN, vF] := (hg.block T (lies_lt l1) (fun e => by
    obtain ⟨_, cs, h4⟩ := own_heap c2.nodes T e.symm
    have h5 := (show _ = _ from l1).symm.trans h4
    injection h5 with h5
    injection h5 with _ h6 _
    exact absurd h6 (by decide))).trans l1
  have b2 : Below B w (w.alloc (.cells #[St x.path, .int .i64 x.file, .int .i64 x.mode] 39)) := (Below.refl _ _).alloc hB _
  have b3 : Below B w Z := b2.grown hg (Nat.le_trans hB b2.size) (fun k e => (own_heap c2.nodes k e).1)
  exact ⟨A, C, Z, hr, copy_kept c3 (grown_setCell Z T 0 _) (fun r e => by injection e with e; subst e; exact ⟨_, 25, l3, by decide, by decide, by decide⟩), lies_set l3 0 _, l3, below_setCell b3 hT _⟩
end Go.Proofs.Ytaanihmbnjjhcaa
