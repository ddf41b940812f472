/-
What is proved here: rows of nodes and of files of the call's own, as a tree; nodes that come one by one.
-/
import Derived.Test.YtaanihmbnjjhcaaUn1M
set_option linter.unusedSimpArgs false
set_option linter.unusedVariables false
namespace Go.Tre
open Go.Pth Go.Op
/-- the first i of a list turned round -/
def turnedTo (l : List Nd) (r i : Nat) : List Nd := (List.range i).map fun k => l.getD ((k + r) % l.length) ⟨[], 0, 0⟩
theorem turnedTo_len (l : List Nd) (r i : Nat) : (turnedTo l r i).length = i := by unfold turnedTo; simp
theorem turnedTo_all (l : List Nd) (r : Nat) : turnedTo l r l.length = turned l r := rfl
theorem turnedTo_succ (l : List Nd) (r i : Nat) : turnedTo l r (i + 1) = turnedTo l r i ++ [l.getD ((i + r) % l.length) ⟨[], 0, 0⟩] := by
  unfold turnedTo
  rw [List.range_succ, List.map_append]
  rfl
theorem back_get (ns : List Nd) (m k : Nat) (h : k < ns.length) : (ns.map (renT (backN m))).getD k ⟨[], 0, 0⟩ = renT (backN m) ns[k] := by
  rw [List.getD_eq_getElem?_getD, List.getElem?_map, List.getElem?_eq_getElem h]
  rfl
end Go.Tre
namespace Go.Proofs.Ytaanihmbnjjhcaa
open Go.Pth Go.Tre Go.RowKit Go.Word Go.Shelf
theorem lies_range3 {w : World} {g : Nat} {t : TypeId} {x y z : Value} (h : Lies w g t #[x, y, z]) : w.rangeAt g 0 [x, y, z] := fun j u hj => by
  match j, hj with
  | 0, hj => injection hj with hj; subst hj; exact lies_cell h 0
  | 1, hj => injection hj with hj; subst hj; exact lies_cell h 1
  | 2, hj => injection hj with hj; subst hj; exact lies_cell h 2
theorem nodes_row {w : World} {B : Nat} {A : Option Addr} {C n : Nat} {ns : List Nd} (h : w.ownsRow B 39 3 (.slice A n C) ns.length (ncells ns)) : NodesAt w A ns := fun i hi => by
  rcases h.2 with ⟨e, h0⟩ | ⟨g, cap, cur, e, hg, hb, _⟩
  · omega
  · have hn : w.ownsRow B 39 3 (.slice (some ⟨g, 0, none⟩) ns.length cap) ns.length (ncells ns) := by rw [← e]; exact h
    injection e with e1 _ _
    obtain ⟨k1, k2, k3⟩ := ncells_at ns i hi
    refine ⟨g, 0, e1, (Array.getElem?_eq_some_iff.1 hb).1, ?_⟩
    rw [Nat.zero_add, hn.cellAt _ (by omega), hn.cellAt _ (by omega), hn.cellAt _ (by omega)]
    exact ⟨k1, k2, k3⟩
theorem files_at {w : World} {B : Nat} {A : Option Addr} {C n : Nat} {D : Nat → Value} {fs : List Fl} (h : w.ownsRow B 42 2 (.slice A n C) fs.length (fcells D fs)) (hd : ∀ i (hi : i < fs.length), ∃ DA dc, D i = .slice DA fs[i].data.length dc ∧ BytesAt w DA fs[i].data) : FilesAt w A fs := fun i hi => by
  rcases h.2 with ⟨e, h0⟩ | ⟨g, cap, cur, e, hg, hb, _⟩
  · omega
  · have hn : w.ownsRow B 42 2 (.slice (some ⟨g, 0, none⟩) fs.length cap) fs.length (fcells D fs) := by rw [← e]; exact h
    injection e with e1 _ _
    obtain ⟨k1, k2⟩ := fcells_at D fs i hi
    obtain ⟨DA, dc, e2, e3⟩ := hd i hi
    refine ⟨g, 0, DA, dc, e1, (Array.getElem?_eq_some_iff.1 hb).1, ?_, ?_, e3⟩
    · rw [Nat.zero_add, hn.cellAt _ (by omega), k1]
    · rw [Nat.zero_add, hn.cellAt _ (by omega), k2, e2]
set_option maxRecDepth 100000 in
/-- a node comes to a row of nodes -/
theorem row_node {w : World} {B T : Nat} {vN vF : Value} {ns : List Nd} (x : Nd) (h : w.ownsRow B 39 3 vN ns.length (ncells ns)) (hL : Lies w T 25 #[vN, vF]) (hB : B ≤ w.heap.size) (hT : B ≤ T) (hl : ns.length ≤ 1000) :
    ∃ A C Z, (Builtin.append_ #[22, 22] 22 #[vN, .slice (some ⟨w.heap.size, 0, none⟩) 1 1]).run Try.prog (w.alloc (.cells #[St x.path, .int .i64 x.file, .int .i64 x.mode] 39)) = .ok (.slice A (ns.length + 1) C) Z ∧
      (Z.setCell ⟨T, 0, none⟩ (.slice A (ns.length + 1) C)).ownsRow B 39 3 (.slice A (ns.length + 1) C) (ns ++ [x]).length (ncells (ns ++ [x])) ∧ Lies (Z.setCell ⟨T, 0, none⟩ (.slice A (ns.length + 1) C)) T 25 #[.slice A (ns.length + 1) C, vF] ∧ Lies Z T 25 #[vN, vF] ∧ Below B w (Z.setCell ⟨T, 0, none⟩ (.slice A (ns.length + 1) C)) := by
  obtain ⟨i1, hj, hj0, hj1, hj2⟩ := info_parts node_info3
  have h2 : (w.alloc (.cells #[St x.path, .int .i64 x.file, .int .i64 x.mode] 39)).ownsRow B 39 3 vN ns.length (ncells ns) := h.alloc _
  have LZ := lies_new w 39 #[St x.path, .int .i64 x.file, .int .i64 x.mode]
  obtain ⟨vG, Z, hr, ho, hg, _⟩ := run_append_own (P := Try.prog) (w.alloc (.cells #[St x.path, .int .i64 x.file, .int .i64 x.mode] 39)) B 22 22 39 i1 _ 3 32 Try.underlying22 hj hj0 hj1 hj2 rfl (by decide) vN ns.length (ncells ns) h2 ⟨w.heap.size, 0, none⟩ 1 1 [St x.path, .int .i64 x.file, .int .i64 x.mode] rfl (fun q u hq => by
    match q, hq with
    | 0, hq => injection hq with hq; subst hq; exact lies_cell LZ 0
    | 1, hq => injection hq with hq; subst hq; exact lies_cell LZ 1
    | 2, hq => injection hq with hq; subst hq; exact lies_cell LZ 2
    | q + 3, hq => simp at hq) (fun u hu => by simp at hu; rcases hu with h | h | h <;> subst h <;> rfl) (by unfold maxLen; omega) (by omega) (by simp; omega)
  obtain ⟨A, C, rfl⟩ := own_slice ho
  have ho2 : Z.ownsRow B 39 3 (.slice A (ns.length + 1) C) (ns ++ [x]).length (ncells (ns ++ [x])) := by
    have e : ncells (ns ++ [x]) = ncells ns ++ [St x.path, .int .i64 x.file, .int .i64 x.mode] := by unfold ncells; rw [List.flatMap_append]; rfl
    rw [List.length_append, e]
    exact ho
  have l1 := lies_alloc hL (.cells #[St x.path, .int .i64 x.file, .int .i64 x.mode] 39)
  have l3 : Lies Z T 25 #[vN, vF] := (hg.block T (lies_lt l1) (fun e => by
    obtain ⟨_, cs, h4⟩ := own_heap h2 T e.symm
    have h5 := (show _ = _ from l1).symm.trans h4
    injection h5 with h5
    injection h5 with _ h6 _
    exact absurd h6 (by decide))).trans l1
  have b2 : Below B w (w.alloc (.cells #[St x.path, .int .i64 x.file, .int .i64 x.mode] 39)) := (Below.refl _ _).alloc hB _
  have b3 : Below B w Z := b2.grown hg (Nat.le_trans hB b2.size) (fun k e => (own_heap h2 k e).1)
  exact ⟨A, C, Z, hr, ho2.kept (grown_setCell Z T 0 _) (own_other ho2 (fun r e => by injection e with e; subst e; exact ⟨_, 25, l3, by decide⟩)), lies_set l3 0 _, l3, below_setCell b3 hT _⟩
end Go.Proofs.Ytaanihmbnjjhcaa
