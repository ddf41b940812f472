/-
What is proved here: the function value that goes over a loose tree's nodes, for every loop body that keeps what lay below but one block, and the maps. tree.Find, by a contract. the two things that a path of a tree is asked for, by contracts.
-/
import Derived.Test.YtiglakhfkgeefaaWgn
import Derived.Test.YtiglakhfkgeefaaRft
import Derived.Test.YtiglakhfkgeefaaKep
import Derived.Test.YtiglakhfkgeefaaTools
set_option linter.unusedSimpArgs false
namespace Go.Tre
open Go.Pth
abbrev NdK := { x : Nat × Nd // x.1 ≤ 256 ∧ x.2.path.length ≤ 100000 }
def ndK (i : Nat) (x : Nd) : NdK := ⟨(min i 256, ⟨x.path.take 100000, x.file, x.mode⟩), by show min i 256 ≤ 256; omega, List.length_take_le _ _⟩
def nodesTo (ns : List Nd) (i : Nat) : List NdK := (List.range i).map fun j => ndK j (ns.getD j ⟨[], 0, 0⟩)
def nodesL (ns : List Nd) : List NdK := nodesTo ns ns.length
def seqL (ns : List Nd) (fs : List Fl) : List NdK := if looseE ns fs = 0 then nodesL ns else []
theorem nodesTo_succ (ns : List Nd) (i : Nat) (h : i < ns.length) : nodesTo ns (i + 1) = nodesTo ns i ++ [ndK i ns[i]] := by
  unfold nodesTo
  rw [List.range_succ, List.map_append]
  simp [List.getD_eq_getElem?_getD, List.getElem?_eq_getElem h]
theorem nodesTo_pre (ns : List Nd) (i : Nat) (h : i ≤ ns.length) : nodesTo ns i <+: nodesL ns := by
  unfold nodesL nodesTo
  refine ⟨(List.range' i (ns.length - i)).map fun j => ndK j (ns.getD j ⟨[], 0, 0⟩), ?_⟩
  rw [← List.map_append]
  congr 1
  rw [List.range_eq_range', List.range_eq_range']
  have := @List.range'_append 0 i (ns.length - i) 1
  simpa [show i + (ns.length - i) = ns.length by omega] using this
theorem nodesTo_len (ns : List Nd) (i : Nat) : (nodesTo ns i).length = i := by simp [nodesTo]
theorem ndK_val (i : Nat) (x : Nd) (h1 : i ≤ 256) (h2 : x.path.length ≤ 100000) : (ndK i x).1 = (i, x) := by
  unfold ndK
  show (min i 256, (⟨x.path.take 100000, x.file, x.mode⟩ : Nd)) = (i, x)
  rw [List.take_of_length_le h2, Nat.min_eq_left h1]
end Go.Tre
namespace Go.Proofs.Ytiglakhfkgeefaa
open Go.Pth Go.Tre Go.RowKit Go.Word Go.Shelf
attribute [local go_sem] Oper.semAt_some

def encN (k : NdK) : Array Value := #[.int .i64 (k.1.1 : Int), .agg #[St k.1.2.path, .int .i64 k.1.2.file, .int .i64 k.1.2.mode]]
end Go.Proofs.Ytiglakhfkgeefaa
set_option linter.unusedSimpArgs false
namespace Go.Tre
open Go.Pth Go.Proofs.Ytiglakhfkgeefaa
/-- what Find tells -/
def lookI (ns : List Nd) (fs : List Fl) (p : Bt) : Int := if looseE ns fs = 0 then findI ns p else -1
theorem nodesL_get (ns : List Nd) (j : Nat) (h : j < ns.length) : (nodesL ns)[j]? = some (ndK j ns[j]) := by
  unfold nodesL nodesTo
  simp [h, List.getD_eq_getElem?_getD]
theorem seq_no (ns : List Nd) (fs : List Fl) (p : Bt) (hp : ∀ x ∈ ns, x.path.length ≤ 100000) (h : ∀ x ∈ seqL ns fs, same x.1.2.path p = false) : lookI ns fs p = -1 := by
  unfold lookI
  by_cases hz : looseE ns fs = 0
  · rw [if_pos hz]
    refine findI_no ns p (fun j hj => ?_)
    have h1 := h (ndK j ns[j]) (by
      unfold seqL
      rw [if_pos hz]
      exact List.mem_of_getElem? (nodesL_get ns j hj))
    rw [ndK_val j ns[j] (by have := (loose_small hz).1; omega) (hp _ (List.getElem_mem hj))] at h1
    exact h1
  · rw [if_neg hz]
theorem seq_at (ns : List Nd) (fs : List Fl) (p : Bt) (pre : List NdK) (x : NdK) (hp : ∀ x ∈ ns, x.path.length ≤ 100000) (hpre : pre ++ [x] <+: seqL ns fs) (h : ∀ y ∈ pre, same y.1.2.path p = false) (h2 : same x.1.2.path p = true) : lookI ns fs p = (x.1.1 : Int) := by
  unfold lookI
  obtain ⟨t, ht⟩ := hpre
  by_cases hz : looseE ns fs = 0
  · rw [if_pos hz]
    unfold seqL at ht
    rw [if_pos hz] at ht
    have hn := (loose_small hz).1
    have hl : (nodesL ns).length = ns.length := nodesTo_len _ _
    have hlen : pre.length < ns.length := by rw [← hl, ← ht]; simp
    have at_ : ∀ j (hj : j < ns.length), (ndK j ns[j]).1 = (j, ns[j]) := fun j hj => ndK_val j ns[j] (by omega) (hp _ (List.getElem_mem hj))
    have hx : x = ndK pre.length ns[pre.length] := by
      have := nodesL_get ns pre.length hlen
      rw [← ht, List.append_assoc, List.getElem?_append_right (Nat.le_refl _)] at this
      simpa using this
    rw [hx, at_ _ hlen] at h2
    rw [hx, at_ _ hlen]
    refine findI_at ns p pre.length hlen h2 (fun j hj => ?_)
    have hj2 : j < ns.length := by omega
    have hy : pre[j]'hj = ndK j ns[j] := by
      have := nodesL_get ns j hj2
      rw [← ht, List.append_assoc, List.getElem?_append_left hj, List.getElem?_eq_getElem hj] at this
      simpa using this
    have := h _ (List.getElem_mem hj)
    rw [hy, at_ _ hj2] at this
    exact this
  · unfold seqL at ht
    rw [if_neg hz] at ht
    simp at ht
end Go.Tre
namespace Go.Proofs.Ytiglakhfkgeefaa
open Go.Pth Go.Tre Go.RowKit Go.Word Go.Shelf
attribute [local go_sem] Oper.semAt_some guard_eq guard_ne st_eql

/-- no node of these has the path -/
def NoneOf (p : Bt) (pre : List NdK) : Prop := ∀ x ∈ pre, same x.1.2.path p = false
/-- the last of these has the path, and its place lies in the block -/
def Hit (p : Bt) (B : Nat) (pre : List NdK) (W : World) : Prop := ∃ pr x, pre = pr ++ [x] ∧ NoneOf p pr ∧ same x.1.2.path p = true ∧ Boxed W B 3 (.int .i64 (x.1.1 : Int))
theorem lies_own (B : Nat) (t : TypeId) (cs : Array Value) {X Y : World} {row : Option Nat} (h : Lies X B t cs) (hg : X.grownBy Y row) (hr : ∀ r, row = some r → ∃ o : Obj, X.heap[r]? = some o ∧ o.isCells = false) : Lies Y B t cs :=
  (hg.block B (lies_lt h) (fun e => by
    obtain ⟨o, ho, hc⟩ := hr B e.symm
    unfold Lies at h
    rw [h] at ho
    injection ho with ho
    subst ho
    cases hc)).trans h
end Go.Proofs.Ytiglakhfkgeefaa
set_option linter.unusedSimpArgs false
namespace Go.Proofs.Ytiglakhfkgeefaa
open Go.Pth Go.Tre Go.RowKit Go.Word Go.Shelf
attribute [local go_sem] guard_eq guard_ne st_eql

end Go.Proofs.Ytiglakhfkgeefaa
