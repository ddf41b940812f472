/-
What is proved here: how many parts so many things fill; the toll of one inode; complex sums of whole numbers. package tree's Weight, by a contract. package tree's Weight, of a tree that is not loose; of every tree.
-/
import Derived.Test.YtiglakhfkgeefaaFil
import Derived.Test.YtiglakhfkgeefaaFl
import Derived.Laws.ComplexArith
import Derived.Test.YtiglakhfkgeefaaChk
import Derived.RangeFuncBox
import Derived.Sort.CutIn
import Derived.Test.YtiglakhfkgeefaaTools
import Derived.Shelf.RegionOpen
set_option linter.unusedSimpArgs false
namespace Go.Proofs.Ytiglakhfkgeefaa
open Go.Pth Go.Tre Go.RowKit Go.Word Go.Fl

theorem rep_one : Rep 4607182418800017408 1 := ⟨false, 52, by decide +kernel, by decide⟩
theorem rep_zero : Rep 0 0 := ⟨false, 1074, by decide +kernel, by decide⟩
theorem cadd {x y a b : Nat} {X Y A B : Int} (hx : Rep x X) (hy : Rep y Y) (ha : Rep a A) (hb : Rep b B) (h1 : (X + A).natAbs < 2 ^ 53) (h2 : (Y + B).natAbs < 2 ^ 53) :
    ∃ x' y', Rep x' (X + A) ∧ Rep y' (Y + B) ∧ ∀ t w, (binOp .add t (.complex .f64 x y) (.complex .f64 a b)).run Try.prog w = .ok (.complex .f64 x' y') w := by
  obtain ⟨x', e1, r1⟩ := add_rep hx ha h1
  obtain ⟨y', e2, r2⟩ := add_rep hy hb h2
  exact ⟨x', y', r1, r2, fun t w => run_complex_sum w .add (Or.inl rfl) t .f64 x y a b _ _ (by simp [cSumBits, e1, e2])⟩
end Go.Proofs.Ytiglakhfkgeefaa
set_option linter.unusedSimpArgs false
namespace Go.Tre
open Go.Pth
def partsN (t s : Nat) : Nat := (t + s - 1) / s
/-- the blocks of a directory with so many in it; of a file of so many bytes -/
def dirW (k : K256) : Int := max (partsN k.1.toNat 16 : Int) 1
def fileW (n : Nat) : Int := if 8 < partsN n 512 then (partsN n 512 : Int) + 1 else (partsN n 512 : Int)
def dsum (ys : List K256) : Int := (ys.map dirW).sum
def fsum (fs : List Fl) : Int := (fs.map fun x => fileW x.data.length).sum
def weightB (ns : List Nd) (fs : List Fl) : Int := dsum (fillsL ns) + fsum fs
def weightI (ns : List Nd) (fs : List Fl) : Int := ((fillsL ns).length : Int) + fs.length
theorem dirW_bd (k : K256) : 1 ≤ dirW k ∧ dirW k ≤ 20 := by
  obtain ⟨k, h1, h2⟩ := k
  unfold dirW partsN
  show 1 ≤ max (((k.toNat + 16 - 1) / 16 : Nat) : Int) 1 ∧ max (((k.toNat + 16 - 1) / 16 : Nat) : Int) 1 ≤ 20
  omega
theorem dsum_snoc (ys : List K256) (k : K256) : dsum (ys ++ [k]) = dsum ys + dirW k := by simp [dsum, List.sum_append]
theorem dsum_bd : ∀ ys : List K256, 0 ≤ dsum ys ∧ dsum ys ≤ 20 * ys.length
  | [] => by simp [dsum]
  | k :: r => by
    have h1 := dirW_bd k
    have h2 := dsum_bd r
    have e : dsum (k :: r) = dirW k + dsum r := by simp [dsum]
    rw [e, List.length_cons]
    omega
theorem fileW_bd (n : Nat) (h : n ≤ 8192) : 0 ≤ fileW n ∧ fileW n ≤ 20 := by
  unfold fileW partsN
  split <;> omega
theorem fsum_bd : ∀ fs : List Fl, (∀ x ∈ fs, x.data.length ≤ 8192) → 0 ≤ fsum fs ∧ fsum fs ≤ 20 * fs.length
  | [], _ => by simp [fsum]
  | x :: r, h => by
    have h1 := fileW_bd x.data.length (h x (List.mem_cons_self ..))
    have h2 := fsum_bd r (fun y hy => h y (List.mem_cons_of_mem _ hy))
    have e : fsum (x :: r) = fileW x.data.length + fsum r := by simp [fsum]
    rw [e, List.length_cons]
    omega
end Go.Tre
namespace Go.Proofs.Ytiglakhfkgeefaa
open Go.Pth Go.Tre Go.RowKit Go.Word Go.Shelf Go.Fl
attribute [local go_sem] Oper.semAt_some

theorem wpIn_skip' {F : Fence} {n : Nat} {P : Program} {Q : Exit → Act → World → Prop} {a : Act} {w w' : World} {K : Act → World → Prop} {oi : Oper} (hnd : ∀ c, oi.op ≠ .defer c) (hab : oi.about P w a.eval = none) (hr : (execOp a.eval oi).run P w = .ok .skip w') (h : K (a.put oi.dst undef) w') : Oper.wpIn F n P oi a w K Q :=
  ⟨fun f hf => (by rw [hab] at hf; cases hf), by rw [Oper.semAt_eq _ _ _ hnd, hr]; exact h⟩
theorem max_op {ρ : Operand → Value} {oi : Oper} {w : World} {a : Int} (x : Operand) (ho : oi.op = .call { callee := .builtin .max, args := #[x, .const (.int .i64 1)], argTypes := #[3, 3] }) (hx : ρ x = .int .i64 a) (hy : ρ (.const (.int .i64 1)) = .int .i64 1) : (execOp ρ oi).run Try.prog w = .ok (.value (.int .i64 (max a 1))) w := by
  unfold execOp
  simp only [ho]
  go_simp
/-- all below m is as it was, but block WB -/
structure KBs (m WB : Nat) (A B : World) : Prop where
  os : B.os = A.os
  tape : B.tape = A.tape
  output : B.output = A.output
  size : A.heap.size ≤ B.heap.size
  block : ∀ i, i < m → i ≠ WB → B.heap[i]? = A.heap[i]?
theorem kbs_refl (m WB : Nat) (A : World) : KBs m WB A A := ⟨rfl, rfl, rfl, Nat.le_refl _, fun _ _ _ => rfl⟩
theorem kbs_grown {m WB : Nat} {A X Y : World} {row : Option Nat} (h : KBs m WB A X) (hg : X.grownBy Y row) (hm : m ≤ A.heap.size) (hr : ∀ r, row = some r → m ≤ r ∨ r = WB) : KBs m WB A Y :=
  ⟨hg.os.trans h.os, hg.tape.trans h.tape, hg.output.trans h.output, Nat.le_trans h.size hg.size, fun i h1 h2 => (hg.block i (by have := h.size; omega) (fun e => by
    rcases hr i e.symm with h3 | h3
    · omega
    · exact h2 h3)).trans (h.block i h1 h2)⟩
theorem kbs_cell {m WB : Nat} {A B : World} (h : KBs m WB A B) {p : Addr} (h1 : p.block < m) (h2 : p.block ≠ WB) : B.cell? p = A.cell? p := World.cell?_of_block (h.block p.block h1 h2)
theorem ownFrom_kbs {β : Type} {m WB B : Nat} {A : World} (hm : m ≤ A.heap.size) (hB : m ≤ B) : OwnFrom B (fun (_ : β) W => KBs m WB A W) :=
  fun _ _ _ _ hs hg hr => kbs_grown hs hg hm (fun r e => .inl (Nat.le_trans hB (hr r e).1))
theorem set_grown (W : World) (B : Nat) (v : Value) : W.grownBy (W.drew.setCell ⟨B, 0, none⟩ v) (some B) := by
  have := grownBy_setCell' W.drew B v
  exact ⟨this.os, this.tape, this.output, this.size, fun i hi hne => this.block i hi hne⟩

end Go.Proofs.Ytiglakhfkgeefaa
set_option linter.unusedSimpArgs false
namespace Go.Proofs.Ytiglakhfkgeefaa
open Go.Pth Go.Tre Go.RowKit Go.Word Go.Shelf Go.Fl
attribute [local go_sem] Oper.semAt_some

theorem loose_small {ns : List Nd} {fs : List Fl} (h : looseE ns fs = 0) : ns.length ≤ 256 ∧ fs.length ≤ 256 ∧ ∀ x ∈ fs, x.data.length ≤ 8192 := by
  unfold looseE at h
  by_cases ht : tooB ns.length fs = true
  · rw [if_pos ht] at h
    cases h
  · unfold tooB anyGreat at ht
    simp only [Bool.or_eq_true, decide_eq_true_eq, List.any_eq_true, not_or, not_exists, not_and, Nat.not_lt] at ht
    exact ⟨ht.1, ht.2.1, ht.2.2⟩
end Go.Proofs.Ytiglakhfkgeefaa
