/-
What is proved here: words for memory: a block that is known whole, rows of words in it; what an operation of Go's text on words answers over this program.
-/
import Derived.Test.YtlnmaejpchncoaaDoorRows
import Derived.Test.YtlnmaejpchncoaaDoorWord
import Derived.WalkKit
import Derived.ProofKit
import Derived.Lib.Hide
import Derived.Deep.Draws
namespace Go.Proofs.YtlnmaejpchncoaaDoor
open Go.Word Go.RowKit

/-- block g is just the cells cs, of element type t, and may be written -/
def Lies (w : World) (g : Nat) (t : TypeId) (cs : Array Value) : Prop := w.heap[g]? = some (.cells cs t (0, 0))
/-- block g has n cells of which the first k are f's -/
def Row (w : World) (g : Nat) (t : TypeId) (n : Nat) (f : Nat → Value) (k : Nat) : Prop := ∃ cs, Lies w g t cs ∧ cs.size = n ∧ ∀ j, j < k → cs[j]? = some (f j)

section
variable {w w' : World} {g : Nat} {t : TypeId} {cs : Array Value} {n k : Nat} {f : Nat → Value}
theorem lies_lt (h : Lies w g t cs) : g < w.heap.size := by
  rcases Nat.lt_or_ge g w.heap.size with hlt | hge
  · exact hlt
  · unfold Lies at h; rw [Array.getElem?_eq_none hge] at h; cases h
theorem lies_cell (h : Lies w g t cs) (i : Nat) : w.cell? ⟨g, i, none⟩ = cs[i]? := cell_of_row w g i cs t (0, 0) h
theorem lies_free (h : Lies w g t cs) (i : Nat) : w.frozen? ⟨g, i, none⟩ = false := frozen_of_row w g i cs t h
theorem lies_new (w : World) (t : TypeId) (cs : Array Value) : Lies (w.alloc (.cells cs t)) w.heap.size t cs := heap_alloc_new w _
theorem lies_alloc (h : Lies w g t cs) (o : Obj) : Lies (w.alloc o) g t cs := (Below.heap_alloc w o g (lies_lt h)).trans h
theorem lies_set (h : Lies w g t cs) (i : Nat) (u : Value) : Lies (w.setCell ⟨g, i, none⟩ u) g t (cs.setIfInBounds i u) := heap_setCell_same w g i cs t u h
theorem lies_far (h : Lies w g t cs) {p : Addr} (hp : g ≠ p.block) (u : Value) : Lies (w.setCell p u) g t cs := (heap_setCell_other w p g u hp).trans h
theorem lies_drew (h : Lies w g t cs) : Lies w.drew g t cs := h
theorem lies_drewN (h : Lies w g t cs) (m : Nat) : Lies (w.drewN m) g t cs := h
theorem lies_below {B : Nat} (h : Lies w g t cs) (hb : Below B w w') (hg : g < B) : Lies w' g t cs := (hb.block g hg).trans h
theorem row_lt (h : Row w g t n f k) : g < w.heap.size := by obtain ⟨cs, h, _⟩ := h; exact lies_lt h
theorem row_cell (h : Row w g t n f k) {i : Nat} (hi : i < k) : w.cell? ⟨g, i, none⟩ = some (f i) := by
  obtain ⟨cs, h, _, hf⟩ := h
  rw [lies_cell h, hf i hi]
theorem row_some (h : Row w g t n f k) {i : Nat} (hi : i < n) : ∃ v, w.cell? ⟨g, i, none⟩ = some v := by
  obtain ⟨cs, h, hs, hf⟩ := h
  exact ⟨cs[i], by rw [lies_cell h]; exact Array.getElem?_eq_getElem (by omega)⟩
theorem row_free (h : Row w g t n f k) (i : Nat) : w.frozen? ⟨g, i, none⟩ = false := by obtain ⟨cs, h, _⟩ := h; exact lies_free h i
theorem row_alloc (h : Row w g t n f k) (o : Obj) : Row (w.alloc o) g t n f k := by obtain ⟨cs, h, r⟩ := h; exact ⟨cs, lies_alloc h o, r⟩
theorem row_far (h : Row w g t n f k) {p : Addr} (hp : g ≠ p.block) (u : Value) : Row (w.setCell p u) g t n f k := by obtain ⟨cs, h, r⟩ := h; exact ⟨cs, lies_far h hp u, r⟩
theorem row_below {B : Nat} (h : Row w g t n f k) (hb : Below B w w') (hg : g < B) : Row w' g t n f k := by obtain ⟨cs, h, r⟩ := h; exact ⟨cs, lies_below h hb hg, r⟩
theorem row_drew (h : Row w g t n f k) : Row w.drew g t n f k := h
theorem row_drewN (h : Row w g t n f k) (m : Nat) : Row (w.drewN m) g t n f k := h
theorem row_new (w : World) (t : TypeId) (cs : Array Value) (f : Nat → Value) (k : Nat) (h : ∀ j, j < k → cs[j]? = some (f j)) : Row (w.alloc (.cells cs t)) w.heap.size t cs.size f k := ⟨cs, lies_new w t cs, rfl, h⟩
theorem row_new' (w : World) (g : Nat) (t : TypeId) (cs : Array Value) (f : Nat → Value) (k n : Nat) (hg : w.heap.size = g) (hn : cs.size = n) (h : ∀ j, j < k → cs[j]? = some (f j)) : Row (w.alloc (.cells cs t)) g t n f k := by subst hg hn; exact row_new w t cs f k h
/-- one cell more -/
theorem row_more (h : Row w g t n f k) (hk : k < n) {u : Value} (hu : u = f k) : Row (w.setCell ⟨g, k, none⟩ u) g t n f (k + 1) := by
  obtain ⟨cs, h, hs, hf⟩ := h
  refine ⟨_, lies_set h k u, by simp [hs], fun j hj => ?_⟩
  rw [Array.getElem?_setIfInBounds]
  by_cases e : k = j
  · subst e; rw [if_pos rfl, if_pos (by omega), hu]
  · rw [if_neg e]; exact hf j (by omega)
theorem row_less {m : Nat} (h : Row w g t n f k) (hm : m ≤ k) : Row w g t n f m := by obtain ⟨cs, h, hs, hf⟩ := h; exact ⟨cs, h, hs, fun j hj => hf j (by omega)⟩
/-- the whole block -/
theorem row_whole (h : Row w g t n f n) : Lies w g t ((Array.range n).map f) := by
  obtain ⟨cs, h, hs, hf⟩ := h
  have e : cs = (Array.range n).map f := by
    refine Array.ext (by simp [hs]) fun i h1 h2 => ?_
    have := hf i (by omega)
    rw [Array.getElem?_eq_getElem h1] at this
    simp only [Option.some.injEq] at this
    rw [this]; simp
  rw [← e]; exact h
end

theorem below_drewN {B : Nat} {a w : World} (h : Below B a w) (n : Nat) : Below B a (w.drewN n) := ⟨h.os, h.tape, h.output, h.size, h.block⟩
theorem below_setRow {B : Nat} {a w : World} (h : Below B a w) {g : Nat} (hg : B ≤ g) (cs : Array Value) : Below B a (w.setRow g cs) :=
  ⟨h.os, h.tape, h.output, by simpa using h.size, fun k hk => (setRow_other w g k cs (by omega)).trans (h.block k hk)⟩
theorem lies_setRow {w : World} {g : Nat} {t : TypeId} {old : Array Value} (h : Lies w g t old) (cs : Array Value) : Lies (w.setRow g cs) g t cs := setRow_heap w g old cs t (0, 0) h
theorem wpList_built {P : Program} {ops : Array Oper} {rest : List Oper} {o : Oper} {a : Act} {w : World} {Q : Exit → Act → World → Prop} (hg : o.guard = none) (t : TypeId) (parts : Array (Nat × Operand)) (ho : o.op = .build t parts)
    (cells : Array Value) (hf : P.built t (parts.map fun (i, x) => (i, a.eval x)).toList = some cells)
    (h : wpList P ops Q rest (a.put o.dst (.agg cells)) w) : wpList P ops Q (o :: rest) a w :=
  wpList_build hg t parts ho (by rw [hf]; rfl) (by rw [hf]; exact h)
/-- the values of n words, n bytes -/
def uRow (f : Nat → BitVec 32) (n : Nat) : Array Value := (Array.range n).map fun j => U (f j)
def yRow (f : Nat → BitVec 8) (n : Nat) : Array Value := (Array.range n).map fun j => Y (f j)
theorem uRow_size (f : Nat → BitVec 32) (n : Nat) : (uRow f n).size = n := by simp [uRow]
theorem yRow_size (f : Nat → BitVec 8) (n : Nat) : (yRow f n).size = n := by simp [yRow]
theorem uRow_at (f : Nat → BitVec 32) {n j : Nat} (h : j < n) : (uRow f n)[j]? = some (U (f j)) := by simp [uRow, h]
theorem yRow_at (f : Nat → BitVec 8) {n j : Nat} (h : j < n) : (yRow f n)[j]? = some (Y (f j)) := by simp [yRow, h]

theorem uRow_one (f : Nat → BitVec 32) (n : Nat) : (uRow f n).all (·.oneCell') = true := by
  rw [Array.all_eq_true_iff_forall_mem]
  intro v hv
  simp only [uRow, Array.mem_map] at hv
  obtain ⟨j, _, rfl⟩ := hv
  rfl
theorem yRow_one (f : Nat → BitVec 8) (n : Nat) : (yRow f n).all (·.oneCell') = true := by
  rw [Array.all_eq_true_iff_forall_mem]
  intro v hv
  simp only [yRow, Array.mem_map] at hv
  obtain ⟨j, _, rfl⟩ := hv
  rfl
theorem shl8 (t : TypeId) (x : BitVec 32) : binOp .shl t (U x) (.int .u64 8) = pure (U (x <<< 8)) := u_shl t .u64 x 8 (by decide) (by decide)
theorem shl16 (t : TypeId) (x : BitVec 32) : binOp .shl t (U x) (.int .u64 16) = pure (U (x <<< 16)) := u_shl t .u64 x 16 (by decide) (by decide)
theorem shl24 (t : TypeId) (x : BitVec 32) : binOp .shl t (U x) (.int .u64 24) = pure (U (x <<< 24)) := u_shl t .u64 x 24 (by decide) (by decide)
theorem shr1 (t : TypeId) (x : BitVec 32) : binOp .shr t (U x) (.int .u64 1) = pure (U (x >>> 1)) := u_shr t .u64 x 1 (by decide) (by decide)
theorem shr3 (t : TypeId) (x : BitVec 32) : binOp .shr t (U x) (.int .u64 3) = pure (U (x >>> 3)) := u_shr t .u64 x 3 (by decide) (by decide)
theorem shr4 (t : TypeId) (x : BitVec 32) : binOp .shr t (U x) (.int .u64 4) = pure (U (x >>> 4)) := u_shr t .u64 x 4 (by decide) (by decide)
theorem shr10 (t : TypeId) (x : BitVec 32) : binOp .shr t (U x) (.int .u64 10) = pure (U (x >>> 10)) := u_shr t .u64 x 10 (by decide) (by decide)
theorem byte_word (x : BitVec 8) (w : World) : (convert 5 58 (Y x)).run Tryd.prog w = .ok (U (wide x)) w := y_word _ _ _ x w Tryd.underlying5 Tryd.underlying58
theorem word_byte (x : BitVec 32) (w : World) : (convert 58 5 (U x)).run Tryd.prog w = .ok (Y (low x)) w := u_byte _ _ _ x w Tryd.underlying58 Tryd.underlying5
theorem word_int (x : BitVec 32) (w : World) : (convert 58 3 (U x)).run Tryd.prog w = .ok (.int .i64 (x.toNat : Int)) w := u_int _ _ _ x w Tryd.underlying58 Tryd.underlying3
theorem word_of_int (n : Int) (w : World) : (convert 3 58 (.int .i64 n)).run Tryd.prog w = .ok (U (cut n)) w := int_word _ _ _ n w Tryd.underlying3 Tryd.underlying58
theorem storeVar_u (w : World) (a : Addr) (x : BitVec 32) : (storeVar 45 a (U x)).run Tryd.prog w = stored Tryd.prog w a (U x) .plain := by
  have h : (sizeOf 45).run Tryd.prog w = .ok 1 w := by kernel_rfl
  unfold storeVar
  rw [Sem.run_bind, h]
  show Sem.run Tryd.prog (storeCells a [U x]) w = _
  exact store_us _ w a x
theorem storeVar_y (w : World) (a : Addr) (x : BitVec 8) : (storeVar 5 a (Y x)).run Tryd.prog w = stored Tryd.prog w a (Y x) .plain := by
  have h : (sizeOf 5).run Tryd.prog w = .ok 1 w := by kernel_rfl
  unfold storeVar
  rw [Sem.run_bind, h]
  show Sem.run Tryd.prog (storeCells a [Y x]) w = _
  exact store_ys _ w a x
end Go.Proofs.YtlnmaejpchncoaaDoor
