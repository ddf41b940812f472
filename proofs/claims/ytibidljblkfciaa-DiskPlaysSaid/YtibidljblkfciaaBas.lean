/-
What is proved here: words for bytes and for memory: a block that is known whole, rows of bytes in it. No function of the program.
-/
import Derived.Test.YtibidljblkfciaaRows
import Derived.WalkKit
import Derived.ProofKit
import Derived.Lib.Hide
import Derived.Deep.Draws
import Derived.Deep.MidRow
import Derived.OwnWalk
namespace Go.Word
/-- a byte as Go holds it -/
def Y (x : BitVec 8) : Value := .int .u8 (x.toNat : Int)
theorem wrap8 (n : Int) : IntKind.u8.wrap n = n % 256 := by simp [IntKind.wrap, IntKind.bits, IntKind.signed]
theorem store_y (P : Program) (w : World) (a : Addr) (m : Mode) (x : BitVec 8) : (store a (Y x) m).run P w = stored P w a (Y x) m := run_store P w a _ m rfl
theorem add_none (a : Addr) : a.add 0 = a := by unfold Addr.add; simp
theorem store_one (P : Program) (w : World) (a : Addr) (v : Value) (hv : v.oneCell' = true) : (storeCells a [v]).run P w = stored P w a v .plain := by
  unfold storeCells
  rw [Sem.run_bind, add_none, run_store P w a v .plain hv]
  unfold storeCells stored
  cases w.cell? a with
  | none => cases w.farStore P a v ((Mode.plain) == .atomic) <;> rfl
  | some u => by_cases h : w.frozen? a = true <;> simp [h]
theorem store_ys (P : Program) (w : World) (a : Addr) (x : BitVec 8) : (storeCells a [Y x]).run P w = stored P w a (Y x) .plain := store_one P w a _ rfl

end Go.Word
namespace Go.Proofs.Ytibidljblkfciaa
open Go.Word Go.RowKit

/-- block g is just the cells cs, of element type t, and may be written -/
def Lies (w : World) (g : Nat) (t : TypeId) (cs : Array Value) : Prop := w.heap[g]? = some (.cells cs t (0, 0))
/-- block g has n cells of which the first k are f's -/
def Row (w : World) (g : Nat) (t : TypeId) (n : Nat) (f : Nat → Value) (k : Nat) : Prop := ∃ cs, Lies w g t cs ∧ cs.size = n ∧ ∀ j, j < k → cs[j]? = some (f j)

section
variable {w w' : World} {g : Nat} {t : TypeId} {cs : Array Value} {n k : Nat} {f : Nat → Value}
theorem lies_lt (h : Lies w g t cs) : g < w.heap.size := by
  rcases Nat.lt_or_ge g w.heap.size with hlt | hge
  · exact hlt
  · unfold Lies at h; rw [Array.getElem?_eq_none hge] at h; cases h
theorem lies_cell (h : Lies w g t cs) (i : Nat) : w.cell? ⟨g, i, none⟩ = cs[i]? := cell_of_row w g i cs t (0, 0) h
theorem lies_free (h : Lies w g t cs) (i : Nat) : w.frozen? ⟨g, i, none⟩ = false := frozen_of_row w g i cs t h
theorem lies_new (w : World) (t : TypeId) (cs : Array Value) : Lies (w.alloc (.cells cs t)) w.heap.size t cs := heap_alloc_new w _
theorem lies_alloc (h : Lies w g t cs) (o : Obj) : Lies (w.alloc o) g t cs := (Below.heap_alloc w o g (lies_lt h)).trans h
theorem lies_set (h : Lies w g t cs) (i : Nat) (u : Value) : Lies (w.setCell ⟨g, i, none⟩ u) g t (cs.setIfInBounds i u) := heap_setCell_same w g i cs t u h
theorem lies_far (h : Lies w g t cs) {p : Addr} (hp : g ≠ p.block) (u : Value) : Lies (w.setCell p u) g t cs := (heap_setCell_other w p g u hp).trans h
theorem lies_drew (h : Lies w g t cs) : Lies w.drew g t cs := h
theorem lies_drewN (h : Lies w g t cs) (m : Nat) : Lies (w.drewN m) g t cs := h
theorem lies_below {B : Nat} (h : Lies w g t cs) (hb : Below B w w') (hg : g < B) : Lies w' g t cs := (hb.block g hg).trans h
theorem row_lt (h : Row w g t n f k) : g < w.heap.size := by obtain ⟨cs, h, _⟩ := h; exact lies_lt h
theorem row_cell (h : Row w g t n f k) {i : Nat} (hi : i < k) : w.cell? ⟨g, i, none⟩ = some (f i) := by
  obtain ⟨cs, h, _, hf⟩ := h
  rw [lies_cell h, hf i hi]
theorem row_some (h : Row w g t n f k) {i : Nat} (hi : i < n) : ∃ v, w.cell? ⟨g, i, none⟩ = some v := by
  obtain ⟨cs, h, hs, hf⟩ := h
  exact ⟨cs[i], by rw [lies_cell h]; exact Array.getElem?_eq_getElem (by omega)⟩
theorem row_free (h : Row w g t n f k) (i : Nat) : w.frozen? ⟨g, i, none⟩ = false := by obtain ⟨cs, h, _⟩ := h; exact lies_free h i
theorem row_alloc (h : Row w g t n f k) (o : Obj) : Row (w.alloc o) g t n f k := by obtain ⟨cs, h, r⟩ := h; exact ⟨cs, lies_alloc h o, r⟩
theorem row_far (h : Row w g t n f k) {p : Addr} (hp : g ≠ p.block) (u : Value) : Row (w.setCell p u) g t n f k := by obtain ⟨cs, h, r⟩ := h; exact ⟨cs, lies_far h hp u, r⟩
theorem row_below {B : Nat} (h : Row w g t n f k) (hb : Below B w w') (hg : g < B) : Row w' g t n f k := by obtain ⟨cs, h, r⟩ := h; exact ⟨cs, lies_below h hb hg, r⟩
theorem row_drew (h : Row w g t n f k) : Row w.drew g t n f k := h
theorem row_drewN (h : Row w g t n f k) (m : Nat) : Row (w.drewN m) g t n f k := h
theorem row_new (w : World) (t : TypeId) (cs : Array Value) (f : Nat → Value) (k : Nat) (h : ∀ j, j < k → cs[j]? = some (f j)) : Row (w.alloc (.cells cs t)) w.heap.size t cs.size f k := ⟨cs, lies_new w t cs, rfl, h⟩
theorem row_new' (w : World) (g : Nat) (t : TypeId) (cs : Array Value) (f : Nat → Value) (k n : Nat) (hg : w.heap.size = g) (hn : cs.size = n) (h : ∀ j, j < k → cs[j]? = some (f j)) : Row (w.alloc (.cells cs t)) g t n f k := by subst hg hn; exact row_new w t cs f k h
/-- one cell more -/
theorem row_more (h : Row w g t n f k) (hk : k < n) {u : Value} (hu : u = f k) : Row (w.setCell ⟨g, k, none⟩ u) g t n f (k + 1) := by
  obtain ⟨cs, h, hs, hf⟩ := h
  refine ⟨_, lies_set h k u, by simp [hs], fun j hj => ?_⟩
  rw [Array.getElem?_setIfInBounds]
  by_cases e : k = j
  · subst e; rw [if_pos rfl, if_pos (by omega), hu]
  · rw [if_neg e]; exact hf j (by omega)
theorem row_less {m : Nat} (h : Row w g t n f k) (hm : m ≤ k) : Row w g t n f m := by obtain ⟨cs, h, hs, hf⟩ := h; exact ⟨cs, h, hs, fun j hj => hf j (by omega)⟩
/-- the whole block -/
theorem row_whole (h : Row w g t n f n) : Lies w g t ((Array.range n).map f) := by
  obtain ⟨cs, h, hs, hf⟩ := h
  have e : cs = (Array.range n).map f := by
    refine Array.ext (by simp [hs]) fun i h1 h2 => ?_
    have := hf i (by omega)
    rw [Array.getElem?_eq_getElem h1] at this
    simp only [Option.some.injEq] at this
    rw [this]; simp
  rw [← e]; exact h
end

theorem below_drewN {B : Nat} {a w : World} (h : Below B a w) (n : Nat) : Below B a (w.drewN n) := ⟨h.os, h.tape, h.output, h.size, h.block⟩
theorem below_setRow {B : Nat} {a w : World} (h : Below B a w) {g : Nat} (hg : B ≤ g) (cs : Array Value) : Below B a (w.setRow g cs) :=
  ⟨h.os, h.tape, h.output, by simpa using h.size, fun k hk => (setRow_other w g k cs (by omega)).trans (h.block k hk)⟩
theorem lies_setRow {w : World} {g : Nat} {t : TypeId} {old : Array Value} (h : Lies w g t old) (cs : Array Value) : Lies (w.setRow g cs) g t cs := setRow_heap w g old cs t (0, 0) h
theorem wpList_built {P : Program} {ops : Array Oper} {rest : List Oper} {o : Oper} {a : Act} {w : World} {Q : Exit → Act → World → Prop} (hg : o.guard = none) (t : TypeId) (parts : Array (Nat × Operand)) (ho : o.op = .build t parts)
    (cells : Array Value) (hf : P.built t (parts.map fun (i, x) => (i, a.eval x)).toList = some cells)
    (h : wpList P ops Q rest (a.put o.dst (.agg cells)) w) : wpList P ops Q (o :: rest) a w :=
  wpList_build hg t parts ho (by rw [hf]; rfl) (by rw [hf]; exact h)
/-- the values of n bytes -/
def yRow (f : Nat → BitVec 8) (n : Nat) : Array Value := (Array.range n).map fun j => Y (f j)
theorem yRow_size (f : Nat → BitVec 8) (n : Nat) : (yRow f n).size = n := by simp [yRow]
theorem yRow_at (f : Nat → BitVec 8) {n j : Nat} (h : j < n) : (yRow f n)[j]? = some (Y (f j)) := by simp [yRow, h]
theorem yRow_one (f : Nat → BitVec 8) (n : Nat) : (yRow f n).all (·.oneCell') = true := by
  rw [Array.all_eq_true_iff_forall_mem]
  intro v hv
  simp only [yRow, Array.mem_map] at hv
  obtain ⟨j, _, rfl⟩ := hv
  rfl
def spl (cs : Array Value) (o : Nat) : List Value → Array Value
  | [] => cs
  | v :: r => spl (cs.setIfInBounds o v) (o + 1) r
theorem spl_size : ∀ (vs : List Value) (cs : Array Value) (o : Nat), (spl cs o vs).size = cs.size
  | [], _, _ => rfl
  | v :: r, cs, o => by unfold spl; rw [spl_size r]; simp
theorem spl_out : ∀ (vs : List Value) (cs : Array Value) (o j : Nat), (j < o ∨ o + vs.length ≤ j) → (spl cs o vs)[j]? = cs[j]?
  | [], _, _, _, _ => rfl
  | v :: r, cs, o, j, h => by
    unfold spl
    rw [spl_out r _ (o + 1) j (by simp at h; omega), Array.getElem?_setIfInBounds, if_neg (by simp at h; omega)]
theorem spl_in : ∀ (vs : List Value) (cs : Array Value) (o j : Nat), j < vs.length → o + vs.length ≤ cs.size → (spl cs o vs)[o + j]? = vs[j]?
  | v :: r, cs, o, 0, _, h => by
    unfold spl
    rw [spl_out r _ (o + 1) (o + 0) (by omega), Array.getElem?_setIfInBounds, if_pos (by omega), if_pos (by simp at h; omega)]
    rfl
  | v :: r, cs, o, j + 1, hj, h => by
    unfold spl
    have := spl_in r (cs.setIfInBounds o v) (o + 1) j (by simpa using hj) (by simp at h ⊢; omega)
    rw [show o + (j + 1) = o + 1 + j by omega, this]
    simp
theorem lies_spl {g : Nat} {t : TypeId} : ∀ (vs : List Value) (w : World) (cs : Array Value) (o : Nat), Lies w g t cs → Lies (w.setCells g o vs) g t (spl cs o vs)
  | [], _, _, _, h => h
  | v :: r, _, _, o, h => lies_spl r _ _ (o + 1) (lies_set h o v)
theorem there_of {w : World} {g : Nat} {t : TypeId} {cs : Array Value} (h : Lies w g t cs) {o n : Nat} (hn : o + n ≤ cs.size) : w.there g o n := fun j hj =>
  ⟨by rw [lies_cell h, Array.getElem?_eq_getElem (by omega)]; rfl, lies_free h _⟩
theorem range_of {w : World} {g : Nat} {t : TypeId} {cs : Array Value} (h : Lies w g t cs) {o : Nat} {vs : List Value} (hv : ∀ j v, vs[j]? = some v → cs[o + j]? = some v) : w.rangeAt g o vs := fun j v hj => by
  rw [lies_cell h]; exact hv j v hj

/-! block g alone, and what is new, has turned -/
section
variable {a w w' : World} {g : Nat}
theorem only_refl (w : World) (g : Nat) : w.grownBy w (some g) := World.grownBy.refl w _
theorem only_drew (h : a.grownBy w (some g)) : a.grownBy w.drew (some g) := ⟨h.os, h.tape, h.output, h.size, h.block⟩
theorem only_drewN (h : a.grownBy w (some g)) (n : Nat) : a.grownBy (w.drewN n) (some g) := ⟨h.os, h.tape, h.output, h.size, h.block⟩
theorem only_setCell (h : a.grownBy w (some g)) (i : Nat) (u : Value) : a.grownBy (w.setCell ⟨g, i, none⟩ u) (some g) :=
  ⟨h.os, h.tape, h.output, by simpa [World.setCell] using h.size, fun i hi hne => (Below.heap_setCell w _ u i (fun e => hne (by rw [e]))).trans (h.block i hi hne)⟩
theorem only_setCells : ∀ (vs : List Value) (o : Nat) (w : World), a.grownBy w (some g) → a.grownBy (w.setCells g o vs) (some g)
  | [], _, _, h => h
  | v :: r, o, _, h => only_setCells r (o + 1) _ (only_setCell h o v)
theorem only_setRow (h : a.grownBy w (some g)) (cs : Array Value) : a.grownBy (w.setRow g cs) (some g) :=
  ⟨h.os, h.tape, h.output, by simpa using h.size, fun i hi hne => (setRow_other w g i cs (fun e => hne (by rw [e]))).trans (h.block i hi hne)⟩
theorem only_below (h : a.grownBy w (some g)) (hb : Below w.heap.size w w') : a.grownBy w' (some g) :=
  ⟨hb.os.trans h.os, hb.tape.trans h.tape, hb.output.trans h.output, Nat.le_trans h.size hb.size, fun i hi hne => (hb.block i (Nat.lt_of_lt_of_le hi h.size)).trans (h.block i hi hne)⟩
theorem only_cell (h : a.grownBy w (some g)) {p : Addr} (hp : p.block < a.heap.size) (hne : p.block ≠ g) : w.cell? p = a.cell? p :=
  World.cell?_of_block (h.block p.block hp (fun e => hne (by injection e)))
end

theorem add_block (ad : Addr) (j : Nat) : (ad.add j).block = ad.block := by unfold Addr.add; split <;> rfl
theorem add_pos (ad : Addr) {j : Nat} (h : j ≠ 0) : ad.add j = { block := ad.block, off := ad.off + j } := by unfold Addr.add; rw [if_neg h]
end Go.Proofs.Ytibidljblkfciaa
