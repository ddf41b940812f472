/-
What is proved here: trees as lists of nodes and files; where they lie in memory; what stays as it was.
-/
import Derived.Test.YtdnagkgblmcojaaSpl
import Derived.Maps.OwnSet
import Derived.Deep.MidRow
import Derived.OwnWalk
import Derived.Maps.OwnOps
import Derived.Maps.Views
set_option linter.unusedSimpArgs false
namespace Go.Tre
open Go.Pth
/-- a node: its path, its file's number or -1, its mode -/
structure Nd where
  path : Bt
  file : Int
  mode : Int
  deriving DecidableEq
/-- a file: its mode, its bytes -/
structure Fl where
  mode : Int
  data : Bt
  deriving DecidableEq
end Go.Tre
namespace Go.Proofs.Ytdnagkgblmcojaa
open Go.Pth Go.Tre Go.RowKit Go.Word

def Fit64 (z : Int) : Prop := -9223372036854775808 ≤ z ∧ z ≤ 9223372036854775807
/-- nodes in a slice -/
def NodesAt (w : World) (A : Option Addr) (ns : List Nd) : Prop := ∀ i (h : i < ns.length), ∃ b o, A = some ⟨b, o, none⟩ ∧ b < w.heap.size ∧
  w.cell? ⟨b, o + i * 3, none⟩ = some (St ns[i].path) ∧ w.cell? ⟨b, o + i * 3 + 1, none⟩ = some (.int .i64 ns[i].file) ∧ w.cell? ⟨b, o + i * 3 + 2, none⟩ = some (.int .i64 ns[i].mode)
/-- bytes in a slice -/
def BytesAt (w : World) (A : Option Addr) (l : Bt) : Prop := ∀ i (h : i < l.length), ∃ b o, A = some ⟨b, o, none⟩ ∧ b < w.heap.size ∧ w.cell? ⟨b, o + i, none⟩ = some (.int .u8 (l[i].toNat : Int))
/-- files in a slice -/
def FilesAt (w : World) (A : Option Addr) (fs : List Fl) : Prop := ∀ i (h : i < fs.length), ∃ b o DA dc, A = some ⟨b, o, none⟩ ∧ b < w.heap.size ∧
  w.cell? ⟨b, o + i * 2, none⟩ = some (.int .i64 fs[i].mode) ∧ w.cell? ⟨b, o + i * 2 + 1, none⟩ = some (.slice DA fs[i].data.length dc) ∧ BytesAt w DA fs[i].data
theorem bytesAt_below {w w' : World} {A : Option Addr} {l : Bt} (h : BytesAt w A l) (hb : Below w.heap.size w w') : BytesAt w' A l := fun i hi => by
  obtain ⟨b, o, e, hl, hc⟩ := h i hi
  exact ⟨b, o, e, Nat.lt_of_lt_of_le hl hb.size, (hb.cell (p := ⟨b, o + i, none⟩) hl).trans hc⟩
theorem nodesAt_below {w w' : World} {A : Option Addr} {ns : List Nd} (h : NodesAt w A ns) (hb : Below w.heap.size w w') : NodesAt w' A ns := fun i hi => by
  obtain ⟨b, o, e, hl, h1, h2, h3⟩ := h i hi
  exact ⟨b, o, e, Nat.lt_of_lt_of_le hl hb.size, (hb.cell (p := ⟨b, o + i * 3, none⟩) hl).trans h1, (hb.cell (p := ⟨b, o + i * 3 + 1, none⟩) hl).trans h2, (hb.cell (p := ⟨b, o + i * 3 + 2, none⟩) hl).trans h3⟩
theorem filesAt_below {w w' : World} {A : Option Addr} {fs : List Fl} (h : FilesAt w A fs) (hb : Below w.heap.size w w') : FilesAt w' A fs := fun i hi => by
  obtain ⟨b, o, DA, dc, e, hl, h1, h2, h3⟩ := h i hi
  exact ⟨b, o, DA, dc, e, Nat.lt_of_lt_of_le hl hb.size, (hb.cell (p := ⟨b, o + i * 2, none⟩) hl).trans h1, (hb.cell (p := ⟨b, o + i * 2 + 1, none⟩) hl).trans h2, bytesAt_below h3 hb⟩
/-- block g is just the cells cs, of element type t, and may be written -/
def Lies (w : World) (g : Nat) (t : TypeId) (cs : Array Value) : Prop := w.heap[g]? = some (.cells cs t (0, 0))
section
variable {w w' : World} {g : Nat} {t : TypeId} {cs : Array Value}
theorem lies_lt (h : Lies w g t cs) : g < w.heap.size := by
  rcases Nat.lt_or_ge g w.heap.size with hlt | hge
  · exact hlt
  · unfold Lies at h; rw [Array.getElem?_eq_none hge] at h; cases h
theorem lies_cell (h : Lies w g t cs) (i : Nat) : w.cell? ⟨g, i, none⟩ = cs[i]? := cell_of_row w g i cs t (0, 0) h
theorem lies_free (h : Lies w g t cs) (i : Nat) : w.frozen? ⟨g, i, none⟩ = false := frozen_of_row w g i cs t h
theorem lies_new (w : World) (t : TypeId) (cs : Array Value) : Lies (w.alloc (.cells cs t)) w.heap.size t cs := heap_alloc_new w _
theorem lies_alloc (h : Lies w g t cs) (o : Obj) : Lies (w.alloc o) g t cs := (Below.heap_alloc w o g (lies_lt h)).trans h
theorem lies_set (h : Lies w g t cs) (i : Nat) (u : Value) : Lies (w.setCell ⟨g, i, none⟩ u) g t (cs.setIfInBounds i u) := heap_setCell_same w g i cs t u h
theorem lies_far (h : Lies w g t cs) {p : Addr} (hp : g ≠ p.block) (u : Value) : Lies (w.setCell p u) g t cs := (heap_setCell_other w p g u hp).trans h
theorem lies_drew (h : Lies w g t cs) : Lies w.drew g t cs := h
theorem lies_below {B : Nat} (h : Lies w g t cs) (hb : Below B w w') (hg : g < B) : Lies w' g t cs := (hb.block g hg).trans h
theorem lies_setRow {old : Array Value} (h : Lies w g t old) (cs : Array Value) : Lies (w.setRow g cs) g t cs := setRow_heap w g old cs t (0, 0) h
end
theorem below_setRow {B : Nat} {a w : World} (h : Below B a w) {g : Nat} (hg : B ≤ g) (cs : Array Value) : Below B a (w.setRow g cs) :=
  ⟨h.os, h.tape, h.output, by simpa using h.size, fun k hk => (setRow_other w g k cs (by omega)).trans (h.block k hk)⟩
theorem below_setCell {B : Nat} {a w : World} (h : Below B a w) {p : Addr} (hg : B ≤ p.block) (u : Value) : Below B a (w.setCell p u) :=
  ⟨h.os, h.tape, h.output, by simpa [World.setCell] using h.size, fun k hk => (Below.heap_setCell w p u k (by omega)).trans (h.block k hk)⟩

/-! a set of texts in a map -/
def SetAt (w : World) (b n : Nat) (S : Bt → Bool) : Prop := ∃ D : DataW Unit, w.ownsMap Try.prog 9 unitElem b n D ∧ ∀ l, Maps.has D (.string l) = S l
theorem keyed9 : Maps.Keyed Try.prog 9 := Maps.string_keyed Try.underlying9
theorem zero79 (w : World) : (zeroValue 60).run Try.prog w = .ok (.agg #[]) w := by kernel_rfl
theorem key_st (l : Bt) (h : l.length ≤ 100000) : keyOf Try.prog 9 (St l) = some (.string l) := by
  unfold St
  simp [keyOf, mapKey, Try.underlying9, ByteArray.size, maxLen]
  omega
end Go.Proofs.Ytdnagkgblmcojaa
