/-
What is proved here: modes within their bounds; a copied tree of which one file gets another mode; two copies side by side.
-/
import Derived.Test.YtiglakhfkgeefaaCpm
import Derived.Test.YtiglakhfkgeefaaPm
set_option linter.unusedSimpArgs false
set_option linter.unusedVariables false
namespace Go.Proofs.Ytiglakhfkgeefaa
open Go.Pth Go.Tre Go.RowKit Go.Word Go.Shelf Go.Mat
theorem and511 (n : Int) : bits .and .i64 n 511 = n % 512 := by
  have h127 : (BitVec.ofInt 64 511).toNat = 2 ^ 9 - 1 := by decide
  have key : (BitVec.ofInt 64 n &&& BitVec.ofInt 64 511).toNat = (n % ((2 ^ 64 : Nat) : Int)).toNat % 2 ^ 9 := by
    rw [BitVec.toNat_and, BitVec.toNat_ofInt, h127, Nat.and_two_pow_sub_one_eq_mod]
  show IntKind.i64.wrap ((BitVec.ofInt 64 n &&& BitVec.ofInt 64 511).toNat : Nat) = n % 512
  rw [key, IntKind.wrap_i64]
  omega
theorem xor_small (a b : Int) (ha : 0 ≤ a ∧ a ≤ 511) (hb : 0 ≤ b ∧ b ≤ 511) : 0 ≤ bits .xor .i64 a b ∧ bits .xor .i64 a b ≤ 511 := by
  have key : (BitVec.ofInt 64 a ^^^ BitVec.ofInt 64 b).toNat = a.toNat ^^^ b.toNat := by
    rw [BitVec.toNat_xor, BitVec.toNat_ofInt, BitVec.toNat_ofInt]
    congr 1 <;> omega
  have lt : a.toNat ^^^ b.toNat < 2 ^ 9 := Nat.xor_lt_two_pow (by omega) (by omega)
  have e : bits .xor .i64 a b = IntKind.i64.wrap ((BitVec.ofInt 64 a ^^^ BitVec.ofInt 64 b).toNat : Nat) := rfl
  rw [e, key, IntKind.wrap_i64]
  generalize a.toNat ^^^ b.toNat = x at *
  omega
/-- the first i files with another mode -/
def remTo (g : Int → Int) (fs : List Fl) (i : Nat) : List Fl := fs.mapIdx fun j x => if j < i then (⟨g x.mode, x.data⟩ : Fl) else x
theorem remTo_len (g : Int → Int) (fs : List Fl) (i : Nat) : (remTo g fs i).length = fs.length := by simp [remTo]
theorem remTo_zero (g : Int → Int) (fs : List Fl) : remTo g fs 0 = fs := by
  apply List.ext_getElem (remTo_len _ _ _)
  intro j h1 h2
  simp [remTo]
theorem remTo_all (g : Int → Int) (fs : List Fl) : remTo g fs fs.length = remode g fs := by
  apply List.ext_getElem (by rw [remTo_len, remode_len])
  intro j h1 h2
  rw [remode_len] at h2
  simp [remTo, remode, h2]
theorem remTo_at (g : Int → Int) (fs : List Fl) (i : Nat) (h : i < fs.length) : (remTo g fs i)[i]'(by rw [remTo_len]; exact h) = fs[i] := by simp [remTo]
theorem remTo_succ (g : Int → Int) (fs : List Fl) (i : Nat) (h : i < fs.length) : (remTo g fs i).set i ⟨g fs[i].mode, fs[i].data⟩ = remTo g fs (i + 1) := by
  apply List.ext_getElem (by rw [List.length_set, remTo_len, remTo_len])
  intro j h1 h2
  rw [remTo_len] at h2
  rw [List.getElem_set]
  by_cases e : i = j
  · subst e
    simp [remTo]
  · rw [if_neg e]
    simp only [remTo, List.getElem_mapIdx]
    by_cases h3 : j < i
    · rw [if_pos h3, if_pos (by omega)]
    · rw [if_neg h3, if_neg (by omega)]
section
variable {w w' : World} {B : Nat} {vN vF : Value} {D : Nat → Value} {ns : List Nd} {fs : List Fl}
theorem copy_mode {g C m : Nat} {i : Nat} (h : CopyAt w B vN (.slice (some ⟨g, 0, none⟩) m C) D ns fs) (hm : fs.length = m) (hi : i < fs.length) (u : Int) : CopyAt (w.setCell ⟨g, i * 2, none⟩ (.int .i64 u)) B vN (.slice (some ⟨g, 0, none⟩) m C) D ns (fs.set i ⟨u, fs[i].data⟩) := by
  subst hm
  have s1 := (h.files.stored (i * 2) (.int .i64 u)).1
  rw [fcells_set D u fs i hi] at s1
  refine copy_files_turned h (by simp) (fun k hk => ?_) (by rw [List.length_set]; exact s1) (grown_setCell w g (i * 2) _)
  simp only [List.getD_eq_getElem?_getD, List.getElem?_set]
  by_cases e : i = k
  · subst e; simp [hk]
  · rw [if_neg e]
/-- a copy's own blocks are none of this one -/
def OffC (r : Nat) (vN vF : Value) (D : Nat → Value) (m : Nat) : Prop := vN.ownBlock ≠ some r ∧ vF.ownBlock ≠ some r ∧ ∀ i, i < m → (D i).ownBlock ≠ some r
theorem copy_off {r : Nat} (h : CopyAt w B vN vF D ns fs) (hg : w.grownBy w' (some r)) (ho : OffC r vN vF D fs.length) : CopyAt w' B vN vF D ns fs where
  nodes := h.nodes.kept hg (.inr ho.1)
  files := h.files.kept hg (.inr ho.2.1)
  data := fun i hi => World.ownsRow.kept (h.data i hi) hg (.inr (ho.2.2 i hi))
  apart := h.apart
theorem offC_lt (h : CopyAt w B vN vF D ns fs) {r : Nat} (hr : r < B) : OffC r vN vF D fs.length :=
  ⟨fun e => by have := (own_heap h.nodes r e).1; omega, fun e => by have := (own_heap h.files r e).1; omega, fun i hi e => by have := (own_heap (h.data i hi) r e).1; omega⟩
theorem offC_ge (h : CopyAt w B vN vF D ns fs) {r : Nat} (hr : w.heap.size ≤ r) : OffC r vN vF D fs.length :=
  ⟨fun e => by obtain ⟨_, cs, h2⟩ := own_heap h.nodes r e; have := (Array.getElem?_eq_some_iff.1 h2).1; omega, fun e => by obtain ⟨_, cs, h2⟩ := own_heap h.files r e; have := (Array.getElem?_eq_some_iff.1 h2).1; omega, fun i hi e => by obtain ⟨_, cs, h2⟩ := own_heap (h.data i hi) r e; have := (Array.getElem?_eq_some_iff.1 h2).1; omega⟩
theorem own_lt {e size n : Nat} {v : Value} {xs : List Value} (h : w.ownsRow B e size v n xs) {g : Nat} (hg : v.ownBlock = some g) : B ≤ g ∧ g < w.heap.size := by
  obtain ⟨h1, cs, h2⟩ := own_heap h g hg
  exact ⟨h1, (Array.getElem?_eq_some_iff.1 h2).1⟩
/-- a copy's own blocks lie below -/
def LoC (B2 : Nat) (vN vF : Value) (D : Nat → Value) (m : Nat) : Prop := (∀ b, vN.ownBlock = some b → b < B2) ∧ (∀ b, vF.ownBlock = some b → b < B2) ∧ ∀ i, i < m → ∀ b, (D i).ownBlock = some b → b < B2
theorem loC_of (h : CopyAt w B vN vF D ns fs) : LoC w.heap.size vN vF D fs.length :=
  ⟨fun b e => (own_lt h.nodes e).2, fun b e => (own_lt h.files e).2, fun i hi b e => (own_lt (h.data i hi) e).2⟩
theorem loC_off {B2 r m : Nat} (h : LoC B2 vN vF D m) (hr : B2 ≤ r) : OffC r vN vF D m :=
  ⟨fun e => by have := h.1 r e; omega, fun e => by have := h.2.1 r e; omega, fun i hi e => by have := h.2.2 i hi r e; omega⟩
end
/-- two copies, the one below the other -/
structure Two (W : World) (B B2 : Nat) (vN1 vF1 : Value) (D1 : Nat → Value) (vN2 vF2 : Value) (D2 : Nat → Value) (ns : List Nd) (fs : List Fl) (ms : List Nd) (gs : List Fl) : Prop where
  a : CopyAt W B vN1 vF1 D1 ns fs
  b : CopyAt W B2 vN2 vF2 D2 ms gs
  lo : LoC B2 vN1 vF1 D1 fs.length
  le : B ≤ B2
section
variable {W W' : World} {B B2 : Nat} {vN1 vF1 vN2 vF2 : Value} {D1 D2 : Nat → Value} {ns ms : List Nd} {fs gs : List Fl}
theorem two_kept (h : Two W B B2 vN1 vF1 D1 vN2 vF2 D2 ns fs ms gs) {row : Option Nat} (hg : W.grownBy W' row) (hr : ∀ r, row = some r → ∃ cs t, W.heap[r]? = some (.cells cs t (0, 0)) ∧ t ≠ 60 ∧ t ≠ 52 ∧ t ≠ 5) : Two W' B B2 vN1 vF1 D1 vN2 vF2 D2 ns fs ms gs :=
  ⟨copy_kept h.a hg hr, copy_kept h.b hg hr, h.lo, h.le⟩
theorem two_below (h : Two W B B2 vN1 vF1 D1 vN2 vF2 D2 ns fs ms gs) (hb : Below W.heap.size W W') : Two W' B B2 vN1 vF1 D1 vN2 vF2 D2 ns fs ms gs :=
  ⟨copy_below h.a hb, copy_below h.b hb, h.lo, h.le⟩
theorem two_mode1 {g C m i : Nat} (h : Two W B B2 vN1 (.slice (some ⟨g, 0, none⟩) m C) D1 vN2 vF2 D2 ns fs ms gs) (hm : fs.length = m) (hi : i < fs.length) (u : Int) : Two (W.setCell ⟨g, i * 2, none⟩ (.int .i64 u)) B B2 vN1 (.slice (some ⟨g, 0, none⟩) m C) D1 vN2 vF2 D2 ns (fs.set i ⟨u, fs[i].data⟩) ms gs :=
  ⟨copy_mode h.a hm hi u, copy_off h.b (grown_setCell W g (i * 2) _) (offC_lt h.b (h.lo.2.1 g rfl)), by rw [List.length_set]; exact h.lo, h.le⟩
theorem two_mode2 {g C m i : Nat} (h : Two W B B2 vN1 vF1 D1 vN2 (.slice (some ⟨g, 0, none⟩) m C) D2 ns fs ms gs) (hm : gs.length = m) (hi : i < gs.length) (u : Int) : Two (W.setCell ⟨g, i * 2, none⟩ (.int .i64 u)) B B2 vN1 vF1 D1 vN2 (.slice (some ⟨g, 0, none⟩) m C) D2 ns fs ms (gs.set i ⟨u, gs[i].data⟩) :=
  ⟨copy_off h.a (grown_setCell W g (i * 2) _) (loC_off h.lo (own_lt h.b.files rfl).1), copy_mode h.b hm hi u, h.lo, h.le⟩
end
end Go.Proofs.Ytiglakhfkgeefaa
