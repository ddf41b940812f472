/-
What is proved here: numbers and lists of numbers in memory, rows of one's own, and what keeps them.
-/
import Derived.Test.YtnbjfmkckebfgaaGreatRows
import Derived.Test.YtnbjfmkckebfgaaGreatPur
import Derived.WalkKit
import Derived.ProofKit
import Derived.Lib.Hide
import Derived.Laws.AppendOwnNone
import Derived.OwnWalk
import Derived.Laws.Rows
import Derived.Laws.Tables
import Derived.Deep.MidRow
import Derived.Deep.Draws
import Derived.StillTailTactics
set_option linter.unusedSimpArgs false
namespace Go.Proofs.YtnbjfmkckebfgaaGreat
open Go.Cmp Go.RowKit

/-- block g is just the cells cs, of element type t, and may be written -/
def Lies (w : World) (g : Nat) (t : TypeId) (cs : Array Value) : Prop := w.heap[g]? = some (.cells cs t (0, 0))
section
variable {w w' : World} {g : Nat} {t : TypeId} {cs : Array Value}
theorem lies_lt (h : Lies w g t cs) : g < w.heap.size := by
  rcases Nat.lt_or_ge g w.heap.size with hlt | hge
  · exact hlt
  · unfold Lies at h; rw [Array.getElem?_eq_none hge] at h; cases h
theorem lies_cell (h : Lies w g t cs) (i : Nat) : w.cell? ⟨g, i, none⟩ = cs[i]? := cell_of_row w g i cs t (0, 0) h
theorem lies_free (h : Lies w g t cs) (i : Nat) : w.frozen? ⟨g, i, none⟩ = false := frozen_of_row w g i cs t h
theorem lies_new (w : World) (t : TypeId) (cs : Array Value) : Lies (w.alloc (.cells cs t)) w.heap.size t cs := heap_alloc_new w _
theorem lies_alloc (h : Lies w g t cs) (o : Obj) : Lies (w.alloc o) g t cs := (Below.heap_alloc w o g (lies_lt h)).trans h
theorem lies_set (h : Lies w g t cs) (i : Nat) (u : Value) : Lies (w.setCell ⟨g, i, none⟩ u) g t (cs.setIfInBounds i u) := heap_setCell_same w g i cs t u h
theorem lies_far (h : Lies w g t cs) {p : Addr} (hp : g ≠ p.block) (u : Value) : Lies (w.setCell p u) g t cs := (heap_setCell_other w p g u hp).trans h
theorem lies_drewN (h : Lies w g t cs) (n : Nat) : Lies (w.drewN n) g t cs := h
theorem lies_below {B : Nat} (h : Lies w g t cs) (hb : Below B w w') (hg : g < B) : Lies w' g t cs := (hb.block g hg).trans h
theorem lies_setRow {old : Array Value} (h : Lies w g t old) (cs : Array Value) : Lies (w.setRow g cs) g t cs := setRow_heap w g old cs t (0, 0) h
end
theorem below_setRow {B : Nat} {a w : World} (h : Below B a w) {g : Nat} (hg : B ≤ g) (cs : Array Value) : Below B a (w.setRow g cs) :=
  ⟨h.os, h.tape, h.output, by simpa using h.size, fun k hk => (setRow_other w g k cs (by omega)).trans (h.block k hk)⟩
theorem below_drewN {B : Nat} {a w : World} (h : Below B a w) (n : Nat) : Below B a (w.drewN n) := ⟨h.os, h.tape, h.output, h.size, h.block⟩

/-- as it was, but for the blocks of P -/
structure But (P : Nat → Prop) (w w' : World) : Prop where
  os : w'.os = w.os
  tape : w'.tape = w.tape
  output : w'.output = w.output
  size : w.heap.size ≤ w'.heap.size
  block : ∀ k, k < w.heap.size → ¬ P k → w'.heap[k]? = w.heap[k]?
section
variable {P : Nat → Prop} {a b c : World}
theorem But.refl (P : Nat → Prop) (w : World) : But P w w := ⟨rfl, rfl, rfl, Nat.le_refl _, fun _ _ _ => rfl⟩
theorem But.trans (h : But P a b) (k : But P b c) : But P a c := ⟨k.os.trans h.os, k.tape.trans h.tape, k.output.trans h.output, Nat.le_trans h.size k.size, fun i hi hp => (k.block i (Nat.lt_of_lt_of_le hi h.size) hp).trans (h.block i hi hp)⟩
theorem But.step {P' : Nat → Prop} (h : But P a b) (k : But P' b c) (hp : ∀ i, i < a.heap.size → P' i → P i) : But P a c := ⟨k.os.trans h.os, k.tape.trans h.tape, k.output.trans h.output, Nat.le_trans h.size k.size, fun i hi hn => (k.block i (Nat.lt_of_lt_of_le hi h.size) (fun h2 => hn (hp i hi h2))).trans (h.block i hi hn)⟩
theorem But.mono {P' : Nat → Prop} (h : But P a b) (hp : ∀ k, k < a.heap.size → P k → P' k) : But P' a b := ⟨h.os, h.tape, h.output, h.size, fun i hi h2 => h.block i hi (fun h3 => h2 (hp i hi h3))⟩
theorem But.of_below (h : Below a.heap.size a b) : But P a b := ⟨h.os, h.tape, h.output, h.size, fun i hi _ => h.block i hi⟩
theorem But.below (h : But P a b) {B : Nat} (hB : B ≤ a.heap.size) (hp : ∀ k, P k → B ≤ k) : Below B a b := ⟨h.os, h.tape, h.output, h.size, fun i hi => h.block i (by omega) (fun h3 => by have := hp i h3; omega)⟩
theorem But.grown {row : Option Nat} (h : a.grownBy b row) : But (fun k => some k = row) a b := ⟨h.os, h.tape, h.output, h.size, h.block⟩
theorem But.alloc (h : But P a b) (o : Obj) : But P a (b.alloc o) := h.trans ⟨rfl, rfl, rfl, by simp, fun k hk _ => Below.heap_alloc _ _ _ (by omega)⟩
theorem But.drewN (h : But P a b) (n : Nat) : But P a (b.drewN n) := ⟨h.os, h.tape, h.output, h.size, h.block⟩
theorem But.drew (h : But P a b) : But P a b.drew := ⟨h.os, h.tape, h.output, h.size, h.block⟩
theorem But.setCell (h : But P a b) {p : Addr} (hp : p.block < a.heap.size → P p.block) (u : Value) : But P a (b.setCell p u) :=
  ⟨h.os, h.tape, h.output, by simpa [World.setCell] using h.size, fun k hk hn => (Below.heap_setCell b p u k (fun e => hn (e ▸ hp (e ▸ hk)))).trans (h.block k hk hn)⟩
theorem But.setRow (h : But P a b) {g : Nat} (hp : g < a.heap.size → P g) (cs : Array Value) : But P a (b.setRow g cs) :=
  ⟨h.os, h.tape, h.output, by simpa using h.size, fun k hk hn => (setRow_other b g k cs (fun e => hn (e ▸ hp (e ▸ hk)))).trans (h.block k hk hn)⟩
theorem But.lies {g : Nat} {t : TypeId} {cs : Array Value} (h : But P a b) (hl : Lies a g t cs) (hg : ¬ P g) : Lies b g t cs := (h.block g (lies_lt hl) hg).trans hl
end

def iV (z : Int) : Value := .int .i64 z
def bV (b : Bool) : Value := .bool b
def bRow (m : List Bool) : Array Value := (m.map bV).toArray
/-- the numbers as integers -/
def zs (l : List Nat) : List Int := l.map fun n : Nat => (n : Int)
def zg (G : Gr) : List (List Int) := G.map zs
@[simp] theorem zs_len (l : List Nat) : (zs l).length = l.length := by simp [zs]
@[simp] theorem zg_len (G : Gr) : (zg G).length = G.length := by simp [zg]
theorem setRow_alloc (w : World) (t : TypeId) (c cs : Array Value) : (w.alloc (.cells c t)).setRow w.heap.size cs = w.alloc (.cells cs t) := by
  unfold World.setRow World.alloc
  congr 1
  refine Array.ext_getElem? fun i => ?_
  simp only [Array.getElem?_modify, Array.getElem?_push]
  by_cases h : w.heap.size = i
  · subst h; simp
  · rw [if_neg h]
    by_cases h2 : i = w.heap.size
    · exact absurd h2.symm h
    · simp [h2]
/-- numbers in a slice -/
def IntsAt (w : World) (A : Option Addr) (l : List Int) : Prop := ∀ i (h : i < l.length), ∃ b o, A = some ⟨b, o, none⟩ ∧ b < w.heap.size ∧ w.cell? ⟨b, o + i, none⟩ = some (iV l[i])
/-- lists of numbers in a slice -/
def LsAt (w : World) (A : Option Addr) (N : List (List Int)) : Prop := ∀ i (h : i < N.length), ∃ b o A' c, A = some ⟨b, o, none⟩ ∧ b < w.heap.size ∧ w.cell? ⟨b, o + i, none⟩ = some (.slice A' N[i].length c) ∧ N[i].length ≤ c ∧ IntsAt w A' N[i]
theorem cell_same {w w' : World} {b o : Nat} {v : Value} (hc : w.cell? ⟨b, o, none⟩ = some v) (h : w'.heap[b]? = w.heap[b]?) : w'.cell? ⟨b, o, none⟩ = some v := (World.cell?_of_block (a := ⟨b, o, none⟩) h).trans hc
theorem intsAt_nil (w : World) (A : Option Addr) : IntsAt w A [] := fun i hi => by cases hi
theorem intsAt_below {w w' : World} {A : Option Addr} {l : List Int} (h : IntsAt w A l) (hb : Below w.heap.size w w') : IntsAt w' A l := fun i hi => by
  obtain ⟨b, o, e, hl, hc⟩ := h i hi
  exact ⟨b, o, e, Nat.lt_of_lt_of_le hl hb.size, cell_same hc (hb.block b hl)⟩
theorem lsAt_below {w w' : World} {A : Option Addr} {N : List (List Int)} (h : LsAt w A N) (hb : Below w.heap.size w w') : LsAt w' A N := fun i hi => by
  obtain ⟨b, o, A', c, e, hl, hc, hk, hi'⟩ := h i hi
  exact ⟨b, o, A', c, e, Nat.lt_of_lt_of_le hl hb.size, cell_same hc (hb.block b hl), hk, intsAt_below hi' hb⟩
/-- the blocks in which a row of cells of type t lies, of which each cell is of a kind -/
def Not (P : Nat → Prop) (w : World) (bad : Value → Prop) : Prop := ∀ k, P k → ∀ o v, w.cell? ⟨k, o, none⟩ = some v → ¬ bad v
theorem intsAt_but {P : Nat → Prop} {w w' : World} {A : Option Addr} {l : List Int} (h : IntsAt w A l) (hb : But P w w') (hn : ∀ k, k < w.heap.size → P k → ∀ o z, w.cell? ⟨k, o, none⟩ ≠ some (iV z)) : IntsAt w' A l := fun i hi => by
  obtain ⟨b, o, e, hl, hc⟩ := h i hi
  exact ⟨b, o, e, Nat.lt_of_lt_of_le hl hb.size, cell_same hc (hb.block b hl (fun hp => hn b hl hp _ _ hc))⟩
theorem lsAt_but {P : Nat → Prop} {w w' : World} {A : Option Addr} {N : List (List Int)} (h : LsAt w A N) (hb : But P w w') (hn : ∀ k, k < w.heap.size → P k → ∀ o z, w.cell? ⟨k, o, none⟩ ≠ some (iV z)) (hs : ∀ k, k < w.heap.size → P k → ∀ o A n c, w.cell? ⟨k, o, none⟩ ≠ some (.slice A n c)) : LsAt w' A N := fun i hi => by
  obtain ⟨b, o, A', c, e, hl, hc, hk, hi'⟩ := h i hi
  exact ⟨b, o, A', c, e, Nat.lt_of_lt_of_le hl hb.size, cell_same hc (hb.block b hl (fun hp => hs b hl hp _ _ _ _ hc)), hk, intsAt_but hi' hb hn⟩
theorem marks_cell {w : World} {M : Nat} {m : List Bool} (h : Lies w M 4 (bRow m)) (o : Nat) (v : Value) (hc : w.cell? ⟨M, o, none⟩ = some v) : ∃ b, v = .bool b := by
  rw [lies_cell h o] at hc
  unfold bRow at hc
  rw [List.getElem?_toArray, List.getElem?_map] at hc
  cases e : m[o]? with
  | none => rw [e] at hc; cases hc
  | some b => rw [e] at hc; injection hc with hc; exact ⟨b, hc.symm⟩
theorem lsAt_marks {w w' : World} {A : Option Addr} {N : List (List Int)} {M : Nat} {m : List Bool} (h : LsAt w A N) (hm : Lies w M 4 (bRow m)) (hb : But (· = M) w w') : LsAt w' A N :=
  lsAt_but h hb (fun k _ e o z hc => by subst e; obtain ⟨b, e⟩ := marks_cell hm o _ hc; cases e) (fun k _ e o _ _ _ hc => by subst e; obtain ⟨b, e⟩ := marks_cell hm o _ hc; cases e)
theorem intsAt_marks {w w' : World} {A : Option Addr} {l : List Int} {M : Nat} {m : List Bool} (h : IntsAt w A l) (hm : Lies w M 4 (bRow m)) (hb : But (· = M) w w') : IntsAt w' A l :=
  intsAt_but h hb (fun k _ e o z hc => by subst e; obtain ⟨b, e⟩ := marks_cell hm o _ hc; cases e)
theorem int_info : (Tryz.prog.info? 3).map (fun i => (i.zero, i.size, i.bytes)) = some (some (.int .i64 0), 1, 8) := by kernel_rfl
theorem list_info : (Tryz.prog.info? 27).map (fun i => (i.zero, i.size, i.bytes)) = some (some (.slice none 0 0), 1, 24) := by kernel_rfl
theorem bool_info : (Tryz.prog.info? 4).map (fun i => (i.zero, i.size, i.bytes)) = some (some (.bool false), 1, 1) := by kernel_rfl
/-- a row of numbers of one's own -/
def OwnI (w : World) (B : Nat) (v : Value) (l : List Int) : Prop := w.ownsRow B 3 1 v l.length (l.map iV)
theorem ownI_nil (w : World) (B : Nat) : OwnI w B (.slice none 0 0) [] := World.ownsRow_nil _ _ _ _
theorem own_but {P : Nat → Prop} {w w' : World} {B e size : Nat} {v : Value} {n : Nat} {xs : List Value} (h : w.ownsRow B e size v n xs) (hb : But P w w') (hn : ∀ k, v.ownBlock = some k → ¬ P k) : w'.ownsRow B e size v n xs := by
  refine ⟨h.1, ?_⟩
  rcases h.2 with hz | ⟨g, cap, cur, rfl, hB, hg, rest⟩
  · exact .inl hz
  · exact .inr ⟨g, cap, cur, rfl, hB, (hb.block g (Array.getElem?_eq_some_iff.1 hg).1 (hn g rfl)).trans hg, rest⟩
theorem own_heap {w : World} {B e size : Nat} {v : Value} {n : Nat} {xs : List Value} (h : w.ownsRow B e size v n xs) (b : Nat) (hb : v.ownBlock = some b) : B ≤ b ∧ b < w.heap.size ∧ ∃ cs, Lies w b e cs := by
  rcases h.2 with ⟨rfl, _⟩ | ⟨g, cap, cur, rfl, hbg, hg, _⟩
  · simp [Value.ownBlock] at hb
  · obtain rfl : g = b := by simpa [Value.ownBlock] using hb
    exact ⟨hbg, (Array.getElem?_eq_some_iff.1 hg).1, cur, hg⟩
theorem own_ne {w : World} {B e size : Nat} {v : Value} {n : Nat} {xs : List Value} (h : w.ownsRow B e size v n xs) {g t : Nat} {cs : Array Value} (hl : Lies w g t cs) (ht : t ≠ e) : v.ownBlock ≠ some g := fun hb => by
  obtain ⟨_, _, cs', h2⟩ := own_heap h g hb
  unfold Lies at hl h2
  rw [hl] at h2
  injection h2 with h2
  injection h2 with _ h4 _
  exact ht h4
theorem own_slice {w : World} {B e size : Nat} {v : Value} {n : Nat} {xs : List Value} (h : w.ownsRow B e size v n xs) : ∃ A C, v = .slice A n C := by
  rcases h.2 with ⟨e1, e2⟩ | ⟨g, cap, cur, e1, _⟩
  · exact ⟨none, 0, by rw [e2]; exact e1⟩
  · exact ⟨_, _, e1⟩
theorem own_base {w : World} {B B' e size : Nat} {v : Value} {n : Nat} {xs : List Value} (h : w.ownsRow B e size v n xs) (hb : ∀ k, v.ownBlock = some k → B' ≤ k) : w.ownsRow B' e size v n xs := by
  refine ⟨h.1, ?_⟩
  rcases h.2 with hz | ⟨g, cap, cur, rfl, hB, rest⟩
  · exact .inl hz
  · exact .inr ⟨g, cap, cur, rfl, hb g rfl, rest⟩
theorem ownI_ints {w : World} {B : Nat} {A : Option Addr} {n c : Nat} {l : List Int} (h : OwnI w B (.slice A n c) l) : n = l.length ∧ IntsAt w A l := by
  unfold OwnI at h
  rcases h.2 with ⟨e, e0⟩ | ⟨g, cap, cur, e, hg, hb, hc, _⟩
  · injection e with a b d
    subst a b d
    have : l = [] := List.length_eq_zero_iff.1 e0
    subst this
    exact ⟨rfl, intsAt_nil _ _⟩
  · injection e with a b d
    subst a b d
    refine ⟨rfl, fun i hi => ⟨g, 0, rfl, (Array.getElem?_eq_some_iff.1 hb).1, ?_⟩⟩
    rw [Nat.zero_add, h.cellAt _ (by omega)]
    rw [List.getElem?_map, List.getElem?_eq_getElem hi]
    rfl
theorem rng2 {w : World} {g : Nat} {t : TypeId} {a b : Value} (h : Lies w g t #[a, b]) : w.rangeAt g 0 [a, b] := fun j v hj => by
  rw [Nat.zero_add]
  have := lies_cell h j
  rw [this]
  simpa using hj
theorem wpList_built {P : Program} {ops : Array Oper} {rest : List Oper} {o : Oper} {a : Act} {w : World} {Q : Exit → Act → World → Prop} (hg : o.guard = none) (t : TypeId) (parts : Array (Nat × Operand)) (ho : o.op = .build t parts)
    (cells : Array Value) (hf : P.built t (parts.map fun (i, x) => (i, a.eval x)).toList = some cells)
    (h : wpList P ops Q rest (a.put o.dst (.agg cells)) w) : wpList P ops Q (o :: rest) a w :=
  wpList_build hg t parts ho (by rw [hf]; rfl) (by rw [hf]; exact h)
set_option maxRecDepth 100000 in
/-- one number more behind a row of one's own: the number lies in a block of one cell -/
theorem wpList_app_int {w : World} {ops : Array Oper} {rest : List Oper} {o : Oper} {a : Act} {Q : Exit → Act → World → Prop} (hgd : o.guard = none) (s x : Operand)
    (ho : o.op = .call { callee := .builtin .append, args := #[s, x], argTypes := #[27, 27] }) (B g : Nat) (z : Int) (v : Value) (l : List Int) (hs : a.eval s = v) (hown : OwnI w B v l) (hx : a.eval x = .slice (some ⟨g, 0, none⟩) 1 1) (hg : Lies w g 3 #[iV z])
    (hb : l.length ≤ 100000000) (hbase : B ≤ w.heap.size)
    (h : ∀ v' w', OwnI w' B v' (l ++ [z]) → w.grownBy w' v.ownBlock → wpList Tryz.prog ops Q rest (a.put o.dst v') w') : wpList Tryz.prog ops Q (o :: rest) a w := by
  obtain ⟨i0, hi, hz0, hz1, hz2⟩ := info_parts int_info
  refine wpList_append_own _ hgd s x 27 ho B 3 i0 (.int .i64 0) 1 8 Tryz.underlying27 hi hz0 hz1 hz2 rfl (by decide) v l.length (l.map iV) hs hown ⟨g, 0, none⟩ 1 1 [iV z] hx (by simp) (fun j u hj => by
    match j, hj with
    | 0, hj => injection hj with hj; subst hj; exact lies_cell hg 0
    | j + 1, hj => simp at hj) (fun u hu => by simp at hu; subst hu; rfl) (by unfold maxLen; omega) (by omega) hbase (fun v' w' h1 h2 _ => h v' w' ?_ h2)
  unfold OwnI
  rw [List.length_append, List.map_append]
  exact h1
end Go.Proofs.YtnbjfmkckebfgaaGreat
