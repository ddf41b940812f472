/-
What is proved here: several texts in one (Kep, Mem, Set, Sml, Eqn, Nmd, Lse): each says what it is about.
-/
import Derived.Test.YtjagddhkoacipaaMa2
import Derived.Maps.OwnSet
import Derived.Deep.MidRow
import Derived.OwnWalk
import Derived.Maps.OwnOps
import Derived.Maps.Views
import Derived.Laws.Cover1
import Derived.StringKeys
import Derived.Laws.StructEq
/-
What is proved here: path.Kept, by a contract.
-/
set_option linter.unusedSimpArgs false
namespace Go.Proofs.Ytjagddhkoacipaa
open Go.Pth Go.RowKit Go.Word Go.Shelf
attribute [local go_sem] Oper.semAt_some run_range_st

theorem names_in (n : Nat) (l : Bt) (w : World) :
    CallsIn .wide n Try.prog 77 #[St l] w fun e w' => e = .returned (.func (.func 92) #[] #[.pointer (some ⟨w.heap.size, 0, none⟩)]) ∧ w' = w.alloc (.cells #[St l] 9) := by
  refine callsIn_of_wp Try.func77 rfl trivial ?_ rfl
  simp only [Try.ntmps77, List.size_toArray, List.length_cons, List.length_nil, Nat.reduceAdd, Nat.reduceSub, Array.replicate_succ, Array.replicate_zero, List.push_toArray, List.append_toArray, List.nil_append, List.cons_append]
  gi_wp2
  go_ret
  exact ⟨rfl, rfl⟩

def keptN (x : Bt) : Bool := Lib.hasPrefix x [46, 116, 115]
def keptP (l : Bt) : Bool := (namesP l).any keptN
theorem pre_any (x : Bt) (w : World) : Calls Try.prog 78 #[St x, .string { data := #[46, 116, 115] }] w fun e w' => e = .returned (.bool (keptN x)) ∧ w = w' :=
  (strings_HasPrefix ⟨x.toArray⟩ ⟨#[46, 116, 115]⟩ w).mono fun _ _ h => ⟨h.1, h.2.symm⟩

set_option maxRecDepth 100000 in
set_option maxHeartbeats 4000000 in
theorem kept_in (n : Nat) (hn : 4 ≤ n) (l : Bt) (hl : l.length ≤ 100000) (w : World) :
    CallsIn .wide n Try.prog 57 #[St l] w fun e W' => e = .returned (.bool (keptP l)) ∧ Below w.heap.size w W' := by
  have h1 : 1 ≤ n := by omega
  have hn1 : 1 ≤ n - 1 - 1 := by omega
  refine callsIn_of_wp_marks Try.func57 rfl trivial ?_ rfl
  simp only [Try.ntmps57, List.size_toArray, List.length_cons, List.length_nil, Nat.reduceAdd, Nat.reduceSub, Array.replicate_succ, Array.replicate_zero, List.push_toArray, List.append_toArray, List.nil_append, List.cons_append]
  gi_wp2_with (refine ⟨trivial, ?_⟩; gi_at_call 77; refine (names_in (n - 1) l _).mono ?_; rintro e w' ⟨rfl, rfl⟩)
  have bO := Boxed.new w 4 (.bool false)
  have bN := Boxed.new (w.alloc (.cells #[.bool false] 4)) 9 (St l)
  rw [World.size_alloc] at bN
  have hB0 : Below w.heap.size w ((w.alloc (.cells #[.bool false] 4)).alloc (.cells #[St l] 9)) := ((Below.refl _ w).alloc (Nat.le_refl _) _).alloc (by simp) _
  refine wpIn_rangeFunc_ownF rfl h1 (gf := 92) (lb := #[.pointer (some ⟨w.heap.size + 1, 0, none⟩)]) rfl trivial (enters_of Try.func92 (by kernel_rfl) rfl)
    (names_stops (n - 1) (by omega) l hl (w.heap.size + 1) _ (by simp) bN.cell) ks_t (ks_b (by simp)) (Below.refl _ _) (fun _ => rfl)
    (fun (pre : List Bt) W => (∃ v, Boxed W w.heap.size 4 v ∧ pre.any keptN = false ∧ True) ∧ Below w.heap.size w W)
    (fun c (pre : List Bt) W => (c = .ret ∧ pre.any keptN = true ∧ Boxed W w.heap.size 4 (.bool true)) ∧ Below w.heap.size w W)
    (OwnFrom.and (Own.from (fun s X Y row ⟨v, hv, h⟩ hg hr => ⟨v, boxed_own (β := Unit) w.heap.size 4 (fun _ => v) () X Y row hv hg hr, h⟩) _) (ownFrom_below (Nat.le_refl _) (by simp; omega)))
    (fun c => OwnFrom.and (Own.from (fun s X Y row ⟨h1, h2, hv⟩ hg hr => ⟨h1, h2, boxed_own (β := Unit) w.heap.size 4 (fun _ => .bool true) () X Y row hv hg hr⟩) _) (ownFrom_below (Nat.le_refl _) (by simp; omega)))
    ⟨⟨_, bO.alloc _, rfl, trivial⟩, hB0⟩
    (fun x => { tmps := #[St l, undef, .pointer (some ⟨w.heap.size, 0, none⟩), St x, St l, .func (.func 92) #[] #[.pointer (some ⟨w.heap.size + 1, 0, none⟩)], St x, undef, undef], defers := [] })
    ?assign ?body ?done ?stop
  case assign =>
    intro l x W K hK
    dsimp only [encS]
    gi_wp2
    exact hK
  case body =>
    rintro lp pre x W ⟨⟨v, hv1, hno, _⟩, hB⟩ hlt
    have hc := hv1.cell
    have hf := hv1.frozen
    have P := Lib.hid (pre_any x W)
    cases hx : keptN x with
    | false =>
      rw [hx] at P
      have ha : (pre ++ [x]).any keptN = false := by rw [List.any_append, hno]; simp [hx]
      gi_wp2_with (refine ⟨trivial, ?_⟩; gi_at_call 78; refine (CallsIn.inRound lp (callsIn_wide.2 P.out)).mono ?_; rintro e w' ⟨rfl, rfl⟩)
      exact ⟨.refl _, ⟨rfl, .refl _⟩, ⟨v, hv1, ha, trivial⟩, hB⟩
    | true =>
      rw [hx] at P
      have ha : (pre ++ [x]).any keptN = true := by rw [List.any_append]; simp [hx]
      gi_wp2_with (refine ⟨trivial, ?_⟩; gi_at_call 78; refine (CallsIn.inRound lp (callsIn_wide.2 P.out)).mono ?_; rintro e w' ⟨rfl, rfl⟩)
      exact ⟨KeepsOthers.setCell _ _ _, ⟨rfl, ha, hv1.set _⟩, hB.setCell (p := ⟨w.heap.size, 0, none⟩) (Nat.le_refl _) _⟩
  case done =>
    rintro D ys W hD rfl ⟨⟨v, hv1, hno, _⟩, hB⟩ hK
    have hc := hv1.cell
    have hf := hv1.frozen
    have hkp : keptP l = false := hno
    gi_wp2
    have hK' := (KeepsOthers.setCell W ⟨w.heap.size, 0, none⟩ (.bool false)).same D _ hK rfl
    refine ⟨by simp, .inl ⟨_, _, rfl, run_takeDeferred hK', ?_⟩⟩
    have hc5 := cell_kept (hv1.set (.bool false)).cell (grownBy_putObj' _ D (.deferred none)) (fun r e => by cases e; exact ⟨_, hK', rfl⟩)
    refine ⟨.bool false, ?_, by rw [hkp], (hB.setCell (p := ⟨w.heap.size, 0, none⟩) (Nat.le_refl _) _).trans (belowK_b (w := w) (Nat.le_refl _) _ D _ _ (by simp at hD; omega) hK' rfl rfl)⟩
    simp [results, Try.f57, go_sem, hc5]
  case stop =>
    rintro D c pre W hD ⟨t, hpre⟩ ⟨⟨rfl, ha, hv1⟩, hB⟩ hK
    have hkp : keptP l = true := by unfold keptP; rw [← hpre, List.any_append, ha, Bool.true_or]
    gi_wp2
    refine ⟨by simp, .inl ⟨_, _, rfl, run_takeDeferred hK, ?_⟩⟩
    have hc5 := cell_kept hv1.cell (grownBy_putObj' _ D (.deferred none)) (fun r e => by cases e; exact ⟨_, hK, rfl⟩)
    refine ⟨.bool true, ?_, by rw [hkp], hB.trans (belowK_b (w := w) (Nat.le_refl _) W D _ _ (by simp at hD; omega) hK rfl rfl)⟩
    simp [results, Try.f57, go_sem, hc5]

theorem kept_any (l : Bt) (hl : l.length ≤ 100000) (w : World) : Calls Try.prog 57 #[St l] w fun e w' => e = .returned (.bool (keptP l)) ∧ Below w.heap.size w w' :=
  (callsIn_wide (n := 4)).1 (kept_in 4 (by omega) l hl w)
end Go.Proofs.Ytjagddhkoacipaa

/-
What is proved here: trees as lists of nodes and files; where they lie in memory; what stays as it was.
-/
set_option linter.unusedSimpArgs false
namespace Go.Tre
open Go.Pth
/-- a node: its path, its file's number or -1, its mode -/
structure Nd where
  path : Bt
  file : Int
  mode : Int
  deriving DecidableEq
/-- a file: its mode, its bytes -/
structure Fl where
  mode : Int
  data : Bt
  deriving DecidableEq
end Go.Tre
namespace Go.Proofs.Ytjagddhkoacipaa
open Go.Pth Go.Tre Go.RowKit Go.Word

def Fit64 (z : Int) : Prop := -9223372036854775808 ≤ z ∧ z ≤ 9223372036854775807
/-- nodes in a slice -/
def NodesAt (w : World) (A : Option Addr) (ns : List Nd) : Prop := ∀ i (h : i < ns.length), ∃ b o, A = some ⟨b, o, none⟩ ∧ b < w.heap.size ∧
  w.cell? ⟨b, o + i * 3, none⟩ = some (St ns[i].path) ∧ w.cell? ⟨b, o + i * 3 + 1, none⟩ = some (.int .i64 ns[i].file) ∧ w.cell? ⟨b, o + i * 3 + 2, none⟩ = some (.int .i64 ns[i].mode)
/-- bytes in a slice -/
def BytesAt (w : World) (A : Option Addr) (l : Bt) : Prop := ∀ i (h : i < l.length), ∃ b o, A = some ⟨b, o, none⟩ ∧ b < w.heap.size ∧ w.cell? ⟨b, o + i, none⟩ = some (.int .u8 (l[i].toNat : Int))
/-- files in a slice -/
def FilesAt (w : World) (A : Option Addr) (fs : List Fl) : Prop := ∀ i (h : i < fs.length), ∃ b o DA dc, A = some ⟨b, o, none⟩ ∧ b < w.heap.size ∧
  w.cell? ⟨b, o + i * 2, none⟩ = some (.int .i64 fs[i].mode) ∧ w.cell? ⟨b, o + i * 2 + 1, none⟩ = some (.slice DA fs[i].data.length dc) ∧ BytesAt w DA fs[i].data
theorem bytesAt_below {w w' : World} {A : Option Addr} {l : Bt} (h : BytesAt w A l) (hb : Below w.heap.size w w') : BytesAt w' A l := fun i hi => by
  obtain ⟨b, o, e, hl, hc⟩ := h i hi
  exact ⟨b, o, e, Nat.lt_of_lt_of_le hl hb.size, (hb.cell (p := ⟨b, o + i, none⟩) hl).trans hc⟩
theorem nodesAt_below {w w' : World} {A : Option Addr} {ns : List Nd} (h : NodesAt w A ns) (hb : Below w.heap.size w w') : NodesAt w' A ns := fun i hi => by
  obtain ⟨b, o, e, hl, h1, h2, h3⟩ := h i hi
  exact ⟨b, o, e, Nat.lt_of_lt_of_le hl hb.size, (hb.cell (p := ⟨b, o + i * 3, none⟩) hl).trans h1, (hb.cell (p := ⟨b, o + i * 3 + 1, none⟩) hl).trans h2, (hb.cell (p := ⟨b, o + i * 3 + 2, none⟩) hl).trans h3⟩
theorem filesAt_below {w w' : World} {A : Option Addr} {fs : List Fl} (h : FilesAt w A fs) (hb : Below w.heap.size w w') : FilesAt w' A fs := fun i hi => by
  obtain ⟨b, o, DA, dc, e, hl, h1, h2, h3⟩ := h i hi
  exact ⟨b, o, DA, dc, e, Nat.lt_of_lt_of_le hl hb.size, (hb.cell (p := ⟨b, o + i * 2, none⟩) hl).trans h1, (hb.cell (p := ⟨b, o + i * 2 + 1, none⟩) hl).trans h2, bytesAt_below h3 hb⟩
/-- block g is just the cells cs, of element type t, and may be written -/
def Lies (w : World) (g : Nat) (t : TypeId) (cs : Array Value) : Prop := w.heap[g]? = some (.cells cs t (0, 0))
section
variable {w w' : World} {g : Nat} {t : TypeId} {cs : Array Value}
theorem lies_lt (h : Lies w g t cs) : g < w.heap.size := by
  rcases Nat.lt_or_ge g w.heap.size with hlt | hge
  · exact hlt
  · unfold Lies at h; rw [Array.getElem?_eq_none hge] at h; cases h
theorem lies_cell (h : Lies w g t cs) (i : Nat) : w.cell? ⟨g, i, none⟩ = cs[i]? := cell_of_row w g i cs t (0, 0) h
theorem lies_free (h : Lies w g t cs) (i : Nat) : w.frozen? ⟨g, i, none⟩ = false := frozen_of_row w g i cs t h
theorem lies_new (w : World) (t : TypeId) (cs : Array Value) : Lies (w.alloc (.cells cs t)) w.heap.size t cs := heap_alloc_new w _
theorem lies_alloc (h : Lies w g t cs) (o : Obj) : Lies (w.alloc o) g t cs := (Below.heap_alloc w o g (lies_lt h)).trans h
theorem lies_set (h : Lies w g t cs) (i : Nat) (u : Value) : Lies (w.setCell ⟨g, i, none⟩ u) g t (cs.setIfInBounds i u) := heap_setCell_same w g i cs t u h
theorem lies_far (h : Lies w g t cs) {p : Addr} (hp : g ≠ p.block) (u : Value) : Lies (w.setCell p u) g t cs := (heap_setCell_other w p g u hp).trans h
theorem lies_drew (h : Lies w g t cs) : Lies w.drew g t cs := h
theorem lies_below {B : Nat} (h : Lies w g t cs) (hb : Below B w w') (hg : g < B) : Lies w' g t cs := (hb.block g hg).trans h
theorem lies_setRow {old : Array Value} (h : Lies w g t old) (cs : Array Value) : Lies (w.setRow g cs) g t cs := setRow_heap w g old cs t (0, 0) h
end
theorem below_setRow {B : Nat} {a w : World} (h : Below B a w) {g : Nat} (hg : B ≤ g) (cs : Array Value) : Below B a (w.setRow g cs) :=
  ⟨h.os, h.tape, h.output, by simpa using h.size, fun k hk => (setRow_other w g k cs (by omega)).trans (h.block k hk)⟩
theorem below_setCell {B : Nat} {a w : World} (h : Below B a w) {p : Addr} (hg : B ≤ p.block) (u : Value) : Below B a (w.setCell p u) :=
  ⟨h.os, h.tape, h.output, by simpa [World.setCell] using h.size, fun k hk => (Below.heap_setCell w p u k (by omega)).trans (h.block k hk)⟩

/-! a set of texts in a map -/
def SetAt (w : World) (b n : Nat) (S : Bt → Bool) : Prop := ∃ D : DataW Unit, w.ownsMap Try.prog 9 unitElem b n D ∧ ∀ l, Maps.has D (.string l) = S l
theorem keyed9 : Maps.Keyed Try.prog 9 := Maps.string_keyed Try.underlying9
theorem zero79 (w : World) : (zeroValue 98).run Try.prog w = .ok (.agg #[]) w := by kernel_rfl
theorem key_st (l : Bt) (h : l.length ≤ 100000) : keyOf Try.prog 9 (St l) = some (.string l) := by
  unfold St
  simp [keyOf, mapKey, Try.underlying9, ByteArray.size, maxLen]
  omega
end Go.Proofs.Ytjagddhkoacipaa

/-
What is proved here: a set of texts in a map, by its operations; the order of texts.
-/
set_option linter.unusedSimpArgs false
namespace Go.Pth
/-- is a text not behind another one -/
def leB (a b : Bt) : Bool := Op.bytesLess a b || a == b
end Go.Pth
namespace Go.Proofs.Ytjagddhkoacipaa
open Go.Pth Go.Tre Go.RowKit Go.Word

theorem st_leq (t : TypeId) (a b : Bt) : binOp .leq t (St a) (St b) = pure (.bool (leB a b)) := by
  unfold St leB
  rw [binOp_string_leq, ByteArray.toList_mk, ByteArray.toList_mk]
section
variable {w w' : World} {b n : Nat} {S : Bt → Bool}
theorem set_made (w : World) : SetAt (w.alloc (.map #[] 0)) w.heap.size 0 (fun _ => false) := ⟨.map [], World.ownsMap_made _ _ _ _, fun _ => rfl⟩
theorem set_mono {n' : Nat} (h : SetAt w b n S) (hn : n ≤ n') : SetAt w b n' S := by
  obtain ⟨D, h1, h2⟩ := h
  exact ⟨D, h1.mono hn, h2⟩
theorem set_kept {row : Option Nat} (h : SetAt w b n S) (hg : w.grownBy w' row) (hne : some b ≠ row) : SetAt w' b n S := by
  obtain ⟨D, h1, h2⟩ := h
  exact ⟨D, h1.kept hg hne, h2⟩
theorem set_below (h : SetAt w b n S) (hb : Below w.heap.size w w') : SetAt w' b n S := set_kept (row := none) h ⟨hb.os, hb.tape, hb.output, hb.size, fun i hi _ => hb.block i hi⟩ (by simp)
theorem set_lt (h : SetAt w b n S) : b < w.heap.size := by
  obtain ⟨D, h1, _⟩ := h
  exact h1.lt
theorem is_key (l : Bt) : WideAt.IsKeyLit (.string l) := by simp [WideAt.IsKeyLit]
/-- one more -/
theorem set_put (h : SetAt w b n S) (l : Bt) (hl : l.length ≤ 100000) (hn : n ≤ 100000) : ∃ w', (Instr.mapUpdate 99 (.map (some b)) (St l) (.agg #[])).run Try.prog w = .ok () w' ∧ SetAt w' b (n + 1) (fun x => x == l || S x) ∧ w.grownBy w' (some b) := by
  obtain ⟨D, h1, h2⟩ := h
  obtain ⟨w', hr, h3, h4⟩ := h1.update keyed9 Try.underlying99 (by unfold maxLen; omega) (key_st l hl) unitElem_mk
  refine ⟨w', hr, ⟨_, h3, fun x => ?_⟩, h4⟩
  by_cases e : x = l
  · subst e
    rw [Maps.has_put_same h1.isMap (is_key x)]
    simp
  · rw [Maps.has_put_other (by simpa using e), h2]
    have : (x == l) = false := by simpa using e
    show S x = (x == l || S x)
    rw [this]
    rfl
theorem set_look (h : SetAt w b n S) (l : Bt) (hl : l.length ≤ 100000) : (Instr.lookup 99 (.map (some b)) (St l) true).run Try.prog w = .ok (.tuple #[.agg #[], .bool (S l)]) w := by
  obtain ⟨D, h1, h2⟩ := h
  obtain ⟨v, ps, hr, hv⟩ := h1.look_ok keyed9 Try.underlying99 (zero79 w) unitElem_mk (key_st l hl)
  obtain ⟨rfl, _⟩ := unitElem_inv hv
  rw [hr, h2]
end
end Go.Proofs.Ytjagddhkoacipaa

/-
What is proved here: package tree's small looks at a mode, a name, a file, by contracts.
-/
set_option linter.unusedSimpArgs false
namespace Go.Tre
def okMode (m : Int) : Bool := decide (0 ≤ m ∧ m ≤ 511)
/-- can it be a name of a file -/
def nameB (x : Nd) : Bool := decide (0 ≤ x.file ∧ x.mode = 0)
end Go.Tre
namespace Go.Proofs.Ytjagddhkoacipaa
open Go.Pth Go.Tre Go.RowKit Go.Word

theorem isMode_any (m : Int) (w : World) : Calls Try.prog 70 #[.int .i64 m] w fun e w' => e = .returned (.bool (okMode m)) ∧ w = w' := by
  by_cases h1 : 0 ≤ m
  · by_cases h2 : m ≤ 511
    · have hr : okMode m = true := decide_eq_true ⟨h1, h2⟩
      rw [hr]
      clear hr
      go_enter Try.func70, Try.ntmps70
      go_wp2
      go_ret
      exact ⟨rfl, rfl⟩
    · have hr : okMode m = false := decide_eq_false (by omega)
      rw [hr]
      clear hr
      go_enter Try.func70, Try.ntmps70
      go_wp2
      go_ret
      exact ⟨rfl, rfl⟩
  · have hr : okMode m = false := decide_eq_false (by omega)
    rw [hr]
    clear hr
    go_enter Try.func70, Try.ntmps70
    go_wp2
    go_ret
    exact ⟨rfl, rfl⟩
theorem wrongMode_any (m : Int) (d : Value) (w : World) : Calls Try.prog 72 #[.agg #[.int .i64 m, d]] w fun e w' => e = .returned (.bool (!okMode m)) ∧ Below w.heap.size w w' := by
  have c0 : (w.alloc (.cells #[.int .i64 m, d] 57)).cell? ⟨w.heap.size, 0, none⟩ = some (.int .i64 m) := lies_cell (lies_new w 57 #[.int .i64 m, d]) 0
  have HB := Lib.hid (show Below w.heap.size w (w.alloc (.cells #[.int .i64 m, d] 57)) from (Below.refl _ _).alloc (Nat.le_refl _) _)
  go_enter Try.func72, Try.ntmps72
  go_wp2_with (go_at_call 70; (with_reducible refine (isMode_any _ _).mono ?_); rintro e w1 ⟨rfl, rfl⟩)
  go_ret
  exact ⟨rfl, HB.out⟩
theorem great_any (m : Int) (A : Option Addr) (l c : Nat) (w : World) : Calls Try.prog 62 #[.agg #[.int .i64 m, .slice A l c]] w fun e w' => e = .returned (.bool (decide (8192 < l))) ∧ Below w.heap.size w w' := by
  have c1 : (w.alloc (.cells #[.int .i64 m, .slice A l c] 57)).cell? ⟨w.heap.size, 1, none⟩ = some (.slice A l c) := lies_cell (lies_new w 57 #[.int .i64 m, .slice A l c]) 1
  have HB := Lib.hid (show Below w.heap.size w (w.alloc (.cells #[.int .i64 m, .slice A l c] 57)) from (Below.refl _ _).alloc (Nat.le_refl _) _)
  have e : decide (8192 < l) = decide ((8192 : Int) < (l : Int)) := by
    by_cases h : 8192 < l
    · rw [decide_eq_true h, decide_eq_true (by omega)]
    · rw [decide_eq_false h, decide_eq_false (by omega)]
  rw [e]
  clear e
  go_enter Try.func62, Try.ntmps62
  go_wp2
  go_ret
  exact ⟨rfl, HB.out⟩
end Go.Proofs.Ytjagddhkoacipaa

/-
What is proved here: two nodes compared as structs; isName, by a contract.
-/
set_option linter.unusedSimpArgs false
namespace Go.Proofs.Ytjagddhkoacipaa
open Go.Pth Go.Tre Go.RowKit Go.Word

def ndV (p : Bt) (f m : Int) : Value := .agg #[St p, .int .i64 f, .int .i64 m]
theorem fields47 : Try.prog.underlying 54 = some (.struct (Try.prog.fieldsOf 54)) := by kernel_rfl
theorem eqs_st (d : Nat) (a b : Bt) (w : World) : (Op.equalIn (d + 1) 9 (St a) (St b)).run Try.prog w = .ok (same a b) w := by
  unfold St
  rw [run_equalIn_string w d 9 _ _ Try.underlying9, ByteArray.toList_mk, ByteArray.toList_mk, beq_dec]
  rfl
def eqNd (p q : Bt) (f g m k : Int) : Bool := same p q && (f == g && m == k)
set_option maxRecDepth 100000 in
theorem eql_node (p q : Bt) (f g m k : Int) (w : World) : (binOp .eql 54 (.agg #[St p, .int .i64 f, .int .i64 m]) (.agg #[St q, .int .i64 g, .int .i64 k])).run Try.prog w = .ok (.bool (eqNd p q f g m k)) w := by
  have hf : (Try.prog.fieldsOf 54).toList.map (fun x => (x.name == "_", x.type, x.offset)) = [(false, 9, 0), (false, 3, 1), (false, 3, 2)] := by kernel_rfl
  rw [run_eql_struct, run_equalIn_agg w 9999 54 _ _ fields47 (by kernel_rfl)]
  obtain ⟨x, y, z, hl⟩ : ∃ x y z, (Try.prog.fieldsOf 54).toList = [x, y, z] := by
    match h : (Try.prog.fieldsOf 54).toList with
    | [x, y, z] => exact ⟨x, y, z, rfl⟩
    | [] => rw [h] at hf; cases hf
    | [_] => rw [h] at hf; simp at hf
    | [_, _] => rw [h] at hf; simp at hf
    | _ :: _ :: _ :: _ :: _ => rw [h] at hf; simp at hf
  rw [hl] at hf ⊢
  simp at hf
  obtain ⟨⟨n1, t1, o1⟩, ⟨n2, t2, o2⟩, ⟨n3, t3, o3⟩⟩ := hf
  have p1 : ∀ (a : Bt) (b c : Value) (W : World), (part 9 #[St a, b, c] 0).run Try.prog W = .ok (St a) W := fun a b c W => by
    unfold part
    rw [Sem.run_bind, (by kernel_rfl : (isAgg 9).run Try.prog W = .ok false W)]
    simp
  have p2 : ∀ (a : Int) (b c : Value) (W : World), (part 3 #[b, .int .i64 a, c] 1).run Try.prog W = .ok (.int .i64 a) W := fun a b c W => by
    unfold part
    rw [Sem.run_bind, (by kernel_rfl : (isAgg 3).run Try.prog W = .ok false W)]
    simp
  have p3 : ∀ (a : Int) (b c : Value) (W : World), (part 3 #[b, c, .int .i64 a] 2).run Try.prog W = .ok (.int .i64 a) W := fun a b c W => by
    unfold part
    rw [Sem.run_bind, (by kernel_rfl : (isAgg 3).run Try.prog W = .ok false W)]
    simp
  have e2 : ∀ (a b : Int) (W : World), (Op.equalIn 9999 3 (.int .i64 a) (.int .i64 b)).run Try.prog W = .ok (a == b) W := fun a b W => run_equalIn_int W 9998 3 .i64 .i64 a b Try.underlying3
  simp only [Op.eqFields, ne_eq, n1, n2, n3, t1, t2, t3, o1, o2, o3, not_false_eq_true, if_true, Sem.run_bind, p1, p2, p3, Result.andThen_ok, eqs_st 9998, e2]
  unfold eqNd
  cases same p q with
  | false => simp [Sem.run_pure]
  | true =>
    simp only [Bool.not_true, Bool.false_eq_true, if_false, Sem.run_bind, p1, p2, p3, Result.andThen_ok, e2, Bool.true_and]
    cases f == g with
    | false => simp [Sem.run_pure]
    | true =>
      simp only [Bool.not_true, Bool.false_eq_true, if_false, Sem.run_bind, p1, p2, p3, Result.andThen_ok, e2, Bool.true_and]
      cases m == k <;> simp [Sem.run_pure]
theorem guard_node (op : BinOp) (x y : Operand) (xs ys : Array Value) (w : World) : (eqGuard op 54 x y (.agg xs) (.agg ys)).run Try.prog w = .ok () w := run_eqGuard_agg w op 54 x y xs ys (by kernel_rfl)
end Go.Proofs.Ytjagddhkoacipaa

/-
What is proved here: isName, by a contract; the scans over files for one that is wrong, by contracts.
-/
set_option linter.unusedSimpArgs false
namespace Go.Proofs.Ytjagddhkoacipaa
open Go.Pth Go.Tre Go.RowKit Go.Word

theorem eqNd_self (p : Bt) (f m : Int) : eqNd p p f f m 0 = (m == 0) := by simp [eqNd, same]
set_option maxRecDepth 100000 in
theorem isName_any (p : Bt) (f m : Int) (w : World) : Calls Try.prog 71 #[.agg #[St p, .int .i64 f, .int .i64 m]] w fun e w' => e = .returned (.bool (nameB ⟨p, f, m⟩)) ∧ Below w.heap.size w w' := by
  have L := lies_new w 54 #[St p, .int .i64 f, .int .i64 m]
  have c0 := lies_cell L 0
  have c1 := lies_cell L 1
  have c2 := lies_cell L 2
  have hE := fun W => eql_node p p f f m 0 W
  have hG := fun x y W => guard_node .eql x y #[St p, .int .i64 f, .int .i64 m] #[St p, .int .i64 f, .int .i64 0] W
  rw [eqNd_self] at hE
  have hs : ∀ W, (Op.equalIn 9999 9 (St p) (St p)).run Try.prog W = .ok true W := fun W => by rw [eqs_st 9998]; simp [same]
  have HB := Lib.hid (show Below w.heap.size w (w.alloc (.cells #[St p, .int .i64 f, .int .i64 m] 54)) from (Below.refl _ _).alloc (Nat.le_refl _) _)
  clear L
  by_cases h1 : 0 ≤ f
  · have hr : nameB ⟨p, f, m⟩ = (m == 0) := by
      unfold nameB
      by_cases hm : m = 0 <;> simp [h1, hm]
    rw [hr]
    clear hr
    go_enter Try.func71, Try.ntmps71
    go_wp2
    · rename_i h
      exfalso
      revert h
      simp [St]
    · rename_i h2
      go_ret
      subst h2
      exact ⟨rfl, HB.out⟩
    · rename_i h2
      go_ret
      refine ⟨?_, HB.out⟩
      have : (m == 0) = false := by simpa using h2
      rw [this]
      rfl
  · have hr : nameB ⟨p, f, m⟩ = false := decide_eq_false (by show ¬ (0 ≤ f ∧ m = 0); omega)
    rw [hr]
    clear hr
    go_enter Try.func71, Try.ntmps71
    go_wp2
    go_ret
    exact ⟨rfl, HB.out⟩


set_option maxRecDepth 100000 in
theorem great_index (A : Option Addr) (c : Nat) (fs : List Fl) (w : World) (hn : fs.length ≤ 1000000) (h : FilesAt w A fs) :
    Calls Try.prog 81 #[.slice A fs.length c, .func (.func 62) #[] #[]] w fun e w' => (∃ k : Int, e = .returned (.int .i64 k) ∧ (0 ≤ k ↔ fs.any (fun x => decide (8192 < x.data.length)) = true)) ∧ Below w.heap.size w w' := by
  have H := Lib.hid h
  clear h
  obtain ⟨n, hne⟩ : ∃ n, n = fs.length := ⟨_, rfl⟩
  rw [← hne] at hn ⊢
  have NE := Lib.hid hne
  clear hne
  obtain ⟨r0, hr0⟩ : ∃ r0, r0 = fs.any (fun x => decide (8192 < x.data.length)) := ⟨_, rfl⟩
  rw [← hr0]
  have HR0 := Lib.hid hr0
  clear hr0
  go_enter Try.func81, Try.ntmps81
  go_wp2
  go_loopw [5, 8] (fun _ v8 wr => ∃ i : Nat, i ≤ n ∧ v8 = .int .i64 (i : Int) ∧ (fs.take i).any (fun x => decide (8192 < x.data.length)) = false ∧ Below w.heap.size w wr) (fun _ v8 _ => n - (intOf v8).toNat)
  case atStart => exact ⟨0, Nat.zero_le _, rfl, by simp, Below.refl _ _⟩
  case round =>
    obtain ⟨i, hi, rfl, hno, hb⟩ := hrel
    have HB := Lib.hid hb
    have NO := Lib.hid hno
    clear hb hno
    by_cases hlt : i < n
    · have li : (i : Int) < (n : Int) := by omega
      have hlf : i < fs.length := by have := NE.out; omega
      obtain ⟨b, o, DA, dc, eA, hl, h1, h2, _⟩ := H.out i hlf
      subst eA
      have d1 := (HB.out.cell (p := ⟨b, o + i * 2, none⟩) hl).trans h1
      have d2 := (HB.out.cell (p := ⟨b, o + i * 2 + 1, none⟩) hl).trans h2
      have HT := Lib.hid (show (fs.take (i + 1)).any (fun x => decide (8192 < x.data.length)) = (fun x : Fl => decide (8192 < x.data.length)) fs[i] by
        rw [List.take_succ_eq_append_getElem hlf, List.any_append, NO.out]; simp)
      have HA := Lib.hid (show (fun x : Fl => decide (8192 < x.data.length)) fs[i] = true → r0 = true from fun h => by rw [HR0.out]; exact List.any_eq_true.2 ⟨_, List.getElem_mem _, h⟩)
      clear h1 h2
      generalize fs[i] = x at *
      obtain ⟨md, dt⟩ := x
      have LM := Lib.hid (show wr.rangeAt b (o + i * 2) [.int .i64 md, .slice DA dt.length dc] from fun j v hj => by
        match j, hj with
        | 0, hj => injection hj with hj; subst hj; exact d1
        | 1, hj => injection hj with hj; subst hj; exact d2
        | j + 2, hj => simp at hj)
      have HT2 := Lib.hid (show (fs.take (i + 1)).any (fun x => decide (8192 < x.data.length)) = decide (8192 < dt.length) from HT.out)
      have HA2 := Lib.hid (show decide (8192 < dt.length) = true → r0 = true from HA.out)
      have G := Lib.hid (fun W => great_any md DA dt.length dc W)
      clear d1 d2 HT HA
      generalize decide (8192 < dt.length) = r at HT2 HA2 G
      go_wp2_with (first
        | (refine wpList_load_mid rfl 57 _ rfl b (o + i * 2) rfl [.int .i64 md, .slice DA dt.length dc] _ LM.out Try.underlying57 rfl (by kernel_rfl) ?_)
        | (go_at_call 62; (with_reducible refine (G.out _).mono ?_); rintro e w1 ⟨rfl, hb⟩; have HB1 := Lib.hid (HB.out.trans (hb.mono HB.out.size)); clear hb))
      · rename_i hd
        go_ret
        exact ⟨⟨(i : Int), rfl, ⟨fun _ => HA2.out hd, fun _ => by omega⟩⟩, HB1.out⟩
      · rename_i hd
        go_roundw
        case rel => exact ⟨i + 1, by omega, by go_num, HT2.out.trans (by simpa using hd), HB1.out⟩
        case measure => first | (simp [intOf]; done) | (simp [intOf]; omega)
    · have li : ¬ (i : Int) < (n : Int) := by omega
      have e1 : fs.take i = fs := List.take_of_length_le (by have := NE.out; omega)
      have E := Lib.hid (show r0 = false by rw [HR0.out, ← NO.out, e1])
      clear e1
      go_wp2
      go_ret
      exact ⟨⟨-1, rfl, ⟨fun h => absurd h (by decide), fun h => by rw [E.out] at h; cases h⟩⟩, HB.out⟩
theorem great_contains (A : Option Addr) (c : Nat) (fs : List Fl) (w : World) (hn : fs.length ≤ 1000000) (h : FilesAt w A fs) :
    Calls Try.prog 63 #[.slice A fs.length c, .func (.func 62) #[] #[]] w fun e w' => e = .returned (.bool (fs.any (fun x => decide (8192 < x.data.length)))) ∧ Below w.heap.size w w' := by
  have K := Lib.hid (great_index A c fs w hn h)
  clear h hn
  generalize fs.any (fun x => decide (8192 < x.data.length)) = r at *
  go_enter Try.func63, Try.ntmps63
  go_wp2_with (go_at_call 81; (with_reducible refine K.out.mono ?_); rintro e w1 ⟨⟨k, rfl, hk⟩, hb⟩; have HB := Lib.hid hb; have HK := Lib.hid hk; clear hb hk)
  go_ret
  refine ⟨?_, HB.out⟩
  have e : decide (0 ≤ k) = r := by
    have := HK.out
    cases r with
    | true => exact decide_eq_true (this.2 rfl)
    | false => exact decide_eq_false (fun h => by cases this.1 h)
  rw [← e]
  rfl

set_option maxRecDepth 100000 in
theorem wrong_index (A : Option Addr) (c : Nat) (fs : List Fl) (w : World) (hn : fs.length ≤ 1000000) (h : FilesAt w A fs) :
    Calls Try.prog 81 #[.slice A fs.length c, .func (.func 72) #[] #[]] w fun e w' => (∃ k : Int, e = .returned (.int .i64 k) ∧ (0 ≤ k ↔ fs.any (fun x => (!okMode x.mode)) = true)) ∧ Below w.heap.size w w' := by
  have H := Lib.hid h
  clear h
  obtain ⟨n, hne⟩ : ∃ n, n = fs.length := ⟨_, rfl⟩
  rw [← hne] at hn ⊢
  have NE := Lib.hid hne
  clear hne
  obtain ⟨r0, hr0⟩ : ∃ r0, r0 = fs.any (fun x => (!okMode x.mode)) := ⟨_, rfl⟩
  rw [← hr0]
  have HR0 := Lib.hid hr0
  clear hr0
  go_enter Try.func81, Try.ntmps81
  go_wp2
  go_loopw [5, 8] (fun _ v8 wr => ∃ i : Nat, i ≤ n ∧ v8 = .int .i64 (i : Int) ∧ (fs.take i).any (fun x => (!okMode x.mode)) = false ∧ Below w.heap.size w wr) (fun _ v8 _ => n - (intOf v8).toNat)
  case atStart => exact ⟨0, Nat.zero_le _, rfl, by simp, Below.refl _ _⟩
  case round =>
    obtain ⟨i, hi, rfl, hno, hb⟩ := hrel
    have HB := Lib.hid hb
    have NO := Lib.hid hno
    clear hb hno
    by_cases hlt : i < n
    · have li : (i : Int) < (n : Int) := by omega
      have hlf : i < fs.length := by have := NE.out; omega
      obtain ⟨b, o, DA, dc, eA, hl, h1, h2, _⟩ := H.out i hlf
      subst eA
      have d1 := (HB.out.cell (p := ⟨b, o + i * 2, none⟩) hl).trans h1
      have d2 := (HB.out.cell (p := ⟨b, o + i * 2 + 1, none⟩) hl).trans h2
      have HT := Lib.hid (show (fs.take (i + 1)).any (fun x => (!okMode x.mode)) = (fun x : Fl => (!okMode x.mode)) fs[i] by
        rw [List.take_succ_eq_append_getElem hlf, List.any_append, NO.out]; simp)
      have HA := Lib.hid (show (fun x : Fl => (!okMode x.mode)) fs[i] = true → r0 = true from fun h => by rw [HR0.out]; exact List.any_eq_true.2 ⟨_, List.getElem_mem _, h⟩)
      clear h1 h2
      generalize fs[i] = x at *
      obtain ⟨md, dt⟩ := x
      have LM := Lib.hid (show wr.rangeAt b (o + i * 2) [.int .i64 md, .slice DA dt.length dc] from fun j v hj => by
        match j, hj with
        | 0, hj => injection hj with hj; subst hj; exact d1
        | 1, hj => injection hj with hj; subst hj; exact d2
        | j + 2, hj => simp at hj)
      have HT2 := Lib.hid (show (fs.take (i + 1)).any (fun x => (!okMode x.mode)) = (!okMode md) from HT.out)
      have HA2 := Lib.hid (show (!okMode md) = true → r0 = true from HA.out)
      have G := Lib.hid (fun W => wrongMode_any md (.slice DA dt.length dc) W)
      clear d1 d2 HT HA
      generalize (!okMode md) = r at HT2 HA2 G
      go_wp2_with (first
        | (refine wpList_load_mid rfl 57 _ rfl b (o + i * 2) rfl [.int .i64 md, .slice DA dt.length dc] _ LM.out Try.underlying57 rfl (by kernel_rfl) ?_)
        | (go_at_call 72; (with_reducible refine (G.out _).mono ?_); rintro e w1 ⟨rfl, hb⟩; have HB1 := Lib.hid (HB.out.trans (hb.mono HB.out.size)); clear hb))
      · rename_i hd
        go_ret
        exact ⟨⟨(i : Int), rfl, ⟨fun _ => HA2.out hd, fun _ => by omega⟩⟩, HB1.out⟩
      · rename_i hd
        go_roundw
        case rel => exact ⟨i + 1, by omega, by go_num, HT2.out.trans (by simpa using hd), HB1.out⟩
        case measure => first | (simp [intOf]; done) | (simp [intOf]; omega)
    · have li : ¬ (i : Int) < (n : Int) := by omega
      have e1 : fs.take i = fs := List.take_of_length_le (by have := NE.out; omega)
      have E := Lib.hid (show r0 = false by rw [HR0.out, ← NO.out, e1])
      clear e1
      go_wp2
      go_ret
      exact ⟨⟨-1, rfl, ⟨fun h => absurd h (by decide), fun h => by rw [E.out] at h; cases h⟩⟩, HB.out⟩
theorem wrong_contains (A : Option Addr) (c : Nat) (fs : List Fl) (w : World) (hn : fs.length ≤ 1000000) (h : FilesAt w A fs) :
    Calls Try.prog 63 #[.slice A fs.length c, .func (.func 72) #[] #[]] w fun e w' => e = .returned (.bool (fs.any (fun x => (!okMode x.mode)))) ∧ Below w.heap.size w w' := by
  have K := Lib.hid (wrong_index A c fs w hn h)
  clear h hn
  generalize fs.any (fun x => (!okMode x.mode)) = r at *
  go_enter Try.func63, Try.ntmps63
  go_wp2_with (go_at_call 81; (with_reducible refine K.out.mono ?_); rintro e w1 ⟨⟨k, rfl, hk⟩, hb⟩; have HB := Lib.hid hb; have HK := Lib.hid hk; clear hb hk)
  go_ret
  refine ⟨?_, HB.out⟩
  have e : decide (0 ≤ k) = r := by
    have := HK.out
    cases r with
    | true => exact decide_eq_true (this.2 rfl)
    | false => exact decide_eq_false (fun h => by cases this.1 h)
  rw [← e]
  rfl
end Go.Proofs.Ytjagddhkoacipaa

/-
What is proved here: package tree's tooGreat, and Loose, by contracts.
-/
set_option linter.unusedSimpArgs false
namespace Go.Tre
open Go.Pth
def anyGreat (fs : List Fl) : Bool := fs.any (fun x => decide (8192 < x.data.length))
def anyWrong (fs : List Fl) : Bool := fs.any (fun x => !okMode x.mode)
def tooB (n : Nat) (fs : List Fl) : Bool := decide (256 < n) || (decide (256 < fs.length) || anyGreat fs)
/-- one node more: the directories so far, the last path, how many files are named -/
def nodeT (D : Bt → Bool) (last : Bt) (named : Int) (x : Nd) : Option ((Bt → Bool) × Bt × Int) :=
  if leB x.path last = true ∨ isPath x.path = false then none
  else if D (upP x.path) = false then none
  else if x.file = -1 ∧ okMode x.mode = true then some (fun y => y == x.path || D y, x.path, named)
  else if nameB x = true ∧ x.file ≤ named then some (D, x.path, max named (x.file + 1))
  else none
def walkT : (Bt → Bool) → Bt → Int → List Nd → Option Int
  | _, _, k, [] => some k
  | D, l, k, x :: r => match nodeT D l k x with
    | none => none
    | some (D', l', k') => walkT D' l' k' r
def root : Bt → Bool := fun y => y == [] || false
def looseB (ns : List Nd) (fs : List Fl) : Bool := match walkT root [] 0 ns with
  | none => false
  | some k => decide (k = fs.length) && !anyWrong fs
def looseE (ns : List Nd) (fs : List Fl) : Int := if tooB ns.length fs then 31 else if looseB ns fs then 0 else 30
end Go.Tre
namespace Go.Proofs.Ytjagddhkoacipaa
open Go.Pth Go.Tre Go.RowKit Go.Word

set_option maxRecDepth 100000 in
theorem tooGreat_any (NA FA : Option Addr) (n nc mc : Nat) (fs : List Fl) (w : World) (h : FilesAt w FA fs) :
    Calls Try.prog 40 #[.agg #[.slice NA n nc, .slice FA fs.length mc]] w fun e w' => e = .returned (.bool (tooB n fs)) ∧ Below w.heap.size w w' := by
  have L := lies_new w 25 #[.slice NA n nc, .slice FA fs.length mc]
  have c0 : (w.alloc (.cells #[.slice NA n nc, .slice FA fs.length mc] 25)).cell? ⟨w.heap.size, 0, none⟩ = some (.slice NA n nc) := lies_cell L 0
  have c1 : (w.alloc (.cells #[.slice NA n nc, .slice FA fs.length mc] 25)).cell? ⟨w.heap.size, 1, none⟩ = some (.slice FA fs.length mc) := lies_cell L 1
  have hb : Below w.heap.size w (w.alloc (.cells #[.slice NA n nc, .slice FA fs.length mc] 25)) := (Below.refl _ _).alloc (Nat.le_refl _) _
  have K := fun (hm : fs.length ≤ 1000000) => Lib.hid (great_contains FA mc fs _ hm (filesAt_below h hb))
  have HB := Lib.hid hb
  clear L h hb
  by_cases h1 : 256 < n
  · have hr : tooB n fs = true := by simp [tooB, h1]
    have t1 : 256 < (n : Int) := by omega
    have t2 : decide (256 < n) = true := decide_eq_true h1
    rw [hr]
    clear hr K
    generalize fs.length = m at *
    go_enter Try.func40, Try.ntmps40
    go_wp2
    go_ret
    exact ⟨rfl, HB.out⟩
  · have t1 : ¬ 256 < (n : Int) := by omega
    have t2 : decide (256 < n) = false := decide_eq_false h1
    by_cases h2 : 256 < fs.length
    · have hr : tooB n fs = true := by simp [tooB, h2]
      have s1 : 256 < (fs.length : Int) := by omega
      have s2 : decide (256 < fs.length) = true := decide_eq_true h2
      rw [hr]
      clear hr K
      generalize fs.length = m at *
      go_enter Try.func40, Try.ntmps40
      go_wp2
      go_ret
      exact ⟨rfl, HB.out⟩
    · have hr : tooB n fs = anyGreat fs := by simp [tooB, h1, h2]
      have s1 : ¬ 256 < (fs.length : Int) := by omega
      have s2 : decide (256 < fs.length) = false := decide_eq_false h2
      have K2 := K (by omega)
      rw [hr]
      change Hid (Calls _ _ _ _ fun e w' => e = .returned (.bool (anyGreat fs)) ∧ _) at K2
      clear hr K
      generalize anyGreat fs = r at *
      generalize fs.length = m at *
      go_enter Try.func40, Try.ntmps40
      go_wp2_with (go_at_call 63; (with_reducible refine K2.out.mono ?_); rintro e w1 ⟨rfl, hb⟩; have HB1 := Lib.hid (HB.out.trans (hb.mono HB.out.size)); clear hb)
      go_ret
      exact ⟨rfl, HB1.out⟩

end Go.Proofs.Ytjagddhkoacipaa
