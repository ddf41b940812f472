/-
What is proved here: texts and bytes as lists, rows of bytes of one's own, and what each operation on them answers.
-/
import Derived.Test.YtlnmaejpchncoaaDoorRows
import Derived.Test.YtlnmaejpchncoaaDoorKTools
import Derived.WalkKit
import Derived.ProofKit
import Derived.Lib.Hide
import Derived.Lib.AppendStr
import Derived.Lib.SliceRun
import Derived.Laws.AppendOwnNone
import Derived.Laws.Cover1
import Derived.Maps.OwnSet
import Derived.Maps.OwnOps
import Derived.Maps.Views
import Derived.Deep.MidRow
import Derived.Deep.Draws
import Derived.Deep.Cut
import Derived.Deep.QuietTactic
import Derived.BigQuiet
import Derived.StringKeys
import Derived.Laws.BytesString
import Derived.OwnWalk
import Derived.Laws.Rows
import Derived.StillTailTactics
import Derived.Lib.SlBytesConst
set_option linter.unusedSimpArgs false
namespace Go.Stk
abbrev Bt := List UInt8
/-- where the content i ends -/
def endN (cs : List Bt) (i : Nat) : Nat := (cs.take (i + 1)).flatten.length
/-- the place of a content, or -1 -/
def find (cs : List Bt) (b : Bt) : Int := if b ∈ cs then (cs.idxOf b : Nat) else -1
theorem endN_snoc {cs : List Bt} {b : Bt} {i : Nat} (h : i < cs.length) : endN (cs ++ [b]) i = endN cs i := by
  unfold endN
  rw [List.take_append_of_le_length (by omega)]
theorem endN_last (cs : List Bt) (b : Bt) : endN (cs ++ [b]) cs.length = (cs ++ [b]).flatten.length := by
  unfold endN
  rw [List.take_of_length_le (by simp)]
theorem flat_at (cs : List Bt) (i : Nat) (h : i < cs.length) : (cs.flatten.drop (cs.take i).flatten.length).take cs[i].length = cs[i] ∧ (cs.take i).flatten.length + cs[i].length = endN cs i ∧ endN cs i ≤ cs.flatten.length := by
  have e : cs = cs.take i ++ (cs[i] :: cs.drop (i + 1)) := by rw [List.getElem_cons_drop]; exact (List.take_append_drop i cs).symm
  have e2 : cs.flatten = (cs.take i).flatten ++ (cs[i] ++ (cs.drop (i + 1)).flatten) := by
    conv => lhs; rw [e]
    rw [List.flatten_append, List.flatten_cons]
  have e3 : endN cs i = (cs.take i).flatten.length + cs[i].length := by
    unfold endN
    rw [List.take_succ_eq_append_getElem h, List.flatten_append, List.length_append]
    simp
  refine ⟨?_, e3.symm, ?_⟩
  · conv => lhs; rw [e2]
    rw [List.drop_left, List.take_left]
  · rw [e3, e2, List.length_append, List.length_append]
    omega
theorem find_yes {cs : List Bt} {b : Bt} (h : b ∈ cs) : find cs b = (cs.idxOf b : Nat) := by unfold find; rw [if_pos h]
theorem find_no {cs : List Bt} {b : Bt} (h : b ∉ cs) : find cs b = -1 := by unfold find; rw [if_neg h]
end Go.Stk
namespace Go.Proofs.YtlnmaejpchncoaaDoor.K
open Go.Stk Go.RowKit Go.Word

/-- a string as Go holds it -/
def St (l : Bt) : Value := .string ⟨l.toArray⟩
theorem st_lit (b : ByteArray) (l : Bt) (h : b.data.toList = l) : Value.string b = St l := by subst h; rfl
theorem size_st (l : Bt) : (ByteArray.mk l.toArray).size = l.length := by simp [ByteArray.size]
def same (a b : Bt) : Bool := decide (a = b)
def other (a b : Bt) : Bool := decide (a ≠ b)
theorem beq_dec (a b : Bt) : (a == b) = decide (a = b) := by
  by_cases h : a = b
  · subst h; simp
  · rw [decide_eq_false h]; exact beq_eq_false_iff_ne.2 h
theorem st_eql (t : TypeId) (a b : Bt) : binOp .eql t (St a) (St b) = pure (.bool (same a b)) := by
  unfold St
  rw [binOp_string_eql, ByteArray.toList_mk, ByteArray.toList_mk, beq_dec]; rfl
theorem st_neq (t : TypeId) (a b : Bt) : binOp .neq t (St a) (St b) = pure (.bool (other a b)) := by
  unfold St
  rw [binOp_string_neq, ByteArray.toList_mk, ByteArray.toList_mk, beq_dec]
  unfold other
  by_cases h : a = b <;> simp [h]
theorem guard_eq (t : TypeId) (x y : Operand) (a : Bt) (v : Value) : eqGuard .eql t x y (St a) v = pure () := rfl
theorem guard_ne (t : TypeId) (x y : Operand) (a : Bt) (v : Value) : eqGuard .neq t x y (St a) v = pure () := rfl

/-- block g is just the cells cs, of element type t, and may be written -/
def Lies (w : World) (g : Nat) (t : TypeId) (cs : Array Value) : Prop := w.heap[g]? = some (.cells cs t (0, 0))
section
variable {w w' : World} {g : Nat} {t : TypeId} {cs : Array Value}
theorem lies_lt (h : Lies w g t cs) : g < w.heap.size := by
  rcases Nat.lt_or_ge g w.heap.size with hlt | hge
  · exact hlt
  · unfold Lies at h; rw [Array.getElem?_eq_none hge] at h; cases h
theorem lies_cell (h : Lies w g t cs) (i : Nat) : w.cell? ⟨g, i, none⟩ = cs[i]? := cell_of_row w g i cs t (0, 0) h
theorem lies_free (h : Lies w g t cs) (i : Nat) : w.frozen? ⟨g, i, none⟩ = false := frozen_of_row w g i cs t h
theorem lies_new (w : World) (t : TypeId) (cs : Array Value) : Lies (w.alloc (.cells cs t)) w.heap.size t cs := heap_alloc_new w _
theorem lies_alloc (h : Lies w g t cs) (o : Obj) : Lies (w.alloc o) g t cs := (Below.heap_alloc w o g (lies_lt h)).trans h
theorem lies_set (h : Lies w g t cs) (i : Nat) (u : Value) : Lies (w.setCell ⟨g, i, none⟩ u) g t (cs.setIfInBounds i u) := heap_setCell_same w g i cs t u h
theorem lies_far (h : Lies w g t cs) {p : Addr} (hp : g ≠ p.block) (u : Value) : Lies (w.setCell p u) g t cs := (heap_setCell_other w p g u hp).trans h
theorem lies_drew (h : Lies w g t cs) : Lies w.drew g t cs := h
theorem lies_drewN (h : Lies w g t cs) (n : Nat) : Lies (w.drewN n) g t cs := h
theorem lies_below {B : Nat} (h : Lies w g t cs) (hb : Below B w w') (hg : g < B) : Lies w' g t cs := (hb.block g hg).trans h
theorem lies_setRow {old : Array Value} (h : Lies w g t old) (cs : Array Value) : Lies (w.setRow g cs) g t cs := setRow_heap w g old cs t (0, 0) h
end
theorem below_setRow {B : Nat} {a w : World} (h : Below B a w) {g : Nat} (hg : B ≤ g) (cs : Array Value) : Below B a (w.setRow g cs) :=
  ⟨h.os, h.tape, h.output, by simpa using h.size, fun k hk => (setRow_other w g k cs (by omega)).trans (h.block k hk)⟩
theorem below_setCell {B : Nat} {a w : World} (h : Below B a w) {p : Addr} (hg : B ≤ p.block) (u : Value) : Below B a (w.setCell p u) :=
  ⟨h.os, h.tape, h.output, by simpa [World.setCell] using h.size, fun k hk => (Below.heap_setCell w p u k (by omega)).trans (h.block k hk)⟩
theorem below_drewN {B : Nat} {a w : World} (h : Below B a w) (n : Nat) : Below B a (w.drewN n) := ⟨h.os, h.tape, h.output, h.size, h.block⟩
theorem wpList_built {P : Program} {ops : Array Oper} {rest : List Oper} {o : Oper} {a : Act} {w : World} {Q : Exit → Act → World → Prop} (hg : o.guard = none) (t : TypeId) (parts : Array (Nat × Operand)) (ho : o.op = .build t parts)
    (cells : Array Value) (hf : P.built t (parts.map fun (i, x) => (i, a.eval x)).toList = some cells)
    (h : wpList P ops Q rest (a.put o.dst (.agg cells)) w) : wpList P ops Q (o :: rest) a w :=
  wpList_build hg t parts ho (by rw [hf]; rfl) (by rw [hf]; exact h)

/-- bytes in a slice -/
def BytesAt (w : World) (A : Option Addr) (l : Bt) : Prop := ∀ i (h : i < l.length), ∃ b o, A = some ⟨b, o, none⟩ ∧ b < w.heap.size ∧ w.cell? ⟨b, o + i, none⟩ = some (.int .u8 (l[i].toNat : Int))
theorem bytesAt_below {w w' : World} {A : Option Addr} {l : Bt} (h : BytesAt w A l) (hb : Below w.heap.size w w') : BytesAt w' A l := fun i hi => by
  obtain ⟨b, o, e, hl, hc⟩ := h i hi
  exact ⟨b, o, e, Nat.lt_of_lt_of_le hl hb.size, (hb.cell (p := ⟨b, o + i, none⟩) hl).trans hc⟩
theorem bytesAt_nil (w : World) (A : Option Addr) : BytesAt w A [] := fun i hi => by cases hi
theorem bytesAt_none {w : World} {l : Bt} (h : BytesAt w none l) : l = [] := by
  cases l with
  | nil => rfl
  | cons c t =>
    obtain ⟨b, o, e, _⟩ := h 0 (by simp)
    cases e
theorem push_all (l : Bt) : ∀ s : ByteArray, (l.map fun x => (x.toNat : Int)).foldl (fun r n => r.push (UInt8.ofNat n.toNat)) s = ⟨s.data ++ l.toArray⟩ := by
  induction l with
  | nil => intro s; simp
  | cons x r ih =>
    intro s
    rw [List.map_cons, List.foldl_cons, ih]
    have e : UInt8.ofNat ((x.toNat : Int)).toNat = x := by simp
    rw [e]
    show (⟨(s.data.push x) ++ r.toArray⟩ : ByteArray) = _
    simp
set_option maxRecDepth 100000 in
theorem run_text (A : Option Addr) (l : Bt) (c : Nat) (w : World) (h : BytesAt w A l) : (convert 24 9 (.slice A l.length c)).run Tryd.prog w = .ok (St l) w := by
  rw [run_convert_bytes_string w 24 9 5 _ _ c Tryd.underlying24 Tryd.underlying5 (by kernel_rfl)]
  have e0 : (l.map fun x => (x.toNat : Int)).foldl (fun r n => r.push (UInt8.ofNat n.toNat)) ByteArray.empty = ⟨l.toArray⟩ := by
    rw [push_all]
    simp [ByteArray.empty, ByteArray.emptyWithCapacity]
    try rfl
  cases A with
  | none =>
    have e : l = [] := by
      rcases l with _ | ⟨x, r⟩
      · rfl
      · obtain ⟨b, o, e, _⟩ := h 0 (by simp)
        cases e
    subst e
    simp [Conv.bytesToString]
    rfl
  | some ad =>
    have hk := run_loadCells_list (P := Tryd.prog) w ad (l.map fun x => Value.int .u8 (x.toNat : Int)) (fun j v hj => by
      rcases Nat.lt_or_ge j l.length with hl | hl
      · obtain ⟨b, o, e, _, hc⟩ := h j hl
        injection e with e
        subst e
        rw [Addr.add_mid, hc, ← hj]
        simp [hl]
      · rw [List.getElem?_eq_none (by simpa using hl)] at hj; cases hj)
    rw [List.length_map] at hk
    have := run_bytesToString w ad l.length c (l.map fun x => (x.toNat : Int)) (by rw [hk, List.map_map]; rfl)
    rw [this, e0]
    rfl
def yB (c : UInt8) : Value := .int .u8 (c.toNat : Int)
theorem byte_info : (Tryd.prog.info? 5).map (fun i => (i.zero, i.size, i.bytes)) = some (some (.int .u8 0), 1, 1) := by kernel_rfl
/-- a row of bytes of one's own -/
def OwnB (w : World) (B : Nat) (v : Value) (l : Bt) : Prop := w.ownsRow B 5 1 v l.length (l.map yB)
theorem ownB_below {w w1 : World} {B : Nat} {v : Value} {l : Bt} (h : OwnB w B v l) (hb : Below w.heap.size w w1) : OwnB w1 B v l :=
  World.ownsRow.kept h ⟨hb.os, hb.tape, hb.output, hb.size, fun i hi _ => hb.block i hi⟩ (row := none) (by cases v.ownBlock <;> simp)
theorem ownB_alloc {w : World} {B : Nat} {v : Value} {l : Bt} (h : OwnB w B v l) (o : Obj) : OwnB (w.alloc o) B v l := World.ownsRow.alloc h o
theorem ownB_nil (w : World) (B : Nat) : OwnB w B (.slice none 0 0) [] := World.ownsRow_nil _ _ _ _
/-- all but one's own row is as it was -/
def Keep5 (w w' : World) (v : Value) : Prop := ∀ i, i < w.heap.size → some i ≠ v.ownBlock → w'.heap[i]? = w.heap[i]?
theorem lies_keep {w w' : World} {g B : Nat} {T : TypeId} {cs : Array Value} {v : Value} {l : Bt} (hT : T ≠ 5) (h : Lies w g T cs) (ho : OwnB w B v l) (hk : Keep5 w w' v) : Lies w' g T cs :=
  (hk g (lies_lt h) (fun e => by
    rcases ho.2 with ⟨rfl, _⟩ | ⟨g', cap, cur, rfl, _, hgb, _⟩
    · simp [Value.ownBlock] at e
    · obtain rfl : g = g' := by simpa [Value.ownBlock] using e
      unfold Lies at h
      rw [h] at hgb
      injection hgb with hgb
      injection hgb with _ h2 _
      exact hT h2)).trans h
theorem keep5_alloc {w w1 : World} {v : Value} {tmp : Obj} (hg : (w.alloc tmp).grownBy w1 v.ownBlock) : Keep5 w w1 v := fun i hi hne => (hg.block i (by simp; omega) hne).trans (Below.heap_alloc w tmp i hi)
theorem keep5_grown {w w1 : World} {v : Value} (hg : w.grownBy w1 v.ownBlock) : Keep5 w w1 v := fun i hi hne => hg.block i hi hne
theorem append_belowB {B : Nat} {wr w1 : World} {v : Value} {l : Bt} {tmp : Obj} (hrow : OwnB wr B v l) (hB : B ≤ wr.heap.size) (hg : (wr.alloc tmp).grownBy w1 v.ownBlock) : Below B wr w1 :=
  ((Below.refl B wr).alloc hB tmp).grown hg (by simp; omega) (fun j ej => (World.ownsRow.lt hrow j ej).1)
theorem append_belowB0 {B : Nat} {wr w1 : World} {v : Value} {l : Bt} (hrow : OwnB wr B v l) (hB : B ≤ wr.heap.size) (hg : wr.grownBy w1 v.ownBlock) : Below B wr w1 :=
  (Below.refl B wr).grown hg hB (fun j ej => (World.ownsRow.lt hrow j ej).1)
theorem run_append_none_cap (w : World) (base : Nat) (t ty e : TypeId) (i : TypeInfo) (size : Nat) (ht : Tryd.prog.underlying t = some (.slice e)) (hi : Tryd.prog.info? e = some i)
    (v : Value) (n : Nat) (xs : List Value) (c : Nat) (hown : w.ownsRow base e size v n xs) :
    (Builtin.append_ #[t, t] ty #[v, .slice none 0 c]).run Tryd.prog w = .ok v w := by
  rcases hown.2 with ⟨rfl, rfl⟩ | ⟨g, cap, cur, rfl, _, _, hnc, _⟩
  · simp [Builtin.append_, run_underlying ht, sizeOf, typeInfo, hi, Builtin.lenOf, Builtin.firstCells]
  · simp [Builtin.append_, run_underlying ht, sizeOf, typeInfo, hi, Builtin.lenOf, Builtin.firstCells, hnc, storeCells]
set_option maxRecDepth 100000 in
theorem wpList_app_bytes {w : World} {ops : Array Oper} {rest : List Oper} {o : Oper} {a : Act} {Q : Exit → Act → World → Prop} (hgd : o.guard = none) (s x : Operand)
    (ho : o.op = .call { callee := .builtin .append, args := #[s, x], argTypes := #[24, 24] }) (B : Nat) (v : Value) (l : Bt) (hs : a.eval s = v) (hown : OwnB w B v l)
    (DA : Option Addr) (dc : Nat) (d : Bt) (hx : a.eval x = .slice DA d.length dc) (hd : BytesAt w DA d) (hb1 : l.length ≤ 100000000) (hb2 : d.length ≤ 100000000) (hbase : B ≤ w.heap.size)
    (h : ∀ v' w', OwnB w' B v' (l ++ d) → Below B w w' → Keep5 w w' v → wpList Tryd.prog ops Q rest (a.put o.dst v') w') : wpList Tryd.prog ops Q (o :: rest) a w := by
  obtain ⟨i0, hi, hz0, hz1, hz2⟩ := info_parts byte_info
  cases DA with
  | none =>
    have hd0 : d = [] := by
      cases d with
      | nil => rfl
      | cons c t =>
        obtain ⟨b, o, e, _⟩ := hd 0 (by simp)
        cases e
    subst hd0
    rw [List.append_nil] at h
    refine wpList_plain hgd fun K hK => ?_
    have hrun := run_append_none_cap w B 24 o.type 5 i0 1 Tryd.underlying24 hi v l.length (l.map yB) dc hown
    unfold Oper.wp
    simp only [List.length_nil] at hx
    simp [execOp, ho, resolve, invoke, builtin, hs, hx, hrun, Result.andThen]
    exact hK _ _ (h _ _ hown (Below.refl _ _) (fun _ _ _ => rfl))
  | some ad =>
    refine wpList_append_own _ hgd s x 24 ho B 5 i0 (.int .u8 0) 1 1 Tryd.underlying24 hi hz0 hz1 hz2 rfl (by decide) v l.length (l.map yB) hs hown ad d.length dc (d.map yB) hx (by simp) (fun j u hj => ?_) (fun u hu => ?_) (by unfold maxLen; omega) (by omega) hbase (fun v' w' h1 h2 _ => h v' w' ?_ ?_ (keep5_grown h2))
    · have hjl : j < d.length := by
        have := (List.getElem?_eq_some_iff.1 hj).1
        simpa using this
      obtain ⟨b, o, e, _, hc⟩ := hd j hjl
      injection e with e
      subst e
      rw [Addr.add_mid, hc]
      rw [List.getElem?_map, List.getElem?_eq_getElem hjl] at hj
      simpa [yB] using hj
    · obtain ⟨c, _, rfl⟩ := List.mem_map.1 hu
      rfl
    · unfold OwnB
      rw [List.length_append, List.map_append]
      exact h1
    · exact append_belowB0 hown hbase h2
theorem own_heap {w : World} {B e size : Nat} {v : Value} {n : Nat} {xs : List Value} (h : w.ownsRow B e size v n xs) (b : Nat) (hb : v.ownBlock = some b) : B ≤ b ∧ ∃ cs, w.heap[b]? = some (.cells cs e (0, 0)) := by
  rcases h.2 with ⟨rfl, _⟩ | ⟨g, cap, cur, rfl, hbg, hg, _⟩
  · simp [Value.ownBlock] at hb
  · obtain rfl : g = b := by simpa [Value.ownBlock] using hb
    exact ⟨hbg, cur, hg⟩
theorem own_other {w : World} {B e size : Nat} {v : Value} {n : Nat} {xs : List Value} (h : w.ownsRow B e size v n xs) {row : Option Nat} (hr : ∀ r, row = some r → ∃ cs t, w.heap[r]? = some (.cells cs t (0, 0)) ∧ t ≠ e) : v.ownBlock = none ∨ v.ownBlock ≠ row := by
  cases hv : v.ownBlock with
  | none => exact .inl rfl
  | some b =>
    refine .inr (fun e1 => ?_)
    obtain ⟨cs, t, h1, h2⟩ := hr b e1.symm
    obtain ⟨_, cs', h3⟩ := own_heap h b hv
    rw [h1] at h3
    injection h3 with h3
    injection h3 with _ h4 _
    exact h2 h4
set_option maxRecDepth 100000 in
theorem run_app_fresh (w : World) (ty : TypeId) (DA : Option Addr) (dc : Nat) (d : Bt) (hd : BytesAt w DA d) (hb : d.length ≤ 100000000) :
    ∃ v' w', (Builtin.append_ #[24, 24] ty #[.slice none 0 0, .slice DA d.length dc]).run Tryd.prog w = .ok v' w' ∧ OwnB w' w.heap.size v' d ∧ w.grownBy w' none := by
  obtain ⟨i0, hi, hz0, hz1, hz2⟩ := info_parts byte_info
  have hnil : w.ownsRow w.heap.size 5 1 (.slice none 0 0) 0 [] := World.ownsRow_nil _ _ _ _
  cases DA with
  | none =>
    have hd0 : d = [] := by
      cases d with
      | nil => rfl
      | cons c t =>
        obtain ⟨b, o, e, _⟩ := hd 0 (by simp)
        cases e
    subst hd0
    exact ⟨_, w, run_append_none_cap w w.heap.size 24 ty 5 i0 1 Tryd.underlying24 hi (.slice none 0 0) 0 [] dc hnil, hnil, ⟨rfl, rfl, rfl, Nat.le_refl _, fun _ _ _ => rfl⟩⟩
  | some ad =>
    obtain ⟨v', w', h1, h2, h3, _⟩ := run_append_own (P := Tryd.prog) w w.heap.size 24 ty 5 i0 (.int .u8 0) 1 1 Tryd.underlying24 hi hz0 hz1 hz2 rfl (by decide) (.slice none 0 0) 0 [] hnil ad d.length dc (d.map yB) (by simp) (fun j u hj => by
      have hjl : j < d.length := by
        have := (List.getElem?_eq_some_iff.1 hj).1
        simpa using this
      obtain ⟨b, o, e, _, hc⟩ := hd j hjl
      injection e with e
      subst e
      rw [Addr.add_mid, hc]
      rw [List.getElem?_map, List.getElem?_eq_getElem hjl] at hj
      simpa [yB] using hj) (fun u hu => by obtain ⟨c, _, rfl⟩ := List.mem_map.1 hu; rfl) (by unfold maxLen; omega) (by omega) (Nat.le_refl _)
    refine ⟨v', w', h1, ?_, h3⟩
    unfold OwnB
    simpa using h2
theorem own_slice {w : World} {B e size : Nat} {v : Value} {n : Nat} {xs : List Value} (h : w.ownsRow B e size v n xs) : ∃ A C, v = .slice A n C := by
  rcases h.2 with ⟨e1, e2⟩ | ⟨g, cap, cur, e1, _⟩
  · exact ⟨none, 0, by rw [e2]; exact e1⟩
  · exact ⟨_, _, e1⟩
theorem grown_setRow (w : World) (g : Nat) (cs : Array Value) : w.grownBy (w.setRow g cs) (some g) :=
  ⟨rfl, rfl, rfl, by simp, fun k hk hne => by simp at hne; exact setRow_other w g k cs hne⟩
theorem grown_setCell (w : World) (g i : Nat) (u : Value) : w.grownBy (w.setCell ⟨g, i, none⟩ u) (some g) :=
  ⟨rfl, rfl, rfl, by simp [World.setCell], fun k hk hne => Below.heap_setCell w ⟨g, i, none⟩ u k (by simpa using hne)⟩
theorem own_bytes {w : World} {B : Nat} {A : Option Addr} {n c : Nat} {l : Bt} (h : OwnB w B (.slice A n c) l) : n = l.length ∧ BytesAt w A l ∧ n ≤ c ∧ (A = none → c = 0) := by
  have h0 := h
  unfold OwnB at h
  rcases h.2 with ⟨e, e0⟩ | ⟨g, cap, cur, e, hg, hb, hc, _⟩
  · injection e with a b d
    subst a b d
    have : l = [] := List.length_eq_zero_iff.1 e0
    subst this
    exact ⟨rfl, bytesAt_nil _ _, Nat.le_refl _, fun _ => rfl⟩
  · injection e with a b d
    subst a b d
    refine ⟨rfl, fun i hi => ⟨g, 0, rfl, (Array.getElem?_eq_some_iff.1 hb).1, ?_⟩, hc, fun e => by cases e⟩
    rw [Nat.zero_add, h.cellAt _ (by omega)]
    rw [List.getElem?_map, List.getElem?_eq_getElem hi]
    rfl
end Go.Proofs.YtlnmaejpchncoaaDoor.K
