/-
What is proved here: a law's own list of contents, and bytes that a law spoils.
-/
import Derived.Test.YtlnmaejpchncoaaPlh
import Derived.Test.YtlnmaejpchncoaaByt
set_option linter.unusedSimpArgs false
set_option linter.unusedVariables false
namespace Go.Proofs.Ytlnmaejpchncoaa
open Go.Stk Go.RowKit Go.Word
theorem own_at {w : World} {B e size n C : Nat} {A : Option Addr} {xs : List Value} (h : w.ownsRow B e size (.slice A n C) n xs) (hn : 0 < n) : ∃ g, A = some ⟨g, 0, none⟩ := by
  rcases h.2 with ⟨_, h0⟩ | ⟨g, cap, cur, e, _⟩
  · omega
  · injection e with e
    exact ⟨g, e⟩
/-- a law's own list of contents: its row and each content's bytes in blocks of M -/
structure Mine (w : World) (M : Nat → Prop) (v : Value) (cs : List Bt) (xs : List Value) : Prop where
  row : w.ownsRow 0 31 1 v cs.length xs
  own : ∀ r, v.ownBlock = some r → M r
  each : ∀ i (h : i < cs.length), ∃ DA dc, xs[i]? = some (.slice DA cs[i].length dc) ∧ BytesAt w DA cs[i] ∧ (0 < cs[i].length → ∀ a, DA = some a → M a.block ∧ v.ownBlock ≠ some a.block)
section
variable {w w' : World} {M N : Nat → Prop} {v : Value} {cs : List Bt} {xs : List Value}
theorem mine_nil (w : World) (M : Nat → Prop) : Mine w M (.slice none 0 0) [] [] := ⟨World.ownsRow_nil _ _ _ _, fun r e => by simp [Value.ownBlock] at e, fun i h => by cases h⟩
theorem mine_same (h : Mine w M v cs xs) (hb : ∀ i, M i → i < w.heap.size → w'.heap[i]? = w.heap[i]?) (hs : w.heap.size ≤ w'.heap.size) : Mine w' M v cs xs where
  row := own_same h.row (fun b e hl => hb b (h.own b e) hl)
  own := h.own
  each := fun i hi => by
    obtain ⟨DA, dc, h1, h2, h3⟩ := h.each i hi
    refine ⟨DA, dc, h1, fun j hj => ?_, h3⟩
    obtain ⟨b, o, e, hl, hc⟩ := h2 j hj
    refine ⟨b, o, e, Nat.lt_of_lt_of_le hl hs, ?_⟩
    rw [← hc]
    exact World.cell?_of_block (a := ⟨b, o + j, none⟩) (hb b (h3 (by omega) _ e).1 hl)
theorem mine_below (h : Mine w M v cs xs) (hb : Below w.heap.size w w') : Mine w' M v cs xs := mine_same h (fun i _ hi => hb.block i hi) hb.size
theorem mine_keeps (h : Mine w M v cs xs) (hk : Keeps N w w') (ha : ∀ i, M i → ¬ N i) : Mine w' M v cs xs := mine_same h (fun i hm hi => hk.block i hi (ha i hm)) hk.size
theorem mine_mono (h : Mine w M v cs xs) (hs : ∀ i, M i → N i) : Mine w N v cs xs := ⟨h.row, fun r e => hs r (h.own r e), fun i hi => by
  obtain ⟨DA, dc, h1, h2, h3⟩ := h.each i hi
  exact ⟨DA, dc, h1, h2, fun h0 a e => ⟨hs _ (h3 h0 a e).1, (h3 h0 a e).2⟩⟩⟩
theorem mine_cut (h : Mine w M v cs xs) : Mine w (fun i => M i ∧ i < w.heap.size) v cs xs := ⟨h.row, fun r e => ⟨h.own r e, (h.row.lt r e).2⟩, fun i hi => by
  obtain ⟨DA, dc, h1, h2, h3⟩ := h.each i hi
  refine ⟨DA, dc, h1, h2, fun h0 a e => ⟨⟨(h3 h0 a e).1, ?_⟩, (h3 h0 a e).2⟩⟩
  obtain ⟨b, o, e2, hl, _⟩ := h2 0 h0
  rw [e] at e2
  injection e2 with e2
  subst e2
  exact hl⟩
theorem mine_list {A : Option Addr} {n c : Nat} (h : Mine w M (.slice A n c) cs xs) : n = cs.length ∧ ListAt w A cs := by
  rcases h.row.2 with ⟨e, e0⟩ | ⟨g, cap, cur, e, hg, hb, hc, _⟩
  · injection e with a b d
    subst a b d
    exact ⟨e0.symm, fun i hi => by omega⟩
  · injection e with a b d
    subst a b d
    refine ⟨rfl, fun i hi => ?_⟩
    obtain ⟨DA, dc, h3, h4, _⟩ := h.each i hi
    refine ⟨g, 0, DA, dc, rfl, (Array.getElem?_eq_some_iff.1 hb).1, ?_, h4⟩
    rw [Nat.zero_add, h.row.cellAt _ (by omega), h3]
/-- one content more -/
theorem mine_app (h : Mine w M v cs xs) (ty : TypeId) (g : Nat) (DA : Option Addr) (dc : Nat) (b : Bt) (hl : w.cell? ⟨g, 0, none⟩ = some (.slice DA b.length dc)) (hb : BytesAt w DA b) (hn : cs.length ≤ 1000000)
    (hv : ∀ a, DA = some a → 0 < b.length → v.ownBlock ≠ some a.block) :
    ∃ v' w', (Builtin.append_ #[30, 30] ty #[v, .slice (some ⟨g, 0, none⟩) 1 1]).run Try.prog w = .ok v' w' ∧ Mine w' (fun i => M i ∨ i = w.heap.size ∨ (0 < b.length ∧ ∃ a, DA = some a ∧ i = a.block)) v' (cs ++ [b]) (xs ++ [.slice DA b.length dc]) ∧ Keeps M w w' := by
  obtain ⟨v', w', h3, h4, h5, h6⟩ := app_slice w 0 ty v cs.length xs h.row g (.slice DA b.length dc) rfl hl hn (Nat.zero_le _)
  have hx : xs.length = cs.length := by have := h.row.1; omega
  have hk : Keeps M w w' := ⟨h5.os, h5.tape, h5.output, h5.size, fun i hi hm => h5.block i hi (fun e => hm (h.own i e.symm))⟩
  have ns : ∀ (DB : Option Addr) (d : Bt), BytesAt w DB d → (∀ a, DB = some a → 0 < d.length → v.ownBlock ≠ some a.block) → BytesAt w' DB d := fun DB d hd hne j hj => by
    obtain ⟨q, o, e, hq, hc⟩ := hd j hj
    refine ⟨q, o, e, Nat.lt_of_lt_of_le hq h5.size, ?_⟩
    rw [← hc]
    exact World.cell?_of_block (a := ⟨q, o + j, none⟩) (h5.block q hq (fun e2 => hne _ e (by omega) e2.symm))
  refine ⟨v', w', h3, ⟨by rw [List.length_append]; exact h4, fun r e => ?_, fun i hi => ?_⟩, hk⟩
  · rcases h6 with h6 | h6
    · rw [h6] at e; exact .inl (h.own r e)
    · rw [h6] at e; injection e with e; exact .inr (.inl e.symm)
  · have sep : ∀ (DB : Option Addr) (d : Bt), BytesAt w DB d → (∀ a, DB = some a → 0 < d.length → v.ownBlock ≠ some a.block) → 0 < d.length → ∀ a, DB = some a → v'.ownBlock ≠ some a.block := fun DB d hd hne h0 a ea e => by
      rcases h6 with h6 | h6
      · rw [h6] at e
        exact hne a ea h0 e
      · rw [h6] at e
        injection e with e
        obtain ⟨q, o, e3, hq, _⟩ := hd 0 h0
        rw [ea] at e3
        injection e3 with e3
        subst e3
        have e : w.heap.size = q := e
        omega
    rw [List.length_append, List.length_singleton] at hi
    by_cases e : i < cs.length
    · obtain ⟨DB, d, k1, k2, k3⟩ := h.each i e
      have k4 := fun a (ea : DB = some a) h0 => (k3 h0 a ea).2
      refine ⟨DB, d, by rw [List.getElem?_append_left (by omega), k1, List.getElem_append_left e], ?_, ?_⟩
      · rw [List.getElem_append_left e]
        exact ns DB _ k2 k4
      · rw [List.getElem_append_left e]
        exact fun h0 a ea => ⟨.inl (k3 h0 a ea).1, sep DB _ k2 k4 h0 a ea⟩
    · obtain rfl : i = cs.length := by omega
      refine ⟨DA, dc, ?_, ?_, ?_⟩
      · rw [List.getElem?_append_right (by omega), hx, Nat.sub_self]
        simp
      · simp only [List.getElem_concat_length]
        exact ns DA b hb hv
      · simp only [List.getElem_concat_length]
        exact fun h0 a ea => ⟨.inr (.inr ⟨h0, a, ea, rfl⟩), sep DA b hb hv h0 a ea⟩
end
/-- block q holds n bytes of one's own, from o on -/
def U8Row (w : World) (q n : Nat) : Prop := ∃ ys, w.heap[q]? = some (.cells ys 5 (0, 0)) ∧ ∀ j, j < n → ∃ x : UInt8, ys[j]? = some (yB x)
theorem u8_of {w : World} {B : Nat} {q n c : Nat} {d : Bt} (h : OwnB w B (.slice (some ⟨q, 0, none⟩) n c) d) : U8Row w q d.length := by
  unfold OwnB at h
  rcases h.2 with ⟨e, _⟩ | ⟨g, cap, cur, e, _, hb, hc, _, _, ht⟩
  · simp at e
  · injection e with e1 e2 e3
    injection e1 with e1
    injection e1 with e1
    subst e1
    refine ⟨cur, hb, fun j hj => ⟨d[j], ?_⟩⟩
    have h1 := congrArg (fun l => l[j]?) ht
    simp only [List.getElem?_take, List.getElem?_map, List.getElem?_eq_getElem hj, Array.getElem?_toList] at h1
    rw [if_pos (by omega)] at h1
    exact h1
theorem u8_cell {w : World} {q n j : Nat} (h : U8Row w q n) (hj : j < n) : ∃ x : UInt8, w.cell? ⟨q, j, none⟩ = some (yB x) ∧ w.frozen? ⟨q, j, none⟩ = false := by
  obtain ⟨ys, h1, h2⟩ := h
  obtain ⟨x, hx⟩ := h2 j hj
  exact ⟨x, (cell_of_row w q j ys 5 (0, 0) h1).trans hx, frozen_of_row w q j ys 5 h1⟩
theorem u8_set {w : World} {q n j : Nat} (h : U8Row w q n) (x : UInt8) : U8Row (w.setCell ⟨q, j, none⟩ (yB x)) q n := by
  obtain ⟨ys, h1, h2⟩ := h
  refine ⟨_, heap_setCell_same w q j ys 5 (yB x) h1, fun i hi => ?_⟩
  rw [Array.getElem?_setIfInBounds]
  by_cases e : j = i
  · subst e
    obtain ⟨z, hz⟩ := h2 j hi
    rw [if_pos rfl, if_pos (Array.getElem?_eq_some_iff.1 hz).1]
    exact ⟨x, rfl⟩
  · rw [if_neg e]
    exact h2 i hi
theorem u8_same {w w' : World} {q n : Nat} (h : U8Row w q n) (hb : w'.heap[q]? = w.heap[q]?) : U8Row w' q n := by
  obtain ⟨ys, h1, h2⟩ := h
  exact ⟨ys, hb.trans h1, h2⟩
theorem keeps_set (w : World) (q j : Nat) (u : Value) : Keeps (fun i => i = q) w (w.setCell ⟨q, j, none⟩ u) :=
  ⟨rfl, rfl, rfl, by simp [World.setCell], fun i _ hi => heap_setCell_other w _ i u hi⟩
theorem xor255_byte (c : UInt8) : bits .xor .u8 (c.toNat : Int) 255 = ((c ^^^ 255).toNat : Int) := by
  have hx : bits .xor .u8 (c.toNat : Int) 255 = IntKind.u8.wrap ((BitVec.ofInt 8 (c.toNat : Int) ^^^ BitVec.ofInt 8 255).toNat : Int) := rfl
  have hc := c.toNat_lt
  have h1 : (BitVec.ofInt 8 (c.toNat : Int)).toNat = c.toNat := by
    rw [BitVec.ofInt_natCast, BitVec.toNat_ofNat]; exact Nat.mod_eq_of_lt (by omega)
  have h2 : c.toNat ^^^ 255 < 2 ^ 8 := Nat.xor_lt_two_pow (by omega) (by omega)
  rw [hx, BitVec.toNat_xor, h1, UInt8.toNat_xor]
  show IntKind.u8.wrap ((c.toNat ^^^ 255 : Nat) : Int) = ((c.toNat ^^^ 255 : Nat) : Int)
  simp only [IntKind.wrap, IntKind.bits, IntKind.signed]
  simp
  omega
theorem add_none (a : Addr) : a.add 0 = a := by unfold Addr.add; simp
theorem store_one (P : Program) (w : World) (a : Addr) (v : Value) (hv : v.oneCell' = true) : (storeCells a [v]).run P w = stored P w a v .plain := by
  unfold storeCells
  rw [Sem.run_bind, add_none, run_store P w a v .plain hv]
  unfold storeCells stored
  cases w.cell? a with
  | none => cases w.farStore P a v ((Mode.plain) == .atomic) <;> rfl
  | some u => by_cases h : w.frozen? a = true <;> simp [h]
theorem store_yB (P : Program) (w : World) (a : Addr) (x : UInt8) : (storeCells a [yB x]).run P w = stored P w a (yB x) .plain := store_one P w a _ rfl
theorem xor_yB (x : UInt8) : binOp .xor 5 (yB x) (.int .u8 255) = pure (yB (x ^^^ 255)) := by
  have h : binOp .xor 5 (yB x) (.int .u8 255) = pure (.int .u8 (bits .xor .u8 (x.toNat : Int) 255)) := rfl
  rw [h, xor255_byte]
  rfl
end Go.Proofs.Ytlnmaejpchncoaa
