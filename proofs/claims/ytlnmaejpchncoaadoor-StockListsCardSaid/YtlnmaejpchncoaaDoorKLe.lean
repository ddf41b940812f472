/-
What is proved here: contents that came in, and contents that are lent: each with one byte more behind it, and one content more.
-/
import Derived.Test.YtlnmaejpchncoaaDoorFI
import Derived.Test.YtlnmaejpchncoaaDoorKAlv
import Derived.Test.YtlnmaejpchncoaaDoorKRck
set_option linter.unusedSimpArgs false
set_option linter.unusedVariables false
namespace Go.Proofs.YtlnmaejpchncoaaDoor.K
open Go.Stk Go.RowKit Go.Word
def ListAt (w : World) (A : Option Addr) (ls : List Bt) : Prop := ∀ i (h : i < ls.length), ∃ b o DA dc, A = some ⟨b, o, none⟩ ∧ b < w.heap.size ∧
  w.cell? ⟨b, o + i, none⟩ = some (.slice DA ls[i].length dc) ∧ BytesAt w DA ls[i]
theorem listAt_below {w w' : World} {A : Option Addr} {ls : List Bt} (h : ListAt w A ls) (hb : Below w.heap.size w w') : ListAt w' A ls := fun i hi => by
  obtain ⟨b, o, DA, dc, e, hl, h1, h3⟩ := h i hi
  exact ⟨b, o, DA, dc, e, Nat.lt_of_lt_of_le hl hb.size, (hb.cell (p := ⟨b, o + i, none⟩) hl).trans h1, bytesAt_below h3 hb⟩
/-- bytes with one more behind them -/
def LentD (w : World) (B : Nat) (v : Value) (d : Bt) : Prop := ∃ A C, v = .slice A d.length C ∧ w.ownsRow B 5 1 (.slice A (d.length + 1) C) (d.length + 1) ((d ++ [167]).map yB)
theorem row_cap {w : World} {B e z n C : Nat} {A : Option Addr} {xs : List Value} (h : w.ownsRow B e z (.slice A n C) n xs) : n ≤ C := by
  rcases h.2 with ⟨e1, h0⟩ | ⟨_, cap, _, e1, _, _, h1, _⟩
  · omega
  · injection e1 with _ _ e1
    omega
set_option maxRecDepth 100000 in
theorem cutb_to (A : Option Addr) (k c m : Nat) (h : m ≤ c) (W : World) : (Instr.slice 24 (.slice A k c) none (some (.int .i64 (m : Int))) none).run Tryd.prog W = .ok (.slice A m c) W := by
  have := run_slice_h (P := Tryd.prog) W 24 A k c Tryd.underlying24 .i64 (m : Int) (by omega) (by omega)
  rw [this]
  have hz : (sizeOf (Tryd.prog.elem 24)).run Tryd.prog W = .ok 1 W := by kernel_rfl
  rw [hz]
  cases A <;> simp [sliced, Result.andThen, Addr.add]
set_option maxRecDepth 100000 in
theorem cutl_to (A : Option Addr) (k c m : Nat) (h : m ≤ c) (W : World) : (Instr.slice 22 (.slice A k c) none (some (.int .i64 (m : Int))) none).run Tryd.prog W = .ok (.slice A m c) W := by
  have := run_slice_h (P := Tryd.prog) W 22 A k c Tryd.underlying22 .i64 (m : Int) (by omega) (by omega)
  rw [this]
  have hz : (sizeOf (Tryd.prog.elem 22)).run Tryd.prog W = .ok 1 W := by kernel_rfl
  rw [hz]
  cases A <;> simp [sliced, Result.andThen, Addr.add]
set_option maxRecDepth 100000 in
theorem row_byte (W : World) (B G : Nat) (v : Value) (d : Bt) (h : OwnB W B v d) (hG : W.cell? ⟨G, 0, none⟩ = some (.int .u8 167)) (hB : B ≤ W.heap.size) (hl : d.length ≤ 100000000) :
    ∃ A C Z, (Builtin.append_ #[24, 24] 24 #[v, .slice (some ⟨G, 0, none⟩) 1 1]).run Tryd.prog W = .ok (.slice A (d.length + 1) C) Z ∧ Z.ownsRow B 5 1 (.slice A (d.length + 1) C) (d.length + 1) ((d ++ [167]).map yB) ∧ W.grownBy Z v.ownBlock ∧ ∀ r, v.ownBlock = some r → B ≤ r := by
  obtain ⟨i0, hi, hz0, hz1, hz2⟩ := info_parts byte_info
  obtain ⟨v', Z, hr, ho, hg, _⟩ := run_append_own (P := Tryd.prog) W B 24 24 5 i0 (.int .u8 0) 1 1 Tryd.underlying24 hi hz0 hz1 hz2 rfl (by decide) v d.length (d.map yB) h ⟨G, 0, none⟩ 1 1 [.int .u8 167] rfl (fun q u hq => by
    match q, hq with
    | 0, hq => injection hq with hq; subst hq; exact hG
    | q + 1, hq => simp at hq) (fun u hu => by simp at hu; subst hu; rfl) (by unfold maxLen; omega) (by omega) (by first | exact hB | (simp; omega) | simp | omega)
  obtain ⟨A, C, rfl⟩ := own_slice ho
  refine ⟨A, C, Z, hr, ?_, hg, fun r e => (own_heap h r e).1⟩
  rw [List.map_append]
  exact ho
theorem slice_info : (Tryd.prog.info? 24).map (fun i => (i.zero, i.size, i.bytes)) = some (some (.slice none 0 0), 1, 24) := by kernel_rfl
set_option maxRecDepth 100000 in
theorem row_slice (W : World) (B G : Nat) (v u : Value) (n : Nat) (xs : List Value) (h : W.ownsRow B 24 1 v n xs) (hG : W.cell? ⟨G, 0, none⟩ = some u) (hu : u.oneCell' = true) (hB : B ≤ W.heap.size) (hl : n ≤ 10000000) :
    ∃ A C Z, (Builtin.append_ #[22, 22] 22 #[v, .slice (some ⟨G, 0, none⟩) 1 1]).run Tryd.prog W = .ok (.slice A (n + 1) C) Z ∧ Z.ownsRow B 24 1 (.slice A (n + 1) C) (n + 1) (xs ++ [u]) ∧ W.grownBy Z v.ownBlock ∧ ∀ r, v.ownBlock = some r → B ≤ r ∧ ∃ cs, W.heap[r]? = some (.cells cs 24 (0, 0)) := by
  obtain ⟨i0, hi, hz0, hz1, hz2⟩ := info_parts slice_info
  obtain ⟨v', Z, hr, ho, hg, _⟩ := run_append_own (P := Tryd.prog) W B 22 22 24 i0 (.slice none 0 0) 1 24 Tryd.underlying22 hi hz0 hz1 hz2 rfl (by decide) v n xs h ⟨G, 0, none⟩ 1 1 [u] rfl (fun q u' hq => by
    match q, hq with
    | 0, hq => injection hq with hq; subst hq; exact hG
    | q + 1, hq => simp at hq) (fun u' hu' => by simp at hu'; subst hu'; exact hu) (by unfold maxLen; omega) (by omega) (by first | exact hB | (simp; omega) | simp | omega)
  obtain ⟨A, C, rfl⟩ := own_slice ho
  exact ⟨A, C, Z, hr, ho, hg, fun r e => own_heap h r e⟩
/-- the contents that are lent so far -/
def LentL (w : World) (B : Nat) (v : Value) (cs : List Bt) : Prop := ∃ xs, w.ownsRow B 24 1 v cs.length xs ∧ ∀ i (h : i < cs.length), ∃ x, xs[i]? = some x ∧ LentD w B x cs[i]
theorem lentD_grown {w w' : World} {B : Nat} {v : Value} {d : Bt} (h : LentD w B v d) (hg : w.grownBy w' none) : LentD w' B v d := by
  obtain ⟨A, C, e, h⟩ := h
  exact ⟨A, C, e, h.kept hg (by cases (Value.slice A (d.length + 1) C).ownBlock <;> simp)⟩
theorem lentL_nil (w : World) (B : Nat) : LentL w B (.slice none 0 0) [] := ⟨[], World.ownsRow_nil _ _ _ _, fun i h => by cases h⟩
theorem lentL_grown {w w' : World} {B : Nat} {v : Value} {cs : List Bt} (h : LentL w B v cs) (hg : w.grownBy w' none) : LentL w' B v cs := by
  obtain ⟨xs, h1, h2⟩ := h
  refine ⟨xs, h1.kept hg (by cases v.ownBlock <;> simp), fun i hi => ?_⟩
  obtain ⟨x, e, hd⟩ := h2 i hi
  exact ⟨x, e, lentD_grown hd hg⟩
theorem lentD_other {w w' : World} {B : Nat} {v : Value} {d : Bt} {row : Option Nat} (h : LentD w B v d) (hg : w.grownBy w' row) (hr : ∀ r, row = some r → ∃ cs t, w.heap[r]? = some (.cells cs t (0, 0)) ∧ t ≠ 5) : LentD w' B v d := by
  obtain ⟨A, C, e, h⟩ := h
  exact ⟨A, C, e, h.kept hg (own_other h hr)⟩
/-- one content more -/
theorem lentL_snoc {W Z : World} {B : Nat} {v x : Value} {A : Option Addr} {C : Nat} {cs : List Bt} {d : Bt} {xs : List Value} (h1 : W.ownsRow B 24 1 v cs.length xs) (h2 : ∀ i (h : i < cs.length), ∃ x, xs[i]? = some x ∧ LentD W B x cs[i]) (hx : LentD W B x d)
    (hz : Z.ownsRow B 24 1 (.slice A (cs.length + 1) C) (cs.length + 1) (xs ++ [x])) (hg : W.grownBy Z v.ownBlock) : LentL Z B (.slice A (cs.length + 1) C) (cs ++ [d]) := by
  have hr : ∀ r, v.ownBlock = some r → ∃ cs t, W.heap[r]? = some (.cells cs t (0, 0)) ∧ t ≠ 5 := fun r e => by
    obtain ⟨_, cs, h⟩ := own_heap h1 r e
    exact ⟨cs, 24, h, by decide⟩
  have hxl : xs.length = cs.length := by have := h1.1; omega
  refine ⟨xs ++ [x], by rw [List.length_append]; exact hz, fun i hi => ?_⟩
  by_cases e : i < cs.length
  · obtain ⟨y, e1, hd⟩ := h2 i e
    refine ⟨y, by rw [List.getElem?_append_left (by omega)]; exact e1, ?_⟩
    rw [List.getElem_append_left e]
    exact lentD_other hd hg hr
  · obtain rfl : i = cs.length := by simp at hi; omega
    refine ⟨x, by rw [List.getElem?_append_right (by omega), hxl]; simp, ?_⟩
    rw [List.getElem_append_right (by omega)]
    simpa using lentD_other hx hg hr
end Go.Proofs.YtlnmaejpchncoaaDoor.K
