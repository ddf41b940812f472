/-
What is proved here: Lent and Stay of contents, by contracts.
-/
import Derived.Test.YtiglakhfkgeefaaRfs
import Derived.Test.YtiglakhfkgeefaaCpm
import Derived.Test.YtiglakhfkgeefaaFI
import Derived.OrdersIn
import Derived.WalkKit
import Derived.OwnWalkIn
import Derived.Orders
import Derived.Deep.MidRow
import Derived.Great.BuildSlice
import Derived.ProofKit
import Derived.Lib.Hide
import Derived.Lib.AppendStr
import Derived.Lib.SliceRun
import Derived.Laws.AppendOwnNone
import Derived.Laws.Cover1
import Derived.Maps.OwnSet
import Derived.Maps.OwnOps
import Derived.Maps.Views
import Derived.Deep.Draws
import Derived.Deep.Cut
import Derived.Deep.QuietTactic
import Derived.BigQuiet
import Derived.StringKeys
import Derived.Laws.BytesString
import Derived.OwnWalk
import Derived.Laws.Rows
import Derived.StillTailTactics
import Derived.Lib.SlBytesConst
import Derived.Maps.AppendAt
import Derived.Carry
import Derived.Deep.Onto
import Derived.Deep.SlicePairs
set_option linter.unusedSimpArgs false
namespace Go.Word
section
variable {F : Fence} {n : Nat} {P : Program} {md : Region.Mode} {ops : Array Oper} {Q : Exit → Act → World → Prop} {own : Nat → Option Nat} {vals : Nat → Value} {a0 : Act}
end
end Go.Word
namespace Go.Word
section
variable {F : Fence} {n : Nat} {P : Program} {Q : Exit → Act → World → Prop} {a : Act} {w : World} {K : Act → World → Prop} {oi : Oper}
end
end Go.Word
namespace Go.Word
section
variable {F : Fence} {n : Nat} {P : Program} {md : Region.Mode} {ops : Array Oper} {Q : Exit → Act → World → Prop} {own : Nat → Option Nat} {vals : Nat → Value} {a0 : Act}
end
end Go.Word
namespace Go.Word
section
variable {F : Fence} {n : Nat} {P : Program} {md : Region.Mode} {ops : Array Oper} {Q : Exit → Act → World → Prop} {own : Nat → Option Nat} {vals : Nat → Value} {a0 : Act}
end
end Go.Word
namespace Go.Word
section
variable {P : Program} {Q : Exit → Act → World → Prop} {a : Act} {w w' : World} {K : Act → World → Prop} {oi : Oper}
end
section
variable {own : Nat → Option Nat} {vals : Nat → Value} {a0 a : Act} {ops : Array Oper} {listed : Array Bool} {oi oj : Oper} {j t : Nat} {b c : Bool}
end
end Go.Word
namespace Go.Word
section
variable {P : Program} {md : Region.Mode} {ops : Array Oper} {Q : Exit → Act → World → Prop} {own : Nat → Option Nat} {vals : Nat → Value} {a0 : Act}
end
end Go.Word
namespace Go.Word
section
variable {P : Program} {Q : Exit → Act → World → Prop} {a : Act} {w w' : World} {K : Act → World → Prop} {oi : Oper}
end
end Go.Word
namespace Go.Proofs.Ytiglakhfkgeefaa.K
open Go.RowKit Go.Word
section
variable {i j k : Nat} {A B C D : World} {l : Array Bool}
end
end Go.Proofs.Ytiglakhfkgeefaa.K
set_option linter.unusedSimpArgs false
set_option linter.unusedVariables false
namespace Go.Word
section
variable {P : Program} {md : Region.Mode} {ops : Array Oper} {Q : Exit → Act → World → Prop} {own : Nat → Option Nat} {vals : Nat → Value} {a0 : Act}
end
end Go.Word
namespace Go.Word
section
variable {P : Program} {md : Region.Mode} {ops : Array Oper} {Q : Exit → Act → World → Prop} {own : Nat → Option Nat} {vals : Nat → Value} {a0 : Act}
end
end Go.Word
set_option linter.unusedSimpArgs false
set_option linter.unusedVariables false
namespace Go.Word
section
variable {P : Program} {md : Region.Mode} {ops : Array Oper} {Q : Exit → Act → World → Prop} {own : Nat → Option Nat} {vals : Nat → Value} {a0 : Act}
end
section
variable {Fc : Fence} {n : Nat} {P : Program} {md : Region.Mode} {ops : Array Oper} {Q : Exit → Act → World → Prop} {own : Nat → Option Nat} {vals : Nat → Value} {a0 : Act}
end
end Go.Word
set_option linter.unusedSimpArgs false
namespace Go.Stk
abbrev Bt := List UInt8
end Go.Stk
namespace Go.Proofs.Ytiglakhfkgeefaa.K
open Go.Stk Go.RowKit Go.Word
/-- a string as Go holds it -/
def St (l : Bt) : Value := .string ⟨l.toArray⟩
def same (a b : Bt) : Bool := decide (a = b)
def other (a b : Bt) : Bool := decide (a ≠ b)
theorem beq_dec (a b : Bt) : (a == b) = decide (a = b) := by
  by_cases h : a = b
  · subst h; simp
  · rw [decide_eq_false h]; exact beq_eq_false_iff_ne.2 h
theorem st_eql (t : TypeId) (a b : Bt) : binOp .eql t (St a) (St b) = pure (.bool (same a b)) := by
  unfold St
  rw [binOp_string_eql, ByteArray.toList_mk, ByteArray.toList_mk, beq_dec]; rfl
theorem st_neq (t : TypeId) (a b : Bt) : binOp .neq t (St a) (St b) = pure (.bool (other a b)) := by
  unfold St
  rw [binOp_string_neq, ByteArray.toList_mk, ByteArray.toList_mk, beq_dec]
  unfold other
  by_cases h : a = b <;> simp [h]
theorem guard_eq (t : TypeId) (x y : Operand) (a : Bt) (v : Value) : eqGuard .eql t x y (St a) v = pure () := rfl
theorem guard_ne (t : TypeId) (x y : Operand) (a : Bt) (v : Value) : eqGuard .neq t x y (St a) v = pure () := rfl
/-- block g is just the cells cs, of element type t, and may be written -/
def Lies (w : World) (g : Nat) (t : TypeId) (cs : Array Value) : Prop := w.heap[g]? = some (.cells cs t (0, 0))
section
variable {w w' : World} {g : Nat} {t : TypeId} {cs : Array Value}
theorem lies_lt (h : Lies w g t cs) : g < w.heap.size := by
  rcases Nat.lt_or_ge g w.heap.size with hlt | hge
  · exact hlt
  · unfold Lies at h; rw [Array.getElem?_eq_none hge] at h; cases h
theorem lies_cell (h : Lies w g t cs) (i : Nat) : w.cell? ⟨g, i, none⟩ = cs[i]? := cell_of_row w g i cs t (0, 0) h
theorem lies_new (w : World) (t : TypeId) (cs : Array Value) : Lies (w.alloc (.cells cs t)) w.heap.size t cs := heap_alloc_new w _
theorem lies_alloc (h : Lies w g t cs) (o : Obj) : Lies (w.alloc o) g t cs := (Below.heap_alloc w o g (lies_lt h)).trans h
end
theorem below_drewN {B : Nat} {a w : World} (h : Below B a w) (n : Nat) : Below B a (w.drewN n) := ⟨h.os, h.tape, h.output, h.size, h.block⟩
/-- bytes in a slice -/
def BytesAt (w : World) (A : Option Addr) (l : Bt) : Prop := ∀ i (h : i < l.length), ∃ b o, A = some ⟨b, o, none⟩ ∧ b < w.heap.size ∧ w.cell? ⟨b, o + i, none⟩ = some (.int .u8 (l[i].toNat : Int))
theorem bytesAt_below {w w' : World} {A : Option Addr} {l : Bt} (h : BytesAt w A l) (hb : Below w.heap.size w w') : BytesAt w' A l := fun i hi => by
  obtain ⟨b, o, e, hl, hc⟩ := h i hi
  exact ⟨b, o, e, Nat.lt_of_lt_of_le hl hb.size, (hb.cell (p := ⟨b, o + i, none⟩) hl).trans hc⟩
theorem bytesAt_nil (w : World) (A : Option Addr) : BytesAt w A [] := fun i hi => by cases hi
theorem push_all (l : Bt) : ∀ s : ByteArray, (l.map fun x => (x.toNat : Int)).foldl (fun r n => r.push (UInt8.ofNat n.toNat)) s = ⟨s.data ++ l.toArray⟩ := by
  induction l with
  | nil => intro s; simp
  | cons x r ih =>
    intro s
    rw [List.map_cons, List.foldl_cons, ih]
    have e : UInt8.ofNat ((x.toNat : Int)).toNat = x := by simp
    rw [e]
    show (⟨(s.data.push x) ++ r.toArray⟩ : ByteArray) = _
    simp
set_option maxRecDepth 100000 in
theorem run_text (A : Option Addr) (l : Bt) (c : Nat) (w : World) (h : BytesAt w A l) : (convert 47 9 (.slice A l.length c)).run Try.prog w = .ok (St l) w := by
  rw [run_convert_bytes_string w 47 9 5 _ _ c Try.underlying47 Try.underlying5 (by kernel_rfl)]
  have e0 : (l.map fun x => (x.toNat : Int)).foldl (fun r n => r.push (UInt8.ofNat n.toNat)) ByteArray.empty = ⟨l.toArray⟩ := by
    rw [push_all]
    simp [ByteArray.empty, ByteArray.emptyWithCapacity]
    try rfl
  cases A with
  | none =>
    have e : l = [] := by
      rcases l with _ | ⟨x, r⟩
      · rfl
      · obtain ⟨b, o, e, _⟩ := h 0 (by simp)
        cases e
    subst e
    simp [Conv.bytesToString]
    rfl
  | some ad =>
    have hk := run_loadCells_list (P := Try.prog) w ad (l.map fun x => Value.int .u8 (x.toNat : Int)) (fun j v hj => by
      rcases Nat.lt_or_ge j l.length with hl | hl
      · obtain ⟨b, o, e, _, hc⟩ := h j hl
        injection e with e
        subst e
        rw [Addr.add_mid, hc, ← hj]
        simp [hl]
      · rw [List.getElem?_eq_none (by simpa using hl)] at hj; cases hj)
    rw [List.length_map] at hk
    have := run_bytesToString w ad l.length c (l.map fun x => (x.toNat : Int)) (by rw [hk, List.map_map]; rfl)
    rw [this, e0]
    rfl
def yB (c : UInt8) : Value := .int .u8 (c.toNat : Int)
theorem byte_info : (Try.prog.info? 5).map (fun i => (i.zero, i.size, i.bytes)) = some (some (.int .u8 0), 1, 1) := by kernel_rfl
/-- a row of bytes of one's own -/
def OwnB (w : World) (B : Nat) (v : Value) (l : Bt) : Prop := w.ownsRow B 5 1 v l.length (l.map yB)
theorem run_append_none_cap (w : World) (base : Nat) (t ty e : TypeId) (i : TypeInfo) (size : Nat) (ht : Try.prog.underlying t = some (.slice e)) (hi : Try.prog.info? e = some i)
    (v : Value) (n : Nat) (xs : List Value) (c : Nat) (hown : w.ownsRow base e size v n xs) :
    (Builtin.append_ #[t, t] ty #[v, .slice none 0 c]).run Try.prog w = .ok v w := by
  rcases hown.2 with ⟨rfl, rfl⟩ | ⟨g, cap, cur, rfl, _, _, hnc, _⟩
  · simp [Builtin.append_, run_underlying ht, sizeOf, typeInfo, hi, Builtin.lenOf, Builtin.firstCells]
  · simp [Builtin.append_, run_underlying ht, sizeOf, typeInfo, hi, Builtin.lenOf, Builtin.firstCells, hnc, storeCells]
theorem own_heap {w : World} {B e size : Nat} {v : Value} {n : Nat} {xs : List Value} (h : w.ownsRow B e size v n xs) (b : Nat) (hb : v.ownBlock = some b) : B ≤ b ∧ ∃ cs, w.heap[b]? = some (.cells cs e (0, 0)) := by
  rcases h.2 with ⟨rfl, _⟩ | ⟨g, cap, cur, rfl, hbg, hg, _⟩
  · simp [Value.ownBlock] at hb
  · obtain rfl : g = b := by simpa [Value.ownBlock] using hb
    exact ⟨hbg, cur, hg⟩
theorem own_other {w : World} {B e size : Nat} {v : Value} {n : Nat} {xs : List Value} (h : w.ownsRow B e size v n xs) {row : Option Nat} (hr : ∀ r, row = some r → ∃ cs t, w.heap[r]? = some (.cells cs t (0, 0)) ∧ t ≠ e) : v.ownBlock = none ∨ v.ownBlock ≠ row := by
  cases hv : v.ownBlock with
  | none => exact .inl rfl
  | some b =>
    refine .inr (fun e1 => ?_)
    obtain ⟨cs, t, h1, h2⟩ := hr b e1.symm
    obtain ⟨_, cs', h3⟩ := own_heap h b hv
    rw [h1] at h3
    injection h3 with h3
    injection h3 with _ h4 _
    exact h2 h4
set_option maxRecDepth 100000 in
theorem run_app_fresh (w : World) (ty : TypeId) (DA : Option Addr) (dc : Nat) (d : Bt) (hd : BytesAt w DA d) (hb : d.length ≤ 100000000) :
    ∃ v' w', (Builtin.append_ #[47, 47] ty #[.slice none 0 0, .slice DA d.length dc]).run Try.prog w = .ok v' w' ∧ OwnB w' w.heap.size v' d ∧ w.grownBy w' none := by
  obtain ⟨i0, hi, hz0, hz1, hz2⟩ := info_parts byte_info
  have hnil : w.ownsRow w.heap.size 5 1 (.slice none 0 0) 0 [] := World.ownsRow_nil _ _ _ _
  cases DA with
  | none =>
    have hd0 : d = [] := by
      cases d with
      | nil => rfl
      | cons c t =>
        obtain ⟨b, o, e, _⟩ := hd 0 (by simp)
        cases e
    subst hd0
    exact ⟨_, w, run_append_none_cap w w.heap.size 47 ty 5 i0 1 Try.underlying47 hi (.slice none 0 0) 0 [] dc hnil, hnil, ⟨rfl, rfl, rfl, Nat.le_refl _, fun _ _ _ => rfl⟩⟩
  | some ad =>
    obtain ⟨v', w', h1, h2, h3, _⟩ := run_append_own (P := Try.prog) w w.heap.size 47 ty 5 i0 (.int .u8 0) 1 1 Try.underlying47 hi hz0 hz1 hz2 rfl (by decide) (.slice none 0 0) 0 [] hnil ad d.length dc (d.map yB) (by simp) (fun j u hj => by
      have hjl : j < d.length := by
        have := (List.getElem?_eq_some_iff.1 hj).1
        simpa using this
      obtain ⟨b, o, e, _, hc⟩ := hd j hjl
      injection e with e
      subst e
      rw [Addr.add_mid, hc]
      rw [List.getElem?_map, List.getElem?_eq_getElem hjl] at hj
      simpa [yB] using hj) (fun u hu => by obtain ⟨c, _, rfl⟩ := List.mem_map.1 hu; rfl) (by unfold maxLen; omega) (by omega) (Nat.le_refl _)
    refine ⟨v', w', h1, ?_, h3⟩
    unfold OwnB
    simpa using h2
theorem own_slice {w : World} {B e size : Nat} {v : Value} {n : Nat} {xs : List Value} (h : w.ownsRow B e size v n xs) : ∃ A C, v = .slice A n C := by
  rcases h.2 with ⟨e1, e2⟩ | ⟨g, cap, cur, e1, _⟩
  · exact ⟨none, 0, by rw [e2]; exact e1⟩
  · exact ⟨_, _, e1⟩
theorem own_bytes {w : World} {B : Nat} {A : Option Addr} {n c : Nat} {l : Bt} (h : OwnB w B (.slice A n c) l) : n = l.length ∧ BytesAt w A l ∧ n ≤ c ∧ (A = none → c = 0) := by
  have h0 := h
  unfold OwnB at h
  rcases h.2 with ⟨e, e0⟩ | ⟨g, cap, cur, e, hg, hb, hc, _⟩
  · injection e with a b d
    subst a b d
    have : l = [] := List.length_eq_zero_iff.1 e0
    subst this
    exact ⟨rfl, bytesAt_nil _ _, Nat.le_refl _, fun _ => rfl⟩
  · injection e with a b d
    subst a b d
    refine ⟨rfl, fun i hi => ⟨g, 0, rfl, (Array.getElem?_eq_some_iff.1 hb).1, ?_⟩, hc, fun e => by cases e⟩
    rw [Nat.zero_add, h.cellAt _ (by omega)]
    rw [List.getElem?_map, List.getElem?_eq_getElem hi]
    rfl
end Go.Proofs.Ytiglakhfkgeefaa.K
set_option linter.unusedSimpArgs false
namespace Go.Proofs.Ytiglakhfkgeefaa.K
open Go.Stk Go.RowKit Go.Word
attribute [local go_sem] guard_eq guard_ne st_eql st_neq
section
variable {w w' : World} {b : Nat} {cs : List Bt}
end
section
variable {w w' : World} {P Q : Nat → Prop} {g : Nat} {lim : Int} {cs : List Bt} {vB vE vM : Value}
end
section
variable {P : Nat → Prop} {g : Nat} {lim : Int} {cs : List Bt} {vB vE vM : Value}
end
end Go.Proofs.Ytiglakhfkgeefaa.K
set_option linter.unusedSimpArgs false
namespace Go.Proofs.Ytiglakhfkgeefaa.K
open Go.Stk Go.RowKit Go.Word
attribute [local go_sem] guard_eq guard_ne st_eql st_neq
section
variable {w w' : World} {P : Nat → Prop} {g : Nat} {lim : Int} {l l' : Bt} {n n' : Nat} {es es' : List Value} {cs cs' : List Bt} {vB vE v' : Value} {m : Nat}
end
section
variable {P : Nat → Prop} {g : Nat} {lim : Int} {cs : List Bt} {vB vE vM : Value}
end
end Go.Proofs.Ytiglakhfkgeefaa.K
set_option linter.unusedSimpArgs false
namespace Go.Proofs.Ytiglakhfkgeefaa.K
open Go.Stk Go.RowKit Go.Word
attribute [local go_sem] guard_eq guard_ne st_eql st_neq
section
variable {P : Nat → Prop} {g : Nat} {lim : Int} {cs : List Bt} {vB vE vM : Value}
end
end Go.Proofs.Ytiglakhfkgeefaa.K
set_option linter.unusedSimpArgs false
namespace Go.Proofs.Ytiglakhfkgeefaa.K
open Go.Stk Go.RowKit Go.Word
attribute [local go_sem] guard_eq guard_ne st_eql st_neq
end Go.Proofs.Ytiglakhfkgeefaa.K
set_option linter.unusedSimpArgs false
namespace Go.Proofs.Ytiglakhfkgeefaa.K
open Go.Stk Go.RowKit Go.Word
attribute [local go_sem] guard_eq guard_ne st_eql st_neq
end Go.Proofs.Ytiglakhfkgeefaa.K
set_option linter.unusedSimpArgs false
namespace Go.Proofs.Ytiglakhfkgeefaa.K
open Go.Stk Go.RowKit Go.Word
attribute [local go_sem] guard_eq guard_ne st_eql st_neq
end Go.Proofs.Ytiglakhfkgeefaa.K
set_option linter.unusedSimpArgs false
set_option linter.unusedVariables false
namespace Go.Proofs.Ytiglakhfkgeefaa.K
open Go.Stk Go.RowKit Go.Word
def ListAt (w : World) (A : Option Addr) (ls : List Bt) : Prop := ∀ i (h : i < ls.length), ∃ b o DA dc, A = some ⟨b, o, none⟩ ∧ b < w.heap.size ∧
  w.cell? ⟨b, o + i, none⟩ = some (.slice DA ls[i].length dc) ∧ BytesAt w DA ls[i]
/-- bytes with one more behind them -/
def LentD (w : World) (B : Nat) (v : Value) (d : Bt) : Prop := ∃ A C, v = .slice A d.length C ∧ w.ownsRow B 5 1 (.slice A (d.length + 1) C) (d.length + 1) ((d ++ [167]).map yB)
theorem row_cap {w : World} {B e z n C : Nat} {A : Option Addr} {xs : List Value} (h : w.ownsRow B e z (.slice A n C) n xs) : n ≤ C := by
  rcases h.2 with ⟨e1, h0⟩ | ⟨_, cap, _, e1, _, _, h1, _⟩
  · omega
  · injection e1 with _ _ e1
    omega
set_option maxRecDepth 100000 in
theorem cutb_to (A : Option Addr) (k c m : Nat) (h : m ≤ c) (W : World) : (Instr.slice 47 (.slice A k c) none (some (.int .i64 (m : Int))) none).run Try.prog W = .ok (.slice A m c) W := by
  have := run_slice_h (P := Try.prog) W 47 A k c Try.underlying47 .i64 (m : Int) (by omega) (by omega)
  rw [this]
  have hz : (sizeOf (Try.prog.elem 47)).run Try.prog W = .ok 1 W := by kernel_rfl
  rw [hz]
  cases A <;> simp [sliced, Result.andThen, Addr.add]
set_option maxRecDepth 100000 in
theorem cutl_to (A : Option Addr) (k c m : Nat) (h : m ≤ c) (W : World) : (Instr.slice 26 (.slice A k c) none (some (.int .i64 (m : Int))) none).run Try.prog W = .ok (.slice A m c) W := by
  have := run_slice_h (P := Try.prog) W 26 A k c Try.underlying26 .i64 (m : Int) (by omega) (by omega)
  rw [this]
  have hz : (sizeOf (Try.prog.elem 26)).run Try.prog W = .ok 1 W := by kernel_rfl
  rw [hz]
  cases A <;> simp [sliced, Result.andThen, Addr.add]
set_option maxRecDepth 100000 in
theorem row_byte (W : World) (B G : Nat) (v : Value) (d : Bt) (h : OwnB W B v d) (hG : W.cell? ⟨G, 0, none⟩ = some (.int .u8 167)) (hB : B ≤ W.heap.size) (hl : d.length ≤ 100000000) :
    ∃ A C Z, (Builtin.append_ #[47, 47] 47 #[v, .slice (some ⟨G, 0, none⟩) 1 1]).run Try.prog W = .ok (.slice A (d.length + 1) C) Z ∧ Z.ownsRow B 5 1 (.slice A (d.length + 1) C) (d.length + 1) ((d ++ [167]).map yB) ∧ W.grownBy Z v.ownBlock ∧ ∀ r, v.ownBlock = some r → B ≤ r := by
  obtain ⟨i0, hi, hz0, hz1, hz2⟩ := info_parts byte_info
  obtain ⟨v', Z, hr, ho, hg, _⟩ := run_append_own (P := Try.prog) W B 47 47 5 i0 (.int .u8 0) 1 1 Try.underlying47 hi hz0 hz1 hz2 rfl (by decide) v d.length (d.map yB) h ⟨G, 0, none⟩ 1 1 [.int .u8 167] rfl (fun q u hq => by
    match q, hq with
    | 0, hq => injection hq with hq; subst hq; exact hG
    | q + 1, hq => simp at hq) (fun u hu => by simp at hu; subst hu; rfl) (by unfold maxLen; omega) (by omega) (by first | exact hB | (simp; omega) | simp | omega)
  obtain ⟨A, C, rfl⟩ := own_slice ho
  refine ⟨A, C, Z, hr, ?_, hg, fun r e => (own_heap h r e).1⟩
  rw [List.map_append]
  exact ho
theorem slice_info : (Try.prog.info? 47).map (fun i => (i.zero, i.size, i.bytes)) = some (some (.slice none 0 0), 1, 24) := by kernel_rfl
set_option maxRecDepth 100000 in
theorem row_slice (W : World) (B G : Nat) (v u : Value) (n : Nat) (xs : List Value) (h : W.ownsRow B 47 1 v n xs) (hG : W.cell? ⟨G, 0, none⟩ = some u) (hu : u.oneCell' = true) (hB : B ≤ W.heap.size) (hl : n ≤ 10000000) :
    ∃ A C Z, (Builtin.append_ #[26, 26] 26 #[v, .slice (some ⟨G, 0, none⟩) 1 1]).run Try.prog W = .ok (.slice A (n + 1) C) Z ∧ Z.ownsRow B 47 1 (.slice A (n + 1) C) (n + 1) (xs ++ [u]) ∧ W.grownBy Z v.ownBlock ∧ ∀ r, v.ownBlock = some r → B ≤ r ∧ ∃ cs, W.heap[r]? = some (.cells cs 47 (0, 0)) := by
  obtain ⟨i0, hi, hz0, hz1, hz2⟩ := info_parts slice_info
  obtain ⟨v', Z, hr, ho, hg, _⟩ := run_append_own (P := Try.prog) W B 26 26 47 i0 (.slice none 0 0) 1 24 Try.underlying26 hi hz0 hz1 hz2 rfl (by decide) v n xs h ⟨G, 0, none⟩ 1 1 [u] rfl (fun q u' hq => by
    match q, hq with
    | 0, hq => injection hq with hq; subst hq; exact hG
    | q + 1, hq => simp at hq) (fun u' hu' => by simp at hu'; subst hu'; exact hu) (by unfold maxLen; omega) (by omega) (by first | exact hB | (simp; omega) | simp | omega)
  obtain ⟨A, C, rfl⟩ := own_slice ho
  exact ⟨A, C, Z, hr, ho, hg, fun r e => own_heap h r e⟩
/-- the contents that are lent so far -/
def LentL (w : World) (B : Nat) (v : Value) (cs : List Bt) : Prop := ∃ xs, w.ownsRow B 47 1 v cs.length xs ∧ ∀ i (h : i < cs.length), ∃ x, xs[i]? = some x ∧ LentD w B x cs[i]
theorem lentD_grown {w w' : World} {B : Nat} {v : Value} {d : Bt} (h : LentD w B v d) (hg : w.grownBy w' none) : LentD w' B v d := by
  obtain ⟨A, C, e, h⟩ := h
  exact ⟨A, C, e, h.kept hg (by cases (Value.slice A (d.length + 1) C).ownBlock <;> simp)⟩
theorem lentL_nil (w : World) (B : Nat) : LentL w B (.slice none 0 0) [] := ⟨[], World.ownsRow_nil _ _ _ _, fun i h => by cases h⟩
theorem lentL_grown {w w' : World} {B : Nat} {v : Value} {cs : List Bt} (h : LentL w B v cs) (hg : w.grownBy w' none) : LentL w' B v cs := by
  obtain ⟨xs, h1, h2⟩ := h
  refine ⟨xs, h1.kept hg (by cases v.ownBlock <;> simp), fun i hi => ?_⟩
  obtain ⟨x, e, hd⟩ := h2 i hi
  exact ⟨x, e, lentD_grown hd hg⟩
theorem lentD_other {w w' : World} {B : Nat} {v : Value} {d : Bt} {row : Option Nat} (h : LentD w B v d) (hg : w.grownBy w' row) (hr : ∀ r, row = some r → ∃ cs t, w.heap[r]? = some (.cells cs t (0, 0)) ∧ t ≠ 5) : LentD w' B v d := by
  obtain ⟨A, C, e, h⟩ := h
  exact ⟨A, C, e, h.kept hg (own_other h hr)⟩
/-- one content more -/
theorem lentL_snoc {W Z : World} {B : Nat} {v x : Value} {A : Option Addr} {C : Nat} {cs : List Bt} {d : Bt} {xs : List Value} (h1 : W.ownsRow B 47 1 v cs.length xs) (h2 : ∀ i (h : i < cs.length), ∃ x, xs[i]? = some x ∧ LentD W B x cs[i]) (hx : LentD W B x d)
    (hz : Z.ownsRow B 47 1 (.slice A (cs.length + 1) C) (cs.length + 1) (xs ++ [x])) (hg : W.grownBy Z v.ownBlock) : LentL Z B (.slice A (cs.length + 1) C) (cs ++ [d]) := by
  have hr : ∀ r, v.ownBlock = some r → ∃ cs t, W.heap[r]? = some (.cells cs t (0, 0)) ∧ t ≠ 5 := fun r e => by
    obtain ⟨_, cs, h⟩ := own_heap h1 r e
    exact ⟨cs, 47, h, by decide⟩
  have hxl : xs.length = cs.length := by have := h1.1; omega
  refine ⟨xs ++ [x], by rw [List.length_append]; exact hz, fun i hi => ?_⟩
  by_cases e : i < cs.length
  · obtain ⟨y, e1, hd⟩ := h2 i e
    refine ⟨y, by rw [List.getElem?_append_left (by omega)]; exact e1, ?_⟩
    rw [List.getElem_append_left e]
    exact lentD_other hd hg hr
  · obtain rfl : i = cs.length := by simp at hi; omega
    refine ⟨x, by rw [List.getElem?_append_right (by omega), hxl]; simp, ?_⟩
    rw [List.getElem_append_right (by omega)]
    simpa using lentD_other hx hg hr
end Go.Proofs.Ytiglakhfkgeefaa.K
set_option linter.unusedSimpArgs false
set_option linter.unusedVariables false
namespace Go.Proofs.Ytiglakhfkgeefaa.K
open Go.Stk Go.RowKit Go.Word
/-- lent contents: one byte more behind each, one content more behind them -/
def LentF (w : World) (B : Nat) (A : Option Addr) (C : Nat) (cs : List Bt) : Prop := ∃ xs G, w.ownsRow B 47 1 (.slice A (cs.length + 1) C) (cs.length + 1) (xs ++ [.slice (some ⟨G, 0, none⟩) 1 1]) ∧ w.cell? ⟨G, 0, none⟩ = some (.int .u8 113) ∧ xs.length = cs.length ∧ ∀ i (h : i < cs.length), ∃ x, xs[i]? = some x ∧ LentD w B x cs[i]
theorem grown_none_trans {w w1 w2 : World} (h : w.grownBy w1 none) (k : w1.grownBy w2 none) : w.grownBy w2 none := ⟨k.os.trans h.os, k.tape.trans h.tape, k.output.trans h.output, Nat.le_trans h.size k.size, fun i hi hn => (k.block i (Nat.lt_of_lt_of_le hi h.size) hn).trans (h.block i hi hn)⟩
set_option maxRecDepth 100000 in
set_option maxHeartbeats 8000000 in
theorem lentl_any (LA : Option Addr) (lc : Nat) (ls : List Bt) (w : World) (hL : ListAt w LA ls) (hn : ls.length ≤ 1000000) (hb : ∀ x ∈ ls, x.length ≤ 100000) :
    Calls Try.prog 12 #[.slice LA ls.length lc] w fun e w' => (∃ A C, e = .returned (.slice A ls.length C) ∧ LentF w' w.heap.size A C ls) ∧ Below w.heap.size w w' := by
  have HL := Lib.hid hL
  have HB := Lib.hid hb
  obtain ⟨n, hne⟩ : ∃ n, n = ls.length := ⟨_, rfl⟩
  have NE := Lib.hid hne
  rw [← hne] at hn ⊢
  clear hL hb hne
  go_enter Try.func12, Try.ntmps12
  go_wp2
  go_loopw [3, 4] (fun v3 v4 wr => ∃ (i : Nat) (V : Value), i ≤ n ∧ V = v3 ∧ v4 = .int .i64 (i : Int) ∧ LentL wr w.heap.size V (ls.take i) ∧ Below w.heap.size w wr) (fun _ v4 _ => n - (intOf v4).toNat)
  case atStart => exact ⟨0, _, Nat.zero_le _, rfl, rfl, by simpa using lentL_nil w w.heap.size, Below.refl _ _⟩
  case round =>
    obtain ⟨i, V, hi, hV, rfl, hl, hb⟩ := hrel
    subst hV
    have HW := Lib.hid hb
    have HX := Lib.hid hl
    clear hl hb
    by_cases hlt : i < n
    · have li : (i : Int) < (n : Int) := by omega
      go_upto_region 5 with (fail)
      have lf : i < ls.length := by have := NE.out; omega
      obtain ⟨b, o, DA, dc, eA, hbl, hcell, hby⟩ := HL.out i lf
      subst eA
      have after : ∀ W, Below w.heap.size w W → Hid (W.cell? ⟨b, o + i, none⟩ = some (.slice DA ls[i].length dc)) := fun W hb => Lib.hid ((hb.cell (p := ⟨b, o + i, none⟩) hbl).trans hcell)
      have afterB : ∀ W, Below w.heap.size w W → Hid (BytesAt W DA ls[i]) := fun W hb => Lib.hid (bytesAt_below hby hb)
      have QE := Lib.hid (show ls.take (i + 1) = ls.take i ++ [ls[i]] from List.take_succ_eq_append_getElem lf)
      have HQ := Lib.hid (show (ls.take i).length = i by rw [List.length_take]; omega)
      have DL := Lib.hid (HB.out ls[i] (List.getElem_mem lf))
      generalize ls.take i = q at *
      generalize ls[i] = d at *
      obtain ⟨dn, hdn⟩ : ∃ dn, dn = d.length := ⟨_, rfl⟩
      have DN := Lib.hid hdn
      rw [← hdn] at after
      clear hdn hcell hby
      have KF : ∀ (l : Array Bool) (p k : Nat) (u : Value) (W W' : World), (p ≠ 7 ∧ p ≠ 15) → W.grownBy W' none → ((fun (l_ : Array Bool) (j_ : Nat) (v_ : Value) (W : World) => match j_ with | 0 => v_ = V | 1 => v_ = .slice (some ⟨b, o, none⟩) n lc | 2 => v_ = .int .i64 (i : Int) | 3 => v_ = .pointer (some ⟨b, o + i, none⟩) | 4 => v_ = .slice DA dn dc | 5 => (∃ A C, v_ = .slice A dn C ∧ (l_.getD 7 false = false → W.ownsRow wr.heap.size 5 1 (.slice A dn C) dn (d.map yB))) | 6 => (∃ G, v_ = .slice (some ⟨G, 0, none⟩) 1 1 ∧ (l_.getD 7 false = false → Lies W G 5 #[.int .u8 167])) | 7 => (∃ A C, v_ = .slice A (dn + 1) C ∧ (l_.getD 15 false = false → W.ownsRow wr.heap.size 5 1 (.slice A (dn + 1) C) (dn + 1) ((d ++ [167]).map yB))) | 8 => v_ = .slice (some ⟨b, o, none⟩) n lc | 9 => v_ = .int .i64 (i : Int) | 10 => v_ = .pointer (some ⟨b, o + i, none⟩) | 11 => v_ = .slice DA dn dc | 12 => v_ = .int .i64 (dn : Int) | 13 => (∃ A C, v_ = .slice A dn C ∧ (l_.getD 15 false = false → W.ownsRow wr.heap.size 5 1 (.slice A (dn + 1) C) (dn + 1) ((d ++ [167]).map yB))) | 14 => (∃ G A C, v_ = .slice (some ⟨G, 0, none⟩) 1 1 ∧ (l_.getD 15 false = false → (Lies W G 47 #[.slice A dn C] ∧ W.ownsRow wr.heap.size 5 1 (.slice A (dn + 1) C) (dn + 1) ((d ++ [167]).map yB)))) | 15 => (∃ A C, v_ = .slice A (i + 1) C ∧ LentL W w.heap.size (.slice A (i + 1) C) (q ++ [d])) | 16 => (∃ A C, v_ = .slice A (i + 1) C ∧ LentL W w.heap.size (.slice A (i + 1) C) (q ++ [d])) | _ => True) : Array Bool → Nat → Value → World → Prop) l k u W → ((fun (l_ : Array Bool) (j_ : Nat) (v_ : Value) (W : World) => match j_ with | 0 => v_ = V | 1 => v_ = .slice (some ⟨b, o, none⟩) n lc | 2 => v_ = .int .i64 (i : Int) | 3 => v_ = .pointer (some ⟨b, o + i, none⟩) | 4 => v_ = .slice DA dn dc | 5 => (∃ A C, v_ = .slice A dn C ∧ (l_.getD 7 false = false → W.ownsRow wr.heap.size 5 1 (.slice A dn C) dn (d.map yB))) | 6 => (∃ G, v_ = .slice (some ⟨G, 0, none⟩) 1 1 ∧ (l_.getD 7 false = false → Lies W G 5 #[.int .u8 167])) | 7 => (∃ A C, v_ = .slice A (dn + 1) C ∧ (l_.getD 15 false = false → W.ownsRow wr.heap.size 5 1 (.slice A (dn + 1) C) (dn + 1) ((d ++ [167]).map yB))) | 8 => v_ = .slice (some ⟨b, o, none⟩) n lc | 9 => v_ = .int .i64 (i : Int) | 10 => v_ = .pointer (some ⟨b, o + i, none⟩) | 11 => v_ = .slice DA dn dc | 12 => v_ = .int .i64 (dn : Int) | 13 => (∃ A C, v_ = .slice A dn C ∧ (l_.getD 15 false = false → W.ownsRow wr.heap.size 5 1 (.slice A (dn + 1) C) (dn + 1) ((d ++ [167]).map yB))) | 14 => (∃ G A C, v_ = .slice (some ⟨G, 0, none⟩) 1 1 ∧ (l_.getD 15 false = false → (Lies W G 47 #[.slice A dn C] ∧ W.ownsRow wr.heap.size 5 1 (.slice A (dn + 1) C) (dn + 1) ((d ++ [167]).map yB)))) | 15 => (∃ A C, v_ = .slice A (i + 1) C ∧ LentL W w.heap.size (.slice A (i + 1) C) (q ++ [d])) | 16 => (∃ A C, v_ = .slice A (i + 1) C ∧ LentL W w.heap.size (.slice A (i + 1) C) (q ++ [d])) | _ => True) : Array Bool → Nat → Value → World → Prop) (l.setIfInBounds p true) k u W' := fun l p k u W W' hp hg h => by
        have h7_ : (l.setIfInBounds p true).getD 7 false = l.getD 7 false := by rw [getD_set_ne false (hp.1)]
        have h15_ : (l.setIfInBounds p true).getD 15 false = l.getD 15 false := by rw [getD_set_ne false (hp.2)]
        have kl : ∀ {g t cs}, Lies W g t cs → Lies W' g t cs := fun h => (hg.block _ (lies_lt h) (by simp)).trans h
        have ko : ∀ {B e z v k xs}, W.ownsRow B e z v k xs → W'.ownsRow B e z v k xs := fun {B e z v k xs} h => h.kept hg (by cases v.ownBlock <;> simp)
        match k, h with
        | 0, h => exact h
        | 1, h => exact h
        | 2, h => exact h
        | 3, h => exact h
        | 4, h => exact h
        | 5, ⟨A, C, e, h⟩ => exact ⟨A, C, e, fun h6 => by have h := h (by rw [← h7_]; exact h6); exact ko h⟩
        | 6, ⟨G, e, h⟩ => exact ⟨G, e, fun h6 => by have h := h (by rw [← h7_]; exact h6); exact kl h⟩
        | 7, ⟨A, C, e, h⟩ => exact ⟨A, C, e, fun h6 => by have h := h (by rw [← h15_]; exact h6); exact ko h⟩
        | 8, h => exact h
        | 9, h => exact h
        | 10, h => exact h
        | 11, h => exact h
        | 12, h => exact h
        | 13, ⟨A, C, e, h⟩ => exact ⟨A, C, e, fun h6 => by have h := h (by rw [← h15_]; exact h6); exact ko h⟩
        | 14, ⟨G, A, C, e, h⟩ => exact ⟨G, A, C, e, fun h6 => by have h := h (by rw [← h15_]; exact h6); exact ⟨kl h.1, ko h.2⟩⟩
        | 15, ⟨A, C, e, h⟩ => exact ⟨A, C, e, (lentL_grown h hg)⟩
        | 16, ⟨A, C, e, h⟩ => exact ⟨A, C, e, (lentL_grown h hg)⟩
        | _ + 17, _ => exact trivial
      have gr : ∀ W : World, W.grownBy W none := fun W => ⟨rfl, rfl, rfl, Nat.le_refl _, fun _ _ _ => rfl⟩
      have KP := fun (l : Array Bool) (p : Nat) (W : World) (hp : p ≠ 7 ∧ p ≠ 15) => fun (k : Nat) (u : Value) (_ : k ≠ p) (_ : l.getD k false = true) (h : ((fun (l_ : Array Bool) (j_ : Nat) (v_ : Value) (W : World) => match j_ with | 0 => v_ = V | 1 => v_ = .slice (some ⟨b, o, none⟩) n lc | 2 => v_ = .int .i64 (i : Int) | 3 => v_ = .pointer (some ⟨b, o + i, none⟩) | 4 => v_ = .slice DA dn dc | 5 => (∃ A C, v_ = .slice A dn C ∧ (l_.getD 7 false = false → W.ownsRow wr.heap.size 5 1 (.slice A dn C) dn (d.map yB))) | 6 => (∃ G, v_ = .slice (some ⟨G, 0, none⟩) 1 1 ∧ (l_.getD 7 false = false → Lies W G 5 #[.int .u8 167])) | 7 => (∃ A C, v_ = .slice A (dn + 1) C ∧ (l_.getD 15 false = false → W.ownsRow wr.heap.size 5 1 (.slice A (dn + 1) C) (dn + 1) ((d ++ [167]).map yB))) | 8 => v_ = .slice (some ⟨b, o, none⟩) n lc | 9 => v_ = .int .i64 (i : Int) | 10 => v_ = .pointer (some ⟨b, o + i, none⟩) | 11 => v_ = .slice DA dn dc | 12 => v_ = .int .i64 (dn : Int) | 13 => (∃ A C, v_ = .slice A dn C ∧ (l_.getD 15 false = false → W.ownsRow wr.heap.size 5 1 (.slice A (dn + 1) C) (dn + 1) ((d ++ [167]).map yB))) | 14 => (∃ G A C, v_ = .slice (some ⟨G, 0, none⟩) 1 1 ∧ (l_.getD 15 false = false → (Lies W G 47 #[.slice A dn C] ∧ W.ownsRow wr.heap.size 5 1 (.slice A (dn + 1) C) (dn + 1) ((d ++ [167]).map yB)))) | 15 => (∃ A C, v_ = .slice A (i + 1) C ∧ LentL W w.heap.size (.slice A (i + 1) C) (q ++ [d])) | 16 => (∃ A C, v_ = .slice A (i + 1) C ∧ LentL W w.heap.size (.slice A (i + 1) C) (q ++ [d])) | _ => True) : Array Bool → Nat → Value → World → Prop) l k u W) => KF l p k u W W hp (gr W) h
      have IV : ∀ (l : Array Bool) (p : Nat) (W W' : World), p ≠ 15 → W.grownBy W' none → ((fun (l_ : Array Bool) (W : World) => (l_.getD 15 false = false → wr.grownBy W none) ∧ Below w.heap.size w W) : Array Bool → World → Prop) l W → ((fun (l_ : Array Bool) (W : World) => (l_.getD 15 false = false → wr.grownBy W none) ∧ Below w.heap.size w W) : Array Bool → World → Prop) (l.setIfInBounds p true) W' := fun l p W W' hp hg h => ⟨fun h6 => grown_none_trans (h.1 (by rw [getD_set_ne false hp] at h6; exact h6)) hg, h.2.grown hg h.2.size (fun k e => by cases e)⟩
      refine wp_region_any (by kernel_rfl) ?_
      refine every_factI (own := ownAll _) id ((fun (l_ : Array Bool) (j_ : Nat) (v_ : Value) (W : World) => match j_ with | 0 => v_ = V | 1 => v_ = .slice (some ⟨b, o, none⟩) n lc | 2 => v_ = .int .i64 (i : Int) | 3 => v_ = .pointer (some ⟨b, o + i, none⟩) | 4 => v_ = .slice DA dn dc | 5 => (∃ A C, v_ = .slice A dn C ∧ (l_.getD 7 false = false → W.ownsRow wr.heap.size 5 1 (.slice A dn C) dn (d.map yB))) | 6 => (∃ G, v_ = .slice (some ⟨G, 0, none⟩) 1 1 ∧ (l_.getD 7 false = false → Lies W G 5 #[.int .u8 167])) | 7 => (∃ A C, v_ = .slice A (dn + 1) C ∧ (l_.getD 15 false = false → W.ownsRow wr.heap.size 5 1 (.slice A (dn + 1) C) (dn + 1) ((d ++ [167]).map yB))) | 8 => v_ = .slice (some ⟨b, o, none⟩) n lc | 9 => v_ = .int .i64 (i : Int) | 10 => v_ = .pointer (some ⟨b, o + i, none⟩) | 11 => v_ = .slice DA dn dc | 12 => v_ = .int .i64 (dn : Int) | 13 => (∃ A C, v_ = .slice A dn C ∧ (l_.getD 15 false = false → W.ownsRow wr.heap.size 5 1 (.slice A (dn + 1) C) (dn + 1) ((d ++ [167]).map yB))) | 14 => (∃ G A C, v_ = .slice (some ⟨G, 0, none⟩) 1 1 ∧ (l_.getD 15 false = false → (Lies W G 47 #[.slice A dn C] ∧ W.ownsRow wr.heap.size 5 1 (.slice A (dn + 1) C) (dn + 1) ((d ++ [167]).map yB)))) | 15 => (∃ A C, v_ = .slice A (i + 1) C ∧ LentL W w.heap.size (.slice A (i + 1) C) (q ++ [d])) | 16 => (∃ A C, v_ = .slice A (i + 1) C ∧ LentL W w.heap.size (.slice A (i + 1) C) (q ++ [d])) | _ => True) : Array Bool → Nat → Value → World → Prop) ((fun (l_ : Array Bool) (W : World) => (l_.getD 15 false = false → wr.grownBy W none) ∧ Below w.heap.size w W) : Array Bool → World → Prop) (acAll_of (by kernel_rfl)) (onAll_of (by kernel_rfl)) (dstAll_of (by kernel_rfl)) ?hop ?hend _ _ _ _ (fun _ => undef) rfl (shut_none _) (of_decide_eq_true (by kernel_rfl)) (tabd_start (fun i => rep_false _ i)) (fun k hk => by rw [rep_false] at hk; cases hk) ⟨fun _ => ⟨rfl, rfl, rfl, Nat.le_refl _, fun _ _ _ => rfl⟩, (HW.out).drew⟩
      case hop =>
        intro j oi a w0 listed vals hoi hs hcl hun hdeps ht hF hI
        have hj : j < 17 := (Array.getElem?_eq_some_iff.1 hoi).1
        have cj : j = 0 ∨ j = 1 ∨ j = 2 ∨ j = 3 ∨ j = 4 ∨ j = 5 ∨ j = 6 ∨ j = 7 ∨ j = 8 ∨ j = 9 ∨ j = 10 ∨ j = 11 ∨ j = 12 ∨ j = 13 ∨ j = 14 ∨ j = 15 ∨ j = 16 := by omega
        obtain rfl | rfl | rfl | rfl | rfl | rfl | rfl | rfl | rfl | rfl | rfl | rfl | rfl | rfl | rfl | rfl | rfl := cj
        all_goals obtain rfl := Option.some.inj hoi
        · have e3 : a.eval (.tmp 3) = V := (tabd_unlisted ht (t := 3) (i := 16) (of_decide_eq_true (by kernel_rfl)) (by kernel_rfl) (by cases h : listed.getD 16 false with | false => rfl | true => exact absurd (hcl 16 _ rfl h ⟨0, .phase⟩ (by simp) rfl) (by simp [hun]))).trans rfl
          exact .inl ⟨rfl, fun K hk => wp_val (v := V) (by clear hk hI hoi hdeps ht hF hcl hs KF KP IV; generalize a.eval = ρ at *; unfold execOp; simp only [e3]; go_simp) (hk _ _ rfl (KP listed 0 w0 (by decide)) (IV listed 0 w0 w0 (by decide) (gr w0) hI))⟩
        · have e0 : a.eval (.tmp 0) = .slice (some ⟨b, o, none⟩) n lc := (tabd_old ht (t := 0) (of_decide_eq_true (by kernel_rfl)) (by kernel_rfl)).trans rfl
          exact .inl ⟨rfl, fun K hk => wp_val (v := .slice (some ⟨b, o, none⟩) n lc) (by clear hk hI hoi hdeps ht hF hcl hs KF KP IV; generalize a.eval = ρ at *; unfold execOp; simp only [e0]; go_simp) (hk _ _ rfl (KP listed 1 w0 (by decide)) (IV listed 1 w0 w0 (by decide) (gr w0) hI))⟩
        · have e4 : a.eval (.tmp 4) = .int .i64 (i : Int) := (tabd_old ht (t := 4) (of_decide_eq_true (by kernel_rfl)) (by kernel_rfl)).trans rfl
          exact .inl ⟨rfl, fun K hk => wp_val (v := .int .i64 (i : Int)) (by clear hk hI hoi hdeps ht hF hcl hs KF KP IV; generalize a.eval = ρ at *; unfold execOp; simp only [e4]; go_simp) (hk _ _ rfl (KP listed 2 w0 (by decide)) (IV listed 2 w0 w0 (by decide) (gr w0) hI))⟩
        · have d1 := hdeps ⟨1, .data⟩ (by simp) rfl
          have d2 := hdeps ⟨2, .data⟩ (by simp) rfl
          have e12 : a.eval (.tmp 12) = .slice (some ⟨b, o, none⟩) n lc := (tabd_at ht (t := 12) (of_decide_eq_true (by kernel_rfl)) (by kernel_rfl) d1).trans (hF 1 d1)
          have e13 : a.eval (.tmp 13) = .int .i64 (i : Int) := (tabd_at ht (t := 13) (of_decide_eq_true (by kernel_rfl)) (by kernel_rfl) d2).trans (hF 2 d2)
          exact .inl ⟨rfl, fun K hk => wp_val (v := .pointer (some ⟨b, o + i, none⟩)) (by clear hk hI hoi hdeps ht hF hcl hs KF KP IV; generalize a.eval = ρ at *; unfold execOp; simp only [e12, e13]; go_simp) (hk _ _ rfl (KP listed 3 w0 (by decide)) (IV listed 3 w0 w0 (by decide) (gr w0) hI))⟩
        · have d3 := hdeps ⟨3, .data⟩ (by simp) rfl
          have e14 : a.eval (.tmp 14) = .pointer (some ⟨b, o + i, none⟩) := (tabd_at ht (t := 14) (of_decide_eq_true (by kernel_rfl)) (by kernel_rfl) d3).trans (hF 3 d3)
          exact .inl ⟨rfl, fun K hk => wp_val (v := .slice DA dn dc) (by have hc := (after w0 hI.2).out; clear hk hI hoi hdeps ht hF hcl hs KF KP IV; generalize a.eval = ρ at *; unfold execOp; simp only [e14]; go_simp) (hk _ _ rfl (KP listed 4 w0 (by decide)) (IV listed 4 w0 w0 (by decide) (gr w0) hI))⟩
        · have d4 := hdeps ⟨4, .data⟩ (by simp) rfl
          have e15 : a.eval (.tmp 15) = .slice DA dn dc := (tabd_at ht (t := 15) (of_decide_eq_true (by kernel_rfl)) (by kernel_rfl) d4).trans (hF 4 d4)
          refine .inl ⟨rfl, fun K hk => ?_⟩
          obtain ⟨v, w1, hr, ho, hg⟩ := run_app_fresh w0 47 DA dc d (afterB w0 hI.2).out (by have := DL.out; have := DN.out; omega)
          obtain ⟨A, C, rfl⟩ := own_slice ho
          have hle := (hI.1 (by cases h15 : listed.getD 15 false with | false => rfl | true => exact absurd ((hcl 7 _ rfl (hcl 15 _ rfl h15 ⟨7, .chain⟩ (by simp) rfl) ⟨5, .data⟩ (by simp) rfl)) (by simp [hun]))).size
          exact wp_valT (w' := w1) (app_op _ _ rfl rfl e15 (by rw [← DN.out] at hr; exact hr)) (hk _ w1 ⟨A, C, by rw [DN.out], fun _ => by have := World.ownsRow.mono ho hle; rw [← DN.out] at this; exact this⟩ (fun k u _ _ h => KF listed 5 k u w0 w1 (by decide) hg h) (IV listed 5 w0 w1 (by decide) hg hI))
        · refine .inl ⟨rfl, fun K hk => ?_⟩
          obtain ⟨i0, hi0, hz0, hz1, hz2⟩ := info_parts byte_info
          exact wp_buildSlice 47 5 1 _ rfl #[.int .u8 167] i0 _ Try.underlying47 hi0 hz0 (by rw [hz1]; decide) (by rw [hz1]; decide) (by rw [hz1]; kernel_rfl) (hk _ _ ⟨w0.heap.size, rfl, fun _ => lies_new w0 5 #[.int .u8 167]⟩ (fun k u _ _ h => KF listed 6 k u w0 _ (by decide) (World.grownBy_alloc w0 _ none) h) (IV listed 6 w0 _ (by decide) (World.grownBy_alloc w0 _ none) hI))
        · have d5 := hdeps ⟨5, .data⟩ (by simp) rfl
          have d6 := hdeps ⟨6, .data⟩ (by simp) rfl
          have f5 := hF 5 d5
          have e16 : a.eval (.tmp 16) = vals 5 := tabd_at ht (t := 16) (of_decide_eq_true (by kernel_rfl)) (by kernel_rfl) d5
          have f6 := hF 6 d6
          have e17 : a.eval (.tmp 17) = vals 6 := tabd_at ht (t := 17) (of_decide_eq_true (by kernel_rfl)) (by kernel_rfl) d6
          refine .inl ⟨rfl, fun K hk => ?_⟩
          have PR := fun W' => show ∀ (k : Nat) (u : Value), k ≠ 7 → listed.getD k false = true → ((fun (l_ : Array Bool) (j_ : Nat) (v_ : Value) (W : World) => match j_ with | 0 => v_ = V | 1 => v_ = .slice (some ⟨b, o, none⟩) n lc | 2 => v_ = .int .i64 (i : Int) | 3 => v_ = .pointer (some ⟨b, o + i, none⟩) | 4 => v_ = .slice DA dn dc | 5 => (∃ A C, v_ = .slice A dn C ∧ (l_.getD 7 false = false → W.ownsRow wr.heap.size 5 1 (.slice A dn C) dn (d.map yB))) | 6 => (∃ G, v_ = .slice (some ⟨G, 0, none⟩) 1 1 ∧ (l_.getD 7 false = false → Lies W G 5 #[.int .u8 167])) | 7 => (∃ A C, v_ = .slice A (dn + 1) C ∧ (l_.getD 15 false = false → W.ownsRow wr.heap.size 5 1 (.slice A (dn + 1) C) (dn + 1) ((d ++ [167]).map yB))) | 8 => v_ = .slice (some ⟨b, o, none⟩) n lc | 9 => v_ = .int .i64 (i : Int) | 10 => v_ = .pointer (some ⟨b, o + i, none⟩) | 11 => v_ = .slice DA dn dc | 12 => v_ = .int .i64 (dn : Int) | 13 => (∃ A C, v_ = .slice A dn C ∧ (l_.getD 15 false = false → W.ownsRow wr.heap.size 5 1 (.slice A (dn + 1) C) (dn + 1) ((d ++ [167]).map yB))) | 14 => (∃ G A C, v_ = .slice (some ⟨G, 0, none⟩) 1 1 ∧ (l_.getD 15 false = false → (Lies W G 47 #[.slice A dn C] ∧ W.ownsRow wr.heap.size 5 1 (.slice A (dn + 1) C) (dn + 1) ((d ++ [167]).map yB)))) | 15 => (∃ A C, v_ = .slice A (i + 1) C ∧ LentL W w.heap.size (.slice A (i + 1) C) (q ++ [d])) | 16 => (∃ A C, v_ = .slice A (i + 1) C ∧ LentL W w.heap.size (.slice A (i + 1) C) (q ++ [d])) | _ => True) : Array Bool → Nat → Value → World → Prop) listed k u w0 → ((fun (l_ : Array Bool) (j_ : Nat) (v_ : Value) (W : World) => match j_ with | 0 => v_ = V | 1 => v_ = .slice (some ⟨b, o, none⟩) n lc | 2 => v_ = .int .i64 (i : Int) | 3 => v_ = .pointer (some ⟨b, o + i, none⟩) | 4 => v_ = .slice DA dn dc | 5 => (∃ A C, v_ = .slice A dn C ∧ (l_.getD 7 false = false → W.ownsRow wr.heap.size 5 1 (.slice A dn C) dn (d.map yB))) | 6 => (∃ G, v_ = .slice (some ⟨G, 0, none⟩) 1 1 ∧ (l_.getD 7 false = false → Lies W G 5 #[.int .u8 167])) | 7 => (∃ A C, v_ = .slice A (dn + 1) C ∧ (l_.getD 15 false = false → W.ownsRow wr.heap.size 5 1 (.slice A (dn + 1) C) (dn + 1) ((d ++ [167]).map yB))) | 8 => v_ = .slice (some ⟨b, o, none⟩) n lc | 9 => v_ = .int .i64 (i : Int) | 10 => v_ = .pointer (some ⟨b, o + i, none⟩) | 11 => v_ = .slice DA dn dc | 12 => v_ = .int .i64 (dn : Int) | 13 => (∃ A C, v_ = .slice A dn C ∧ (l_.getD 15 false = false → W.ownsRow wr.heap.size 5 1 (.slice A (dn + 1) C) (dn + 1) ((d ++ [167]).map yB))) | 14 => (∃ G A C, v_ = .slice (some ⟨G, 0, none⟩) 1 1 ∧ (l_.getD 15 false = false → (Lies W G 47 #[.slice A dn C] ∧ W.ownsRow wr.heap.size 5 1 (.slice A (dn + 1) C) (dn + 1) ((d ++ [167]).map yB)))) | 15 => (∃ A C, v_ = .slice A (i + 1) C ∧ LentL W w.heap.size (.slice A (i + 1) C) (q ++ [d])) | 16 => (∃ A C, v_ = .slice A (i + 1) C ∧ LentL W w.heap.size (.slice A (i + 1) C) (q ++ [d])) | _ => True) : Array Bool → Nat → Value → World → Prop) (listed.setIfInBounds 7 true) k u W' from
            (fun k u hkp hkl h => by
              have s_ : (listed.setIfInBounds 7 true).getD 7 false = true := getD_here (by rw [hs]; decide)
              match k, hkp, hkl, h with
              | 0, _, _, h => exact h
              | 1, _, _, h => exact h
              | 2, _, _, h => exact h
              | 3, _, _, h => exact h
              | 4, _, _, h => exact h
              | 5, _, _, ⟨A, C, e, _⟩ => exact ⟨A, C, e, fun h6 => by rw [s_] at h6; cases h6⟩
              | 6, _, _, ⟨G, e, _⟩ => exact ⟨G, e, fun h6 => by rw [s_] at h6; cases h6⟩
              | 7, hk, _, _ => exact absurd rfl hk
              | 8, _, _, h => exact h
              | 9, _, _, h => exact h
              | 10, _, _, h => exact h
              | 11, _, _, h => exact h
              | 12, _, _, h => exact h
              | 13, _, h, _ => exact absurd ((hcl 13 _ rfl h ⟨7, .data⟩ (by simp) rfl)) (by simp [hun])
              | 14, _, h, _ => exact absurd ((hcl 13 _ rfl (hcl 14 _ rfl h ⟨13, .data⟩ (by simp) rfl) ⟨7, .data⟩ (by simp) rfl)) (by simp [hun])
              | 15, _, h, _ => exact absurd ((hcl 15 _ rfl h ⟨7, .chain⟩ (by simp) rfl)) (by simp [hun])
              | 16, _, h, _ => exact absurd ((hcl 16 _ rfl h ⟨7, .phase⟩ (by simp) rfl)) (by simp [hun])
              | _ + 17, _, _, _ => exact trivial)
          obtain ⟨A, C, e5, h5⟩ := f5
          obtain ⟨G, e6, h6⟩ := f6
          have l15 : listed.getD 15 false = false := (by cases h15 : listed.getD 15 false with | false => rfl | true => exact absurd (hcl 15 _ rfl h15 ⟨7, .chain⟩ (by simp) rfl) (by simp [hun]))
          have g0 := hI.1 l15
          obtain ⟨A', C', Z, hr, ho, hg, hb⟩ := row_byte w0 wr.heap.size G (.slice A dn C) d (by rw [DN.out] at h5 ⊢; exact h5 hun) (lies_cell (h6 hun) 0) g0.size (by have := DL.out; omega)
          rw [← DN.out] at hr ho
          have gz : wr.grownBy Z none := ⟨hg.os.trans g0.os, hg.tape.trans g0.tape, hg.output.trans g0.output, Nat.le_trans g0.size hg.size, fun q hq _ => (hg.block q (Nat.lt_of_lt_of_le hq g0.size) (fun e => by have := hb q e.symm; omega)).trans (g0.block q hq (by simp))⟩
          exact wp_valT (w' := Z) (app_op _ _ rfl (e16.trans e5) (e17.trans e6) hr) (hk _ Z ⟨A', C', rfl, fun _ => ho⟩ (PR _) ⟨fun _ => gz, HW.out.grown gz HW.out.size (fun k e => by cases e)⟩)
        · have e0 : a.eval (.tmp 0) = .slice (some ⟨b, o, none⟩) n lc := (tabd_old ht (t := 0) (of_decide_eq_true (by kernel_rfl)) (by kernel_rfl)).trans rfl
          exact .inl ⟨rfl, fun K hk => wp_val (v := .slice (some ⟨b, o, none⟩) n lc) (by clear hk hI hoi hdeps ht hF hcl hs KF KP IV; generalize a.eval = ρ at *; unfold execOp; simp only [e0]; go_simp) (hk _ _ rfl (KP listed 8 w0 (by decide)) (IV listed 8 w0 w0 (by decide) (gr w0) hI))⟩
        · have e4 : a.eval (.tmp 4) = .int .i64 (i : Int) := (tabd_old ht (t := 4) (of_decide_eq_true (by kernel_rfl)) (by kernel_rfl)).trans rfl
          exact .inl ⟨rfl, fun K hk => wp_val (v := .int .i64 (i : Int)) (by clear hk hI hoi hdeps ht hF hcl hs KF KP IV; generalize a.eval = ρ at *; unfold execOp; simp only [e4]; go_simp) (hk _ _ rfl (KP listed 9 w0 (by decide)) (IV listed 9 w0 w0 (by decide) (gr w0) hI))⟩
        · have d8 := hdeps ⟨8, .data⟩ (by simp) rfl
          have d9 := hdeps ⟨9, .data⟩ (by simp) rfl
          have e19 : a.eval (.tmp 19) = .slice (some ⟨b, o, none⟩) n lc := (tabd_at ht (t := 19) (of_decide_eq_true (by kernel_rfl)) (by kernel_rfl) d8).trans (hF 8 d8)
          have e20 : a.eval (.tmp 20) = .int .i64 (i : Int) := (tabd_at ht (t := 20) (of_decide_eq_true (by kernel_rfl)) (by kernel_rfl) d9).trans (hF 9 d9)
          exact .inl ⟨rfl, fun K hk => wp_val (v := .pointer (some ⟨b, o + i, none⟩)) (by clear hk hI hoi hdeps ht hF hcl hs KF KP IV; generalize a.eval = ρ at *; unfold execOp; simp only [e19, e20]; go_simp) (hk _ _ rfl (KP listed 10 w0 (by decide)) (IV listed 10 w0 w0 (by decide) (gr w0) hI))⟩
        · have d10 := hdeps ⟨10, .data⟩ (by simp) rfl
          have e21 : a.eval (.tmp 21) = .pointer (some ⟨b, o + i, none⟩) := (tabd_at ht (t := 21) (of_decide_eq_true (by kernel_rfl)) (by kernel_rfl) d10).trans (hF 10 d10)
          exact .inl ⟨rfl, fun K hk => wp_val (v := .slice DA dn dc) (by have hc := (after w0 hI.2).out; clear hk hI hoi hdeps ht hF hcl hs KF KP IV; generalize a.eval = ρ at *; unfold execOp; simp only [e21]; go_simp) (hk _ _ rfl (KP listed 11 w0 (by decide)) (IV listed 11 w0 w0 (by decide) (gr w0) hI))⟩
        · have d11 := hdeps ⟨11, .data⟩ (by simp) rfl
          have e22 : a.eval (.tmp 22) = .slice DA dn dc := (tabd_at ht (t := 22) (of_decide_eq_true (by kernel_rfl)) (by kernel_rfl) d11).trans (hF 11 d11)
          exact .inl ⟨rfl, fun K hk => wp_val (v := .int .i64 (dn : Int)) (by clear hk hI hoi hdeps ht hF hcl hs KF KP IV; generalize a.eval = ρ at *; unfold execOp; simp only [e22]; go_simp) (hk _ _ rfl (KP listed 12 w0 (by decide)) (IV listed 12 w0 w0 (by decide) (gr w0) hI))⟩
        · have d7 := hdeps ⟨7, .data⟩ (by simp) rfl
          have d12 := hdeps ⟨12, .data⟩ (by simp) rfl
          have f7 := hF 7 d7
          have e18 : a.eval (.tmp 18) = vals 7 := tabd_at ht (t := 18) (of_decide_eq_true (by kernel_rfl)) (by kernel_rfl) d7
          have e23 : a.eval (.tmp 23) = .int .i64 (dn : Int) := (tabd_at ht (t := 23) (of_decide_eq_true (by kernel_rfl)) (by kernel_rfl) d12).trans (hF 12 d12)
          refine .inl ⟨rfl, fun K hk => ?_⟩
          obtain ⟨A, C, e7, h7⟩ := f7
          have l15 : listed.getD 15 false = false := (by cases h15 : listed.getD 15 false with | false => rfl | true => exact absurd (hcl 14 _ rfl (hcl 15 _ rfl h15 ⟨14, .data⟩ (by simp) rfl) ⟨13, .data⟩ (by simp) rfl) (by simp [hun]))
          have hcap := row_cap (h7 l15)
          have hcut := cutb_to A (dn + 1) C dn (by omega) w0
          exact wp_val (v := .slice A dn C) (by clear hk hI hoi hdeps ht hF hcl hs KF KP IV; rw [e7] at e18; generalize a.eval = ρ at *; unfold execOp; simp only [e18, e23]; go_simp) (hk _ _ ⟨A, C, rfl, fun h6 => h7 l15⟩ (KP listed 13 w0 (by decide)) (IV listed 13 w0 w0 (by decide) (gr w0) hI))
        · have d13 := hdeps ⟨13, .data⟩ (by simp) rfl
          have f13 := hF 13 d13
          have e24 : a.eval (.tmp 24) = vals 13 := tabd_at ht (t := 24) (of_decide_eq_true (by kernel_rfl)) (by kernel_rfl) d13
          refine .inl ⟨rfl, fun K hk => ?_⟩
          obtain ⟨A, C, e13, h13⟩ := f13
          have l15 : listed.getD 15 false = false := (by cases h15 : listed.getD 15 false with | false => rfl | true => exact absurd (hcl 15 _ rfl h15 ⟨14, .data⟩ (by simp) rfl) (by simp [hun]))
          obtain ⟨i0, hi0, hz0, hz1, hz2⟩ := info_parts slice_info
          exact wp_buildSlice 26 47 1 _ rfl #[.slice A dn C] i0 _ Try.underlying26 hi0 hz0 (by rw [hz1]; decide) (by rw [hz1]; decide) (by rw [hz1]; simp only [List.map_toArray, List.map_cons, List.map_nil, e24, e13]; kernel_rfl) (hk _ _ ⟨w0.heap.size, A, C, rfl, fun _ => ⟨lies_new w0 47 #[.slice A dn C], (h13 l15).alloc _⟩⟩ (fun k u _ _ h => KF listed 14 k u w0 _ (by decide) (World.grownBy_alloc w0 _ none) h) (IV listed 14 w0 _ (by decide) (World.grownBy_alloc w0 _ none) hI))
        · have d0 := hdeps ⟨0, .data⟩ (by simp) rfl
          have d14 := hdeps ⟨14, .data⟩ (by simp) rfl
          have d7 := hdeps ⟨7, .chain⟩ (by simp) rfl
          have e11 : a.eval (.tmp 11) = V := (tabd_at ht (t := 11) (of_decide_eq_true (by kernel_rfl)) (by kernel_rfl) d0).trans (hF 0 d0)
          have f14 := hF 14 d14
          have e25 : a.eval (.tmp 25) = vals 14 := tabd_at ht (t := 25) (of_decide_eq_true (by kernel_rfl)) (by kernel_rfl) d14
          refine .inl ⟨rfl, fun K hk => ?_⟩
          have PR := fun W' => show ∀ (k : Nat) (u : Value), k ≠ 15 → listed.getD k false = true → ((fun (l_ : Array Bool) (j_ : Nat) (v_ : Value) (W : World) => match j_ with | 0 => v_ = V | 1 => v_ = .slice (some ⟨b, o, none⟩) n lc | 2 => v_ = .int .i64 (i : Int) | 3 => v_ = .pointer (some ⟨b, o + i, none⟩) | 4 => v_ = .slice DA dn dc | 5 => (∃ A C, v_ = .slice A dn C ∧ (l_.getD 7 false = false → W.ownsRow wr.heap.size 5 1 (.slice A dn C) dn (d.map yB))) | 6 => (∃ G, v_ = .slice (some ⟨G, 0, none⟩) 1 1 ∧ (l_.getD 7 false = false → Lies W G 5 #[.int .u8 167])) | 7 => (∃ A C, v_ = .slice A (dn + 1) C ∧ (l_.getD 15 false = false → W.ownsRow wr.heap.size 5 1 (.slice A (dn + 1) C) (dn + 1) ((d ++ [167]).map yB))) | 8 => v_ = .slice (some ⟨b, o, none⟩) n lc | 9 => v_ = .int .i64 (i : Int) | 10 => v_ = .pointer (some ⟨b, o + i, none⟩) | 11 => v_ = .slice DA dn dc | 12 => v_ = .int .i64 (dn : Int) | 13 => (∃ A C, v_ = .slice A dn C ∧ (l_.getD 15 false = false → W.ownsRow wr.heap.size 5 1 (.slice A (dn + 1) C) (dn + 1) ((d ++ [167]).map yB))) | 14 => (∃ G A C, v_ = .slice (some ⟨G, 0, none⟩) 1 1 ∧ (l_.getD 15 false = false → (Lies W G 47 #[.slice A dn C] ∧ W.ownsRow wr.heap.size 5 1 (.slice A (dn + 1) C) (dn + 1) ((d ++ [167]).map yB)))) | 15 => (∃ A C, v_ = .slice A (i + 1) C ∧ LentL W w.heap.size (.slice A (i + 1) C) (q ++ [d])) | 16 => (∃ A C, v_ = .slice A (i + 1) C ∧ LentL W w.heap.size (.slice A (i + 1) C) (q ++ [d])) | _ => True) : Array Bool → Nat → Value → World → Prop) listed k u w0 → ((fun (l_ : Array Bool) (j_ : Nat) (v_ : Value) (W : World) => match j_ with | 0 => v_ = V | 1 => v_ = .slice (some ⟨b, o, none⟩) n lc | 2 => v_ = .int .i64 (i : Int) | 3 => v_ = .pointer (some ⟨b, o + i, none⟩) | 4 => v_ = .slice DA dn dc | 5 => (∃ A C, v_ = .slice A dn C ∧ (l_.getD 7 false = false → W.ownsRow wr.heap.size 5 1 (.slice A dn C) dn (d.map yB))) | 6 => (∃ G, v_ = .slice (some ⟨G, 0, none⟩) 1 1 ∧ (l_.getD 7 false = false → Lies W G 5 #[.int .u8 167])) | 7 => (∃ A C, v_ = .slice A (dn + 1) C ∧ (l_.getD 15 false = false → W.ownsRow wr.heap.size 5 1 (.slice A (dn + 1) C) (dn + 1) ((d ++ [167]).map yB))) | 8 => v_ = .slice (some ⟨b, o, none⟩) n lc | 9 => v_ = .int .i64 (i : Int) | 10 => v_ = .pointer (some ⟨b, o + i, none⟩) | 11 => v_ = .slice DA dn dc | 12 => v_ = .int .i64 (dn : Int) | 13 => (∃ A C, v_ = .slice A dn C ∧ (l_.getD 15 false = false → W.ownsRow wr.heap.size 5 1 (.slice A (dn + 1) C) (dn + 1) ((d ++ [167]).map yB))) | 14 => (∃ G A C, v_ = .slice (some ⟨G, 0, none⟩) 1 1 ∧ (l_.getD 15 false = false → (Lies W G 47 #[.slice A dn C] ∧ W.ownsRow wr.heap.size 5 1 (.slice A (dn + 1) C) (dn + 1) ((d ++ [167]).map yB)))) | 15 => (∃ A C, v_ = .slice A (i + 1) C ∧ LentL W w.heap.size (.slice A (i + 1) C) (q ++ [d])) | 16 => (∃ A C, v_ = .slice A (i + 1) C ∧ LentL W w.heap.size (.slice A (i + 1) C) (q ++ [d])) | _ => True) : Array Bool → Nat → Value → World → Prop) (listed.setIfInBounds 15 true) k u W' from
            (fun k u hkp hkl h => by
              have s_ : (listed.setIfInBounds 15 true).getD 15 false = true := getD_here (by rw [hs]; decide)
              match k, hkp, hkl, h with
              | 0, _, _, h => exact h
              | 1, _, _, h => exact h
              | 2, _, _, h => exact h
              | 3, _, _, h => exact h
              | 4, _, _, h => exact h
              | 5, _, _, ⟨A, C, e, _⟩ => exact ⟨A, C, e, fun h6 => by have h := hdeps ⟨7, .chain⟩ (by simp) rfl; have h := h; rw [getD_set_ne false (by decide), h] at h6; cases h6⟩
              | 6, _, _, ⟨G, e, _⟩ => exact ⟨G, e, fun h6 => by have h := hdeps ⟨7, .chain⟩ (by simp) rfl; have h := h; rw [getD_set_ne false (by decide), h] at h6; cases h6⟩
              | 7, _, _, ⟨A, C, e, _⟩ => exact ⟨A, C, e, fun h6 => by rw [s_] at h6; cases h6⟩
              | 8, _, _, h => exact h
              | 9, _, _, h => exact h
              | 10, _, _, h => exact h
              | 11, _, _, h => exact h
              | 12, _, _, h => exact h
              | 13, _, _, ⟨A, C, e, _⟩ => exact ⟨A, C, e, fun h6 => by rw [s_] at h6; cases h6⟩
              | 14, _, _, ⟨G, A, C, e, _⟩ => exact ⟨G, A, C, e, fun h6 => by rw [s_] at h6; cases h6⟩
              | 15, hk, _, _ => exact absurd rfl hk
              | 16, _, h, _ => exact absurd ((hcl 16 _ rfl h ⟨15, .data⟩ (by simp) rfl)) (by simp [hun])
              | _ + 17, _, _, _ => exact trivial)
          obtain ⟨G, A, C, e14, h14⟩ := f14
          obtain ⟨hG, hD⟩ := h14 hun
          have g0 := hI.1 hun
          obtain ⟨xs, hx1, hx2⟩ := lentL_grown HX.out g0
          rw [HQ.out] at hx1
          obtain ⟨A', C', Z, hr, ho, hg, hb⟩ := row_slice w0 w.heap.size G V (.slice A dn C) i xs hx1 (lies_cell hG 0) rfl hI.2.size (by omega)
          have hl2 : LentL Z w.heap.size (.slice A' (i + 1) C') (q ++ [d]) := by
            have := lentL_snoc (cs := q) (d := d) (x := .slice A dn C) (A := A') (C := C') (by rw [HQ.out]; exact hx1) hx2 ⟨A, C, by rw [DN.out], by rw [← DN.out]; exact World.ownsRow.mono hD HW.out.size⟩ (by rw [HQ.out]; exact ho) hg
            rw [HQ.out] at this
            exact this
          exact wp_valT (w' := Z) (app_op _ _ rfl e11 (e25.trans e14) hr) (hk _ Z ⟨A', C', rfl, hl2⟩ (PR _) ⟨(fun h6 => by rw [getD_here (by rw [hs]; decide)] at h6; cases h6), hI.2.grown hg hI.2.size (fun k e => (hb k e).1)⟩)
        · have d15 := hdeps ⟨15, .data⟩ (by simp) rfl
          have f15 := hF 15 d15
          have e26 : a.eval (.tmp 26) = vals 15 := tabd_at ht (t := 26) (of_decide_eq_true (by kernel_rfl)) (by kernel_rfl) d15
          refine .inl ⟨rfl, fun K hk => ?_⟩
          obtain ⟨A, C, e15, h15⟩ := f15
          exact wp_val (v := .slice A (i + 1) C) (by clear hk hI hoi hdeps ht hF hcl hs KF KP IV; rw [e15] at e26; generalize a.eval = ρ at *; unfold execOp; simp only [e26]; go_simp) (hk _ _ ⟨A, C, rfl, h15⟩ (KP listed 16 w0 (by decide)) (IV listed 16 w0 w0 (by decide) (gr w0) hI))
      case hend =>
        intro a w0 listed vals hall ht hF hI
        rw [tabd_fill ht (fun t i ho => hall i (ownAll_lt ho))]
        have g0 : vals 0 = V := hF 0 (by decide)
        have g1 : vals 1 = .slice (some ⟨b, o, none⟩) n lc := hF 1 (by decide)
        have g2 : vals 2 = .int .i64 (i : Int) := hF 2 (by decide)
        have g3 : vals 3 = .pointer (some ⟨b, o + i, none⟩) := hF 3 (by decide)
        have g4 : vals 4 = .slice DA dn dc := hF 4 (by decide)
        have g5 := hF 5 (by decide)
        have g6 := hF 6 (by decide)
        have g7 := hF 7 (by decide)
        have g8 : vals 8 = .slice (some ⟨b, o, none⟩) n lc := hF 8 (by decide)
        have g9 : vals 9 = .int .i64 (i : Int) := hF 9 (by decide)
        have g10 : vals 10 = .pointer (some ⟨b, o + i, none⟩) := hF 10 (by decide)
        have g11 : vals 11 = .slice DA dn dc := hF 11 (by decide)
        have g12 : vals 12 = .int .i64 (dn : Int) := hF 12 (by decide)
        have g13 := hF 13 (by decide)
        have g14 := hF 14 (by decide)
        have g15 := hF 15 (by decide)
        have g16 := hF 16 (by decide)
        change Exit.inBlock _ (Exit.then _ _) Exit.normal { tmps := #[.slice (some ⟨b, o, none⟩) n lc, undef, .slice none 0 0, vals 16, .int .i64 (i : Int), .int .i64 (i : Int), .slice (some ⟨b, o, none⟩) n lc, .int .i64 (n : Int), .bool true, u9, u10, vals 0, vals 1, vals 2, vals 3, vals 4, vals 5, vals 6, vals 7, vals 8, vals 9, vals 10, vals 11, vals 12, vals 13, vals 14, vals 15, undef, undef, undef, undef, undef, undef, undef], defers := [] } w0
        simp only [g0, g1, g2, g3, g4, g8, g9, g10, g11, g12]
        clear ht hF KF KP IV
        obtain ⟨A, C, e16, h16⟩ := g16
        have hI2 := hI.2
        have H16 := Lib.hid h16
        have HI2 := Lib.hid hI2
        rw [e16]
        clear g5 g6 g7 g13 g14 g15 hI hall h16 hI2 e16
        generalize vals 5 = y5
        generalize vals 6 = y6
        generalize vals 7 = y7
        generalize vals 13 = y13
        generalize vals 14 = y14
        generalize vals 15 = y15
        go_wp2
        go_roundw
        case rel => exact ⟨i + 1, _, by omega, rfl, by go_num, by rw [QE.out]; exact H16.out, HI2.out⟩
        case measure => first | (simp [intOf]; done) | (simp [intOf]; omega)
    · have li : ¬ (i : Int) < (n : Int) := by omega
      obtain rfl : i = n := by omega
      have hq : ls.take i = ls := List.take_of_length_le (by have := NE.out; omega)
      have hx := HX.out
      rw [hq] at hx
      have gA : wr.grownBy ((wr.alloc (.cells #[.int .u8 113] 5)).alloc (.cells #[.slice (some ⟨wr.heap.size, 0, none⟩) 1 1] 47)) none := grown_none_trans (World.grownBy_alloc wr _ none) (World.grownBy_alloc _ _ none)
      obtain ⟨xs, hx1, hx2⟩ := lentL_grown hx gA
      rw [← NE.out] at hx1
      have c0 : ((wr.alloc (.cells #[.int .u8 113] 5)).alloc (.cells #[.slice (some ⟨wr.heap.size, 0, none⟩) 1 1] 47)).cell? ⟨(wr.alloc (.cells #[.int .u8 113] 5)).heap.size, 0, none⟩ = some (.slice (some ⟨wr.heap.size, 0, none⟩) 1 1) := lies_cell (lies_new _ 47 _) 0
      have l5 := lies_alloc (lies_new wr 5 #[.int .u8 113]) (.cells #[.slice (some ⟨wr.heap.size, 0, none⟩) 1 1] 47)
      have b2 : Below w.heap.size w ((wr.alloc (.cells #[.int .u8 113] 5)).alloc (.cells #[.slice (some ⟨wr.heap.size, 0, none⟩) 1 1] 47)) := HW.out.grown gA HW.out.size (fun k e => by cases e)
      obtain ⟨A', C', Z, hr, ho, hg, hb⟩ := row_slice _ w.heap.size _ V _ i xs hx1 c0 rfl b2.size (by omega)
      have b3 := b2.grown hg b2.size (fun k e => (hb k e).1)
      have hcap := row_cap ho
      have hcut := fun W => cutl_to A' (i + 1) C' i (by omega) W
      have hfin : LentF Z w.heap.size A' C' ls := by
        refine ⟨xs, wr.heap.size, by rw [← NE.out]; exact ho, ?_, ?_, fun j hj => ?_⟩
        · have l6 : Lies Z wr.heap.size 5 #[.int .u8 113] := (hg.block _ (lies_lt l5) (fun e => by
            obtain ⟨_, cs, h⟩ := hb _ e.symm
            rw [show _ = _ from l5] at h
            injection h with h
            injection h with _ h _
            cases h)).trans l5
          exact lies_cell l6 0
        · have := hx1.1; have := NE.out; omega
        · obtain ⟨x, e, hd⟩ := hx2 j hj
          exact ⟨x, e, lentD_other hd hg (fun r e => by obtain ⟨_, cs, h⟩ := hb r e; exact ⟨cs, 47, h, by decide⟩)⟩
      rw [World.size_alloc] at hr
      have HR := Lib.hid hr
      have HFI := Lib.hid hfin
      have B3 := Lib.hid b3
      clear hq hx gA hx1 hx2 c0 l5 b2 hr ho hg hb b3 hcap hfin
      go_wp2_with (refine wpList_app_run (t1 := 26) (t2 := 26) rfl _ _ rfl rfl rfl HR.out ?_)
      go_ret
      exact ⟨⟨A', C', rfl, HFI.out⟩, B3.out⟩
end Go.Proofs.Ytiglakhfkgeefaa.K
set_option linter.unusedSimpArgs false
set_option linter.unusedVariables false
namespace Go.Proofs.Ytiglakhfkgeefaa.K
open Go.Stk Go.RowKit Go.Word
attribute [local go_sem] guard_eq guard_ne st_eql st_neq
theorem lentF_parts {w : World} {B : Nat} {A : Option Addr} {C : Nat} {ls : List Bt} (h : LentF w B A C ls) : ∃ g, A = some ⟨g, 0, none⟩ ∧ B ≤ g ∧ g < w.heap.size ∧ ls.length + 1 ≤ C ∧ (∃ G, w.cell? ⟨g, ls.length, none⟩ = some (.slice (some ⟨G, 0, none⟩) 1 1) ∧ w.cell? ⟨G, 0, none⟩ = some (.int .u8 113)) ∧
    ∀ i (h : i < ls.length), ∃ gi ci, w.cell? ⟨g, i, none⟩ = some (.slice (some ⟨gi, 0, none⟩) ls[i].length ci) ∧ ls[i].length + 1 ≤ ci ∧ BytesAt w (some ⟨gi, 0, none⟩) (ls[i] ++ [167]) := by
  obtain ⟨xs, G, hr, hG, hx, he⟩ := h
  have hA : ∃ g, A = some ⟨g, 0, none⟩ := by
    rcases hr.2 with ⟨_, h0⟩ | ⟨g, cap, cur, e, _⟩
    · omega
    · injection e with e
      exact ⟨g, e⟩
  obtain ⟨g, rfl⟩ := hA
  have hlt := hr.lt g rfl
  refine ⟨g, rfl, hlt.1, hlt.2, row_cap hr, ⟨G, ?_, hG⟩, fun i hi => ?_⟩
  · rw [hr.cellAt _ (by omega), List.getElem?_append_right (by omega), hx]
    simp
  · obtain ⟨x, e1, A1, C1, e2, h2⟩ := he i hi
    have hA1 : ∃ g, A1 = some ⟨g, 0, none⟩ := by
      rcases h2.2 with ⟨_, h0⟩ | ⟨g, cap, cur, e, _⟩
      · omega
      · injection e with e
        exact ⟨g, e⟩
    obtain ⟨gi, rfl⟩ := hA1
    have hb := own_bytes (l := ls[i] ++ [167]) (by unfold OwnB; rw [List.length_append]; exact h2)
    refine ⟨gi, C1, ?_, row_cap h2, hb.2.1⟩
    rw [hr.cellAt _ (by omega), List.getElem?_append_left (by omega), e1, e2]
set_option maxRecDepth 100000 in
set_option maxHeartbeats 4000000 in
theorem stay_any (B : Nat) (A LA : Option Addr) (C lc : Nat) (ls : List Bt) (w : World) (hF : LentF w B A C ls) (hL : ListAt w LA ls) (hn : ls.length ≤ 1000000) (hb : ∀ x ∈ ls, x.length ≤ 100000) :
    Calls Try.prog 16 #[.slice A ls.length C, .slice LA ls.length lc] w fun e w' => e = .returned (.bool true) ∧ ∃ m, w' = w.drewN m := by
  obtain ⟨g, rfl, _, hgl, hC, ⟨G, cG, cG2⟩, he⟩ := lentF_parts hF
  have HE := Lib.hid he
  have HL := Lib.hid hL
  have HB := Lib.hid hb
  obtain ⟨n, hne⟩ : ∃ n, n = ls.length := ⟨_, rfl⟩
  have NE := Lib.hid hne
  rw [← hne] at hn hC cG ⊢
  clear hF he hL hb hne
  have hcl := fun W => cutl_to (some ⟨g, 0, none⟩) n C (n + 1) hC W
  have hcl : ∀ W : World, (Instr.slice 26 (.slice (some ⟨g, 0, none⟩) n C) none (some (.int .i64 ((n : Int) + 1))) none).run Try.prog W = .ok (.slice (some ⟨g, 0, none⟩) (n + 1) C) W := hcl
  have r1 : ((1 : Int) != 1) = false := by decide
  have r113 : ((113 : Int) != 113) = false := by decide
  have r167 : ((167 : Int) != 167) = false := by decide
  have ln : (n : Int) < (n : Int) + 1 := by omega
  go_enter Try.func16, Try.ntmps16
  go_upto_region 4 with (fail)
  clear hcl cG cG2
  go_wp2
  go_loopw [6, 7] (fun v6 _ wr => ∃ i : Nat, i ≤ n ∧ v6 = .int .i64 (i : Int) ∧ ∃ m, wr = w.drewN m) (fun v6 _ _ => n - (intOf v6).toNat)
  case atStart => exact ⟨0, Nat.zero_le _, rfl, 0, rfl⟩
  case round =>
    obtain ⟨i, hi, rfl, m0, hw0⟩ := hrel
    have hbw : Below w.heap.size w wr := hw0 ▸ below_drewN (Below.refl _ _) _
    have HQ := Lib.hid hw0
    have HW := Lib.hid hbw
    clear hw0 hbw
    by_cases hlt : i < n
    · have li : (i : Int) < (n : Int) := by omega
      have lf : i < ls.length := by have := NE.out; omega
      obtain ⟨gi, ci, c1, hci, hby⟩ := HE.out i lf
      obtain ⟨b, o, DA, dc, eA, hbl, d0, hdy⟩ := HL.out i lf
      subst eA
      have d1 := (HW.out.cell (p := ⟨g, i, none⟩) hgl).trans c1
      have d2 := (HW.out.cell (p := ⟨b, o + i, none⟩) hbl).trans d0
      have hxl := HB.out ls[i] (List.getElem_mem lf)
      have hb1 : BytesAt w (some ⟨gi, 0, none⟩) ls[i] := fun j hj => by
        obtain ⟨b', o', e, h1, h2⟩ := hby j (by rw [List.length_append]; omega)
        exact ⟨b', o', e, h1, by rw [h2, List.getElem_append_left hj]⟩
      obtain ⟨b', o', e', hgl', k0⟩ := hby ls[i].length (by rw [List.length_append]; simp)
      injection e' with e'
      injection e' with a1 a2 _
      subst a1 a2
      have ek : (ls[i] ++ [167])[ls[i].length]'(by rw [List.length_append]; simp) = 167 := by simp
      rw [ek, Nat.zero_add] at k0
      have k1 := (HW.out.cell (p := ⟨gi, ls[i].length, none⟩) hgl').trans k0
      have k1 : wr.cell? ⟨gi, ls[i].length, none⟩ = some (.int .u8 167) := k1
      have cv1 := fun q => run_text (some ⟨gi, 0, none⟩) ls[i] ci (wr.drewN q) (bytesAt_below hb1 (below_drewN HW.out q))
      have cv2 := fun q => run_text DA ls[i] dc (wr.drewN q) (bytesAt_below hdy (below_drewN HW.out q))
      generalize hx : ls[i] = x at *
      clear hx d0 hby hdy hb1 k0 c1 ek
      have se : other x x = false := decide_eq_false (by simp)
      generalize x.length = k at *
      have hcb : ∀ W : World, (Instr.slice 47 (.slice (some ⟨gi, 0, none⟩) k ci) none (some (.int .i64 ((k : Int) + 1))) none).run Try.prog W = .ok (.slice (some ⟨gi, 0, none⟩) (k + 1) ci) W := fun W => cutb_to (some ⟨gi, 0, none⟩) k ci (k + 1) hci W
      have lk : (k : Int) < (k : Int) + 1 := by omega
      go_upto_region 8 with (fail)
      go_quiet (fail)
      go_wp2
      go_roundw
      case rel => exact ⟨i + 1, by omega, by go_num, m0 + nq, by rw [HQ.out, World.drewN_drewN]⟩
      case measure => first | (simp [intOf]; done) | (simp [intOf]; omega)
    · obtain rfl : i = n := by omega
      have li : ¬ ((i : Int) < (i : Int)) := by omega
      go_wp2
      go_ret
      exact ⟨rfl, m0, HQ.out⟩
end Go.Proofs.Ytiglakhfkgeefaa.K
