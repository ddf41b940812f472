/-
What is proved here: lists that are lent: each with one number more behind it, and one list more.
-/
import Derived.Test.YtpddamloajpiiaaGreatDoorTlsM
import Derived.Test.YtpddamloajpiiaaGreatDoorMa2
import Derived.Test.YtpddamloajpiiaaGreatDoorZroM
import Derived.Maps.AppendAt
import Derived.Deep.Onto
set_option linter.unusedSimpArgs false
set_option linter.unusedVariables false
namespace Go.Proofs.YtpddamloajpiiaaGreatDoor
open Go.Cmp Go.RowKit
/-- numbers with one more behind them -/
def LentD (w : World) (B : Nat) (v : Value) (d : List Int) : Prop := ∃ A C, v = .slice A d.length C ∧ w.ownsRow B 3 1 (.slice A (d.length + 1) C) (d.length + 1) ((d ++ [-71]).map iV)
theorem row_cap {w : World} {B e z n C : Nat} {A : Option Addr} {xs : List Value} (h : w.ownsRow B e z (.slice A n C) n xs) : n ≤ C := by
  rcases h.2 with ⟨e1, h0⟩ | ⟨_, cap, _, e1, _, _, h1, _⟩
  · omega
  · injection e1 with _ _ e1
    omega
set_option maxRecDepth 100000 in
theorem cuti_to (A : Option Addr) (k c m : Nat) (h : m ≤ c) (W : World) : (Instr.slice 33 (.slice A k c) none (some (.int .i64 (m : Int))) none).run Tryz.prog W = .ok (.slice A m c) W := by
  have := run_slice_h (P := Tryz.prog) W 33 A k c Tryz.underlying33 .i64 (m : Int) (by omega) (by omega)
  rw [this]
  have hz : (sizeOf (Tryz.prog.elem 33)).run Tryz.prog W = .ok 1 W := by kernel_rfl
  rw [hz]
  cases A <;> simp [sliced, Result.andThen, Addr.add]
set_option maxRecDepth 100000 in
theorem cutl_to (A : Option Addr) (k c m : Nat) (h : m ≤ c) (W : World) : (Instr.slice 23 (.slice A k c) none (some (.int .i64 (m : Int))) none).run Tryz.prog W = .ok (.slice A m c) W := by
  have := run_slice_h (P := Tryz.prog) W 23 A k c Tryz.underlying23 .i64 (m : Int) (by omega) (by omega)
  rw [this]
  have hz : (sizeOf (Tryz.prog.elem 23)).run Tryz.prog W = .ok 1 W := by kernel_rfl
  rw [hz]
  cases A <;> simp [sliced, Result.andThen, Addr.add]
set_option maxRecDepth 100000 in
theorem run_app_freshI (w : World) (ty : TypeId) (DA : Option Addr) (dc : Nat) (d : List Int) (hd : IntsAt w DA d) (hl : d.length ≤ 100000000) :
    ∃ v w1, (Builtin.append_ #[33, 33] ty #[.slice none 0 0, .slice DA d.length dc]).run Tryz.prog w = .ok v w1 ∧ OwnI w1 w.heap.size v d ∧ w.grownBy w1 none := by
  obtain ⟨i0, hi, hz0, hz1, hz2⟩ := info_parts int_info
  have gr : w.grownBy w none := ⟨rfl, rfl, rfl, Nat.le_refl _, fun _ _ _ => rfl⟩
  cases DA with
  | none =>
    obtain rfl := intsAt_none hd
    exact ⟨_, _, run_append_none_cap w w.heap.size 33 ty 3 i0 1 Tryz.underlying33 hi (.slice none 0 0) 0 [] dc (World.ownsRow_nil _ _ _ _), World.ownsRow_nil _ _ _ _, gr⟩
  | some ad =>
    obtain ⟨v', w', h1, h2, h3, _⟩ := run_append_own_at (P := Tryz.prog) w w.heap.size 33 ty 3 i0 (.int .i64 0) 1 8 Tryz.underlying33 hi hz0 hz1 hz2 rfl (by decide) (.slice none 0 0) 0 [] (World.ownsRow_nil _ _ _ _) ad d.length dc (d.map iV) (by simp) (fun j u hj => by
      have hjl : j < d.length := by
        have := (List.getElem?_eq_some_iff.1 hj).1
        simpa using this
      obtain ⟨b, o, e, _, hc⟩ := hd j hjl
      injection e with e
      subst e
      rw [Addr.add_mid, hc]
      rw [List.getElem?_map, List.getElem?_eq_getElem hjl] at hj
      simpa using hj) (fun u hu => by obtain ⟨c, _, rfl⟩ := List.mem_map.1 hu; rfl) (by unfold maxLen; omega) (by omega) (Nat.le_refl _)
    refine ⟨v', w', h1, ?_, h3⟩
    unfold OwnI
    rw [Nat.zero_add, List.nil_append] at h2
    exact h2
set_option maxRecDepth 100000 in
theorem row_int (W : World) (B G : Nat) (v : Value) (d : List Int) (h : OwnI W B v d) (hG : W.cell? ⟨G, 0, none⟩ = some (.int .i64 (-71))) (hB : B ≤ W.heap.size) (hl : d.length ≤ 100000000) :
    ∃ A C Z, (Builtin.append_ #[33, 33] 33 #[v, .slice (some ⟨G, 0, none⟩) 1 1]).run Tryz.prog W = .ok (.slice A (d.length + 1) C) Z ∧ Z.ownsRow B 3 1 (.slice A (d.length + 1) C) (d.length + 1) ((d ++ [-71]).map iV) ∧ W.grownBy Z v.ownBlock ∧ ∀ r, v.ownBlock = some r → B ≤ r := by
  obtain ⟨i0, hi, hz0, hz1, hz2⟩ := info_parts int_info
  obtain ⟨v', Z, hr, ho, hg, _⟩ := run_append_own_at (P := Tryz.prog) W B 33 33 3 i0 (.int .i64 0) 1 8 Tryz.underlying33 hi hz0 hz1 hz2 rfl (by decide) v d.length (d.map iV) h ⟨G, 0, none⟩ 1 1 [.int .i64 (-71)] rfl (fun q u hq => by
    match q, hq with
    | 0, hq => injection hq with hq; subst hq; exact hG
    | q + 1, hq => simp at hq) (fun u hu => by simp at hu; subst hu; rfl) (by unfold maxLen; omega) (by omega) hB
  obtain ⟨A, C, rfl⟩ := own_slice ho
  refine ⟨A, C, Z, hr, ?_, hg, fun r e => (own_heap h r e).1⟩
  rw [List.map_append]
  exact ho
set_option maxRecDepth 100000 in
theorem row_slice (W : World) (B G : Nat) (v u : Value) (n : Nat) (xs : List Value) (h : W.ownsRow B 33 1 v n xs) (hG : W.cell? ⟨G, 0, none⟩ = some u) (hu : u.oneCell' = true) (hB : B ≤ W.heap.size) (hl : n ≤ 10000000) :
    ∃ A C Z, (Builtin.append_ #[23, 23] 23 #[v, .slice (some ⟨G, 0, none⟩) 1 1]).run Tryz.prog W = .ok (.slice A (n + 1) C) Z ∧ Z.ownsRow B 33 1 (.slice A (n + 1) C) (n + 1) (xs ++ [u]) ∧ W.grownBy Z v.ownBlock ∧ ∀ r, v.ownBlock = some r → B ≤ r ∧ ∃ cs, Lies W r 33 cs := by
  obtain ⟨i0, hi, hz0, hz1, hz2⟩ := info_parts list_info
  obtain ⟨v', Z, hr, ho, hg, _⟩ := run_append_own_at (P := Tryz.prog) W B 23 23 33 i0 (.slice none 0 0) 1 24 Tryz.underlying23 hi hz0 hz1 hz2 rfl (by decide) v n xs h ⟨G, 0, none⟩ 1 1 [u] rfl (fun q u' hq => by
    match q, hq with
    | 0, hq => injection hq with hq; subst hq; exact hG
    | q + 1, hq => simp at hq) (fun u' hu' => by simp at hu'; subst hu'; exact hu) (by unfold maxLen; omega) (by omega) hB
  obtain ⟨A, C, rfl⟩ := own_slice ho
  exact ⟨A, C, Z, hr, ho, hg, fun r e => ⟨(own_heap h r e).1, (own_heap h r e).2.2⟩⟩
/-- the lists that are lent so far -/
def LentL (w : World) (B : Nat) (v : Value) (cs : List (List Int)) : Prop := ∃ xs, w.ownsRow B 33 1 v cs.length xs ∧ ∀ i (h : i < cs.length), ∃ x, xs[i]? = some x ∧ LentD w B x cs[i]
theorem lentD_but {P : Nat → Prop} {w w' : World} {B : Nat} {v : Value} {d : List Int} (h : LentD w B v d) (hb : But P w w') (hp : ∀ k cs, P k → ¬ Lies w k 3 cs) : LentD w' B v d := by
  obtain ⟨A, C, e, h⟩ := h
  exact ⟨A, C, e, own_but h hb (fun k hk hP => by
    obtain ⟨_, _, cs, hl⟩ := own_heap h k hk
    exact hp k cs hP hl)⟩
theorem lentD_grown {w w' : World} {B : Nat} {v : Value} {d : List Int} (h : LentD w B v d) (hg : w.grownBy w' none) : LentD w' B v d :=
  lentD_but h (But.grown hg) (fun k cs e => by cases e)
theorem lentL_nil (w : World) (B : Nat) : LentL w B (.slice none 0 0) [] := ⟨[], World.ownsRow_nil _ _ _ _, fun i h => by cases h⟩
theorem lentL_grown {w w' : World} {B : Nat} {v : Value} {cs : List (List Int)} (h : LentL w B v cs) (hg : w.grownBy w' none) : LentL w' B v cs := by
  obtain ⟨xs, h1, h2⟩ := h
  refine ⟨xs, own_but h1 (But.grown hg) (fun k _ e => by cases e), fun i hi => ?_⟩
  obtain ⟨x, e, hd⟩ := h2 i hi
  exact ⟨x, e, lentD_grown hd hg⟩
theorem not_two {w : World} {g t t' : Nat} {cs cs' : Array Value} (h : Lies w g t cs) (h' : Lies w g t' cs') : t = t' := by
  unfold Lies at h h'
  rw [h] at h'
  injection h' with h'
  injection h' with _ h'
/-- one list more -/
theorem lentL_snoc {W Z : World} {B : Nat} {v x : Value} {A : Option Addr} {C : Nat} {cs : List (List Int)} {d : List Int} {xs : List Value} (h1 : W.ownsRow B 33 1 v cs.length xs) (h2 : ∀ i (h : i < cs.length), ∃ x, xs[i]? = some x ∧ LentD W B x cs[i]) (hx : LentD W B x d)
    (hz : Z.ownsRow B 33 1 (.slice A (cs.length + 1) C) (cs.length + 1) (xs ++ [x])) (hg : W.grownBy Z v.ownBlock) : LentL Z B (.slice A (cs.length + 1) C) (cs ++ [d]) := by
  have hr : ∀ k cs', some k = v.ownBlock → ¬ Lies W k 3 cs' := fun k cs' e hl => by
    obtain ⟨_, _, cs, h⟩ := own_heap h1 k e.symm
    have := not_two h hl
    cases this
  have hxl : xs.length = cs.length := by have := h1.1; omega
  refine ⟨xs ++ [x], by rw [List.length_append]; exact hz, fun i hi => ?_⟩
  by_cases e : i < cs.length
  · obtain ⟨y, e1, hd⟩ := h2 i e
    refine ⟨y, by rw [List.getElem?_append_left (by omega)]; exact e1, ?_⟩
    rw [List.getElem_append_left e]
    exact lentD_but hd (But.grown hg) hr
  · obtain rfl : i = cs.length := by simp at hi; omega
    refine ⟨x, by rw [List.getElem?_append_right (by omega), hxl]; simp, ?_⟩
    rw [List.getElem_append_right (by omega)]
    simpa using lentD_but hx (But.grown hg) hr
def LentF (w : World) (B : Nat) (A : Option Addr) (C : Nat) (ls : List (List Int)) : Prop := ∃ xs g, w.ownsRow B 33 1 (.slice A (ls.length + 1) C) (ls.length + 1) (xs ++ [.slice (some ⟨g, 0, none⟩) 1 1]) ∧ Lies w g 3 #[.int .i64 (-72)] ∧ xs.length = ls.length ∧ ∀ i (h : i < ls.length), ∃ x, xs[i]? = some x ∧ LentD w B x ls[i]
theorem grown_none_trans {w w1 w2 : World} (h : w.grownBy w1 none) (k : w1.grownBy w2 none) : w.grownBy w2 none := ⟨k.os.trans h.os, k.tape.trans h.tape, k.output.trans h.output, Nat.le_trans h.size k.size, fun i hi hn => (k.block i (Nat.lt_of_lt_of_le hi h.size) hn).trans (h.block i hi hn)⟩
end Go.Proofs.YtpddamloajpiiaaGreatDoor
