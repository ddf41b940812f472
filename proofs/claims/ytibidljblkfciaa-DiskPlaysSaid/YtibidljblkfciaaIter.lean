/-
What is proved here: the function value that goes over what is held back: its contract for every loop body that keeps what lay below.
-/
import Derived.Test.YtibidljblkfciaaOps
import Derived.RangeFuncNested
import Derived.RangeFuncBox
import Derived.RangeFuncLeaves
import Derived.Shelf.Abstract
import Derived.OwnWalkIn
import Derived.TacticsInMore
import Derived.LoopNIn
import Derived.LoopIn
import Derived.Maps.AppendAt
set_option linter.unusedSimpArgs false
namespace Go.Proofs.Ytibidljblkfciaa
open Go.Word Go.RowKit Go.Shelf

attribute [local go_sem] Oper.semAt_some

def upto {α : Type} (f : Nat → α) (k : Nat) : List α := (List.range k).map f
theorem upto_succ {α : Type} (f : Nat → α) (k : Nat) : upto f (k + 1) = upto f k ++ [f k] := by simp [upto, List.range_succ]
theorem upto_length {α : Type} (f : Nat → α) (k : Nat) : (upto f k).length = k := by simp [upto]
def Ent.arr (e : Ent) : Array Value := #[.int .i64 (e.at_ : Int), .slice (some ⟨e.a, 0, none⟩) 512 512, .slice (some ⟨e.c, 0, none⟩) 512 512]
def encW (x : Nat × Ent) : Array Value := #[.int .i64 (x.1 : Int), .agg (Ent.arr x.2)]

set_option maxRecDepth 100000 in
set_option maxHeartbeats 2000000 in
theorem iter_in (F : Fence) (n : Nat) (h43 : F.fn 43) (hro : F.round = none) (hn : 1 ≤ n) (l Bs n₀ g hb N C : Nat) (E : Nat → Ent) (hN : N ≤ 70000) (hbn : hb < n₀) (J Jx : List (Nat × Ent) → World → Prop)
    (hY : ∀ pre x W, J pre W → pre.length < N → YieldAt F (n - 1) Try.prog l (encW x) W fun e W' =>
      (e = .returned (.bool true) ∧ J (pre ++ [x]) W' ∧ Below n₀ W W') ∨ (e = .returned (.bool false) ∧ Jx (pre ++ [x]) W'))
    (W : World) (hJ : AbidesFrom W.heap.size J) (hW : n₀ ≤ W.heap.size) (hBs : W.cell? ⟨Bs, 0, none⟩ = some (.pointer (some ⟨g, 0, none⟩))) (hg1 : W.cell? ⟨g, 1, none⟩ = some (.slice (some ⟨hb, 0, none⟩) N C))
    (hc : ∀ k, k < N → W.cell? ⟨hb, k * 3, none⟩ = some (.int .i64 ((E k).at_ : Int)) ∧ W.cell? ⟨hb, k * 3 + 1, none⟩ = some (.slice (some ⟨(E k).a, 0, none⟩) 512 512) ∧ W.cell? ⟨hb, k * 3 + 2, none⟩ = some (.slice (some ⟨(E k).c, 0, none⟩) 512 512)) (h0 : J [] W) :
    CallsIn F n Try.prog 43 #[.func (.yield l) #[] #[], .pointer (some ⟨Bs, 0, none⟩)] W fun e W' => (∃ v, e = .returned v) ∧
      ((∃ ys, ys = upto (fun j => (j, E j)) N ∧ J ys W') ∨ (∃ pre, (∃ k, k ≤ N ∧ pre = upto (fun j => (j, E j)) k) ∧ Jx pre W')) := by
  refine callsIn_of_wp Try.func43 rfl h43 ?_ hro
  simp only [Try.ntmps43, List.size_toArray, List.length_cons, List.length_nil, Nat.reduceAdd, Nat.reduceSub, Array.replicate_succ, Array.replicate_zero, List.push_toArray, List.append_toArray, List.nil_append, List.cons_append]
  gi_wp2
  gi_loopw [12] (fun i wr => ∃ k : Nat, k ≤ N ∧ i = .int .i64 k ∧ J (upto (fun j => (j, E j)) k) wr ∧ Below n₀ W wr)
    (fun i _ => N - (intOf i).toNat)
  case atStart => exact ⟨0, Nat.zero_le _, rfl, h0, Below.refl _ _⟩
  case round =>
    obtain ⟨k, hk, rfl, hJs, hnx⟩ := hrel
    by_cases hlt : k < N
    · obtain ⟨x0, x1, x2⟩ := hc k hlt
      have c0 := (hnx.cell (p := ⟨hb, k * 3, none⟩) hbn).trans x0
      have c1 := (hnx.cell (p := ⟨hb, k * 3 + 1, none⟩) hbn).trans x1
      have c2 := (hnx.cell (p := ⟨hb, k * 3 + 2, none⟩) hbn).trans x2
      have hJ2 := hJ _ _ _ none hJs (World.grownBy_alloc wr (.cells (Ent.arr (E k)) 73) none) (fun _ e => by cases e)
      obtain ⟨fn, tmps, assign, body, hy, hR⟩ := hY _ (k, E k) _ hJ2 (by rw [upto_length]; exact hlt)
      dsimp only [encW, Ent.arr] at hy
      clear x0 x1 x2 hc
      gi_wp2
      refine hR.mono ?_
      rintro e W3 (⟨rfl, hJ3, hk3⟩ | ⟨rfl, hJx3⟩)
      · gi_wp2
        go_roundw
        case rel => exact ⟨k + 1, by omega, by simp, by rw [upto_succ]; exact hJ3, (hnx.alloc (Nat.le_trans hW hnx.size) _).trans hk3⟩
        case measure => simp [intOf]; omega
      · gi_wp2
        refine bodyPost_ret (results_none rfl _ _ _) rfl ?_
        exact ⟨⟨_, rfl⟩, .inr ⟨_, ⟨k + 1, by omega, (upto_succ _ _).symm⟩, hJx3⟩⟩
    · obtain rfl : k = N := by omega
      gi_wp2
      go_end0
      exact ⟨⟨_, rfl⟩, .inl ⟨_, rfl, hJs⟩⟩

set_option maxRecDepth 100000 in
set_option maxHeartbeats 1000000 in
theorem iter_nil (F : Fence) (n : Nat) (h43 : F.fn 43) (hro : F.round = none) (l Bs g : Nat) (J : List (Nat × Ent) → World → Prop) (W : World) (hBs : W.cell? ⟨Bs, 0, none⟩ = some (.pointer (some ⟨g, 0, none⟩))) (hg1 : W.cell? ⟨g, 1, none⟩ = some (.slice none 0 0)) (h0 : J [] W) :
    CallsIn F n Try.prog 43 #[.func (.yield l) #[] #[], .pointer (some ⟨Bs, 0, none⟩)] W fun e W' => (∃ v, e = .returned v) ∧ J [] W' := by
  refine callsIn_of_wp Try.func43 rfl h43 ?_ hro
  simp only [Try.ntmps43, List.size_toArray, List.length_cons, List.length_nil, Nat.reduceAdd, Nat.reduceSub, Array.replicate_succ, Array.replicate_zero, List.push_toArray, List.append_toArray, List.nil_append, List.cons_append]
  gi_wp2
  gi_loopw [12] (fun i wr => i = .int .i64 0 ∧ J [] wr) (fun _ _ => 0)
  case atStart => exact ⟨rfl, h0⟩
  case round =>
    obtain ⟨rfl, hJs⟩ := hrel
    gi_wp2
    go_end0
    exact ⟨⟨_, rfl⟩, hJs⟩
theorem writes_in (F : Fence) (n : Nat) (h33 : F.fn 33) (hro : F.round = none) (p : Option Addr) (w : World) :
    CallsIn F n Try.prog 33 #[.pointer p] w fun e w' => e = .returned (.func (.func 43) #[] #[.pointer (some ⟨w.heap.size, 0, none⟩)]) ∧ w' = w.alloc (.cells #[.pointer p] 25) := by
  refine callsIn_of_wp Try.func33 rfl h33 ?_ hro
  simp only [Try.ntmps33, List.size_toArray, List.length_cons, List.length_nil, Nat.reduceAdd, Nat.reduceSub, Array.replicate_succ, Array.replicate_zero, List.push_toArray, List.append_toArray, List.nil_append, List.cons_append]
  gi_wp2
  go_ret
  exact ⟨rfl, rfl⟩
theorem upto_take (zs : List Ent) (d : Ent) {k : Nat} (hk : k ≤ zs.length) : (upto (fun j => (j, zs.getD j d)) k).map (·.2) = zs.take k := by
  apply List.ext_getElem
  · simp [upto, hk]
  · intro i h1 h2
    have : i < zs.length := by simp [upto] at h1; omega
    simp [upto, List.getD_eq_getElem?_getD, this]
theorem flat_at : ∀ (hs : List Ent) (k i : Nat) (d : Ent), k < hs.length → i < 3 → (hs.flatMap Ent.cells)[k * 3 + i]? = (Ent.cells (hs.getD k d))[i]?
  | e :: r, 0, i, d, _, hi => by
    have hl : (Ent.cells e).length = 3 := rfl
    simp only [List.flatMap_cons, Nat.zero_mul, Nat.zero_add, List.getD_cons_zero]
    rw [List.getElem?_append_left (by omega)]
  | e :: r, k + 1, i, d, hk, hi => by
    have hl : (Ent.cells e).length = 3 := rfl
    simp only [List.flatMap_cons, List.getD_cons_succ]
    rw [List.getElem?_append_right (by omega), show (k + 1) * 3 + i - (Ent.cells e).length = k * 3 + i by omega]
    exact flat_at r k i d (by simpa using hk) hi
/-- the function value that a disk hands back goes over what is held back, in order -/
theorem writes_stops (F : Fence) (n : Nat) (h43 : F.fn 43) (hro : F.round = none) (hn : 1 ≤ n) (Bs n₀ g base : Nat) (hv : Value) (hs : List Ent) (d : Ent) (w : World) (hBs : Bs < w.heap.size) (hn₀ : n₀ ≤ w.heap.size) (hN : hs.length ≤ 70000) (hgn : g < n₀)
    (hbn : ∀ k, hv.ownBlock = some k → k < n₀) (hb : w.cell? ⟨Bs, 0, none⟩ = some (.pointer (some ⟨g, 0, none⟩))) (hc : w.cell? ⟨g, 1, none⟩ = some hv) (hO : w.ownsRow base 73 3 hv hs.length (hs.flatMap Ent.cells)) :
    SeqStopsK F n Try.prog 43 #[.pointer (some ⟨Bs, 0, none⟩)] encW (Below n₀) (fun ys => ys = upto (fun j => (j, hs.getD j d)) hs.length) (fun _ => True) hs.length w := fun l J Jx W hW hJ _ hY h0 => by
  have hb' := (hW.cell (p := ⟨Bs, 0, none⟩) hBs).trans hb
  have hc' := (hW.cell (p := ⟨g, 1, none⟩) (by show g < _; omega)).trans hc
  rcases hO.2 with ⟨e1, e2⟩ | ⟨hb2, cap, cur, rfl, _, hg2, _⟩
  · subst e1
    have e3 : hs = [] := List.eq_nil_of_length_eq_zero e2
    subst e3
    exact (iter_nil F n h43 hro l Bs g J W hb' hc' h0).mono fun e W' ⟨he, hj⟩ => ⟨he, .inl ⟨_, rfl, hj⟩⟩
  · have hlt : hb2 < n₀ := hbn hb2 rfl
    refine (iter_in F n h43 hro hn l Bs n₀ g hb2 hs.length cap (fun j => hs.getD j d) hN hlt J Jx hY W hJ (Nat.le_trans hn₀ hW.size) hb' hc' (fun k hk => ?_) h0).mono ?_
    · have at_ : ∀ i, i < 3 → W.cell? ⟨hb2, k * 3 + i, none⟩ = (Ent.cells (hs.getD k d))[i]? := fun i hi => by
        rw [hW.cell (p := ⟨hb2, k * 3 + i, none⟩) (by show hb2 < _; omega), World.ownsRow.cellAt hO (k * 3 + i) (by omega)]
        exact flat_at hs k i d hk hi
      exact ⟨at_ 0 (by decide), at_ 1 (by decide), at_ 2 (by decide)⟩
    · rintro e W' ⟨he, ⟨ys, rfl, hj⟩ | ⟨pre, ⟨k, hk, rfl⟩, hj⟩⟩
      · exact ⟨he, .inl ⟨_, rfl, hj⟩⟩
      · exact ⟨he, .inr ⟨_, trivial, hj⟩⟩
end Go.Proofs.Ytibidljblkfciaa
