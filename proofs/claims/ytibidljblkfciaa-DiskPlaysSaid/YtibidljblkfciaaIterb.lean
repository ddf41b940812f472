/-
What is proved here: the two function values that go over what is held back (first to last, last to first), for every loop body that keeps all that lay below but one block (the disk's bytes).
-/
import Derived.Test.YtibidljblkfciaaPend
set_option linter.unusedSimpArgs false
namespace Go.Proofs.Ytibidljblkfciaa
open Go.Word Go.RowKit Go.Shelf

attribute [local go_sem] Oper.semAt_some

/-- all below m is as it was, but block B -/
structure KB (B m : Nat) (W W' : World) : Prop where
  os : W'.os = W.os
  tape : W'.tape = W.tape
  output : W'.output = W.output
  size : W.heap.size ≤ W'.heap.size
  block : ∀ i, i < m → i ≠ B → W'.heap[i]? = W.heap[i]?
theorem kb_refl (B m : Nat) (W : World) : KB B m W W := ⟨rfl, rfl, rfl, Nat.le_refl _, fun _ _ _ => rfl⟩
theorem kb_t {B m : Nat} {X Y Z : World} (h : KB B m X Y) (k : KB B m Y Z) : KB B m X Z :=
  ⟨k.os.trans h.os, k.tape.trans h.tape, k.output.trans h.output, Nat.le_trans h.size k.size, fun i hi hb => (k.block i hi hb).trans (h.block i hi hb)⟩
theorem kb_below {B m : Nat} {X Y : World} (h : Below m X Y) : KB B m X Y := ⟨h.os, h.tape, h.output, h.size, fun i hi _ => h.block i hi⟩
theorem kb_b {B m : Nat} {w : World} (hn : m ≤ w.heap.size) (W : World) (l : Nat) (o o' : Obj) (hl : w.heap.size ≤ l) (h : W.heap[l]? = some o) (h1 : o.isCells = false) (h2 : o.isWalk = false) : KB B m W (W.putObj l o') := kb_below (belowK_b hn W l o o' hl h h1 h2)
theorem kb_cell {B m : Nat} {X Y : World} (h : KB B m X Y) {p : Addr} (hp : p.block < m) (hB : p.block ≠ B) : Y.cell? p = X.cell? p := World.cell?_of_block (h.block p.block hp hB)
theorem kb_alloc {B m : Nat} {X Y : World} (h : KB B m X Y) (hm : m ≤ X.heap.size) (o : Obj) : KB B m X (Y.alloc o) :=
  kb_t h (kb_below ((Below.refl _ Y).alloc (Nat.le_trans hm h.size) o))

def encWa {α : Type} (en : α → Ent) (x : Nat × α) : Array Value := #[.int .i64 (x.1 : Int), .agg (Ent.arr (en x.2))]
set_option maxRecDepth 100000 in
set_option maxHeartbeats 2000000 in
theorem iterb_in {α : Type} (en : α → Ent) (F : Fence) (n : Nat) (h43 : F.fn 43) (hro : F.round = none) (hn : 1 ≤ n) (l Bs m Bx g hb N C : Nat) (E : Nat → α) (hN : N ≤ 70000) (hbn : hb < m) (hbB : hb ≠ Bx) (J Jx : List (Nat × α) → World → Prop)
    (hY : ∀ pre x W, J pre W → pre.length < N → YieldAt F (n - 1) Try.prog l (encWa en x) W fun e W' =>
      (e = .returned (.bool true) ∧ J (pre ++ [x]) W' ∧ KB Bx m W W') ∨ (e = .returned (.bool false) ∧ Jx (pre ++ [x]) W'))
    (W : World) (hJ : AbidesFrom W.heap.size J) (hW : m ≤ W.heap.size) (hBs : W.cell? ⟨Bs, 0, none⟩ = some (.pointer (some ⟨g, 0, none⟩))) (hg1 : W.cell? ⟨g, 1, none⟩ = some (.slice (some ⟨hb, 0, none⟩) N C))
    (hc : ∀ k, k < N → W.cell? ⟨hb, k * 3, none⟩ = some (.int .i64 ((en (E k)).at_ : Int)) ∧ W.cell? ⟨hb, k * 3 + 1, none⟩ = some (.slice (some ⟨(en (E k)).a, 0, none⟩) 512 512) ∧ W.cell? ⟨hb, k * 3 + 2, none⟩ = some (.slice (some ⟨(en (E k)).c, 0, none⟩) 512 512)) (h0 : J [] W) :
    CallsIn F n Try.prog 43 #[.func (.yield l) #[] #[], .pointer (some ⟨Bs, 0, none⟩)] W fun e W' => (∃ v, e = .returned v) ∧
      ((∃ ys, ys = upto (fun j => (j, E j)) N ∧ J ys W') ∨ (∃ pre, (∃ k, k ≤ N ∧ pre = upto (fun j => (j, E j)) k) ∧ Jx pre W')) := by
  refine callsIn_of_wp Try.func43 rfl h43 ?_ hro
  simp only [Try.ntmps43, List.size_toArray, List.length_cons, List.length_nil, Nat.reduceAdd, Nat.reduceSub, Array.replicate_succ, Array.replicate_zero, List.push_toArray, List.append_toArray, List.nil_append, List.cons_append]
  gi_wp2
  gi_loopw [12] (fun i wr => ∃ k : Nat, k ≤ N ∧ i = .int .i64 k ∧ J (upto (fun j => (j, E j)) k) wr ∧ KB Bx m W wr)
    (fun i _ => N - (intOf i).toNat)
  case atStart => exact ⟨0, Nat.zero_le _, rfl, h0, kb_refl _ _ _⟩
  case round =>
    obtain ⟨k, hk, rfl, hJs, hnx⟩ := hrel
    by_cases hlt : k < N
    · obtain ⟨x0, x1, x2⟩ := hc k hlt
      have c0 := (kb_cell hnx (p := ⟨hb, k * 3, none⟩) hbn hbB).trans x0
      have c1 := (kb_cell hnx (p := ⟨hb, k * 3 + 1, none⟩) hbn hbB).trans x1
      have c2 := (kb_cell hnx (p := ⟨hb, k * 3 + 2, none⟩) hbn hbB).trans x2
      have hJ2 := hJ _ _ _ none hJs (World.grownBy_alloc wr (.cells (Ent.arr (en (E k))) 73) none) (fun _ e => by cases e)
      obtain ⟨fn, tmps, assign, body, hy, hR⟩ := hY _ (k, E k) _ hJ2 (by rw [upto_length]; exact hlt)
      dsimp only [encWa, Ent.arr] at hy
      clear x0 x1 x2 hc
      gi_wp2
      refine hR.mono ?_
      rintro e W3 (⟨rfl, hJ3, hk3⟩ | ⟨rfl, hJx3⟩)
      · gi_wp2
        go_roundw
        case rel => exact ⟨k + 1, by omega, by simp, by rw [upto_succ]; exact hJ3, kb_t (kb_alloc hnx hW _) hk3⟩
        case measure => simp [intOf]; omega
      · gi_wp2
        refine bodyPost_ret (results_none rfl _ _ _) rfl ?_
        exact ⟨⟨_, rfl⟩, .inr ⟨_, ⟨k + 1, by omega, (upto_succ _ _).symm⟩, hJx3⟩⟩
    · obtain rfl : k = N := by omega
      gi_wp2
      go_end0
      exact ⟨⟨_, rfl⟩, .inl ⟨_, rfl, hJs⟩⟩

def encLa {α : Type} (en : α → Ent) (x : α) : Array Value := #[.agg (Ent.arr (en x))]
set_option maxRecDepth 100000 in
set_option maxHeartbeats 2000000 in
/-- last to first -/
theorem iterl_in {α : Type} (en : α → Ent) (F : Fence) (n : Nat) (h45 : F.fn 45) (hro : F.round = none) (hn : 1 ≤ n) (l Bs m Bx g hb N C : Nat) (E : Nat → α) (hN : N ≤ 70000) (hbn : hb < m) (hbB : hb ≠ Bx) (hgm : g < m) (hgB : g ≠ Bx) (hsm : Bs < m) (hsB : Bs ≠ Bx) (J Jx : List α → World → Prop)
    (hY : ∀ pre x W, J pre W → pre.length < N → YieldAt F (n - 1) Try.prog l (encLa en x) W fun e W' =>
      (e = .returned (.bool true) ∧ J (pre ++ [x]) W' ∧ KB Bx m W W') ∨ (e = .returned (.bool false) ∧ Jx (pre ++ [x]) W'))
    (W : World) (hBs : W.cell? ⟨Bs, 0, none⟩ = some (.pointer (some ⟨g, 0, none⟩))) (hg1 : W.cell? ⟨g, 1, none⟩ = some (.slice (some ⟨hb, 0, none⟩) N C))
    (hc : ∀ k, k < N → W.cell? ⟨hb, k * 3, none⟩ = some (.int .i64 ((en (E k)).at_ : Int)) ∧ W.cell? ⟨hb, k * 3 + 1, none⟩ = some (.slice (some ⟨(en (E k)).a, 0, none⟩) 512 512) ∧ W.cell? ⟨hb, k * 3 + 2, none⟩ = some (.slice (some ⟨(en (E k)).c, 0, none⟩) 512 512)) (h0 : J [] W) :
    CallsIn F n Try.prog 45 #[.func (.yield l) #[] #[], .pointer (some ⟨Bs, 0, none⟩)] W fun e W' => (∃ v, e = .returned v) ∧
      ((∃ ys, ys = upto (fun j => E (N - 1 - j)) N ∧ J ys W') ∨ (∃ pre, True ∧ Jx pre W')) := by
  refine callsIn_of_wp Try.func45 rfl h45 ?_ hro
  simp only [Try.ntmps45, List.size_toArray, List.length_cons, List.length_nil, Nat.reduceAdd, Nat.reduceSub, Array.replicate_succ, Array.replicate_zero, List.push_toArray, List.append_toArray, List.nil_append, List.cons_append]
  gi_wp2
  gi_loopw [3] (fun i wr => ∃ k : Nat, k ≤ N ∧ i = .int .i64 ((N : Int) - 1 - k) ∧ J (upto (fun j => E (N - 1 - j)) k) wr ∧ KB Bx m W wr)
    (fun i _ => (intOf i + 1).toNat)
  case atStart => exact ⟨0, Nat.zero_le _, by simp, h0, kb_refl _ _ _⟩
  case round =>
    obtain ⟨k, hk, rfl, hJs, hnx⟩ := hrel
    have b0 := (kb_cell hnx (p := ⟨Bs, 0, none⟩) hsm hsB).trans hBs
    have b1 := (kb_cell hnx (p := ⟨g, 1, none⟩) hgm hgB).trans hg1
    by_cases hlt : k < N
    · obtain ⟨q, hq⟩ : ∃ q, q = N - 1 - k := ⟨_, rfl⟩
      have hqi : (N : Int) - 1 - k = (q : Int) := by omega
      have hqN : q < N := by omega
      obtain ⟨x0, x1, x2⟩ := hc q hqN
      have c0 := (kb_cell hnx (p := ⟨hb, q * 3, none⟩) hbn hbB).trans x0
      have c1 := (kb_cell hnx (p := ⟨hb, q * 3 + 1, none⟩) hbn hbB).trans x1
      have c2 := (kb_cell hnx (p := ⟨hb, q * 3 + 2, none⟩) hbn hbB).trans x2
      obtain ⟨fn, tmps, assign, body, hy, hR⟩ := hY _ (E q) _ hJs (by rw [upto_length]; exact hlt)
      dsimp only [encLa, Ent.arr] at hy
      rw [hqi]
      have HQ := Lib.hid hq
      clear x0 x1 x2 hc hqi hq
      gi_wp2
      refine hR.mono ?_
      rintro e W3 (⟨rfl, hJ3, hk3⟩ | ⟨rfl, hJx3⟩)
      · gi_wp2
        go_roundw
        case rel => exact ⟨k + 1, by omega, by have := HQ.out; congr 1; omega, by rw [upto_succ, ← HQ.out]; exact hJ3, kb_t hnx hk3⟩
        case measure => first | (simp [intOf]; done) | (simp [intOf]; omega)
      · gi_wp2
        refine bodyPost_ret (results_none rfl _ _ _) rfl ?_
        exact ⟨⟨_, rfl⟩, .inr ⟨_, trivial, hJx3⟩⟩
    · obtain rfl : k = N := by omega
      have t1 : ¬ (0 : Int) ≤ (k : Int) - 1 - k := by omega
      gi_wp2
      go_end0
      first | exact ⟨⟨_, rfl⟩, .inl ⟨_, rfl, hJs⟩⟩ | exact ⟨⟨_, rfl⟩, .inl hJs⟩
end Go.Proofs.Ytibidljblkfciaa
