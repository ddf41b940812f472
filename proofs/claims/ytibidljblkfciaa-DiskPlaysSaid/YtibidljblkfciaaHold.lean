/-
What is proved here: what Write does to memory, piece by piece.
-/
import Derived.Test.YtibidljblkfciaaBlk
import Derived.Test.YtibidljblkfciaaOpen
set_option linter.unusedSimpArgs false
namespace Go.Proofs.Ytibidljblkfciaa
open Go.Word Go.RowKit

theorem twin_at (ad : Addr) (k c : Nat) (f : Nat → BitVec 8) (w : World) (hk : k ≤ 3000000) (hs : Src8 w ad f k) (hl : ad.block < w.heap.size) :
    Calls Try.prog 32 #[.slice (some ad) k c] w fun e w' => e = .returned (.slice (some ⟨w.heap.size, 0, none⟩) k k) ∧ Lies w' w.heap.size 5 (yRow f k) ∧ Below w.heap.size w w' :=
  (twin_any ad k c f w hk hs hl).mono fun _ _ ⟨_, h1, h2, h3, h4⟩ => by subst h2; exact ⟨h1, h3, h4⟩
theorem grown_below {w w' : World} {B : Nat} {o : Option Nat} (h : w.grownBy w' o) (ho : ∀ k, o = some k → B ≤ k) (hB : B ≤ w.heap.size) : Below B w w' :=
  ⟨h.os, h.tape, h.output, h.size, fun k hk => h.block k (by omega) (fun e => by have := ho k e.symm; omega)⟩
theorem src_below {w w' : World} {ad : Addr} {q : Nat → BitVec 8} {k : Nat} (h : Src8 w ad q k) (hl : ad.block < w.heap.size) (hb : Below w.heap.size w w') : Src8 w' ad q k := fun j hj => by
  rw [hb.cell (by rw [add_block]; exact hl)]; exact h j hj
theorem src_row {w : World} {r : Nat} {f : Nat → BitVec 8} {k : Nat} (h : Lies w r 5 (yRow f k)) : Src8 w ⟨r, 0, none⟩ f k := fun j hj => by
  rw [Addr.add_mid, Nat.zero_add, lies_cell h, yRow_at f hj]
theorem own_type {w : World} {base size N i : Nat} {e t : TypeId} {v : Value} {xs : List Value} {cs : Array Value} (h : w.ownsRow base e size v N xs) (hl : Lies w i t cs) (ht : t ≠ e) : v.ownBlock ≠ some i := fun hk => by
  rcases h.2 with ⟨rfl, _⟩ | ⟨gg, cap, cur, rfl, _, hg, _⟩
  · cases hk
  · have e1 : gg = i := by simpa [Value.ownBlock] using hk
    subst e1
    unfold Lies at hl
    rw [hl] at hg
    injection hg with hg
    injection hg with _ h2 _
    exact ht h2
/-- a disk behind one write held back more -/
theorem behind_held {w w1 w2 w4 : World} {g B base n K : Nat} {f : Nat → BitVec 8} {hv v' : Value} {hs : List Ent} {lf : Int} {at_ : Nat} {ad : Addr} {q : Nat → BitVec 8} {cs : Array Value} (h : Dsk w g B base n K f hv hs true lf) (ha : at_ < n)
    (hq : Src8 w ad q 512) (hl : ad.block < w.heap.size) (hn1 : ad.block ≠ g) (hn2 : hv.ownBlock ≠ some ad.block)
    (l1 : Lies w1 w.heap.size 5 (yRow q 512)) (b1 : Below w.heap.size w w1) (l2 : Lies w2 w1.heap.size 5 (yRow (fun j => f (512 * at_ + j)) 512)) (b2 : Below w1.heap.size w1 w2)
    (ho : w4.ownsRow base 73 3 v' (hs.length + 1) (hs.flatMap Ent.cells ++ Ent.cells ⟨at_, w.heap.size, w1.heap.size, q, fun j => f (512 * at_ + j)⟩)) (hg : (w2.alloc (.cells cs 73)).grownBy w4 hv.ownBlock) :
    Dsk (w4.setCell ⟨g, 1, none⟩ v') g B base n K f v' (hs ++ [⟨at_, w.heap.size, w1.heap.size, q, fun j => f (512 * at_ + j)⟩]) true lf ∧ Src8 (w4.setCell ⟨g, 1, none⟩ v') ad q 512 ∧ Below (min B g) w (w4.setCell ⟨g, 1, none⟩ v') ∧ ad.block < (w4.setCell ⟨g, 1, none⟩ v').heap.size := by
  obtain ⟨o1, o2, o3⟩ := h.ord
  have z1 := b1.size
  have z2 := b2.size
  have z3 : (w2.alloc (.cells cs 73)).heap.size = w2.heap.size + 1 := by simp
  have z4 := hg.size
  have b3 : Below w.heap.size w (w2.alloc (.cells cs 73)) := (b1.trans (b2.mono z1)).alloc (by omega) _
  have hob : ∀ k, hv.ownBlock = some k → base ≤ k ∧ k < w.heap.size := World.ownsRow.lt h.held
  have hne : ∀ i, i < w2.heap.size + 1 → hv.ownBlock ≠ some i → w4.heap[i]? = (w2.alloc (.cells cs 73)).heap[i]? := fun i hi hk => hg.block i (by omega) (fun e => hk e.symm)
  have hgne : hv.ownBlock ≠ some g := fun e => by have := hob g e; omega
  have hBne : hv.ownBlock ≠ some B := fun e => by have := hob B e; omega
  have s4 : Lies w4 g 65 (DRow B K hv true lf) := (hne g (by omega) hgne).trans (lies_below h.self b3 (by omega))
  have y4 : Lies w4 B 5 (yRow f K) := (hne B (by omega) hBne).trans (lies_below h.bytes b3 (by omega))
  have zs : (w4.setCell ⟨g, 1, none⟩ v').heap.size = w4.heap.size := by simp [World.setCell]
  have vne : ∀ {i t cs}, Lies w4 i t cs → t ≠ 73 → v'.ownBlock ≠ some i := fun hl ht => own_type ho hl ht
  refine ⟨{ self := ?_, bytes := lies_far (p := ⟨g, 1, none⟩) y4 (by show B ≠ g; omega) _, held := ?_, size := h.size, most := h.most, ord := ⟨o1, o2, by rw [zs]; omega⟩, rows := ?_ }, ?_, ?_, by rw [zs]; omega⟩
  · exact lies_set s4 1 v'
  · have e : (hs ++ [(⟨at_, w.heap.size, w1.heap.size, q, fun j => f (512 * at_ + j)⟩ : Ent)]).flatMap Ent.cells = hs.flatMap Ent.cells ++ Ent.cells ⟨at_, w.heap.size, w1.heap.size, q, fun j => f (512 * at_ + j)⟩ := by simp
    rw [List.length_append, e]
    refine World.ownsRow.kept ho (only_setCell (World.grownBy.refl w4 (some g)) 1 v') ?_
    cases hk : v'.ownBlock with
    | none => simp
    | some k =>
      refine .inr (fun e3 => ?_)
      injection e3 with e3
      subst e3
      exact vne s4 (by decide) hk
  · intro e he
    rcases List.mem_append.1 he with he | he
    · obtain ⟨r1, r2, r3, r4, r5, r6, r7⟩ := h.rows e he
      have x1 := lies_lt r4
      have x2 := lies_lt r5
      have y1 : Lies w4 e.a 5 _ := (hne e.a (by omega) r6).trans (lies_below r4 b3 x1)
      have y2 : Lies w4 e.c 5 _ := (hne e.c (by omega) r7).trans (lies_below r5 b3 x2)
      exact ⟨r1, r2, r3, lies_far (p := ⟨g, 1, none⟩) y1 (by show e.a ≠ g; omega) _, lies_far (p := ⟨g, 1, none⟩) y2 (by show e.c ≠ g; omega) _, vne y1 (by decide), vne y2 (by decide)⟩
    · obtain rfl := List.mem_singleton.1 he
      have k1 : hv.ownBlock ≠ some w.heap.size := fun e => by have := hob _ e; omega
      have k2 : hv.ownBlock ≠ some w1.heap.size := fun e => by have := hob _ e; omega
      have x1 := lies_lt l1
      have x2 := lies_lt l2
      have y1 : Lies w4 w.heap.size 5 _ := (hne w.heap.size (by omega) k1).trans (lies_alloc (lies_below l1 b2 x1) _)
      have y2 : Lies w4 w1.heap.size 5 _ := (hne w1.heap.size (by omega) k2).trans (lies_alloc l2 _)
      exact ⟨ha, by show base ≤ w.heap.size; omega, by show base ≤ w1.heap.size; omega, lies_far (p := ⟨g, 1, none⟩) y1 (by show w.heap.size ≠ g; omega) _, lies_far (p := ⟨g, 1, none⟩) y2 (by show w1.heap.size ≠ g; omega) _, vne y1 (by decide), vne y2 (by decide)⟩
  · intro j hj
    have e1 : (ad.add j).block ≠ g := by rw [add_block]; exact hn1
    rw [World.cell?_setCell_other _ _ _ _ (fun e => e1 (by rw [← e]))]
    have e2 : w4.heap[(ad.add j).block]? = (w2.alloc (.cells cs 73)).heap[(ad.add j).block]? := by rw [add_block]; exact hne _ (by omega) hn2
    rw [World.cell?_of_block e2, b3.cell (by rw [add_block]; exact hl)]
    exact hq j hj
  · exact ((b3.mono (by omega)).trans (grown_below (B := min B g) hg (fun k e => by have := hob k e; omega) (by omega))).setCell (p := ⟨g, 1, none⟩) (by show min B g ≤ g; omega) _

/-- the bytes of a disk with one block written -/
def put (f : Nat → BitVec 8) (p : Nat) (q : Nat → BitVec 8) (j : Nat) : BitVec 8 := if p ≤ j ∧ j < p + 512 then q (j - p) else f j
theorem put_row (f q : Nat → BitVec 8) (p K : Nat) (h : p + 512 ≤ K) : ((yRow f K).toList.take p ++ (((List.range 512).map fun j => Y (q j)) ++ (yRow f K).toList.drop (p + 512))).toArray = yRow (put f p q) K := by
  have hl : (yRow f K).toList.length = K := by simp [yRow_size]
  refine Array.ext_getElem? fun j => ?_
  rw [List.getElem?_toArray]
  by_cases h1 : j < p
  · rw [List.getElem?_append_left (by rw [List.length_take, hl]; omega), List.getElem?_take, if_pos h1, Array.getElem?_toList, yRow_at _ (by omega), yRow_at _ (by omega)]
    unfold put
    rw [if_neg (by omega)]
  · rw [List.getElem?_append_right (by rw [List.length_take, hl]; omega), List.length_take, hl, Nat.min_eq_left (by omega)]
    by_cases h2 : j < p + 512
    · rw [List.getElem?_append_left (by rw [List.length_map, List.length_range]; omega), yRow_at _ (by omega)]
      rw [List.getElem?_map, List.getElem?_range (by omega)]
      unfold put
      rw [if_pos ⟨by omega, h2⟩]
      rfl
    · rw [List.getElem?_append_right (by rw [List.length_map, List.length_range]; omega), List.length_map, List.length_range, List.getElem?_drop, Array.getElem?_toList]
      by_cases h3 : j < K
      · rw [show p + 512 + (j - p - 512) = j by omega, yRow_at _ h3, yRow_at _ h3]
        unfold put
        rw [if_neg (by omega)]
      · rw [Array.getElem?_eq_none (by rw [yRow_size]; omega), Array.getElem?_eq_none (by rw [yRow_size]; omega)]
theorem dsk_bytes {w : World} {g B base n K : Nat} {f f' : Nat → BitVec 8} {hv : Value} {hs : List Ent} {on : Bool} {lf : Int} (h : Dsk w g B base n K f hv hs on lf) : Dsk (w.setRow B (yRow f' K)) g B base n K f' hv hs on lf where
  self := (setRow_other _ _ _ _ (by have := h.ord; omega)).trans h.self
  bytes := lies_setRow h.bytes _
  held := World.ownsRow.kept h.held (only_setRow (World.grownBy.refl w (some B)) _) (by
    cases hk : hv.ownBlock with
    | none => simp
    | some k =>
      obtain ⟨h1, _⟩ := World.ownsRow.lt h.held k hk
      have := h.ord
      exact .inr (fun e => by injection e with e; omega))
  size := h.size
  most := h.most
  ord := ⟨h.ord.1, h.ord.2.1, by have := h.ord.2.2; simpa using this⟩
  rows := fun e he => by
    obtain ⟨h1, h2, h3, h4, h5, h6, h7⟩ := h.rows e he
    have := h.ord
    exact ⟨h1, h2, h3, (setRow_other _ _ _ _ (by omega)).trans h4, (setRow_other _ _ _ _ (by omega)).trans h5, h6, h7⟩
end Go.Proofs.Ytibidljblkfciaa
