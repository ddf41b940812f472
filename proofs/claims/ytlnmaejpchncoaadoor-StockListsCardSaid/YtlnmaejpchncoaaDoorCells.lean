/-
What is proved here: several cells of one block set; the cells of a Hash; what turns block g alone.
-/
import Derived.Test.YtlnmaejpchncoaaDoorTail
import Derived.Deep.MidRow
import Derived.OwnWalk
namespace Go.Proofs.YtlnmaejpchncoaaDoor
open Go.Word Go.RowKit

def spl (cs : Array Value) (o : Nat) : List Value → Array Value
  | [] => cs
  | v :: r => spl (cs.setIfInBounds o v) (o + 1) r
theorem spl_size : ∀ (vs : List Value) (cs : Array Value) (o : Nat), (spl cs o vs).size = cs.size
  | [], _, _ => rfl
  | v :: r, cs, o => by unfold spl; rw [spl_size r]; simp
theorem spl_out : ∀ (vs : List Value) (cs : Array Value) (o j : Nat), (j < o ∨ o + vs.length ≤ j) → (spl cs o vs)[j]? = cs[j]?
  | [], _, _, _, _ => rfl
  | v :: r, cs, o, j, h => by
    unfold spl
    rw [spl_out r _ (o + 1) j (by simp at h; omega), Array.getElem?_setIfInBounds, if_neg (by simp at h; omega)]
theorem spl_in : ∀ (vs : List Value) (cs : Array Value) (o j : Nat), j < vs.length → o + vs.length ≤ cs.size → (spl cs o vs)[o + j]? = vs[j]?
  | v :: r, cs, o, 0, _, h => by
    unfold spl
    rw [spl_out r _ (o + 1) (o + 0) (by omega), Array.getElem?_setIfInBounds, if_pos (by omega), if_pos (by simp at h; omega)]
    rfl
  | v :: r, cs, o, j + 1, hj, h => by
    unfold spl
    have := spl_in r (cs.setIfInBounds o v) (o + 1) j (by simpa using hj) (by simp at h ⊢; omega)
    rw [show o + (j + 1) = o + 1 + j by omega, this]
    simp
theorem lies_spl {g : Nat} {t : TypeId} : ∀ (vs : List Value) (w : World) (cs : Array Value) (o : Nat), Lies w g t cs → Lies (w.setCells g o vs) g t (spl cs o vs)
  | [], _, _, _, h => h
  | v :: r, _, _, o, h => lies_spl r _ _ (o + 1) (lies_set h o v)
theorem there_of {w : World} {g : Nat} {t : TypeId} {cs : Array Value} (h : Lies w g t cs) {o n : Nat} (hn : o + n ≤ cs.size) : w.there g o n := fun j hj =>
  ⟨by rw [lies_cell h, Array.getElem?_eq_getElem (by omega)]; rfl, lies_free h _⟩
theorem range_of {w : World} {g : Nat} {t : TypeId} {cs : Array Value} (h : Lies w g t cs) {o : Nat} {vs : List Value} (hv : ∀ j v, vs[j]? = some v → cs[o + j]? = some v) : w.rangeAt g o vs := fun j v hj => by
  rw [lies_cell h]; exact hv j v hj

/-! the cells of a Hash -/
theorem stRow_size (s : St) : (stRow s).size = 8 := rfl
theorem hRow_st (s : St) (r : Nat → BitVec 8) (n j : Nat) (h : j < 8) : (hRow s r n)[j]? = (stRow s)[j]? := by
  unfold hRow
  rw [Array.getElem?_append_left (by simp [stRow, yRow]; omega), Array.getElem?_append_left (by simp [stRow]; omega)]
theorem hRow_rest (s : St) (r : Nat → BitVec 8) (n j : Nat) (h : j < 64) : (hRow s r n)[8 + j]? = some (Y (r j)) := by
  unfold hRow
  rw [Array.getElem?_append_left (by simp [stRow, yRow]; omega), Array.getElem?_append_right (by simp [stRow]), stRow_size, show 8 + j - 8 = j by omega, yRow_at r h]
theorem hRow_ext {cs : Array Value} {s : St} {r : Nat → BitVec 8} {n : Nat} (hs : cs.size = 73) (h1 : ∀ j, j < 8 → cs[j]? = (stRow s)[j]?) (h2 : ∀ j, j < 64 → cs[8 + j]? = some (Y (r j))) (h3 : cs[72]? = some (.int .i64 (n : Int))) : cs = hRow s r n := by
  refine Array.ext_getElem? fun j => ?_
  by_cases a : j < 8
  · rw [h1 j a, hRow_st s r n j a]
  · by_cases b : j < 72
    · obtain ⟨k, rfl⟩ : ∃ k, j = 8 + k := ⟨j - 8, by omega⟩
      rw [h2 k (by omega), hRow_rest s r n k (by omega)]
    · by_cases c : j = 72
      · subst c; rw [h3, hRow_72]
      · rw [Array.getElem?_eq_none (by omega), Array.getElem?_eq_none (by rw [hRow_size]; omega)]
theorem hRow_state (s s' : St) (r : Nat → BitVec 8) (n : Nat) : spl (hRow s r n) 0 (stRow s').toList = hRow s' r n := by
  refine hRow_ext (by rw [spl_size, hRow_size]) (fun j hj => ?_) (fun j hj => ?_) ?_
  · have := spl_in (stRow s').toList (hRow s r n) 0 j (by simpa [stRow] using hj) (by rw [hRow_size]; simp [stRow])
    rw [Nat.zero_add] at this
    rw [this, Array.getElem?_toList]
  · rw [spl_out _ _ _ _ (by simp [stRow]), hRow_rest s r n j hj]
  · rw [spl_out _ _ _ _ (by simp [stRow]), hRow_72]
theorem hRow_count (s : St) (r : Nat → BitVec 8) (n m : Nat) : (hRow s r n).setIfInBounds 72 (.int .i64 (m : Int)) = hRow s r m := by
  refine hRow_ext (by rw [Array.size_setIfInBounds, hRow_size]) (fun j hj => ?_) (fun j hj => ?_) ?_
  · rw [Array.getElem?_setIfInBounds, if_neg (by omega), hRow_st s r n j hj]
  · rw [Array.getElem?_setIfInBounds, if_neg (by omega), hRow_rest s r n j hj]
  · rw [Array.getElem?_setIfInBounds, if_pos rfl, if_pos (by rw [hRow_size]; omega)]
/-- bytes copied into the rest -/
def over (r : Nat → BitVec 8) (q : Nat) (f : List (BitVec 8)) (j : Nat) : BitVec 8 := if q ≤ j ∧ j < q + f.length then f.getD (j - q) 0 else r j
theorem hRow_copy (s : St) (r : Nat → BitVec 8) (n q : Nat) (f : List (BitVec 8)) (hq : q + f.length ≤ 64) :
    ((hRow s r n).toList.take (8 + q) ++ (f.map Y ++ (hRow s r n).toList.drop (8 + q + (f.map Y).length))).toArray = hRow s (over r q f) n := by
  have hz := hRow_size s r n
  have hz' : (hRow s r n).toList.length = 73 := by simpa using hz
  have key : ∀ j, ((hRow s r n).toList.take (8 + q) ++ (f.map Y ++ (hRow s r n).toList.drop (8 + q + (f.map Y).length))).toArray[j]? =
      if 8 + q ≤ j ∧ j < 8 + q + f.length then (f.map Y)[j - (8 + q)]? else (hRow s r n)[j]? := by
    intro j
    rw [List.getElem?_toArray, List.getElem?_append, List.length_take, hz', Nat.min_eq_left (by omega)]
    by_cases a : j < 8 + q
    · rw [if_pos a, if_neg (by omega), List.getElem?_take, if_pos a, Array.getElem?_toList]
    · rw [if_neg a, List.getElem?_append, List.length_map]
      by_cases b : j - (8 + q) < f.length
      · rw [if_pos b, if_pos (by omega)]
      · rw [if_neg b, if_neg (by omega), List.getElem?_drop, Array.getElem?_toList]
        congr 1
        omega
  refine hRow_ext (by simp [hz']; omega) (fun j hj => ?_) (fun j hj => ?_) ?_
  · rw [key, if_neg (by omega), hRow_st s r n j hj]
  · rw [key]
    unfold over
    by_cases a : q ≤ j ∧ j < q + f.length
    · rw [if_pos (by omega), if_pos a, List.getElem?_map, show 8 + j - (8 + q) = j - q by omega, List.getD_eq_getElem?_getD, List.getElem?_eq_getElem (by omega)]
      rfl
    · rw [if_neg (by omega), if_neg a, hRow_rest s r n j hj]
  · rw [key, if_neg (by omega), hRow_72]

/-! block g alone, and what is new, has turned -/
section
variable {a w w' : World} {g : Nat}
theorem only_refl (w : World) (g : Nat) : w.grownBy w (some g) := World.grownBy.refl w _
theorem only_drew (h : a.grownBy w (some g)) : a.grownBy w.drew (some g) := ⟨h.os, h.tape, h.output, h.size, h.block⟩
theorem only_drewN (h : a.grownBy w (some g)) (n : Nat) : a.grownBy (w.drewN n) (some g) := ⟨h.os, h.tape, h.output, h.size, h.block⟩
theorem only_setCell (h : a.grownBy w (some g)) (i : Nat) (u : Value) : a.grownBy (w.setCell ⟨g, i, none⟩ u) (some g) :=
  ⟨h.os, h.tape, h.output, by simpa [World.setCell] using h.size, fun i hi hne => (Below.heap_setCell w _ u i (fun e => hne (by rw [e]))).trans (h.block i hi hne)⟩
theorem only_setCells : ∀ (vs : List Value) (o : Nat) (w : World), a.grownBy w (some g) → a.grownBy (w.setCells g o vs) (some g)
  | [], _, _, h => h
  | v :: r, o, _, h => only_setCells r (o + 1) _ (only_setCell h o v)
theorem only_setRow (h : a.grownBy w (some g)) (cs : Array Value) : a.grownBy (w.setRow g cs) (some g) :=
  ⟨h.os, h.tape, h.output, by simpa using h.size, fun i hi hne => (setRow_other w g i cs (fun e => hne (by rw [e]))).trans (h.block i hi hne)⟩
theorem only_below (h : a.grownBy w (some g)) (hb : Below w.heap.size w w') : a.grownBy w' (some g) :=
  ⟨hb.os.trans h.os, hb.tape.trans h.tape, hb.output.trans h.output, Nat.le_trans h.size hb.size, fun i hi hne => (hb.block i (Nat.lt_of_lt_of_le hi h.size)).trans (h.block i hi hne)⟩
theorem only_cell (h : a.grownBy w (some g)) {p : Addr} (hp : p.block < a.heap.size) (hne : p.block ≠ g) : w.cell? p = a.cell? p :=
  World.cell?_of_block (h.block p.block hp (fun e => hne (by injection e)))
end
end Go.Proofs.YtlnmaejpchncoaaDoor
