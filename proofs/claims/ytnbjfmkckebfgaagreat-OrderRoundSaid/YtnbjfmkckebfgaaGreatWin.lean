/-
What is proved here: a number put into a window of a row of one's own, by a contract; and the look for its place.
-/
import Derived.Test.YtnbjfmkckebfgaaGreatApl
import Derived.Test.YtnbjfmkckebfgaaGreatShl
import Derived.Shelf.Slices.Empties
set_option linter.unusedSimpArgs false
set_option linter.unusedVariables false
namespace Go.Proofs.YtnbjfmkckebfgaaGreat
open Go.Cmp Go.RowKit Go.Shelf
theorem lies_drew {w : World} {g : Nat} {t : TypeId} {cs : Array Value} (h : Lies w g t cs) : Lies w.drew g t cs := h
theorem lies_shape {w : World} {g : Nat} {t : TypeId} {cs : Array Value} (h : Lies w g t cs) : w.shape? g = some (t, cs.size) := by
  unfold Lies at h
  simp [World.shape?, h]
def wblk : Value → Option Nat
  | .slice (some a) _ _ => some a.block
  | _ => none
/-- numbers in a window of a row, room behind them -/
def Win (w : World) (B : Nat) (v : Value) (l : List Int) : Prop := (v = .slice none 0 0 ∧ l = []) ∨
  ∃ (g o c : Nat) (cur : Array Value), v = .slice (some ⟨g, o, none⟩) l.length c ∧ B ≤ g ∧ Lies w g 3 cur ∧ l.length ≤ c ∧ c ≤ maxLen ∧ o + c ≤ cur.size ∧ ∀ j, j < l.length → cur[o + j]? = (l.map iV)[j]?
theorem win_block {w : World} {B : Nat} {v : Value} {l : List Int} (h : Win w B v l) : ∀ k, wblk v = some k → B ≤ k ∧ k < w.heap.size := by
  rcases h with ⟨rfl, _⟩ | ⟨g, o, c, cur, rfl, hB, hL, _⟩
  · intro k hk; cases hk
  · intro k hk
    injection hk with hk
    subst hk
    exact ⟨hB, lies_lt hL⟩
theorem win_but {P : Nat → Prop} {w w' : World} {B : Nat} {v : Value} {l : List Int} (h : Win w B v l) (hb : But P w w') (hn : ∀ k, wblk v = some k → ¬ P k) : Win w' B v l := by
  rcases h with ⟨rfl, e⟩ | ⟨g, o, c, cur, rfl, hB, hL, h2⟩
  · exact .inl ⟨rfl, e⟩
  · exact .inr ⟨g, o, c, cur, rfl, hB, hb.lies hL (hn g rfl), h2⟩
def insAt (l : List Int) (i : Nat) (g : Int) : List Int := l.take i ++ g :: l.drop i
theorem insAt_len (l : List Int) (i : Nat) (g : Int) (h : i ≤ l.length) : (insAt l i g).length = l.length + 1 := by simp [insAt]; omega
theorem insAt_get (l : List Int) (i : Nat) (g : Int) (h : i ≤ l.length) (j : Nat) : ((insAt l i g).map iV)[j]? = if j < i then (l.map iV)[j]? else if j = i then some (iV g) else (l.map iV)[j - 1]? := by
  unfold insAt
  rw [List.map_append, List.map_cons, List.getElem?_append]
  by_cases h1 : j < i
  · rw [if_pos h1, if_pos (by simp; omega), List.map_take, List.getElem?_take_of_lt h1]
  · rw [if_neg h1, if_neg (by simp; omega)]
    by_cases h2 : j = i
    · subst h2
      rw [if_pos rfl, show j - (List.map iV (l.take j)).length = 0 by simp; omega]
      rfl
    · rw [if_neg h2, show j - (List.map iV (l.take i)).length = (j - 1 - i) + 1 by simp; omega, List.getElem?_cons_succ, List.map_drop, List.getElem?_drop, show i + (j - 1 - i) = j - 1 by omega]
theorem win_first {w : World} {B : Nat} {v : Value} {l : List Int} (h : Win w B v l) (h0 : 0 < l.length) : ∃ (g o c : Nat) (cur : Array Value), v = .slice (some ⟨g, o, none⟩) l.length c ∧ B ≤ g ∧ Lies w g 3 cur ∧ l.length ≤ c ∧ c ≤ maxLen ∧ o + c ≤ cur.size ∧ ∀ j, j < l.length → cur[o + j]? = (l.map iV)[j]? := by
  rcases h with ⟨rfl, rfl⟩ | h
  · cases h0
  · exact h
/-- what the insertion tells -/
def InsE (w : World) (B : Nat) (v : Value) (l' : List Int) (e : Ending) (w' : World) : Prop :=
  ∃ G o n c, e = .returned (.slice (some ⟨G, o, none⟩) n c) ∧ Win w' B (.slice (some ⟨G, o, none⟩) n c) l' ∧ But (fun k => some k = wblk v) w w' ∧ (wblk v = some G ∨ w.heap.size ≤ G)
theorem maxLen_eq : maxLen = 9223372036854775807 := by decide
theorem one_cell (z : Int) : ∀ v ∈ [iV z], v.oneCell' = true := fun v hv => by
  obtain rfl := List.mem_singleton.1 hv; rfl
theorem cells_one (l : List Int) : ∀ v ∈ l.map iV, v.oneCell' = true := fun v hv => by
  obtain ⟨z, _, rfl⟩ := List.mem_map.1 hv; rfl
theorem one_at {w : World} {vb : Nat} {g : Int} (hv : Lies w vb 3 #[iV g]) : ∀ j v, [iV g][j]? = some v → w.cell? ⟨vb, 0 + j, none⟩ = some v := fun j v hj => by
  match j, hj with
  | 0, hj => rw [lies_cell hv]; exact hj
  | j + 1, hj => simp at hj
end Go.Proofs.YtnbjfmkckebfgaaGreat
