/-
What is proved here: small words for SumParts: what came in as a list of bytes, put together; memory that stays.
-/
import Derived.Test.YtekccgdlohofkaaDoorAgns
import Derived.Test.YtekccgdlohofkaaDoorTurned
set_option linter.unusedSimpArgs false
namespace Go.Proofs.YtekccgdlohofkaaDoor
open Go.Word Go.RowKit

/-- the first i lists, one behind the other -/
def cat (X : Nat → List (BitVec 8)) : Nat → List (BitVec 8)
  | 0 => []
  | i + 1 => cat X i ++ X i
/-- how long they are together, one more for each -/
def tot (L : Nat → Nat) : Nat → Nat
  | 0 => 0
  | i + 1 => tot L i + L i + 1
theorem cat_len {X : Nat → List (BitVec 8)} {L : Nat → Nat} : ∀ (i : Nat), (∀ r, r < i → (X r).length = L r) → (cat X i).length + i = tot L i
  | 0, _ => rfl
  | i + 1, h => by
    have := cat_len i (fun r hr => h r (by omega))
    unfold cat tot
    rw [List.length_append, h i (by omega)]
    omega
theorem tot_le {L : Nat → Nat} {i j : Nat} (h : i ≤ j) : tot L i ≤ tot L j := by
  induction j with
  | zero => have : i = 0 := by omega
            subst this; exact Nat.le_refl _
  | succ j ih =>
    rcases Nat.lt_or_ge i (j + 1) with h1 | h1
    · have := ih (by omega)
      show tot L i ≤ tot L j + L j + 1
      omega
    · have : i = j + 1 := by omega
      subst this; exact Nat.le_refl _
theorem tot_part {L : Nat → Nat} {i j : Nat} (h : i < j) : L i + 1 ≤ tot L j := by
  have : tot L (i + 1) ≤ tot L j := tot_le h
  have e : tot L (i + 1) = tot L i + L i + 1 := rfl
  omega
/-- a list of bytes that came in -/
structure Parts (w : World) (PA : Option Addr) (P : Nat) (A : Nat → Option Addr) (L C : Nat → Nat) (X : Nat → List (BitVec 8)) : Prop where
  cells : 0 < P → ∃ ad, PA = some ad ∧ ad.block < w.heap.size ∧ ∀ r, r < P → w.cell? (ad.add r) = some (.slice (A r) (L r) (C r))
  len : ∀ r, r < P → (X r).length = L r
  most : ∀ r, r < P → L r ≤ 2 ^ 47
  none : ∀ r, r < P → A r = none → C r = 0
  byt : ∀ r, r < P → Byt w (A r) (X r)
theorem Parts.cell {w : World} {PA : Option Addr} {P : Nat} {A : Nat → Option Addr} {L C : Nat → Nat} {X : Nat → List (BitVec 8)} (h : Parts w PA P A L C X) {r : Nat} (hr : r < P) {w' : World} (hb : Below w.heap.size w w') :
    ∃ ad, PA = some ad ∧ w'.cell? (ad.add r) = some (.slice (A r) (L r) (C r)) := by
  obtain ⟨ad, e, hl, hc⟩ := h.cells (by omega)
  refine ⟨ad, e, ?_⟩
  rw [hb.cell (by rw [add_block]; exact hl)]
  exact hc r hr
theorem grown_of {w w' : World} (h : Below w.heap.size w w') : w.grownBy w' Option.none := ⟨h.os, h.tape, h.output, h.size, fun k hk _ => h.block k hk⟩
theorem own_below {w w' : World} {base : Nat} {v : Value} {b : List (BitVec 8)} (h : Own w base v b) (hb : Below w.heap.size w w') : Own w' base v b :=
  World.ownsRow.kept h (grown_of hb) (by cases hv : v.ownBlock <;> simp)
theorem own_only {w w' : World} {base g : Nat} {v : Value} {b : List (BitVec 8)} (h : Own w base v b) (hg : w.grownBy w' (some g)) (hne : g < base ∨ w.heap.size ≤ g) : Own w' base v b :=
  World.ownsRow.kept h hg (by
    cases hv : v.ownBlock with
    | none => simp
    | some k =>
      obtain ⟨h1, h2⟩ := World.ownsRow.lt h k hv
      refine .inr fun e => ?_
      injection e with e
      omega)
theorem hash_only {w w' : World} {g g' : Nat} {l : List (BitVec 8)} (h : Hash w g l) (hg : w.grownBy w' (some g')) (hne : g ≠ g') : Hash w' g l := by
  obtain ⟨s, r, hl, hf⟩ := hash_form h
  exact hf _ _ ((hg.block g (lies_lt hl) (fun e => by injection e; omega)).trans hl)
theorem byt_src {w : World} {f g : Nat} {b : List (BitVec 8)} (h : Byt w (some ⟨f, 0, none⟩) b) (hne : f ≠ g) : Src w g (some ⟨f, 0, none⟩) b := fun h0 => by
  obtain ⟨ad, e, hl, hc⟩ := h h0
  injection e with e
  subst e
  exact ⟨_, rfl, hl, hne, hc⟩
/-- bytes that may be written -/
def Open8 (w : World) (f n : Nat) : Prop := ∃ b : List (BitVec 8), b.length = n ∧ f < w.heap.size ∧ ∀ j, j < b.length → w.cell? ⟨f, j, none⟩ = some (Y (b.getD j 0)) ∧ w.frozen? ⟨f, j, none⟩ = false
theorem open8_set {w : World} {f n m : Nat} (h : Open8 w f n) (hm : m < n) (y : BitVec 8) : Open8 (w.setCell ⟨f, m, none⟩ (Y y)) f n := by
  obtain ⟨b, hb, hf, hc⟩ := h
  refine ⟨b.set m y, by rw [List.length_set, hb], by simpa [World.setCell] using hf, fun j hj => ?_⟩
  obtain ⟨ad, e, _, hcc⟩ := byt_set (m := m) hf hc (by omega) y (by rw [List.length_set]; omega)
  injection e with e
  subst e
  refine ⟨?_, ?_⟩
  · have := hcc j hj
    rwa [Addr.add_mid, Nat.zero_add] at this
  · rw [List.length_set] at hj
    rw [World.frozen?_setCell]
    exact (hc j hj).2
theorem y_xor255 (x : BitVec 8) : binOp .xor 5 (Y x) (.int .u8 255) = pure (Y (x ^^^ 255#8)) := by
  have := y_xor 5 x 255
  exact this
end Go.Proofs.YtekccgdlohofkaaDoor
