/-
What is proved here: lists of bytes put one behind the other in a row of the call's own.
-/
import Derived.Test.YtiglakhfkgeefaaCpm
import Derived.Test.YtiglakhfkgeefaaOpp
set_option linter.unusedSimpArgs false
set_option linter.unusedVariables false
namespace Go.Proofs.Ytiglakhfkgeefaa
open Go.Pth Go.Tre Go.RowKit Go.Word Go.Shelf
def lcells (D : Nat → Value) (n : Nat) : List Value := (List.range n).map D
theorem lcells_len (D : Nat → Value) (n : Nat) : (lcells D n).length = n := by simp [lcells]
theorem lcells_at (D : Nat → Value) (n i : Nat) (h : i < n) : (lcells D n)[i]? = some (D i) := by simp [lcells, h]
theorem list_row {w : World} {LA : Option Addr} {ls : List Bt} (h : ListQ w LA ls) : ∃ D : Nat → Value, (∀ i (hi : i < ls.length), ∃ DA dc, D i = .slice DA ls[i].length dc ∧ BytesAt w DA ls[i]) ∧ ∀ ad, LA = some ad → ∀ j u, (lcells D ls.length)[j]? = some u → w.cell? (ad.add j) = some u := by
  have hc : ∀ i, ∃ v : Value, ∀ (hi : i < ls.length), ∃ DA dc, v = .slice DA ls[i].length dc ∧ BytesAt w DA ls[i] ∧ ∀ ad, LA = some ad → w.cell? (ad.add i) = some v := fun i => by
    by_cases hi : i < ls.length
    · obtain ⟨b, o, DA, dc, e, hl, h1, h3⟩ := h i hi
      refine ⟨.slice DA ls[i].length dc, fun _ => ⟨DA, dc, rfl, h3, fun ad ha => ?_⟩⟩
      rw [e] at ha
      injection ha with ha
      subst ha
      rw [Addr.add_mid]
      exact h1
    · exact ⟨undef, fun h => absurd h hi⟩
  have hD := fun i => Classical.choose_spec (hc i)
  refine ⟨fun i => Classical.choose (hc i), fun i hi => ?_, fun ad ha j u hj => ?_⟩
  · obtain ⟨DA, dc, e, h1, _⟩ := hD i hi
    exact ⟨DA, dc, e, h1⟩
  · have hl : j < ls.length := by have := (List.getElem?_eq_some_iff.1 hj).1; rwa [lcells_len] at this
    rw [lcells_at _ _ _ hl] at hj
    injection hj with hj
    subst hj
    obtain ⟨DA, dc, e, h1, h2⟩ := hD j hl
    exact h2 ad ha
theorem bts_info : (Try.prog.info? 47).map (fun i => (i.zero, i.size, i.bytes)) = some (some (.slice none 0 0), 1, 24) := by kernel_rfl
theorem run_app_lists (w : World) (B : Nat) (ty : TypeId) (v : Value) (n : Nat) (xs : List Value) (hv : w.ownsRow B 47 1 v n xs) (hB : B ≤ w.heap.size) (LA : Option Addr) (lc : Nat) (D : Nat → Value) (ls : List Bt) (hL : ListQ w LA ls)
    (hs : ∀ ad, LA = some ad → ∀ j u, (lcells D ls.length)[j]? = some u → w.cell? (ad.add j) = some u) (ho : ∀ i, i < ls.length → (D i).oneCell' = true) (hn : n ≤ 1000000) (hb : ls.length ≤ 1000000) :
    ∃ v' w', (Builtin.append_ #[26, 26] ty #[v, .slice LA ls.length lc]).run Try.prog w = .ok v' w' ∧ w'.ownsRow B 47 1 v' (n + ls.length) (xs ++ lcells D ls.length) ∧ w.grownBy w' v.ownBlock := by
  obtain ⟨i0, hi, hz0, hz1, hz2⟩ := info_parts bts_info
  cases LA with
  | none =>
    have hd0 : ls = [] := by
      cases ls with
      | nil => rfl
      | cons c t =>
        obtain ⟨b, o, DA, dc, e, _⟩ := hL 0 (by simp)
        cases e
    subst hd0
    refine ⟨v, w, run_append_none_cap w B 26 ty 47 i0 1 Try.underlying26 hi v n xs lc hv, ?_, ⟨rfl, rfl, rfl, Nat.le_refl _, fun _ _ _ => rfl⟩⟩
    simpa [lcells] using hv
  | some ad =>
    obtain ⟨v', w', h1, h2, h3, _⟩ := run_append_own (P := Try.prog) w B 26 ty 47 i0 _ 1 24 Try.underlying26 hi hz0 hz1 hz2 rfl (by decide) v n xs hv ad ls.length lc (lcells D ls.length) (by rw [lcells_len]; omega) (hs ad rfl) (fun u hu => by
      obtain ⟨j, hj, rfl⟩ := List.mem_map.1 hu
      exact ho j (by simpa using hj)) (by unfold maxLen; omega) (by omega) hB
    exact ⟨v', w', h1, h2, h3⟩
theorem listQ_of {w : World} {B n : Nat} {v : Value} {xs : List Value} {ls : List Bt} (h : w.ownsRow B 47 1 v n xs) (hn : n = ls.length) (hx : ∀ i (hi : i < ls.length), ∃ DA dc, xs[i]? = some (.slice DA ls[i].length dc) ∧ BytesAt w DA ls[i]) : ∃ C cc, v = .slice C n cc ∧ ListQ w C ls := by
  rcases h.2 with ⟨e, h0⟩ | ⟨g, cap, cur, e, hg, hb, _⟩
  · exact ⟨none, 0, by rw [e, h0], fun i hi => by omega⟩
  · subst e
    refine ⟨_, _, rfl, fun i hi => ?_⟩
    obtain ⟨DA, dc, e1, e2⟩ := hx i hi
    refine ⟨g, 0, DA, dc, rfl, (Array.getElem?_eq_some_iff.1 hb).1, ?_, e2⟩
    rw [Nat.zero_add, h.cellAt _ (by omega), e1]
theorem listQ_grown {w w' : World} {A : Option Addr} {ls : List Bt} (h : ListQ w A ls) (hg : w.grownBy w' none) : ListQ w' A ls := fun i hi => by
  have hc : ∀ {b : Nat} (j : Nat), b < w.heap.size → w'.cell? ⟨b, j, none⟩ = w.cell? ⟨b, j, none⟩ := fun j hb => World.cell?_of_block (a := ⟨_, j, none⟩) (hg.block _ hb (by simp))
  obtain ⟨b, o, DA, dc, e, hl, h1, h2⟩ := h i hi
  exact ⟨b, o, DA, dc, e, Nat.lt_of_lt_of_le hl hg.size, (hc _ hl).trans h1, fun j hj => by obtain ⟨b', o', e', hl', hc'⟩ := h2 j hj; exact ⟨b', o', e', Nat.lt_of_lt_of_le hl' hg.size, (hc _ hl').trans hc'⟩⟩
theorem bytesAt_same {w w' : World} {A : Option Addr} {l : Bt} (h : BytesAt w A l) {B : Nat} (hB : ∀ i, i < w.heap.size → w'.heap[i]? = w.heap[i]?) (hs : w.heap.size ≤ w'.heap.size) : BytesAt w' A l := fun i hi => by
  obtain ⟨b, o, e, hl, hc⟩ := h i hi
  exact ⟨b, o, e, Nat.lt_of_lt_of_le hl hs, (World.cell?_of_block (a := ⟨b, o + i, none⟩) (hB b hl)).trans hc⟩
/-- two lists, one behind the other, in two appends -/
theorem run_app_two (w : World) (ty : TypeId) (LA MA : Option Addr) (lc mc : Nat) (ls ms : List Bt) (hL : ListQ w LA ls) (hM : ListQ w MA ms) (h1 : ls.length ≤ 1000000) (h2 : ms.length ≤ 1000000) : ∃ D : Nat → Value, (∀ W, Below w.heap.size w W → ∃ v' w', (Builtin.append_ #[26, 26] ty #[.slice none 0 0, .slice LA ls.length lc]).run Try.prog W = .ok v' w' ∧ w'.ownsRow w.heap.size 47 1 v' ls.length (lcells D ls.length) ∧ W.grownBy w' none) ∧
    ∀ W v, Below w.heap.size w W → W.ownsRow w.heap.size 47 1 v ls.length (lcells D ls.length) → ∃ C cc w', (Builtin.append_ #[26, 26] ty #[v, .slice MA ms.length mc]).run Try.prog W = .ok (.slice C (ls.length + ms.length) cc) w' ∧ ListQ w' C (ls ++ ms) ∧ W.grownBy w' v.ownBlock := by
  obtain ⟨D, hD, hS⟩ := list_row hL
  obtain ⟨E, hE, hT⟩ := list_row hM
  have oD : ∀ i, i < ls.length → (D i).oneCell' = true := fun i hi => by obtain ⟨DA, dc, e, _⟩ := hD i hi; rw [e]; rfl
  have oE : ∀ i, i < ms.length → (E i).oneCell' = true := fun i hi => by obtain ⟨DA, dc, e, _⟩ := hE i hi; rw [e]; rfl
  refine ⟨D, fun W hb => ?_, fun W v hb hv => ?_⟩
  · obtain ⟨v', w', r1, r2, r3⟩ := run_app_lists W w.heap.size ty (.slice none 0 0) 0 [] (World.ownsRow_nil _ _ _ _) hb.size LA lc D ls (listQ_below hL hb) (fun ad ha j u hj => by
      have h0 := hS ad ha j u hj
      have hl : ad.block < w.heap.size := by
        have hj' : j < ls.length := by have := (List.getElem?_eq_some_iff.1 hj).1; rwa [lcells_len] at this
        obtain ⟨b, o, _, _, e, hl, _⟩ := hL j hj'
        rw [ha] at e
        injection e with e
        rw [e]
        exact hl
      exact (hb.cell (p := ad.add j) (by unfold Addr.add; split <;> exact hl)).trans h0) oD (by omega) h1
    exact ⟨v', w', r1, by simpa using r2, r3⟩
  · obtain ⟨v', w', r1, r2, r3⟩ := run_app_lists W w.heap.size ty v ls.length _ hv hb.size MA mc E ms (listQ_below hM hb) (fun ad ha j u hj => by
      have h0 := hT ad ha j u hj
      have hl : ad.block < w.heap.size := by
        have hj' : j < ms.length := by have := (List.getElem?_eq_some_iff.1 hj).1; rwa [lcells_len] at this
        obtain ⟨b, o, _, _, e, hl, _⟩ := hM j hj'
        rw [ha] at e
        injection e with e
        rw [e]
        exact hl
      exact (hb.cell (p := ad.add j) (by unfold Addr.add; split <;> exact hl)).trans h0) oE h1 h2
    have hk : ∀ i, i < w.heap.size → w'.heap[i]? = w.heap[i]? := fun i hi => (r3.block i (Nat.lt_of_lt_of_le hi hb.size) (fun e => by have := (own_heap hv i e.symm).1; omega)).trans (hb.block i hi)
    have hsz : w.heap.size ≤ w'.heap.size := Nat.le_trans hb.size r3.size
    obtain ⟨C, cc, e, hq⟩ := listQ_of (ls := ls ++ ms) r2 (by rw [List.length_append]) (fun i hi => by
      rw [List.length_append] at hi
      by_cases hi2 : i < ls.length
      · obtain ⟨DA, dc, e, hby⟩ := hD i hi2
        refine ⟨DA, dc, ?_, ?_⟩
        · rw [List.getElem?_append_left (by rw [lcells_len]; exact hi2), lcells_at _ _ _ hi2, e, List.getElem_append_left hi2]
        · rw [List.getElem_append_left hi2]
          exact bytesAt_same (B := 0) hby hk hsz
      · obtain ⟨DA, dc, e, hby⟩ := hE (i - ls.length) (by omega)
        refine ⟨DA, dc, ?_, ?_⟩
        · rw [List.getElem?_append_right (by rw [lcells_len]; omega), lcells_len, lcells_at _ _ _ (by omega), e, List.getElem_append_right (by omega)]
        · rw [List.getElem_append_right (by omega)]
          exact bytesAt_same (B := 0) hby hk hsz)
    subst e
    exact ⟨C, cc, w', r1, hq, r3⟩
end Go.Proofs.Ytiglakhfkgeefaa
