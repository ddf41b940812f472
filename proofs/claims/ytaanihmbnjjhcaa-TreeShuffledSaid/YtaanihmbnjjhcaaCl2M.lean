/-
What is proved here: a row of files that came in, as cells; a copy of it of which some files' bytes are copied already.
-/
import Derived.Test.YtaanihmbnjjhcaaCl1M
import Derived.Test.YtaanihmbnjjhcaaEftM
set_option linter.unusedSimpArgs false
set_option linter.unusedVariables false
namespace Go.Proofs.Ytaanihmbnjjhcaa
open Go.Pth Go.Tre Go.RowKit Go.Word Go.Shelf

theorem ownsRow_below {B : Nat} {e : TypeId} {k : Nat} {v : Value} {n : Nat} {xs : List Value} {w w' : World} (h : w.ownsRow B e k v n xs) (hb : Below w.heap.size w w') : w'.ownsRow B e k v n xs :=
  h.kept (row := none) ⟨hb.os, hb.tape, hb.output, hb.size, fun j hj _ => hb.block j hj⟩ (by cases hv : v.ownBlock <;> simp)
theorem fcells_congr {D D' : Nat → Value} {fs : List Fl} (h : ∀ i, i < fs.length → D i = D' i) : fcells D fs = fcells D' fs := by
  unfold fcells
  rw [List.flatMap_def, List.flatMap_def]
  congr 1
  refine List.map_congr_left (fun i hi => ?_)
  rw [h i (by simpa using hi)]
theorem fcells_put (D : Nat → Value) (u : Value) (fs : List Fl) (k : Nat) (h : k < fs.length) : (fcells D fs).set (k * 2 + 1) u = fcells (fun i => if i = k then u else D i) fs := by
  apply List.ext_getElem?
  intro i
  by_cases hi : i < fs.length * 2
  · obtain ⟨k1, k2⟩ := fcells_at (fun i => if i = k then u else D i) fs (i / 2) (by omega)
    obtain ⟨j1, j2⟩ := fcells_at D fs (i / 2) (by omega)
    have h2 : i % 2 = 0 ∨ i % 2 = 1 := by omega
    rcases h2 with h2 | h2
    · rw [show (fcells (fun i => if i = k then u else D i) fs)[i]? = (fcells (fun i => if i = k then u else D i) fs)[i / 2 * 2]? by congr 1; omega, k1, List.getElem?_set, if_neg (by omega), show (fcells D fs)[i]? = (fcells D fs)[i / 2 * 2]? by congr 1; omega, j1]
    · rw [show (fcells (fun i => if i = k then u else D i) fs)[i]? = (fcells (fun i => if i = k then u else D i) fs)[i / 2 * 2 + 1]? by congr 1; omega, k2, List.getElem?_set]
      by_cases e : k * 2 + 1 = i
      · have e2 : i / 2 = k := by omega
        rw [if_pos e, if_pos (by rw [fcells_len]; omega), if_pos e2]
      · have e2 : i / 2 ≠ k := by omega
        rw [if_neg e, if_neg e2, show (fcells D fs)[i]? = (fcells D fs)[i / 2 * 2 + 1]? by congr 1; omega, j2]
  · rw [List.getElem?_eq_none (by rw [List.length_set, fcells_len]; omega), List.getElem?_eq_none (by rw [fcells_len]; omega)]
theorem fcells_src {w : World} {ad : Addr} {D : Nat → Value} {fs : List Fl} (h : ∀ i (hi : i < fs.length), w.cell? (ad.add (i * 2)) = some (.int .i64 fs[i].mode) ∧ w.cell? (ad.add (i * 2 + 1)) = some (D i)) : ∀ j u, (fcells D fs)[j]? = some u → w.cell? (ad.add j) = some u := fun j u hj => by
  have hl : j < (fcells D fs).length := (List.getElem?_eq_some_iff.1 hj).1
  rw [fcells_len] at hl
  obtain ⟨k1, k2⟩ := fcells_at D fs (j / 2) (by omega)
  obtain ⟨d1, d2⟩ := h (j / 2) (by omega)
  have h2 : j % 2 = 0 ∨ j % 2 = 1 := by omega
  rcases h2 with h2 | h2
  · have ej : j = j / 2 * 2 := by omega
    rw [ej, k1] at hj
    rw [← hj, show ad.add j = ad.add (j / 2 * 2) by rw [← ej]]
    exact d1
  · have ej : j = j / 2 * 2 + 1 := by omega
    rw [ej, k2] at hj
    rw [← hj, show ad.add j = ad.add (j / 2 * 2 + 1) by rw [← ej]]
    exact d2
theorem files_row {w : World} {FA : Option Addr} {fs : List Fl} (h : FilesAt w FA fs) : ∃ D : Nat → Value, (∀ i (hi : i < fs.length), ∃ DA dc, D i = .slice DA fs[i].data.length dc ∧ BytesAt w DA fs[i].data) ∧ ∀ ad, FA = some ad → ∀ j u, (fcells D fs)[j]? = some u → w.cell? (ad.add j) = some u := by
  have hc : ∀ i, ∃ v : Value, ∀ (hi : i < fs.length), ∃ DA dc, v = .slice DA fs[i].data.length dc ∧ BytesAt w DA fs[i].data ∧ ∀ ad, FA = some ad → w.cell? (ad.add (i * 2)) = some (.int .i64 fs[i].mode) ∧ w.cell? (ad.add (i * 2 + 1)) = some v := fun i => by
    by_cases hi : i < fs.length
    · obtain ⟨b, o, DA, dc, e, hl, h1, h2, h3⟩ := h i hi
      refine ⟨.slice DA fs[i].data.length dc, fun _ => ⟨DA, dc, rfl, h3, fun ad ha => ?_⟩⟩
      rw [e] at ha
      injection ha with ha
      subst ha
      rw [Addr.add_mid, Addr.add_mid]
      exact ⟨h1, by rw [← Nat.add_assoc]; exact h2⟩
    · exact ⟨undef, fun h => absurd h hi⟩
  have hD := fun i => Classical.choose_spec (hc i)
  refine ⟨fun i => Classical.choose (hc i), fun i hi => ?_, fun ad ha => fcells_src (fun i hi => ?_)⟩
  · obtain ⟨DA, dc, e, h1, _⟩ := hD i hi
    exact ⟨DA, dc, e, h1⟩
  · obtain ⟨DA, dc, e, h1, h2⟩ := hD i hi
    exact h2 ad ha
theorem fcells_one {D : Nat → Value} {fs : List Fl} (h : ∀ i, i < fs.length → (D i).oneCell' = true) : ∀ u ∈ fcells D fs, u.oneCell' = true := fun u hu => by
  unfold fcells at hu
  obtain ⟨i, hi, hx⟩ := List.mem_flatMap.1 hu
  simp at hx hi
  rcases hx with rfl | rfl
  · rfl
  · exact h i hi
theorem run_app_files (w : World) (ty : TypeId) (FA : Option Addr) (fc : Nat) (D : Nat → Value) (fs : List Fl) (hF : FilesAt w FA fs) (hs : ∀ ad, FA = some ad → ∀ j u, (fcells D fs)[j]? = some u → w.cell? (ad.add j) = some u) (ho : ∀ i, i < fs.length → (D i).oneCell' = true) (hb : fs.length ≤ 1000000) :
    ∃ v' w', (Builtin.append_ #[23, 23] ty #[.slice none 0 0, .slice FA fs.length fc]).run Try.prog w = .ok v' w' ∧ w'.ownsRow w.heap.size 42 2 v' fs.length (fcells D fs) ∧ w.grownBy w' none := by
  obtain ⟨i0, hi, hz0, hz1, hz2⟩ := info_parts file_info2
  have hnil : w.ownsRow w.heap.size 42 2 (.slice none 0 0) 0 [] := World.ownsRow_nil _ _ _ _
  cases FA with
  | none =>
    have hd0 : fs = [] := by
      cases fs with
      | nil => rfl
      | cons c t =>
        obtain ⟨b, o, DA, dc, e, _⟩ := hF 0 (by simp)
        cases e
    subst hd0
    exact ⟨_, w, run_append_none_cap w w.heap.size 23 ty 42 i0 2 Try.underlying23 hi (.slice none 0 0) 0 [] fc hnil, hnil, ⟨rfl, rfl, rfl, Nat.le_refl _, fun _ _ _ => rfl⟩⟩
  | some ad =>
    obtain ⟨v', w', h1, h2, h3, _⟩ := run_append_own (P := Try.prog) w w.heap.size 23 ty 42 i0 _ 2 32 Try.underlying23 hi hz0 hz1 hz2 rfl (by decide) (.slice none 0 0) 0 [] hnil ad fs.length fc (fcells D fs) (fcells_len D fs) (hs ad rfl) (fcells_one ho) (by unfold maxLen; omega) (by omega) (Nat.le_refl _)
    refine ⟨v', w', h1, ?_, h3⟩
    simpa using h2
/-- a copy of a tree of which the first j files' bytes are copied, too -/
structure CloneAt (w : World) (B : Nat) (vN vF : Value) (D0 D : Nat → Value) (ns : List Nd) (fs : List Fl) (j : Nat) : Prop where
  nodes : w.ownsRow B 39 3 vN ns.length (ncells ns)
  files : w.ownsRow B 42 2 vF fs.length (fcells (fun i => if i < j then D i else D0 i) fs)
  data : ∀ i, i < j → OwnB w B (D i) (fs.getD i ⟨0, []⟩).data
  apart : ∀ i k, i < k → k < j → ∀ b, (D i).ownBlock = some b → (D k).ownBlock ≠ some b
theorem clone_below {w w' : World} {B : Nat} {vN vF : Value} {D0 D : Nat → Value} {ns : List Nd} {fs : List Fl} {j : Nat} (h : CloneAt w B vN vF D0 D ns fs j) (hb : Below w.heap.size w w') : CloneAt w' B vN vF D0 D ns fs j where
  nodes := ownsRow_below h.nodes hb
  files := ownsRow_below h.files hb
  data := fun i hi => ownsRow_below (h.data i hi) hb
  apart := h.apart
theorem copy_below {w w' : World} {B : Nat} {vN vF : Value} {D : Nat → Value} {ns : List Nd} {fs : List Fl} (h : CopyAt w B vN vF D ns fs) (hb : Below w.heap.size w w') : CopyAt w' B vN vF D ns fs where
  nodes := ownsRow_below h.nodes hb
  files := ownsRow_below h.files hb
  data := fun i hi => ownsRow_below (h.data i hi) hb
  apart := h.apart
theorem clone_first {w : World} {B : Nat} {vN vF : Value} {D : Nat → Value} {ns : List Nd} {fs : List Fl} (h1 : w.ownsRow B 39 3 vN ns.length (ncells ns)) (h2 : w.ownsRow B 42 2 vF fs.length (fcells D fs)) : CloneAt w B vN vF D D ns fs 0 where
  nodes := h1
  files := by simpa using h2
  data := fun i hi => by omega
  apart := fun i k _ hk => by omega
theorem clone_last {w : World} {B : Nat} {vN vF : Value} {D0 D : Nat → Value} {ns : List Nd} {fs : List Fl} {j : Nat} (h : CloneAt w B vN vF D0 D ns fs j) (hj : fs.length = j) : CopyAt w B vN vF D ns fs where
  nodes := h.nodes
  files := by
    have := h.files
    rw [fcells_congr (D' := D) (fun i hi => by rw [if_pos (by omega)])] at this
    exact this
  data := fun i hi => h.data i (by omega)
  apart := fun i k hik hk => h.apart i k hik (by omega)
theorem clone_step {w w1 : World} {B g C : Nat} {vN v : Value} {D0 D : Nat → Value} {ns : List Nd} {fs : List Fl} {j : Nat} (h : CloneAt w B vN (.slice (some ⟨g, 0, none⟩) fs.length C) D0 D ns fs j) (hj : j < fs.length) (hB : B ≤ w.heap.size) (hb : Below w.heap.size w w1) (hv : OwnB w1 w.heap.size v fs[j].data) :
    CloneAt (w1.setCell ⟨g, j * 2 + 1, none⟩ v) B vN (.slice (some ⟨g, 0, none⟩) fs.length C) D0 (fun i => if i = j then v else D i) ns fs (j + 1) := by
  have c1 := clone_below h hb
  obtain ⟨s1, s2⟩ := c1.files.stored (j * 2 + 1) v
  obtain ⟨_, cs, hg⟩ := own_heap c1.files g rfl
  have ot : ∀ (t : TypeId) (r : Nat), t ≠ 42 → some g = some r → ∃ cs t', w1.heap[r]? = some (.cells cs t' (0, 0)) ∧ t' ≠ t := fun t r ht e => by
    injection e with e
    subst e
    exact ⟨cs, 42, hg, fun e => ht e.symm⟩
  refine ⟨c1.nodes.kept s2 (own_other c1.nodes (fun r e => ot 39 r (by decide) e)), ?_, fun i hi => ?_, fun i k hik hk b hb1 hb2 => ?_⟩
  · rw [fcells_put _ _ _ _ hj] at s1
    rw [fcells_congr (D' := fun i => if i = j then v else if i < j then D i else D0 i) (fun i hi => ?_)]
    · exact s1
    · by_cases e : i = j
      · rw [if_pos (by omega), if_pos e, if_pos e]
      · rw [if_neg e, if_neg e]
        by_cases e2 : i < j
        · rw [if_pos (by omega), if_pos e2]
        · rw [if_neg (by omega), if_neg e2]
  · by_cases e : i = j
    · subst e
      rw [if_pos rfl]
      have e2 : (fs.getD i ⟨0, []⟩).data = fs[i].data := by simp [List.getD_eq_getElem?_getD, List.getElem?_eq_getElem hj]
      rw [e2]
      exact World.ownsRow.mono (World.ownsRow.kept hv s2 (own_other hv (fun r e => ot 5 r (by decide) e))) hB
    · rw [if_neg e]
      exact World.ownsRow.kept (c1.data i (by omega)) s2 (own_other (c1.data i (by omega)) (fun r e => ot 5 r (by decide) e))
  · by_cases e : k = j
    · subst e
      rw [if_pos rfl] at hb2
      rw [if_neg (by omega)] at hb1
      have h5 := (own_heap hv b hb2).1
      obtain ⟨cs, h6⟩ := (own_heap (h.data i hik) b hb1).2
      have := (Array.getElem?_eq_some_iff.1 h6).1
      omega
    · rw [if_neg e] at hb2
      rw [if_neg (by omega)] at hb1
      exact h.apart i k hik (by omega) b hb1 hb2
end Go.Proofs.Ytaanihmbnjjhcaa
