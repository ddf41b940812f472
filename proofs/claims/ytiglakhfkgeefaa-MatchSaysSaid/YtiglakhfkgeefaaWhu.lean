/-
What is proved here: lists of bytes put one behind the other in a row of the call's own. what Fresh finds, on lists; rows of bytes of the call's own, each in a block of its own. Fresh, by a contract. Fresh, by a contract. a call of Fresh that is not refused, and one that is, by contracts. what Match finds, without the document's own answer, and how it hangs together with what Fresh finds (on lists alone). the third pass of Match, and what is fresh, side by side (on lists alone).
-/
import Derived.Test.YtiglakhfkgeefaaCpm
import Derived.Test.YtiglakhfkgeefaaOpp
import Derived.Test.YtiglakhfkgeefaaAli
import Derived.Laws.IdiomStrings
import Derived.Test.YtiglakhfkgeefaaMok
import Derived.Test.YtiglakhfkgeefaaPm
set_option linter.unusedSimpArgs false
set_option linter.unusedVariables false
namespace Go.Proofs.Ytiglakhfkgeefaa
open Go.Pth Go.Tre Go.RowKit Go.Word Go.Shelf
def lcells (D : Nat → Value) (n : Nat) : List Value := (List.range n).map D
theorem lcells_len (D : Nat → Value) (n : Nat) : (lcells D n).length = n := by simp [lcells]
theorem lcells_at (D : Nat → Value) (n i : Nat) (h : i < n) : (lcells D n)[i]? = some (D i) := by simp [lcells, h]
theorem list_row {w : World} {LA : Option Addr} {ls : List Bt} (h : ListQ w LA ls) : ∃ D : Nat → Value, (∀ i (hi : i < ls.length), ∃ DA dc, D i = .slice DA ls[i].length dc ∧ BytesAt w DA ls[i]) ∧ ∀ ad, LA = some ad → ∀ j u, (lcells D ls.length)[j]? = some u → w.cell? (ad.add j) = some u := by
  have hc : ∀ i, ∃ v : Value, ∀ (hi : i < ls.length), ∃ DA dc, v = .slice DA ls[i].length dc ∧ BytesAt w DA ls[i] ∧ ∀ ad, LA = some ad → w.cell? (ad.add i) = some v := fun i => by
    by_cases hi : i < ls.length
    · obtain ⟨b, o, DA, dc, e, hl, h1, h3⟩ := h i hi
      refine ⟨.slice DA ls[i].length dc, fun _ => ⟨DA, dc, rfl, h3, fun ad ha => ?_⟩⟩
      rw [e] at ha
      injection ha with ha
      subst ha
      rw [Addr.add_mid]
      exact h1
    · exact ⟨undef, fun h => absurd h hi⟩
  have hD := fun i => Classical.choose_spec (hc i)
  refine ⟨fun i => Classical.choose (hc i), fun i hi => ?_, fun ad ha j u hj => ?_⟩
  · obtain ⟨DA, dc, e, h1, _⟩ := hD i hi
    exact ⟨DA, dc, e, h1⟩
  · have hl : j < ls.length := by have := (List.getElem?_eq_some_iff.1 hj).1; rwa [lcells_len] at this
    rw [lcells_at _ _ _ hl] at hj
    injection hj with hj
    subst hj
    obtain ⟨DA, dc, e, h1, h2⟩ := hD j hl
    exact h2 ad ha
theorem bts_info : (Try.prog.info? 47).map (fun i => (i.zero, i.size, i.bytes)) = some (some (.slice none 0 0), 1, 24) := by kernel_rfl
theorem run_app_lists (w : World) (B : Nat) (ty : TypeId) (v : Value) (n : Nat) (xs : List Value) (hv : w.ownsRow B 47 1 v n xs) (hB : B ≤ w.heap.size) (LA : Option Addr) (lc : Nat) (D : Nat → Value) (ls : List Bt) (hL : ListQ w LA ls)
    (hs : ∀ ad, LA = some ad → ∀ j u, (lcells D ls.length)[j]? = some u → w.cell? (ad.add j) = some u) (ho : ∀ i, i < ls.length → (D i).oneCell' = true) (hn : n ≤ 1000000) (hb : ls.length ≤ 1000000) :
    ∃ v' w', (Builtin.append_ #[26, 26] ty #[v, .slice LA ls.length lc]).run Try.prog w = .ok v' w' ∧ w'.ownsRow B 47 1 v' (n + ls.length) (xs ++ lcells D ls.length) ∧ w.grownBy w' v.ownBlock := by
  obtain ⟨i0, hi, hz0, hz1, hz2⟩ := info_parts bts_info
  cases LA with
  | none =>
    have hd0 : ls = [] := by
      cases ls with
      | nil => rfl
      | cons c t =>
        obtain ⟨b, o, DA, dc, e, _⟩ := hL 0 (by simp)
        cases e
    subst hd0
    refine ⟨v, w, run_append_none_cap w B 26 ty 47 i0 1 Try.underlying26 hi v n xs lc hv, ?_, ⟨rfl, rfl, rfl, Nat.le_refl _, fun _ _ _ => rfl⟩⟩
    simpa [lcells] using hv
  | some ad =>
    obtain ⟨v', w', h1, h2, h3, _⟩ := run_append_own (P := Try.prog) w B 26 ty 47 i0 _ 1 24 Try.underlying26 hi hz0 hz1 hz2 rfl (by decide) v n xs hv ad ls.length lc (lcells D ls.length) (by rw [lcells_len]; omega) (hs ad rfl) (fun u hu => by
      obtain ⟨j, hj, rfl⟩ := List.mem_map.1 hu
      exact ho j (by simpa using hj)) (by unfold maxLen; omega) (by omega) hB
    exact ⟨v', w', h1, h2, h3⟩
theorem listQ_of {w : World} {B n : Nat} {v : Value} {xs : List Value} {ls : List Bt} (h : w.ownsRow B 47 1 v n xs) (hn : n = ls.length) (hx : ∀ i (hi : i < ls.length), ∃ DA dc, xs[i]? = some (.slice DA ls[i].length dc) ∧ BytesAt w DA ls[i]) : ∃ C cc, v = .slice C n cc ∧ ListQ w C ls := by
  rcases h.2 with ⟨e, h0⟩ | ⟨g, cap, cur, e, hg, hb, _⟩
  · exact ⟨none, 0, by rw [e, h0], fun i hi => by omega⟩
  · subst e
    refine ⟨_, _, rfl, fun i hi => ?_⟩
    obtain ⟨DA, dc, e1, e2⟩ := hx i hi
    refine ⟨g, 0, DA, dc, rfl, (Array.getElem?_eq_some_iff.1 hb).1, ?_, e2⟩
    rw [Nat.zero_add, h.cellAt _ (by omega), e1]
theorem listQ_grown {w w' : World} {A : Option Addr} {ls : List Bt} (h : ListQ w A ls) (hg : w.grownBy w' none) : ListQ w' A ls := fun i hi => by
  have hc : ∀ {b : Nat} (j : Nat), b < w.heap.size → w'.cell? ⟨b, j, none⟩ = w.cell? ⟨b, j, none⟩ := fun j hb => World.cell?_of_block (a := ⟨_, j, none⟩) (hg.block _ hb (by simp))
  obtain ⟨b, o, DA, dc, e, hl, h1, h2⟩ := h i hi
  exact ⟨b, o, DA, dc, e, Nat.lt_of_lt_of_le hl hg.size, (hc _ hl).trans h1, fun j hj => by obtain ⟨b', o', e', hl', hc'⟩ := h2 j hj; exact ⟨b', o', e', Nat.lt_of_lt_of_le hl' hg.size, (hc _ hl').trans hc'⟩⟩
theorem bytesAt_same {w w' : World} {A : Option Addr} {l : Bt} (h : BytesAt w A l) {B : Nat} (hB : ∀ i, i < w.heap.size → w'.heap[i]? = w.heap[i]?) (hs : w.heap.size ≤ w'.heap.size) : BytesAt w' A l := fun i hi => by
  obtain ⟨b, o, e, hl, hc⟩ := h i hi
  exact ⟨b, o, e, Nat.lt_of_lt_of_le hl hs, (World.cell?_of_block (a := ⟨b, o + i, none⟩) (hB b hl)).trans hc⟩
/-- two lists, one behind the other, in two appends -/
theorem run_app_two (w : World) (ty : TypeId) (LA MA : Option Addr) (lc mc : Nat) (ls ms : List Bt) (hL : ListQ w LA ls) (hM : ListQ w MA ms) (h1 : ls.length ≤ 1000000) (h2 : ms.length ≤ 1000000) : ∃ D : Nat → Value, (∀ W, Below w.heap.size w W → ∃ v' w', (Builtin.append_ #[26, 26] ty #[.slice none 0 0, .slice LA ls.length lc]).run Try.prog W = .ok v' w' ∧ w'.ownsRow w.heap.size 47 1 v' ls.length (lcells D ls.length) ∧ W.grownBy w' none) ∧
    ∀ W v, Below w.heap.size w W → W.ownsRow w.heap.size 47 1 v ls.length (lcells D ls.length) → ∃ C cc w', (Builtin.append_ #[26, 26] ty #[v, .slice MA ms.length mc]).run Try.prog W = .ok (.slice C (ls.length + ms.length) cc) w' ∧ ListQ w' C (ls ++ ms) ∧ W.grownBy w' v.ownBlock := by
  obtain ⟨D, hD, hS⟩ := list_row hL
  obtain ⟨E, hE, hT⟩ := list_row hM
  have oD : ∀ i, i < ls.length → (D i).oneCell' = true := fun i hi => by obtain ⟨DA, dc, e, _⟩ := hD i hi; rw [e]; rfl
  have oE : ∀ i, i < ms.length → (E i).oneCell' = true := fun i hi => by obtain ⟨DA, dc, e, _⟩ := hE i hi; rw [e]; rfl
  refine ⟨D, fun W hb => ?_, fun W v hb hv => ?_⟩
  · obtain ⟨v', w', r1, r2, r3⟩ := run_app_lists W w.heap.size ty (.slice none 0 0) 0 [] (World.ownsRow_nil _ _ _ _) hb.size LA lc D ls (listQ_below hL hb) (fun ad ha j u hj => by
      have h0 := hS ad ha j u hj
      have hl : ad.block < w.heap.size := by
        have hj' : j < ls.length := by have := (List.getElem?_eq_some_iff.1 hj).1; rwa [lcells_len] at this
        obtain ⟨b, o, _, _, e, hl, _⟩ := hL j hj'
        rw [ha] at e
        injection e with e
        rw [e]
        exact hl
      exact (hb.cell (p := ad.add j) (by unfold Addr.add; split <;> exact hl)).trans h0) oD (by omega) h1
    exact ⟨v', w', r1, by simpa using r2, r3⟩
  · obtain ⟨v', w', r1, r2, r3⟩ := run_app_lists W w.heap.size ty v ls.length _ hv hb.size MA mc E ms (listQ_below hM hb) (fun ad ha j u hj => by
      have h0 := hT ad ha j u hj
      have hl : ad.block < w.heap.size := by
        have hj' : j < ms.length := by have := (List.getElem?_eq_some_iff.1 hj).1; rwa [lcells_len] at this
        obtain ⟨b, o, _, _, e, hl, _⟩ := hM j hj'
        rw [ha] at e
        injection e with e
        rw [e]
        exact hl
      exact (hb.cell (p := ad.add j) (by unfold Addr.add; split <;> exact hl)).trans h0) oE h1 h2
    have hk : ∀ i, i < w.heap.size → w'.heap[i]? = w.heap[i]? := fun i hi => (r3.block i (Nat.lt_of_lt_of_le hi hb.size) (fun e => by have := (own_heap hv i e.symm).1; omega)).trans (hb.block i hi)
    have hsz : w.heap.size ≤ w'.heap.size := Nat.le_trans hb.size r3.size
    obtain ⟨C, cc, e, hq⟩ := listQ_of (ls := ls ++ ms) r2 (by rw [List.length_append]) (fun i hi => by
      rw [List.length_append] at hi
      by_cases hi2 : i < ls.length
      · obtain ⟨DA, dc, e, hby⟩ := hD i hi2
        refine ⟨DA, dc, ?_, ?_⟩
        · rw [List.getElem?_append_left (by rw [lcells_len]; exact hi2), lcells_at _ _ _ hi2, e, List.getElem_append_left hi2]
        · rw [List.getElem_append_left hi2]
          exact bytesAt_same (B := 0) hby hk hsz
      · obtain ⟨DA, dc, e, hby⟩ := hE (i - ls.length) (by omega)
        refine ⟨DA, dc, ?_, ?_⟩
        · rw [List.getElem?_append_right (by rw [lcells_len]; omega), lcells_len, lcells_at _ _ _ (by omega), e, List.getElem_append_right (by omega)]
        · rw [List.getElem_append_right (by omega)]
          exact bytesAt_same (B := 0) hby hk hsz)
    subst e
    exact ⟨C, cc, w', r1, hq, r3⟩
end Go.Proofs.Ytiglakhfkgeefaa
set_option linter.unusedSimpArgs false
set_option linter.unusedVariables false
namespace Go.Mat
open Go.Pth Go.Tre
def setP (pre : List TxK) : Bt → Bool := pre.foldl (fun S k => fun x => x == k.1.2 || S x) (fun _ => false)
theorem setP_snoc (pre : List TxK) (k : TxK) : setP (pre ++ [k]) = fun x => x == k.1.2 || setP pre x := by unfold setP; rw [List.foldl_append]; rfl
abbrev Fst := (Bt → Bool) × List Bt
def frStep (st : Fst) (k : TxK) : Fst := if st.1 k.1.2 = true then st else (fun x => x == k.1.2 || st.1 x, st.2 ++ [k.1.2])
def frP (K0 : Bt → Bool) (pre : List TxK) : Fst := pre.foldl frStep (K0, [])
theorem frP_snoc (K0 : Bt → Bool) (pre : List TxK) (k : TxK) : frP K0 (pre ++ [k]) = frStep (frP K0 pre) k := by unfold frP; rw [List.foldl_append]; rfl
theorem frP_len (K0 : Bt → Bool) : ∀ (pre : List TxK), (frP K0 pre).2.length ≤ pre.length := by
  have key : ∀ (pre : List TxK) (st : Fst), (pre.foldl frStep st).2.length ≤ st.2.length + pre.length := by
    intro pre
    induction pre with
    | nil => intro st; simp
    | cons k r ih =>
      intro st
      rw [List.foldl_cons]
      have h := ih (frStep st k)
      have h2 : (frStep st k).2.length ≤ st.2.length + 1 := by
        unfold frStep
        split
        · omega
        · simp
      rw [List.length_cons]
      omega
  intro pre
  have := key pre (K0, [])
  simpa [frP] using this
/-- the contents of t that s has not -/
def freshL (sf tf : List Fl) : List Bt := (frP (setP (txL (sf.map Fl.data))) (txL (tf.map Fl.data))).2
end Go.Mat
namespace Go.Proofs.Ytiglakhfkgeefaa
open Go.Pth Go.Tre Go.RowKit Go.Word Go.Shelf Go.Mat
/-- bytes in a block of their own, from B on; the block may be longer -/
def BytO (W : World) (B : Nat) (v : Value) (l : Bt) : Prop := ∃ g C p cs, v = .slice (some ⟨g, 0, none⟩) l.length C ∧ B ≤ g ∧ W.heap[g]? = some (.cells cs 5 (p, p + 1)) ∧ l.length ≤ p ∧ ∀ j (h : j < l.length), cs[j]? = some (yB l[j])
theorem bytO_kept {W W' : World} {B : Nat} {v : Value} {l : Bt} {row : Option Nat} (h : BytO W B v l) (hg : W.grownBy W' row) (hr : ∀ r, row = some r → ∀ cs f, W.heap[r]? ≠ some (.cells cs 5 f)) : BytO W' B v l := by
  obtain ⟨g, C, p, cs, e, hB, hc, hp, hj⟩ := h
  exact ⟨g, C, p, cs, e, hB, (hg.block g (Array.getElem?_eq_some_iff.1 hc).1 (fun e => hr g e.symm _ _ hc)).trans hc, hp, hj⟩
theorem bytO_at {W : World} {B : Nat} {v : Value} {l : Bt} (h : BytO W B v l) : ∃ A C, v = .slice A l.length C ∧ BytesAt W A l := by
  obtain ⟨g, C, p, cs, e, hB, hc, hp, hj⟩ := h
  refine ⟨_, C, e, fun i hi => ⟨g, 0, rfl, (Array.getElem?_eq_some_iff.1 hc).1, ?_⟩⟩
  unfold World.cell?
  simp only [hc]
  simp [hj i hi, yB]
set_option maxRecDepth 100000 in
/-- the bytes of a text -/
theorem bytO_made (W : World) (B : Nat) (d : Bt) (hB : B ≤ W.heap.size) : ∃ C W', (convert 9 47 (St d)).run Try.prog W = .ok (.slice (some ⟨W.heap.size, 0, none⟩) d.length C) W' ∧ BytO W' B (.slice (some ⟨W.heap.size, 0, none⟩) d.length C) d ∧ W.grownBy W' none ∧ W'.heap.size = W.heap.size + 1 := by
  have hsz : (⟨d.toArray⟩ : ByteArray).size = d.length := by simp [ByteArray.size]
  have h := run_bytes_of_string (P := Try.prog) W 9 47 5 ⟨d.toArray⟩ Try.underlying9 Try.underlying47 Try.underlying5
  rw [hsz] at h
  refine ⟨_, _, h, ⟨W.heap.size, _, (bytesRow ⟨d.toArray⟩ (grownCap W d.length 0 5)).size, _, rfl, hB, heap_alloc_new W.drew _, ?_, fun j hj => ?_⟩, ⟨rfl, rfl, rfl, by simp, fun i hi _ => heap_alloc_old W.drew _ hi⟩, by simp⟩
  · simp [bytesRow]
  · unfold bytesRow
    rw [Array.getElem?_append_left (by simpa using hj)]
    simp [yB, hj]
/-- a row of bytes, each in a block of its own -/
def FrRow (W : World) (B : Nat) (v : Value) (out : List Bt) (D : Nat → Value) : Prop := W.ownsRow B 47 1 v out.length (lcells D out.length) ∧ (∀ i (h : i < out.length), BytO W B (D i) out[i]) ∧ ∀ i j, i < j → j < out.length → (D i).ownBlock ≠ (D j).ownBlock
section
variable {W W' : World} {B : Nat} {v : Value} {out : List Bt} {D : Nat → Value}
theorem frRow_kept {row : Option Nat} (h : FrRow W B v out D) (hg : W.grownBy W' row) (hr : ∀ r, row = some r → (∀ cs f, W.heap[r]? ≠ some (.cells cs 47 f)) ∧ ∀ cs f, W.heap[r]? ≠ some (.cells cs 5 f)) : FrRow W' B v out D := by
  refine ⟨h.1.kept hg ?_, fun i hi => bytO_kept (h.2.1 i hi) hg (fun r e => (hr r e).2), h.2.2⟩
  cases hv : v.ownBlock with
  | none => exact .inl rfl
  | some b =>
    refine .inr (fun e1 => ?_)
    obtain ⟨_, cs, h2⟩ := own_heap h.1 b hv
    exact (hr b e1.symm).1 _ _ h2
theorem frRow_mono {B' : Nat} (h : FrRow W B v out D) (hB : B' ≤ B) : FrRow W B' v out D :=
  ⟨h.1.mono hB, fun i hi => by obtain ⟨g, C, p, cs, e, hb, r⟩ := h.2.1 i hi; exact ⟨g, C, p, cs, e, Nat.le_trans hB hb, r⟩, h.2.2⟩
theorem frRow_listQ (h : FrRow W B v out D) : ∃ C cc, v = .slice C out.length cc ∧ ListQ W C out :=
  listQ_of h.1 rfl (fun i hi => by
    obtain ⟨A, C, e, hb⟩ := bytO_at (h.2.1 i hi)
    exact ⟨A, C, by rw [lcells_at _ _ _ hi, e], hb⟩)
set_option maxRecDepth 100000 in
/-- one row of bytes more -/
theorem frRow_snoc (h : FrRow W B v out D) {d : Bt} {vb : Value} (hb : BytO W B vb d) (hne : ∀ i, i < out.length → (D i).ownBlock ≠ vb.ownBlock) (hB : B ≤ W.heap.size) (hn : out.length ≤ 100000) : ∃ v' W2, (Builtin.append_ #[26, 26] 26 #[v, .slice (some ⟨W.heap.size, 0, none⟩) 1 1]).run Try.prog (W.alloc (.cells #[vb] 47)) = .ok v' W2 ∧
    FrRow W2 B v' (out ++ [d]) (fun i => if i = out.length then vb else D i) ∧ (W.alloc (.cells #[vb] 47)).grownBy W2 v.ownBlock ∧ ∀ b, v.ownBlock = some b → B ≤ b ∧ ∃ cs, W.heap[b]? = some (.cells cs 47 (0, 0)) := by
  obtain ⟨i0, hi, hz0, hz1, hz2⟩ := info_parts bts_info
  have g1 := World.grownBy_alloc W (.cells #[vb] 47) none
  have h1 := frRow_kept h g1 (fun r e => by cases e)
  have hb1 := bytO_kept hb g1 (fun r e => by cases e)
  have L := lies_new W 47 #[vb]
  have o1 : vb.oneCell' = true := by obtain ⟨g, C, p, cs, e, _⟩ := hb; rw [e]; rfl
  obtain ⟨v', W2, hr, ho, hg, _⟩ := run_append_own (P := Try.prog) (W.alloc (.cells #[vb] 47)) B 26 26 47 i0 _ 1 24 Try.underlying26 hi hz0 hz1 hz2 rfl (by decide) v out.length _ h1.1 ⟨W.heap.size, 0, none⟩ 1 1 [vb] rfl (fun q u hq => by
    match q, hq with
    | 0, hq => injection hq with hq; subst hq; exact lies_cell L 0
    | q + 1, hq => simp at hq) (fun u hu => by simp at hu; subst hu; exact o1) (by unfold maxLen; omega) (by omega) (by simp; omega)
  have hw : ∀ b, v.ownBlock = some b → B ≤ b ∧ ∃ cs, W.heap[b]? = some (.cells cs 47 (0, 0)) := fun b e => own_heap h.1 b e
  have hw1 : ∀ b, v.ownBlock = some b → ∀ cs f, (W.alloc (.cells #[vb] 47)).heap[b]? ≠ some (.cells cs 5 f) := fun b e cs f e2 => by
    obtain ⟨_, cs', e3⟩ := own_heap h1.1 b e
    rw [e3] at e2
    injection e2 with e2
    injection e2 with _ e2 _
    cases e2
  refine ⟨v', W2, hr, ⟨?_, fun i hi => ?_, fun i j hij hj => ?_⟩, hg, hw⟩
  · rw [List.length_append, List.length_singleton]
    have e : lcells (fun i => if i = out.length then vb else D i) (out.length + 1) = lcells D out.length ++ [vb] := by
      unfold lcells
      rw [List.range_succ, List.map_append]
      congr 1
      · refine List.map_congr_left (fun i hi => ?_)
        have := List.mem_range.1 hi
        rw [if_neg (by omega)]
      · simp
    rw [e]
    exact ho
  · by_cases e : i = out.length
    · subst e
      show BytO W2 B (if out.length = out.length then vb else D out.length) _
      rw [if_pos rfl, List.getElem_append_right (Nat.le_refl _)]
      simp only [Nat.sub_self, List.getElem_cons_zero]
      exact bytO_kept hb1 hg hw1
    · rw [List.length_append, List.length_singleton] at hi
      show BytO W2 B (if i = out.length then vb else D i) _
      rw [if_neg e, List.getElem_append_left (by omega)]
      exact bytO_kept (h1.2.1 i (by omega)) hg hw1
  · rw [List.length_append, List.length_singleton] at hj
    show (if i = out.length then vb else D i).ownBlock ≠ (if j = out.length then vb else D j).ownBlock
    rw [if_neg (by omega)]
    by_cases e : j = out.length
    · rw [if_pos e]
      exact hne i (by omega)
    · rw [if_neg e]
      exact h.2.2 i j hij (by omega)
end
end Go.Proofs.Ytiglakhfkgeefaa
set_option linter.unusedSimpArgs false
set_option linter.unusedVariables false
namespace Go.Proofs.Ytiglakhfkgeefaa
open Go.Pth Go.Tre Go.RowKit Go.Word Go.Shelf Go.Mat
attribute [local go_sem] Oper.semAt_some
/-- what the first loop keeps -/
structure FrI1 (w1 : World) (KB TB : Nat) (SV : Array Value) (pre : List TxK) (W : World) : Prop where
  st : SetAt W w1.heap.size pre.length (setP pre)
  kb : Lies W KB 75 #[.map (some w1.heap.size)]
  tb : Lies W TB 25 SV
  lo : Below w1.heap.size w1 W
theorem frI1_from {w1 : World} {KB TB B : Nat} {SV : Array Value} (hB : w1.heap.size < B) : OwnFrom B (FrI1 w1 KB TB SV) := fun s W W' row h hg hr =>
  ⟨set_kept h.st hg (fun e => by have := (hr _ e.symm).1; omega), lies_ownFrom h.kb hg hr, lies_ownFrom h.tb hg hr, h.lo.grown hg (Nat.le_of_lt (Nat.lt_of_le_of_lt (Nat.le_refl _) (by have := set_lt h.st; omega))) (fun k e => by have := (hr k e).1; omega)⟩
/-- what the second keeps -/
structure FrI2 (w1 : World) (KB TB FB D1 : Nat) (TV : Array Value) (K0 : Bt → Bool) (k0 : Nat) (pre : List TxK) (W : World) : Prop where
  st : SetAt W w1.heap.size (k0 + pre.length) (frP K0 pre).1
  kb : Lies W KB 75 #[.map (some w1.heap.size)]
  tb : Lies W TB 25 TV
  fb : ∃ v D, Lies W FB 26 #[v] ∧ FrRow W w1.heap.size v (frP K0 pre).2 D
  lo : Below w1.heap.size w1 W
  d1 : W.heap[D1]? = some (.deferred (some []))
theorem frI2_from {w1 : World} {KB TB FB D1 B : Nat} {TV : Array Value} {K0 : Bt → Bool} {k0 : Nat} (hB : w1.heap.size < B) (hD : D1 < B) : OwnFrom B (FrI2 w1 KB TB FB D1 TV K0 k0) := fun s W W' row h hg hr => by
  have hc : ∀ r, row = some r → ∀ cs t f, W.heap[r]? ≠ some (.cells cs t f) := fun r e cs t f e2 => by
    obtain ⟨_, o, ho, hc⟩ := hr r e
    rw [e2] at ho
    injection ho with ho
    subst ho
    cases hc
  obtain ⟨v, D, h1, h2⟩ := h.fb
  exact ⟨set_kept h.st hg (fun e => by have := (hr _ e.symm).1; omega), lies_ownFrom h.kb hg hr, lies_ownFrom h.tb hg hr,
    ⟨v, D, lies_ownFrom h1 hg hr, frRow_kept h2 hg (fun r e => ⟨fun cs f => hc r e cs 47 f, fun cs f => hc r e cs 5 f⟩)⟩,
    h.lo.grown hg (Nat.le_of_lt (by have := set_lt h.st; omega)) (fun k e => by have := (hr k e).1; omega),
    (hg.block D1 (Array.getElem?_eq_some_iff.1 h.d1).1 (fun e => by have := (hr D1 e.symm).1; omega)).trans h.d1⟩
/-- the blocks that the iterator wants as they were -/
def FrQ (w1 : World) (TB i : Nat) : Prop := i < w1.heap.size ∨ i = TB
theorem lies_off {W W' : World} {g t r : Nat} {cs : Array Value} (h : Lies W g t cs) (hg : W.grownBy W' (some r)) (hne : g ≠ r) : Lies W' g t cs := (hg.block g (lies_lt h) (fun e => hne (by injection e))).trans h
theorem lies_map {W : World} {g t b n : Nat} {cs : Array Value} {S : Bt → Bool} (h : Lies W g t cs) (hs : SetAt W b n S) : g ≠ b := fun e => by
  subst e
  obtain ⟨D, ⟨es, clock, h1, _⟩, _⟩ := hs
  rw [show _ = _ from h] at h1
  cases h1
/-- one text more in the set -/
theorem fr_round1 {w1 : World} {KB TB : Nat} {SV : Array Value} {pre : List TxK} {W : World} (h : FrI1 w1 KB TB SV pre W) (x : TxK) (hn : pre.length ≤ 1000) :
    ∃ w2, (Instr.mapUpdate 75 (.map (some w1.heap.size)) (St x.1.2) (.agg #[])).run Try.prog W = .ok () w2 ∧ FrI1 w1 KB TB SV (pre ++ [x]) w2 ∧ W.grownBy w2 (some w1.heap.size) := by
  obtain ⟨w2, hr, hs, hg⟩ := set_put h.st x.1.2 x.2.2 (by omega)
  refine ⟨w2, hr, ⟨?_, lies_off h.kb hg (lies_map h.kb h.st), lies_off h.tb hg (lies_map h.tb h.st), h.lo.grown hg (Nat.le_of_lt (set_lt h.st)) (fun k e => by injection e with e; omega)⟩, hg⟩
  rw [setP_snoc, List.length_append, List.length_singleton]
  exact hs
/-- one content more -/
theorem fr_round2 {w1 : World} {KB TB FB D1 : Nat} {TV : Array Value} {K0 : Bt → Bool} {k0 : Nat} {pre : List TxK} {W : World} (h : FrI2 w1 KB TB FB D1 TV K0 k0 pre W) (x : TxK) (hno : (frP K0 pre).1 x.1.2 = false) (hn : pre.length ≤ 1000) (hk : k0 ≤ 1000) (hFT : FB ≠ KB ∧ FB ≠ TB) (fw : w1.heap.size ≤ FB) :
    ∃ w2 C w3 v v' w5, (Instr.mapUpdate 75 (.map (some w1.heap.size)) (St x.1.2) (.agg #[])).run Try.prog (W.alloc (.cells #[] 76)) = .ok () w2 ∧ (convert 9 47 (St x.1.2)).run Try.prog w2 = .ok (.slice (some ⟨w2.heap.size, 0, none⟩) x.1.2.length C) w3 ∧
      w2.cell? ⟨FB, 0, none⟩ = some v ∧ (Builtin.append_ #[26, 26] 26 #[v, .slice (some ⟨w3.heap.size, 0, none⟩) 1 1]).run Try.prog (w3.alloc (.cells #[.slice (some ⟨w2.heap.size, 0, none⟩) x.1.2.length C] 47)) = .ok v' w5 ∧ w5.cell? ⟨FB, 0, none⟩ = some v ∧ w5.frozen? ⟨FB, 0, none⟩ = false ∧
      FrI2 w1 KB TB FB D1 TV K0 k0 (pre ++ [x]) (w5.setCell ⟨FB, 0, none⟩ v') ∧ (∀ i, i < W.heap.size → FrQ w1 TB i → (w5.setCell ⟨FB, 0, none⟩ v').heap[i]? = W.heap[i]?) ∧ W.heap.size ≤ (w5.setCell ⟨FB, 0, none⟩ v').heap.size ∧
      (∀ B, w1.heap.size < B → FB < B → KeepsFrom B W (w5.setCell ⟨FB, 0, none⟩ v')) ∧ ∃ A k C, v' = .slice A k C := by
  obtain ⟨v, D, hF, hR⟩ := h.fb
  have g0 := World.grownBy_alloc W (.cells #[] 76) none
  have s0 := set_kept h.st g0 (by simp)
  obtain ⟨w2, hr, hs, hg⟩ := set_put s0 x.1.2 x.2.2 (by omega)
  have k0' := lies_alloc h.kb (.cells #[] 76)
  have t0 := lies_alloc h.tb (.cells #[] 76)
  have f0 := lies_alloc hF (.cells #[] 76)
  have k2 := lies_off k0' hg (lies_map k0' s0)
  have t2 := lies_off t0 hg (lies_map t0 s0)
  have f2 := lies_off f0 hg (lies_map f0 s0)
  have r0 := frRow_kept hR g0 (fun r e => by cases e)
  have nm : ∀ cs t f, (W.alloc (.cells #[] 76)).heap[w1.heap.size]? ≠ some (.cells cs t f) := fun cs t f e => by
    obtain ⟨D', ⟨es, clock, h1, _⟩, _⟩ := s0
    rw [e] at h1
    cases h1
  have r2 := frRow_kept r0 hg (fun r e => by injection e with e; subst e; exact ⟨fun cs f => nm cs 47 f, fun cs f => nm cs 5 f⟩)
  have l0 := h.lo.grown g0 h.lo.size (fun k e => by cases e)
  have l2 := l0.grown hg l0.size (fun k e => by injection e with e; omega)
  obtain ⟨C, w3, hc, hb3, g3, z3⟩ := bytO_made w2 w1.heap.size x.1.2 l2.size
  have s3 := set_kept hs g3 (by simp)
  have k3 : Lies w3 KB 75 _ := (g3.block KB (lies_lt k2) (by simp)).trans k2
  have t3 : Lies w3 TB 25 _ := (g3.block TB (lies_lt t2) (by simp)).trans t2
  have f3 : Lies w3 FB 26 _ := (g3.block FB (lies_lt f2) (by simp)).trans f2
  have r3 := frRow_kept r2 g3 (fun r e => by cases e)
  have l3 := l2.grown g3 l2.size (fun k e => by cases e)
  obtain ⟨v', w5, ha, hr5, g5, hv⟩ := frRow_snoc r3 hb3 (fun i hi e => by
    obtain ⟨g, C', p, cs, e1, _, hc, _⟩ := r2.2.1 i hi
    rw [e1] at e
    have e : some g = some w2.heap.size := e
    injection e with e
    have := (Array.getElem?_eq_some_iff.1 hc).1
    omega) l3.size (by have := frP_len K0 pre; omega)
  have g4 := World.grownBy_alloc w3 (.cells #[.slice (some ⟨w2.heap.size, 0, none⟩) x.1.2.length C] 47) none
  have s4 := set_kept s3 g4 (by simp)
  have k4 := lies_alloc k3 (.cells #[.slice (some ⟨w2.heap.size, 0, none⟩) x.1.2.length C] 47)
  have t4 := lies_alloc t3 (.cells #[.slice (some ⟨w2.heap.size, 0, none⟩) x.1.2.length C] 47)
  have f4 := lies_alloc f3 (.cells #[.slice (some ⟨w2.heap.size, 0, none⟩) x.1.2.length C] 47)
  have l4 := l3.grown g4 l3.size (fun k e => by cases e)
  have hv4 : ∀ b, v.ownBlock = some b → w1.heap.size ≤ b ∧ ∃ cs, (w3.alloc (.cells #[.slice (some ⟨w2.heap.size, 0, none⟩) x.1.2.length C] 47)).heap[b]? = some (.cells cs 47 (0, 0)) := fun b e => by
    obtain ⟨a1, cs, a2⟩ := hv b e
    exact ⟨a1, cs, (g4.block b (Array.getElem?_eq_some_iff.1 a2).1 (by simp)).trans a2⟩
  have off : ∀ {g t cs}, Lies (w3.alloc (.cells #[.slice (some ⟨w2.heap.size, 0, none⟩) x.1.2.length C] 47)) g t cs → t ≠ 47 → Lies w5 g t cs := fun {g t cs} hl ht => (g5.block g (lies_lt hl) (fun e => by
    obtain ⟨_, cs', a2⟩ := hv4 g e.symm
    rw [show _ = _ from hl] at a2
    injection a2 with a2
    injection a2 with _ a2 _
    exact ht a2)).trans hl
  have s5 := set_kept s4 g5 (fun e => by
    obtain ⟨_, cs', a2⟩ := hv4 _ e.symm
    obtain ⟨D', ⟨es, clock, h1, _⟩, _⟩ := s4
    rw [a2] at h1
    cases h1)
  have k5 := off k4 (by decide)
  have t5 := off t4 (by decide)
  have f5 := off f4 (by decide)
  have l5 := l4.grown g5 l4.size (fun k e => (hv4 k e).1)
  have g6 : w5.grownBy (w5.setCell ⟨FB, 0, none⟩ v') (some FB) := grown_setCell w5 FB 0 v'
  have z4 : w3.heap.size ≤ (w3.alloc (.cells #[.slice (some ⟨w2.heap.size, 0, none⟩) x.1.2.length C] 47)).heap.size := g4.size
  have z2 := hg.size
  have z0 := g0.size
  have z3' := g3.size
  have ch : ∀ i, i < W.heap.size → i ≠ w1.heap.size → v.ownBlock ≠ some i → i ≠ FB → (w5.setCell ⟨FB, 0, none⟩ v').heap[i]? = W.heap[i]? := fun i hi h1 h2 h3 =>
    (g6.block i (Nat.lt_of_lt_of_le hi (by have := g5.size; omega)) (fun e => h3 (by injection e))).trans ((g5.block i (by omega) (fun e => h2 e.symm)).trans ((g4.block i (by omega) (by simp)).trans ((g3.block i (by omega) (by simp)).trans ((hg.block i (by omega) (fun e => h1 (by injection e))).trans (g0.block i hi (by simp))))))
  have ownW : ∀ i, v.ownBlock = some i → w1.heap.size ≤ i ∧ ∃ cs, W.heap[i]? = some (.cells cs 47 (0, 0)) := fun i e => own_heap hR.1 i e
  have zz : W.heap.size ≤ (w5.setCell ⟨FB, 0, none⟩ v').heap.size := by have := g5.size; have := g6.size; omega
  refine ⟨w2, C, w3, v, v', w5, hr, hc, lies_cell f2 0, ha, lies_cell f5 0, lies_free f5 0, ⟨?_, lies_off k5 g6 (Ne.symm hFT.1), lies_off t5 g6 (Ne.symm hFT.2), ⟨v', (fun i => if i = (frP K0 pre).2.length then .slice (some ⟨w2.heap.size, 0, none⟩) x.1.2.length C else D i), lies_set f5 0 v', ?_⟩, l5.grown g6 l5.size (fun k e => by injection e with e; omega), ?_⟩, fun i hi hq => ?_, zz, fun B hB1 hB2 => ⟨zz, fun k o hB hk hco => ?_⟩, by obtain ⟨A, C, e⟩ := own_slice hr5.1; exact ⟨A, _, C, e⟩⟩
  · rw [frP_snoc, List.length_append, List.length_singleton]
    unfold frStep
    rw [if_neg (by simp [hno])]
    exact set_kept s5 g6 (fun e => by injection e with e; exact lies_map f5 s5 e.symm)
  · rw [frP_snoc]
    unfold frStep
    rw [if_neg (by simp [hno])]
    refine frRow_kept hr5 g6 (fun r e => ?_)
    injection e with e
    subst e
    refine ⟨fun cs f e2 => ?_, fun cs f e2 => ?_⟩
    · rw [show _ = _ from f5] at e2
      injection e2 with e2
      injection e2 with _ e2 _
      cases e2
    · rw [show _ = _ from f5] at e2
      injection e2 with e2
      injection e2 with _ e2 _
      cases e2
  · refine (ch D1 (Array.getElem?_eq_some_iff.1 h.d1).1 (fun e => ?_) (fun e => ?_) (fun e => ?_)).trans h.d1
    · obtain ⟨D', ⟨es, clock, h1, _⟩, _⟩ := h.st
      rw [← e, h.d1] at h1
      cases h1
    · obtain ⟨_, cs, h1⟩ := ownW D1 e
      rw [h.d1] at h1
      cases h1
    · have := h.d1
      rw [e, show _ = _ from hF] at this
      cases this
  · rcases hq with hq | hq
    · exact ch i hi (by omega) (fun e => by have := (ownW i e).1; omega) (by omega)
    · subst hq
      refine ch i hi (lies_map h.tb h.st) (fun e => ?_) (Ne.symm hFT.2)
      obtain ⟨_, cs, h1⟩ := ownW i e
      rw [show _ = _ from h.tb] at h1
      injection h1 with h1
      injection h1 with _ h1 _
      cases h1
  · refine (ch k (Array.getElem?_eq_some_iff.1 hk).1 (by omega) (fun e => ?_) (by omega)).trans hk
    obtain ⟨_, cs, h1⟩ := ownW k e
    rw [hk] at h1
    injection h1 with h1
    subst h1
    cases hco
end Go.Proofs.Ytiglakhfkgeefaa
set_option linter.unusedSimpArgs false
set_option linter.unusedVariables false
namespace Go.Proofs.Ytiglakhfkgeefaa
open Go.Pth Go.Tre Go.RowKit Go.Word Go.Shelf Go.Mat
attribute [local go_sem] Oper.semAt_some
theorem wpListIn_app_run {F : Fence} {n : Nat} {P : Program} {Q : Exit → Act → World → Prop} {a : Act} {w w' : World} {ops : Array Oper} {rest : List Oper} {o : Oper} {u s v : Value} {t1 t2 : TypeId} (hgd : o.guard = none) (x y : Operand) (ho : o.op = .call { callee := .builtin .append, args := #[x, y], argTypes := #[t1, t2] }) (hx : a.eval x = u) (hy : a.eval y = s)
    (hab : o.about P w a.eval = none) (hr : (Builtin.append_ #[t1, t2] o.type #[u, s]).run P w = .ok v w') (h : wpListIn F n P ops Q rest (a.put o.dst v) w') : wpListIn F n P ops Q (o :: rest) a w := by
  refine wpListIn_plain hgd fun K hK => ?_
  exact wpIn_turnv (v := v) (w' := w') (fun c h => by rw [ho] at h; cases h) hab (app_op x y ho hx hy hr) (hK _ _ h)
set_option maxRecDepth 100000 in
set_option maxHeartbeats 8000000 in
theorem fresh_in (n : Nat) (hn : 6 ≤ n) (NS FS NT FT : Option Addr) (ns fs nt ft : Nat) (sn tn : List Nd) (sf tf : List Fl) (w : World) (hNS : NodesAt w NS sn) (hFS : FilesAt w FS sf) (hNT : NodesAt w NT tn) (hFT : FilesAt w FT tf)
    (hp : ∀ x ∈ sn, x.path.length ≤ 100000) (hq : ∀ x ∈ tn, x.path.length ≤ 100000) (hok : pairE sn sf tn tf = 0 → (sf.length ≤ 1000 ∧ ∀ x ∈ sf, x.data.length ≤ 100000) ∧ tf.length ≤ 1000 ∧ ∀ x ∈ tf, x.data.length ≤ 100000) :
    CallsIn .wide n Try.prog 14 #[.agg #[.slice NS sn.length ns, .slice FS sf.length fs], .agg #[.slice NT tn.length nt, .slice FT tf.length ft]] w fun e W => ∃ v, e = .returned (.tuple #[v, .int .i64 (pairE sn sf tn tf)]) ∧
      (pairE sn sf tn tf ≠ 0 → v = .slice none 0 0) ∧ (pairE sn sf tn tf = 0 → ∃ D, FrRow W w.heap.size v (freshL sf tf) D) ∧ Below w.heap.size w W := by
  have h1 : 1 ≤ n := by omega
  refine callsIn_of_wp_marks Try.func14 rfl trivial ?_ rfl
  simp only [Try.ntmps14, List.size_toArray, List.length_cons, List.length_nil, Nat.reduceAdd, Nat.reduceSub, Array.replicate_succ, Array.replicate_zero, List.push_toArray, List.append_toArray, List.nil_append, List.cons_append]
  have hmm := @run_makeMap Try.prog
  have B0 : Below w.heap.size w ((w.alloc (.cells #[.slice NS sn.length ns, .slice FS sf.length fs] 25)).alloc (.cells #[.slice NT tn.length nt, .slice FT tf.length ft] 25)) := ((Below.refl _ _).alloc (Nat.le_refl _) _).alloc (by simp) _
  have L0 := lies_alloc (lies_new w 25 #[.slice NS sn.length ns, .slice FS sf.length fs]) (.cells #[.slice NT tn.length nt, .slice FT tf.length ft] 25)
  have L1 := lies_new (w.alloc (.cells #[.slice NS sn.length ns, .slice FS sf.length fs] 25)) 25 #[.slice NT tn.length nt, .slice FT tf.length ft]
  rw [World.size_alloc] at L1
  have Z0 : ((w.alloc (.cells #[.slice NS sn.length ns, .slice FS sf.length fs] 25)).alloc (.cells #[.slice NT tn.length nt, .slice FT tf.length ft] 25)).heap.size = w.heap.size + 2 := by simp
  have K1 := Lib.hid (fun (W : World) (h : Below w.heap.size w W) => pcheck_any NS FS NT FT ns fs nt ft sn tn sf tf W (nodesAt_below hNS h) (filesAt_below hFS h) (nodesAt_below hNT h) (filesAt_below hFT h) hp hq)
  have OK := Lib.hid hok
  obtain ⟨E1, hE1⟩ : ∃ E1, E1 = pairE sn sf tn tf := ⟨_, rfl⟩
  rw [← hE1] at OK
  rw [show (if checkE sn sf = 0 then checkE tn tf else checkE sn sf) = E1 from hE1.symm] at K1
  rw [← hE1]
  have QS := Lib.hid (filesQ_of (Q := fun i => i < w.heap.size) hFS (fun i hi => hi))
  have QT := Lib.hid (filesQ_of (Q := fun i => i < w.heap.size) hFT (fun i hi => hi))
  obtain ⟨xs, hxs⟩ : ∃ xs, xs = sn.length := ⟨_, rfl⟩
  obtain ⟨ys, hys⟩ : ∃ ys, ys = sf.length := ⟨_, rfl⟩
  obtain ⟨xt, hxt⟩ : ∃ xt, xt = tn.length := ⟨_, rfl⟩
  obtain ⟨yt, hyt⟩ : ∃ yt, yt = tf.length := ⟨_, rfl⟩
  rw [← hxs, ← hys, ← hxt, ← hyt] at K1
  rw [← hxs, ← hys, ← hxt, ← hyt] at B0 L0 L1 Z0 ⊢
  have YS := Lib.hid hys
  have YT := Lib.hid hyt
  clear hNS hFS hNT hFT hp hq hok hE1 hxs hys hxt hyt
  have R0 := Lib.hid (lies_range L0)
  have R1 := Lib.hid (lies_range L1)
  replace B0 := Lib.hid B0
  replace L0 := Lib.hid L0
  replace L1 := Lib.hid L1
  replace Z0 := Lib.hid Z0
  gi_upto_region 2 with (first
    | (refine wpListIn_load_mid rfl 25 _ rfl w.heap.size 0 rfl [.slice NS xs ns, .slice FS ys fs] _ R0.out Try.underlying25 rfl (by kernel_rfl) ?_)
    | (refine wpListIn_load_mid rfl 25 _ rfl (w.heap.size + 1) 0 rfl [.slice NT xt nt, .slice FT yt ft] _ R1.out Try.underlying25 rfl (by kernel_rfl) ?_)
    | (refine ⟨trivial, ?_⟩; gi_at_call 30; refine (callsIn_wide.2 (K1.out _ B0.out)).mono ?_; rintro e w1 ⟨rfl, hb⟩; have LL0 := Lib.hid (lies_below L0.out hb (lies_lt L0.out)); have LL1 := Lib.hid (lies_below L1.out hb (lies_lt L1.out)); have B1 := Lib.hid (B0.out.trans (hb.mono B0.out.size)); have H1 := Lib.hid hb.size; clear hb))
  by_cases hz1 : E1 = 0
  · subst hz1
    obtain ⟨⟨oS1, oS2⟩, oT1, oT2⟩ := OK.out rfl
    have R2 := Lib.hid (lies_range LL0.out)
    have Z2 : w.heap.size + 2 ≤ w1.heap.size := by have := H1.out; have := Z0.out; omega
    gi_upto_region 5 with (fail)
    have S0 := set_kept (set_made w1) (World.grownBy_alloc (w1.alloc (.map #[] 0)) (.cells #[.map (some w1.heap.size)] 75) none) (by simp)
    have KB0 := lies_new (w1.alloc (.map #[] 0)) 75 #[.map (some w1.heap.size)]
    rw [World.size_alloc] at KB0
    have BX0 : Below w1.heap.size w1 ((w1.alloc (.map #[] 0)).alloc (.cells #[.map (some w1.heap.size)] 75)) := ((Below.refl _ _).alloc (Nat.le_refl _) _).alloc (by simp) _
    have ZX0 : ((w1.alloc (.map #[] 0)).alloc (.cells #[.map (some w1.heap.size)] 75)).heap.size = w1.heap.size + 2 := by simp
    generalize (w1.alloc (.map #[] 0)).alloc (.cells #[.map (some w1.heap.size)] 75) = X0 at *
    have R3 := Lib.hid (lies_range (lies_below LL0.out BX0 (lies_lt LL0.out)))
    replace S0 := Lib.hid S0
    replace KB0 := Lib.hid KB0
    replace BX0 := Lib.hid BX0
    replace ZX0 := Lib.hid ZX0
    gi_wp2_with (first
      | (refine wpListIn_load_mid rfl 25 _ rfl w.heap.size 0 rfl [.slice NS xs ns, .slice FS ys fs] _ R3.out Try.underlying25 rfl (by kernel_rfl) ?_)
      | (refine ⟨trivial, ?_⟩; gi_at_call 33; refine (texts_in (n - 1) _ _ _).mono ?_; rintro e w' ⟨rfl, rfl⟩))
    obtain ⟨TB, hTB⟩ : ∃ TB, TB = X0.heap.size := ⟨_, rfl⟩
    have LT := lies_new X0 25 #[.slice NS xs ns, .slice FS ys fs]
    have gX := World.grownBy_alloc X0 (.cells #[.slice NS xs ns, .slice FS ys fs] 25) none
    have II : FrI1 w1 (w1.heap.size + 1) TB #[.slice NS xs ns, .slice FS ys fs] [] (X0.alloc (.cells #[.slice NS xs ns, .slice FS ys fs] 25)) :=
      ⟨set_kept S0.out gX (by simp), (gX.block _ (lies_lt KB0.out) (by simp)).trans KB0.out, by rw [hTB]; exact LT, BX0.out.grown gX BX0.out.size (fun k e => by cases e)⟩
    have zX : (X0.alloc (.cells #[.slice NS xs ns, .slice FS ys fs] 25)).heap.size = w1.heap.size + 3 := by simp; have := ZX0.out; omega
    have bX : Below w.heap.size w (X0.alloc (.cells #[.slice NS xs ns, .slice FS ys fs] 25)) := B1.out.trans (II.lo.mono B1.out.size)
    have lt1 : w.heap.size < w1.heap.size := by omega
    have FX2 : FilesQ (X0.alloc (.cells #[.slice NS xs ns, .slice FS ys fs] 25)) (fun i => i < w.heap.size) FS sf := filesQ_same QS.out (fun i hi => bX.block i hi)
    have FX3 : FilesQ (X0.alloc (.cells #[.slice NS xs ns, .slice FS ys fs] 25)) (FrQ w1 TB) FS sf := fun i hi => by
      obtain ⟨b, o, DA, dc, e, hl, h1, h2, h3⟩ := FX2 i hi
      exact ⟨b, o, DA, dc, e, .inl (Nat.lt_trans hl lt1), h1, h2, fun j hj => by obtain ⟨b', o', e', hl', hc'⟩ := h3 j hj; exact ⟨b', o', e', .inl (Nat.lt_trans hl' lt1), hc'⟩⟩
    have TBe : TB = w1.heap.size + 2 := by rw [hTB]; exact ZX0.out
    have hs1 : (X0.alloc (.cells #[.slice NS xs ns, .slice FS ys fs] 25)).cell? ⟨TB, 1, none⟩ = some (.slice FS sf.length fs) := by rw [← YS.out]; exact lies_cell II.tb 1
    rw [← hTB]
    clear hTB
    generalize X0.alloc (.cells #[.slice NS xs ns, .slice FS ys fs] 25) = X at *
    clear FX2 gX LT S0 KB0 BX0 ZX0 R3
    have II2 := Lib.hid II
    have fqlt : ∀ i, FrQ w1 TB i → i < w1.heap.size + 3 := fun i hi => by rcases hi with hi | hi <;> omega
    replace TBe := Lib.hid TBe
    refine wpIn_rangeFunc_ownG rfl h1 (gf := 52) (lb := #[.pointer (some ⟨TB, 0, none⟩)]) rfl trivial (enters_of Try.func52 (by kernel_rfl) rfl)
      (texts_stops (n - 1) (by omega) sf oS2 oS1 TB (FrQ w1 TB) FS fs X hs1 (.inr rfl) (fun i hi => by rw [zX]; exact fqlt i hi) FX3) kq_t (kq_b (fun i hi => by rw [zX]; exact fqlt i hi)) (Below.refl _ _) (fun _ => rfl)
      (FrI1 w1 (w1.heap.size + 1) TB #[.slice NS xs ns, .slice FS ys fs]) (fun _ _ _ => False) (by rw [zX]; exact frI1_from (by omega)) (fun _ _ _ _ _ hs _ _ => hs) II2.out
      (fun x => { tmps := #[.agg #[.slice NS xs ns, .slice FS ys fs], .agg #[.slice NT xt nt, .slice FT yt ft], .pointer (some ⟨w.heap.size, 0, none⟩), .pointer (some ⟨w.heap.size + 1, 0, none⟩), .slice none 0 0, .int .i64 0, .int .i64 0, .pointer (some ⟨w1.heap.size + 1, 0, none⟩), undef, St x.1.2, undef, undef, undef, undef, undef, .agg #[.slice NS xs ns, .slice FS ys fs], .agg #[.slice NT xt nt, .slice FT yt ft], .int .i64 0, .int .i64 0, .bool false, undef, .map (some w1.heap.size), .agg #[.slice NS xs ns, .slice FS ys fs], .func (.func 52) #[] #[.pointer (some ⟨TB, 0, none⟩)], .int .i64 (x.1.1 : Int), St x.1.2, undef, undef, undef, undef, undef, undef, undef, undef, undef, undef, undef, undef, undef, undef, undef, undef, undef, undef, undef, undef, undef, undef, undef], defers := [] })
      ?assign ?body ?done ?stop
    case assign =>
      intro l x W K hK
      dsimp only [encX]
      gi_wp2
      exact hK
    case body =>
      rintro lp pre x W hI hlt
      rw [zX]
      obtain ⟨w2, hup, hI2, hg2⟩ := fr_round1 hI x (by omega)
      have kb := lies_cell hI.kb 0
      simp only [List.getElem?_toArray, List.getElem?_cons_zero] at kb
      have HE := Lib.hid (show KeepsFrom (w1.heap.size + 3) W w2 ∧ KQ (FrQ w1 TB) W w2 ∧ FrI1 w1 (w1.heap.size + 1) TB #[.slice NS xs ns, .slice FS ys fs] (pre ++ [x]) w2 from
        ⟨KeepsFrom.of_grownBy hg2 (fun j e => by injection e with e; omega), ⟨fun i hi => by
          rcases hi with hi | hi
          · have hb := hI.lo.block i hi
            have hb2 := hI2.lo.block i hi
            rw [hb, hb2]
          · subst hi
            have := hI2.tb
            unfold Lies at this
            rw [this]
            exact hI.tb.symm, hg2.size⟩, hI2⟩)
      clear II FX3 hI hI2 hg2 hs1
      gi_wp2
      exact HE.out
    case stop =>
      rintro D c pre W _ _ h _
      exact h.elim
    case done =>
      rintro D1 ys1 W hD1 rfl hI hK1
      have tl := lies_below LL1.out hI.lo (lies_lt LL1.out)
      have R4 := Lib.hid (lies_range tl)
      have gA := World.grownBy_alloc W (.cells #[.slice none 0 0] 26) none
      have hl2 := lies_alloc tl (.cells #[.slice none 0 0] 26)
      have R5 := Lib.hid (lies_range hl2)
      have gB := World.grownBy_alloc (W.alloc (.cells #[.slice none 0 0] 26)) (.cells #[.slice NT xt nt, .slice FT yt ft] 25) none
      have LT2 := lies_new (W.alloc (.cells #[.slice none 0 0] 26)) 25 #[.slice NT xt nt, .slice FT yt ft]
      have LF2 := lies_alloc (lies_new W 26 #[.slice none 0 0]) (.cells #[.slice NT xt nt, .slice FT yt ft] 25)
      rw [World.size_alloc] at LT2
      obtain ⟨k0, hk0⟩ : ∃ k0, k0 = (txL (sf.map Fl.data)).length := ⟨_, rfl⟩
      have k0B : k0 ≤ 1000 := by rw [hk0]; unfold txL; rw [txTo_len, List.length_map]; exact oS1
      have lt2 : w1.heap.size < W.heap.size := set_lt hI.st
      have dlt := (Array.getElem?_eq_some_iff.1 hK1).1
      obtain ⟨FB, hFB⟩ : ∃ FB, FB = W.heap.size := ⟨_, rfl⟩
      rw [← hFB] at LF2
      have I2 : FrI2 w1 (w1.heap.size + 1) (FB + 1) FB D1 #[.slice NT xt nt, .slice FT yt ft] (setP (txL (sf.map Fl.data))) k0 [] ((W.alloc (.cells #[.slice none 0 0] 26)).alloc (.cells #[.slice NT xt nt, .slice FT yt ft] 25)) :=
        ⟨by rw [hk0]; exact set_kept (set_kept hI.st gA (by simp)) gB (by simp), lies_alloc (lies_alloc hI.kb _) _, by rw [hFB]; exact LT2, ⟨_, fun _ => undef, LF2, World.ownsRow_nil _ _ _ _, fun i hi => absurd hi (Nat.not_lt_zero _), fun i j _ hj => absurd hj (Nat.not_lt_zero _)⟩,
          (hI.lo.grown gA hI.lo.size (fun k e => by cases e)).grown gB (Nat.le_trans hI.lo.size gA.size) (fun k e => by cases e), (gB.block D1 (by simp; omega) (by simp)).trans ((gA.block D1 dlt (by simp)).trans hK1)⟩
      have zY : ((W.alloc (.cells #[.slice none 0 0] 26)).alloc (.cells #[.slice NT xt nt, .slice FT yt ft] 25)).heap.size = FB + 2 := by simp; omega
      have fb1 : w1.heap.size < FB := by omega
      have d1B : D1 < FB + 2 := by omega
      have bY : Below w.heap.size w ((W.alloc (.cells #[.slice none 0 0] 26)).alloc (.cells #[.slice NT xt nt, .slice FT yt ft] 25)) := B1.out.trans (I2.lo.mono B1.out.size)
      have FY2 : FilesQ ((W.alloc (.cells #[.slice none 0 0] 26)).alloc (.cells #[.slice NT xt nt, .slice FT yt ft] 25)) (fun i => i < w.heap.size) FT tf := filesQ_same QT.out (fun i hi => bY.block i hi)
      have FY3 : FilesQ ((W.alloc (.cells #[.slice none 0 0] 26)).alloc (.cells #[.slice NT xt nt, .slice FT yt ft] 25)) (FrQ w1 (FB + 1)) FT tf := fun i hi => by
        obtain ⟨b, o, DA, dc, e, hl, h1, h2, h3⟩ := FY2 i hi
        exact ⟨b, o, DA, dc, e, .inl (Nat.lt_trans hl lt1), h1, h2, fun j hj => by obtain ⟨b', o', e', hl', hc'⟩ := h3 j hj; exact ⟨b', o', e', .inl (Nat.lt_trans hl' lt1), hc'⟩⟩
      have hs2 : ((W.alloc (.cells #[.slice none 0 0] 26)).alloc (.cells #[.slice NT xt nt, .slice FT yt ft] 25)).cell? ⟨FB + 1, 1, none⟩ = some (.slice FT tf.length ft) := by rw [← YT.out]; exact lies_cell I2.tb 1
      have fq2 : ∀ i, FrQ w1 (FB + 1) i → i < FB + 2 := fun i hi => by rcases hi with hi | hi <;> omega
      replace I2 := Lib.hid I2
      replace FY3 := Lib.hid FY3
      replace hs2 := Lib.hid hs2
      replace zY := Lib.hid zY
      replace hFB := Lib.hid hFB
      clear II FX3 hs1 hI gA gB LT2 LF2 hl2 tl FY2 bY hk0 dlt lt2
      gi_wp2_with (first
        | (refine wpListIn_load_mid rfl 25 _ rfl (w.heap.size + 1) 0 rfl [.slice NT xt nt, .slice FT yt ft] _ R5.out Try.underlying25 rfl (by kernel_rfl) ?_)
        | (refine ⟨trivial, ?_⟩; gi_at_call 33; refine (texts_in (n - 1) _ _ _).mono ?_; rintro e w' ⟨rfl, rfl⟩))
      rw [← hFB.out]
      clear R4 R5
      generalize (W.alloc (.cells #[.slice none 0 0] 26)).alloc (.cells #[.slice NT xt nt, .slice FT yt ft] 25) = Y at *
      refine wpIn_rangeFunc_ownG rfl h1 (gf := 52) (lb := #[.pointer (some ⟨FB + 1, 0, none⟩)]) rfl trivial (enters_of Try.func52 (by kernel_rfl) rfl)
        (texts_stops (n - 1) (by omega) tf oT2 oT1 (FB + 1) (FrQ w1 (FB + 1)) FT ft Y hs2.out (.inr rfl) (fun i hi => by rw [zY.out]; exact fq2 i hi) FY3.out) kq_t (kq_b (fun i hi => by rw [zY.out]; exact fq2 i hi)) (Below.refl _ _) (fun _ => rfl)
        (FrI2 w1 (w1.heap.size + 1) (FB + 1) FB D1 #[.slice NT xt nt, .slice FT yt ft] (setP (txL (sf.map Fl.data))) k0) (fun _ _ _ => False) (by rw [zY.out]; exact frI2_from (by omega) d1B) (fun _ _ _ _ _ hs _ _ => hs) I2.out
        (fun x => { tmps := #[.agg #[.slice NS xs ns, .slice FS ys fs], .agg #[.slice NT xt nt, .slice FT yt ft], .pointer (some ⟨w.heap.size, 0, none⟩), .pointer (some ⟨w.heap.size + 1, 0, none⟩), .slice none 0 0, .int .i64 0, .int .i64 0, .pointer (some ⟨w1.heap.size + 1, 0, none⟩), undef, undef, .pointer (some ⟨FB, 0, none⟩), undef, St x.1.2, undef, undef, .agg #[.slice NS xs ns, .slice FS ys fs], .agg #[.slice NT xt nt, .slice FT yt ft], .int .i64 0, .int .i64 0, .bool false, undef, .map (some w1.heap.size), .agg #[.slice NS xs ns, .slice FS ys fs], .func (.func 52) #[] #[.pointer (some ⟨TB, 0, none⟩)], undef, undef, undef, undef, undef, .agg #[.slice NT xt nt, .slice FT yt ft], .func (.func 52) #[] #[.pointer (some ⟨FB + 1, 0, none⟩)], .int .i64 (x.1.1 : Int), St x.1.2, undef, undef, undef, undef, undef, undef, undef, undef, undef, undef, undef, undef, undef, undef, undef, undef], defers := [] })
        ?assign ?body ?done ?stop
      case assign =>
        intro l x W K hK
        dsimp only [encX]
        gi_wp2
        exact hK
      case stop =>
        rintro D c pre W _ _ h _
        exact h.elim
      case body =>
        rintro lp pre x V hI hlt
        rw [zY.out]
        have kb := lies_cell hI.kb 0
        simp only [List.getElem?_toArray, List.getElem?_cons_zero] at kb
        have lk := set_look hI.st x.1.2 x.2.2
        cases hno : (frP (setP (txL (sf.map Fl.data))) pre).1 x.1.2 with
        | true =>
          rw [hno] at lk
          have gV := World.grownBy_alloc V (.cells #[] 76) none
          have HE := Lib.hid (show KeepsFrom (FB + 2) V (V.alloc (.cells #[] 76)) ∧ KQ (FrQ w1 (FB + 1)) V (V.alloc (.cells #[] 76)) ∧ FrI2 w1 (w1.heap.size + 1) (FB + 1) FB D1 #[.slice NT xt nt, .slice FT yt ft] (setP (txL (sf.map Fl.data))) k0 (pre ++ [x]) (V.alloc (.cells #[] 76)) from by
            refine ⟨KeepsFrom.of_grownBy gV (fun j e => by cases e), ⟨fun i hi => gV.block i ?_ (by simp), gV.size⟩, ?_⟩
            · rcases hi with hi | hi
              · have := hI.lo.size; omega
              · subst hi; exact lies_lt hI.tb
            · have e1 : frP (setP (txL (sf.map Fl.data))) (pre ++ [x]) = frP (setP (txL (sf.map Fl.data))) pre := by
                rw [frP_snoc]
                unfold frStep
                rw [if_pos hno]
              obtain ⟨v, D, h1, h2⟩ := hI.fb
              exact ⟨by rw [e1]; exact set_mono (set_kept hI.st gV (by simp)) (by rw [List.length_append]; omega), lies_alloc hI.kb _, lies_alloc hI.tb _, ⟨v, D, lies_alloc h1 _, by rw [e1]; exact frRow_kept h2 gV (fun r e => by cases e)⟩, hI.lo.grown gV hI.lo.size (fun k e => by cases e), (gV.block D1 (Array.getElem?_eq_some_iff.1 hI.d1).1 (by simp)).trans hI.d1⟩)
          clear hI hno
          gi_wp2
          exact HE.out
        | false =>
          rw [hno] at lk
          have plen : pre.length ≤ 1000 := by omega
          obtain ⟨w2, C, w3, v, v', w5, hup, hcv, hc2, hap, hc5, hz5, hI5, hq5, hs5, hk5, A', k', C', rfl⟩ := fr_round2 hI x hno plen k0B ⟨by omega, by omega⟩ (by omega)
          have kb1 : (V.alloc (.cells #[] 76)).cell? ⟨w1.heap.size + 1, 0, none⟩ = some (.map (some w1.heap.size)) := by
            have := lies_cell (lies_alloc hI.kb (.cells #[] 76)) 0
            simpa using this
          have hc3 : w2.cell? ⟨FB, 0, none⟩ = some v := hc2
          have HE := Lib.hid (show KeepsFrom (FB + 2) V (w5.setCell ⟨FB, 0, none⟩ (.slice A' k' C')) ∧ KQ (FrQ w1 (FB + 1)) V (w5.setCell ⟨FB, 0, none⟩ (.slice A' k' C')) ∧ FrI2 w1 (w1.heap.size + 1) (FB + 1) FB D1 #[.slice NT xt nt, .slice FT yt ft] (setP (txL (sf.map Fl.data))) k0 (pre ++ [x]) (w5.setCell ⟨FB, 0, none⟩ (.slice A' k' C')) from
            ⟨hk5 (FB + 2) (by omega) (by omega), ⟨fun i hi => hq5 i (by
              rcases hi with hi | hi
              · have := hI.lo.size; omega
              · subst hi; exact lies_lt hI.tb) hi, hs5⟩, hI5⟩)
          clear hI hno hI5 hq5 hs5 hk5 hc2
          gi_wp2_with (refine wpListIn_app_run (u := v) (s := .slice (some ⟨w3.heap.size, 0, none⟩) 1 1) (t1 := 26) (t2 := 26) rfl (.tmp 43) (.tmp 46) rfl rfl rfl rfl hap ?_)
          exact HE.out
      case done =>
        rintro D2 ys2 V hD2 rfl hI hK2
        rw [zY.out] at hD2
        obtain ⟨v, D, hv, hR⟩ := hI.fb
        have hcv := lies_cell hv 0
        simp only [List.getElem?_toArray, List.getElem?_cons_zero] at hcv
        have hDD : D1 ≠ D2 := by omega
        have gP := grownBy_putObj' V D2 (.deferred none)
        have q1 : (V.putObj D2 (.deferred none)).heap[D1]? = some (.deferred (some [])) := (gP.block D1 (Array.getElem?_eq_some_iff.1 hI.d1).1 (fun e => by injection e with e; exact hDD e)).trans hI.d1
        have gR := grownBy_putObj' (V.putObj D2 (.deferred none)) D1 (.deferred none)
        have R1' := frRow_kept hR gP (fun r e => by injection e with e; subst e; exact ⟨fun cs f h => (by rw [hK2] at h; cases h), fun cs f h => (by rw [hK2] at h; cases h)⟩)
        have R2' := frRow_kept R1' gR (fun r e => by injection e with e; subst e; exact ⟨fun cs f h => (by rw [q1] at h; cases h), fun cs f h => (by rw [q1] at h; cases h)⟩)
        have L1' := hI.lo.grown gP hI.lo.size (fun k e => by injection e with e; omega)
        have L2' := L1'.grown gR L1'.size (fun k e => by injection e with e; rw [zX] at hD1; omega)
        have FIN := Lib.hid (show (∃ D, FrRow ((V.putObj D2 (.deferred none)).putObj D1 (.deferred none)) w.heap.size v (freshL sf tf) D) ∧ Below w.heap.size w ((V.putObj D2 (.deferred none)).putObj D1 (.deferred none)) from
          ⟨⟨D, frRow_mono R2' (by omega)⟩, B1.out.trans (L2'.mono B1.out.size)⟩)
        clear hI hR R1' R2' L1' L2' gP gR hv
        gi_wp2
        refine ⟨by simp, .inl ⟨_, _, rfl, run_takeDeferred hK2, ?_⟩⟩
        refine ⟨by simp, .inl ⟨_, _, rfl, run_takeDeferred q1, ?_⟩⟩
        first
          | exact ⟨.tuple #[v, .int .i64 0], by simp [results, Try.f14, go_sem], v, rfl, fun h => absurd rfl h, fun _ => FIN.out.1, FIN.out.2⟩
          | exact ⟨.tuple #[v, .int .i64 0], by simp [results, Try.f14, go_sem], v, rfl, FIN.out.1, FIN.out.2⟩
  · have hE : (E1 != 0) = true := by simpa using hz1
    have hE2 : (E1 == 0) = false := by simpa using hz1
    gi_wp2
    exact ⟨.tuple #[.slice none 0 0, .int .i64 E1], by simp [results, Try.f14, go_sem], .slice none 0 0, rfl, fun _ => rfl, fun h => absurd h hz1, B1.out⟩
end Go.Proofs.Ytiglakhfkgeefaa
set_option linter.unusedSimpArgs false
set_option linter.unusedVariables false
namespace Go.Proofs.Ytiglakhfkgeefaa
open Go.Pth Go.Tre Go.RowKit Go.Word Go.Shelf Go.Mat
section
variable (NS FS NT FT : Option Addr) (ns fs nt ft : Nat) (sn tn : List Nd) (sf tf : List Fl) (w : World) (hNS : NodesAt w NS sn) (hFS : FilesAt w FS sf) (hNT : NodesAt w NT tn) (hFT : FilesAt w FT tf) (hs : Small sn sf) (ht : Small tn tf)
include hNS hFS hNT hFT hs ht
theorem fresh_small : Calls Try.prog 14 #[.agg #[.slice NS sn.length ns, .slice FS sf.length fs], .agg #[.slice NT tn.length nt, .slice FT tf.length ft]] w fun e W => ∃ v, e = .returned (.tuple #[v, .int .i64 (pairE sn sf tn tf)]) ∧
      (pairE sn sf tn tf ≠ 0 → v = .slice none 0 0) ∧ (pairE sn sf tn tf = 0 → ∃ D, FrRow W w.heap.size v (freshL sf tf) D) ∧ Below w.heap.size w W :=
  (callsIn_wide (n := 6)).1 (fresh_in 6 (by omega) NS FS NT FT ns fs nt ft sn tn sf tf w hNS hFS hNT hFT (fun x hx => by have := hs.2.2.1 x hx; omega) (fun x hx => by have := ht.2.2.1 x hx; omega)
    (fun _ => ⟨⟨by have := hs.2.1; omega, fun x hx => by have := hs.2.2.2 x hx; omega⟩, by have := ht.2.1; omega, fun x hx => by have := ht.2.2.2 x hx; omega⟩))
theorem fresh_ok (he : pairE sn sf tn tf = 0) : Calls Try.prog 14 #[.agg #[.slice NS sn.length ns, .slice FS sf.length fs], .agg #[.slice NT tn.length nt, .slice FT tf.length ft]] w fun e W => (∃ A C D, e = .returned (.tuple #[.slice A (freshL sf tf).length C, .int .i64 0]) ∧ FrRow W w.heap.size (.slice A (freshL sf tf).length C) (freshL sf tf) D) ∧ Below w.heap.size w W :=
  (fresh_small NS FS NT FT ns fs nt ft sn tn sf tf w hNS hFS hNT hFT hs ht).mono (by
    rintro e W ⟨v, rfl, _, h2, hb⟩
    obtain ⟨D, hD⟩ := h2 he
    obtain ⟨A, C, e1⟩ := own_slice hD.1
    subst e1
    exact ⟨⟨A, C, D, by rw [he], hD⟩, hb⟩)
theorem fresh_no (he : pairE sn sf tn tf ≠ 0) : Calls Try.prog 14 #[.agg #[.slice NS sn.length ns, .slice FS sf.length fs], .agg #[.slice NT tn.length nt, .slice FT tf.length ft]] w fun e W => e = .returned (.tuple #[.slice none 0 0, .int .i64 (pairE sn sf tn tf)]) ∧ Below w.heap.size w W :=
  (fresh_small NS FS NT FT ns fs nt ft sn tn sf tf w hNS hFS hNT hFT hs ht).mono (by
    rintro e W ⟨v, rfl, h1, _, hb⟩
    rw [h1 he]
    exact ⟨rfl, hb⟩)
end
theorem bool_info : (Try.prog.info? 4).map (fun i => (i.zero, i.size, i.bytes)) = some (some (.bool false), 1, 1) := by kernel_rfl
theorem made_bools (w : World) (k : Nat) (hk : k ≤ 1000) : (Instr.makeSlice 50 (.int .i64 (k : Int)) (.int .i64 (k : Int))).run Try.prog w = .ok (.slice (some ⟨w.heap.size, 0, none⟩) k k) (w.alloc (.cells (madeCells #[.bool false] k) 4)) := by
  obtain ⟨i, hi, hz, hs, hb⟩ := info_parts bool_info
  have h := run_make (P := Try.prog) w 50 4 i (.bool false) Try.underlying50 hi hz .i64 .i64 k k (by omega) (Int.le_refl _) (by rw [hb]; omega) (by omega)
  rw [hs, Nat.mul_one] at h
  exact h
end Go.Proofs.Ytiglakhfkgeefaa
set_option linter.unusedSimpArgs false
set_option linter.unusedVariables false
namespace Go.Mat
open Go.Pth Go.Tre
/-- what holds at each stand -/
structure MInv (sds tds : List Bt) (st : Mst) : Prop where
  len : st.1.length = tds.length
  free : ∀ d, ∀ g ∈ st.2.F d, ∃ k : Nat, g = (k : Int) ∧ k < sds.length ∧ sds.getD k [] = d
  kept : ∀ i, i < tds.length → ∀ g r, st.1.getD i z3 = ((1, g, r) : Sr) → r = 0 ∧ ∃ k : Nat, g = (k : Int) ∧ k < sds.length ∧ sds.getD k [] = tds.getD i [] ∧ g ∉ st.2.F (tds.getD i [])
  once : ∀ i j, i < tds.length → j < tds.length → ∀ g, st.1.getD i z3 = ((1, g, 0) : Sr) → st.1.getD j z3 = ((1, g, 0) : Sr) → i = j
  first : ∀ d a, st.2.f1 d = some a → ∃ k : Nat, a = (k : Int) ∧ k < tds.length ∧ tds.getD k [] = d ∧ ((st.1.getD k z3).1 = 1 ∨ (st.1.getD k z3).1 = 3)
  every : ∀ k, k < sds.length → (k : Int) ∈ st.2.F (sds.getD k []) ∨ ∃ i, i < tds.length ∧ st.1.getD i z3 = ((1, (k : Int), 0) : Sr)
  firsts : ∀ i, i < tds.length → (st.1.getD i z3).1 = 1 → st.2.f1 (tds.getD i []) ≠ none
  kind : ∀ i, i < tds.length → st.1.getD i z3 = z3 ∨ ∃ g, st.1.getD i z3 = ((1, g, 0) : Sr)
theorem getD_set_sr (l : List Sr) (i j : Nat) (x : Sr) (h : i < l.length) : (l.set i x).getD j z3 = if i = j then x else l.getD j z3 := by
  simp only [List.getD_eq_getElem?_getD, List.getElem?_set]
  by_cases e : i = j
  · subst e; simp [h]
  · simp [e]
theorem firstS_same (f1 : Bt → Option Int) (d : Bt) (i : Int) : ∃ a, firstS f1 d i d = some a ∧ (a = i ∨ f1 d = some a) := by
  unfold firstS
  cases h : f1 d with
  | none => exact ⟨i, updF_same _ _ _, .inl rfl⟩
  | some a =>
    by_cases hl : i < a
    · simp only [hl, if_true]
      exact ⟨i, updF_same _ _ _, .inl rfl⟩
    · simp only [hl, if_false]
      exact ⟨a, h, .inr rfl⟩
theorem firstS_other (f1 : Bt → Option Int) (d x : Bt) (i : Int) (h : x ≠ d) : firstS f1 d i x = f1 x := by
  unfold firstS
  cases f1 d with
  | none => exact updF_other h
  | some a =>
    by_cases hl : i < a
    · simp only [hl, if_true]
      exact updF_other h
    · simp only [hl, if_false]
/-- a file is kept as one that is free -/
theorem inv_keep {sds tds : List Bt} {st : Mst} (h : MInv sds tds st) (i : Nat) (hi : i < tds.length) (hz : st.1.getD i z3 = z3) (fr : Int) (hf : fr ∈ st.2.F (tds.getD i [])) : MInv sds tds (st.1.set i (1, fr, 0), keepS st.2 (i : Int) (tds.getD i []) fr) := by
  have hil : i < st.1.length := by rw [h.len]; exact hi
  have e := fun j => getD_set_sr st.1 i j (1, fr, 0) hil
  obtain ⟨k, hk, hk1, hk2⟩ := h.free _ fr hf
  have hF : ∀ d g, g ∈ (keepS st.2 (i : Int) (tds.getD i []) fr).F d ↔ g ∈ st.2.F d ∧ ¬ (d = tds.getD i [] ∧ g = fr) := fun d g => by
    show g ∈ updF st.2.F (tds.getD i []) (strikeN (st.2.F (tds.getD i [])) fr) d ↔ _
    by_cases e1 : d = tds.getD i []
    · subst e1
      rw [updF_same]
      unfold strikeN
      simp [List.mem_filter]
    · rw [updF_other e1]
      simp only [e1, false_and, not_false_eq_true, and_true]
  have notk : ∀ j, j < tds.length → st.1.getD j z3 ≠ ((1, fr, 0) : Sr) := fun j hj e1 => by
    obtain ⟨_, k', hk', _, hd, hno⟩ := h.kept j hj fr 0 e1
    have : tds.getD j [] = tds.getD i [] := by
      rw [← hd, ← hk2]
      congr 1
      omega
    rw [this] at hno
    exact hno hf
  refine ⟨by rw [List.length_set]; exact h.len, fun d g hg => h.free d g ((hF d g).1 hg).1, fun j hj g r => ?_, fun a b ha hb g => ?_, fun d a => ?_, fun q hq => ?_, fun j hj => ?_, fun j hj => ?_⟩
  · intro e1
    simp only [e] at e1
    by_cases ej : i = j
    · subst ej
      simp only [if_true] at e1
      injection e1 with _ e1
      injection e1 with e1 e2
      subst e1 e2
      exact ⟨rfl, k, hk, hk1, hk2, fun hm => ((hF _ _).1 hm).2 ⟨rfl, rfl⟩⟩
    · rw [if_neg ej] at e1
      obtain ⟨r0, k', hk', h1, h2, h3⟩ := h.kept j hj g r e1
      exact ⟨r0, k', hk', h1, h2, fun hm => h3 ((hF _ _).1 hm).1⟩
  · intro e1 e2
    simp only [e] at e1 e2
    by_cases ea : i = a
    · by_cases eb : i = b
      · omega
      · rw [if_pos ea] at e1
        rw [if_neg eb] at e2
        injection e1 with _ e1
        injection e1 with e1 _
        subst e1
        exact absurd e2 (notk b hb)
    · by_cases eb : i = b
      · rw [if_neg ea] at e1
        rw [if_pos eb] at e2
        injection e2 with _ e2
        injection e2 with e2 _
        subst e2
        exact absurd e1 (notk a ha)
      · rw [if_neg ea] at e1
        rw [if_neg eb] at e2
        exact h.once a b ha hb g e1 e2
  · intro hd
    have hd : firstS st.2.f1 (tds.getD i []) (i : Int) d = some a := hd
    by_cases e1 : d = tds.getD i []
    · subst e1
      obtain ⟨a', h1, h2⟩ := firstS_same st.2.f1 (tds.getD i []) (i : Int)
      rw [h1] at hd
      injection hd with hd
      subst hd
      rcases h2 with rfl | h2
      · exact ⟨i, rfl, hi, rfl, .inl (by simp only [e, if_true])⟩
      · obtain ⟨k', q1, q2, q3, q4⟩ := h.first _ _ h2
        refine ⟨k', q1, q2, q3, ?_⟩
        simp only [e]
        by_cases ek : i = k'
        · rw [if_pos ek]; exact .inl rfl
        · rw [if_neg ek]; exact q4
    · rw [firstS_other _ _ _ _ e1] at hd
      obtain ⟨k', q1, q2, q3, q4⟩ := h.first _ _ hd
      refine ⟨k', q1, q2, q3, ?_⟩
      simp only [e]
      by_cases ek : i = k'
      · rw [if_pos ek]; exact .inl rfl
      · rw [if_neg ek]; exact q4
  · rcases h.every q hq with h1 | ⟨j, h1, h2⟩
    · by_cases e1 : sds.getD q [] = tds.getD i [] ∧ (q : Int) = fr
      · exact .inr ⟨i, hi, by simp only [e, if_true]; rw [← e1.2]⟩
      · exact .inl ((hF _ _).2 ⟨h1, e1⟩)
    · refine .inr ⟨j, h1, ?_⟩
      simp only [e]
      have : i ≠ j := fun e2 => by
        subst e2
        rw [hz] at h2
        have := congrArg (fun y : Sr => y.1) h2
        simp [z3] at this
      rw [if_neg this]
      exact h2
  · intro e1
    show firstS st.2.f1 (tds.getD i []) (i : Int) (tds.getD j []) ≠ none
    by_cases e2 : tds.getD j [] = tds.getD i []
    · rw [e2]
      obtain ⟨a', h1, _⟩ := firstS_same st.2.f1 (tds.getD i []) (i : Int)
      rw [h1]
      simp
    · rw [firstS_other _ _ _ _ e2]
      simp only [e] at e1
      have : i ≠ j := fun e3 => e2 (by rw [e3])
      rw [if_neg this] at e1
      exact h.firsts j hj e1
  · simp only [e]
    by_cases e2 : i = j
    · rw [if_pos e2]; exact .inr ⟨fr, rfl⟩
    · rw [if_neg e2]; exact h.kind j hj
/-- a step of the first two passes -/
theorem inv_pick {sds tds : List Bt} {named : Bt → Option Int} {nm : Nat → List Bt} {stock : Bt → Option Int} {st : Mst} (h : MInv sds tds st) (i : Nat) (d : Bt) (hi : i < tds.length) (hd : tds.getD i [] = d) (hz : st.1.getD i z3 = z3) (j : Nat) (hj : j < 2) : MInv sds tds (st.1.set i (skP named nm stock j st.2 i d).1, (skP named nm stock j st.2 i d).2) := by
  subst hd
  have same : MInv sds tds (st.1.set i (0, 0, 0), st.2) := by
    have e : st.1.set i ((0, 0, 0) : Sr) = st.1 := by
      apply List.ext_getElem (by simp)
      intro q h1 h2
      rw [List.getElem_set]
      split
      · rename_i e1
        subst e1
        have := hz
        rw [List.getD_eq_getElem?_getD, List.getElem?_eq_getElem h2, Option.getD_some] at this
        rw [this]
      · rfl
    rw [e]
    exact h
  match j, hj with
  | 0, _ =>
    show MInv sds tds (st.1.set i (seek1S (nm i) named st.2 (i : Int) (tds.getD i [])).1, (seek1S (nm i) named st.2 (i : Int) (tds.getD i [])).2)
    unfold seek1S
    cases hp : pickF named (st.2.F (tds.getD i [])) (nm i) with
    | none => exact same
    | some fr => exact inv_keep h i hi hz fr (pickF_mem hp)
  | 1, _ =>
    show MInv sds tds (st.1.set i (seek2S st.2 (i : Int) (tds.getD i [])).1, (seek2S st.2 (i : Int) (tds.getD i [])).2)
    unfold seek2S
    cases hp : st.2.F (tds.getD i []) with
    | nil => exact same
    | cons fr r => exact inv_keep h i hi hz fr (by rw [hp]; exact List.mem_cons_self)
theorem inv_pass {sds tds : List Bt} {named : Bt → Option Int} {nm : Nat → List Bt} {stock : Bt → Option Int} (j : Nat) (hj : j < 2) : ∀ (xs : List TxK) (st : Mst), (∀ x ∈ xs, x.1.1 < tds.length ∧ tds.getD x.1.1 [] = x.1.2) → MInv sds tds st → MInv sds tds (passM (skP named nm stock j) xs st)
  | [], _, _, h => h
  | x :: r, st, hx, h => by
    show MInv sds tds (passM (skP named nm stock j) r (stepM (skP named nm stock j) st x))
    refine inv_pass j hj r _ (fun y hy => hx y (List.mem_cons_of_mem _ hy)) ?_
    unfold stepM
    split
    · rename_i hz
      obtain ⟨h1, h2⟩ := hx x (List.mem_cons_self)
      exact inv_pick h x.1.1 x.1.2 h1 h2 hz j hj
    · exact h
theorem txL_at (ds : List Bt) (hn : ds.length ≤ 1000) (hd : ∀ x ∈ ds, x.length ≤ 100000) : ∀ x ∈ txL ds, x.1.1 < ds.length ∧ ds.getD x.1.1 [] = x.1.2 := fun x hx => by
  unfold txL txTo at hx
  obtain ⟨j, hj, rfl⟩ := List.mem_map.1 hx
  have hj := List.mem_range.1 hj
  have e : ds.getD j [] = ds[j] := by rw [List.getD_eq_getElem?_getD, List.getElem?_eq_getElem hj, Option.getD_some]
  have := txK_val j (ds.getD j []) (by omega) (by rw [e]; exact hd _ (List.getElem_mem hj))
  rw [this]
  exact ⟨hj, rfl⟩
theorem shelf_free (ds : List Bt) (hd : ∀ x ∈ ds, x.length ≤ 100000) (hn : ds.length ≤ 1000) : ∀ (i : Nat), i ≤ ds.length → ∀ d, ∀ g ∈ shelfP (txTo ds i) d, ∃ k : Nat, g = (k : Int) ∧ k < ds.length ∧ ds.getD k [] = d
  | 0, _, d, g, hg => by cases hg
  | i + 1, hi, d, g, hg => by
    have hil : i < ds.length := hi
    rw [txTo_succ ds i hil, shelfP_snoc] at hg
    unfold shelfStep at hg
    rw [txK_val i ds[i] (by omega) (hd _ (List.getElem_mem _))] at hg
    by_cases e : d = ds[i]
    · subst e
      rw [updF_same] at hg
      rcases List.mem_append.1 hg with hg | hg
      · exact shelf_free ds hd hn i (by omega) _ g hg
      · exact ⟨i, List.mem_singleton.1 hg, hil, by rw [List.getD_eq_getElem?_getD, List.getElem?_eq_getElem hil, Option.getD_some]⟩
    · rw [updF_other e] at hg
      exact shelf_free ds hd hn i (by omega) d g hg
theorem inv_start (sds tds : List Bt) (hd : ∀ x ∈ sds, x.length ≤ 100000) (hn : sds.length ≤ 1000) : MInv sds tds (List.replicate tds.length z3, ⟨shelfP (txL sds), fun _ => none⟩) := by
  have hz : ∀ i, (List.replicate tds.length z3).getD i z3 = z3 := fun i => by
    simp only [List.getD_eq_getElem?_getD, List.getElem?_replicate]
    split <;> rfl
  have no : ∀ i g r, (List.replicate tds.length z3).getD i z3 ≠ ((1, g, r) : Sr) := fun i g r e => by
    rw [hz i] at e
    have := congrArg (fun y : Sr => y.1) e
    simp [z3] at this
  refine ⟨by simp, fun d g hg => shelf_free sds hd hn _ (Nat.le_refl _) d g hg, fun i _ g r e => absurd e (no i g r), fun i j _ _ g e => absurd e (no i g 0), fun d a e => (by cases e), fun k hk => .inl ?_, fun i _ e => ?_, fun i _ => .inl (hz i)⟩
  · have := shelf_has sds hd hn sds.length (Nat.le_refl _) k hk hk
    rw [List.getD_eq_getElem?_getD, List.getElem?_eq_getElem hk, Option.getD_some]
    exact this
  · have e : ((List.replicate tds.length z3).getD i z3).1 = 1 := e
    rw [hz i] at e
    simp [z3] at e
/-- the second pass leaves nothing free for what it does not find -/
theorem step_empty {named : Bt → Option Int} {nm : Nat → List Bt} {stock : Bt → Option Int} (st : Mst) (x : TxK) (d : Bt) (h : st.2.F d = []) : (stepM (skP named nm stock 1) st x).2.F d = [] := by
  unfold stepM
  split
  · show (seek2S st.2 (x.1.1 : Int) x.1.2).2.F d = []
    unfold seek2S
    cases hp : st.2.F x.1.2 with
    | nil => exact h
    | cons fr r =>
      show updF st.2.F x.1.2 (strikeN (st.2.F x.1.2) fr) d = []
      by_cases e : d = x.1.2
      · subst e
        rw [h] at hp
        cases hp
      · rw [updF_other e]; exact h
  · exact h
theorem pass_empty {named : Bt → Option Int} {nm : Nat → List Bt} {stock : Bt → Option Int} (d : Bt) : ∀ (xs : List TxK) (st : Mst), st.2.F d = [] → (passM (skP named nm stock 1) xs st).2.F d = []
  | [], _, h => h
  | x :: r, st, h => pass_empty d r _ (step_empty st x d h)
theorem pass_left {named : Bt → Option Int} {nm : Nat → List Bt} {stock : Bt → Option Int} : ∀ (xs : List TxK) (st : Mst), (∀ x ∈ xs, x.1.1 < st.1.length) → ∀ x ∈ xs, (passM (skP named nm stock 1) xs st).1.getD x.1.1 z3 = z3 → (passM (skP named nm stock 1) xs st).2.F x.1.2 = []
  | [], _, _, x, hx, _ => by cases hx
  | y :: r, st, hl, x, hx, hz => by
    have hz' : (passM (skP named nm stock 1) r (stepM (skP named nm stock 1) st y)).1.getD x.1.1 z3 = z3 := hz
    show (passM (skP named nm stock 1) r (stepM (skP named nm stock 1) st y)).2.F x.1.2 = []
    have hl2 : ∀ z ∈ r, z.1.1 < (stepM (skP named nm stock 1) st y).1.length := fun z hzr => by
      have := hl z (List.mem_cons_of_mem _ hzr)
      unfold stepM
      split <;> simpa using this
    rcases List.mem_cons.1 hx with rfl | hx
    · have h0 : (stepM (skP named nm stock 1) st x).1.getD x.1.1 z3 = z3 := Decidable.byContradiction fun hne => by
        rw [pass_stays _ _ r _ hne] at hz'
        exact hne hz'
      refine pass_empty x.1.2 r _ ?_
      have hlx := hl x (List.mem_cons_self)
      unfold stepM at h0 ⊢
      split
      · rename_i hzz
        rw [if_pos hzz] at h0
        show (seek2S st.2 (x.1.1 : Int) x.1.2).2.F x.1.2 = []
        have h0 : (st.1.set x.1.1 (seek2S st.2 (x.1.1 : Int) x.1.2).1).getD x.1.1 z3 = z3 := h0
        rw [getD_set_sr _ _ _ _ hlx, if_pos rfl] at h0
        unfold seek2S at h0 ⊢
        cases hp : st.2.F x.1.2 with
        | nil => exact hp
        | cons fr q =>
          rw [hp] at h0
          have := congrArg (fun y : Sr => y.1) h0
          simp [z3] at this
      · rename_i hzz
        rw [if_neg hzz] at h0
        exact absurd h0 hzz
    · exact pass_left r _ hl2 x hx hz'
/-- behind the second pass -/
structure MInv1 (sds tds : List Bt) (st : Mst) : Prop extends MInv sds tds st where
  none : ∀ i, i < tds.length → st.1.getD i z3 = z3 → ∀ k, k < sds.length → sds.getD k [] = tds.getD i [] → st.2.f1 (tds.getD i []) ≠ none
theorem inv_two {named : Bt → Option Int} {nm : Nat → List Bt} {stock : Bt → Option Int} (sds tds : List Bt) (hd : ∀ x ∈ sds, x.length ≤ 100000) (hn : sds.length ≤ 1000) (hd2 : ∀ x ∈ tds, x.length ≤ 100000) (hn2 : tds.length ≤ 1000) :
    MInv1 sds tds (passM (skP named nm stock 1) (txL tds) (passM (skP named nm stock 0) (txL tds) (List.replicate tds.length z3, ⟨shelfP (txL sds), fun _ => Option.none⟩))) := by
  have ha := txL_at tds hn2 hd2
  have h0 := inv_pass (named := named) (nm := nm) (stock := stock) 0 (by omega) (txL tds) _ ha (inv_start sds tds hd hn)
  have h1 := inv_pass (named := named) (nm := nm) (stock := stock) 1 (by omega) (txL tds) _ ha h0
  refine ⟨h1, fun i hi hz k hk hkd => ?_⟩
  have hin : txK i tds[i] ∈ txL tds := by
    unfold txL txTo
    exact List.mem_map.2 ⟨i, List.mem_range.2 hi, by rw [List.getD_eq_getElem?_getD, List.getElem?_eq_getElem hi, Option.getD_some]⟩
  have hv := txK_val i tds[i] (by omega) (hd2 _ (List.getElem_mem hi))
  have hF := pass_left (named := named) (nm := nm) (stock := stock) (txL tds) _ (fun x hx => by rw [h0.len]; exact (ha x hx).1) (txK i tds[i]) hin (by rw [hv]; exact hz)
  rw [hv] at hF
  have e : tds.getD i [] = tds[i] := by rw [List.getD_eq_getElem?_getD, List.getElem?_eq_getElem hi, Option.getD_some]
  rcases h1.every k hk with h2 | ⟨j, hj, h2⟩
  · rw [hkd, e] at h2
    have hF2 : (passM (skP named nm stock 1) (txL tds) (passM (skP named nm stock 0) (txL tds) (List.replicate tds.length z3, ⟨shelfP (txL sds), fun _ => Option.none⟩))).2.F tds[i] = [] := hF
    rw [hF2] at h2
    cases h2
  · obtain ⟨_, k', hk', _, hd', _⟩ := h1.kept j hj _ _ h2
    have e2 : tds.getD j [] = tds.getD i [] := by
      rw [← hd', ← hkd]
      congr 1
      omega
    rw [← e2]
    exact h1.firsts j hj (by rw [h2])
end Go.Mat
set_option linter.unusedSimpArgs false
set_option linter.unusedVariables false
namespace Go.Mat
open Go.Pth Go.Tre
def cnt3 (l : List Sr) : Nat := l.countP (fun y => y.1 == 3)
theorem cnt3_set (l : List Sr) (i : Nat) (x : Sr) (h : i < l.length) (h0 : l.getD i z3 = z3) : cnt3 (l.set i x) = cnt3 l + (if x.1 == 3 then 1 else 0) := by
  unfold cnt3
  rw [List.countP_set h]
  have e : l[i] = z3 := by
    rw [List.getD_eq_getElem?_getD, List.getElem?_eq_getElem h, Option.getD_some] at h0
    exact h0
  rw [e]
  simp [z3]
theorem setP_mem : ∀ (pre : List TxK) (d : Bt), setP pre d = true ↔ ∃ x ∈ pre, x.1.2 = d := by
  have key : ∀ (pre : List TxK) (S : Bt → Bool) (d : Bt), pre.foldl (fun S k => fun x => x == k.1.2 || S x) S d = true ↔ S d = true ∨ ∃ x ∈ pre, x.1.2 = d := by
    intro pre
    induction pre with
    | nil => intro S d; simp
    | cons k r ih =>
      intro S d
      rw [List.foldl_cons, ih]
      constructor
      · rintro (h | ⟨x, hx, e⟩)
        · simp only [Bool.or_eq_true, beq_iff_eq] at h
          rcases h with h | h
          · exact .inr ⟨k, List.mem_cons_self, h.symm⟩
          · exact .inl h
        · exact .inr ⟨x, List.mem_cons_of_mem _ hx, e⟩
      · rintro (h | ⟨x, hx, e⟩)
        · left; simp [h]
        · rcases List.mem_cons.1 hx with rfl | hx
          · left; simp [e]
          · exact .inr ⟨x, hx, e⟩
  intro pre d
  have := key pre (fun _ => false) d
  simpa [setP] using this
theorem setP_txL (ds : List Bt) (hd : ∀ x ∈ ds, x.length ≤ 100000) (hn : ds.length ≤ 1000) (d : Bt) : setP (txL ds) d = true ↔ d ∈ ds := by
  rw [setP_mem]
  constructor
  · rintro ⟨x, hx, rfl⟩
    obtain ⟨h1, h2⟩ := txL_at ds hn hd x hx
    rw [← h2, List.getD_eq_getElem?_getD, List.getElem?_eq_getElem h1, Option.getD_some]
    exact List.getElem_mem h1
  · intro h
    obtain ⟨j, hj, rfl⟩ := List.getElem_of_mem h
    refine ⟨txK j ds[j], ?_, by rw [txK_val j ds[j] (by omega) (hd _ (List.getElem_mem hj))]⟩
    unfold txL txTo
    exact List.mem_map.2 ⟨j, List.mem_range.2 hj, by rw [List.getD_eq_getElem?_getD, List.getElem?_eq_getElem hj, Option.getD_some]⟩
theorem mem_getD {ds : List Bt} {d : Bt} : d ∈ ds ↔ ∃ k, k < ds.length ∧ ds.getD k [] = d := by
  constructor
  · intro h
    obtain ⟨j, hj, rfl⟩ := List.getElem_of_mem h
    exact ⟨j, hj, by rw [List.getD_eq_getElem?_getD, List.getElem?_eq_getElem hj, Option.getD_some]⟩
  · rintro ⟨k, hk, rfl⟩
    rw [List.getD_eq_getElem?_getD, List.getElem?_eq_getElem hk, Option.getD_some]
    exact List.getElem_mem hk
def Kd (x : Sr) : Prop := x.1 = 1 ∨ x.1 = 3
/-- what holds in the third pass, behind the first i files -/
structure PInv (sds tds ls : List Bt) (st1 : Mst) (i : Nat) (st : Mst) : Prop where
  len : st.1.length = tds.length
  hi : ∀ j, i ≤ j → st.1.getD j z3 = st1.1.getD j z3
  old : ∀ j, st1.1.getD j z3 ≠ z3 → st.1.getD j z3 = st1.1.getD j z3
  first : ∀ d a, st.2.f1 d = some a → ∃ k : Nat, a = (k : Int) ∧ k < tds.length ∧ tds.getD k [] = d ∧ Kd (st.1.getD k z3)
  seen : ∀ j, j < i → st1.1.getD j z3 = z3 → (st.1.getD j z3 = z3 ∧ stockF ls (tds.getD j []) = none ∧ tds.getD j [] ∉ sds) ∨ (∃ a : Nat, st.1.getD j z3 = ((2, (a : Int), 0) : Sr) ∧ a < tds.length ∧ a ≠ j ∧ tds.getD a [] = tds.getD j [] ∧ Kd (st.1.getD a z3)) ∨ (∃ r, st.1.getD j z3 = ((3, 0, r) : Sr) ∧ stockF ls (tds.getD j []) = some r ∧ tds.getD j [] ∉ sds)
  grow : ∀ d, st1.2.f1 d ≠ none → st.2.f1 d ≠ none
  cnt : (∀ j, j < i → st.1.getD j z3 ≠ z3) → cnt3 st.1 = (frP (setP (txL sds)) (txTo tds i)).2.length ∧ ∀ d, d ∉ sds → ((frP (setP (txL sds)) (txTo tds i)).1 d = true ↔ st.2.f1 d ≠ none)
theorem fr_base (K0 : Bt → Bool) : ∀ (pre : List TxK) (d : Bt), K0 d = true → (frP K0 pre).1 d = true := by
  have key : ∀ (pre : List TxK) (st : Fst) (d : Bt), st.1 d = true → (pre.foldl frStep st).1 d = true := by
    intro pre
    induction pre with
    | nil => intro st d h; exact h
    | cons k r ih =>
      intro st d h
      rw [List.foldl_cons]
      refine ih _ _ ?_
      unfold frStep
      split
      · exact h
      · simp [h]
  intro pre d h
  exact key pre _ d h
theorem p_start {sds tds ls : List Bt} {st1 : Mst} (h : MInv1 sds tds st1) (hz : cnt3 st1.1 = 0) (hs : ∀ d, setP (txL sds) d = true ↔ d ∈ sds) : PInv sds tds ls st1 0 st1 := by
  refine ⟨h.len, fun _ _ => rfl, fun _ _ => rfl, h.first, fun j hj => by omega, fun _ h => h, fun _ => ⟨?_, fun d hd => ?_⟩⟩
  · rw [hz]; rfl
  · constructor
    · intro e
      exact absurd ((hs d).1 e) hd
    · intro e
      cases hf : st1.2.f1 d with
      | none => exact absurd hf e
      | some a =>
        obtain ⟨k, rfl, hk, hkd, hkk⟩ := h.first d a hf
        rcases h.kind k hk with h1 | ⟨g, h1⟩
        · rw [h1] at hkk
          rcases hkk with h2 | h2 <;> simp [z3] at h2
        · obtain ⟨_, q, hq, hql, hqd, _⟩ := h.kept k hk g 0 h1
          exact absurd (mem_getD.2 ⟨q, hql, by rw [hqd, hkd]⟩) hd
theorem kd_keep {l : List Sr} {i k : Nat} {x : Sr} (h : i < l.length) (h0 : l.getD i z3 = z3) (hk : Kd (l.getD k z3)) : Kd ((l.set i x).getD k z3) ∧ k ≠ i := by
  have : k ≠ i := fun e => by
    subst e
    rw [h0] at hk
    rcases hk with h2 | h2 <;> simp [z3] at h2
  rw [getD_set_sr _ _ _ _ h, if_neg (Ne.symm this)]
  exact ⟨hk, this⟩
theorem p_step {named : Bt → Option Int} {nm : Nat → List Bt} {sds tds ls : List Bt} {st1 st : Mst} {i : Nat} (h1 : MInv1 sds tds st1) (hs : ∀ d, setP (txL sds) d = true ↔ d ∈ sds) (hi : i < tds.length) (hn : tds.length ≤ 1000) (hd : ∀ x ∈ tds, x.length ≤ 100000) (h : PInv sds tds ls st1 i st) :
    PInv sds tds ls st1 (i + 1) (stepM (skP named nm (stockF ls) 2) st (txK i tds[i])) := by
  have hv : (txK i tds[i]).1 = (i, tds[i]) := txK_val i tds[i] (by omega) (hd _ (List.getElem_mem hi))
  have hil : i < st.1.length := by rw [h.len]; exact hi
  have et : tds.getD i [] = tds[i] := by rw [List.getD_eq_getElem?_getD, List.getElem?_eq_getElem hi, Option.getD_some]
  have eK : frP (setP (txL sds)) (txTo tds (i + 1)) = frStep (frP (setP (txL sds)) (txTo tds i)) (txK i tds[i]) := by rw [txTo_succ tds i hi, frP_snoc]
  unfold stepM
  rw [hv]
  simp only
  by_cases hz : st.1.getD i z3 = z3
  · rw [if_pos hz]
    have hz1 : st1.1.getD i z3 = z3 := by rw [← h.hi i (Nat.le_refl _)]; exact hz
    show PInv sds tds ls st1 (i + 1) (st.1.set i (seek3S (stockF ls) st.2 (i : Int) tds[i]).1, (seek3S (stockF ls) st.2 (i : Int) tds[i]).2)
    have G : ∀ (x : Sr) (s2 : MS), (∀ d a, s2.f1 d = some a → st.2.f1 d = some a ∨ (d = tds[i] ∧ a = (i : Int) ∧ x.1 = 3)) → (∀ d, st.2.f1 d ≠ none → s2.f1 d ≠ none) →
        ((x = z3 ∧ stockF ls (tds.getD i []) = none ∧ tds.getD i [] ∉ sds) ∨ (∃ a : Nat, x = ((2, (a : Int), 0) : Sr) ∧ a < tds.length ∧ a ≠ i ∧ tds.getD a [] = tds.getD i [] ∧ Kd (st.1.getD a z3)) ∨ (∃ r, x = ((3, 0, r) : Sr) ∧ stockF ls (tds.getD i []) = some r ∧ tds.getD i [] ∉ sds)) →
        (x ≠ z3 → cnt3 st.1 = (frP (setP (txL sds)) (txTo tds i)).2.length → (∀ d, d ∉ sds → ((frP (setP (txL sds)) (txTo tds i)).1 d = true ↔ st.2.f1 d ≠ none)) → cnt3 st.1 + (if x.1 == 3 then 1 else 0) = (frP (setP (txL sds)) (txTo tds (i + 1))).2.length ∧ ∀ d, d ∉ sds → ((frP (setP (txL sds)) (txTo tds (i + 1))).1 d = true ↔ s2.f1 d ≠ none)) →
        PInv sds tds ls st1 (i + 1) (st.1.set i x, s2) := fun x s2 g1 g2 g3 g4 => by
      have e := fun j => getD_set_sr st.1 i j x hil
      refine ⟨by rw [List.length_set]; exact h.len, fun j hj => ?_, fun j hj => ?_, fun d a hda => ?_, fun j hj hjz => ?_, fun d hdn => g2 d (h.grow d hdn), fun hall => ?_⟩
      · show (st.1.set i x).getD j z3 = _
        rw [e, if_neg (by omega)]
        exact h.hi j (by omega)
      · show (st.1.set i x).getD j z3 = _
        rw [e]
        by_cases e2 : i = j
        · subst e2; exact absurd hz1 hj
        · rw [if_neg e2]; exact h.old j hj
      · rcases g1 d a hda with h2 | ⟨h2, h3, h4⟩
        · obtain ⟨k, q1, q2, q3, q4⟩ := h.first d a h2
          exact ⟨k, q1, q2, q3, (kd_keep hil hz q4).1⟩
        · refine ⟨i, h3, hi, by rw [et, h2], ?_⟩
          show Kd ((st.1.set i x).getD i z3)
          rw [e, if_pos rfl]
          exact .inr h4
      · have ej : ∀ (j : Nat), (st.1.set i x, s2).1.getD j z3 = if i = j then x else st.1.getD j z3 := e
        by_cases e2 : i = j
        · subst e2
          rw [ej, if_pos rfl]
          rcases g3 with ⟨q1, q2, q3⟩ | ⟨a, q1, q2, q3, q4, q5⟩ | ⟨r, q1, q2, q3⟩
          · exact .inl ⟨q1, q2, q3⟩
          · refine .inr (.inl ⟨a, q1, q2, q3, q4, (kd_keep hil hz q5).1⟩)
          · exact .inr (.inr ⟨r, q1, q2, q3⟩)
        · rw [ej, if_neg e2]
          rcases h.seen j (by omega) hjz with q | ⟨a, q1, q2, q3, q4, q5⟩ | q
          · exact .inl q
          · exact .inr (.inl ⟨a, q1, q2, q3, q4, (kd_keep hil hz q5).1⟩)
          · exact .inr (.inr q)
      · have hx : x ≠ z3 := by
          have := hall i (by omega)
          have e3 : (st.1.set i x).getD i z3 = x := by rw [e, if_pos rfl]
          rw [show (st.1.set i x, s2).1.getD i z3 = x from e3] at this
          exact this
        obtain ⟨c1, c2⟩ := h.cnt (fun j hj => by
          have := hall j (by omega)
          have e3 : (st.1.set i x).getD j z3 = st.1.getD j z3 := by rw [e, if_neg (by omega)]
          rw [show (st.1.set i x, s2).1.getD j z3 = _ from e3] at this
          exact this)
        obtain ⟨c3, c4⟩ := g4 hx c1 c2
        exact ⟨by show cnt3 (st.1.set i x) = _; rw [cnt3_set _ _ _ hil hz]; exact c3, c4⟩
    have nin : ∀ hf : st.2.f1 tds[i] = none, tds[i] ∉ sds := fun hf hm => by
      obtain ⟨k, hk, hkd⟩ := mem_getD.1 hm
      exact h.grow _ (by rw [← et]; exact h1.none i hi hz1 k hk (by rw [hkd, et])) hf
    unfold seek3S
    cases hf : st.2.f1 tds[i] with
    | some a =>
      obtain ⟨k, rfl, hk, hkd, hkk⟩ := h.first _ a hf
      refine G (2, (k : Int), 0) st.2 (fun d a h => .inl h) (fun d h => h) (.inr (.inl ⟨k, rfl, hk, (kd_keep hil hz (x := z3) hkk).2, by rw [hkd, et], hkk⟩)) (fun _ c1 c2 => ?_)
      rw [eK]
      have hK : (frP (setP (txL sds)) (txTo tds i)).1 tds[i] = true := by
        by_cases hm : tds[i] ∈ sds
        · exact fr_base _ _ _ ((hs _).2 hm)
        · exact (c2 _ hm).2 (by rw [hf]; simp)
      unfold frStep
      rw [hv]
      simp only
      rw [if_pos hK]
      exact ⟨by simpa using c1, c2⟩
    | none =>
      have hnin := nin hf
      cases hk : stockF ls tds[i] with
      | some r =>
        refine G (3, 0, r) ⟨st.2.F, updF st.2.f1 tds[i] (some (i : Int))⟩ (fun d a hda => ?_) (fun d hdn => ?_) (.inr (.inr ⟨r, rfl, by rw [et]; exact hk, by rw [et]; exact hnin⟩)) (fun _ c1 c2 => ?_)
        · have hda : updF st.2.f1 tds[i] (some (i : Int)) d = some a := hda
          by_cases e : d = tds[i]
          · subst e
            rw [updF_same] at hda
            injection hda with hda
            exact .inr ⟨rfl, hda.symm, rfl⟩
          · rw [updF_other e] at hda
            exact .inl hda
        · show updF st.2.f1 tds[i] (some (i : Int)) d ≠ none
          by_cases e : d = tds[i]
          · subst e; rw [updF_same]; simp
          · rw [updF_other e]; exact hdn
        · rw [eK]
          have hK : ¬ (frP (setP (txL sds)) (txTo tds i)).1 tds[i] = true := fun e => (c2 _ hnin).1 e hf
          unfold frStep
          rw [hv]
          simp only
          rw [if_neg hK]
          refine ⟨by simp [c1], fun d hdn => ?_⟩
          show (d == tds[i] || (frP (setP (txL sds)) (txTo tds i)).1 d) = true ↔ updF st.2.f1 tds[i] (some (i : Int)) d ≠ none
          by_cases e : d = tds[i]
          · subst e
            rw [updF_same]
            simp
          · rw [updF_other e]
            have : (d == tds[i]) = false := by simpa using e
            rw [this]
            simpa using c2 d hdn
      | none =>
        exact G (0, 0, 0) st.2 (fun d a h => .inl h) (fun d h => h) (.inl ⟨rfl, by rw [et]; exact hk, by rw [et]; exact hnin⟩) (fun hx => absurd rfl hx)
  · rw [if_neg hz]
    have hz1 : st1.1.getD i z3 ≠ z3 := by rw [← h.hi i (Nat.le_refl _)]; exact hz
    refine ⟨h.len, fun j hj => h.hi j (by omega), h.old, h.first, fun j hj hjz => ?_, h.grow, fun hall => ?_⟩
    · by_cases e : j = i
      · subst e; exact absurd hjz hz1
      · exact h.seen j (by omega) hjz
    · obtain ⟨c1, c2⟩ := h.cnt (fun j hj => hall j (by omega))
      have hm : tds[i] ∈ sds := by
        rcases h1.kind i hi with h2 | ⟨g, h2⟩
        · exact absurd h2 hz1
        · obtain ⟨_, q, hq, hql, hqd, _⟩ := h1.kept i hi g 0 h2
          exact mem_getD.2 ⟨q, hql, by rw [hqd, et]⟩
      rw [eK]
      unfold frStep
      rw [hv]
      simp only
      rw [if_pos (fr_base _ _ _ ((hs _).2 hm))]
      exact ⟨c1, c2⟩
theorem fr_mem (K0 : Bt → Bool) : ∀ (pre : List TxK) (d : Bt), ((frP K0 pre).1 d = true ↔ K0 d = true ∨ ∃ x ∈ pre, x.1.2 = d) ∧ (d ∈ (frP K0 pre).2 ↔ K0 d = false ∧ ∃ x ∈ pre, x.1.2 = d) := by
  have key : ∀ (n : Nat) (pre : List TxK) (d : Bt), pre.length = n → ((frP K0 pre).1 d = true ↔ K0 d = true ∨ ∃ x ∈ pre, x.1.2 = d) ∧ (d ∈ (frP K0 pre).2 ↔ K0 d = false ∧ ∃ x ∈ pre, x.1.2 = d) := by
    intro n
    induction n with
    | zero =>
      intro pre d h
      obtain rfl : pre = [] := List.length_eq_zero_iff.1 h
      simp [frP]
    | succ n ih =>
      intro pre d h
      obtain ⟨q, k, rfl⟩ : ∃ q k, pre = q ++ [k] := ⟨pre.dropLast, pre.getLast (by intro e; rw [e] at h; simp at h), (List.dropLast_concat_getLast _).symm⟩
      have hq : q.length = n := by simpa using h
      obtain ⟨i1, i2⟩ := ih q d hq
      obtain ⟨k1, k2⟩ := ih q k.1.2 hq
      rw [frP_snoc]
      have ex : (∃ x ∈ q ++ [k], x.1.2 = d) ↔ (∃ x ∈ q, x.1.2 = d) ∨ k.1.2 = d := by
        constructor
        · rintro ⟨x, hx, e⟩
          rcases List.mem_append.1 hx with hx | hx
          · exact .inl ⟨x, hx, e⟩
          · rw [List.mem_singleton] at hx; subst hx; exact .inr e
        · rintro (⟨x, hx, e⟩ | e)
          · exact ⟨x, List.mem_append_left _ hx, e⟩
          · exact ⟨k, List.mem_append_right _ (List.mem_singleton.2 rfl), e⟩
      rw [ex]
      unfold frStep
      by_cases hk : (frP K0 q).1 k.1.2 = true
      · rw [if_pos hk]
        have hk' := k1.1 hk
        refine ⟨?_, ?_⟩
        · rw [i1]
          constructor
          · rintro (h1 | h1)
            · exact .inl h1
            · exact .inr (.inl h1)
          · rintro (h1 | h1 | h1)
            · exact .inl h1
            · exact .inr h1
            · subst h1; exact hk'
        · rw [i2]
          constructor
          · rintro ⟨h1, h2⟩; exact ⟨h1, .inl h2⟩
          · rintro ⟨h1, h2 | h2⟩
            · exact ⟨h1, h2⟩
            · subst h2
              rcases hk' with h3 | h3
              · rw [h1] at h3; cases h3
              · exact ⟨h1, h3⟩
      · rw [if_neg hk]
        have hk' : K0 k.1.2 = false ∧ ¬ ∃ x ∈ q, x.1.2 = k.1.2 := by
          constructor
          · cases h3 : K0 k.1.2 with
            | false => rfl
            | true => exact absurd (k1.2 (.inl h3)) hk
          · exact fun h3 => hk (k1.2 (.inr h3))
        refine ⟨?_, ?_⟩
        · show (d == k.1.2 || (frP K0 q).1 d) = true ↔ _
          rw [Bool.or_eq_true, beq_iff_eq, i1]
          constructor
          · rintro (h1 | h1 | h1)
            · exact .inr (.inr h1.symm)
            · exact .inl h1
            · exact .inr (.inl h1)
          · rintro (h1 | h1 | h1)
            · exact .inr (.inl h1)
            · exact .inr (.inr h1)
            · exact .inl h1.symm
        · show d ∈ (frP K0 q).2 ++ [k.1.2] ↔ _
          rw [List.mem_append, List.mem_singleton, i2]
          constructor
          · rintro (⟨h1, h2⟩ | h1)
            · exact ⟨h1, .inl h2⟩
            · subst h1; exact ⟨hk'.1, .inr rfl⟩
          · rintro ⟨h1, h2 | h2⟩
            · exact .inl ⟨h1, h2⟩
            · exact .inr h2.symm
  intro pre d
  exact key pre.length pre d rfl
structure Whole (sds tds ls : List Bt) (L : List Sr) (F : List Bt) : Prop where
  len : L.length = tds.length
  each : ∀ i, i < tds.length → (L.getD i z3 = z3 ∧ tds.getD i [] ∉ ls ∧ tds.getD i [] ∉ sds) ∨ (∃ g : Nat, L.getD i z3 = ((1, (g : Int), 0) : Sr) ∧ g < sds.length ∧ sds.getD g [] = tds.getD i []) ∨
    (∃ a : Nat, L.getD i z3 = ((2, (a : Int), 0) : Sr) ∧ a < tds.length ∧ a ≠ i ∧ tds.getD a [] = tds.getD i [] ∧ Kd (L.getD a z3)) ∨ (∃ r : Nat, L.getD i z3 = ((3, 0, (r : Int)) : Sr) ∧ r < ls.length ∧ ls.getD r [] = tds.getD i [] ∧ tds.getD i [] ∉ sds)
  once : ∀ i j, i < tds.length → j < tds.length → ∀ g, L.getD i z3 = ((1, g, 0) : Sr) → L.getD j z3 = ((1, g, 0) : Sr) → i = j
  cnt : z3 ∉ L → cnt3 L = F.length
  fresh : ∀ d, d ∈ F ↔ d ∉ sds ∧ d ∈ tds
theorem cnt3_two {sds tds : List Bt} {st : Mst} (h : MInv sds tds st) : cnt3 st.1 = 0 := by
  unfold cnt3
  rw [List.countP_eq_zero]
  intro x hx
  obtain ⟨j, hj, rfl⟩ := List.getElem_of_mem hx
  have e : st.1.getD j z3 = st.1[j] := by rw [List.getD_eq_getElem?_getD, List.getElem?_eq_getElem hj, Option.getD_some]
  rcases h.kind j (by rw [← h.len]; exact hj) with h1 | ⟨g, h1⟩
  · rw [← e, h1]; simp [z3]
  · rw [← e, h1]; simp
theorem whole_match (sn tn : List Nd) (sf tf : List Fl) (ls : List Bt) (hn : tf.length ≤ 1000) (hn2 : sf.length ≤ 1000) (hd : ∀ x ∈ tf, x.data.length ≤ 100000) (hd2 : ∀ x ∈ sf, x.data.length ≤ 100000) (hl : ls.length ≤ 100000) :
    Whole (sf.map Fl.data) (tf.map Fl.data) ls (matchL sn sf tn tf ls).1 (freshL sf tf) := by
  have hdt : ∀ x ∈ tf.map Fl.data, x.length ≤ 100000 := fun x hx => by obtain ⟨y, hy, rfl⟩ := List.mem_map.1 hx; exact hd y hy
  have hds : ∀ x ∈ sf.map Fl.data, x.length ≤ 100000 := fun x hx => by obtain ⟨y, hy, rfl⟩ := List.mem_map.1 hx; exact hd2 y hy
  have hlt : (tf.map Fl.data).length ≤ 1000 := by simpa using hn
  have hls : (sf.map Fl.data).length ≤ 1000 := by simpa using hn2
  have h1 := inv_two (named := namedF sn) (nm := namesM tn) (stock := stockF ls) (sf.map Fl.data) (tf.map Fl.data) hds hls hdt hlt
  have hs := setP_txL (sf.map Fl.data) hds hls
  have hp : ∀ i, i ≤ (tf.map Fl.data).length → PInv (sf.map Fl.data) (tf.map Fl.data) ls (passM (skP (namedF sn) (namesM tn) (stockF ls) 1) (txL (tf.map Fl.data)) (passM (skP (namedF sn) (namesM tn) (stockF ls) 0) (txL (tf.map Fl.data)) (List.replicate (tf.map Fl.data).length z3, ⟨shelfP (txL (sf.map Fl.data)), fun _ => none⟩))) i
      (passM (skP (namedF sn) (namesM tn) (stockF ls) 2) (txTo (tf.map Fl.data) i) (passM (skP (namedF sn) (namesM tn) (stockF ls) 1) (txL (tf.map Fl.data)) (passM (skP (namedF sn) (namesM tn) (stockF ls) 0) (txL (tf.map Fl.data)) (List.replicate (tf.map Fl.data).length z3, ⟨shelfP (txL (sf.map Fl.data)), fun _ => none⟩)))) := by
    intro i
    induction i with
    | zero => intro _; exact p_start h1 (cnt3_two h1.toMInv) hs
    | succ i ih =>
      intro hi
      rw [txTo_succ (tf.map Fl.data) i hi, passM_snoc]
      exact p_step h1 hs hi hlt hdt (ih (by omega))
  have hP := hp (tf.map Fl.data).length (Nat.le_refl _)
  have eM : matchL sn sf tn tf ls = passM (skP (namedF sn) (namesM tn) (stockF ls) 2) (txTo (tf.map Fl.data) (tf.map Fl.data).length) (passM (skP (namedF sn) (namesM tn) (stockF ls) 1) (txL (tf.map Fl.data)) (passM (skP (namedF sn) (namesM tn) (stockF ls) 0) (txL (tf.map Fl.data)) (List.replicate (tf.map Fl.data).length z3, ⟨shelfP (txL (sf.map Fl.data)), fun _ => none⟩))) := by
    have e0 : List.replicate tf.length z3 = List.replicate (tf.map Fl.data).length z3 := by rw [List.length_map]
    unfold matchL
    rw [e0]
    rfl
  rw [eM]
  have eF : freshL sf tf = (frP (setP (txL (sf.map Fl.data))) (txTo (tf.map Fl.data) (tf.map Fl.data).length)).2 := rfl
  rw [eF]
  generalize passM (skP (namedF sn) (namesM tn) (stockF ls) 1) (txL (tf.map Fl.data)) (passM (skP (namedF sn) (namesM tn) (stockF ls) 0) (txL (tf.map Fl.data)) (List.replicate (tf.map Fl.data).length z3, ⟨shelfP (txL (sf.map Fl.data)), fun _ => none⟩)) = st1 at *
  generalize passM (skP (namedF sn) (namesM tn) (stockF ls) 2) (txTo (tf.map Fl.data) (tf.map Fl.data).length) st1 = st at *
  have kept : ∀ i, i < (tf.map Fl.data).length → ∀ g, st.1.getD i z3 = ((1, g, 0) : Sr) → st1.1.getD i z3 = ((1, g, 0) : Sr) := fun i hi g e => by
    by_cases hz : st1.1.getD i z3 = z3
    · rcases hP.seen i hi hz with ⟨q, _⟩ | ⟨a, q, _⟩ | ⟨r, q, _⟩
      · rw [q] at e; have := congrArg (fun y : Sr => y.1) e; simp [z3] at this
      · rw [q] at e; have := congrArg (fun y : Sr => y.1) e; simp at this
      · rw [q] at e; have := congrArg (fun y : Sr => y.1) e; simp at this
    · rw [← hP.old i hz]; exact e
  refine ⟨hP.len, fun i hi => ?_, fun i j hi hj g e1 e2 => h1.once i j hi hj g (kept i hi g e1) (kept j hj g e2), fun hz => ?_, fun d => ?_⟩
  · by_cases hz : st1.1.getD i z3 = z3
    · rcases hP.seen i hi hz with ⟨q1, q2, q3⟩ | q | ⟨r, q1, q2, q3⟩
      · refine .inl ⟨q1, fun hm => ?_, q3⟩
        obtain ⟨k, hk, hkd⟩ := mem_getD.1 hm
        exact stockF_none hl q2 k hk hkd
      · exact .inr (.inr (.inl q))
      · obtain ⟨k, rfl, hk, hkd, _⟩ := stockF_some hl q2
        exact .inr (.inr (.inr ⟨k, q1, hk, hkd, q3⟩))
    · rcases h1.kind i hi with h2 | ⟨g, h2⟩
      · exact absurd h2 hz
      · obtain ⟨_, q, rfl, hql, hqd, _⟩ := h1.kept i hi g 0 h2
        exact .inr (.inl ⟨q, by rw [hP.old i hz]; exact h2, hql, hqd⟩)
  · exact (hP.cnt (fun j hj e => hz (getD_mem_z3 (by rw [hP.len]; exact hj) e))).1
  · rw [(fr_mem _ _ d).2]
    have e1 : setP (txL (sf.map Fl.data)) d = false ↔ d ∉ sf.map Fl.data := by
      rw [← hs d]
      simp
    have e2 : (∃ x ∈ txTo (tf.map Fl.data) (tf.map Fl.data).length, x.1.2 = d) ↔ d ∈ tf.map Fl.data := by
      have := setP_txL (tf.map Fl.data) hdt hlt d
      rw [setP_mem] at this
      exact this
    rw [e1, e2]
end Go.Mat
