/-
What is proved here: what Fresh finds, on lists; rows of bytes of the call's own, each in a block of its own. Fresh, by a contract. Fresh, by a contract. a call of Fresh that is not refused, and one that is, by contracts.
-/
import Derived.Test.YtiglakhfkgeefaaLsa
import Derived.Test.YtiglakhfkgeefaaAli
import Derived.Laws.IdiomStrings
import Derived.Test.YtiglakhfkgeefaaMok
set_option linter.unusedSimpArgs false
set_option linter.unusedVariables false
namespace Go.Mat
open Go.Pth Go.Tre
def setP (pre : List TxK) : Bt → Bool := pre.foldl (fun S k => fun x => x == k.1.2 || S x) (fun _ => false)
theorem setP_snoc (pre : List TxK) (k : TxK) : setP (pre ++ [k]) = fun x => x == k.1.2 || setP pre x := by unfold setP; rw [List.foldl_append]; rfl
abbrev Fst := (Bt → Bool) × List Bt
def frStep (st : Fst) (k : TxK) : Fst := if st.1 k.1.2 = true then st else (fun x => x == k.1.2 || st.1 x, st.2 ++ [k.1.2])
def frP (K0 : Bt → Bool) (pre : List TxK) : Fst := pre.foldl frStep (K0, [])
theorem frP_snoc (K0 : Bt → Bool) (pre : List TxK) (k : TxK) : frP K0 (pre ++ [k]) = frStep (frP K0 pre) k := by unfold frP; rw [List.foldl_append]; rfl
theorem frP_len (K0 : Bt → Bool) : ∀ (pre : List TxK), (frP K0 pre).2.length ≤ pre.length := by
  have key : ∀ (pre : List TxK) (st : Fst), (pre.foldl frStep st).2.length ≤ st.2.length + pre.length := by
    intro pre
    induction pre with
    | nil => intro st; simp
    | cons k r ih =>
      intro st
      rw [List.foldl_cons]
      have h := ih (frStep st k)
      have h2 : (frStep st k).2.length ≤ st.2.length + 1 := by
        unfold frStep
        split
        · omega
        · simp
      rw [List.length_cons]
      omega
  intro pre
  have := key pre (K0, [])
  simpa [frP] using this
/-- the contents of t that s has not -/
def freshL (sf tf : List Fl) : List Bt := (frP (setP (txL (sf.map Fl.data))) (txL (tf.map Fl.data))).2
end Go.Mat
namespace Go.Proofs.Ytiglakhfkgeefaa
open Go.Pth Go.Tre Go.RowKit Go.Word Go.Shelf Go.Mat
/-- bytes in a block of their own, from B on; the block may be longer -/
def BytO (W : World) (B : Nat) (v : Value) (l : Bt) : Prop := ∃ g C p cs, v = .slice (some ⟨g, 0, none⟩) l.length C ∧ B ≤ g ∧ W.heap[g]? = some (.cells cs 5 (p, p + 1)) ∧ l.length ≤ p ∧ ∀ j (h : j < l.length), cs[j]? = some (yB l[j])
theorem bytO_kept {W W' : World} {B : Nat} {v : Value} {l : Bt} {row : Option Nat} (h : BytO W B v l) (hg : W.grownBy W' row) (hr : ∀ r, row = some r → ∀ cs f, W.heap[r]? ≠ some (.cells cs 5 f)) : BytO W' B v l := by
  obtain ⟨g, C, p, cs, e, hB, hc, hp, hj⟩ := h
  exact ⟨g, C, p, cs, e, hB, (hg.block g (Array.getElem?_eq_some_iff.1 hc).1 (fun e => hr g e.symm _ _ hc)).trans hc, hp, hj⟩
theorem bytO_at {W : World} {B : Nat} {v : Value} {l : Bt} (h : BytO W B v l) : ∃ A C, v = .slice A l.length C ∧ BytesAt W A l := by
  obtain ⟨g, C, p, cs, e, hB, hc, hp, hj⟩ := h
  refine ⟨_, C, e, fun i hi => ⟨g, 0, rfl, (Array.getElem?_eq_some_iff.1 hc).1, ?_⟩⟩
  unfold World.cell?
  simp only [hc]
  simp [hj i hi, yB]
set_option maxRecDepth 100000 in
/-- the bytes of a text -/
theorem bytO_made (W : World) (B : Nat) (d : Bt) (hB : B ≤ W.heap.size) : ∃ C W', (convert 9 47 (St d)).run Try.prog W = .ok (.slice (some ⟨W.heap.size, 0, none⟩) d.length C) W' ∧ BytO W' B (.slice (some ⟨W.heap.size, 0, none⟩) d.length C) d ∧ W.grownBy W' none ∧ W'.heap.size = W.heap.size + 1 := by
  have hsz : (⟨d.toArray⟩ : ByteArray).size = d.length := by simp [ByteArray.size]
  have h := run_bytes_of_string (P := Try.prog) W 9 47 5 ⟨d.toArray⟩ Try.underlying9 Try.underlying47 Try.underlying5
  rw [hsz] at h
  refine ⟨_, _, h, ⟨W.heap.size, _, (bytesRow ⟨d.toArray⟩ (grownCap W d.length 0 5)).size, _, rfl, hB, heap_alloc_new W.drew _, ?_, fun j hj => ?_⟩, ⟨rfl, rfl, rfl, by simp, fun i hi _ => heap_alloc_old W.drew _ hi⟩, by simp⟩
  · simp [bytesRow]
  · unfold bytesRow
    rw [Array.getElem?_append_left (by simpa using hj)]
    simp [yB, hj]
/-- a row of bytes, each in a block of its own -/
def FrRow (W : World) (B : Nat) (v : Value) (out : List Bt) (D : Nat → Value) : Prop := W.ownsRow B 47 1 v out.length (lcells D out.length) ∧ ∀ i (h : i < out.length), BytO W B (D i) out[i]
section
variable {W W' : World} {B : Nat} {v : Value} {out : List Bt} {D : Nat → Value}
theorem frRow_kept {row : Option Nat} (h : FrRow W B v out D) (hg : W.grownBy W' row) (hr : ∀ r, row = some r → (∀ cs f, W.heap[r]? ≠ some (.cells cs 47 f)) ∧ ∀ cs f, W.heap[r]? ≠ some (.cells cs 5 f)) : FrRow W' B v out D := by
  refine ⟨h.1.kept hg ?_, fun i hi => bytO_kept (h.2 i hi) hg (fun r e => (hr r e).2)⟩
  cases hv : v.ownBlock with
  | none => exact .inl rfl
  | some b =>
    refine .inr (fun e1 => ?_)
    obtain ⟨_, cs, h2⟩ := own_heap h.1 b hv
    exact (hr b e1.symm).1 _ _ h2
theorem frRow_mono {B' : Nat} (h : FrRow W B v out D) (hB : B' ≤ B) : FrRow W B' v out D :=
  ⟨h.1.mono hB, fun i hi => by obtain ⟨g, C, p, cs, e, hb, r⟩ := h.2 i hi; exact ⟨g, C, p, cs, e, Nat.le_trans hB hb, r⟩⟩
theorem frRow_listQ (h : FrRow W B v out D) : ∃ C cc, v = .slice C out.length cc ∧ ListQ W C out :=
  listQ_of h.1 rfl (fun i hi => by
    obtain ⟨A, C, e, hb⟩ := bytO_at (h.2 i hi)
    exact ⟨A, C, by rw [lcells_at _ _ _ hi, e], hb⟩)
set_option maxRecDepth 100000 in
/-- one row of bytes more -/
theorem frRow_snoc (h : FrRow W B v out D) {d : Bt} {vb : Value} (hb : BytO W B vb d) (hB : B ≤ W.heap.size) (hn : out.length ≤ 100000) : ∃ v' W2, (Builtin.append_ #[26, 26] 26 #[v, .slice (some ⟨W.heap.size, 0, none⟩) 1 1]).run Try.prog (W.alloc (.cells #[vb] 47)) = .ok v' W2 ∧
    FrRow W2 B v' (out ++ [d]) (fun i => if i = out.length then vb else D i) ∧ (W.alloc (.cells #[vb] 47)).grownBy W2 v.ownBlock ∧ ∀ b, v.ownBlock = some b → B ≤ b ∧ ∃ cs, W.heap[b]? = some (.cells cs 47 (0, 0)) := by
  obtain ⟨i0, hi, hz0, hz1, hz2⟩ := info_parts bts_info
  have g1 := World.grownBy_alloc W (.cells #[vb] 47) none
  have h1 := frRow_kept h g1 (fun r e => by cases e)
  have hb1 := bytO_kept hb g1 (fun r e => by cases e)
  have L := lies_new W 47 #[vb]
  have o1 : vb.oneCell' = true := by obtain ⟨g, C, p, cs, e, _⟩ := hb; rw [e]; rfl
  obtain ⟨v', W2, hr, ho, hg, _⟩ := run_append_own (P := Try.prog) (W.alloc (.cells #[vb] 47)) B 26 26 47 i0 _ 1 24 Try.underlying26 hi hz0 hz1 hz2 rfl (by decide) v out.length _ h1.1 ⟨W.heap.size, 0, none⟩ 1 1 [vb] rfl (fun q u hq => by
    match q, hq with
    | 0, hq => injection hq with hq; subst hq; exact lies_cell L 0
    | q + 1, hq => simp at hq) (fun u hu => by simp at hu; subst hu; exact o1) (by unfold maxLen; omega) (by omega) (by simp; omega)
  have hw : ∀ b, v.ownBlock = some b → B ≤ b ∧ ∃ cs, W.heap[b]? = some (.cells cs 47 (0, 0)) := fun b e => own_heap h.1 b e
  have hw1 : ∀ b, v.ownBlock = some b → ∀ cs f, (W.alloc (.cells #[vb] 47)).heap[b]? ≠ some (.cells cs 5 f) := fun b e cs f e2 => by
    obtain ⟨_, cs', e3⟩ := own_heap h1.1 b e
    rw [e3] at e2
    injection e2 with e2
    injection e2 with _ e2 _
    cases e2
  refine ⟨v', W2, hr, ⟨?_, fun i hi => ?_⟩, hg, hw⟩
  · rw [List.length_append, List.length_singleton]
    have e : lcells (fun i => if i = out.length then vb else D i) (out.length + 1) = lcells D out.length ++ [vb] := by
      unfold lcells
      rw [List.range_succ, List.map_append]
      congr 1
      · refine List.map_congr_left (fun i hi => ?_)
        have := List.mem_range.1 hi
        rw [if_neg (by omega)]
      · simp
    rw [e]
    exact ho
  · by_cases e : i = out.length
    · subst e
      show BytO W2 B (if out.length = out.length then vb else D out.length) _
      rw [if_pos rfl, List.getElem_append_right (Nat.le_refl _)]
      simp only [Nat.sub_self, List.getElem_cons_zero]
      exact bytO_kept hb1 hg hw1
    · rw [List.length_append, List.length_singleton] at hi
      show BytO W2 B (if i = out.length then vb else D i) _
      rw [if_neg e, List.getElem_append_left (by omega)]
      exact bytO_kept (h1.2 i (by omega)) hg hw1
end
end Go.Proofs.Ytiglakhfkgeefaa
set_option linter.unusedSimpArgs false
set_option linter.unusedVariables false
namespace Go.Proofs.Ytiglakhfkgeefaa
open Go.Pth Go.Tre Go.RowKit Go.Word Go.Shelf Go.Mat
attribute [local go_sem] Oper.semAt_some
/-- what the first loop keeps -/
structure FrI1 (w1 : World) (KB TB : Nat) (SV : Array Value) (pre : List TxK) (W : World) : Prop where
  st : SetAt W w1.heap.size pre.length (setP pre)
  kb : Lies W KB 75 #[.map (some w1.heap.size)]
  tb : Lies W TB 25 SV
  lo : Below w1.heap.size w1 W
theorem frI1_from {w1 : World} {KB TB B : Nat} {SV : Array Value} (hB : w1.heap.size < B) : OwnFrom B (FrI1 w1 KB TB SV) := fun s W W' row h hg hr =>
  ⟨set_kept h.st hg (fun e => by have := (hr _ e.symm).1; omega), lies_ownFrom h.kb hg hr, lies_ownFrom h.tb hg hr, h.lo.grown hg (Nat.le_of_lt (Nat.lt_of_le_of_lt (Nat.le_refl _) (by have := set_lt h.st; omega))) (fun k e => by have := (hr k e).1; omega)⟩
/-- what the second keeps -/
structure FrI2 (w1 : World) (KB TB FB D1 : Nat) (TV : Array Value) (K0 : Bt → Bool) (k0 : Nat) (pre : List TxK) (W : World) : Prop where
  st : SetAt W w1.heap.size (k0 + pre.length) (frP K0 pre).1
  kb : Lies W KB 75 #[.map (some w1.heap.size)]
  tb : Lies W TB 25 TV
  fb : ∃ v D, Lies W FB 26 #[v] ∧ FrRow W w1.heap.size v (frP K0 pre).2 D
  lo : Below w1.heap.size w1 W
  d1 : W.heap[D1]? = some (.deferred (some []))
theorem frI2_from {w1 : World} {KB TB FB D1 B : Nat} {TV : Array Value} {K0 : Bt → Bool} {k0 : Nat} (hB : w1.heap.size < B) (hD : D1 < B) : OwnFrom B (FrI2 w1 KB TB FB D1 TV K0 k0) := fun s W W' row h hg hr => by
  have hc : ∀ r, row = some r → ∀ cs t f, W.heap[r]? ≠ some (.cells cs t f) := fun r e cs t f e2 => by
    obtain ⟨_, o, ho, hc⟩ := hr r e
    rw [e2] at ho
    injection ho with ho
    subst ho
    cases hc
  obtain ⟨v, D, h1, h2⟩ := h.fb
  exact ⟨set_kept h.st hg (fun e => by have := (hr _ e.symm).1; omega), lies_ownFrom h.kb hg hr, lies_ownFrom h.tb hg hr,
    ⟨v, D, lies_ownFrom h1 hg hr, frRow_kept h2 hg (fun r e => ⟨fun cs f => hc r e cs 47 f, fun cs f => hc r e cs 5 f⟩)⟩,
    h.lo.grown hg (Nat.le_of_lt (by have := set_lt h.st; omega)) (fun k e => by have := (hr k e).1; omega),
    (hg.block D1 (Array.getElem?_eq_some_iff.1 h.d1).1 (fun e => by have := (hr D1 e.symm).1; omega)).trans h.d1⟩
/-- the blocks that the iterator wants as they were -/
def FrQ (w1 : World) (TB i : Nat) : Prop := i < w1.heap.size ∨ i = TB
theorem lies_off {W W' : World} {g t r : Nat} {cs : Array Value} (h : Lies W g t cs) (hg : W.grownBy W' (some r)) (hne : g ≠ r) : Lies W' g t cs := (hg.block g (lies_lt h) (fun e => hne (by injection e))).trans h
theorem lies_map {W : World} {g t b n : Nat} {cs : Array Value} {S : Bt → Bool} (h : Lies W g t cs) (hs : SetAt W b n S) : g ≠ b := fun e => by
  subst e
  obtain ⟨D, ⟨es, clock, h1, _⟩, _⟩ := hs
  rw [show _ = _ from h] at h1
  cases h1
/-- one text more in the set -/
theorem fr_round1 {w1 : World} {KB TB : Nat} {SV : Array Value} {pre : List TxK} {W : World} (h : FrI1 w1 KB TB SV pre W) (x : TxK) (hn : pre.length ≤ 1000) :
    ∃ w2, (Instr.mapUpdate 75 (.map (some w1.heap.size)) (St x.1.2) (.agg #[])).run Try.prog W = .ok () w2 ∧ FrI1 w1 KB TB SV (pre ++ [x]) w2 ∧ W.grownBy w2 (some w1.heap.size) := by
  obtain ⟨w2, hr, hs, hg⟩ := set_put h.st x.1.2 x.2.2 (by omega)
  refine ⟨w2, hr, ⟨?_, lies_off h.kb hg (lies_map h.kb h.st), lies_off h.tb hg (lies_map h.tb h.st), h.lo.grown hg (Nat.le_of_lt (set_lt h.st)) (fun k e => by injection e with e; omega)⟩, hg⟩
  rw [setP_snoc, List.length_append, List.length_singleton]
  exact hs
/-- one content more -/
theorem fr_round2 {w1 : World} {KB TB FB D1 : Nat} {TV : Array Value} {K0 : Bt → Bool} {k0 : Nat} {pre : List TxK} {W : World} (h : FrI2 w1 KB TB FB D1 TV K0 k0 pre W) (x : TxK) (hno : (frP K0 pre).1 x.1.2 = false) (hn : pre.length ≤ 1000) (hk : k0 ≤ 1000) (hFT : FB ≠ KB ∧ FB ≠ TB) (fw : w1.heap.size ≤ FB) :
    ∃ w2 C w3 v v' w5, (Instr.mapUpdate 75 (.map (some w1.heap.size)) (St x.1.2) (.agg #[])).run Try.prog (W.alloc (.cells #[] 76)) = .ok () w2 ∧ (convert 9 47 (St x.1.2)).run Try.prog w2 = .ok (.slice (some ⟨w2.heap.size, 0, none⟩) x.1.2.length C) w3 ∧
      w2.cell? ⟨FB, 0, none⟩ = some v ∧ (Builtin.append_ #[26, 26] 26 #[v, .slice (some ⟨w3.heap.size, 0, none⟩) 1 1]).run Try.prog (w3.alloc (.cells #[.slice (some ⟨w2.heap.size, 0, none⟩) x.1.2.length C] 47)) = .ok v' w5 ∧ w5.cell? ⟨FB, 0, none⟩ = some v ∧ w5.frozen? ⟨FB, 0, none⟩ = false ∧
      FrI2 w1 KB TB FB D1 TV K0 k0 (pre ++ [x]) (w5.setCell ⟨FB, 0, none⟩ v') ∧ (∀ i, i < W.heap.size → FrQ w1 TB i → (w5.setCell ⟨FB, 0, none⟩ v').heap[i]? = W.heap[i]?) ∧ W.heap.size ≤ (w5.setCell ⟨FB, 0, none⟩ v').heap.size ∧
      (∀ B, w1.heap.size < B → FB < B → KeepsFrom B W (w5.setCell ⟨FB, 0, none⟩ v')) ∧ ∃ A k C, v' = .slice A k C := by
  obtain ⟨v, D, hF, hR⟩ := h.fb
  have g0 := World.grownBy_alloc W (.cells #[] 76) none
  have s0 := set_kept h.st g0 (by simp)
  obtain ⟨w2, hr, hs, hg⟩ := set_put s0 x.1.2 x.2.2 (by omega)
  have k0' := lies_alloc h.kb (.cells #[] 76)
  have t0 := lies_alloc h.tb (.cells #[] 76)
  have f0 := lies_alloc hF (.cells #[] 76)
  have k2 := lies_off k0' hg (lies_map k0' s0)
  have t2 := lies_off t0 hg (lies_map t0 s0)
  have f2 := lies_off f0 hg (lies_map f0 s0)
  have r0 := frRow_kept hR g0 (fun r e => by cases e)
  have nm : ∀ cs t f, (W.alloc (.cells #[] 76)).heap[w1.heap.size]? ≠ some (.cells cs t f) := fun cs t f e => by
    obtain ⟨D', ⟨es, clock, h1, _⟩, _⟩ := s0
    rw [e] at h1
    cases h1
  have r2 := frRow_kept r0 hg (fun r e => by injection e with e; subst e; exact ⟨fun cs f => nm cs 47 f, fun cs f => nm cs 5 f⟩)
  have l0 := h.lo.grown g0 h.lo.size (fun k e => by cases e)
  have l2 := l0.grown hg l0.size (fun k e => by injection e with e; omega)
  obtain ⟨C, w3, hc, hb3, g3, z3⟩ := bytO_made w2 w1.heap.size x.1.2 l2.size
  have s3 := set_kept hs g3 (by simp)
  have k3 : Lies w3 KB 75 _ := (g3.block KB (lies_lt k2) (by simp)).trans k2
  have t3 : Lies w3 TB 25 _ := (g3.block TB (lies_lt t2) (by simp)).trans t2
  have f3 : Lies w3 FB 26 _ := (g3.block FB (lies_lt f2) (by simp)).trans f2
  have r3 := frRow_kept r2 g3 (fun r e => by cases e)
  have l3 := l2.grown g3 l2.size (fun k e => by cases e)
  obtain ⟨v', w5, ha, hr5, g5, hv⟩ := frRow_snoc r3 hb3 l3.size (by have := frP_len K0 pre; omega)
  have g4 := World.grownBy_alloc w3 (.cells #[.slice (some ⟨w2.heap.size, 0, none⟩) x.1.2.length C] 47) none
  have s4 := set_kept s3 g4 (by simp)
  have k4 := lies_alloc k3 (.cells #[.slice (some ⟨w2.heap.size, 0, none⟩) x.1.2.length C] 47)
  have t4 := lies_alloc t3 (.cells #[.slice (some ⟨w2.heap.size, 0, none⟩) x.1.2.length C] 47)
  have f4 := lies_alloc f3 (.cells #[.slice (some ⟨w2.heap.size, 0, none⟩) x.1.2.length C] 47)
  have l4 := l3.grown g4 l3.size (fun k e => by cases e)
  have hv4 : ∀ b, v.ownBlock = some b → w1.heap.size ≤ b ∧ ∃ cs, (w3.alloc (.cells #[.slice (some ⟨w2.heap.size, 0, none⟩) x.1.2.length C] 47)).heap[b]? = some (.cells cs 47 (0, 0)) := fun b e => by
    obtain ⟨a1, cs, a2⟩ := hv b e
    exact ⟨a1, cs, (g4.block b (Array.getElem?_eq_some_iff.1 a2).1 (by simp)).trans a2⟩
  have off : ∀ {g t cs}, Lies (w3.alloc (.cells #[.slice (some ⟨w2.heap.size, 0, none⟩) x.1.2.length C] 47)) g t cs → t ≠ 47 → Lies w5 g t cs := fun {g t cs} hl ht => (g5.block g (lies_lt hl) (fun e => by
    obtain ⟨_, cs', a2⟩ := hv4 g e.symm
    rw [show _ = _ from hl] at a2
    injection a2 with a2
    injection a2 with _ a2 _
    exact ht a2)).trans hl
  have s5 := set_kept s4 g5 (fun e => by
    obtain ⟨_, cs', a2⟩ := hv4 _ e.symm
    obtain ⟨D', ⟨es, clock, h1, _⟩, _⟩ := s4
    rw [a2] at h1
    cases h1)
  have k5 := off k4 (by decide)
  have t5 := off t4 (by decide)
  have f5 := off f4 (by decide)
  have l5 := l4.grown g5 l4.size (fun k e => (hv4 k e).1)
  have g6 : w5.grownBy (w5.setCell ⟨FB, 0, none⟩ v') (some FB) := grown_setCell w5 FB 0 v'
  have z4 : w3.heap.size ≤ (w3.alloc (.cells #[.slice (some ⟨w2.heap.size, 0, none⟩) x.1.2.length C] 47)).heap.size := g4.size
  have z2 := hg.size
  have z0 := g0.size
  have z3' := g3.size
  have ch : ∀ i, i < W.heap.size → i ≠ w1.heap.size → v.ownBlock ≠ some i → i ≠ FB → (w5.setCell ⟨FB, 0, none⟩ v').heap[i]? = W.heap[i]? := fun i hi h1 h2 h3 =>
    (g6.block i (Nat.lt_of_lt_of_le hi (by have := g5.size; omega)) (fun e => h3 (by injection e))).trans ((g5.block i (by omega) (fun e => h2 e.symm)).trans ((g4.block i (by omega) (by simp)).trans ((g3.block i (by omega) (by simp)).trans ((hg.block i (by omega) (fun e => h1 (by injection e))).trans (g0.block i hi (by simp))))))
  have ownW : ∀ i, v.ownBlock = some i → w1.heap.size ≤ i ∧ ∃ cs, W.heap[i]? = some (.cells cs 47 (0, 0)) := fun i e => own_heap hR.1 i e
  have zz : W.heap.size ≤ (w5.setCell ⟨FB, 0, none⟩ v').heap.size := by have := g5.size; have := g6.size; omega
  refine ⟨w2, C, w3, v, v', w5, hr, hc, lies_cell f2 0, ha, lies_cell f5 0, lies_free f5 0, ⟨?_, lies_off k5 g6 (Ne.symm hFT.1), lies_off t5 g6 (Ne.symm hFT.2), ⟨v', (fun i => if i = (frP K0 pre).2.length then .slice (some ⟨w2.heap.size, 0, none⟩) x.1.2.length C else D i), lies_set f5 0 v', ?_⟩, l5.grown g6 l5.size (fun k e => by injection e with e; omega), ?_⟩, fun i hi hq => ?_, zz, fun B hB1 hB2 => ⟨zz, fun k o hB hk hco => ?_⟩, by obtain ⟨A, C, e⟩ := own_slice hr5.1; exact ⟨A, _, C, e⟩⟩
  · rw [frP_snoc, List.length_append, List.length_singleton]
    unfold frStep
    rw [if_neg (by simp [hno])]
    exact set_kept s5 g6 (fun e => by injection e with e; exact lies_map f5 s5 e.symm)
  · rw [frP_snoc]
    unfold frStep
    rw [if_neg (by simp [hno])]
    refine frRow_kept hr5 g6 (fun r e => ?_)
    injection e with e
    subst e
    refine ⟨fun cs f e2 => ?_, fun cs f e2 => ?_⟩
    · rw [show _ = _ from f5] at e2
      injection e2 with e2
      injection e2 with _ e2 _
      cases e2
    · rw [show _ = _ from f5] at e2
      injection e2 with e2
      injection e2 with _ e2 _
      cases e2
  · refine (ch D1 (Array.getElem?_eq_some_iff.1 h.d1).1 (fun e => ?_) (fun e => ?_) (fun e => ?_)).trans h.d1
    · obtain ⟨D', ⟨es, clock, h1, _⟩, _⟩ := h.st
      rw [← e, h.d1] at h1
      cases h1
    · obtain ⟨_, cs, h1⟩ := ownW D1 e
      rw [h.d1] at h1
      cases h1
    · have := h.d1
      rw [e, show _ = _ from hF] at this
      cases this
  · rcases hq with hq | hq
    · exact ch i hi (by omega) (fun e => by have := (ownW i e).1; omega) (by omega)
    · subst hq
      refine ch i hi (lies_map h.tb h.st) (fun e => ?_) (Ne.symm hFT.2)
      obtain ⟨_, cs, h1⟩ := ownW i e
      rw [show _ = _ from h.tb] at h1
      injection h1 with h1
      injection h1 with _ h1 _
      cases h1
  · refine (ch k (Array.getElem?_eq_some_iff.1 hk).1 (by omega) (fun e => ?_) (by omega)).trans hk
    obtain ⟨_, cs, h1⟩ := ownW k e
    rw [hk] at h1
    injection h1 with h1
    subst h1
    cases hco
end Go.Proofs.Ytiglakhfkgeefaa
set_option linter.unusedSimpArgs false
set_option linter.unusedVariables false
namespace Go.Proofs.Ytiglakhfkgeefaa
open Go.Pth Go.Tre Go.RowKit Go.Word Go.Shelf Go.Mat
attribute [local go_sem] Oper.semAt_some
theorem wpListIn_app_run {F : Fence} {n : Nat} {P : Program} {Q : Exit → Act → World → Prop} {a : Act} {w w' : World} {ops : Array Oper} {rest : List Oper} {o : Oper} {u s v : Value} {t1 t2 : TypeId} (hgd : o.guard = none) (x y : Operand) (ho : o.op = .call { callee := .builtin .append, args := #[x, y], argTypes := #[t1, t2] }) (hx : a.eval x = u) (hy : a.eval y = s)
    (hab : o.about P w a.eval = none) (hr : (Builtin.append_ #[t1, t2] o.type #[u, s]).run P w = .ok v w') (h : wpListIn F n P ops Q rest (a.put o.dst v) w') : wpListIn F n P ops Q (o :: rest) a w := by
  refine wpListIn_plain hgd fun K hK => ?_
  exact wpIn_turnv (v := v) (w' := w') (fun c h => by rw [ho] at h; cases h) hab (app_op x y ho hx hy hr) (hK _ _ h)
set_option maxRecDepth 100000 in
set_option maxHeartbeats 8000000 in
theorem fresh_in (n : Nat) (hn : 6 ≤ n) (NS FS NT FT : Option Addr) (ns fs nt ft : Nat) (sn tn : List Nd) (sf tf : List Fl) (w : World) (hNS : NodesAt w NS sn) (hFS : FilesAt w FS sf) (hNT : NodesAt w NT tn) (hFT : FilesAt w FT tf)
    (hp : ∀ x ∈ sn, x.path.length ≤ 100000) (hq : ∀ x ∈ tn, x.path.length ≤ 100000) (hok : pairE sn sf tn tf = 0 → (sf.length ≤ 1000 ∧ ∀ x ∈ sf, x.data.length ≤ 100000) ∧ tf.length ≤ 1000 ∧ ∀ x ∈ tf, x.data.length ≤ 100000) :
    CallsIn .wide n Try.prog 14 #[.agg #[.slice NS sn.length ns, .slice FS sf.length fs], .agg #[.slice NT tn.length nt, .slice FT tf.length ft]] w fun e W => ∃ v, e = .returned (.tuple #[v, .int .i64 (pairE sn sf tn tf)]) ∧
      (pairE sn sf tn tf ≠ 0 → v = .slice none 0 0) ∧ (pairE sn sf tn tf = 0 → ∃ D, FrRow W w.heap.size v (freshL sf tf) D) ∧ Below w.heap.size w W := by
  have h1 : 1 ≤ n := by omega
  refine callsIn_of_wp_marks Try.func14 rfl trivial ?_ rfl
  simp only [Try.ntmps14, List.size_toArray, List.length_cons, List.length_nil, Nat.reduceAdd, Nat.reduceSub, Array.replicate_succ, Array.replicate_zero, List.push_toArray, List.append_toArray, List.nil_append, List.cons_append]
  have hmm := @run_makeMap Try.prog
  have B0 : Below w.heap.size w ((w.alloc (.cells #[.slice NS sn.length ns, .slice FS sf.length fs] 25)).alloc (.cells #[.slice NT tn.length nt, .slice FT tf.length ft] 25)) := ((Below.refl _ _).alloc (Nat.le_refl _) _).alloc (by simp) _
  have L0 := lies_alloc (lies_new w 25 #[.slice NS sn.length ns, .slice FS sf.length fs]) (.cells #[.slice NT tn.length nt, .slice FT tf.length ft] 25)
  have L1 := lies_new (w.alloc (.cells #[.slice NS sn.length ns, .slice FS sf.length fs] 25)) 25 #[.slice NT tn.length nt, .slice FT tf.length ft]
  rw [World.size_alloc] at L1
  have Z0 : ((w.alloc (.cells #[.slice NS sn.length ns, .slice FS sf.length fs] 25)).alloc (.cells #[.slice NT tn.length nt, .slice FT tf.length ft] 25)).heap.size = w.heap.size + 2 := by simp
  have K1 := Lib.hid (fun (W : World) (h : Below w.heap.size w W) => pcheck_any NS FS NT FT ns fs nt ft sn tn sf tf W (nodesAt_below hNS h) (filesAt_below hFS h) (nodesAt_below hNT h) (filesAt_below hFT h) hp hq)
  have OK := Lib.hid hok
  obtain ⟨E1, hE1⟩ : ∃ E1, E1 = pairE sn sf tn tf := ⟨_, rfl⟩
  rw [← hE1] at OK
  rw [show (if checkE sn sf = 0 then checkE tn tf else checkE sn sf) = E1 from hE1.symm] at K1
  rw [← hE1]
  have QS := Lib.hid (filesQ_of (Q := fun i => i < w.heap.size) hFS (fun i hi => hi))
  have QT := Lib.hid (filesQ_of (Q := fun i => i < w.heap.size) hFT (fun i hi => hi))
  obtain ⟨xs, hxs⟩ : ∃ xs, xs = sn.length := ⟨_, rfl⟩
  obtain ⟨ys, hys⟩ : ∃ ys, ys = sf.length := ⟨_, rfl⟩
  obtain ⟨xt, hxt⟩ : ∃ xt, xt = tn.length := ⟨_, rfl⟩
  obtain ⟨yt, hyt⟩ : ∃ yt, yt = tf.length := ⟨_, rfl⟩
  rw [← hxs, ← hys, ← hxt, ← hyt] at K1
  rw [← hxs, ← hys, ← hxt, ← hyt] at B0 L0 L1 Z0 ⊢
  have YS := Lib.hid hys
  have YT := Lib.hid hyt
  clear hNS hFS hNT hFT hp hq hok hE1 hxs hys hxt hyt
  have R0 := Lib.hid (lies_range L0)
  have R1 := Lib.hid (lies_range L1)
  replace B0 := Lib.hid B0
  replace L0 := Lib.hid L0
  replace L1 := Lib.hid L1
  replace Z0 := Lib.hid Z0
  gi_upto_region 2 with (first
    | (refine wpListIn_load_mid rfl 25 _ rfl w.heap.size 0 rfl [.slice NS xs ns, .slice FS ys fs] _ R0.out Try.underlying25 rfl (by kernel_rfl) ?_)
    | (refine wpListIn_load_mid rfl 25 _ rfl (w.heap.size + 1) 0 rfl [.slice NT xt nt, .slice FT yt ft] _ R1.out Try.underlying25 rfl (by kernel_rfl) ?_)
    | (refine ⟨trivial, ?_⟩; gi_at_call 30; refine (callsIn_wide.2 (K1.out _ B0.out)).mono ?_; rintro e w1 ⟨rfl, hb⟩; have LL0 := Lib.hid (lies_below L0.out hb (lies_lt L0.out)); have LL1 := Lib.hid (lies_below L1.out hb (lies_lt L1.out)); have B1 := Lib.hid (B0.out.trans (hb.mono B0.out.size)); have H1 := Lib.hid hb.size; clear hb))
  by_cases hz1 : E1 = 0
  · subst hz1
    obtain ⟨⟨oS1, oS2⟩, oT1, oT2⟩ := OK.out rfl
    have R2 := Lib.hid (lies_range LL0.out)
    have Z2 : w.heap.size + 2 ≤ w1.heap.size := by have := H1.out; have := Z0.out; omega
    gi_upto_region 5 with (fail)
    have S0 := set_kept (set_made w1) (World.grownBy_alloc (w1.alloc (.map #[] 0)) (.cells #[.map (some w1.heap.size)] 75) none) (by simp)
    have KB0 := lies_new (w1.alloc (.map #[] 0)) 75 #[.map (some w1.heap.size)]
    rw [World.size_alloc] at KB0
    have BX0 : Below w1.heap.size w1 ((w1.alloc (.map #[] 0)).alloc (.cells #[.map (some w1.heap.size)] 75)) := ((Below.refl _ _).alloc (Nat.le_refl _) _).alloc (by simp) _
    have ZX0 : ((w1.alloc (.map #[] 0)).alloc (.cells #[.map (some w1.heap.size)] 75)).heap.size = w1.heap.size + 2 := by simp
    generalize (w1.alloc (.map #[] 0)).alloc (.cells #[.map (some w1.heap.size)] 75) = X0 at *
    have R3 := Lib.hid (lies_range (lies_below LL0.out BX0 (lies_lt LL0.out)))
    replace S0 := Lib.hid S0
    replace KB0 := Lib.hid KB0
    replace BX0 := Lib.hid BX0
    replace ZX0 := Lib.hid ZX0
    gi_wp2_with (first
      | (refine wpListIn_load_mid rfl 25 _ rfl w.heap.size 0 rfl [.slice NS xs ns, .slice FS ys fs] _ R3.out Try.underlying25 rfl (by kernel_rfl) ?_)
      | (refine ⟨trivial, ?_⟩; gi_at_call 33; refine (texts_in (n - 1) _ _ _).mono ?_; rintro e w' ⟨rfl, rfl⟩))
    obtain ⟨TB, hTB⟩ : ∃ TB, TB = X0.heap.size := ⟨_, rfl⟩
    have LT := lies_new X0 25 #[.slice NS xs ns, .slice FS ys fs]
    have gX := World.grownBy_alloc X0 (.cells #[.slice NS xs ns, .slice FS ys fs] 25) none
    have II : FrI1 w1 (w1.heap.size + 1) TB #[.slice NS xs ns, .slice FS ys fs] [] (X0.alloc (.cells #[.slice NS xs ns, .slice FS ys fs] 25)) :=
      ⟨set_kept S0.out gX (by simp), (gX.block _ (lies_lt KB0.out) (by simp)).trans KB0.out, by rw [hTB]; exact LT, BX0.out.grown gX BX0.out.size (fun k e => by cases e)⟩
    have zX : (X0.alloc (.cells #[.slice NS xs ns, .slice FS ys fs] 25)).heap.size = w1.heap.size + 3 := by simp; have := ZX0.out; omega
    have bX : Below w.heap.size w (X0.alloc (.cells #[.slice NS xs ns, .slice FS ys fs] 25)) := B1.out.trans (II.lo.mono B1.out.size)
    have lt1 : w.heap.size < w1.heap.size := by omega
    have FX2 : FilesQ (X0.alloc (.cells #[.slice NS xs ns, .slice FS ys fs] 25)) (fun i => i < w.heap.size) FS sf := filesQ_same QS.out (fun i hi => bX.block i hi)
    have FX3 : FilesQ (X0.alloc (.cells #[.slice NS xs ns, .slice FS ys fs] 25)) (FrQ w1 TB) FS sf := fun i hi => by
      obtain ⟨b, o, DA, dc, e, hl, h1, h2, h3⟩ := FX2 i hi
      exact ⟨b, o, DA, dc, e, .inl (Nat.lt_trans hl lt1), h1, h2, fun j hj => by obtain ⟨b', o', e', hl', hc'⟩ := h3 j hj; exact ⟨b', o', e', .inl (Nat.lt_trans hl' lt1), hc'⟩⟩
    have TBe : TB = w1.heap.size + 2 := by rw [hTB]; exact ZX0.out
    have hs1 : (X0.alloc (.cells #[.slice NS xs ns, .slice FS ys fs] 25)).cell? ⟨TB, 1, none⟩ = some (.slice FS sf.length fs) := by rw [← YS.out]; exact lies_cell II.tb 1
    rw [← hTB]
    clear hTB
    generalize X0.alloc (.cells #[.slice NS xs ns, .slice FS ys fs] 25) = X at *
    clear FX2 gX LT S0 KB0 BX0 ZX0 R3
    have II2 := Lib.hid II
    have fqlt : ∀ i, FrQ w1 TB i → i < w1.heap.size + 3 := fun i hi => by rcases hi with hi | hi <;> omega
    replace TBe := Lib.hid TBe
    refine wpIn_rangeFunc_ownG rfl h1 (gf := 52) (lb := #[.pointer (some ⟨TB, 0, none⟩)]) rfl trivial (enters_of Try.func52 (by kernel_rfl) rfl)
      (texts_stops (n - 1) (by omega) sf oS2 oS1 TB (FrQ w1 TB) FS fs X hs1 (.inr rfl) (fun i hi => by rw [zX]; exact fqlt i hi) FX3) kq_t (kq_b (fun i hi => by rw [zX]; exact fqlt i hi)) (Below.refl _ _) (fun _ => rfl)
      (FrI1 w1 (w1.heap.size + 1) TB #[.slice NS xs ns, .slice FS ys fs]) (fun _ _ _ => False) (by rw [zX]; exact frI1_from (by omega)) (fun _ _ _ _ _ hs _ _ => hs) II2.out
      (fun x => { tmps := #[.agg #[.slice NS xs ns, .slice FS ys fs], .agg #[.slice NT xt nt, .slice FT yt ft], .pointer (some ⟨w.heap.size, 0, none⟩), .pointer (some ⟨w.heap.size + 1, 0, none⟩), .slice none 0 0, .int .i64 0, .int .i64 0, .pointer (some ⟨w1.heap.size + 1, 0, none⟩), undef, St x.1.2, undef, undef, undef, undef, undef, .agg #[.slice NS xs ns, .slice FS ys fs], .agg #[.slice NT xt nt, .slice FT yt ft], .int .i64 0, .int .i64 0, .bool false, undef, .map (some w1.heap.size), .agg #[.slice NS xs ns, .slice FS ys fs], .func (.func 52) #[] #[.pointer (some ⟨TB, 0, none⟩)], .int .i64 (x.1.1 : Int), St x.1.2, undef, undef, undef, undef, undef, undef, undef, undef, undef, undef, undef, undef, undef, undef, undef, undef, undef, undef, undef, undef, undef, undef, undef], defers := [] })
      ?assign ?body ?done ?stop
    case assign =>
      intro l x W K hK
      dsimp only [encX]
      gi_wp2
      exact hK
    case body =>
      rintro lp pre x W hI hlt
      rw [zX]
      obtain ⟨w2, hup, hI2, hg2⟩ := fr_round1 hI x (by omega)
      have kb := lies_cell hI.kb 0
      simp only [List.getElem?_toArray, List.getElem?_cons_zero] at kb
      have HE := Lib.hid (show KeepsFrom (w1.heap.size + 3) W w2 ∧ KQ (FrQ w1 TB) W w2 ∧ FrI1 w1 (w1.heap.size + 1) TB #[.slice NS xs ns, .slice FS ys fs] (pre ++ [x]) w2 from
        ⟨KeepsFrom.of_grownBy hg2 (fun j e => by injection e with e; omega), ⟨fun i hi => by
          rcases hi with hi | hi
          · have hb := hI.lo.block i hi
            have hb2 := hI2.lo.block i hi
            rw [hb, hb2]
          · subst hi
            have := hI2.tb
            unfold Lies at this
            rw [this]
            exact hI.tb.symm, hg2.size⟩, hI2⟩)
      clear II FX3 hI hI2 hg2 hs1
      gi_wp2
      exact HE.out
    case stop =>
      rintro D c pre W _ _ h _
      exact h.elim
    case done =>
      rintro D1 ys1 W hD1 rfl hI hK1
      have tl := lies_below LL1.out hI.lo (lies_lt LL1.out)
      have R4 := Lib.hid (lies_range tl)
      have gA := World.grownBy_alloc W (.cells #[.slice none 0 0] 26) none
      have hl2 := lies_alloc tl (.cells #[.slice none 0 0] 26)
      have R5 := Lib.hid (lies_range hl2)
      have gB := World.grownBy_alloc (W.alloc (.cells #[.slice none 0 0] 26)) (.cells #[.slice NT xt nt, .slice FT yt ft] 25) none
      have LT2 := lies_new (W.alloc (.cells #[.slice none 0 0] 26)) 25 #[.slice NT xt nt, .slice FT yt ft]
      have LF2 := lies_alloc (lies_new W 26 #[.slice none 0 0]) (.cells #[.slice NT xt nt, .slice FT yt ft] 25)
      rw [World.size_alloc] at LT2
      obtain ⟨k0, hk0⟩ : ∃ k0, k0 = (txL (sf.map Fl.data)).length := ⟨_, rfl⟩
      have k0B : k0 ≤ 1000 := by rw [hk0]; unfold txL; rw [txTo_len, List.length_map]; exact oS1
      have lt2 : w1.heap.size < W.heap.size := set_lt hI.st
      have dlt := (Array.getElem?_eq_some_iff.1 hK1).1
      obtain ⟨FB, hFB⟩ : ∃ FB, FB = W.heap.size := ⟨_, rfl⟩
      rw [← hFB] at LF2
      have I2 : FrI2 w1 (w1.heap.size + 1) (FB + 1) FB D1 #[.slice NT xt nt, .slice FT yt ft] (setP (txL (sf.map Fl.data))) k0 [] ((W.alloc (.cells #[.slice none 0 0] 26)).alloc (.cells #[.slice NT xt nt, .slice FT yt ft] 25)) :=
        ⟨by rw [hk0]; exact set_kept (set_kept hI.st gA (by simp)) gB (by simp), lies_alloc (lies_alloc hI.kb _) _, by rw [hFB]; exact LT2, ⟨_, fun _ => undef, LF2, World.ownsRow_nil _ _ _ _, fun i hi => absurd hi (Nat.not_lt_zero _)⟩,
          (hI.lo.grown gA hI.lo.size (fun k e => by cases e)).grown gB (Nat.le_trans hI.lo.size gA.size) (fun k e => by cases e), (gB.block D1 (by simp; omega) (by simp)).trans ((gA.block D1 dlt (by simp)).trans hK1)⟩
      have zY : ((W.alloc (.cells #[.slice none 0 0] 26)).alloc (.cells #[.slice NT xt nt, .slice FT yt ft] 25)).heap.size = FB + 2 := by simp; omega
      have fb1 : w1.heap.size < FB := by omega
      have d1B : D1 < FB + 2 := by omega
      have bY : Below w.heap.size w ((W.alloc (.cells #[.slice none 0 0] 26)).alloc (.cells #[.slice NT xt nt, .slice FT yt ft] 25)) := B1.out.trans (I2.lo.mono B1.out.size)
      have FY2 : FilesQ ((W.alloc (.cells #[.slice none 0 0] 26)).alloc (.cells #[.slice NT xt nt, .slice FT yt ft] 25)) (fun i => i < w.heap.size) FT tf := filesQ_same QT.out (fun i hi => bY.block i hi)
      have FY3 : FilesQ ((W.alloc (.cells #[.slice none 0 0] 26)).alloc (.cells #[.slice NT xt nt, .slice FT yt ft] 25)) (FrQ w1 (FB + 1)) FT tf := fun i hi => by
        obtain ⟨b, o, DA, dc, e, hl, h1, h2, h3⟩ := FY2 i hi
        exact ⟨b, o, DA, dc, e, .inl (Nat.lt_trans hl lt1), h1, h2, fun j hj => by obtain ⟨b', o', e', hl', hc'⟩ := h3 j hj; exact ⟨b', o', e', .inl (Nat.lt_trans hl' lt1), hc'⟩⟩
      have hs2 : ((W.alloc (.cells #[.slice none 0 0] 26)).alloc (.cells #[.slice NT xt nt, .slice FT yt ft] 25)).cell? ⟨FB + 1, 1, none⟩ = some (.slice FT tf.length ft) := by rw [← YT.out]; exact lies_cell I2.tb 1
      have fq2 : ∀ i, FrQ w1 (FB + 1) i → i < FB + 2 := fun i hi => by rcases hi with hi | hi <;> omega
      replace I2 := Lib.hid I2
      replace FY3 := Lib.hid FY3
      replace hs2 := Lib.hid hs2
      replace zY := Lib.hid zY
      replace hFB := Lib.hid hFB
      clear II FX3 hs1 hI gA gB LT2 LF2 hl2 tl FY2 bY hk0 dlt lt2
      gi_wp2_with (first
        | (refine wpListIn_load_mid rfl 25 _ rfl (w.heap.size + 1) 0 rfl [.slice NT xt nt, .slice FT yt ft] _ R5.out Try.underlying25 rfl (by kernel_rfl) ?_)
        | (refine ⟨trivial, ?_⟩; gi_at_call 33; refine (texts_in (n - 1) _ _ _).mono ?_; rintro e w' ⟨rfl, rfl⟩))
      rw [← hFB.out]
      clear R4 R5
      generalize (W.alloc (.cells #[.slice none 0 0] 26)).alloc (.cells #[.slice NT xt nt, .slice FT yt ft] 25) = Y at *
      refine wpIn_rangeFunc_ownG rfl h1 (gf := 52) (lb := #[.pointer (some ⟨FB + 1, 0, none⟩)]) rfl trivial (enters_of Try.func52 (by kernel_rfl) rfl)
        (texts_stops (n - 1) (by omega) tf oT2 oT1 (FB + 1) (FrQ w1 (FB + 1)) FT ft Y hs2.out (.inr rfl) (fun i hi => by rw [zY.out]; exact fq2 i hi) FY3.out) kq_t (kq_b (fun i hi => by rw [zY.out]; exact fq2 i hi)) (Below.refl _ _) (fun _ => rfl)
        (FrI2 w1 (w1.heap.size + 1) (FB + 1) FB D1 #[.slice NT xt nt, .slice FT yt ft] (setP (txL (sf.map Fl.data))) k0) (fun _ _ _ => False) (by rw [zY.out]; exact frI2_from (by omega) d1B) (fun _ _ _ _ _ hs _ _ => hs) I2.out
        (fun x => { tmps := #[.agg #[.slice NS xs ns, .slice FS ys fs], .agg #[.slice NT xt nt, .slice FT yt ft], .pointer (some ⟨w.heap.size, 0, none⟩), .pointer (some ⟨w.heap.size + 1, 0, none⟩), .slice none 0 0, .int .i64 0, .int .i64 0, .pointer (some ⟨w1.heap.size + 1, 0, none⟩), undef, undef, .pointer (some ⟨FB, 0, none⟩), undef, St x.1.2, undef, undef, .agg #[.slice NS xs ns, .slice FS ys fs], .agg #[.slice NT xt nt, .slice FT yt ft], .int .i64 0, .int .i64 0, .bool false, undef, .map (some w1.heap.size), .agg #[.slice NS xs ns, .slice FS ys fs], .func (.func 52) #[] #[.pointer (some ⟨TB, 0, none⟩)], undef, undef, undef, undef, undef, .agg #[.slice NT xt nt, .slice FT yt ft], .func (.func 52) #[] #[.pointer (some ⟨FB + 1, 0, none⟩)], .int .i64 (x.1.1 : Int), St x.1.2, undef, undef, undef, undef, undef, undef, undef, undef, undef, undef, undef, undef, undef, undef, undef, undef], defers := [] })
        ?assign ?body ?done ?stop
      case assign =>
        intro l x W K hK
        dsimp only [encX]
        gi_wp2
        exact hK
      case stop =>
        rintro D c pre W _ _ h _
        exact h.elim
      case body =>
        rintro lp pre x V hI hlt
        rw [zY.out]
        have kb := lies_cell hI.kb 0
        simp only [List.getElem?_toArray, List.getElem?_cons_zero] at kb
        have lk := set_look hI.st x.1.2 x.2.2
        cases hno : (frP (setP (txL (sf.map Fl.data))) pre).1 x.1.2 with
        | true =>
          rw [hno] at lk
          have gV := World.grownBy_alloc V (.cells #[] 76) none
          have HE := Lib.hid (show KeepsFrom (FB + 2) V (V.alloc (.cells #[] 76)) ∧ KQ (FrQ w1 (FB + 1)) V (V.alloc (.cells #[] 76)) ∧ FrI2 w1 (w1.heap.size + 1) (FB + 1) FB D1 #[.slice NT xt nt, .slice FT yt ft] (setP (txL (sf.map Fl.data))) k0 (pre ++ [x]) (V.alloc (.cells #[] 76)) from by
            refine ⟨KeepsFrom.of_grownBy gV (fun j e => by cases e), ⟨fun i hi => gV.block i ?_ (by simp), gV.size⟩, ?_⟩
            · rcases hi with hi | hi
              · have := hI.lo.size; omega
              · subst hi; exact lies_lt hI.tb
            · have e1 : frP (setP (txL (sf.map Fl.data))) (pre ++ [x]) = frP (setP (txL (sf.map Fl.data))) pre := by
                rw [frP_snoc]
                unfold frStep
                rw [if_pos hno]
              obtain ⟨v, D, h1, h2⟩ := hI.fb
              exact ⟨by rw [e1]; exact set_mono (set_kept hI.st gV (by simp)) (by rw [List.length_append]; omega), lies_alloc hI.kb _, lies_alloc hI.tb _, ⟨v, D, lies_alloc h1 _, by rw [e1]; exact frRow_kept h2 gV (fun r e => by cases e)⟩, hI.lo.grown gV hI.lo.size (fun k e => by cases e), (gV.block D1 (Array.getElem?_eq_some_iff.1 hI.d1).1 (by simp)).trans hI.d1⟩)
          clear hI hno
          gi_wp2
          exact HE.out
        | false =>
          rw [hno] at lk
          have plen : pre.length ≤ 1000 := by omega
          obtain ⟨w2, C, w3, v, v', w5, hup, hcv, hc2, hap, hc5, hz5, hI5, hq5, hs5, hk5, A', k', C', rfl⟩ := fr_round2 hI x hno plen k0B ⟨by omega, by omega⟩ (by omega)
          have kb1 : (V.alloc (.cells #[] 76)).cell? ⟨w1.heap.size + 1, 0, none⟩ = some (.map (some w1.heap.size)) := by
            have := lies_cell (lies_alloc hI.kb (.cells #[] 76)) 0
            simpa using this
          have hc3 : w2.cell? ⟨FB, 0, none⟩ = some v := hc2
          have HE := Lib.hid (show KeepsFrom (FB + 2) V (w5.setCell ⟨FB, 0, none⟩ (.slice A' k' C')) ∧ KQ (FrQ w1 (FB + 1)) V (w5.setCell ⟨FB, 0, none⟩ (.slice A' k' C')) ∧ FrI2 w1 (w1.heap.size + 1) (FB + 1) FB D1 #[.slice NT xt nt, .slice FT yt ft] (setP (txL (sf.map Fl.data))) k0 (pre ++ [x]) (w5.setCell ⟨FB, 0, none⟩ (.slice A' k' C')) from
            ⟨hk5 (FB + 2) (by omega) (by omega), ⟨fun i hi => hq5 i (by
              rcases hi with hi | hi
              · have := hI.lo.size; omega
              · subst hi; exact lies_lt hI.tb) hi, hs5⟩, hI5⟩)
          clear hI hno hI5 hq5 hs5 hk5 hc2
          gi_wp2_with (refine wpListIn_app_run (u := v) (s := .slice (some ⟨w3.heap.size, 0, none⟩) 1 1) (t1 := 26) (t2 := 26) rfl (.tmp 43) (.tmp 46) rfl rfl rfl rfl hap ?_)
          exact HE.out
      case done =>
        rintro D2 ys2 V hD2 rfl hI hK2
        rw [zY.out] at hD2
        obtain ⟨v, D, hv, hR⟩ := hI.fb
        have hcv := lies_cell hv 0
        simp only [List.getElem?_toArray, List.getElem?_cons_zero] at hcv
        have hDD : D1 ≠ D2 := by omega
        have gP := grownBy_putObj' V D2 (.deferred none)
        have q1 : (V.putObj D2 (.deferred none)).heap[D1]? = some (.deferred (some [])) := (gP.block D1 (Array.getElem?_eq_some_iff.1 hI.d1).1 (fun e => by injection e with e; exact hDD e)).trans hI.d1
        have gR := grownBy_putObj' (V.putObj D2 (.deferred none)) D1 (.deferred none)
        have R1' := frRow_kept hR gP (fun r e => by injection e with e; subst e; exact ⟨fun cs f h => (by rw [hK2] at h; cases h), fun cs f h => (by rw [hK2] at h; cases h)⟩)
        have R2' := frRow_kept R1' gR (fun r e => by injection e with e; subst e; exact ⟨fun cs f h => (by rw [q1] at h; cases h), fun cs f h => (by rw [q1] at h; cases h)⟩)
        have L1' := hI.lo.grown gP hI.lo.size (fun k e => by injection e with e; omega)
        have L2' := L1'.grown gR L1'.size (fun k e => by injection e with e; rw [zX] at hD1; omega)
        have FIN := Lib.hid (show (∃ D, FrRow ((V.putObj D2 (.deferred none)).putObj D1 (.deferred none)) w.heap.size v (freshL sf tf) D) ∧ Below w.heap.size w ((V.putObj D2 (.deferred none)).putObj D1 (.deferred none)) from
          ⟨⟨D, frRow_mono R2' (by omega)⟩, B1.out.trans (L2'.mono B1.out.size)⟩)
        clear hI hR R1' R2' L1' L2' gP gR hv
        gi_wp2
        refine ⟨by simp, .inl ⟨_, _, rfl, run_takeDeferred hK2, ?_⟩⟩
        refine ⟨by simp, .inl ⟨_, _, rfl, run_takeDeferred q1, ?_⟩⟩
        first
          | exact ⟨.tuple #[v, .int .i64 0], by simp [results, Try.f14, go_sem], v, rfl, fun h => absurd rfl h, fun _ => FIN.out.1, FIN.out.2⟩
          | exact ⟨.tuple #[v, .int .i64 0], by simp [results, Try.f14, go_sem], v, rfl, FIN.out.1, FIN.out.2⟩
  · have hE : (E1 != 0) = true := by simpa using hz1
    have hE2 : (E1 == 0) = false := by simpa using hz1
    gi_wp2
    exact ⟨.tuple #[.slice none 0 0, .int .i64 E1], by simp [results, Try.f14, go_sem], .slice none 0 0, rfl, fun _ => rfl, fun h => absurd h hz1, B1.out⟩
end Go.Proofs.Ytiglakhfkgeefaa
set_option linter.unusedSimpArgs false
set_option linter.unusedVariables false
namespace Go.Proofs.Ytiglakhfkgeefaa
open Go.Pth Go.Tre Go.RowKit Go.Word Go.Shelf Go.Mat
section
variable (NS FS NT FT : Option Addr) (ns fs nt ft : Nat) (sn tn : List Nd) (sf tf : List Fl) (w : World) (hNS : NodesAt w NS sn) (hFS : FilesAt w FS sf) (hNT : NodesAt w NT tn) (hFT : FilesAt w FT tf) (hs : Small sn sf) (ht : Small tn tf)
include hNS hFS hNT hFT hs ht
theorem fresh_small : Calls Try.prog 14 #[.agg #[.slice NS sn.length ns, .slice FS sf.length fs], .agg #[.slice NT tn.length nt, .slice FT tf.length ft]] w fun e W => ∃ v, e = .returned (.tuple #[v, .int .i64 (pairE sn sf tn tf)]) ∧
      (pairE sn sf tn tf ≠ 0 → v = .slice none 0 0) ∧ (pairE sn sf tn tf = 0 → ∃ D, FrRow W w.heap.size v (freshL sf tf) D) ∧ Below w.heap.size w W :=
  (callsIn_wide (n := 6)).1 (fresh_in 6 (by omega) NS FS NT FT ns fs nt ft sn tn sf tf w hNS hFS hNT hFT (fun x hx => by have := hs.2.2.1 x hx; omega) (fun x hx => by have := ht.2.2.1 x hx; omega)
    (fun _ => ⟨⟨by have := hs.2.1; omega, fun x hx => by have := hs.2.2.2 x hx; omega⟩, by have := ht.2.1; omega, fun x hx => by have := ht.2.2.2 x hx; omega⟩))
theorem fresh_ok (he : pairE sn sf tn tf = 0) : Calls Try.prog 14 #[.agg #[.slice NS sn.length ns, .slice FS sf.length fs], .agg #[.slice NT tn.length nt, .slice FT tf.length ft]] w fun e W => (∃ A C D, e = .returned (.tuple #[.slice A (freshL sf tf).length C, .int .i64 0]) ∧ FrRow W w.heap.size (.slice A (freshL sf tf).length C) (freshL sf tf) D) ∧ Below w.heap.size w W :=
  (fresh_small NS FS NT FT ns fs nt ft sn tn sf tf w hNS hFS hNT hFT hs ht).mono (by
    rintro e W ⟨v, rfl, _, h2, hb⟩
    obtain ⟨D, hD⟩ := h2 he
    obtain ⟨A, C, e1⟩ := own_slice hD.1
    subst e1
    exact ⟨⟨A, C, D, by rw [he], hD⟩, hb⟩)
theorem fresh_no (he : pairE sn sf tn tf ≠ 0) : Calls Try.prog 14 #[.agg #[.slice NS sn.length ns, .slice FS sf.length fs], .agg #[.slice NT tn.length nt, .slice FT tf.length ft]] w fun e W => e = .returned (.tuple #[.slice none 0 0, .int .i64 (pairE sn sf tn tf)]) ∧ Below w.heap.size w W :=
  (fresh_small NS FS NT FT ns fs nt ft sn tn sf tf w hNS hFS hNT hFT hs ht).mono (by
    rintro e W ⟨v, rfl, h1, _, hb⟩
    rw [h1 he]
    exact ⟨rfl, hb⟩)
end
theorem bool_info : (Try.prog.info? 4).map (fun i => (i.zero, i.size, i.bytes)) = some (some (.bool false), 1, 1) := by kernel_rfl
theorem made_bools (w : World) (k : Nat) (hk : k ≤ 1000) : (Instr.makeSlice 50 (.int .i64 (k : Int)) (.int .i64 (k : Int))).run Try.prog w = .ok (.slice (some ⟨w.heap.size, 0, none⟩) k k) (w.alloc (.cells (madeCells #[.bool false] k) 4)) := by
  obtain ⟨i, hi, hz, hs, hb⟩ := info_parts bool_info
  have h := run_make (P := Try.prog) w 50 4 i (.bool false) Try.underlying50 hi hz .i64 .i64 k k (by omega) (Int.le_refl _) (by rw [hb]; omega) (by omega)
  rw [hs, Nat.mul_one] at h
  exact h
end Go.Proofs.Ytiglakhfkgeefaa
