/-
What is proved here: nodes that get their files' new numbers one by one, and the files in their new order, as they lie in memory.
-/
import Derived.Test.YtjagddhkoacipaaMa13
import Derived.Test.YtjagddhkoacipaaMa12
set_option linter.unusedSimpArgs false
set_option linter.unusedVariables false
namespace Go.Tre
open Go.Pth Go.Op
/-- the nodes of which the first j have their new numbers -/
def cur (m : Nat) (ms : List Nd) (j : Nat) : List Nd := setN m (ms.take j) ++ ms.drop j
theorem setN_len (m : Nat) (ns : List Nd) : (setN m ns).length = ns.length := setA_len m ns []
theorem cur_len (m : Nat) (ms : List Nd) (j : Nat) : (cur m ms j).length = ms.length := by
  unfold cur
  rw [List.length_append, setN_len, List.length_take, List.length_drop]
  omega
theorem cur_first (m : Nat) (ms : List Nd) : cur m ms 0 = ms := by unfold cur; simp [setN, setA]
theorem cur_last (m : Nat) (ms : List Nd) (j : Nat) (h : ms.length ≤ j) : cur m ms j = setN m ms := by
  unfold cur
  rw [List.take_of_length_le h, List.drop_of_length_le h, List.append_nil]
theorem cur_get {m : Nat} {ms : List Nd} {j : Nat} (h : j < ms.length) : (cur m ms j)[j]'(by rw [cur_len]; exact h) = ms[j] := by
  unfold cur
  rw [List.getElem_append_right (by rw [setN_len, List.length_take]; omega)]
  simp only [setN_len, List.length_take, List.getElem_drop]
  congr 1
  omega
theorem cur_step {m : Nat} {ms : List Nd} {j : Nat} (h : j < ms.length) : cur m ms (j + 1) = (cur m ms j).set j (numT m (ordF m (ms.take (j + 1))) ms[j]) := by
  unfold cur
  rw [List.set_append_right _ _ (by rw [setN_len, List.length_take]; omega), List.take_succ_eq_append_getElem h, setN_snoc, List.append_assoc]
  congr 1
  rw [setN_len, List.length_take, show j - min j ms.length = 0 by omega, List.drop_eq_getElem_cons h]
  rfl
theorem cur_no {m : Nat} {ms : List Nd} {j : Nat} (h : j < ms.length) (hf : hasF m ms[j] = false) : cur m ms (j + 1) = cur m ms j := by
  rw [cur_step h]
  unfold numT
  rw [if_neg (by simp [hf])]
  apply List.ext_getElem?
  intro i
  have hl : j < (cur m ms j).length := by rw [cur_len]; exact h
  rw [List.getElem?_set]
  by_cases e : j = i
  · subst e
    rw [if_pos rfl, if_pos hl, List.getElem?_eq_getElem hl, cur_get h]
  · rw [if_neg e]
theorem ord_step {m : Nat} {ms : List Nd} {j : Nat} (h : j < ms.length) : ordF m (ms.take (j + 1)) = ordT m (ordF m (ms.take j)) ms[j] := by
  rw [List.take_succ_eq_append_getElem h, ordF_snoc]
theorem ord_no {m : Nat} {ms : List Nd} {j : Nat} (h : j < ms.length) (hf : hasF m ms[j] = false) : ordF m (ms.take (j + 1)) = ordF m (ms.take j) := by
  rw [ord_step h, ordT, if_neg (by simp [hf])]
theorem ord_old {m : Nat} {ms : List Nd} {j : Nat} (h : j < ms.length) (hf : ms[j].file ∈ ordF m (ms.take j)) : ordF m (ms.take (j + 1)) = ordF m (ms.take j) := by
  rw [ord_step h, ordT, if_neg (fun hc => hc.2 hf)]
theorem ord_new {m : Nat} {ms : List Nd} {j : Nat} (h : j < ms.length) (hh : hasF m ms[j] = true) (hf : ms[j].file ∉ ordF m (ms.take j)) : ordF m (ms.take (j + 1)) = ordF m (ms.take j) ++ [ms[j].file] := by
  rw [ord_step h, ordT, if_pos ⟨hh, hf⟩]
theorem setF_eq (ns : List Nd) (fs : List Fl) : setF ns fs = (ordF fs.length ns).map fun f => fs.getD f.toNat ⟨0, []⟩ := rfl
theorem setF_size (ns : List Nd) (fs : List Fl) : (setF ns fs).length = (ordF fs.length ns).length := by rw [setF_eq, List.length_map]
theorem setF_new {ms : List Nd} {fs : List Fl} {j : Nat} (h : j < ms.length) (hh : hasF fs.length ms[j] = true) (hf : ms[j].file ∉ ordF fs.length (ms.take j)) : setF (ms.take (j + 1)) fs = setF (ms.take j) fs ++ [fs.getD ms[j].file.toNat ⟨0, []⟩] := by
  rw [setF_eq, setF_eq, ord_new h hh hf, List.map_append]
  rfl
theorem setF_getD (ns : List Nd) (fs : List Fl) (i : Nat) (h : i < (ordF fs.length ns).length) : (setF ns fs).getD i ⟨0, []⟩ = fs.getD ((ordF fs.length ns).getD i 0).toNat ⟨0, []⟩ := by
  rw [setF_eq, List.getD_eq_getElem?_getD, List.getElem?_map, List.getElem?_eq_getElem h, List.getD_eq_getElem?_getD (l := ordF _ _), List.getElem?_eq_getElem h]
  rfl
end Go.Tre
namespace Go.Proofs.Ytjagddhkoacipaa
open Go.Pth Go.Tre Go.RowKit Go.Word Go.Shelf
/-- the files' rows in their new order -/
def newD (D : Nat → Value) (o : List Int) : Nat → Value := fun i => D (o.getD i 0).toNat
structure StlAt (w : World) (B xs : Nat) (vN vF v3 : Value) (D : Nat → Value) (ms : List Nd) (fs : List Fl) (j : Nat) : Prop where
  nodes : w.ownsRow B 54 3 vN ms.length (ncells (cur fs.length ms j))
  olds : w.ownsRow B 57 2 vF fs.length (fcells D fs)
  news : w.ownsRow xs 57 2 v3 (ordF fs.length (ms.take j)).length (fcells (newD D (ordF fs.length (ms.take j))) (setF (ms.take j) fs))
  data : ∀ i, i < fs.length → OwnB w B (D i) (fs.getD i ⟨0, []⟩).data
  apart : ∀ i k, i < k → k < fs.length → ∀ b, (D i).ownBlock = some b → (D k).ownBlock ≠ some b
  before : ∀ r, vF.ownBlock = some r → r < xs
section
variable {w w' : World} {B xs : Nat} {vN vF v3 : Value} {D : Nat → Value} {ms : List Nd} {fs : List Fl} {j : Nat}
theorem stl_first {ns : List Nd} (h : CopyAt w B vN vF D ms fs) (hx : ∀ r, vF.ownBlock = some r → r < xs) : StlAt w B xs vN vF (.slice none 0 0) D ms fs 0 where
  nodes := by rw [cur_first]; exact h.nodes
  olds := h.files
  news := by
    simp only [List.take_zero]
    exact World.ownsRow_nil _ _ _ _
  data := h.data
  apart := h.apart
  before := hx
theorem stl_below (h : StlAt w B xs vN vF v3 D ms fs j) (hb : Below w.heap.size w w') : StlAt w' B xs vN vF v3 D ms fs j where
  nodes := ownsRow_below h.nodes hb
  olds := ownsRow_below h.olds hb
  news := ownsRow_below h.news hb
  data := fun i hi => ownsRow_below (h.data i hi) hb
  apart := h.apart
  before := h.before
/-- a block that is no row is turned -/
theorem stl_map {b : Nat} {q : Obj} (h : StlAt w B xs vN vF v3 D ms fs j) (hq : w.heap[b]? = some q) (hw : q.isWalk = true) (hg : w.grownBy w' (some b)) : StlAt w' B xs vN vF v3 D ms fs j := by
  have no : ∀ {B e size : Nat} {v : Value} {n : Nat} {xs : List Value}, w.ownsRow B e size v n xs → (v.ownBlock = none ∨ v.ownBlock ≠ some b) := fun {B e size v n xs} h1 => by
    cases hv : v.ownBlock with
    | none => exact .inl rfl
    | some r =>
      refine .inr (fun e => ?_)
      injection e with e
      subst e
      obtain ⟨_, cs, h2⟩ := own_heap h1 r hv
      rw [hq] at h2
      injection h2 with h2
      subst h2
      cases hw
  exact ⟨h.nodes.kept hg (no h.nodes), h.olds.kept hg (no h.olds), h.news.kept hg (no h.news), fun i hi => World.ownsRow.kept (h.data i hi) hg (no (h.data i hi)), h.apart, h.before⟩
theorem stl_no (h : StlAt w B xs vN vF v3 D ms fs j) (hj : j < ms.length) (hf : hasF fs.length ms[j] = false) : StlAt w B xs vN vF v3 D ms fs (j + 1) where
  nodes := by rw [cur_no hj hf]; exact h.nodes
  olds := h.olds
  news := by
    rw [setF_eq, ord_no hj hf, ← setF_eq]
    exact h.news
  data := h.data
  apart := h.apart
  before := h.before
/-- the node's new number is stored -/
theorem stl_store {g C : Nat} (nodes : w.ownsRow B 54 3 (.slice (some ⟨g, 0, none⟩) ms.length C) ms.length (ncells (cur fs.length ms j))) (olds : w.ownsRow B 57 2 vF fs.length (fcells D fs)) (data : ∀ i, i < fs.length → OwnB w B (D i) (fs.getD i ⟨0, []⟩).data)
    (apart : ∀ i k, i < k → k < fs.length → ∀ b, (D i).ownBlock = some b → (D k).ownBlock ≠ some b) (before : ∀ r, vF.ownBlock = some r → r < xs) (hj : j < ms.length) (hh : hasF fs.length ms[j] = true)
    (hn : w.ownsRow xs 57 2 v3 (ordF fs.length (ms.take (j + 1))).length (fcells (newD D (ordF fs.length (ms.take (j + 1)))) (setF (ms.take (j + 1)) fs))) :
    StlAt (w.setCell ⟨g, j * 3 + 1, none⟩ (.int .i64 ((ordF fs.length (ms.take (j + 1))).idxOf ms[j].file : Nat))) B xs (.slice (some ⟨g, 0, none⟩) ms.length C) vF v3 D ms fs (j + 1) := by
  obtain ⟨s1, s2⟩ := nodes.stored (j * 3 + 1) (.int .i64 ((ordF fs.length (ms.take (j + 1))).idxOf ms[j].file : Nat))
  obtain ⟨_, cs, hg⟩ := own_heap nodes g rfl
  have ot : ∀ (t : TypeId) (r : Nat), t ≠ 54 → some g = some r → ∃ cs t', w.heap[r]? = some (.cells cs t' (0, 0)) ∧ t' ≠ t := fun t r ht e => by
    injection e with e
    subst e
    exact ⟨cs, 54, hg, fun e => ht e.symm⟩
  refine ⟨?_, olds.kept s2 (own_other olds (fun r e => ot 57 r (by decide) e)), hn.kept s2 (own_other hn (fun r e => ot 57 r (by decide) e)), fun i hi => World.ownsRow.kept (data i hi) s2 (own_other (data i hi) (fun r e => ot 5 r (by decide) e)), apart, before⟩
  have e := ncells_set 1 (.int .i64 ((ordF fs.length (ms.take (j + 1))).idxOf ms[j].file : Nat)) (fun _ => numT fs.length (ordF fs.length (ms.take (j + 1))) ms[j]) (by decide) (cur fs.length ms j) j (by rw [cur_len]; exact hj) (by
    rw [cur_get hj]
    unfold numT
    rw [if_pos hh]
    rfl)
  rw [cur_step hj, ← e]
  exact s1
theorem stl_old (h : StlAt w B xs vN vF v3 D ms fs j) (hj : j < ms.length) (hf : ms[j].file ∈ ordF fs.length (ms.take j)) : w.ownsRow xs 57 2 v3 (ordF fs.length (ms.take (j + 1))).length (fcells (newD D (ordF fs.length (ms.take (j + 1)))) (setF (ms.take (j + 1)) fs)) := by
  rw [setF_eq, ord_old hj hf, ← setF_eq]
  exact h.news
/-- a file more -/
theorem stl_app {w1 : World} {v3' : Value} (h : StlAt w B xs vN vF v3 D ms fs j) (hj : j < ms.length) (hh : hasF fs.length ms[j] = true) (hf : ms[j].file ∉ ordF fs.length (ms.take j)) (hg : w.grownBy w1 v3.ownBlock)
    (ho : w1.ownsRow xs 57 2 v3' ((ordF fs.length (ms.take j)).length + 1) (fcells (newD D (ordF fs.length (ms.take j))) (setF (ms.take j) fs) ++ [.int .i64 (fs.getD ms[j].file.toNat ⟨0, []⟩).mode, D ms[j].file.toNat])) :
    w1.ownsRow B 54 3 vN ms.length (ncells (cur fs.length ms j)) ∧ w1.ownsRow B 57 2 vF fs.length (fcells D fs) ∧ (∀ i, i < fs.length → OwnB w1 B (D i) (fs.getD i ⟨0, []⟩).data) ∧
    w1.ownsRow xs 57 2 v3' (ordF fs.length (ms.take (j + 1))).length (fcells (newD D (ordF fs.length (ms.take (j + 1)))) (setF (ms.take (j + 1)) fs)) := by
  have ot : ∀ (t : TypeId) (r : Nat), t ≠ 57 → v3.ownBlock = some r → ∃ cs t', w.heap[r]? = some (.cells cs t' (0, 0)) ∧ t' ≠ t := fun t r ht e => by
    obtain ⟨_, cs, h2⟩ := own_heap h.news r e
    exact ⟨cs, 57, h2, fun e => ht e.symm⟩
  refine ⟨h.nodes.kept hg (own_other h.nodes (fun r e => ot 54 r (by decide) e)), h.olds.kept hg ?_, fun i hi => World.ownsRow.kept (h.data i hi) hg (own_other (h.data i hi) (fun r e => ot 5 r (by decide) e)), ?_⟩
  · cases hv : vF.ownBlock with
    | none => exact .inl rfl
    | some r =>
      refine .inr (fun e => ?_)
      have h1 := h.before r hv
      have h2 := (own_heap h.news r e.symm).1
      omega
  · rw [setF_new hj hh hf, ord_new hj hh hf, fcells_snoc (newD D (ordF fs.length (ms.take j))) _ _ _ (fun i hi => ?_)]
    · rw [List.length_append]
      have e : newD D (ordF fs.length (ms.take j) ++ [ms[j].file]) (setF (ms.take j) fs).length = D ms[j].file.toNat := by
        unfold newD
        rw [setF_size, List.getD_eq_getElem?_getD, List.getElem?_append_right (Nat.le_refl _)]
        simp
      rw [e]
      exact ho
    · unfold newD
      rw [setF_size] at hi
      rw [List.getD_eq_getElem?_getD, List.getD_eq_getElem?_getD, List.getElem?_append_left hi]
/-- the end: a tree in memory of its own -/
theorem stl_last (h : StlAt w B xs vN vF v3 D ms fs j) (hj : ms.length ≤ j) (hB : B ≤ xs) : CopyAt w B vN v3 (newD D (ordF fs.length ms)) (setN fs.length ms) (setF ms fs) := by
  have hn := h.news
  rw [List.take_of_length_le hj] at hn
  have fit := ordF_in fs.length ms
  have nd := ordF_nodup fs.length ms
  have get : ∀ i, i < (ordF fs.length ms).length → ∃ f : Nat, f < fs.length ∧ (ordF fs.length ms).getD i 0 = (f : Int) := fun i hi => by
    have e : (ordF fs.length ms).getD i 0 = (ordF fs.length ms)[i] := by rw [List.getD_eq_getElem?_getD, List.getElem?_eq_getElem hi]; rfl
    have := fit _ (List.getElem_mem hi)
    exact ⟨((ordF fs.length ms)[i]).toNat, by omega, by rw [e]; omega⟩
  refine ⟨?_, ?_, fun i hi => ?_, fun i k hik hk => ?_⟩
  · have := h.nodes
    rw [cur_last _ _ _ hj] at this
    rw [setN_len]
    exact this
  · rw [setF_size]
    exact hn.mono hB
  · rw [setF_size] at hi
    obtain ⟨f, hf, e⟩ := get i hi
    rw [setF_getD ms fs i hi]
    unfold newD
    rw [e, Int.toNat_natCast]
    exact h.data f hf
  · rw [setF_size] at hk
    obtain ⟨f, hf, e⟩ := get i (by omega)
    obtain ⟨f', hf', e'⟩ := get k hk
    have ne : f ≠ f' := fun e2 => by
      subst e2
      have h1 : (ordF fs.length ms)[i]'(by omega) = (ordF fs.length ms)[k] := by
        have a1 : (ordF fs.length ms).getD i 0 = (ordF fs.length ms)[i]'(by omega) := by rw [List.getD_eq_getElem?_getD, List.getElem?_eq_getElem (by omega)]; rfl
        have a2 : (ordF fs.length ms).getD k 0 = (ordF fs.length ms)[k] := by rw [List.getD_eq_getElem?_getD, List.getElem?_eq_getElem hk]; rfl
        rw [← a1, ← a2, e, e']
      exact (List.pairwise_iff_getElem.1 nd i k (by omega) hk hik) h1
    unfold newD
    rw [e, e', Int.toNat_natCast, Int.toNat_natCast]
    intro b hb
    rcases Nat.lt_or_gt_of_ne ne with h1 | h1
    · exact h.apart f f' h1 hf' b hb
    · exact fun h2 => h.apart f' f h1 hf b h2 hb
end
end Go.Proofs.Ytjagddhkoacipaa
