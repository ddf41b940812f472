/-
What is proved here: a map of numbers by text, and a shelf: a map of rows of numbers by text, by their operations.
-/
import Derived.Test.YtiglakhfkgeefaaGro
import Derived.Test.YtiglakhfkgeefaaChk
import Derived.Test.YtiglakhfkgeefaaFI
set_option linter.unusedSimpArgs false
set_option linter.unusedVariables false
namespace Go.Mat
open Go.Pth
def updF {α : Type} (F : Bt → α) (l : Bt) (z : α) : Bt → α := fun x => if x = l then z else F x
theorem updF_same {α : Type} (F : Bt → α) (l : Bt) (z : α) : updF F l z l = z := if_pos rfl
theorem updF_other {α : Type} {F : Bt → α} {l x : Bt} {z : α} (h : x ≠ l) : updF F l z x = F x := if_neg h
end Go.Mat
namespace Go.Proofs.Ytiglakhfkgeefaa
open Go.Pth Go.Tre Go.RowKit Go.Word Go.Mat
open Go.ChangeShapes (lits)
theorem wf_int {z : Int} (h1 : -9223372036854775808 ≤ z) (h2 : z ≤ 9223372036854775807) : (Lit.int .i64 z).wf = true := by
  have e1 : IntKind.i64.min = -9223372036854775808 := by decide
  have e2 : IntKind.i64.max = 9223372036854775807 := by decide
  simp only [Lit.wf, Bool.and_eq_true, decide_eq_true_eq, e1, e2]
  exact ⟨h1, h2⟩
/-- block b is a map of at most n numbers by text, F -/
def NumM (w : World) (b n : Nat) (F : Bt → Option Int) : Prop := ∃ D : DataW Unit, w.ownsMap Try.prog 9 (plainElem Try.prog 3) b n D ∧ ∀ x : Bt, x.length ≤ 100000 → Maps.has D (.string x) = (F x).isSome ∧ ∀ z, F x = some z → D.atKey (.string x) (.lit (.int .i64 0)) = .lit (.int .i64 z)
section
variable {w w' : World} {b n : Nat} {F : Bt → Option Int}
theorem numM_made (w : World) : NumM (w.alloc (.map #[] 0)) w.heap.size 0 (fun _ => none) := ⟨.map [], World.ownsMap_made _ _ _ _, fun l _ => ⟨by simp; rfl, fun z h => by cases h⟩⟩
theorem numM_same (h : NumM w b n F) (hb : w'.heap[b]? = w.heap[b]?) : NumM w' b n F := by
  obtain ⟨D, ⟨es, clock, h1, h2⟩, h3⟩ := h
  exact ⟨D, ⟨es, clock, hb.trans h1, h2⟩, h3⟩
theorem numM_lt (h : NumM w b n F) : b < w.heap.size := by
  obtain ⟨D, h1, _⟩ := h
  exact h1.lt
theorem numM_below (h : NumM w b n F) (hb : Below w.heap.size w w') : NumM w' b n F := numM_same h (hb.block b (numM_lt h))
theorem numM_walk (h : NumM w b n F) : ∃ q : Obj, w.heap[b]? = some q ∧ q.isWalk = true := by
  obtain ⟨D, ⟨es, clock, h1, _⟩, _⟩ := h
  exact ⟨_, h1, rfl⟩
set_option maxRecDepth 100000 in
theorem numM_look (h : NumM w b n F) (l : Bt) (hl : l.length ≤ 100000) : ∃ c : Int, (Instr.lookup 85 (.map (some b)) (St l) true).run Try.prog w = .ok (.tuple #[.int .i64 c, .bool (F l).isSome]) w ∧ ∀ z, F l = some z → c = z := by
  obtain ⟨D, h1, h2⟩ := h
  obtain ⟨v, ps, hr, hv⟩ := h1.look_ok keyed9 Try.underlying85 (Try.zeroValue3 w) (plainElem_int Try.underlying3 (by decide)) (key_st l hl)
  obtain ⟨c, rfl, hc, hwc⟩ := plainElem_int_inv Try.underlying3 hv
  simp only [Prod.mk.injEq] at hc
  refine ⟨c, by rw [hr, (h2 l hl).1], fun z hm => ?_⟩
  have := hc.1.symm.trans ((h2 l hl).2 z hm)
  simp only [DataW.lit.injEq, Lit.int.injEq, true_and] at this
  exact this
set_option maxRecDepth 100000 in
theorem numM_put (h : NumM w b n F) (l : Bt) (hl : l.length ≤ 100000) (hn : n ≤ 100000) (z : Int) (hz : (Lit.int .i64 z).wf = true) : ∃ w', (Instr.mapUpdate 85 (.map (some b)) (St l) (.int .i64 z)).run Try.prog w = .ok () w' ∧ NumM w' b (n + 1) (updF F l (some z)) ∧ w.grownBy w' (some b) := by
  obtain ⟨D, h1, h2⟩ := h
  obtain ⟨w', hr, h3, h4⟩ := h1.update keyed9 Try.underlying85 (by unfold maxLen; omega) (key_st l hl) (plainElem_int Try.underlying3 hz)
  refine ⟨w', hr, ⟨_, h3, fun x hx => ?_⟩, h4⟩
  by_cases e : x = l
  · subst e
    rw [Maps.has_put_same h1.isMap (is_key x), Maps.atKey_put_same h1.isMap (is_key x), updF_same]
    exact ⟨rfl, fun y hy => by injection hy with hy; rw [hy]⟩
  · have hne : (Lit.string x) ≠ (Lit.string l) := by simpa using e
    rw [Maps.has_put_other hne, Maps.atKey_put_other hne, updF_other e]
    exact h2 x hx
end
/-- block b is a shelf: of each text a row of numbers, rows from block 'base' on -/
def ShelfAt (w : World) (base b n : Nat) (F : Bt → List Int) : Prop := ∃ D : DataW Unit, w.ownsGroups Try.prog 9 base 3 .i64 b n D ∧ ∀ x : Bt, x.length ≤ 100000 → Maps.has D (.string x) = !(F x).isEmpty ∧ D.atKey (.string x) .nil = (if (F x).isEmpty then .nil else .slice (lits .i64 (F x)) [])
theorem lits_inj {zs zs' : List Int} (h : lits (H := Unit) .i64 zs = lits .i64 zs') : zs = zs' := by
  unfold lits at h
  exact (List.map_inj_right (fun a b hab => by simpa using hab)).1 h
section
variable {w w' : World} {base b n : Nat} {F : Bt → List Int}
theorem shelf_made (w : World) : ShelfAt (w.alloc (.map #[] 0)) (w.heap.size + 1) w.heap.size 0 (fun _ => []) := ⟨.map [], World.ownsGroups_made w Try.prog 9 3 .i64, fun x _ => ⟨rfl, rfl⟩⟩
theorem shelf_lt (h : ShelfAt w base b n F) : b < w.heap.size ∧ b < base := by
  obtain ⟨D, ⟨es, clock, h1, _, _, _, h2, _⟩, _⟩ := h
  exact ⟨(Array.getElem?_eq_some_iff.1 h1).1, h2⟩
theorem shelf_walk (h : ShelfAt w base b n F) : ∃ q : Obj, w.heap[b]? = some q ∧ q.isWalk = true := by
  obtain ⟨D, ⟨es, clock, h1, _⟩, _⟩ := h
  exact ⟨_, h1, rfl⟩
theorem zero94 (w : World) : (zeroValue 94).run Try.prog w = .ok (.slice none 0 0) w := by kernel_rfl
/-- kept over whatever turns blocks that are neither the map's nor a row's -/
theorem shelf_kept {row : Option Nat} (h : ShelfAt w base b n F) (hg : w.grownBy w' row) (hr : ∀ r, row = some r → r < base ∧ r ≠ b) : ShelfAt w' base b n F := by
  obtain ⟨D, h1, h2⟩ := h
  refine ⟨D, h1.kept hg (fun e => (hr b e.symm).2 rfl) (h1.rowsAbove (fun j e => (hr j e).1)), h2⟩
/-- kept over whatever turns a block of another element type -/
theorem shelf_other {row : Option Nat} (h : ShelfAt w base b n F) (hg : w.grownBy w' row) (hb : row ≠ some b) (hr : ∀ r, row = some r → ∀ cs, w.heap[r]? ≠ some (.cells cs 3 (0, 0))) : ShelfAt w' base b n F := by
  obtain ⟨D, h1, h2⟩ := h
  refine ⟨D, h1.kept hg (fun e => hb e.symm) (fun es clock he x hx => ?_), h2⟩
  obtain ⟨es', clock', hb', Fi, _⟩ := h1
  obtain ⟨rfl, rfl⟩ : es' = es ∧ clock' = clock := by rw [hb'] at he; simpa using he
  obtain ⟨y, hy⟩ := Fi.reads x hx
  obtain ⟨z, hz, _⟩ := WideElems.rd_val hy
  obtain ⟨zs, ho, _⟩ := rowElem_inv hz
  cases hv : x.val.ownBlock with
  | none => exact .inl rfl
  | some g =>
    refine .inr (fun e => ?_)
    rcases ho.1.2 with ⟨e1, _⟩ | ⟨g', cap, cur, e1, _, h5, _⟩
    · rw [e1] at hv; simp [Value.ownBlock] at hv
    · rw [e1] at hv
      simp only [Value.ownBlock, Option.some.injEq] at hv
      subst hv
      exact hr _ e.symm _ h5
theorem shelf_mono {n' : Nat} (h : ShelfAt w base b n F) (hn : n ≤ n') : ShelfAt w base b n' F := by
  obtain ⟨D, ⟨es, clock, h1, h2, h3, h4, h5, h6, h7⟩, h8⟩ := h
  exact ⟨D, ⟨es, clock, h1, h2, Nat.le_trans h3 hn, h4, h5, fun x hx zs ho => Nat.le_trans (h6 x hx zs ho) hn, h7⟩, h8⟩
theorem shelf_grown0 (h : ShelfAt w base b n F) (hg : w.grownBy w' none) : ShelfAt w' base b n F := shelf_kept h hg (fun r e => by cases e)
theorem row_of_datum {v : Value} {zs Fz : List Int} (ho : w.ownsInts base 3 .i64 v zs) (h : (if Fz.isEmpty then DataW.nil else DataW.slice (lits .i64 Fz) []) = rowDatum (H := Unit) .i64 v zs) : zs = Fz := by
  rcases ho.datum (H := Unit) with ⟨e, e0⟩ | e
  · rw [e] at h
    rw [e0]
    cases Fz with
    | nil => rfl
    | cons y r => simp at h
  · rw [e] at h
    cases Fz with
    | nil => simp at h
    | cons y r =>
      simp only [List.isEmpty_cons, Bool.false_eq_true, if_false, DataW.slice.injEq, and_true] at h
      exact (lits_inj h).symm
/-- what stands at a text: its row, and the way back -/
theorem shelf_look (h : ShelfAt w base b n F) (l : Bt) (hl : l.length ≤ 100000) (hn : n ≤ 100000) : ∃ v, (∀ W : World, W.heap[b]? = w.heap[b]? → (Instr.lookup 83 (.map (some b)) (St l) false).run Try.prog W = .ok v W) ∧ w.ownsInts base 3 .i64 v (F l) ∧ (F l).length ≤ n ∧
    (∀ (w1 : World) (v' : Value) (zs' : List Int), w.grownBy w1 v.ownBlock → w1.ownsInts base 3 .i64 v' zs' → zs' ≠ [] → zs'.length ≤ n + 1 → (v'.ownBlock = v.ownBlock ∨ ∃ g, v'.ownBlock = some g ∧ w.heap.size ≤ g) →
      ∃ w2, (Instr.mapUpdate 83 (.map (some b)) (St l) v').run Try.prog w1 = .ok () w2 ∧ ShelfAt w2 base b (n + 1) (updF F l zs') ∧ w1.grownBy w2 (some b)) ∧
    (∀ (w1 : World) (zs1 : List Int), w.grownBy w1 v.ownBlock → w1.ownsInts base 3 .i64 v zs1 → zs1.length ≤ n →
      ∃ w2, (Builtin.delete_ #[83, 9] 0 #[.map (some b), St l]).run Try.prog w1 = .ok (.tuple #[]) w2 ∧ ShelfAt w2 base b n (updF F l []) ∧ w1.grownBy w2 (some b)) := by
  obtain ⟨D, h1, h2⟩ := h
  obtain ⟨v, zs, hr, ha, ho, hz, hback⟩ := h1.at keyed9 Try.underlying83 (zero94 w) (by unfold maxLen; omega) (key_st l hl)
  have hzs : zs = F l := row_of_datum ho ((h2 l hl).2.symm.trans ha)
  subst hzs
  have hm : Maps.IsMap D := by
    obtain ⟨es, clock, _, _, _, e, _⟩ := h1
    exact ⟨_, e⟩
  refine ⟨v, fun W hW => ?_, ho, hz, fun w1 v' zs' hg ho' hne hl' hloc => ?_, fun w1 zs1 hg ho1 hl1 => ?_⟩
  · obtain ⟨es, clock, hb, Fi, _⟩ := h1
    rcases Maps.fit_look false keyed9 Try.underlying83 (zero94 w) hb Fi (key_st l hl) with ⟨r1, hno, _⟩ | ⟨e0, y, m0, k0, r1, _⟩
    · rw [hr] at r1
      obtain rfl : v = .slice none 0 0 := by simpa using r1
      rcases Maps.fit_look false keyed9 Try.underlying83 (zero94 W) (w := W) (hW.trans hb) Fi (key_st l hl) with ⟨r2, _⟩ | ⟨e1, y, m1, k1, r2, _⟩
      · simpa using r2
      · exact absurd k1 (hno e1 m1)
    · rw [hr] at r1
      obtain rfl : v = e0.val := by simpa using r1
      rcases Maps.fit_look false keyed9 Try.underlying83 (zero94 W) (w := W) (hW.trans hb) Fi (key_st l hl) with ⟨_, hno, _⟩ | ⟨e1, y1, m1, k1, r2, _⟩
      · exact absurd k0 (hno e0 m0)
      · have uniq : es.toList.Pairwise (fun x y => x.key ≠ y.key) := ((MapKept.stamped_iff es clock).1 Fi.stamped).2.2
        have e01 : e1 = e0 := by
          obtain ⟨i, hi, rfl⟩ := List.mem_iff_getElem.1 m1
          obtain ⟨i0, hi0, rfl⟩ := List.mem_iff_getElem.1 m0
          rcases Nat.lt_trichotomy i i0 with hlt | rfl | hlt
          · exact absurd (k1.trans k0.symm) (List.pairwise_iff_getElem.1 uniq i i0 hi hi0 hlt)
          · rfl
          · exact absurd (k0.trans k1.symm) (List.pairwise_iff_getElem.1 uniq i0 i hi0 hi hlt)
        subst e01
        simpa using r2
  · obtain ⟨w2, hr2, h3, h4⟩ := hback w1 v' zs' hg ho' hl' hloc
    refine ⟨w2, hr2, ⟨_, h3, fun x hx => ?_⟩, h4⟩
    by_cases e : x = l
    · subst e
      rw [Maps.has_put_same hm (is_key x), Maps.atKey_put_same hm (is_key x), updF_same, ho'.datum_pos hne]
      cases zs' with
      | nil => exact absurd rfl hne
      | cons y r => exact ⟨rfl, rfl⟩
    · have hkn : (Lit.string x) ≠ (Lit.string l) := by simpa using e
      rw [Maps.has_put_other hkn, Maps.atKey_put_other hkn, updF_other e]
      exact h2 x hx
  · obtain ⟨w2, D', hr2, h3, h4, h5, h6⟩ := groups_drop (ty := 0) h1 keyed9 Try.underlying83 zero94 (key_st l hl) hr hg ho1 hl1
    refine ⟨w2, hr2, ⟨D', h3, fun x hx => ?_⟩, h4⟩
    by_cases e : x = l
    · subst e
      rw [updF_same, h5, Maps.atKey_of_not_has h5]
      exact ⟨rfl, rfl⟩
    · have hkn : (Lit.string x) ≠ (Lit.string l) := by simpa using e
      rw [updF_other e, (h6 (St x) (.string x) (key_st x hx) hkn).1, (h6 (St x) (.string x) (key_st x hx) hkn).2]
      exact h2 x hx
/-- the look with a word whether it is there -/
theorem shelf_ok (h : ShelfAt w base b n F) (l : Bt) (hl : l.length ≤ 100000) : ∃ v, (Instr.lookup 83 (.map (some b)) (St l) true).run Try.prog w = .ok (.tuple #[v, .bool (!(F l).isEmpty)]) w ∧ w.ownsInts base 3 .i64 v (F l) := by
  obtain ⟨D, h1, h2⟩ := h
  obtain ⟨es, clock, hb, Fi, _, rfl, _⟩ := h1
  rcases Maps.fit_look true keyed9 Try.underlying83 (zero94 w) hb Fi (key_st l hl) with ⟨hrun, _, hat⟩ | ⟨e0, y, m0, k0, hrun, hR, hat, _⟩
  · have hf := Maps.has_false_of_atKey hat
    rw [(h2 l hl).1] at hf
    have he : F l = [] := by
      cases hF : F l with
      | nil => rfl
      | cons y r => rw [hF] at hf; simp at hf
    refine ⟨_, by rw [hrun, hf]; rfl, by rw [he]; exact World.ownsInts_nil _ _ _ _⟩
  · have ht := Maps.has_true_of_atKey hat
    rw [(h2 l hl).1] at ht
    obtain ⟨zs, ho, rfl⟩ := rowElem_inv hR
    have hzs := row_of_datum ho ((h2 l hl).2.symm.trans (hat _))
    subst hzs
    exact ⟨_, by rw [hrun, ht]; rfl, ho⟩
end
end Go.Proofs.Ytiglakhfkgeefaa
