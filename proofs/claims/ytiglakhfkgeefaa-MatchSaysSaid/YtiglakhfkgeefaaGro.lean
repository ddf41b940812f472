/-
What is proved here: a map of rows of numbers, behind the striking of a key whose row has been written over: of whatever program.
-/
import Derived.Maps.GroupsBeside
set_option linter.unusedSimpArgs false
set_option linter.unusedVariables false
namespace Go.Mat
open Go.Maps Go.WideElems Go.RowKit
open Go.ChangeMaps (setBlock heap_setBlock_same heap_setBlock_other)
section
variable {P : Program} {k : TypeId} {w w1 : World} {base : Nat} {e : TypeId} {q : IntKind} {b n : Nat} {es : Array MapEntry} {clock : Nat}
/-- two readers that part at one key alone -/
theorem agree_at {t E : TypeId} {R R1 : Value → Option (DataW Unit × List MemPlace)} (K : Keyed P k) (ht : P.underlying t = some (.map k E)) {z : Value} (hz : (zeroValue E).run P w = .ok z w) (hb : w.heap[b]? = some (.map es clock)) (F : Fit P k R es clock) (F1 : Fit P k R1 es clock) {key key' : Value} {kl' : Lit}
    (hR : ∀ x ∈ es.toList, x.key ≠ key → R x.val = R1 x.val) (hk' : keyOf P k key' = some kl') (hne : key' ≠ key) :
    has (DataW.map ((es.toList.map (rg P k R1)).foldr DataW.insert [])) kl' = has (DataW.map ((es.toList.map (rg P k R)).foldr DataW.insert [])) kl' ∧ ∀ zd, (DataW.map ((es.toList.map (rg P k R1)).foldr DataW.insert [])).atKey kl' zd = (DataW.map ((es.toList.map (rg P k R)).foldr DataW.insert [])).atKey kl' zd := by
  rcases fit_look false K ht hz hb F hk' with ⟨h1, h2, h3⟩ | ⟨e0, y, h1, h2, h3, h4, h5, _⟩
  · rcases fit_look false K ht hz hb F1 hk' with ⟨_, _, g3⟩ | ⟨e1, _, g1, g2, _⟩
    · exact ⟨by rw [has_false_of_atKey g3, has_false_of_atKey h3], fun zd => by rw [g3, h3]⟩
    · exact absurd g2 (h2 e1 g1)
  · rcases fit_look false K ht hz hb F1 hk' with ⟨_, g2, _⟩ | ⟨e1, y1, g1, g2, g3, g4, g5, _⟩
    · exact absurd h2 (g2 e0 h1)
    · rw [h3] at g3
      have ev : e0.val = e1.val := by simpa using g3
      have := hR e0 h1 (by rw [h2]; exact hne)
      rw [h4, ev, g4] at this
      injection this with this
      subst this
      exact ⟨by rw [has_true_of_atKey g5, has_true_of_atKey h5], fun zd => by rw [g5, h5]⟩
theorem drop_who {ty : TypeId} {E : TypeId} {t : TypeId} (K : Keyed P k) (ht : P.underlying t = some (.map k E)) (hb : w.heap[b]? = some (.map es clock)) {R : Value → Option (DataW Unit × List MemPlace)} (F : Fit P k R es clock) {key : Value} {kl : Lit} (hkey : keyOf P k key = some kl) :
    ∃ es', (Builtin.delete_ #[t, k] ty #[.map (some b), key]).run P w = .ok (.tuple #[]) (setBlock w b (.map es' clock)) ∧ ∀ x ∈ es'.toList, x ∈ es.toList := by
  rcases K.find w hkey es.toList F.keys with ⟨h1, h2⟩ | ⟨j, e0, h1, h2, h3⟩
  · exact ⟨es, by simp [Builtin.delete_, run_underlying ht, MapKept.run_getObj_map hb, K.check w _ hkey, h1, MapKept.run_setObj_map _ hb, Result.andThen, setBlock], fun x hx => hx⟩
  · have hjl : j < es.toList.length := (List.getElem?_eq_some_iff.1 h2).1
    have hjs : j < es.size := by simpa using hjl
    refine ⟨es.eraseIdxIfInBounds j, by simp [Builtin.delete_, run_underlying ht, MapKept.run_getObj_map hb, K.check w _ hkey, h1, MapKept.run_setObj_map _ hb, Result.andThen, setBlock], fun x hx => ?_⟩
    have hsub : (es.eraseIdxIfInBounds j).toList = es.toList.eraseIdx j := by
      unfold Array.eraseIdxIfInBounds
      rw [dif_pos hjs]
      simp
    rw [hsub] at hx
    exact (List.eraseIdx_sublist _ _).subset hx
/-- behind the striking of a key, whose own row has been written over before -/
theorem groups_drop {t E ty : TypeId} {D : DataW Unit} {key v : Value} {kl : Lit} {zs1 : List Int} (h : w.ownsGroups P k base e q b n D) (K : Keyed P k) (ht : P.underlying t = some (.map k E)) (hz : ∀ w, (zeroValue E).run P w = .ok (.slice none 0 0) w) (hkey : keyOf P k key = some kl)
    (hlook : (Instr.lookup t (.map (some b)) key false).run P w = .ok v w) (hg : w.grownBy w1 v.ownBlock) (ho1 : w1.ownsInts base e q v zs1) (hl1 : zs1.length ≤ n) :
    ∃ w2 D', (Builtin.delete_ #[t, k] ty #[.map (some b), key]).run P w1 = .ok (.tuple #[]) w2 ∧ w2.ownsGroups P k base e q b n D' ∧ w1.grownBy w2 (some b) ∧ has D' kl = false ∧
      ∀ key' kl', keyOf P k key' = some kl' → kl' ≠ kl → has D' kl' = has D kl' ∧ ∀ zd, D'.atKey kl' zd = D.atKey kl' zd := by
  obtain ⟨es, clock, hb, F, hs, rfl, hbb, hlen, hap⟩ := h
  have hblt : b < w.heap.size := (Array.getElem?_eq_some_iff.1 hb).1
  have owned : ∀ x ∈ es.toList, ∃ zs, w.ownsInts base e q x.val zs := fun x hx => by
    obtain ⟨y, hy⟩ := F.reads x hx
    obtain ⟨z, hz, _⟩ := rd_val hy
    obtain ⟨zs, ho, _⟩ := rowElem_inv hz
    exact ⟨zs, ho⟩
  -- who stands at the key
  have hv : ∀ x ∈ es.toList, x.key = key → x.val = v := by
    intro x hx hxk
    rcases fit_look false K ht (hz w) hb F hkey with ⟨_, h2, _⟩ | ⟨e0, y, h1, h2, h3, _⟩
    · exact absurd hxk (h2 x hx)
    · rw [hlook] at h3
      have ev : v = e0.val := by simpa using h3
      rw [ev]
      have uniq : es.toList.Pairwise (fun x y => x.key ≠ y.key) := ((MapKept.stamped_iff es clock).1 F.stamped).2.2
      obtain ⟨i, hi, rfl⟩ := List.mem_iff_getElem.1 hx
      obtain ⟨i0, hi0, rfl⟩ := List.mem_iff_getElem.1 h1
      rcases Nat.lt_trichotomy i i0 with hlt | rfl | hlt
      · exact absurd (hxk.trans h2.symm) (List.pairwise_iff_getElem.1 uniq i i0 hi hi0 hlt)
      · rfl
      · exact absurd (h2.trans hxk.symm) (List.pairwise_iff_getElem.1 uniq i0 i hi0 hi hlt)
  have hvb : v.ownBlock ≠ some b := fun e1 => by
    have := (ho1.1.lt b e1).1
    omega
  have hb1 : w1.heap[b]? = some (.map es clock) := (hg.block b hblt (fun e1 => hvb e1.symm)).trans hb
  have apart : ∀ x ∈ es.toList, x.key ≠ key → x.val.ownBlock = none ∨ x.val.ownBlock ≠ v.ownBlock := fun x hx hne => by
    rcases fit_look false K ht (hz w) hb F hkey with ⟨h1, _, _⟩ | ⟨e0, y, h1, h2, h3, _⟩
    · rw [hlook] at h1
      have ev : v = .slice none 0 0 := by simpa using h1
      subst ev
      cases hx' : x.val.ownBlock with
      | none => exact .inl rfl
      | some g => exact .inr (by simp [Value.ownBlock])
    · rw [hlook] at h3
      have ev : v = e0.val := by simpa using h3
      rw [ev]
      exact hap x hx e0 h1 (by rw [h2]; exact hne)
  have rest : ∀ x ∈ es.toList, x.key ≠ key → rowElem (H := Unit) w base e q x.val = rowElem w1 base e q x.val := fun x hx hne => by
    obtain ⟨zs, ho⟩ := owned x hx
    rw [rowElem_mk ho, rowElem_mk (ho.kept hg (apart x hx hne))]
  have F1 : Fit P k (rowElem (H := Unit) w1 base e q) es clock := ⟨F.size, F.stamped, fun x hx => by
    obtain ⟨y, hy⟩ := F.reads x hx
    by_cases hk : x.key = key
    · exact ⟨(y.1, rowDatum q x.val zs1), by rw [hv x hx hk]; simp [WideElems.rd, rd_key hy, hv x hx hk, rowElem_mk ho1]⟩
    · obtain ⟨zs, ho⟩ := owned x hx
      exact ⟨(y.1, rowDatum q x.val zs), by simp [WideElems.rd, rd_key hy, rowElem_mk (ho.kept hg (apart x hx hk))]⟩⟩
  obtain ⟨es1, hr1, hsub⟩ := drop_who (ty := ty) K ht hb1 F1 hkey
  obtain ⟨es2, hr2, F2, hs2, hdel, _⟩ := fit_drop (ty := ty) K ht hb1 F1 hkey
  have e12 : es1 = es2 := by
    rw [hr1] at hr2
    have h5 : setBlock w1 b (.map es1 clock) = setBlock w1 b (.map es2 clock) := by simpa using hr2
    have h6 := congrArg (fun W : World => W.heap[b]?) h5
    simp only [heap_setBlock_same hb1] at h6
    injection h6 with h6
    injection h6
  subst e12
  have hg2 : w1.grownBy (setBlock w1 b (.map es1 clock)) (some b) := ⟨rfl, rfl, rfl, by simp [setBlock], fun i _ hi => heap_setBlock_other hb1 _ (fun e1 => hi (by rw [e1]))⟩
  have own_ne : ∀ {u : Value} {ys : List Int}, w1.ownsInts base e q u ys → u.ownBlock = none ∨ u.ownBlock ≠ some b := fun {u ys} ho => by
    cases hu : u.ownBlock with
    | none => exact .inl rfl
    | some g => exact .inr (fun e1 => by have := (ho.1.lt g hu).1; cases e1; omega)
  have st : ∀ x ∈ es1.toList, ∀ z, rowElem (H := Unit) w1 base e q x.val = some z → rowElem (setBlock w1 b (.map es1 clock)) base e q x.val = some z := fun x _ z hz' => by
    obtain ⟨ys, ho, rfl⟩ := rowElem_inv hz'
    exact rowElem_mk (ho.kept hg2 (own_ne ho))
  obtain ⟨F3, hmap3, _⟩ := F2.stay st
  have hD : DataW.map ((es1.toList.map (rg P k (rowElem (H := Unit) w1 base e q))).foldr DataW.insert []) = (DataW.map ((es.toList.map (rg P k (rowElem (H := Unit) w1 base e q))).foldr DataW.insert [])).del kl := by
    rw [hdel]
    rfl
  refine ⟨_, _, hr1, ⟨es1, clock, heap_setBlock_same hb1 _, F3, Nat.le_trans hs2 hs, rfl, hbb, fun x hx ys ho => ?_, fun x hx y hy hne => hap x (hsub x hx) y (hsub y hy) hne⟩, hg2, ?_, fun key' kl' hk' hne => ?_⟩
  · have hx0 := hsub x hx
    by_cases hk : x.key = key
    · have hv' := hv x hx0 hk
      rw [hv'] at ho
      have h7 := ho1.kept hg2 (own_ne ho1)
      rw [ho.unique h7]
      exact hl1
    · obtain ⟨zs, hz0⟩ := owned x hx0
      have h7 := hz0.kept hg (apart x hx0 hk)
      rw [ho.unique (h7.kept hg2 (own_ne h7))]
      exact hlen x hx0 zs hz0
  · rw [hmap3, hD]
    exact has_del_same
  · rw [hmap3, hD]
    have hkk : key' ≠ key := fun e1 => by
      subst e1
      rw [hkey] at hk'
      injection hk' with hk'
      exact hne hk'.symm
    obtain ⟨a1, a2⟩ := agree_at K ht (hz w1) hb1 F F1 rest hk' hkk
    exact ⟨by rw [has_del_other hne]; exact a1, fun zd => by rw [atKey_del_other hne]; exact a2 zd⟩
end
end Go.Mat
