/-
What is proved here: what a loose tree's nodes keep to: each has a directory above it, each file a name; how many there are in all.
-/
import Derived.Test.YtdnagkgblmcojaaNmk
import Derived.Test.YtdnagkgblmcojaaFon
set_option linter.unusedSimpArgs false
namespace Go.Tre
open Go.Pth Go.Op Go.Proofs.Ytdnagkgblmcojaa
theorem nodeT_cases {D : Bt → Bool} {l : Bt} {k : Int} {x : Nd} {D' : Bt → Bool} {l' : Bt} {k' : Int} (h : nodeT D l k x = some (D', l', k')) :
    D (upP x.path) = true ∧ ((x.file = -1 ∧ (∀ y, D' y = true ↔ y = x.path ∨ D y = true) ∧ k' = k) ∨ (x.file ≠ -1 ∧ 0 ≤ x.file ∧ x.file ≤ k ∧ D' = D ∧ k' = max k (x.file + 1))) := by
  unfold nodeT at h
  split at h
  · cases h
  · split at h
    · cases h
    · rename_i h2
      have hD : D (upP x.path) = true := by simpa using h2
      refine ⟨hD, ?_⟩
      split at h
      · rename_i h3
        simp only [Option.some.injEq, Prod.mk.injEq] at h
        obtain ⟨e1, _, e3⟩ := h
        refine .inl ⟨h3.1, fun y => ?_, e3.symm⟩
        rw [← e1]
        simp
      · split at h
        · rename_i h4
          simp only [Option.some.injEq, Prod.mk.injEq] at h
          obtain ⟨e1, _, e3⟩ := h
          have h5 := (of_decide_eq_true h4.1).1
          exact .inr ⟨by omega, h5, h4.2, e1.symm, e3.symm⟩
        · cases h
theorem walk_up : ∀ (r : List Nd) (D : Bt → Bool) (l : Bt) (k k' : Int), walkT D l k r = some k' → ∀ x ∈ r, D (upP x.path) = true ∨ ∃ z ∈ r, z.path = upP x.path ∧ z.file = -1
  | [], _, _, _, _, _, _, hx => by cases hx
  | y :: r, D, l, k, k', h, x, hx => by
    unfold walkT at h
    split at h
    · cases h
    · rename_i D' l' k1 e
      obtain ⟨h1, h2⟩ := nodeT_cases e
      rcases List.mem_cons.1 hx with rfl | hx
      · exact .inl h1
      · rcases walk_up r D' l' k1 k' h x hx with h3 | ⟨z, hz, h4⟩
        · rcases h2 with ⟨f1, f2, _⟩ | ⟨_, _, _, f4, _⟩
          · rcases (f2 _).1 h3 with h5 | h5
            · exact .inr ⟨y, by simp, h5.symm, f1⟩
            · exact .inl h5
          · rw [f4] at h3
            exact .inl h3
        · exact .inr ⟨z, by simp [hz], h4⟩
theorem walk_file : ∀ (r : List Nd) (D : Bt → Bool) (l : Bt) (k k' : Int), walkT D l k r = some k' → k ≤ k' ∧ (∀ x ∈ r, x.file = -1 ∨ 0 ≤ x.file ∧ x.file < k') ∧ ∀ f, k ≤ f → f < k' → ∃ x ∈ r, x.file = f
  | [], _, _, k, k', h => by cases h; exact ⟨Int.le_refl _, fun x hx => (by cases hx), fun f h1 h2 => by omega⟩
  | y :: r, D, l, k, k', h => by
    unfold walkT at h
    split at h
    · cases h
    · rename_i D' l' k1 e
      obtain ⟨_, h2⟩ := nodeT_cases e
      obtain ⟨h3, h4, h5⟩ := walk_file r D' l' k1 k' h
      rcases h2 with ⟨f1, _, f3⟩ | ⟨f1, f2, f3, _, f5⟩
      · refine ⟨by omega, fun x hx => ?_, fun f g1 g2 => ?_⟩
        · rcases List.mem_cons.1 hx with rfl | hx
          · exact .inl f1
          · exact h4 x hx
        · obtain ⟨x, hx, e⟩ := h5 f (by omega) g2
          exact ⟨x, by simp [hx], e⟩
      · refine ⟨by omega, fun x hx => ?_, fun f g1 g2 => ?_⟩
        · rcases List.mem_cons.1 hx with rfl | hx
          · exact .inr ⟨f2, by omega⟩
          · exact h4 x hx
        · by_cases e : f < k1
          · exact ⟨y, by simp, by omega⟩
          · obtain ⟨x, hx, e⟩ := h5 f (by omega) g2
            exact ⟨x, by simp [hx], e⟩
section
variable {ns : List Nd} {fs : List Fl} (h : looseE ns fs = 0)
include h
theorem loose_chain : chain [] ns := (walkT_chain ns _ _ _ _ (loose_walk h)).1
theorem loose_lt (i j : Nat) (hij : i < j) (hj : j < ns.length) : bytesLess (ns[i]'(by omega)).path ns[j].path = true := chain_lt ns [] (loose_chain h) i j hij hj
theorem loose_inj (i j : Nat) (hi : i < ns.length) (hj : j < ns.length) (e : ns[i].path = ns[j].path) : i = j := by
  rcases Nat.lt_trichotomy i j with h1 | h1 | h1
  · have := loose_lt h i j h1 hj
    rw [e, bl_irrefl] at this
    cases this
  · exact h1
  · have := loose_lt h j i h1 hi
    rw [e, bl_irrefl] at this
    cases this
theorem loose_find (i : Nat) (hi : i < ns.length) : findI ns ns[i].path = (i : Int) :=
  findI_at ns _ i hi (decide_eq_true rfl) (fun j hj => decide_eq_false (fun e => by have := loose_inj h j i (by omega) hi e; omega))
theorem loose_up (x : Nd) (hx : x ∈ ns) : upP x.path = [] ∨ ∃ z ∈ ns, z.path = upP x.path ∧ z.file = -1 := by
  rcases walk_up ns _ _ _ _ (loose_walk h) x hx with h1 | h1
  · left; simpa [root] using h1
  · exact .inr h1
theorem loose_ne (x : Nd) (hx : x ∈ ns) : x.path ≠ [] := fun e => by
  have := (loose_node h x hx).1
  rw [e] at this
  revert this
  decide
theorem loose_nokids (i : Nat) (hi : i < ns.length) (hf : ns[i].file ≠ -1) : kidsP ns ns[i].path = [] := by
  unfold kidsP
  rw [List.map_eq_nil_iff, List.filter_eq_nil_iff]
  intro y hy he
  have e : upP y.path = ns[i].path := of_decide_eq_true he
  rcases loose_up h y hy with h1 | ⟨z, hz, h1, h2⟩
  · exact loose_ne h _ (List.getElem_mem hi) (by rw [← e, h1])
  · obtain ⟨j, hj, rfl⟩ := List.getElem_of_mem hz
    have := loose_inj h j i hj hi (by rw [h1, e])
    subst this
    exact hf h2
theorem loose_files (x : Nd) (hx : x ∈ ns) : x.file = -1 ∨ 0 ≤ x.file ∧ x.file < fs.length := (walk_file ns _ _ _ _ (loose_walk h)).2.1 x hx
theorem loose_named (f : Nat) (hf : f < fs.length) : ∃ x ∈ ns, x.file = (f : Int) := (walk_file ns _ _ _ _ (loose_walk h)).2.2 f (by omega) (by omega)
end
/-- counted either way -/
theorem count_split {β : Type} (g : Nd → β → Bool) (qs : List β) : ∀ ns : List Nd, (qs.map fun q => (ns.filter (g · q)).length).sum = (ns.map fun x => (qs.filter (g x ·)).length).sum
  | [] => by
    induction qs with
    | nil => rfl
    | cons q t ih => simpa using ih
  | x :: r => by
    have ih := count_split g qs r
    have key : ∀ qs : List β, (qs.map fun q => ((x :: r).filter (g · q)).length).sum = (qs.filter (g x ·)).length + (qs.map fun q => (r.filter (g · q)).length).sum := by
      intro qs
      induction qs with
      | nil => rfl
      | cons q t ih2 =>
        rw [List.map_cons, List.sum_cons, List.map_cons, List.sum_cons, ih2]
        by_cases e : g x q = true
        · simp only [List.filter_cons, e, if_true, List.length_cons]; omega
        · have e : g x q = false := by simpa using e
          simp only [List.filter_cons, e, Bool.false_eq_true, if_false]; omega
    rw [key, ih]
    simp
theorem one_of {β : Type} [DecidableEq β] (a : β) : ∀ qs : List β, qs.Nodup → a ∈ qs → (qs.filter fun q => decide (a = q)).length = 1
  | [], _, h => by cases h
  | q :: t, hn, h => by
    have hn' := List.nodup_cons.1 hn
    by_cases e : a = q
    · subst e
      have : t.filter (fun q => decide (a = q)) = [] := List.filter_eq_nil_iff.2 (fun y hy he => hn'.1 (by rw [of_decide_eq_true he]; exact hy))
      simp [List.filter_cons, this]
    · rcases List.mem_cons.1 h with h | h
      · exact absurd h e
      · simp only [List.filter_cons, e, decide_false, Bool.false_eq_true, if_false]
        exact one_of a t hn'.2 h
theorem sum_ones : ∀ (l : List Nd) (f : Nd → Nat), (∀ x ∈ l, f x = 1) → (l.map f).sum = l.length
  | [], _, _ => rfl
  | x :: r, f, h => by
    rw [List.map_cons, List.sum_cons, sum_ones r f (fun y hy => h y (by simp [hy])), h x (by simp), List.length_cons]
    omega
/-- how many kids the first i nodes have, and the root -/
def kidsTo (ns : List Nd) (i : Nat) : Nat := (kidsP ns []).length + ((ns.take i).map fun x => (kidsP ns x.path).length).sum
theorem kidsTo_succ (ns : List Nd) (i : Nat) (hi : i < ns.length) : kidsTo ns (i + 1) = kidsTo ns i + (kidsP ns ns[i].path).length := by
  unfold kidsTo
  rw [List.take_succ_eq_append_getElem hi, List.map_append, List.sum_append]
  simp
  omega
theorem kidsTo_mono (ns : List Nd) (i : Nat) : ∀ d, i + d ≤ ns.length → kidsTo ns i ≤ kidsTo ns (i + d)
  | 0, _ => Nat.le_refl _
  | d + 1, hd => by
    have := kidsTo_mono ns i d (by omega)
    rw [← Nat.add_assoc, kidsTo_succ ns (i + d) (by omega)]
    omega
theorem kidsTo_all {ns : List Nd} {fs : List Fl} (h : looseE ns fs = 0) : kidsTo ns ns.length = ns.length := by
  have e : kidsTo ns ns.length = ((([] : Bt) :: ns.map (·.path)).map fun q => (ns.filter (fun x => same (upP x.path) q)).length).sum := by
    unfold kidsTo kidsP
    rw [List.take_of_length_le (Nat.le_refl _)]
    simp [Function.comp_def]
  rw [e, count_split (fun x q => same (upP x.path) q)]
  refine sum_ones ns _ (fun x hx => ?_)
  refine one_of (upP x.path) _ ?_ ?_
  · refine List.nodup_cons.2 ⟨fun hm => ?_, ?_⟩
    · obtain ⟨z, hz, e⟩ := List.mem_map.1 hm
      exact loose_ne h z hz e
    · refine List.nodup_iff_pairwise_ne.2 (List.pairwise_iff_getElem.2 (fun i j hi hj hij e => ?_)) 
      simp only [List.getElem_map] at e
      have := loose_inj h i j (by simpa using hi) (by simpa using hj) e
      omega
  · rcases loose_up h x hx with h1 | ⟨z, hz, h1, _⟩
    · rw [h1]; simp
    · rw [← h1]
      exact List.mem_cons_of_mem _ (List.mem_map.2 ⟨z, hz, rfl⟩)
/-- how many names the first f files have -/
def namesTo (ns : List Nd) (f : Nat) : Nat := ((List.range f).map fun (g : Nat) => (namesF ns (g : Int)).length).sum
def dirsTo (ns : List Nd) (i : Nat) : Nat := ((ns.take i).filter isDir).length
theorem namesTo_succ (ns : List Nd) (f : Nat) : namesTo ns (f + 1) = namesTo ns f + (namesF ns (f : Int)).length := by
  unfold namesTo
  rw [List.range_succ, List.map_append, List.sum_append]
  simp
theorem namesTo_mono (ns : List Nd) (f : Nat) : ∀ d, namesTo ns f ≤ namesTo ns (f + d)
  | 0 => Nat.le_refl _
  | d + 1 => by
    have := namesTo_mono ns f d
    rw [← Nat.add_assoc, namesTo_succ]
    omega
theorem dirsTo_succ (ns : List Nd) (i : Nat) (hi : i < ns.length) : dirsTo ns (i + 1) = dirsTo ns i + (if ns[i].file = -1 then 1 else 0) := by
  unfold dirsTo
  rw [List.take_succ_eq_append_getElem hi, List.filter_append, List.length_append]
  by_cases e : ns[i].file = -1
  · simp [isDir, e]
  · simp [isDir, e]
theorem dirsTo_mono (ns : List Nd) (i : Nat) : ∀ d, i + d ≤ ns.length → dirsTo ns i ≤ dirsTo ns (i + d)
  | 0, _ => Nat.le_refl _
  | d + 1, hd => by
    have := dirsTo_mono ns i d (by omega)
    rw [← Nat.add_assoc, dirsTo_succ ns (i + d) (by omega)]
    omega
theorem sum_dirs : ∀ (l : List Nd) (f : Nd → Nat), (∀ x ∈ l, f x = if x.file = -1 then 0 else 1) → (l.map f).sum + (l.filter isDir).length = l.length
  | [], _, _ => rfl
  | x :: r, f, h => by
    have := sum_dirs r f (fun y hy => h y (by simp [hy]))
    rw [List.map_cons, List.sum_cons, h x (by simp)]
    by_cases e : x.file = -1
    · simp [isDir, e] at this ⊢; omega
    · simp [isDir, e] at this ⊢; omega
theorem names_all {ns : List Nd} {fs : List Fl} (h : looseE ns fs = 0) : namesTo ns fs.length + dirsTo ns ns.length = ns.length := by
  have e : namesTo ns fs.length = ((List.range fs.length).map fun (q : Nat) => (ns.filter (fun x => decide (x.file = (q : Int)))).length).sum := by
    unfold namesTo namesF
    congr 1
    refine List.map_congr_left (fun q _ => ?_)
    rw [List.length_map]
    congr 2
    funext x
    have : (0 : Int) ≤ (q : Int) := by omega
    simp [this]
  rw [e, count_split (fun x (q : Nat) => decide (x.file = (q : Int)))]
  unfold dirsTo
  rw [List.take_of_length_le (Nat.le_refl _)]
  refine sum_dirs ns _ (fun x hx => ?_)
  rcases loose_files h x hx with h1 | ⟨h1, h2⟩
  · rw [if_pos h1]
    have : (List.range fs.length).filter (fun (q : Nat) => decide (x.file = (q : Int))) = [] := List.filter_eq_nil_iff.2 (fun q _ he => by have := of_decide_eq_true he; omega)
    rw [this]
    rfl
  · rw [if_neg (by omega)]
    have e2 : (fun q : Nat => decide (x.file = (q : Int))) = fun q => decide (x.file.toNat = q) := by
      funext q
      congr 1
      apply propext
      omega
    rw [e2]
    exact one_of _ _ List.nodup_range (by simp; omega)
/-- the names of a file, one by one -/
theorem namesF_at {ns : List Nd} {fs : List Fl} (h : looseE ns fs = 0) (f : Int) (j : Nat) (hj : j < (namesF ns f).length) : ∃ Z, ∃ hz : Z < ns.length, ns[Z].path = (namesF ns f)[j] ∧ ns[Z].file = f ∧ findI ns (namesF ns f)[j] = (Z : Int) := by
  have hm : (namesF ns f)[j] ∈ namesF ns f := List.getElem_mem hj
  unfold namesF at hm
  obtain ⟨x, hx, e⟩ := List.mem_map.1 hm
  obtain ⟨h1, h2⟩ := List.mem_filter.1 hx
  obtain ⟨Z, hz, rfl⟩ := List.getElem_of_mem h1
  have e : ns[Z].path = (namesF ns f)[j] := e
  exact ⟨Z, hz, e, (of_decide_eq_true h2).1, by rw [← e]; exact loose_find h Z hz⟩
theorem namesF_lt {ns : List Nd} {fs : List Fl} (h : looseE ns fs = 0) (f : Int) (i j : Nat) (hij : i < j) (hj : j < (namesF ns f).length) : bytesLess ((namesF ns f)[i]'(by omega)) (namesF ns f)[j] = true := by
  have hp : ns.Pairwise fun a b => bytesLess a.path b.path = true := List.pairwise_iff_getElem.2 (fun i j hi hj hij => loose_lt h i j hij hj)
  have hq : (namesF ns f).Pairwise fun a b => bytesLess a b = true := by
    unfold namesF
    exact List.pairwise_map.2 (hp.filter _)
  exact List.pairwise_iff_getElem.1 hq i j (by omega) hj hij
theorem namesF_atD {ns : List Nd} {fs : List Fl} (h : looseE ns fs = 0) (f : Int) (j : Nat) (hj : j < (namesF ns f).length) : ∃ Z, ∃ hz : Z < ns.length, ns[Z].file = f ∧ findI ns ((namesF ns f).getD j []) = (Z : Int) := by
  obtain ⟨Z, hz, h1, h2, h3⟩ := namesF_at h f j hj
  refine ⟨Z, hz, h2, ?_⟩
  rw [List.getD_eq_getElem?_getD, List.getElem?_eq_getElem hj]
  exact h3
theorem namesF_ltD {ns : List Nd} {fs : List Fl} (h : looseE ns fs = 0) (f : Int) (i j : Nat) (hij : i < j) (hj : j < (namesF ns f).length) : bytesLess ((namesF ns f).getD i []) ((namesF ns f).getD j []) = true := by
  rw [List.getD_eq_getElem?_getD, List.getElem?_eq_getElem (by omega), List.getD_eq_getElem?_getD, List.getElem?_eq_getElem hj]
  exact namesF_lt h f i j hij hj
theorem namesF_pos {ns : List Nd} {fs : List Fl} (h : looseE ns fs = 0) (f : Nat) (hf : f < fs.length) : 1 ≤ (namesF ns (f : Int)).length := by
  obtain ⟨x, hx, e⟩ := loose_named h f hf
  have : x.path ∈ namesF ns (f : Int) := by
    unfold namesF
    exact List.mem_map.2 ⟨x, List.mem_filter.2 ⟨hx, by simp [e]⟩, rfl⟩
  exact List.length_pos_of_mem this
end Go.Tre
