/-
What is proved here: several texts in one (Fom, Fon, Par, By1, By2): each says what it is about.
-/
import Derived.Test.YtaanihmbnjjhcaaMa8
import Derived.Test.YtaanihmbnjjhcaaMa3
import Derived.Test.YtaanihmbnjjhcaaMa5
import Derived.Test.YtaanihmbnjjhcaaMa7
import Derived.Lib.AppendStr
import Derived.Laws.AppendOwnNone
/-
What is proved here: the document's own look at a tree's form, as a recursion, tells what the walk over the nodes tells.
-/
namespace Go.Tre
open Go.Pth Go.Op Go.Proofs.Ytaanihmbnjjhcaa
/-- is there a directory of that path -/
def dirAt (ns : List Nd) (p : Bt) : Bool := ns.any fun z => decide (z.path = p) && isDir z
def nodeF (m : Nat) (Q : Bt → Bool) (prev : Bt) (next : Int) (x : Nd) : Option Int :=
  if leB x.path prev = true ∨ isPath x.path = false then none
  else if ¬ upP x.path = [] ∧ Q (upP x.path) = false then none
  else if x.file = -1 then (if okMode x.mode = true then some next else none)
  else if nameB x = true ∧ x.file ≤ next ∧ x.file < m then some (max next (x.file + 1)) else none
def walkF (m : Nat) (Q : Bt → Bool) : Bt → Int → List Nd → Option Int
  | _, k, [] => some k
  | l, k, x :: r => match nodeF m Q l k x with
    | none => none
    | some k' => walkF m Q x.path k' r
def chain : Bt → List Nd → Prop
  | _, [] => True
  | l, x :: r => bytesLess l x.path = true ∧ chain x.path r
def ends (m : Nat) : Option Int → Bool
  | none => false
  | some k => decide (k = m)
theorem chain_all : ∀ (r : List Nd) (l : Bt), chain l r → ∀ z ∈ r, bytesLess l z.path = true
  | [], _, _, _, h => by cases h
  | x :: r, l, hc, z, h => by
    rcases List.mem_cons.1 h with rfl | h
    · exact hc.1
    · exact bl_trans _ _ _ hc.1 (chain_all r _ hc.2 z h)
theorem nodeT_less {D : Bt → Bool} {l : Bt} {k : Int} {x : Nd} {q : (Bt → Bool) × Bt × Int} (h : nodeT D l k x = some q) : bytesLess l x.path = true ∧ q.2.1 = x.path ∧ k ≤ q.2.2 := by
  unfold nodeT at h
  split at h
  · cases h
  · rename_i h1
    have hb : bytesLess l x.path = true := (leB_false _ _).1 (by cases e : leB x.path l with | false => rfl | true => exact absurd (.inl e) h1)
    split at h
    · cases h
    · split at h
      · cases h; exact ⟨hb, rfl, Int.le_refl _⟩
      · split at h
        · cases h; exact ⟨hb, rfl, by show k ≤ max k _; omega⟩
        · cases h
theorem walkT_chain : ∀ (r : List Nd) (D : Bt → Bool) (l : Bt) (k k' : Int), walkT D l k r = some k' → chain l r ∧ k ≤ k'
  | [], _, _, k, k', h => by cases h; exact ⟨trivial, Int.le_refl _⟩
  | x :: r, D, l, k, k', h => by
    unfold walkT at h
    split at h
    · cases h
    · rename_i D' l' k1 e
      obtain ⟨h1, h2, h3⟩ := nodeT_less e
      have h2 : l' = x.path := h2
      have h3 : k ≤ k1 := h3
      obtain ⟨h4, h5⟩ := walkT_chain r _ _ _ _ h
      exact ⟨⟨h1, by rw [← h2]; exact h4⟩, by omega⟩
theorem walkF_chain (m : Nat) (Q : Bt → Bool) : ∀ (r : List Nd) (l : Bt) (k k' : Int), walkF m Q l k r = some k' → chain l r
  | [], _, _, _, _ => trivial
  | x :: r, l, k, k', h => by
    unfold walkF at h
    split at h
    · cases h
    · rename_i k1 e
      refine ⟨?_, walkF_chain m Q r _ _ _ h⟩
      unfold nodeF at e
      split at e
      · cases e
      · rename_i h1
        exact (leB_false _ _).1 (by cases e : leB x.path l with | false => rfl | true => exact absurd (.inl e) h1)
theorem walk_eq (m : Nat) (ns : List Nd) (Q : Bt → Bool) (hQ : ∀ p, Q p = dirAt ns p) : ∀ (r pre : List Nd) (D : Bt → Bool) (l : Bt) (k : Int), ns = pre ++ r → (∀ y, D y = true ↔ y = [] ∨ ∃ z ∈ pre, z.path = y ∧ isDir z = true) → chain l r →
    ends m (walkT D l k r) = ends m (walkF m Q l k r)
  | [], _, _, _, _, _, _, _ => rfl
  | x :: r, pre, D, l, k, hns, hD, hc => by
    have hle : leB x.path l = false := (leB_false _ _).2 hc.1
    unfold walkT walkF
    by_cases hp : isPath x.path = true
    · have hup : D (upP x.path) = false ↔ (¬ upP x.path = [] ∧ Q (upP x.path) = false) := by
        rw [hQ]
        constructor
        · intro h
          have h' : ¬ D (upP x.path) = true := by rw [h]; decide
          rw [hD] at h'
          refine ⟨fun e => h' (.inl e), ?_⟩
          cases e : dirAt ns (upP x.path) with
          | false => rfl
          | true =>
            exfalso
            obtain ⟨z, hz, hz2⟩ := List.any_eq_true.1 e
            simp only [Bool.and_eq_true, decide_eq_true_eq] at hz2
            have hu : upP x.path ≠ [] := fun e => h' (.inl e)
            have hl := up_less x.path hu
            rw [hns] at hz
            rcases List.mem_append.1 hz with hz | hz
            · exact h' (.inr ⟨z, hz, hz2⟩)
            · have hxz : bytesLess (upP x.path) z.path = true := by
                rcases List.mem_cons.1 hz with rfl | hz
                · exact hl
                · exact bl_trans _ _ _ hl (chain_all r _ hc.2 z hz)
              rw [hz2.1, bl_irrefl] at hxz
              cases hxz
        · rintro ⟨h1, h2⟩
          cases e : D (upP x.path) with
          | false => rfl
          | true =>
            exfalso
            rcases (hD _).1 e with h | ⟨z, hz, hz2⟩
            · exact h1 h
            · have : dirAt ns (upP x.path) = true := List.any_eq_true.2 ⟨z, by rw [hns]; exact List.mem_append_left _ hz, by simp [hz2.1, hz2.2]⟩
              rw [h2] at this
              cases this
      have hns2 : ns = (pre ++ [x]) ++ r := by rw [hns]; simp
      unfold nodeT nodeF
      have h0 : ¬ (leB x.path l = true ∨ isPath x.path = false) := by simp [hle, hp]
      rw [if_neg h0, if_neg h0]
      by_cases hu : D (upP x.path) = false
      · rw [if_pos hu, if_pos (hup.1 hu)]
      · have hu2 : ¬ (¬ upP x.path = [] ∧ Q (upP x.path) = false) := fun h => hu (hup.2 h)
        rw [if_neg hu, if_neg hu2]
        by_cases hf : x.file = -1
        · rw [if_pos hf]
          by_cases hm : okMode x.mode = true
          · rw [if_pos ⟨hf, hm⟩, if_pos hm]
            refine walk_eq m ns Q hQ r (pre ++ [x]) _ _ _ hns2 (fun y => ?_) hc.2
            simp only [Bool.or_eq_true, beq_iff_eq, hD, List.mem_append, List.mem_singleton]
            constructor
            · rintro (rfl | h | ⟨z, hz, h2⟩)
              · exact .inr ⟨x, .inr rfl, rfl, decide_eq_true hf⟩
              · exact .inl h
              · exact .inr ⟨z, .inl hz, h2⟩
            · rintro (h | ⟨z, hz | rfl, h2⟩)
              · exact .inr (.inl h)
              · exact .inr (.inr ⟨z, hz, h2⟩)
              · exact .inl h2.1.symm
          · have n1 : ¬ (x.file = -1 ∧ okMode x.mode = true) := fun h => hm h.2
            have n2 : ¬ (nameB x = true ∧ x.file ≤ k) := fun h => by
              have := of_decide_eq_true h.1
              omega
            rw [if_neg n1, if_neg hm, if_neg n2]
        · have n3 : ¬ (x.file = -1 ∧ okMode x.mode = true) := fun h => hf h.1
          rw [if_neg hf, if_neg n3]
          by_cases hn : nameB x = true ∧ x.file ≤ k
          · rw [if_pos hn]
            have hD2 : ∀ y, D y = true ↔ y = [] ∨ ∃ z ∈ pre ++ [x], z.path = y ∧ isDir z = true := fun y => by
              simp only [hD, List.mem_append, List.mem_singleton]
              constructor
              · rintro (h | ⟨z, hz, h2⟩)
                · exact .inl h
                · exact .inr ⟨z, .inl hz, h2⟩
              · rintro (h | ⟨z, hz | rfl, h2⟩)
                · exact .inl h
                · exact .inr ⟨z, hz, h2⟩
                · exact absurd (of_decide_eq_true h2.2) hf
            by_cases hm : x.file < m
            · rw [if_pos ⟨hn.1, hn.2, hm⟩]
              exact walk_eq m ns Q hQ r (pre ++ [x]) _ _ _ hns2 hD2 hc.2
            · have n4 : ¬ (nameB x = true ∧ x.file ≤ k ∧ x.file < m) := fun h => hm h.2.2
              rw [if_neg n4]
              show ends m (walkT D x.path (max k (x.file + 1)) r) = false
              cases e : walkT D x.path (max k (x.file + 1)) r with
              | none => rfl
              | some k' =>
                have := (walkT_chain r _ _ _ _ e).2
                exact decide_eq_false (by omega)
          · have n5 : ¬ (nameB x = true ∧ x.file ≤ k ∧ x.file < m) := fun h => hn ⟨h.1, h.2.1⟩
            rw [if_neg hn, if_neg n5]
    · have hp2 : isPath x.path = false := by simpa using hp
      unfold nodeT nodeF
      have h0 : leB x.path l = true ∨ isPath x.path = false := .inr hp2
      rw [if_pos h0, if_pos h0]
theorem chain_lt : ∀ (ns : List Nd) (l : Bt), chain l ns → ∀ i j (hij : i < j) (hj : j < ns.length), bytesLess (ns[i]'(by omega)).path ns[j].path = true
  | [], _, _, _, _, _, hj => by simp at hj
  | x :: r, l, hc, i, j + 1, hij, hj => by
    have hj' : j < r.length := by simpa using hj
    cases i with
    | zero => exact chain_all r _ hc.2 _ (List.getElem_mem hj')
    | succ i => exact chain_lt r _ hc.2 i j (by omega) hj'
theorem form_eq (ns : List Nd) (fs : List Fl) (Q : Bt → Bool) (hQ : chain [] ns → ∀ p, Q p = dirAt ns p) : (ends fs.length (walkF fs.length Q [] 0 ns) && !anyWrong fs) = looseB ns fs := by
  have e : ends fs.length (walkF fs.length Q [] 0 ns) = ends fs.length (walkT root [] 0 ns) := by
    by_cases hc : chain [] ns
    · exact (walk_eq fs.length ns Q (hQ hc) ns [] root [] 0 rfl (fun y => by simp [root]) hc).symm
    · have h1 : walkF fs.length Q [] 0 ns = none := by
        cases e : walkF fs.length Q [] 0 ns with
        | none => rfl
        | some k => exact absurd (walkF_chain _ _ _ _ _ _ e) hc
      have h2 : walkT root [] 0 ns = none := by
        cases e : walkT root [] 0 ns with
        | none => rfl
        | some k => exact absurd (walkT_chain _ _ _ _ _ e).1 hc
      rw [h1, h2]
  rw [e]
  unfold looseB
  cases walkT root [] 0 ns <;> rfl
end Go.Tre

/-
What is proved here: Find's place tells whether there is a directory of a path; so Form's recursion is the walk over the nodes.
-/
namespace Go.Tre
open Go.Pth Go.Op Go.Proofs.Ytaanihmbnjjhcaa
/-- Form's look at what is above -/
def findB (ns : List Nd) (p : Bt) : Bool := decide (0 ≤ findI ns p) && decide ((ns.getD (findI ns p).toNat ⟨[], 0, 0⟩).file = -1)
theorem find_dir (ns : List Nd) (hc : chain [] ns) (p : Bt) : findB ns p = dirAt ns p := by
  by_cases hi : ns.findIdx (fun x => same x.path p) < ns.length
  · obtain ⟨i, hie⟩ : ∃ i, i = ns.findIdx (fun x => same x.path p) := ⟨_, rfl⟩
    have hp : same (ns[i]'(by omega)).path p = true := by
      have := List.findIdx_getElem (w := hi)
      simp only [hie]
      exact this
    have hil : i < ns.length := by omega
    have hpe : ns[i].path = p := of_decide_eq_true hp
    have hI : findI ns p = (i : Int) := by unfold findI; rw [if_pos hi, hie]
    have hB : findB ns p = isDir ns[i] := by
      unfold findB
      rw [hI, decide_eq_true (by omega : (0 : Int) ≤ (i : Int)), Bool.true_and, Int.toNat_natCast, List.getD_eq_getElem?_getD, List.getElem?_eq_getElem hil]
      rfl
    rw [hB]
    cases hd : isDir ns[i] with
    | true => exact (List.any_eq_true.2 ⟨ns[i], List.getElem_mem hil, by simp [hpe, hd]⟩).symm
    | false =>
      cases e : dirAt ns p with
      | false => rfl
      | true =>
        obtain ⟨z, hz, hz2⟩ := List.any_eq_true.1 e
        simp only [Bool.and_eq_true, decide_eq_true_eq] at hz2
        obtain ⟨j, hj, rfl⟩ := List.getElem_of_mem hz
        rcases Nat.lt_trichotomy i j with h | h | h
        · have := chain_lt ns [] hc i j h hj
          rw [hpe, hz2.1, bl_irrefl] at this
          cases this
        · subst h
          rw [hd] at hz2
          cases hz2.2
        · have := chain_lt ns [] hc j i h hil
          rw [hpe, hz2.1, bl_irrefl] at this
          cases this
  · have hI : findI ns p = -1 := by unfold findI; rw [if_neg hi]
    have hB : findB ns p = false := by unfold findB; rw [hI]; rfl
    rw [hB]
    cases e : dirAt ns p with
    | false => rfl
    | true =>
      obtain ⟨z, hz, hz2⟩ := List.any_eq_true.1 e
      simp only [Bool.and_eq_true, decide_eq_true_eq] at hz2
      exact absurd (List.findIdx_lt_length_of_exists ⟨z, hz, by unfold same; exact decide_eq_true hz2.1⟩) hi
/-- Form tells what the walk tells -/
theorem form_loose (ns : List Nd) (fs : List Fl) : (ends fs.length (walkF fs.length (findB ns) [] 0 ns) && !anyWrong fs) = looseB ns fs :=
  form_eq ns fs (findB ns) (fun hc p => find_dir ns hc p)
end Go.Tre

/-
What is proved here: what a loose tree's nodes keep to: each has a directory above it, each file a name; how many there are in all.
-/
set_option linter.unusedSimpArgs false
namespace Go.Tre
open Go.Pth Go.Op Go.Proofs.Ytaanihmbnjjhcaa
theorem nodeT_cases {D : Bt → Bool} {l : Bt} {k : Int} {x : Nd} {D' : Bt → Bool} {l' : Bt} {k' : Int} (h : nodeT D l k x = some (D', l', k')) :
    D (upP x.path) = true ∧ ((x.file = -1 ∧ (∀ y, D' y = true ↔ y = x.path ∨ D y = true) ∧ k' = k) ∨ (x.file ≠ -1 ∧ 0 ≤ x.file ∧ x.file ≤ k ∧ D' = D ∧ k' = max k (x.file + 1))) := by
  unfold nodeT at h
  split at h
  · cases h
  · split at h
    · cases h
    · rename_i h2
      have hD : D (upP x.path) = true := by simpa using h2
      refine ⟨hD, ?_⟩
      split at h
      · rename_i h3
        simp only [Option.some.injEq, Prod.mk.injEq] at h
        obtain ⟨e1, _, e3⟩ := h
        refine .inl ⟨h3.1, fun y => ?_, e3.symm⟩
        rw [← e1]
        simp
      · split at h
        · rename_i h4
          simp only [Option.some.injEq, Prod.mk.injEq] at h
          obtain ⟨e1, _, e3⟩ := h
          have h5 := (of_decide_eq_true h4.1).1
          exact .inr ⟨by omega, h5, h4.2, e1.symm, e3.symm⟩
        · cases h
theorem walk_up : ∀ (r : List Nd) (D : Bt → Bool) (l : Bt) (k k' : Int), walkT D l k r = some k' → ∀ x ∈ r, D (upP x.path) = true ∨ ∃ z ∈ r, z.path = upP x.path ∧ z.file = -1
  | [], _, _, _, _, _, _, hx => by cases hx
  | y :: r, D, l, k, k', h, x, hx => by
    unfold walkT at h
    split at h
    · cases h
    · rename_i D' l' k1 e
      obtain ⟨h1, h2⟩ := nodeT_cases e
      rcases List.mem_cons.1 hx with rfl | hx
      · exact .inl h1
      · rcases walk_up r D' l' k1 k' h x hx with h3 | ⟨z, hz, h4⟩
        · rcases h2 with ⟨f1, f2, _⟩ | ⟨_, _, _, f4, _⟩
          · rcases (f2 _).1 h3 with h5 | h5
            · exact .inr ⟨y, by simp, h5.symm, f1⟩
            · exact .inl h5
          · rw [f4] at h3
            exact .inl h3
        · exact .inr ⟨z, by simp [hz], h4⟩
theorem walk_file : ∀ (r : List Nd) (D : Bt → Bool) (l : Bt) (k k' : Int), walkT D l k r = some k' → k ≤ k' ∧ (∀ x ∈ r, x.file = -1 ∨ 0 ≤ x.file ∧ x.file < k') ∧ ∀ f, k ≤ f → f < k' → ∃ x ∈ r, x.file = f
  | [], _, _, k, k', h => by cases h; exact ⟨Int.le_refl _, fun x hx => (by cases hx), fun f h1 h2 => by omega⟩
  | y :: r, D, l, k, k', h => by
    unfold walkT at h
    split at h
    · cases h
    · rename_i D' l' k1 e
      obtain ⟨_, h2⟩ := nodeT_cases e
      obtain ⟨h3, h4, h5⟩ := walk_file r D' l' k1 k' h
      rcases h2 with ⟨f1, _, f3⟩ | ⟨f1, f2, f3, _, f5⟩
      · refine ⟨by omega, fun x hx => ?_, fun f g1 g2 => ?_⟩
        · rcases List.mem_cons.1 hx with rfl | hx
          · exact .inl f1
          · exact h4 x hx
        · obtain ⟨x, hx, e⟩ := h5 f (by omega) g2
          exact ⟨x, by simp [hx], e⟩
      · refine ⟨by omega, fun x hx => ?_, fun f g1 g2 => ?_⟩
        · rcases List.mem_cons.1 hx with rfl | hx
          · exact .inr ⟨f2, by omega⟩
          · exact h4 x hx
        · by_cases e : f < k1
          · exact ⟨y, by simp, by omega⟩
          · obtain ⟨x, hx, e⟩ := h5 f (by omega) g2
            exact ⟨x, by simp [hx], e⟩
section
variable {ns : List Nd} {fs : List Fl} (h : looseE ns fs = 0)
include h
theorem loose_chain : chain [] ns := (walkT_chain ns _ _ _ _ (loose_walk h)).1
theorem loose_lt (i j : Nat) (hij : i < j) (hj : j < ns.length) : bytesLess (ns[i]'(by omega)).path ns[j].path = true := chain_lt ns [] (loose_chain h) i j hij hj
theorem loose_inj (i j : Nat) (hi : i < ns.length) (hj : j < ns.length) (e : ns[i].path = ns[j].path) : i = j := by
  rcases Nat.lt_trichotomy i j with h1 | h1 | h1
  · have := loose_lt h i j h1 hj
    rw [e, bl_irrefl] at this
    cases this
  · exact h1
  · have := loose_lt h j i h1 hi
    rw [e, bl_irrefl] at this
    cases this
theorem loose_find (i : Nat) (hi : i < ns.length) : findI ns ns[i].path = (i : Int) :=
  findI_at ns _ i hi (decide_eq_true rfl) (fun j hj => decide_eq_false (fun e => by have := loose_inj h j i (by omega) hi e; omega))
theorem loose_up (x : Nd) (hx : x ∈ ns) : upP x.path = [] ∨ ∃ z ∈ ns, z.path = upP x.path ∧ z.file = -1 := by
  rcases walk_up ns _ _ _ _ (loose_walk h) x hx with h1 | h1
  · left; simpa [root] using h1
  · exact .inr h1
theorem loose_ne (x : Nd) (hx : x ∈ ns) : x.path ≠ [] := fun e => by
  have := (loose_node h x hx).1
  rw [e] at this
  revert this
  decide
theorem loose_nokids (i : Nat) (hi : i < ns.length) (hf : ns[i].file ≠ -1) : kidsP ns ns[i].path = [] := by
  unfold kidsP
  rw [List.map_eq_nil_iff, List.filter_eq_nil_iff]
  intro y hy he
  have e : upP y.path = ns[i].path := of_decide_eq_true he
  rcases loose_up h y hy with h1 | ⟨z, hz, h1, h2⟩
  · exact loose_ne h _ (List.getElem_mem hi) (by rw [← e, h1])
  · obtain ⟨j, hj, rfl⟩ := List.getElem_of_mem hz
    have := loose_inj h j i hj hi (by rw [h1, e])
    subst this
    exact hf h2
theorem loose_files (x : Nd) (hx : x ∈ ns) : x.file = -1 ∨ 0 ≤ x.file ∧ x.file < fs.length := (walk_file ns _ _ _ _ (loose_walk h)).2.1 x hx
theorem loose_named (f : Nat) (hf : f < fs.length) : ∃ x ∈ ns, x.file = (f : Int) := (walk_file ns _ _ _ _ (loose_walk h)).2.2 f (by omega) (by omega)
end
/-- counted either way -/
theorem count_split {β : Type} (g : Nd → β → Bool) (qs : List β) : ∀ ns : List Nd, (qs.map fun q => (ns.filter (g · q)).length).sum = (ns.map fun x => (qs.filter (g x ·)).length).sum
  | [] => by
    induction qs with
    | nil => rfl
    | cons q t ih => simpa using ih
  | x :: r => by
    have ih := count_split g qs r
    have key : ∀ qs : List β, (qs.map fun q => ((x :: r).filter (g · q)).length).sum = (qs.filter (g x ·)).length + (qs.map fun q => (r.filter (g · q)).length).sum := by
      intro qs
      induction qs with
      | nil => rfl
      | cons q t ih2 =>
        rw [List.map_cons, List.sum_cons, List.map_cons, List.sum_cons, ih2]
        by_cases e : g x q = true
        · simp only [List.filter_cons, e, if_true, List.length_cons]; omega
        · have e : g x q = false := by simpa using e
          simp only [List.filter_cons, e, Bool.false_eq_true, if_false]; omega
    rw [key, ih]
    simp
theorem one_of {β : Type} [DecidableEq β] (a : β) : ∀ qs : List β, qs.Nodup → a ∈ qs → (qs.filter fun q => decide (a = q)).length = 1
  | [], _, h => by cases h
  | q :: t, hn, h => by
    have hn' := List.nodup_cons.1 hn
    by_cases e : a = q
    · subst e
      have : t.filter (fun q => decide (a = q)) = [] := List.filter_eq_nil_iff.2 (fun y hy he => hn'.1 (by rw [of_decide_eq_true he]; exact hy))
      simp [List.filter_cons, this]
    · rcases List.mem_cons.1 h with h | h
      · exact absurd h e
      · simp only [List.filter_cons, e, decide_false, Bool.false_eq_true, if_false]
        exact one_of a t hn'.2 h
theorem sum_ones : ∀ (l : List Nd) (f : Nd → Nat), (∀ x ∈ l, f x = 1) → (l.map f).sum = l.length
  | [], _, _ => rfl
  | x :: r, f, h => by
    rw [List.map_cons, List.sum_cons, sum_ones r f (fun y hy => h y (by simp [hy])), h x (by simp), List.length_cons]
    omega
/-- how many kids the first i nodes have, and the root -/
def kidsTo (ns : List Nd) (i : Nat) : Nat := (kidsP ns []).length + ((ns.take i).map fun x => (kidsP ns x.path).length).sum
theorem kidsTo_succ (ns : List Nd) (i : Nat) (hi : i < ns.length) : kidsTo ns (i + 1) = kidsTo ns i + (kidsP ns ns[i].path).length := by
  unfold kidsTo
  rw [List.take_succ_eq_append_getElem hi, List.map_append, List.sum_append]
  simp
  omega
theorem kidsTo_mono (ns : List Nd) (i : Nat) : ∀ d, i + d ≤ ns.length → kidsTo ns i ≤ kidsTo ns (i + d)
  | 0, _ => Nat.le_refl _
  | d + 1, hd => by
    have := kidsTo_mono ns i d (by omega)
    rw [← Nat.add_assoc, kidsTo_succ ns (i + d) (by omega)]
    omega
theorem kidsTo_all {ns : List Nd} {fs : List Fl} (h : looseE ns fs = 0) : kidsTo ns ns.length = ns.length := by
  have e : kidsTo ns ns.length = ((([] : Bt) :: ns.map (·.path)).map fun q => (ns.filter (fun x => same (upP x.path) q)).length).sum := by
    unfold kidsTo kidsP
    rw [List.take_of_length_le (Nat.le_refl _)]
    simp [Function.comp_def]
  rw [e, count_split (fun x q => same (upP x.path) q)]
  refine sum_ones ns _ (fun x hx => ?_)
  refine one_of (upP x.path) _ ?_ ?_
  · refine List.nodup_cons.2 ⟨fun hm => ?_, ?_⟩
    · obtain ⟨z, hz, e⟩ := List.mem_map.1 hm
      exact loose_ne h z hz e
    · refine List.nodup_iff_pairwise_ne.2 (List.pairwise_iff_getElem.2 (fun i j hi hj hij e => ?_)) 
      simp only [List.getElem_map] at e
      have := loose_inj h i j (by simpa using hi) (by simpa using hj) e
      omega
  · rcases loose_up h x hx with h1 | ⟨z, hz, h1, _⟩
    · rw [h1]; simp
    · rw [← h1]
      exact List.mem_cons_of_mem _ (List.mem_map.2 ⟨z, hz, rfl⟩)
/-- how many names the first f files have -/
def namesTo (ns : List Nd) (f : Nat) : Nat := ((List.range f).map fun (g : Nat) => (namesF ns (g : Int)).length).sum
def dirsTo (ns : List Nd) (i : Nat) : Nat := ((ns.take i).filter isDir).length
theorem namesTo_succ (ns : List Nd) (f : Nat) : namesTo ns (f + 1) = namesTo ns f + (namesF ns (f : Int)).length := by
  unfold namesTo
  rw [List.range_succ, List.map_append, List.sum_append]
  simp
theorem namesTo_mono (ns : List Nd) (f : Nat) : ∀ d, namesTo ns f ≤ namesTo ns (f + d)
  | 0 => Nat.le_refl _
  | d + 1 => by
    have := namesTo_mono ns f d
    rw [← Nat.add_assoc, namesTo_succ]
    omega
theorem dirsTo_succ (ns : List Nd) (i : Nat) (hi : i < ns.length) : dirsTo ns (i + 1) = dirsTo ns i + (if ns[i].file = -1 then 1 else 0) := by
  unfold dirsTo
  rw [List.take_succ_eq_append_getElem hi, List.filter_append, List.length_append]
  by_cases e : ns[i].file = -1
  · simp [isDir, e]
  · simp [isDir, e]
theorem dirsTo_mono (ns : List Nd) (i : Nat) : ∀ d, i + d ≤ ns.length → dirsTo ns i ≤ dirsTo ns (i + d)
  | 0, _ => Nat.le_refl _
  | d + 1, hd => by
    have := dirsTo_mono ns i d (by omega)
    rw [← Nat.add_assoc, dirsTo_succ ns (i + d) (by omega)]
    omega
theorem sum_dirs : ∀ (l : List Nd) (f : Nd → Nat), (∀ x ∈ l, f x = if x.file = -1 then 0 else 1) → (l.map f).sum + (l.filter isDir).length = l.length
  | [], _, _ => rfl
  | x :: r, f, h => by
    have := sum_dirs r f (fun y hy => h y (by simp [hy]))
    rw [List.map_cons, List.sum_cons, h x (by simp)]
    by_cases e : x.file = -1
    · simp [isDir, e] at this ⊢; omega
    · simp [isDir, e] at this ⊢; omega
theorem names_all {ns : List Nd} {fs : List Fl} (h : looseE ns fs = 0) : namesTo ns fs.length + dirsTo ns ns.length = ns.length := by
  have e : namesTo ns fs.length = ((List.range fs.length).map fun (q : Nat) => (ns.filter (fun x => decide (x.file = (q : Int)))).length).sum := by
    unfold namesTo namesF
    congr 1
    refine List.map_congr_left (fun q _ => ?_)
    rw [List.length_map]
    congr 2
    funext x
    have : (0 : Int) ≤ (q : Int) := by omega
    simp [this]
  rw [e, count_split (fun x (q : Nat) => decide (x.file = (q : Int)))]
  unfold dirsTo
  rw [List.take_of_length_le (Nat.le_refl _)]
  refine sum_dirs ns _ (fun x hx => ?_)
  rcases loose_files h x hx with h1 | ⟨h1, h2⟩
  · rw [if_pos h1]
    have : (List.range fs.length).filter (fun (q : Nat) => decide (x.file = (q : Int))) = [] := List.filter_eq_nil_iff.2 (fun q _ he => by have := of_decide_eq_true he; omega)
    rw [this]
    rfl
  · rw [if_neg (by omega)]
    have e2 : (fun q : Nat => decide (x.file = (q : Int))) = fun q => decide (x.file.toNat = q) := by
      funext q
      congr 1
      apply propext
      omega
    rw [e2]
    exact one_of _ _ List.nodup_range (by simp; omega)
/-- the names of a file, one by one -/
theorem namesF_at {ns : List Nd} {fs : List Fl} (h : looseE ns fs = 0) (f : Int) (j : Nat) (hj : j < (namesF ns f).length) : ∃ Z, ∃ hz : Z < ns.length, ns[Z].path = (namesF ns f)[j] ∧ ns[Z].file = f ∧ findI ns (namesF ns f)[j] = (Z : Int) := by
  have hm : (namesF ns f)[j] ∈ namesF ns f := List.getElem_mem hj
  unfold namesF at hm
  obtain ⟨x, hx, e⟩ := List.mem_map.1 hm
  obtain ⟨h1, h2⟩ := List.mem_filter.1 hx
  obtain ⟨Z, hz, rfl⟩ := List.getElem_of_mem h1
  have e : ns[Z].path = (namesF ns f)[j] := e
  exact ⟨Z, hz, e, (of_decide_eq_true h2).1, by rw [← e]; exact loose_find h Z hz⟩
theorem namesF_lt {ns : List Nd} {fs : List Fl} (h : looseE ns fs = 0) (f : Int) (i j : Nat) (hij : i < j) (hj : j < (namesF ns f).length) : bytesLess ((namesF ns f)[i]'(by omega)) (namesF ns f)[j] = true := by
  have hp : ns.Pairwise fun a b => bytesLess a.path b.path = true := List.pairwise_iff_getElem.2 (fun i j hi hj hij => loose_lt h i j hij hj)
  have hq : (namesF ns f).Pairwise fun a b => bytesLess a b = true := by
    unfold namesF
    exact List.pairwise_map.2 (hp.filter _)
  exact List.pairwise_iff_getElem.1 hq i j (by omega) hj hij
theorem namesF_atD {ns : List Nd} {fs : List Fl} (h : looseE ns fs = 0) (f : Int) (j : Nat) (hj : j < (namesF ns f).length) : ∃ Z, ∃ hz : Z < ns.length, ns[Z].file = f ∧ findI ns ((namesF ns f).getD j []) = (Z : Int) := by
  obtain ⟨Z, hz, h1, h2, h3⟩ := namesF_at h f j hj
  refine ⟨Z, hz, h2, ?_⟩
  rw [List.getD_eq_getElem?_getD, List.getElem?_eq_getElem hj]
  exact h3
theorem namesF_ltD {ns : List Nd} {fs : List Fl} (h : looseE ns fs = 0) (f : Int) (i j : Nat) (hij : i < j) (hj : j < (namesF ns f).length) : bytesLess ((namesF ns f).getD i []) ((namesF ns f).getD j []) = true := by
  rw [List.getD_eq_getElem?_getD, List.getElem?_eq_getElem (by omega), List.getD_eq_getElem?_getD, List.getElem?_eq_getElem hj]
  exact namesF_lt h f i j hij hj
theorem namesF_pos {ns : List Nd} {fs : List Fl} (h : looseE ns fs = 0) (f : Nat) (hf : f < fs.length) : 1 ≤ (namesF ns (f : Int)).length := by
  obtain ⟨x, hx, e⟩ := loose_named h f hf
  have : x.path ∈ namesF ns (f : Int) := by
    unfold namesF
    exact List.mem_map.2 ⟨x, List.mem_filter.2 ⟨hx, by simp [e]⟩, rfl⟩
  exact List.length_pos_of_mem this
end Go.Tre

/-
What is proved here: tree.word, by a contract; a tree's bytes as a list; what a loose tree's modes keep to.
-/
set_option linter.unusedSimpArgs false
namespace Go.Tre
open Go.Pth Go.Proofs.Ytaanihmbnjjhcaa
/-- a number in two bytes -/
def wordB (n : Int) : Bt := [UInt8.ofNat (n % 256).toNat, UInt8.ofNat (n / 256).toNat]
def nodeB (x : Nd) : Bt := UInt8.ofNat x.path.length :: (x.path ++ (wordB (x.file + 1) ++ wordB x.mode))
def fileB (x : Fl) : Bt := wordB x.mode ++ (wordB x.data.length ++ x.data)
def nodesB (ns : List Nd) : Bt := wordB ns.length ++ ns.flatMap nodeB
def bytesT (ns : List Nd) (fs : List Fl) : Bt := nodesB ns ++ (wordB fs.length ++ fs.flatMap fileB)
theorem walk_mode : ∀ (r : List Nd) (D : Bt → Bool) (l : Bt) (k k' : Int), walkT D l k r = some k' → ∀ x ∈ r, 0 ≤ x.mode ∧ x.mode ≤ 511
  | [], _, _, _, _, _, _, hx => by cases hx
  | y :: r, D, l, k, k', h, x, hx => by
    unfold walkT at h
    split at h
    · cases h
    · rename_i D' l' k1 e
      rcases List.mem_cons.1 hx with rfl | hx
      · unfold nodeT at e
        split at e
        · cases e
        · split at e
          · cases e
          · split at e
            · rename_i h3
              exact of_decide_eq_true h3.2
            · split at e
              · rename_i h4
                have := (of_decide_eq_true h4.1).2
                omega
              · cases e
      · exact walk_mode r D' l' k1 k' h x hx
section
variable {ns : List Nd} {fs : List Fl} (h : looseE ns fs = 0)
include h
theorem loose_mode (x : Nd) (hx : x ∈ ns) : 0 ≤ x.mode ∧ x.mode ≤ 511 := walk_mode ns _ _ _ _ (loose_walk h) x hx
theorem loose_fmode (x : Fl) (hx : x ∈ fs) : 0 ≤ x.mode ∧ x.mode ≤ 511 := by
  have hl : looseB ns fs = true := by
    unfold looseE at h
    split at h
    · cases h
    · split at h
      · assumption
      · cases h
  unfold looseB at hl
  split at hl
  · cases hl
  · simp only [Bool.and_eq_true, decide_eq_true_eq] at hl
    have h2 := hl.2
    unfold anyWrong at h2
    simp only [Bool.not_eq_true', List.any_eq_false] at h2
    have := h2 x hx
    simp only [Bool.not_eq_true', Bool.not_eq_false] at this
    exact of_decide_eq_true this
theorem loose_plen (x : Nd) (hx : x ∈ ns) : x.path.length ≤ 100 := path_len _ (loose_node h x hx).1
end
end Go.Tre
namespace Go.Proofs.Ytaanihmbnjjhcaa
open Go.Pth Go.Tre Go.RowKit Go.Word Go.Shelf

def yB (c : UInt8) : Value := .int .u8 (c.toNat : Int)
theorem byte_info : (Try.prog.info? 5).map (fun i => (i.zero, i.size, i.bytes)) = some (some (.int .u8 0), 1, 1) := by kernel_rfl
/-- a row of bytes of one's own -/
def OwnB (w : World) (B : Nat) (v : Value) (l : Bt) : Prop := w.ownsRow B 5 1 v l.length (l.map yB)
theorem ownB_below {w w1 : World} {B : Nat} {v : Value} {l : Bt} (h : OwnB w B v l) (hb : Below w.heap.size w w1) : OwnB w1 B v l :=
  World.ownsRow.kept h ⟨hb.os, hb.tape, hb.output, hb.size, fun i hi _ => hb.block i hi⟩ (row := none) (by cases v.ownBlock <;> simp)
theorem ownB_alloc {w : World} {B : Nat} {v : Value} {l : Bt} (h : OwnB w B v l) (o : Obj) : OwnB (w.alloc o) B v l := World.ownsRow.alloc h o
theorem ownB_nil (w : World) (B : Nat) : OwnB w B (.slice none 0 0) [] := World.ownsRow_nil _ _ _ _
/-- all but one's own row is as it was -/
def Keep5 (w w' : World) (v : Value) : Prop := ∀ i, i < w.heap.size → some i ≠ v.ownBlock → w'.heap[i]? = w.heap[i]?
theorem lies_keep {w w' : World} {g B : Nat} {T : TypeId} {cs : Array Value} {v : Value} {l : Bt} (hT : T ≠ 5) (h : Lies w g T cs) (ho : OwnB w B v l) (hk : Keep5 w w' v) : Lies w' g T cs :=
  (hk g (lies_lt h) (fun e => by
    rcases ho.2 with ⟨rfl, _⟩ | ⟨g', cap, cur, rfl, _, hgb, _⟩
    · simp [Value.ownBlock] at e
    · obtain rfl : g = g' := by simpa [Value.ownBlock] using e
      unfold Lies at h
      rw [h] at hgb
      injection hgb with hgb
      injection hgb with _ h2 _
      exact hT h2)).trans h
theorem keep5_alloc {w w1 : World} {v : Value} {tmp : Obj} (hg : (w.alloc tmp).grownBy w1 v.ownBlock) : Keep5 w w1 v := fun i hi hne => (hg.block i (by simp; omega) hne).trans (Below.heap_alloc w tmp i hi)
theorem keep5_grown {w w1 : World} {v : Value} (hg : w.grownBy w1 v.ownBlock) : Keep5 w w1 v := fun i hi hne => hg.block i hi hne
theorem append_belowB {B : Nat} {wr w1 : World} {v : Value} {l : Bt} {tmp : Obj} (hrow : OwnB wr B v l) (hB : B ≤ wr.heap.size) (hg : (wr.alloc tmp).grownBy w1 v.ownBlock) : Below B wr w1 :=
  ((Below.refl B wr).alloc hB tmp).grown hg (by simp; omega) (fun j ej => (World.ownsRow.lt hrow j ej).1)
theorem append_belowB0 {B : Nat} {wr w1 : World} {v : Value} {l : Bt} (hrow : OwnB wr B v l) (hB : B ≤ wr.heap.size) (hg : wr.grownBy w1 v.ownBlock) : Below B wr w1 :=
  (Below.refl B wr).grown hg hB (fun j ej => (World.ownsRow.lt hrow j ej).1)
theorem yB_of (z : Int) (h0 : 0 ≤ z) (h1 : z < 256) : yB (UInt8.ofNat z.toNat) = .int .u8 z := by
  unfold yB
  have : (UInt8.ofNat z.toNat).toNat = z.toNat := by simp; omega
  rw [this]
  congr 1
  omega
theorem wordB_cells (n : Int) (h0 : 0 ≤ n) (h1 : n < 65536) : (wordB n).map yB = [.int .u8 (n % 256), .int .u8 (n / 256)] := by
  unfold wordB
  rw [List.map_cons, List.map_cons, List.map_nil, yB_of _ (by omega) (by omega), yB_of _ (by omega) (by omega)]
set_option maxRecDepth 100000 in
set_option maxHeartbeats 1000000 in
theorem word_any (v : Value) (l : Bt) (n : Int) (B : Nat) (w : World) (h0 : 0 ≤ n) (h1 : n < 65536) (ho : OwnB w B v l) (hl : l.length ≤ 10000000) (hB : B ≤ w.heap.size) :
    Calls Try.prog 38 #[v, .int .i64 n] w fun e w' => ∃ v', e = .returned v' ∧ OwnB w' B v' (l ++ wordB n) ∧ Below B w w' ∧ Keep5 w w' v := by
  obtain ⟨i0, hi, hz0, hz1, hz2⟩ := info_parts byte_info
  have HO := Lib.hid ho
  have WC := Lib.hid (wordB_cells n h0 h1)
  clear ho
  go_enter Try.func38, Try.ntmps38
  go_wp2_with (refine wpList_append_own _ rfl _ _ 40 rfl B 5 i0 (.int .u8 0) 1 1 Try.underlying40 hi hz0 hz1 hz2 rfl (by decide) _ _ _ rfl (ownB_alloc HO.out _) ⟨w.heap.size, 0, none⟩ 2 2 [.int .u8 (n % 256), .int .u8 (n / 256)] rfl rfl (fun j u hj => by
      rw [Addr.add_mid, Nat.zero_add]
      rw [lies_cell (lies_new w 5 #[.int .u8 (n % 256), .int .u8 (n / 256)]) j]
      simpa using hj) (fun u hu => by simp at hu; rcases hu with rfl | rfl <;> rfl) (by unfold maxLen; omega) (by omega) (by simp; omega) ?_; intro v' w1 hown' hgrow _; have H1 := Lib.hid (append_belowB HO.out hB hgrow); have HR := Lib.hid hown'; have HK := Lib.hid (keep5_alloc hgrow); clear hown' hgrow)
  go_ret
  refine ⟨_, rfl, ?_, H1.out, HK.out⟩
  unfold OwnB
  rw [List.map_append, WC.out]
  simpa [wordB] using HR.out
end Go.Proofs.Ytaanihmbnjjhcaa

/-
What is proved here: bytes that came in, and a text, appended to a row of bytes of one's own.
-/
set_option linter.unusedSimpArgs false
namespace Go.Proofs.Ytaanihmbnjjhcaa
open Go.Pth Go.Tre Go.RowKit Go.Word Go.Shelf

theorem run_append_none_cap (w : World) (base : Nat) (t ty e : TypeId) (i : TypeInfo) (size : Nat) (ht : Try.prog.underlying t = some (.slice e)) (hi : Try.prog.info? e = some i)
    (v : Value) (n : Nat) (xs : List Value) (c : Nat) (hown : w.ownsRow base e size v n xs) :
    (Builtin.append_ #[t, t] ty #[v, .slice none 0 c]).run Try.prog w = .ok v w := by
  rcases hown.2 with ⟨rfl, rfl⟩ | ⟨g, cap, cur, rfl, _, _, hnc, _⟩
  · simp [Builtin.append_, run_underlying ht, sizeOf, typeInfo, hi, Builtin.lenOf, Builtin.firstCells]
  · simp [Builtin.append_, run_underlying ht, sizeOf, typeInfo, hi, Builtin.lenOf, Builtin.firstCells, hnc, storeCells]
set_option maxRecDepth 100000 in
theorem wpList_app_bytes {w : World} {ops : Array Oper} {rest : List Oper} {o : Oper} {a : Act} {Q : Exit → Act → World → Prop} (hgd : o.guard = none) (s x : Operand)
    (ho : o.op = .call { callee := .builtin .append, args := #[s, x], argTypes := #[40, 40] }) (B : Nat) (v : Value) (l : Bt) (hs : a.eval s = v) (hown : OwnB w B v l)
    (DA : Option Addr) (dc : Nat) (d : Bt) (hx : a.eval x = .slice DA d.length dc) (hd : BytesAt w DA d) (hb1 : l.length ≤ 100000000) (hb2 : d.length ≤ 100000000) (hbase : B ≤ w.heap.size)
    (h : ∀ v' w', OwnB w' B v' (l ++ d) → Below B w w' → Keep5 w w' v → wpList Try.prog ops Q rest (a.put o.dst v') w') : wpList Try.prog ops Q (o :: rest) a w := by
  obtain ⟨i0, hi, hz0, hz1, hz2⟩ := info_parts byte_info
  cases DA with
  | none =>
    have hd0 : d = [] := by
      cases d with
      | nil => rfl
      | cons c t =>
        obtain ⟨b, o, e, _⟩ := hd 0 (by simp)
        cases e
    subst hd0
    rw [List.append_nil] at h
    refine wpList_plain hgd fun K hK => ?_
    have hrun := run_append_none_cap w B 40 o.type 5 i0 1 Try.underlying40 hi v l.length (l.map yB) dc hown
    unfold Oper.wp
    simp only [List.length_nil] at hx
    simp [execOp, ho, resolve, invoke, builtin, hs, hx, hrun, Result.andThen]
    exact hK _ _ (h _ _ hown (Below.refl _ _) (fun _ _ _ => rfl))
  | some ad =>
    refine wpList_append_own _ hgd s x 40 ho B 5 i0 (.int .u8 0) 1 1 Try.underlying40 hi hz0 hz1 hz2 rfl (by decide) v l.length (l.map yB) hs hown ad d.length dc (d.map yB) hx (by simp) (fun j u hj => ?_) (fun u hu => ?_) (by unfold maxLen; omega) (by omega) hbase (fun v' w' h1 h2 _ => h v' w' ?_ ?_ (keep5_grown h2))
    · have hjl : j < d.length := by
        have := (List.getElem?_eq_some_iff.1 hj).1
        simpa using this
      obtain ⟨b, o, e, _, hc⟩ := hd j hjl
      injection e with e
      subst e
      rw [Addr.add_mid, hc]
      rw [List.getElem?_map, List.getElem?_eq_getElem hjl] at hj
      simpa [yB] using hj
    · obtain ⟨c, _, rfl⟩ := List.mem_map.1 hu
      rfl
    · unfold OwnB
      rw [List.length_append, List.map_append]
      exact h1
    · exact append_belowB0 hown hbase h2
theorem strCells_st (p : Bt) : Go.Lib.strCells ⟨p.toArray⟩ = p.map yB := by
  unfold Go.Lib.strCells
  simp [yB]
set_option maxRecDepth 100000 in
theorem wpList_app_text {w : World} {ops : Array Oper} {rest : List Oper} {o : Oper} {a : Act} {Q : Exit → Act → World → Prop} (hgd : o.guard = none) (s x : Operand)
    (ho : o.op = .call { callee := .builtin .append, args := #[s, x], argTypes := #[40, 9] }) (B : Nat) (v : Value) (l : Bt) (hs : a.eval s = v) (hown : OwnB w B v l)
    (p : Bt) (hx : a.eval x = St p) (hb1 : l.length ≤ 100000000) (hb2 : p.length ≤ 100000000) (hbase : B ≤ w.heap.size)
    (h : ∀ v' w', OwnB w' B v' (l ++ p) → Below B w w' → Keep5 w w' v → wpList Try.prog ops Q rest (a.put o.dst v') w') : wpList Try.prog ops Q (o :: rest) a w := by
  obtain ⟨i0, hi, hz0, hz1, hz2⟩ := info_parts byte_info
  refine Go.Lib.wpList_append_own_string _ hgd s x 40 9 ho B 5 i0 Try.underlying40 Try.underlying9 hi hz0 hz1 hz2 v l.length (l.map yB) hs hown ⟨p.toArray⟩ hx (by unfold maxLen; rw [size_st]; omega) (by rw [size_st]; omega) hbase (fun v' w' h1 h2 _ => h v' w' ?_ ?_ (keep5_grown h2))
  · rw [strCells_st, size_st] at h1
    unfold OwnB
    rw [List.length_append, List.map_append]
    exact h1
  · exact append_belowB0 hown hbase h2
end Go.Proofs.Ytaanihmbnjjhcaa
