/-
What is proved here: the document's own look at a tree's form, as a recursion, tells what the walk over the nodes tells.
-/
import Derived.Test.YtdnagkgblmcojaaOrd
import Derived.Test.YtdnagkgblmcojaaLse
import Derived.Test.YtdnagkgblmcojaaFil
namespace Go.Tre
open Go.Pth Go.Op Go.Proofs.Ytdnagkgblmcojaa
/-- is there a directory of that path -/
def dirAt (ns : List Nd) (p : Bt) : Bool := ns.any fun z => decide (z.path = p) && isDir z
def nodeF (m : Nat) (Q : Bt → Bool) (prev : Bt) (next : Int) (x : Nd) : Option Int :=
  if leB x.path prev = true ∨ isPath x.path = false then none
  else if ¬ upP x.path = [] ∧ Q (upP x.path) = false then none
  else if x.file = -1 then (if okMode x.mode = true then some next else none)
  else if nameB x = true ∧ x.file ≤ next ∧ x.file < m then some (max next (x.file + 1)) else none
def walkF (m : Nat) (Q : Bt → Bool) : Bt → Int → List Nd → Option Int
  | _, k, [] => some k
  | l, k, x :: r => match nodeF m Q l k x with
    | none => none
    | some k' => walkF m Q x.path k' r
def chain : Bt → List Nd → Prop
  | _, [] => True
  | l, x :: r => bytesLess l x.path = true ∧ chain x.path r
def ends (m : Nat) : Option Int → Bool
  | none => false
  | some k => decide (k = m)
theorem chain_all : ∀ (r : List Nd) (l : Bt), chain l r → ∀ z ∈ r, bytesLess l z.path = true
  | [], _, _, _, h => by cases h
  | x :: r, l, hc, z, h => by
    rcases List.mem_cons.1 h with rfl | h
    · exact hc.1
    · exact bl_trans _ _ _ hc.1 (chain_all r _ hc.2 z h)
theorem nodeT_less {D : Bt → Bool} {l : Bt} {k : Int} {x : Nd} {q : (Bt → Bool) × Bt × Int} (h : nodeT D l k x = some q) : bytesLess l x.path = true ∧ q.2.1 = x.path ∧ k ≤ q.2.2 := by
  unfold nodeT at h
  split at h
  · cases h
  · rename_i h1
    have hb : bytesLess l x.path = true := (leB_false _ _).1 (by cases e : leB x.path l with | false => rfl | true => exact absurd (.inl e) h1)
    split at h
    · cases h
    · split at h
      · cases h; exact ⟨hb, rfl, Int.le_refl _⟩
      · split at h
        · cases h; exact ⟨hb, rfl, by show k ≤ max k _; omega⟩
        · cases h
theorem walkT_chain : ∀ (r : List Nd) (D : Bt → Bool) (l : Bt) (k k' : Int), walkT D l k r = some k' → chain l r ∧ k ≤ k'
  | [], _, _, k, k', h => by cases h; exact ⟨trivial, Int.le_refl _⟩
  | x :: r, D, l, k, k', h => by
    unfold walkT at h
    split at h
    · cases h
    · rename_i D' l' k1 e
      obtain ⟨h1, h2, h3⟩ := nodeT_less e
      have h2 : l' = x.path := h2
      have h3 : k ≤ k1 := h3
      obtain ⟨h4, h5⟩ := walkT_chain r _ _ _ _ h
      exact ⟨⟨h1, by rw [← h2]; exact h4⟩, by omega⟩
theorem walkF_chain (m : Nat) (Q : Bt → Bool) : ∀ (r : List Nd) (l : Bt) (k k' : Int), walkF m Q l k r = some k' → chain l r
  | [], _, _, _, _ => trivial
  | x :: r, l, k, k', h => by
    unfold walkF at h
    split at h
    · cases h
    · rename_i k1 e
      refine ⟨?_, walkF_chain m Q r _ _ _ h⟩
      unfold nodeF at e
      split at e
      · cases e
      · rename_i h1
        exact (leB_false _ _).1 (by cases e : leB x.path l with | false => rfl | true => exact absurd (.inl e) h1)
theorem walk_eq (m : Nat) (ns : List Nd) (Q : Bt → Bool) (hQ : ∀ p, Q p = dirAt ns p) : ∀ (r pre : List Nd) (D : Bt → Bool) (l : Bt) (k : Int), ns = pre ++ r → (∀ y, D y = true ↔ y = [] ∨ ∃ z ∈ pre, z.path = y ∧ isDir z = true) → chain l r →
    ends m (walkT D l k r) = ends m (walkF m Q l k r)
  | [], _, _, _, _, _, _, _ => rfl
  | x :: r, pre, D, l, k, hns, hD, hc => by
    have hle : leB x.path l = false := (leB_false _ _).2 hc.1
    unfold walkT walkF
    by_cases hp : isPath x.path = true
    · have hup : D (upP x.path) = false ↔ (¬ upP x.path = [] ∧ Q (upP x.path) = false) := by
        rw [hQ]
        constructor
        · intro h
          have h' : ¬ D (upP x.path) = true := by rw [h]; decide
          rw [hD] at h'
          refine ⟨fun e => h' (.inl e), ?_⟩
          cases e : dirAt ns (upP x.path) with
          | false => rfl
          | true =>
            exfalso
            obtain ⟨z, hz, hz2⟩ := List.any_eq_true.1 e
            simp only [Bool.and_eq_true, decide_eq_true_eq] at hz2
            have hu : upP x.path ≠ [] := fun e => h' (.inl e)
            have hl := up_less x.path hu
            rw [hns] at hz
            rcases List.mem_append.1 hz with hz | hz
            · exact h' (.inr ⟨z, hz, hz2⟩)
            · have hxz : bytesLess (upP x.path) z.path = true := by
                rcases List.mem_cons.1 hz with rfl | hz
                · exact hl
                · exact bl_trans _ _ _ hl (chain_all r _ hc.2 z hz)
              rw [hz2.1, bl_irrefl] at hxz
              cases hxz
        · rintro ⟨h1, h2⟩
          cases e : D (upP x.path) with
          | false => rfl
          | true =>
            exfalso
            rcases (hD _).1 e with h | ⟨z, hz, hz2⟩
            · exact h1 h
            · have : dirAt ns (upP x.path) = true := List.any_eq_true.2 ⟨z, by rw [hns]; exact List.mem_append_left _ hz, by simp [hz2.1, hz2.2]⟩
              rw [h2] at this
              cases this
      have hns2 : ns = (pre ++ [x]) ++ r := by rw [hns]; simp
      unfold nodeT nodeF
      have h0 : ¬ (leB x.path l = true ∨ isPath x.path = false) := by simp [hle, hp]
      rw [if_neg h0, if_neg h0]
      by_cases hu : D (upP x.path) = false
      · rw [if_pos hu, if_pos (hup.1 hu)]
      · have hu2 : ¬ (¬ upP x.path = [] ∧ Q (upP x.path) = false) := fun h => hu (hup.2 h)
        rw [if_neg hu, if_neg hu2]
        by_cases hf : x.file = -1
        · rw [if_pos hf]
          by_cases hm : okMode x.mode = true
          · rw [if_pos ⟨hf, hm⟩, if_pos hm]
            refine walk_eq m ns Q hQ r (pre ++ [x]) _ _ _ hns2 (fun y => ?_) hc.2
            simp only [Bool.or_eq_true, beq_iff_eq, hD, List.mem_append, List.mem_singleton]
            constructor
            · rintro (rfl | h | ⟨z, hz, h2⟩)
              · exact .inr ⟨x, .inr rfl, rfl, decide_eq_true hf⟩
              · exact .inl h
              · exact .inr ⟨z, .inl hz, h2⟩
            · rintro (h | ⟨z, hz | rfl, h2⟩)
              · exact .inr (.inl h)
              · exact .inr (.inr ⟨z, hz, h2⟩)
              · exact .inl h2.1.symm
          · have n1 : ¬ (x.file = -1 ∧ okMode x.mode = true) := fun h => hm h.2
            have n2 : ¬ (nameB x = true ∧ x.file ≤ k) := fun h => by
              have := of_decide_eq_true h.1
              omega
            rw [if_neg n1, if_neg hm, if_neg n2]
        · have n3 : ¬ (x.file = -1 ∧ okMode x.mode = true) := fun h => hf h.1
          rw [if_neg hf, if_neg n3]
          by_cases hn : nameB x = true ∧ x.file ≤ k
          · rw [if_pos hn]
            have hD2 : ∀ y, D y = true ↔ y = [] ∨ ∃ z ∈ pre ++ [x], z.path = y ∧ isDir z = true := fun y => by
              simp only [hD, List.mem_append, List.mem_singleton]
              constructor
              · rintro (h | ⟨z, hz, h2⟩)
                · exact .inl h
                · exact .inr ⟨z, .inl hz, h2⟩
              · rintro (h | ⟨z, hz | rfl, h2⟩)
                · exact .inl h
                · exact .inr ⟨z, hz, h2⟩
                · exact absurd (of_decide_eq_true h2.2) hf
            by_cases hm : x.file < m
            · rw [if_pos ⟨hn.1, hn.2, hm⟩]
              exact walk_eq m ns Q hQ r (pre ++ [x]) _ _ _ hns2 hD2 hc.2
            · have n4 : ¬ (nameB x = true ∧ x.file ≤ k ∧ x.file < m) := fun h => hm h.2.2
              rw [if_neg n4]
              show ends m (walkT D x.path (max k (x.file + 1)) r) = false
              cases e : walkT D x.path (max k (x.file + 1)) r with
              | none => rfl
              | some k' =>
                have := (walkT_chain r _ _ _ _ e).2
                exact decide_eq_false (by omega)
          · have n5 : ¬ (nameB x = true ∧ x.file ≤ k ∧ x.file < m) := fun h => hn ⟨h.1, h.2.1⟩
            rw [if_neg hn, if_neg n5]
    · have hp2 : isPath x.path = false := by simpa using hp
      unfold nodeT nodeF
      have h0 : leB x.path l = true ∨ isPath x.path = false := .inr hp2
      rw [if_pos h0, if_pos h0]
theorem chain_lt : ∀ (ns : List Nd) (l : Bt), chain l ns → ∀ i j (hij : i < j) (hj : j < ns.length), bytesLess (ns[i]'(by omega)).path ns[j].path = true
  | [], _, _, _, _, _, hj => by simp at hj
  | x :: r, l, hc, i, j + 1, hij, hj => by
    have hj' : j < r.length := by simpa using hj
    cases i with
    | zero => exact chain_all r _ hc.2 _ (List.getElem_mem hj')
    | succ i => exact chain_lt r _ hc.2 i j (by omega) hj'
theorem form_eq (ns : List Nd) (fs : List Fl) (Q : Bt → Bool) (hQ : chain [] ns → ∀ p, Q p = dirAt ns p) : (ends fs.length (walkF fs.length Q [] 0 ns) && !anyWrong fs) = looseB ns fs := by
  have e : ends fs.length (walkF fs.length Q [] 0 ns) = ends fs.length (walkT root [] 0 ns) := by
    by_cases hc : chain [] ns
    · exact (walk_eq fs.length ns Q (hQ hc) ns [] root [] 0 rfl (fun y => by simp [root]) hc).symm
    · have h1 : walkF fs.length Q [] 0 ns = none := by
        cases e : walkF fs.length Q [] 0 ns with
        | none => rfl
        | some k => exact absurd (walkF_chain _ _ _ _ _ _ e) hc
      have h2 : walkT root [] 0 ns = none := by
        cases e : walkT root [] 0 ns with
        | none => rfl
        | some k => exact absurd (walkT_chain _ _ _ _ _ e).1 hc
      rw [h1, h2]
  rw [e]
  unfold looseB
  cases walkT root [] 0 ns <;> rfl
end Go.Tre
