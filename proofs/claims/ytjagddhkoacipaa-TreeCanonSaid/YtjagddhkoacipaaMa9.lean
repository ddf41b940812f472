/-
What is proved here: several texts in one (Par, By1, By2, Big): each says what it is about.
-/
import Derived.Test.YtjagddhkoacipaaMa8
import Derived.Lib.AppendStr
import Derived.Laws.AppendOwnNone
import Derived.Test.YtjagddhkoacipaaMa7
/-
What is proved here: what a loose tree's nodes keep to: each has a directory above it, each file a name; how many there are in all.
-/
set_option linter.unusedSimpArgs false
namespace Go.Tre
open Go.Pth Go.Op Go.Proofs.Ytjagddhkoacipaa
theorem nodeT_cases {D : Bt → Bool} {l : Bt} {k : Int} {x : Nd} {D' : Bt → Bool} {l' : Bt} {k' : Int} (h : nodeT D l k x = some (D', l', k')) :
    D (upP x.path) = true ∧ ((x.file = -1 ∧ (∀ y, D' y = true ↔ y = x.path ∨ D y = true) ∧ k' = k) ∨ (x.file ≠ -1 ∧ 0 ≤ x.file ∧ x.file ≤ k ∧ D' = D ∧ k' = max k (x.file + 1))) := by
  unfold nodeT at h
  split at h
  · cases h
  · split at h
    · cases h
    · rename_i h2
      have hD : D (upP x.path) = true := by simpa using h2
      refine ⟨hD, ?_⟩
      split at h
      · rename_i h3
        simp only [Option.some.injEq, Prod.mk.injEq] at h
        obtain ⟨e1, _, e3⟩ := h
        refine .inl ⟨h3.1, fun y => ?_, e3.symm⟩
        rw [← e1]
        simp
      · split at h
        · rename_i h4
          simp only [Option.some.injEq, Prod.mk.injEq] at h
          obtain ⟨e1, _, e3⟩ := h
          have h5 := (of_decide_eq_true h4.1).1
          exact .inr ⟨by omega, h5, h4.2, e1.symm, e3.symm⟩
        · cases h
theorem walk_up : ∀ (r : List Nd) (D : Bt → Bool) (l : Bt) (k k' : Int), walkT D l k r = some k' → ∀ x ∈ r, D (upP x.path) = true ∨ ∃ z ∈ r, z.path = upP x.path ∧ z.file = -1
  | [], _, _, _, _, _, _, hx => by cases hx
  | y :: r, D, l, k, k', h, x, hx => by
    unfold walkT at h
    split at h
    · cases h
    · rename_i D' l' k1 e
      obtain ⟨h1, h2⟩ := nodeT_cases e
      rcases List.mem_cons.1 hx with rfl | hx
      · exact .inl h1
      · rcases walk_up r D' l' k1 k' h x hx with h3 | ⟨z, hz, h4⟩
        · rcases h2 with ⟨f1, f2, _⟩ | ⟨_, _, _, f4, _⟩
          · rcases (f2 _).1 h3 with h5 | h5
            · exact .inr ⟨y, by simp, h5.symm, f1⟩
            · exact .inl h5
          · rw [f4] at h3
            exact .inl h3
        · exact .inr ⟨z, by simp [hz], h4⟩
theorem walk_file : ∀ (r : List Nd) (D : Bt → Bool) (l : Bt) (k k' : Int), walkT D l k r = some k' → k ≤ k' ∧ (∀ x ∈ r, x.file = -1 ∨ 0 ≤ x.file ∧ x.file < k') ∧ ∀ f, k ≤ f → f < k' → ∃ x ∈ r, x.file = f
  | [], _, _, k, k', h => by cases h; exact ⟨Int.le_refl _, fun x hx => (by cases hx), fun f h1 h2 => by omega⟩
  | y :: r, D, l, k, k', h => by
    unfold walkT at h
    split at h
    · cases h
    · rename_i D' l' k1 e
      obtain ⟨_, h2⟩ := nodeT_cases e
      obtain ⟨h3, h4, h5⟩ := walk_file r D' l' k1 k' h
      rcases h2 with ⟨f1, _, f3⟩ | ⟨f1, f2, f3, _, f5⟩
      · refine ⟨by omega, fun x hx => ?_, fun f g1 g2 => ?_⟩
        · rcases List.mem_cons.1 hx with rfl | hx
          · exact .inl f1
          · exact h4 x hx
        · obtain ⟨x, hx, e⟩ := h5 f (by omega) g2
          exact ⟨x, by simp [hx], e⟩
      · refine ⟨by omega, fun x hx => ?_, fun f g1 g2 => ?_⟩
        · rcases List.mem_cons.1 hx with rfl | hx
          · exact .inr ⟨f2, by omega⟩
          · exact h4 x hx
        · by_cases e : f < k1
          · exact ⟨y, by simp, by omega⟩
          · obtain ⟨x, hx, e⟩ := h5 f (by omega) g2
            exact ⟨x, by simp [hx], e⟩
section
variable {ns : List Nd} {fs : List Fl} (h : looseE ns fs = 0)
include h
theorem loose_chain : chain [] ns := (walkT_chain ns _ _ _ _ (loose_walk h)).1
theorem loose_lt (i j : Nat) (hij : i < j) (hj : j < ns.length) : bytesLess (ns[i]'(by omega)).path ns[j].path = true := chain_lt ns [] (loose_chain h) i j hij hj
theorem loose_inj (i j : Nat) (hi : i < ns.length) (hj : j < ns.length) (e : ns[i].path = ns[j].path) : i = j := by
  rcases Nat.lt_trichotomy i j with h1 | h1 | h1
  · have := loose_lt h i j h1 hj
    rw [e, bl_irrefl] at this
    cases this
  · exact h1
  · have := loose_lt h j i h1 hi
    rw [e, bl_irrefl] at this
    cases this
theorem loose_find (i : Nat) (hi : i < ns.length) : findI ns ns[i].path = (i : Int) :=
  findI_at ns _ i hi (decide_eq_true rfl) (fun j hj => decide_eq_false (fun e => by have := loose_inj h j i (by omega) hi e; omega))
theorem loose_up (x : Nd) (hx : x ∈ ns) : upP x.path = [] ∨ ∃ z ∈ ns, z.path = upP x.path ∧ z.file = -1 := by
  rcases walk_up ns _ _ _ _ (loose_walk h) x hx with h1 | h1
  · left; simpa [root] using h1
  · exact .inr h1
theorem loose_ne (x : Nd) (hx : x ∈ ns) : x.path ≠ [] := fun e => by
  have := (loose_node h x hx).1
  rw [e] at this
  revert this
  decide
theorem loose_nokids (i : Nat) (hi : i < ns.length) (hf : ns[i].file ≠ -1) : kidsP ns ns[i].path = [] := by
  unfold kidsP
  rw [List.map_eq_nil_iff, List.filter_eq_nil_iff]
  intro y hy he
  have e : upP y.path = ns[i].path := of_decide_eq_true he
  rcases loose_up h y hy with h1 | ⟨z, hz, h1, h2⟩
  · exact loose_ne h _ (List.getElem_mem hi) (by rw [← e, h1])
  · obtain ⟨j, hj, rfl⟩ := List.getElem_of_mem hz
    have := loose_inj h j i hj hi (by rw [h1, e])
    subst this
    exact hf h2
theorem loose_files (x : Nd) (hx : x ∈ ns) : x.file = -1 ∨ 0 ≤ x.file ∧ x.file < fs.length := (walk_file ns _ _ _ _ (loose_walk h)).2.1 x hx
theorem loose_named (f : Nat) (hf : f < fs.length) : ∃ x ∈ ns, x.file = (f : Int) := (walk_file ns _ _ _ _ (loose_walk h)).2.2 f (by omega) (by omega)
end
/-- counted either way -/
theorem count_split {β : Type} (g : Nd → β → Bool) (qs : List β) : ∀ ns : List Nd, (qs.map fun q => (ns.filter (g · q)).length).sum = (ns.map fun x => (qs.filter (g x ·)).length).sum
  | [] => by
    induction qs with
    | nil => rfl
    | cons q t ih => simpa using ih
  | x :: r => by
    have ih := count_split g qs r
    have key : ∀ qs : List β, (qs.map fun q => ((x :: r).filter (g · q)).length).sum = (qs.filter (g x ·)).length + (qs.map fun q => (r.filter (g · q)).length).sum := by
      intro qs
      induction qs with
      | nil => rfl
      | cons q t ih2 =>
        rw [List.map_cons, List.sum_cons, List.map_cons, List.sum_cons, ih2]
        by_cases e : g x q = true
        · simp only [List.filter_cons, e, if_true, List.length_cons]; omega
        · have e : g x q = false := by simpa using e
          simp only [List.filter_cons, e, Bool.false_eq_true, if_false]; omega
    rw [key, ih]
    simp
theorem one_of {β : Type} [DecidableEq β] (a : β) : ∀ qs : List β, qs.Nodup → a ∈ qs → (qs.filter fun q => decide (a = q)).length = 1
  | [], _, h => by cases h
  | q :: t, hn, h => by
    have hn' := List.nodup_cons.1 hn
    by_cases e : a = q
    · subst e
      have : t.filter (fun q => decide (a = q)) = [] := List.filter_eq_nil_iff.2 (fun y hy he => hn'.1 (by rw [of_decide_eq_true he]; exact hy))
      simp [List.filter_cons, this]
    · rcases List.mem_cons.1 h with h | h
      · exact absurd h e
      · simp only [List.filter_cons, e, decide_false, Bool.false_eq_true, if_false]
        exact one_of a t hn'.2 h
theorem sum_ones : ∀ (l : List Nd) (f : Nd → Nat), (∀ x ∈ l, f x = 1) → (l.map f).sum = l.length
  | [], _, _ => rfl
  | x :: r, f, h => by
    rw [List.map_cons, List.sum_cons, sum_ones r f (fun y hy => h y (by simp [hy])), h x (by simp), List.length_cons]
    omega
/-- how many kids the first i nodes have, and the root -/
def kidsTo (ns : List Nd) (i : Nat) : Nat := (kidsP ns []).length + ((ns.take i).map fun x => (kidsP ns x.path).length).sum
theorem kidsTo_succ (ns : List Nd) (i : Nat) (hi : i < ns.length) : kidsTo ns (i + 1) = kidsTo ns i + (kidsP ns ns[i].path).length := by
  unfold kidsTo
  rw [List.take_succ_eq_append_getElem hi, List.map_append, List.sum_append]
  simp
  omega
theorem kidsTo_mono (ns : List Nd) (i : Nat) : ∀ d, i + d ≤ ns.length → kidsTo ns i ≤ kidsTo ns (i + d)
  | 0, _ => Nat.le_refl _
  | d + 1, hd => by
    have := kidsTo_mono ns i d (by omega)
    rw [← Nat.add_assoc, kidsTo_succ ns (i + d) (by omega)]
    omega
theorem kidsTo_all {ns : List Nd} {fs : List Fl} (h : looseE ns fs = 0) : kidsTo ns ns.length = ns.length := by
  have e : kidsTo ns ns.length = ((([] : Bt) :: ns.map (·.path)).map fun q => (ns.filter (fun x => same (upP x.path) q)).length).sum := by
    unfold kidsTo kidsP
    rw [List.take_of_length_le (Nat.le_refl _)]
    simp [Function.comp_def]
  rw [e, count_split (fun x q => same (upP x.path) q)]
  refine sum_ones ns _ (fun x hx => ?_)
  refine one_of (upP x.path) _ ?_ ?_
  · refine List.nodup_cons.2 ⟨fun hm => ?_, ?_⟩
    · obtain ⟨z, hz, e⟩ := List.mem_map.1 hm
      exact loose_ne h z hz e
    · refine List.nodup_iff_pairwise_ne.2 (List.pairwise_iff_getElem.2 (fun i j hi hj hij e => ?_)) 
      simp only [List.getElem_map] at e
      have := loose_inj h i j (by simpa using hi) (by simpa using hj) e
      omega
  · rcases loose_up h x hx with h1 | ⟨z, hz, h1, _⟩
    · rw [h1]; simp
    · rw [← h1]
      exact List.mem_cons_of_mem _ (List.mem_map.2 ⟨z, hz, rfl⟩)
/-- how many names the first f files have -/
def namesTo (ns : List Nd) (f : Nat) : Nat := ((List.range f).map fun (g : Nat) => (namesF ns (g : Int)).length).sum
def dirsTo (ns : List Nd) (i : Nat) : Nat := ((ns.take i).filter isDir).length
theorem namesTo_succ (ns : List Nd) (f : Nat) : namesTo ns (f + 1) = namesTo ns f + (namesF ns (f : Int)).length := by
  unfold namesTo
  rw [List.range_succ, List.map_append, List.sum_append]
  simp
theorem namesTo_mono (ns : List Nd) (f : Nat) : ∀ d, namesTo ns f ≤ namesTo ns (f + d)
  | 0 => Nat.le_refl _
  | d + 1 => by
    have := namesTo_mono ns f d
    rw [← Nat.add_assoc, namesTo_succ]
    omega
theorem dirsTo_succ (ns : List Nd) (i : Nat) (hi : i < ns.length) : dirsTo ns (i + 1) = dirsTo ns i + (if ns[i].file = -1 then 1 else 0) := by
  unfold dirsTo
  rw [List.take_succ_eq_append_getElem hi, List.filter_append, List.length_append]
  by_cases e : ns[i].file = -1
  · simp [isDir, e]
  · simp [isDir, e]
theorem dirsTo_mono (ns : List Nd) (i : Nat) : ∀ d, i + d ≤ ns.length → dirsTo ns i ≤ dirsTo ns (i + d)
  | 0, _ => Nat.le_refl _
  | d + 1, hd => by
    have := dirsTo_mono ns i d (by omega)
    rw [← Nat.add_assoc, dirsTo_succ ns (i + d) (by omega)]
    omega
theorem sum_dirs : ∀ (l : List Nd) (f : Nd → Nat), (∀ x ∈ l, f x = if x.file = -1 then 0 else 1) → (l.map f).sum + (l.filter isDir).length = l.length
  | [], _, _ => rfl
  | x :: r, f, h => by
    have := sum_dirs r f (fun y hy => h y (by simp [hy]))
    rw [List.map_cons, List.sum_cons, h x (by simp)]
    by_cases e : x.file = -1
    · simp [isDir, e] at this ⊢; omega
    · simp [isDir, e] at this ⊢; omega
theorem names_all {ns : List Nd} {fs : List Fl} (h : looseE ns fs = 0) : namesTo ns fs.length + dirsTo ns ns.length = ns.length := by
  have e : namesTo ns fs.length = ((List.range fs.length).map fun (q : Nat) => (ns.filter (fun x => decide (x.file = (q : Int)))).length).sum := by
    unfold namesTo namesF
    congr 1
    refine List.map_congr_left (fun q _ => ?_)
    rw [List.length_map]
    congr 2
    funext x
    have : (0 : Int) ≤ (q : Int) := by omega
    simp [this]
  rw [e, count_split (fun x (q : Nat) => decide (x.file = (q : Int)))]
  unfold dirsTo
  rw [List.take_of_length_le (Nat.le_refl _)]
  refine sum_dirs ns _ (fun x hx => ?_)
  rcases loose_files h x hx with h1 | ⟨h1, h2⟩
  · rw [if_pos h1]
    have : (List.range fs.length).filter (fun (q : Nat) => decide (x.file = (q : Int))) = [] := List.filter_eq_nil_iff.2 (fun q _ he => by have := of_decide_eq_true he; omega)
    rw [this]
    rfl
  · rw [if_neg (by omega)]
    have e2 : (fun q : Nat => decide (x.file = (q : Int))) = fun q => decide (x.file.toNat = q) := by
      funext q
      congr 1
      apply propext
      omega
    rw [e2]
    exact one_of _ _ List.nodup_range (by simp; omega)
/-- the names of a file, one by one -/
theorem namesF_at {ns : List Nd} {fs : List Fl} (h : looseE ns fs = 0) (f : Int) (j : Nat) (hj : j < (namesF ns f).length) : ∃ Z, ∃ hz : Z < ns.length, ns[Z].path = (namesF ns f)[j] ∧ ns[Z].file = f ∧ findI ns (namesF ns f)[j] = (Z : Int) := by
  have hm : (namesF ns f)[j] ∈ namesF ns f := List.getElem_mem hj
  unfold namesF at hm
  obtain ⟨x, hx, e⟩ := List.mem_map.1 hm
  obtain ⟨h1, h2⟩ := List.mem_filter.1 hx
  obtain ⟨Z, hz, rfl⟩ := List.getElem_of_mem h1
  have e : ns[Z].path = (namesF ns f)[j] := e
  exact ⟨Z, hz, e, (of_decide_eq_true h2).1, by rw [← e]; exact loose_find h Z hz⟩
theorem namesF_lt {ns : List Nd} {fs : List Fl} (h : looseE ns fs = 0) (f : Int) (i j : Nat) (hij : i < j) (hj : j < (namesF ns f).length) : bytesLess ((namesF ns f)[i]'(by omega)) (namesF ns f)[j] = true := by
  have hp : ns.Pairwise fun a b => bytesLess a.path b.path = true := List.pairwise_iff_getElem.2 (fun i j hi hj hij => loose_lt h i j hij hj)
  have hq : (namesF ns f).Pairwise fun a b => bytesLess a b = true := by
    unfold namesF
    exact List.pairwise_map.2 (hp.filter _)
  exact List.pairwise_iff_getElem.1 hq i j (by omega) hj hij
theorem namesF_atD {ns : List Nd} {fs : List Fl} (h : looseE ns fs = 0) (f : Int) (j : Nat) (hj : j < (namesF ns f).length) : ∃ Z, ∃ hz : Z < ns.length, ns[Z].file = f ∧ findI ns ((namesF ns f).getD j []) = (Z : Int) := by
  obtain ⟨Z, hz, h1, h2, h3⟩ := namesF_at h f j hj
  refine ⟨Z, hz, h2, ?_⟩
  rw [List.getD_eq_getElem?_getD, List.getElem?_eq_getElem hj]
  exact h3
theorem namesF_ltD {ns : List Nd} {fs : List Fl} (h : looseE ns fs = 0) (f : Int) (i j : Nat) (hij : i < j) (hj : j < (namesF ns f).length) : bytesLess ((namesF ns f).getD i []) ((namesF ns f).getD j []) = true := by
  rw [List.getD_eq_getElem?_getD, List.getElem?_eq_getElem (by omega), List.getD_eq_getElem?_getD, List.getElem?_eq_getElem hj]
  exact namesF_lt h f i j hij hj
theorem namesF_pos {ns : List Nd} {fs : List Fl} (h : looseE ns fs = 0) (f : Nat) (hf : f < fs.length) : 1 ≤ (namesF ns (f : Int)).length := by
  obtain ⟨x, hx, e⟩ := loose_named h f hf
  have : x.path ∈ namesF ns (f : Int) := by
    unfold namesF
    exact List.mem_map.2 ⟨x, List.mem_filter.2 ⟨hx, by simp [e]⟩, rfl⟩
  exact List.length_pos_of_mem this
end Go.Tre

/-
What is proved here: tree.word, by a contract; a tree's bytes as a list; what a loose tree's modes keep to.
-/
set_option linter.unusedSimpArgs false
namespace Go.Tre
open Go.Pth Go.Proofs.Ytjagddhkoacipaa
/-- a number in two bytes -/
def wordB (n : Int) : Bt := [UInt8.ofNat (n % 256).toNat, UInt8.ofNat (n / 256).toNat]
def nodeB (x : Nd) : Bt := UInt8.ofNat x.path.length :: (x.path ++ (wordB (x.file + 1) ++ wordB x.mode))
def fileB (x : Fl) : Bt := wordB x.mode ++ (wordB x.data.length ++ x.data)
def nodesB (ns : List Nd) : Bt := wordB ns.length ++ ns.flatMap nodeB
def bytesT (ns : List Nd) (fs : List Fl) : Bt := nodesB ns ++ (wordB fs.length ++ fs.flatMap fileB)
theorem walk_mode : ∀ (r : List Nd) (D : Bt → Bool) (l : Bt) (k k' : Int), walkT D l k r = some k' → ∀ x ∈ r, 0 ≤ x.mode ∧ x.mode ≤ 511
  | [], _, _, _, _, _, _, hx => by cases hx
  | y :: r, D, l, k, k', h, x, hx => by
    unfold walkT at h
    split at h
    · cases h
    · rename_i D' l' k1 e
      rcases List.mem_cons.1 hx with rfl | hx
      · unfold nodeT at e
        split at e
        · cases e
        · split at e
          · cases e
          · split at e
            · rename_i h3
              exact of_decide_eq_true h3.2
            · split at e
              · rename_i h4
                have := (of_decide_eq_true h4.1).2
                omega
              · cases e
      · exact walk_mode r D' l' k1 k' h x hx
section
variable {ns : List Nd} {fs : List Fl} (h : looseE ns fs = 0)
include h
theorem loose_mode (x : Nd) (hx : x ∈ ns) : 0 ≤ x.mode ∧ x.mode ≤ 511 := walk_mode ns _ _ _ _ (loose_walk h) x hx
theorem loose_fmode (x : Fl) (hx : x ∈ fs) : 0 ≤ x.mode ∧ x.mode ≤ 511 := by
  have hl : looseB ns fs = true := by
    unfold looseE at h
    split at h
    · cases h
    · split at h
      · assumption
      · cases h
  unfold looseB at hl
  split at hl
  · cases hl
  · simp only [Bool.and_eq_true, decide_eq_true_eq] at hl
    have h2 := hl.2
    unfold anyWrong at h2
    simp only [Bool.not_eq_true', List.any_eq_false] at h2
    have := h2 x hx
    simp only [Bool.not_eq_true', Bool.not_eq_false] at this
    exact of_decide_eq_true this
theorem loose_plen (x : Nd) (hx : x ∈ ns) : x.path.length ≤ 100 := path_len _ (loose_node h x hx).1
end
end Go.Tre
namespace Go.Proofs.Ytjagddhkoacipaa
open Go.Pth Go.Tre Go.RowKit Go.Word Go.Shelf

def yB (c : UInt8) : Value := .int .u8 (c.toNat : Int)
theorem byte_info : (Try.prog.info? 5).map (fun i => (i.zero, i.size, i.bytes)) = some (some (.int .u8 0), 1, 1) := by kernel_rfl
/-- a row of bytes of one's own -/
def OwnB (w : World) (B : Nat) (v : Value) (l : Bt) : Prop := w.ownsRow B 5 1 v l.length (l.map yB)
theorem ownB_below {w w1 : World} {B : Nat} {v : Value} {l : Bt} (h : OwnB w B v l) (hb : Below w.heap.size w w1) : OwnB w1 B v l :=
  World.ownsRow.kept h ⟨hb.os, hb.tape, hb.output, hb.size, fun i hi _ => hb.block i hi⟩ (row := none) (by cases v.ownBlock <;> simp)
theorem ownB_alloc {w : World} {B : Nat} {v : Value} {l : Bt} (h : OwnB w B v l) (o : Obj) : OwnB (w.alloc o) B v l := World.ownsRow.alloc h o
theorem ownB_nil (w : World) (B : Nat) : OwnB w B (.slice none 0 0) [] := World.ownsRow_nil _ _ _ _
/-- all but one's own row is as it was -/
def Keep5 (w w' : World) (v : Value) : Prop := ∀ i, i < w.heap.size → some i ≠ v.ownBlock → w'.heap[i]? = w.heap[i]?
theorem lies_keep {w w' : World} {g B : Nat} {T : TypeId} {cs : Array Value} {v : Value} {l : Bt} (hT : T ≠ 5) (h : Lies w g T cs) (ho : OwnB w B v l) (hk : Keep5 w w' v) : Lies w' g T cs :=
  (hk g (lies_lt h) (fun e => by
    rcases ho.2 with ⟨rfl, _⟩ | ⟨g', cap, cur, rfl, _, hgb, _⟩
    · simp [Value.ownBlock] at e
    · obtain rfl : g = g' := by simpa [Value.ownBlock] using e
      unfold Lies at h
      rw [h] at hgb
      injection hgb with hgb
      injection hgb with _ h2 _
      exact hT h2)).trans h
theorem keep5_alloc {w w1 : World} {v : Value} {tmp : Obj} (hg : (w.alloc tmp).grownBy w1 v.ownBlock) : Keep5 w w1 v := fun i hi hne => (hg.block i (by simp; omega) hne).trans (Below.heap_alloc w tmp i hi)
theorem keep5_grown {w w1 : World} {v : Value} (hg : w.grownBy w1 v.ownBlock) : Keep5 w w1 v := fun i hi hne => hg.block i hi hne
theorem append_belowB {B : Nat} {wr w1 : World} {v : Value} {l : Bt} {tmp : Obj} (hrow : OwnB wr B v l) (hB : B ≤ wr.heap.size) (hg : (wr.alloc tmp).grownBy w1 v.ownBlock) : Below B wr w1 :=
  ((Below.refl B wr).alloc hB tmp).grown hg (by simp; omega) (fun j ej => (World.ownsRow.lt hrow j ej).1)
theorem append_belowB0 {B : Nat} {wr w1 : World} {v : Value} {l : Bt} (hrow : OwnB wr B v l) (hB : B ≤ wr.heap.size) (hg : wr.grownBy w1 v.ownBlock) : Below B wr w1 :=
  (Below.refl B wr).grown hg hB (fun j ej => (World.ownsRow.lt hrow j ej).1)
theorem yB_of (z : Int) (h0 : 0 ≤ z) (h1 : z < 256) : yB (UInt8.ofNat z.toNat) = .int .u8 z := by
  unfold yB
  have : (UInt8.ofNat z.toNat).toNat = z.toNat := by simp; omega
  rw [this]
  congr 1
  omega
theorem wordB_cells (n : Int) (h0 : 0 ≤ n) (h1 : n < 65536) : (wordB n).map yB = [.int .u8 (n % 256), .int .u8 (n / 256)] := by
  unfold wordB
  rw [List.map_cons, List.map_cons, List.map_nil, yB_of _ (by omega) (by omega), yB_of _ (by omega) (by omega)]
set_option maxRecDepth 100000 in
set_option maxHeartbeats 1000000 in
theorem word_any (v : Value) (l : Bt) (n : Int) (B : Nat) (w : World) (h0 : 0 ≤ n) (h1 : n < 65536) (ho : OwnB w B v l) (hl : l.length ≤ 10000000) (hB : B ≤ w.heap.size) :
    Calls Try.prog 46 #[v, .int .i64 n] w fun e w' => ∃ v', e = .returned v' ∧ OwnB w' B v' (l ++ wordB n) ∧ Below B w w' ∧ Keep5 w w' v := by
  obtain ⟨i0, hi, hz0, hz1, hz2⟩ := info_parts byte_info
  have HO := Lib.hid ho
  have WC := Lib.hid (wordB_cells n h0 h1)
  clear ho
  go_enter Try.func46, Try.ntmps46
  go_wp2_with (refine wpList_append_own _ rfl _ _ 37 rfl B 5 i0 (.int .u8 0) 1 1 Try.underlying37 hi hz0 hz1 hz2 rfl (by decide) _ _ _ rfl (ownB_alloc HO.out _) ⟨w.heap.size, 0, none⟩ 2 2 [.int .u8 (n % 256), .int .u8 (n / 256)] rfl rfl (fun j u hj => by
      rw [Addr.add_mid, Nat.zero_add]
      rw [lies_cell (lies_new w 5 #[.int .u8 (n % 256), .int .u8 (n / 256)]) j]
      simpa using hj) (fun u hu => by simp at hu; rcases hu with rfl | rfl <;> rfl) (by unfold maxLen; omega) (by omega) (by simp; omega) ?_; intro v' w1 hown' hgrow _; have H1 := Lib.hid (append_belowB HO.out hB hgrow); have HR := Lib.hid hown'; have HK := Lib.hid (keep5_alloc hgrow); clear hown' hgrow)
  go_ret
  refine ⟨_, rfl, ?_, H1.out, HK.out⟩
  unfold OwnB
  rw [List.map_append, WC.out]
  simpa [wordB] using HR.out
end Go.Proofs.Ytjagddhkoacipaa

/-
What is proved here: bytes that came in, and a text, appended to a row of bytes of one's own.
-/
set_option linter.unusedSimpArgs false
namespace Go.Proofs.Ytjagddhkoacipaa
open Go.Pth Go.Tre Go.RowKit Go.Word Go.Shelf

theorem run_append_none_cap (w : World) (base : Nat) (t ty e : TypeId) (i : TypeInfo) (size : Nat) (ht : Try.prog.underlying t = some (.slice e)) (hi : Try.prog.info? e = some i)
    (v : Value) (n : Nat) (xs : List Value) (c : Nat) (hown : w.ownsRow base e size v n xs) :
    (Builtin.append_ #[t, t] ty #[v, .slice none 0 c]).run Try.prog w = .ok v w := by
  rcases hown.2 with ⟨rfl, rfl⟩ | ⟨g, cap, cur, rfl, _, _, hnc, _⟩
  · simp [Builtin.append_, run_underlying ht, sizeOf, typeInfo, hi, Builtin.lenOf, Builtin.firstCells]
  · simp [Builtin.append_, run_underlying ht, sizeOf, typeInfo, hi, Builtin.lenOf, Builtin.firstCells, hnc, storeCells]
set_option maxRecDepth 100000 in
theorem wpList_app_bytes {w : World} {ops : Array Oper} {rest : List Oper} {o : Oper} {a : Act} {Q : Exit → Act → World → Prop} (hgd : o.guard = none) (s x : Operand)
    (ho : o.op = .call { callee := .builtin .append, args := #[s, x], argTypes := #[37, 37] }) (B : Nat) (v : Value) (l : Bt) (hs : a.eval s = v) (hown : OwnB w B v l)
    (DA : Option Addr) (dc : Nat) (d : Bt) (hx : a.eval x = .slice DA d.length dc) (hd : BytesAt w DA d) (hb1 : l.length ≤ 100000000) (hb2 : d.length ≤ 100000000) (hbase : B ≤ w.heap.size)
    (h : ∀ v' w', OwnB w' B v' (l ++ d) → Below B w w' → Keep5 w w' v → wpList Try.prog ops Q rest (a.put o.dst v') w') : wpList Try.prog ops Q (o :: rest) a w := by
  obtain ⟨i0, hi, hz0, hz1, hz2⟩ := info_parts byte_info
  cases DA with
  | none =>
    have hd0 : d = [] := by
      cases d with
      | nil => rfl
      | cons c t =>
        obtain ⟨b, o, e, _⟩ := hd 0 (by simp)
        cases e
    subst hd0
    rw [List.append_nil] at h
    refine wpList_plain hgd fun K hK => ?_
    have hrun := run_append_none_cap w B 37 o.type 5 i0 1 Try.underlying37 hi v l.length (l.map yB) dc hown
    unfold Oper.wp
    simp only [List.length_nil] at hx
    simp [execOp, ho, resolve, invoke, builtin, hs, hx, hrun, Result.andThen]
    exact hK _ _ (h _ _ hown (Below.refl _ _) (fun _ _ _ => rfl))
  | some ad =>
    refine wpList_append_own _ hgd s x 37 ho B 5 i0 (.int .u8 0) 1 1 Try.underlying37 hi hz0 hz1 hz2 rfl (by decide) v l.length (l.map yB) hs hown ad d.length dc (d.map yB) hx (by simp) (fun j u hj => ?_) (fun u hu => ?_) (by unfold maxLen; omega) (by omega) hbase (fun v' w' h1 h2 _ => h v' w' ?_ ?_ (keep5_grown h2))
    · have hjl : j < d.length := by
        have := (List.getElem?_eq_some_iff.1 hj).1
        simpa using this
      obtain ⟨b, o, e, _, hc⟩ := hd j hjl
      injection e with e
      subst e
      rw [Addr.add_mid, hc]
      rw [List.getElem?_map, List.getElem?_eq_getElem hjl] at hj
      simpa [yB] using hj
    · obtain ⟨c, _, rfl⟩ := List.mem_map.1 hu
      rfl
    · unfold OwnB
      rw [List.length_append, List.map_append]
      exact h1
    · exact append_belowB0 hown hbase h2
theorem strCells_st (p : Bt) : Go.Lib.strCells ⟨p.toArray⟩ = p.map yB := by
  unfold Go.Lib.strCells
  simp [yB]
set_option maxRecDepth 100000 in
theorem wpList_app_text {w : World} {ops : Array Oper} {rest : List Oper} {o : Oper} {a : Act} {Q : Exit → Act → World → Prop} (hgd : o.guard = none) (s x : Operand)
    (ho : o.op = .call { callee := .builtin .append, args := #[s, x], argTypes := #[37, 9] }) (B : Nat) (v : Value) (l : Bt) (hs : a.eval s = v) (hown : OwnB w B v l)
    (p : Bt) (hx : a.eval x = St p) (hb1 : l.length ≤ 100000000) (hb2 : p.length ≤ 100000000) (hbase : B ≤ w.heap.size)
    (h : ∀ v' w', OwnB w' B v' (l ++ p) → Below B w w' → Keep5 w w' v → wpList Try.prog ops Q rest (a.put o.dst v') w') : wpList Try.prog ops Q (o :: rest) a w := by
  obtain ⟨i0, hi, hz0, hz1, hz2⟩ := info_parts byte_info
  refine Go.Lib.wpList_append_own_string _ hgd s x 37 9 ho B 5 i0 Try.underlying37 Try.underlying9 hi hz0 hz1 hz2 v l.length (l.map yB) hs hown ⟨p.toArray⟩ hx (by unfold maxLen; rw [size_st]; omega) (by rw [size_st]; omega) hbase (fun v' w' h1 h2 _ => h v' w' ?_ ?_ (keep5_grown h2))
  · rw [strCells_st, size_st] at h1
    unfold OwnB
    rw [List.length_append, List.map_append]
    exact h1
  · exact append_belowB0 hown hbase h2
end Go.Proofs.Ytjagddhkoacipaa

/-
What is proved here: the law's look whether a tree is too much to be played, by a contract.
-/
set_option linter.unusedSimpArgs false
namespace Go.Proofs.Ytjagddhkoacipaa
open Go.Pth Go.Tre Go.RowKit Go.Word Go.Shelf

theorem len_stg (ty : TypeId) (l : Bt) (w : World) : (Builtin.len_ #[9] ty #[St l]).run Try.prog w = .ok (.int .i64 (l.length : Int)) w := by
  unfold St
  rw [run_len_string w 9 ty _ Try.underlying9, size_st]
  rfl
/-- what a tree that is not too much keeps to -/
def Small (ns : List Nd) (fs : List Fl) : Prop := ns.length ≤ 300 ∧ fs.length ≤ 300 ∧ (∀ x ∈ ns, x.path.length ≤ 40000) ∧ ∀ x ∈ fs, x.data.length ≤ 40000
theorem wrap_big (z : Int) (h : -9223372036854775808 ≤ z ∧ z ≤ 9223372036854775807) : wrap64 z = z := by unfold wrap64; omega
/-- how the look ends -/
def BigE (ns : List Nd) (fs : List Fl) (e : Ending) : Prop := ∃ b, e = .returned (.bool b) ∧ (b = false → Small ns fs)
set_option maxRecDepth 100000 in
set_option maxHeartbeats 4000000 in
theorem big_any (NA FA : Option Addr) (nc fc : Nat) (ns : List Nd) (fs : List Fl) (w : World) (hN : NodesAt w NA ns) (hF : FilesAt w FA fs)
    (h1 : ns.length ≤ 140737488355328) (h2 : fs.length ≤ 140737488355328) (h3 : ∀ x ∈ ns, x.path.length ≤ 140737488355328) (h4 : ∀ x ∈ fs, x.data.length ≤ 140737488355328) :
    Calls Try.prog 14 #[.agg #[.slice NA ns.length nc, .slice FA fs.length fc]] w fun e w' => BigE ns fs e ∧ Below w.heap.size w w' := by
  obtain ⟨n, hne⟩ : ∃ n, n = ns.length := ⟨_, rfl⟩
  obtain ⟨m, hme⟩ : ∃ m, m = fs.length := ⟨_, rfl⟩
  rw [← hne] at h1 ⊢
  rw [← hme] at h2 ⊢
  have NE := Lib.hid hne
  have ME := Lib.hid hme
  have H3 := Lib.hid h3
  have H4 := Lib.hid h4
  clear hne hme h3 h4
  have L := lies_new w 25 #[.slice NA n nc, .slice FA m fc]
  have hB : Below w.heap.size w (w.alloc (.cells #[.slice NA n nc, .slice FA m fc] 25)) := (Below.refl _ _).alloc (Nat.le_refl _) _
  have HN := Lib.hid (nodesAt_below hN hB)
  have HF := Lib.hid (filesAt_below hF hB)
  have c0 : (w.alloc (.cells #[.slice NA n nc, .slice FA m fc] 25)).cell? ⟨w.heap.size, 0, none⟩ = some (.slice NA n nc) := lies_cell L 0
  have c1 : (w.alloc (.cells #[.slice NA n nc, .slice FA m fc] 25)).cell? ⟨w.heap.size, 1, none⟩ = some (.slice FA m fc) := lies_cell L 1
  have HB := Lib.hid hB
  have lst := fun ty l w => len_stg ty l w
  clear L hB hN hF
  go_enter Try.func14, Try.ntmps14
  go_wp2
  generalize w.alloc (.cells #[.slice NA n nc, .slice FA m fc] 25) = X at *
  go_loopw [3, 4] (fun v3 v4 wr => ∃ (i : Nat) (N : Int), i ≤ n ∧ v4 = .int .i64 (i : Int) ∧ v3 = .int .i64 N ∧ 0 ≤ N ∧ N ≤ 140737488400000 ∧ (∀ x ∈ ns.take i, (x.path.length : Int) ≤ N) ∧ wr = X) (fun _ v4 _ => n - (intOf v4).toNat)
  case atStart => exact ⟨0, 0, Nat.zero_le _, rfl, rfl, by omega, by omega, by simp, rfl⟩
  case round =>
    obtain ⟨i, N, hi, rfl, rfl, hN0, hN1, hno, rfl⟩ := hrel
    have NO := Lib.hid hno
    clear hno
    by_cases hlt : i < n
    · have li : (i : Int) < (n : Int) := by omega
      by_cases hN4 : N ≤ 40000
      · have lf : i < ns.length := by have := NE.out; omega
        obtain ⟨b, o, eA, hl, d1, d2, d3⟩ := HN.out i lf
        subst eA
        have hpl := H3.out ns[i] (List.getElem_mem _)
        have TK := Lib.hid (fun (M : Int) (hM : N ≤ M) (hq : (ns[i].path.length : Int) ≤ M) => (show ∀ x ∈ ns.take (i + 1), (x.path.length : Int) ≤ M by
          rw [List.take_succ_eq_append_getElem lf]
          intro x hx
          rcases List.mem_append.1 hx with h | h
          · have := NO.out x h; omega
          · rw [List.mem_singleton] at h; subst h; exact hq))
        clear d2 d3
        generalize ns[i].path = q at *
        have wa : wrap64 (N + 1 + (q.length : Int)) = N + 1 + (q.length : Int) := wrap_big _ (by omega)
        go_wp2
        go_roundw
        case rel => exact ⟨i + 1, N + 1 + (q.length : Int), by omega, by go_num, rfl, by omega, by omega, TK.out _ (by omega) (by omega), trivial⟩
        case measure => first | (simp [intOf]; done) | (simp [intOf]; omega)
      · have NF := Lib.hid (show N ≤ 40000 → ∀ x ∈ ns, (x.path.length : Int) ≤ N from fun h => absurd h hN4)
        go_wp2
        go_loopw [3, 5] (fun v3 v5 wr' => ∃ (j : Nat) (M : Int), j ≤ m ∧ v5 = .int .i64 (j : Int) ∧ v3 = .int .i64 M ∧ N ≤ M ∧ M ≤ 140737488400000 ∧ (∀ x ∈ fs.take j, (x.data.length : Int) ≤ M) ∧ wr' = wr) (fun _ v5 _ => m - (intOf v5).toNat)
        case atStart => exact ⟨0, N, Nat.zero_le _, rfl, rfl, by omega, by omega, by simp, rfl⟩
        case round =>
          obtain ⟨j, M, hj, rfl, rfl, hM0, hM1, hno, rfl⟩ := hrel
          have NO2 := Lib.hid hno
          clear hno
          by_cases hM4 : M ≤ 40000
          · exact absurd hM4 (by omega)
          · have hM5 : 40000 < M := by omega
            by_cases hlt2 : j < m
            · have li2 : (j : Int) < (m : Int) := by omega
              go_wp2
              go_ret
              exact ⟨⟨true, rfl, fun h => by cases h⟩, HB.out⟩
            · have li2 : ¬ (j : Int) < (m : Int) := by omega
              go_wp2
              go_ret
              exact ⟨⟨true, rfl, fun h => by cases h⟩, HB.out⟩
    · have li : ¬ (i : Int) < (n : Int) := by omega
      have NF := Lib.hid (show N ≤ 40000 → ∀ x ∈ ns, (x.path.length : Int) ≤ N from fun _ => by
        have := NO.out
        rw [List.take_of_length_le (by have := NE.out; omega)] at this
        exact this)
      go_wp2
      go_loopw [3, 5] (fun v3 v5 wr' => ∃ (j : Nat) (M : Int), j ≤ m ∧ v5 = .int .i64 (j : Int) ∧ v3 = .int .i64 M ∧ N ≤ M ∧ M ≤ 140737488400000 ∧ (∀ x ∈ fs.take j, (x.data.length : Int) ≤ M) ∧ wr' = wr) (fun _ v5 _ => m - (intOf v5).toNat)
      case atStart => exact ⟨0, N, Nat.zero_le _, rfl, rfl, by omega, by omega, by simp, rfl⟩
      case round =>
        obtain ⟨j, M, hj, rfl, rfl, hM0, hM1, hno, rfl⟩ := hrel
        have NO2 := Lib.hid hno
        clear hno
        by_cases hM4 : M ≤ 40000
        · by_cases hlt2 : j < m
          · have li2 : (j : Int) < (m : Int) := by omega
            have lf : j < fs.length := by have := ME.out; omega
            obtain ⟨b, o, DA, dc, eA, hl, d1, d2, d3⟩ := HF.out j lf
            subst eA
            have hpl := H4.out fs[j] (List.getElem_mem _)
            have TK := Lib.hid (fun (M' : Int) (hM : M ≤ M') (hq : (fs[j].data.length : Int) ≤ M') => (show ∀ x ∈ fs.take (j + 1), (x.data.length : Int) ≤ M' by
              rw [List.take_succ_eq_append_getElem lf]
              intro x hx
              rcases List.mem_append.1 hx with h | h
              · have := NO2.out x h; omega
              · rw [List.mem_singleton] at h; subst h; exact hq))
            clear d1 d3
            generalize fs[j].data.length = q at *
            have wa : wrap64 (M + 1 + (q : Int)) = M + 1 + (q : Int) := wrap_big _ (by omega)
            go_wp2
            go_roundw
            case rel => exact ⟨j + 1, M + 1 + (q : Int), by omega, by go_num, rfl, by omega, by omega, TK.out _ (by omega) (by omega), trivial⟩
            case measure => first | (simp [intOf]; done) | (simp [intOf]; omega)
          · have li2 : ¬ (j : Int) < (m : Int) := by omega
            have hM5 : ¬ 40000 < M := by omega
            have AF := Lib.hid (show ∀ x ∈ fs, (x.data.length : Int) ≤ M by
              have := NO2.out
              rw [List.take_of_length_le (by have := ME.out; omega)] at this
              exact this)
            by_cases k1 : 300 < n
            · have k1' : (300 : Int) < (n : Int) := by omega
              go_wp2
              go_ret
              exact ⟨⟨true, rfl, fun h => by cases h⟩, HB.out⟩
            · have k1' : ¬ (300 : Int) < (n : Int) := by omega
              by_cases k2 : 300 < m
              · have k2' : (300 : Int) < (m : Int) := by omega
                go_wp2
                go_ret
                exact ⟨⟨true, rfl, fun h => by cases h⟩, HB.out⟩
              · have k2' : ¬ (300 : Int) < (m : Int) := by omega
                go_wp2
                go_ret
                exact ⟨⟨false, rfl, fun _ => ⟨by have := NE.out; omega, by have := ME.out; omega, fun x hx => by have := NF.out (by omega) x hx; omega, fun x hx => by have := AF.out x hx; omega⟩⟩, HB.out⟩
        · have hM5 : 40000 < M := by omega
          by_cases hlt2 : j < m
          · have li2 : (j : Int) < (m : Int) := by omega
            go_wp2
            go_ret
            exact ⟨⟨true, rfl, fun h => by cases h⟩, HB.out⟩
          · have li2 : ¬ (j : Int) < (m : Int) := by omega
            go_wp2
            go_ret
            exact ⟨⟨true, rfl, fun h => by cases h⟩, HB.out⟩
end Go.Proofs.Ytjagddhkoacipaa
