/-
What is proved here: which components need which, and how often. On lists alone.
-/
import Derived.Test.YtnbjfmkckebfgaaGreatPub
set_option linter.unusedSimpArgs false
set_option linter.unusedVariables false
namespace Go.Cmp
theorem getD_setN (l : List Nat) (v k x : Nat) : (l.set v x).getD k 0 = if v = k ∧ k < l.length then x else l.getD k 0 := by
  rw [List.getD_eq_getElem?_getD, List.getElem?_set]
  by_cases e : v = k
  · subst e
    by_cases h : v < l.length
    · simp [h]
    · simp [h, List.getD_eq_getElem?_getD]
  · rw [if_neg e, if_neg (fun h => e h.1), ← List.getD_eq_getElem?_getD]
/-- the component of each number, as far as k components and j numbers of the next -/
structure OfA (S : Gr) (n k j : Nat) (f : List Nat) : Prop where
  len : f.length = n
  done : ∀ g, g < k → ∀ v ∈ nx S g, f.getD v 0 = g
  now : ∀ v ∈ (nx S k).take j, f.getD v 0 = k
theorem groups_ne {G : Gr} {S : List (List Nat)} (h : Groups G S) {a b v : Nat} (ha : v ∈ nx S a) (hb : v ∈ nx S b) : a = b := by
  have hl : ∀ {k}, v ∈ nx S k → k < S.length := fun {k} hk => by
    rcases Nat.lt_or_ge k S.length with h1 | h1
    · exact h1
    · unfold nx at hk; rw [List.getD_eq_getElem?_getD, List.getElem?_eq_none h1] at hk; cases hk
  have hg : ∀ {k} (hk : k < S.length), nx S k = S[k] := fun {k} hk => by unfold nx; rw [List.getD_eq_getElem?_getD, List.getElem?_eq_getElem hk]; rfl
  have la := hl ha
  have lb := hl hb
  rw [hg la] at ha
  rw [hg lb] at hb
  have := List.pairwise_iff_getElem.1 h.dis
  rcases Nat.lt_trichotomy a b with h1 | h1 | h1
  · exact absurd hb (this a b la lb h1 v ha)
  · exact h1
  · exact absurd ha (this b a lb la h1 v hb)
theorem ofA_step {G : Gr} {S : List (List Nat)} (h : Groups G S) {k j : Nat} {f : List Nat} (hf : OfA S G.length k j f) (hj : j < (nx S k).length) (hk : k < S.length) : OfA S G.length k (j + 1) (f.set (nx S k)[j] k) := by
  have hv : (nx S k)[j] ∈ nx S k := List.getElem_mem hj
  have hlt : (nx S k)[j] < f.length := by
    rw [hf.len]
    refine h.lt (nx S k) ?_ _ hv
    unfold nx; rw [List.getD_eq_getElem?_getD, List.getElem?_eq_getElem hk]; exact List.getElem_mem hk
  refine ⟨by simp [hf.len], fun g hg v hvg => ?_, fun v hvt => ?_⟩
  · rw [getD_setN]
    by_cases e : (nx S k)[j] = v
    · subst e
      have := groups_ne h hvg hv
      omega
    · rw [if_neg (fun x => e x.1)]; exact hf.done g hg v hvg
  · rw [getD_setN]
    by_cases e : (nx S k)[j] = v
    · rw [if_pos ⟨e, by omega⟩]
    · rw [if_neg (fun x => e x.1)]
      rw [List.take_succ_eq_append_getElem hj] at hvt
      rcases List.mem_append.1 hvt with h1 | h1
      · exact hf.now v h1
      · exact absurd (List.mem_singleton.1 h1).symm e
theorem ofA_next {S : Gr} {n k : Nat} {f : List Nat} (h : OfA S n k (nx S k).length f) : OfA S n (k + 1) 0 f := by
  refine ⟨h.len, fun g hg v hv => ?_, fun v hv => by simp at hv⟩
  rcases Nat.lt_or_ge g k with h1 | h1
  · exact h.done g h1 v hv
  · obtain rfl : g = k := by omega
    exact h.now v (by rw [List.take_length]; exact hv)
/-- how often a number stands in lists -/
def tot (T : Gr) (K g : Nat) : Nat := ((List.range K).map fun h => (nx T h).count g).sum
theorem tot_set (T : Gr) (K g h : Nat) (l : List Nat) (hh : h < K) (hT : h < T.length) : tot (T.set h l) K g + (nx T h).count g = tot T K g + l.count g := by
  unfold tot
  have := sum_set (fun k => (nx (T.set h l) k).count g) (fun k => (nx T k).count g) K h hh (fun k hk => by
    show (nx (T.set h l) k).count g = _
    rw [nx_set, if_neg (fun x => hk x.1.symm)])
  simp only [nx_set, true_and, if_pos hT] at this
  simp only [nx_set] at this ⊢
  exact this
/-- the pairs looked at -/
def Seen (G : Gr) (i j a b : Nat) : Prop := (a < i ∧ b ∈ nx G a) ∨ (a = i ∧ b ∈ (nx G i).take j)
/-- what is told of the pairs looked at -/
structure BtI (G : Gr) (K : Nat) (f : List Nat) (i j : Nat) (T : Gr) (op : List Nat) : Prop where
  lenT : T.length = K
  lenO : op.length = K
  mem : ∀ h g, g ∈ nx T h ↔ ∃ a b, Seen G i j a b ∧ f.getD a 0 = g ∧ f.getD b 0 = h ∧ g ≠ h
  cnt : ∀ g, g < K → op.getD g 0 = tot T K g
  big : ∀ h, (nx T h).length ≤ i * 1024 + j
  bigO : ∀ g, op.getD g 0 ≤ i * 1024 + j
theorem seen_succ {G : Gr} {i j a b : Nat} (hj : j < (nx G i).length) : Seen G i (j + 1) a b ↔ Seen G i j a b ∨ (a = i ∧ b = (nx G i)[j]) := by
  unfold Seen
  rw [List.take_succ_eq_append_getElem hj]
  simp only [List.mem_append, List.mem_singleton]
  constructor
  · rintro (h | ⟨h, h2 | h2⟩)
    · exact .inl (.inl h)
    · exact .inl (.inr ⟨h, h2⟩)
    · exact .inr ⟨h, h2⟩
  · rintro ((h | ⟨h, h2⟩) | ⟨h, h2⟩)
    · exact .inl h
    · exact .inr ⟨h, .inl h2⟩
    · exact .inr ⟨h, .inr h2⟩
theorem bti_skip {G : Gr} {K : Nat} {f : List Nat} {i j : Nat} {T : Gr} {op : List Nat} (h : BtI G K f i j T op) (hj : j < (nx G i).length) (he : f.getD (nx G i)[j] 0 = f.getD i 0) : BtI G K f i (j + 1) T op := by
  refine ⟨h.lenT, h.lenO, fun a b => ?_, h.cnt, fun x => by have := h.big x; omega, fun x => by have := h.bigO x; omega⟩
  rw [h.mem]
  constructor
  · rintro ⟨x, y, h1, h2⟩; exact ⟨x, y, (seen_succ hj).2 (.inl h1), h2⟩
  · rintro ⟨x, y, h1, h2, h3, h4⟩
    rcases (seen_succ hj).1 h1 with h5 | ⟨rfl, rfl⟩
    · exact ⟨x, y, h5, h2, h3, h4⟩
    · rw [← h2, ← h3] at h4; exact absurd he.symm h4
theorem bti_step {G : Gr} {K : Nat} {f : List Nat} {i j : Nat} {T : Gr} {op : List Nat} (h : BtI G K f i j T op) (hj : j < (nx G i).length) {g d : Nat} (hd : f.getD (nx G i)[j] 0 = d) (hg : f.getD i 0 = g) (hne : d ≠ g) (hdK : d < K) (hgK : g < K) :
    BtI G K f i (j + 1) (T.set d (nx T d ++ [g])) (op.set g (op.getD g 0 + 1)) := by
  have lT := h.lenT
  have lO := h.lenO
  refine ⟨by simp [lT], by simp [lO], fun a b => ?_, fun x hx => ?_, fun x => ?_, fun x => ?_⟩
  · rw [nx_set]
    by_cases e : d = a
    · subst e
      rw [if_pos ⟨rfl, by omega⟩, List.mem_append, List.mem_singleton, h.mem]
      constructor
      · rintro (⟨x, y, h1, h2⟩ | rfl)
        · exact ⟨x, y, (seen_succ hj).2 (.inl h1), h2⟩
        · exact ⟨i, _, (seen_succ hj).2 (.inr ⟨rfl, rfl⟩), hg, hd, fun x => hne x.symm⟩
      · rintro ⟨x, y, h1, h2, h3, h4⟩
        rcases (seen_succ hj).1 h1 with h5 | ⟨rfl, rfl⟩
        · exact .inl ⟨x, y, h5, h2, h3, h4⟩
        · exact .inr (h2.symm.trans hg)
    · rw [if_neg (fun x => e x.1), h.mem]
      constructor
      · rintro ⟨x, y, h1, h2⟩; exact ⟨x, y, (seen_succ hj).2 (.inl h1), h2⟩
      · rintro ⟨x, y, h1, h2, h3, h4⟩
        rcases (seen_succ hj).1 h1 with h5 | ⟨rfl, rfl⟩
        · exact ⟨x, y, h5, h2, h3, h4⟩
        · exact absurd (hd.symm.trans h3) e
  · have h1 := tot_set T K x d (nx T d ++ [g]) hdK (by omega)
    rw [List.count_append, List.count_singleton] at h1
    rw [getD_setN]
    have h2 := h.cnt x hx
    by_cases e : g = x
    · subst e
      rw [if_pos ⟨rfl, by omega⟩]
      simp at h1
      omega
    · rw [if_neg (fun y => e y.1)]
      have e2 : (g == x) = false := by simpa using e
      rw [e2] at h1
      simp at h1
      omega
  · rw [nx_set]
    have := h.big d
    have := h.big x
    split
    · rw [List.length_append]; simp; omega
    · omega
  · rw [getD_setN]
    have := h.bigO g
    have := h.bigO x
    split <;> omega
set_option maxRecDepth 100000 in
theorem bti_next {G : Gr} {K : Nat} {f : List Nat} {i : Nat} {T : Gr} {op : List Nat} (hb : (nx G i).length ≤ 1024) (h : BtI G K f i (nx G i).length T op) : BtI G K f (i + 1) 0 T op := by
  refine ⟨h.lenT, h.lenO, fun a b => ?_, h.cnt, fun x => by have := h.big x; omega, fun x => by have := h.bigO x; omega⟩
  rw [h.mem]
  have e : ∀ x y, Seen G i (nx G i).length x y ↔ Seen G (i + 1) 0 x y := fun x y => by
    unfold Seen
    rw [List.take_length]
    simp only [List.take_zero, List.not_mem_nil, and_false, or_false]
    constructor
    · rintro (⟨h1, h2⟩ | ⟨rfl, h2⟩)
      · exact ⟨by omega, h2⟩
      · exact ⟨by omega, h2⟩
    · rintro ⟨h1, h2⟩
      rcases Nat.lt_or_ge x i with h3 | h3
      · exact .inl ⟨h3, h2⟩
      · obtain rfl : x = i := by omega
        exact .inr ⟨rfl, h2⟩
  simp only [e]
theorem bti_0 (G : Gr) (K : Nat) (f : List Nat) : BtI G K f 0 0 (List.replicate K []) (List.replicate K 0) := by
  have e : ∀ v, nx (List.replicate K ([] : List Nat)) v = [] := fun v => by
    unfold nx
    rw [List.getD_eq_getElem?_getD, List.getElem?_replicate]
    split <;> rfl
  have e2 : ∀ v, (List.replicate K 0).getD v 0 = 0 := fun v => by
    rw [List.getD_eq_getElem?_getD, List.getElem?_replicate]
    split <;> rfl
  refine ⟨by simp, by simp, fun a b => ?_, fun g hg => ?_, fun x => by rw [e]; simp, fun x => by rw [e2]; omega⟩
  · rw [e]
    simp only [List.not_mem_nil, false_iff]
    rintro ⟨x, y, h1, _⟩
    unfold Seen at h1
    simp at h1
  · rw [e2]
    unfold tot
    have : (List.range K).map (fun h => (nx (List.replicate K ([] : List Nat)) h).count g) = List.replicate K 0 := by
      apply List.ext_getElem
      · simp
      · intro i h1 h2; simp [e]
    rw [this]; simp
/-- of each component those that need it, and of each how many needs it has -/
structure Asks (G : Gr) (S : List (List Nat)) (T : Gr) (op : List Nat) : Prop where
  lenT : T.length = S.length
  lenO : op.length = S.length
  mem : ∀ h g, g ∈ nx T h ↔ g ≠ h ∧ g < S.length ∧ h < S.length ∧ ∃ a ∈ nx S g, ∃ b ∈ nx S h, b ∈ nx G a
  cnt : ∀ g, g < S.length → op.getD g 0 = tot T S.length g
  big : ∀ h, (nx T h).length ≤ 1048576
  bigO : ∀ g, op.getD g 0 ≤ 1048576
theorem nx_pos {S : Gr} {k v : Nat} (h : v ∈ nx S k) : k < S.length := by
  rcases Nat.lt_or_ge k S.length with h1 | h1
  · exact h1
  · unfold nx at h; rw [List.getD_eq_getElem?_getD, List.getElem?_eq_none h1] at h; cases h
theorem nx_mem {S : Gr} {k : Nat} (h : k < S.length) : nx S k ∈ S := by
  unfold nx; rw [List.getD_eq_getElem?_getD, List.getElem?_eq_getElem h]; exact List.getElem_mem h
set_option maxRecDepth 100000 in
theorem asks_of {G : Gr} (hG : Ok G) {S : List (List Nat)} (h : Groups G S) {f : List Nat} (hf : OfA S G.length S.length 0 f) {T : Gr} {op : List Nat} (hn : G.length ≤ 1024) (hb : BtI G S.length f G.length 0 T op) : Asks G S T op := by
  have hof : ∀ v, v < G.length → ∃ k, k < S.length ∧ v ∈ nx S k ∧ f.getD v 0 = k := fun v hv => by
    obtain ⟨g, hg, hvg⟩ := h.all v hv
    obtain ⟨k, hk, rfl⟩ := List.getElem_of_mem hg
    have e : nx S k = S[k] := by unfold nx; rw [List.getD_eq_getElem?_getD, List.getElem?_eq_getElem hk]; rfl
    exact ⟨k, hk, by rw [e]; exact hvg, hf.done k hk v (by rw [e]; exact hvg)⟩
  have hk : G.length * 1024 ≤ 1048576 := by omega
  refine ⟨hb.lenT, hb.lenO, fun d g => ?_, hb.cnt, fun x => by have := hb.big x; omega, fun x => by have := hb.bigO x; omega⟩
  rw [hb.mem]
  constructor
  · rintro ⟨a, b, hs, h1, h2, h3⟩
    have hba : b ∈ nx G a := by
      unfold Seen at hs
      simp only [List.take_zero, List.not_mem_nil, and_false, or_false] at hs
      exact hs.2
    obtain ⟨hb', ha'⟩ := nx_lt hG hba
    obtain ⟨k1, l1, m1, e1⟩ := hof a ha'
    obtain ⟨k2, l2, m2, e2⟩ := hof b hb'
    rw [e1] at h1
    rw [e2] at h2
    subst h1 h2
    exact ⟨h3, l1, l2, a, m1, b, m2, hba⟩
  · rintro ⟨h3, l1, l2, a, m1, b, m2, hba⟩
    exact ⟨a, b, .inl ⟨(nx_lt hG hba).2, hba⟩, hf.done g l1 a m1, hf.done d l2 b m2, h3⟩
end Go.Cmp
