/-
What is proved here: in what order components are told, each behind those that it needs. On lists alone.
-/
import Derived.Test.YtnbjfmkckebfgaaGreatPuo
set_option linter.unusedSimpArgs false
set_option linter.unusedVariables false
namespace Go.Cmp
/-- put in its place -/
def insN (l : List Nat) (g : Nat) : List Nat := l.take (l.countP (· < g)) ++ g :: l.drop (l.countP (· < g))
theorem insN_mem (l : List Nat) (g x : Nat) : x ∈ insN l g ↔ x = g ∨ x ∈ l := by
  unfold insN
  rw [List.mem_append, List.mem_cons]
  constructor
  · rintro (h | h | h)
    · exact .inr (List.mem_of_mem_take h)
    · exact .inl h
    · exact .inr (List.mem_of_mem_drop h)
  · rintro (h | h)
    · exact .inr (.inl h)
    · rw [← List.take_append_drop (l.countP (· < g)) l] at h
      rcases List.mem_append.1 h with h | h
      · exact .inl h
      · exact .inr (.inr h)
theorem cut_less : ∀ (l : List Nat) (g : Nat), l.Pairwise (· < ·) → (∀ x ∈ l.take (l.countP (· < g)), x < g) ∧ ∀ x ∈ l.drop (l.countP (· < g)), g ≤ x
  | [], g, _ => ⟨fun x hx => by simp at hx, fun x hx => by simp at hx⟩
  | a :: t, g, h => by
    obtain ⟨h1, h2⟩ := List.pairwise_cons.1 h
    obtain ⟨i1, i2⟩ := cut_less t g h2
    by_cases e : a < g
    · rw [List.countP_cons_of_pos (by simpa using e)]
      refine ⟨fun x hx => ?_, fun x hx => i2 x (by simpa using hx)⟩
      rw [List.take_succ_cons, List.mem_cons] at hx
      rcases hx with rfl | hx
      · exact e
      · exact i1 x hx
    · have h0 : t.countP (· < g) = 0 := List.countP_eq_zero.2 (fun x hx => by have := h1 x hx; simp; omega)
      rw [List.countP_cons_of_neg (by simpa using e), h0]
      refine ⟨fun x hx => by simp at hx, fun x hx => ?_⟩
      rw [List.drop_zero, List.mem_cons] at hx
      rcases hx with rfl | hx
      · omega
      · have := h1 x hx; omega
theorem insN_srt {l : List Nat} (h : l.Pairwise (· < ·)) {g : Nat} (hg : g ∉ l) : (insN l g).Pairwise (· < ·) := by
  obtain ⟨h1, h2⟩ := cut_less l g h
  unfold insN
  refine List.pairwise_append.2 ⟨h.take, List.pairwise_cons.2 ⟨fun x hx => ?_, h.drop⟩, fun x hx y hy => ?_⟩
  · have := h2 x hx
    have : x ≠ g := fun e => hg (e ▸ List.mem_of_mem_drop hx)
    omega
  · have := h1 x hx
    rcases List.mem_cons.1 hy with rfl | hy
    · exact this
    · have := h2 y hy; omega
/-- how often a number stands in the lists of those not told -/
def rest (T : Gr) (K : Nat) (out : List Nat) (g : Nat) : Nat := ((List.range K).map fun h => if h ∈ out then 0 else (nx T h).count g).sum
theorem rest_nil (T : Gr) (K g : Nat) : rest T K [] g = tot T K g := by
  unfold rest tot
  simp
theorem rest_snoc (T : Gr) (K : Nat) (out : List Nat) (n g : Nat) (hn : n < K) (ho : n ∉ out) : rest T K (out ++ [n]) g + (nx T n).count g = rest T K out g := by
  have := sum_set (fun h => if h ∈ out ++ [n] then 0 else (nx T h).count g) (fun h => if h ∈ out then 0 else (nx T h).count g) K n hn (fun k hk => by
    simp only [List.mem_append, List.mem_singleton, hk, or_false])
  simp only [List.mem_append, List.mem_singleton, or_true, if_true, ho, if_false] at this
  unfold rest
  simp only [List.mem_append, List.mem_singleton]
  omega
theorem sum_zero {l : List Nat} (h : l.sum = 0) : ∀ x ∈ l, x = 0 := by
  induction l with
  | nil => intro x hx; cases hx
  | cons a t ih =>
    rw [List.sum_cons] at h
    intro x hx
    rcases List.mem_cons.1 hx with rfl | hx
    · omega
    · exact ih (by omega) x hx
theorem zero_sum {l : List Nat} (h : ∀ x ∈ l, x = 0) : l.sum = 0 := by
  induction l with
  | nil => rfl
  | cons a t ih =>
    rw [List.sum_cons, h a (by simp), ih (fun x hx => h x (List.mem_cons_of_mem _ hx))]
theorem nx_len {T : Gr} {h g : Nat} (hg : g ∈ nx T h) : h < T.length := by
  rcases Nat.lt_or_ge h T.length with h1 | h1
  · exact h1
  · unfold nx at hg; rw [List.getD_eq_getElem?_getD, List.getElem?_eq_none h1] at hg; cases hg
theorem rest_zero {T : Gr} {K : Nat} {out : List Nat} {g : Nat} (hT : T.length = K) : rest T K out g = 0 ↔ ∀ h, g ∈ nx T h → h ∈ out := by
  constructor
  · intro h0 h hg
    have := sum_zero h0 (if h ∈ out then 0 else (nx T h).count g) (List.mem_map.2 ⟨h, List.mem_range.2 (hT ▸ nx_len hg), rfl⟩)
    by_cases e : h ∈ out
    · exact e
    · rw [if_neg e] at this
      exact absurd hg (List.count_eq_zero.1 this)
  · intro h
    refine zero_sum fun x hx => ?_
    obtain ⟨k, _, rfl⟩ := List.mem_map.1 hx
    by_cases e : k ∈ out
    · exact if_pos e
    · rw [if_neg e]
      exact List.count_eq_zero.2 (fun hg => e (h k hg))
/-- each is told when all that it needs are told, and is the least of those not told of which that is so -/
def InTurn (T : Gr) (K : Nat) (out : List Nat) : Prop := ∀ p n s, out = p ++ n :: s → n < K ∧ n ∉ p ∧ (∀ h, n ∈ nx T h → h ∈ p) ∧ ∀ g, g < K → g ∉ p → (∀ h, g ∈ nx T h → h ∈ p) → n ≤ g
theorem told_nil (T : Gr) (K : Nat) : InTurn T K [] := fun p n s h => by simp at h
theorem told_snoc {T : Gr} {K : Nat} {out : List Nat} (h : InTurn T K out) {n : Nat} (hn : n < K ∧ n ∉ out ∧ (∀ h, n ∈ nx T h → h ∈ out) ∧ ∀ g, g < K → g ∉ out → (∀ h, g ∈ nx T h → h ∈ out) → n ≤ g) : InTurn T K (out ++ [n]) := by
  intro p m s e
  rcases List.eq_nil_or_concat s with rfl | ⟨s', x, rfl⟩
  · obtain ⟨h1, h2⟩ := List.append_inj' e rfl
    injection h2 with h2
    subst h1 h2
    exact hn
  · rw [List.concat_eq_append, ← List.cons_append, ← List.append_assoc] at e
    obtain ⟨h1, h2⟩ := List.append_inj' e rfl
    exact h p m s' h1
/-- those that are ready; what is left of the list of the one told last -/
structure Rd (T : Gr) (K : Nat) (op out pend l : List Nat) : Prop where
  lenO : op.length = K
  srt : l.Pairwise (· < ·)
  mem : ∀ g, g ∈ l ↔ g < K ∧ g ∉ out ∧ op.getD g 0 = 0
  cnt : ∀ g, g < K → op.getD g 0 = rest T K out g + pend.count g
  zero : ∀ g ∈ out, op.getD g 0 = 0
  told : InTurn T K out
  pd : ∀ g ∈ pend, g < K
  nd : out.Nodup
  big : ∀ g, op.getD g 0 ≤ 1048576
theorem rd_take {T : Gr} {K : Nat} {op out l : List Nat} {n : Nat} (hT : T.length = K) (hlt : ∀ h g, g ∈ nx T h → g < K) (h : Rd T K op out [] (n :: l)) : Rd T K op (out ++ [n]) (nx T n) l := by
  obtain ⟨hK, ho, hz⟩ := (h.mem n).1 (by simp)
  obtain ⟨s1, s2⟩ := List.pairwise_cons.1 h.srt
  refine ⟨h.lenO, s2, fun g => ?_, fun g hg => ?_, fun g hg => ?_, told_snoc h.told ⟨hK, ho, ?_, fun g h1 h2 h3 => ?_⟩, fun g hg => hlt _ _ hg, List.nodup_append.2 ⟨h.nd, by simp, fun a ha b hb e => by subst e; rw [List.mem_singleton.1 hb] at ha; exact ho ha⟩, h.big⟩
  · have := h.mem g
    rw [List.mem_cons] at this
    rw [List.mem_append, List.mem_singleton]
    constructor
    · intro hg
      obtain ⟨a, b, c⟩ := this.1 (.inr hg)
      exact ⟨a, fun x => x.elim b (fun e => by subst e; exact absurd (s1 _ hg) (by omega)), c⟩
    · rintro ⟨a, b, c⟩
      rcases this.2 ⟨a, fun x => b (.inl x), c⟩ with e | e
      · exact absurd (.inr e) b
      · exact e
  · have e1 := h.cnt g hg
    have e2 := rest_snoc T K out n g hK ho
    rw [List.count_nil] at e1
    omega
  · rcases List.mem_append.1 hg with h1 | h1
    · exact h.zero g h1
    · rw [List.mem_singleton.1 h1]; exact hz
  · refine (rest_zero hT).1 ?_
    have := h.cnt n hK
    omega
  · have e1 := h.cnt g h1
    rw [(rest_zero hT).2 h3] at e1
    rcases List.mem_cons.1 ((h.mem g).2 ⟨h1, h2, by simpa using e1⟩) with e | e
    · omega
    · have := s1 g e; omega
theorem rd_pos {T : Gr} {K : Nat} {op out l pend : List Nat} {g : Nat} (h : Rd T K op out (g :: pend) l) : g < K ∧ 0 < op.getD g 0 ∧ g ∉ out ∧ g ∉ l := by
  have hK := h.pd g (by simp)
  have h1 := h.cnt g hK
  rw [List.count_cons_self] at h1
  refine ⟨hK, by omega, fun hg => ?_, fun hg => ?_⟩
  · have := h.zero g hg; omega
  · have := ((h.mem g).1 hg).2.2; omega
theorem rd_dec {T : Gr} {K : Nat} {op out l pend : List Nat} {g : Nat} (h : Rd T K op out (g :: pend) l) : Rd T K (op.set g (op.getD g 0 - 1)) out pend (if op.getD g 0 - 1 = 0 then insN l g else l) := by
  obtain ⟨hK, hp, ho, hl⟩ := rd_pos h
  have hgO : g < op.length := by rw [h.lenO]; exact hK
  have hne : ∀ x, x ≠ g → (op.set g (op.getD g 0 - 1)).getD x 0 = op.getD x 0 := fun x hx => by rw [getD_setN, if_neg (fun e => hx e.1.symm)]
  have heq : (op.set g (op.getD g 0 - 1)).getD g 0 = op.getD g 0 - 1 := by rw [getD_setN, if_pos ⟨rfl, hgO⟩]
  refine ⟨by simp [h.lenO], ?_, fun x => ?_, fun x hx => ?_, fun x hx => ?_, h.told, fun x hx => h.pd x (List.mem_cons_of_mem _ hx), h.nd, fun x => ?_⟩
  · split
    · exact insN_srt h.srt hl
    · exact h.srt
  · by_cases e : x = g
    · subst e
      rw [heq]
      split
      · rw [insN_mem]
        exact ⟨fun _ => ⟨hK, ho, by assumption⟩, fun _ => .inl rfl⟩
      · exact ⟨fun x => absurd x hl, fun x => by omega⟩
    · rw [hne x e, ← h.mem x]
      split
      · rw [insN_mem]; simp [e]
      · rfl
  · by_cases e : x = g
    · subst e
      rw [heq]
      have := h.cnt x hx
      rw [List.count_cons_self] at this
      omega
    · rw [hne x e, h.cnt x hx, List.count_cons_of_ne (fun e2 => e e2.symm)]
  · rw [hne x (fun e => ho (e ▸ hx))]
    exact h.zero x hx
  · by_cases e : x = g
    · subst e
      rw [heq]
      have := h.big x
      omega
    · rw [hne x e]
      exact h.big x
/-- those that are ready at the start -/
structure R0 (op l : List Nat) (k : Nat) : Prop where
  srt : l.Pairwise (· < ·)
  mem : ∀ g, g ∈ l ↔ g < k ∧ op.getD g 0 = 0
theorem r0_0 (op : List Nat) : R0 op [] 0 := ⟨.nil, fun g => ⟨(fun h => by cases h), (fun h => by omega)⟩⟩
theorem r0_step {op l : List Nat} {k : Nat} (h : R0 op l k) : R0 op (if op.getD k 0 = 0 then insN l k else l) (k + 1) := by
  have hk : k ∉ l := fun x => by have := ((h.mem k).1 x).1; omega
  split
  · refine ⟨insN_srt h.srt hk, fun g => ?_⟩
    rw [insN_mem, h.mem g]
    constructor
    · rintro (rfl | ⟨a, b⟩)
      · exact ⟨by omega, by assumption⟩
      · exact ⟨by omega, b⟩
    · rintro ⟨a, b⟩
      rcases Nat.lt_or_ge g k with h1 | h1
      · exact .inr ⟨h1, b⟩
      · exact .inl (by omega)
  · refine ⟨h.srt, fun g => ?_⟩
    rw [h.mem g]
    constructor
    · rintro ⟨a, b⟩; exact ⟨by omega, b⟩
    · rintro ⟨a, b⟩
      rcases Nat.lt_or_ge g k with h1 | h1
      · exact ⟨h1, b⟩
      · obtain rfl : g = k := by omega
        exact absurd b (by assumption)
theorem rd_0 {G : Gr} {S : List (List Nat)} {T : Gr} {op l : List Nat} (hA : Asks G S T op) (h : R0 op l S.length) : Rd T S.length op [] [] l :=
  ⟨hA.lenO, h.srt, (fun g => by rw [h.mem g]; simp), (fun g hg => by rw [rest_nil, List.count_nil]; exact hA.cnt g hg), (fun g hg => by cases hg), told_nil _ _, (fun g hg => by cases hg), .nil, hA.bigO⟩
theorem r0_len {op l : List Nat} {k : Nat} (h : R0 op l k) : l.length ≤ k := nodup_bound k l (h.srt.imp (fun h => by omega)) (fun g hg => ((h.mem g).1 hg).1)
theorem rd_len {T : Gr} {K : Nat} {op out pend l : List Nat} (h : Rd T K op out pend l) : l.length ≤ K := nodup_bound K l (h.srt.imp (fun h => by omega)) (fun g hg => ((h.mem g).1 hg).1)
theorem rd_out {T : Gr} {K : Nat} {op out pend l : List Nat} (h : Rd T K op out pend l) : out.length ≤ K := nodup_bound K out h.nd (fun g hg => by
  obtain ⟨p, s, e⟩ := List.append_of_mem hg
  exact (h.told p g s e).1)
/-- how many are reached -/
theorem reach_fn (G : Gr) : ∃ f : Nat → Nat, ∀ a b, Rch G a b → ¬ Rch G b a → a < G.length → f b < f a := by
  classical
  refine ⟨fun u => ((List.range G.length).filter fun v => decide (Rch G u v)).length, fun a b h hn ha => ?_⟩
  have hs : ((List.range G.length).filter fun v => decide (Rch G b v)).Sublist ((List.range G.length).filter fun v => decide (Rch G a v)) := by
    have e : ((List.range G.length).filter fun v => decide (Rch G b v)) = (((List.range G.length).filter fun v => decide (Rch G a v)).filter fun v => decide (Rch G b v)) := by
      rw [List.filter_filter]
      refine List.filter_congr fun v hv => ?_
      by_cases e : Rch G b v
      · simp [e, h.trans e]
      · simp [e]
    rw [e]
    exact List.filter_sublist
  show ((List.range G.length).filter fun v => decide (Rch G b v)).length < ((List.range G.length).filter fun v => decide (Rch G a v)).length
  rcases Nat.lt_or_eq_of_le hs.length_le with h1 | h1
  · exact h1
  · have := hs.eq_of_length h1
    have hm : a ∈ (List.range G.length).filter fun v => decide (Rch G a v) := by simp [ha]; exact .refl
    rw [← this] at hm
    simp at hm
    exact absurd hm.2 hn
theorem groups_nx {G : Gr} {S : List (List Nat)} (h : Groups G S) {g : Nat} (hg : g < S.length) : Scc G (nx S g) := h.scc _ (nx_mem hg)
/-- all are told -/
theorem rd_all {G : Gr} {S : List (List Nat)} {T : Gr} {op op0 out : List Nat} (hS : Groups G S) (hA : Asks G S T op0) (h : Rd T S.length op out [] []) : ∀ g, g < S.length → g ∈ out := by
  obtain ⟨reach, reach_lt⟩ := reach_fn G
  have key : ∀ (m g : Nat), g < S.length → g ∉ out → ∀ a ∈ nx S g, reach a ≤ m → False := by
    intro m
    induction m using Nat.strongRecOn with
    | ind m ih =>
      intro g hg ho a ha hr
      have h0 : op.getD g 0 ≠ 0 := fun e => by
        have := (h.mem g).2 ⟨hg, ho, e⟩
        cases this
      have h1 : ¬ rest T S.length out g = 0 := fun e => by
        have := h.cnt g hg
        rw [e] at this
        exact h0 (by simpa using this)
      rw [rest_zero hA.lenT] at h1
      have ⟨k, hk⟩ := Classical.not_forall.1 h1
      have ⟨hk1, hk2⟩ := Classical.not_imp.1 hk
      obtain ⟨hne, _, hkS, x, hx, y, hy, hxy⟩ := (hA.mem k g).1 hk1
      have sg := groups_nx hS hg
      have sk := groups_nx hS hkS
      have hax : Rch G a x := ((scc_all sg ha).1 hx).1
      have hay : Rch G a y := hax.trans (.one hxy)
      have hnot : ¬ Rch G y a := fun e => by
        have : a ∈ nx S k := (scc_all sk hy).2 ⟨e, hay⟩
        exact hne (groups_ne hS ha this)
      have hal : a < G.length := hS.lt _ (nx_mem hg) a ha
      have := reach_lt a y hay hnot hal
      exact ih (reach y) (by omega) k hkS hk2 y hy (Nat.le_refl _)
  intro g hg
  by_cases ho : g ∈ out
  · exact ho
  · obtain ⟨r, hr, _⟩ := groups_nx hS hg
    exact (key _ g hg ho r hr (Nat.le_refl _)).elim
end Go.Cmp
