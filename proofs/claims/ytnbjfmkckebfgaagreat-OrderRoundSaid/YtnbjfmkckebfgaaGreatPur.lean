/-
What is proved here: a search in depth through lists of numbers, as package comp does it: what it finds, and that the numbers that were left last lead to the components. On lists alone.
-/
import Derived.WalkKit
namespace Go.Cmp
/-- lists of numbers: those that each leads to -/
abbrev Gr := List (List Nat)
def nx (G : Gr) (u : Nat) : List Nat := G.getD u []
/-- each number of a list is a place -/
def Ok (G : Gr) : Prop := ∀ l ∈ G, ∀ n ∈ l, n < G.length
theorem nx_lt {G : Gr} (h : Ok G) {u v : Nat} (hv : v ∈ nx G u) : v < G.length ∧ u < G.length := by
  unfold nx at hv
  rcases Nat.lt_or_ge u G.length with hu | hu
  · rw [List.getD_eq_getElem?_getD, List.getElem?_eq_getElem hu] at hv
    exact ⟨h _ (List.getElem_mem hu) _ hv, hu⟩
  · rw [List.getD_eq_getElem?_getD, List.getElem?_eq_none hu] at hv
    cases hv
/-- one leads to another, by way of others or not -/
inductive Rch (G : Gr) (u : Nat) : Nat → Prop
  | refl : Rch G u u
  | step {v x : Nat} : Rch G u v → x ∈ nx G v → Rch G u x
theorem Rch.trans {G : Gr} {u v x : Nat} (h : Rch G u v) (k : Rch G v x) : Rch G u x := by
  induction k with
  | refl => exact h
  | step _ hx ih => exact ih.step hx
theorem Rch.one {G : Gr} {u v : Nat} (h : v ∈ nx G u) : Rch G u v := Rch.refl.step h
/-- the state of the search: the marks, what was left, the way here (the last one last), where it is and what of it was not looked at -/
structure Sta where
  marks : List Bool
  left : List Nat
  way : List (Nat × List Nat)
  here : Nat × List Nat
/-- the states that a search from u comes to -/
inductive At (G : Gr) (m0 : List Bool) (u : Nat) : Sta → Prop
  | start : m0.getD u false = false → u < m0.length → At G m0 u ⟨m0.set u true, [], [], (u, nx G u)⟩
  | seen {m l w x v r} : At G m0 u ⟨m, l, w, (x, v :: r)⟩ → m.getD v false = true → At G m0 u ⟨m, l, w, (x, r)⟩
  | down {m l w x v r} : At G m0 u ⟨m, l, w, (x, v :: r)⟩ → m.getD v false = false → At G m0 u ⟨m.set v true, l, w ++ [(x, r)], (v, nx G v)⟩
  | up {m l w x y r} : At G m0 u ⟨m, l, w ++ [(y, r)], (x, [])⟩ → At G m0 u ⟨m, l ++ [x], w, (y, r)⟩
/-- the end of a search from u -/
def Fnd (G : Gr) (m0 : List Bool) (u : Nat) (l : List Nat) (m : List Bool) : Prop := ∃ l' x, At G m0 u ⟨m, l', [], (x, [])⟩ ∧ l = l' ++ [x]
/-- how much is left to do -/
def todo (G : Gr) (m : List Bool) : Nat := ((List.range m.length).map fun v => if m.getD v false then 0 else (nx G v).length + 2).sum
def left (w : List (Nat × List Nat)) : Nat := (w.map fun x => x.2.length + 1).sum
def meas (G : Gr) (s : Sta) : Nat := todo G s.marks + left s.way + s.here.2.length + 1
theorem sum_set (f g : Nat → Nat) (n v : Nat) (hv : v < n) (h : ∀ k, k ≠ v → f k = g k) : ((List.range n).map f).sum + g v = ((List.range n).map g).sum + f v := by
  induction n with
  | zero => omega
  | succ n ih =>
    rw [List.range_succ, List.map_append, List.map_append, List.sum_append, List.sum_append]
    simp only [List.map_cons, List.map_nil, List.sum_cons, List.sum_nil]
    by_cases e : v = n
    · subst e
      have : ((List.range v).map f) = ((List.range v).map g) := List.map_congr_left fun k hk => h k (by have := List.mem_range.1 hk; omega)
      rw [this]; omega
    · have := ih (by omega)
      rw [h n (by omega)]; omega
theorem getD_set (m : List Bool) (v k : Nat) (hv : v < m.length) : (m.set v true).getD k false = if k = v then true else m.getD k false := by
  rw [List.getD_eq_getElem?_getD, List.getElem?_set]
  by_cases e : v = k
  · subst e; simp [hv]
  · rw [if_neg e, if_neg (fun x => e x.symm), ← List.getD_eq_getElem?_getD]
theorem todo_set (G : Gr) (m : List Bool) (v : Nat) (hv : v < m.length) (h : m.getD v false = false) : todo G (m.set v true) + ((nx G v).length + 2) = todo G m := by
  unfold todo
  rw [List.length_set]
  have := sum_set (fun k => if (m.set v true).getD k false then 0 else (nx G k).length + 2) (fun k => if m.getD k false then 0 else (nx G k).length + 2) m.length v hv (fun k hk => by
    simp only [getD_set m v k hv, if_neg hk])
  simp only [getD_set m v v hv, h, if_true, Bool.false_eq_true, if_false] at this
  simp only [getD_set m v _ hv] at this ⊢
  omega
theorem left_snoc (w : List (Nat × List Nat)) (x : Nat × List Nat) : left (w ++ [x]) = left w + (x.2.length + 1) := by simp [left]

/-- y stands in a list, and x there or behind it -/
def NB (F : List Nat) (y x : Nat) : Prop := ∃ a b, F = a ++ y :: b ∧ x ∈ y :: b
theorem nb_more {F : List Nat} {y x : Nat} (h : NB F y x) (z : Nat) : NB (F ++ [z]) y x := by
  obtain ⟨a, b, rfl, hx⟩ := h
  exact ⟨a, b ++ [z], by simp, by rcases List.mem_cons.1 hx with rfl | hx <;> simp [*]⟩
theorem nb_last {F : List Nat} {y : Nat} (h : y ∈ F) (z : Nat) : NB (F ++ [z]) y z := by
  obtain ⟨a, b, rfl⟩ := List.append_of_mem h
  exact ⟨a, b ++ [z], by simp, by simp⟩
theorem nb_self (F : List Nat) (z : Nat) : NB (F ++ [z]) z z := ⟨F, [], by simp, by simp⟩
/-- what was left, and what is on the way -/
structure J (G : Gr) (n : Nat) (L S : List Nat) (m : List Bool) : Prop where
  len : m.length = n
  mark : ∀ v, m.getD v false = true ↔ v ∈ L ∨ v ∈ S
  lt : ∀ v, v ∈ L ∨ v ∈ S → v < n
  nd : (L ++ S).Nodup
  way : S.Pairwise (Rch G)
  shut : ∀ v ∈ L, ∀ x ∈ nx G v, x ∈ L ∨ x ∈ S
  back : ∀ x ∈ L, ∀ s ∈ S, Rch G x s → ∃ s' ∈ S, Rch G x s' ∧ Rch G s' x
  last : ∀ x ∈ L, ∀ y ∈ L, Rch G x y → (∃ x', NB L y x' ∧ Rch G x x' ∧ Rch G x' x) ∨ (∃ s ∈ S, Rch G x s ∧ Rch G s x)
section
variable {G : Gr} {n : Nat} {L S : List Nat} {m : List Bool}
theorem J.out (h : J G n L S m) {x z : Nat} (hx : x ∈ L) (hr : Rch G x z) : z ∈ L ∨ ∃ s ∈ S, Rch G x s := by
  induction hr with
  | refl => exact .inl hx
  | step hv hz ih =>
    rcases ih with h1 | h1
    · rcases h.shut _ h1 _ hz with h2 | h2
      · exact .inl h2
      · exact .inr ⟨_, h2, hv.step hz⟩
    · exact .inr h1
theorem J.push (h : J G n L S m) {v : Nat} (hv : v < n) (hm : m.getD v false = false) (hr : ∀ s ∈ S, Rch G s v) : J G n L (S ++ [v]) (m.set v true) := by
  have hlen := h.len
  have hno : ¬ (v ∈ L ∨ v ∈ S) := fun e => by rw [(h.mark v).2 e] at hm; cases hm
  refine ⟨by simp [hlen], fun k => ?_, fun k hk => ?_, ?_, ?_, fun x hx y hy => ?_, fun x hx s hs hxs => ?_, fun x hx y hy hxy => ?_⟩
  · rw [getD_set m v k (by omega)]
    by_cases e : k = v
    · subst e; simp
    · rw [if_neg e, h.mark k]; simp [e]
  · rcases hk with hk | hk
    · exact h.lt k (.inl hk)
    · rcases List.mem_append.1 hk with hk | hk
      · exact h.lt k (.inr hk)
      · obtain rfl := List.mem_singleton.1 hk; exact hv
  · rw [← List.append_assoc]
    refine List.nodup_append.2 ⟨h.nd, by simp, fun a ha b hb e => ?_⟩
    obtain rfl := List.mem_singleton.1 hb
    subst e
    exact hno (List.mem_append.1 ha)
  · exact List.pairwise_append.2 ⟨h.way, by simp, fun a ha b hb => by obtain rfl := List.mem_singleton.1 hb; exact hr a ha⟩
  · rcases h.shut x hx y hy with h1 | h1
    · exact .inl h1
    · exact .inr (List.mem_append_left _ h1)
  · have : ∃ s' ∈ S, Rch G x s' ∧ Rch G s' x := by
      rcases List.mem_append.1 hs with hs | hs
      · exact h.back x hx s hs hxs
      · obtain rfl := List.mem_singleton.1 hs
        rcases h.out hx hxs with h1 | ⟨s', h1, h2⟩
        · exact absurd (.inl h1) hno
        · exact h.back x hx s' h1 h2
    obtain ⟨s', a, b⟩ := this
    exact ⟨s', List.mem_append_left _ a, b⟩
  · rcases h.last x hx y hy hxy with h1 | ⟨s, a, b⟩
    · exact .inl h1
    · exact .inr ⟨s, List.mem_append_left _ a, b⟩
theorem J.pop {x : Nat} (h : J G n L (S ++ [x]) m) (hs : ∀ y ∈ nx G x, m.getD y false = true) : J G n (L ++ [x]) S m := by
  have hw := List.pairwise_append.1 h.way
  have hsx : ∀ s ∈ S, Rch G s x := fun s h1 => hw.2.2 s h1 x (by simp)
  refine ⟨h.len, fun k => ?_, fun k hk => h.lt k ?_, ?_, hw.1, fun v hv y hy => ?_, fun z hz s h1 hr => ?_, fun a ha b hb hab => ?_⟩
  · rw [h.mark k]; simp only [List.mem_append, List.mem_singleton]
    constructor
    · rintro (h1 | h1 | h1) <;> simp [h1]
    · rintro ((h1 | h1) | h1) <;> simp [h1]
  · simp only [List.mem_append, List.mem_singleton] at hk ⊢
    rcases hk with (h1 | h1) | h1 <;> simp [h1]
  · have hp : (L ++ [x] ++ S).Perm (L ++ (S ++ [x])) := by
      rw [List.append_assoc]
      exact List.Perm.append_left L List.perm_append_comm
    exact hp.symm.nodup h.nd
  · have : y ∈ L ∨ y ∈ S ++ [x] := by
      rcases List.mem_append.1 hv with h1 | h1
      · exact h.shut v h1 y hy
      · obtain rfl := List.mem_singleton.1 h1
        exact (h.mark y).1 (hs y hy)
    simp only [List.mem_append, List.mem_singleton] at this ⊢
    rcases this with h1 | h1 | h1 <;> simp [h1]
  · rcases List.mem_append.1 hz with h2 | h2
    · obtain ⟨s', a, b, c⟩ := h.back z h2 s (List.mem_append_left _ h1) hr
      rcases List.mem_append.1 a with a | a
      · exact ⟨s', a, b, c⟩
      · obtain rfl := List.mem_singleton.1 a
        exact ⟨s, h1, hr, (hsx s h1).trans c⟩
    · obtain rfl := List.mem_singleton.1 h2
      exact ⟨s, h1, hr, hsx s h1⟩
  · rcases List.mem_append.1 hb with kb | kb
    · rcases List.mem_append.1 ha with ka | ka
      · rcases h.last a ka b kb hab with ⟨x', h1, h2⟩ | ⟨s, h1, h2⟩
        · exact .inl ⟨x', nb_more h1 x, h2⟩
        · rcases List.mem_append.1 h1 with h1 | h1
          · exact .inr ⟨s, h1, h2⟩
          · obtain rfl := List.mem_singleton.1 h1
            exact .inl ⟨s, nb_last kb s, h2⟩
      · obtain rfl := List.mem_singleton.1 ka
        exact .inl ⟨a, nb_last kb a, .refl, .refl⟩
    · obtain rfl := List.mem_singleton.1 kb
      rcases List.mem_append.1 ha with ka | ka
      · obtain ⟨s', h1, h2⟩ := h.back a ka b (by simp) hab
        rcases List.mem_append.1 h1 with h1 | h1
        · exact .inr ⟨s', h1, h2⟩
        · obtain rfl := List.mem_singleton.1 h1
          exact .inl ⟨s', nb_self L s', h2⟩
      · obtain rfl := List.mem_singleton.1 ka
        exact .inl ⟨a, nb_self L a, .refl, .refl⟩
end
/-- what is on the way -/
def Sta.on (s : Sta) : List Nat := s.way.map (·.1) ++ [s.here.1]
structure Inv (G : Gr) (F0 : List Nat) (u : Nat) (s : Sta) : Prop where
  j : J G G.length (F0 ++ s.left) s.on s.marks
  rest : ∀ p ∈ s.way ++ [s.here], (∀ x ∈ p.2, x ∈ nx G p.1) ∧ ∀ x ∈ nx G p.1, x ∈ p.2 ∨ s.marks.getD x false = true
  root : ∀ v, v ∈ s.left ∨ v ∈ s.on → Rch G u v
  hasu : u ∈ s.left ∨ u ∈ s.on
theorem set_mono (m : List Bool) (v k : Nat) (h : m.getD k false = true) : (m.set v true).getD k false = true := by
  rcases Nat.lt_or_ge v m.length with hv | hv
  · rw [getD_set m v k hv, h]; split <;> rfl
  · rw [List.set_eq_of_length_le (by omega)]; exact h
theorem inv_of {G : Gr} (hG : Ok G) {F0 : List Nat} {m0 : List Bool} (h0 : J G G.length F0 [] m0) {u : Nat} {s : Sta} (h : At G m0 u s) : Inv G F0 u s := by
  induction h with
  | start hm hu =>
    have := h0.push (v := u) (by rw [← h0.len]; exact hu) hm (fun s hs => by cases hs)
    refine ⟨by simpa [Sta.on] using this, fun p hp => ?_, fun v hv => ?_, by simp [Sta.on]⟩
    · simp at hp; subst hp
      exact ⟨fun x hx => hx, fun x hx => .inl hx⟩
    · simp [Sta.on] at hv; subst hv; exact .refl
  | @seen m l w x v r _ hv ih =>
    refine ⟨ih.j, fun p hp => ?_, ih.root, ih.hasu⟩
    rcases List.mem_append.1 hp with h1 | h1
    · exact ih.rest p (List.mem_append_left _ h1)
    · obtain rfl := List.mem_singleton.1 h1
      obtain ⟨a, b⟩ := ih.rest (x, v :: r) (by simp)
      refine ⟨fun y hy => a y (by simp [hy]), fun y hy => ?_⟩
      rcases b y hy with h2 | h2
      · rcases List.mem_cons.1 h2 with rfl | h2
        · exact .inr hv
        · exact .inl h2
      · exact .inr h2
  | @down m l w x v r _ hv ih =>
    obtain ⟨a, b⟩ := ih.rest (x, v :: r) (by simp)
    have hxv : v ∈ nx G x := a v (by simp)
    have hon : ∀ s ∈ w.map (·.1) ++ [x], Rch G s x := fun s hs => by
      rcases List.mem_append.1 hs with h1 | h1
      · exact (List.pairwise_append.1 ih.j.way).2.2 s h1 x (by simp)
      · obtain rfl := List.mem_singleton.1 h1; exact .refl
    have hp := ih.j.push (v := v) (nx_lt hG hxv).1 hv (fun s hs => (hon s hs).step hxv)
    refine ⟨by simpa [Sta.on] using hp, fun p hp => ?_, fun y hy => ?_, ?_⟩
    · rcases List.mem_append.1 hp with h1 | h1
      · rcases List.mem_append.1 h1 with h1 | h1
        · obtain ⟨c, d⟩ := ih.rest p (List.mem_append_left _ h1)
          refine ⟨c, fun y hy => ?_⟩
          rcases d y hy with h2 | h2
          · exact .inl h2
          · exact .inr (set_mono _ _ _ h2)
        · obtain rfl := List.mem_singleton.1 h1
          refine ⟨fun y hy => a y (by simp [hy]), fun y hy => ?_⟩
          rcases b y hy with h2 | h2
          · rcases List.mem_cons.1 h2 with rfl | h2
            · refine .inr ?_
              rw [getD_set _ _ _ (by rw [ih.j.len]; exact (nx_lt hG hxv).1), if_pos rfl]
            · exact .inl h2
          · exact .inr (set_mono _ _ _ h2)
      · obtain rfl := List.mem_singleton.1 h1
        exact ⟨fun y hy => hy, fun y hy => .inl hy⟩
    · have : y ∈ l ∨ y ∈ w.map (·.1) ++ [x] ∨ y = v := by
        simp [Sta.on] at hy ⊢
        rcases hy with h1 | h1 | h1 | h1 <;> simp [h1]
      rcases this with h1 | h1 | h1
      · exact ih.root y (.inl h1)
      · exact ih.root y (.inr h1)
      · subst h1; exact (ih.root x (.inr (by simp [Sta.on]))).step hxv
    · rcases ih.hasu with h1 | h1
      · exact .inl h1
      · refine .inr ?_
        simp [Sta.on] at h1 ⊢
        rcases h1 with h1 | h1 <;> simp [h1]
  | @up m l w x y r _ ih =>
    obtain ⟨a, b⟩ := ih.rest (x, []) (by simp)
    have hp := J.pop (S := w.map (·.1) ++ [y]) (x := x) (by have := ih.j; simpa [Sta.on] using this) (fun z hz => by
      rcases b z hz with h1 | h1
      · cases h1
      · exact h1)
    refine ⟨by simpa [Sta.on] using hp, fun p hp => ih.rest p (by simp at hp ⊢; rcases hp with h1 | h1 <;> simp [h1]), fun z hz => ih.root z ?_, ?_⟩
    · simp [Sta.on] at hz ⊢
      rcases hz with (h1 | h1) | h1 | h1 <;> simp [h1]
    · have := ih.hasu
      simp [Sta.on] at this ⊢
      rcases this with h1 | h1 | h1 | h1 <;> simp [h1]
/-- what a search finds: with all that was left before, all that it leads to -/
theorem fnd_of {G : Gr} (hG : Ok G) {F0 : List Nat} {m0 : List Bool} (h0 : J G G.length F0 [] m0) {u : Nat} {l : List Nat} {m : List Bool} (h : Fnd G m0 u l m) :
    J G G.length (F0 ++ l) [] m ∧ u ∈ l ∧ ∀ v ∈ l, Rch G u v := by
  obtain ⟨l', x, h, rfl⟩ := h
  have i := inv_of hG h0 h
  obtain ⟨a, b⟩ := i.rest (x, []) (by simp)
  refine ⟨?_, ?_, fun v hv => i.root v ?_⟩
  · have := J.pop (S := []) (x := x) (by have := i.j; simpa [Sta.on] using this) (fun z hz => by
      rcases b z hz with h1 | h1
      · cases h1
      · exact h1)
    simpa using this
  · have := i.hasu; simp [Sta.on] at this ⊢; exact this
  · simp [Sta.on] at hv ⊢; exact hv
theorem meas_seen (G : Gr) (m : List Bool) (l : List Nat) (w : List (Nat × List Nat)) (x v : Nat) (r : List Nat) : meas G ⟨m, l, w, (x, r)⟩ < meas G ⟨m, l, w, (x, v :: r)⟩ := by simp only [meas, List.length_cons]; omega
theorem meas_down (G : Gr) (m : List Bool) (l : List Nat) (w : List (Nat × List Nat)) (x v : Nat) (r : List Nat) (hv : v < m.length) (hm : m.getD v false = false) : meas G ⟨m.set v true, l, w ++ [(x, r)], (v, nx G v)⟩ < meas G ⟨m, l, w, (x, v :: r)⟩ := by
  have := todo_set G m v hv hm
  simp [meas, left_snoc]; omega
theorem meas_up (G : Gr) (m : List Bool) (l l' : List Nat) (w : List (Nat × List Nat)) (x y : Nat) (r : List Nat) : meas G ⟨m, l', w, (y, r)⟩ < meas G ⟨m, l, w ++ [(y, r)], (x, [])⟩ := by
  simp only [meas, left_snoc, List.length_nil]; omega
end Go.Cmp
