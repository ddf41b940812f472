/-
What is proved here: several texts in one (Pur, Bas, Rws, Shl, Srt, Cmp, Stk): each says what it is about.
-/
import Derived.WalkKit
import Derived.Test.YtpddamloajpiiaaGreatDoorRows
import Derived.ProofKit
import Derived.Lib.Hide
import Derived.Laws.AppendOwnNone
import Derived.OwnWalk
import Derived.Laws.Rows
import Derived.Laws.Tables
import Derived.Deep.MidRow
import Derived.Deep.Draws
import Derived.StillTailTactics
import Derived.Deep.AppendLies
import Derived.Shelf.Sort.Plain
import Derived.Shelf.Slices.SearchI
import Derived.Shelf.Slices.Turned
import Derived.Shelf.Spec.SlicesInsertGrow
import Derived.Shelf.SlicesE.DeleteFunc
import Derived.Shelf.SlSortCmp.NoneTotal
import Derived.Laws.ResultCell
import Derived.Deep.RegionLaw
import Derived.Great.Walk
import Derived.Deep.Cut
/-
What is proved here: a search in depth through lists of numbers, as package comp does it: what it finds, and that the numbers that were left last lead to the components. On lists alone.
-/
namespace Go.Cmp
/-- lists of numbers: those that each leads to -/
abbrev Gr := List (List Nat)
def nx (G : Gr) (u : Nat) : List Nat := G.getD u []
/-- each number of a list is a place -/
def Ok (G : Gr) : Prop := ∀ l ∈ G, ∀ n ∈ l, n < G.length
theorem nx_lt {G : Gr} (h : Ok G) {u v : Nat} (hv : v ∈ nx G u) : v < G.length ∧ u < G.length := by
  unfold nx at hv
  rcases Nat.lt_or_ge u G.length with hu | hu
  · rw [List.getD_eq_getElem?_getD, List.getElem?_eq_getElem hu] at hv
    exact ⟨h _ (List.getElem_mem hu) _ hv, hu⟩
  · rw [List.getD_eq_getElem?_getD, List.getElem?_eq_none hu] at hv
    cases hv
/-- one leads to another, by way of others or not -/
inductive Rch (G : Gr) (u : Nat) : Nat → Prop
  | refl : Rch G u u
  | step {v x : Nat} : Rch G u v → x ∈ nx G v → Rch G u x
theorem Rch.trans {G : Gr} {u v x : Nat} (h : Rch G u v) (k : Rch G v x) : Rch G u x := by
  induction k with
  | refl => exact h
  | step _ hx ih => exact ih.step hx
theorem Rch.one {G : Gr} {u v : Nat} (h : v ∈ nx G u) : Rch G u v := Rch.refl.step h
/-- the state of the search: the marks, what was left, the way here (the last one last), where it is and what of it was not looked at -/
structure Sta where
  marks : List Bool
  left : List Nat
  way : List (Nat × List Nat)
  here : Nat × List Nat
/-- the states that a search from u comes to -/
inductive At (G : Gr) (m0 : List Bool) (u : Nat) : Sta → Prop
  | start : m0.getD u false = false → u < m0.length → At G m0 u ⟨m0.set u true, [], [], (u, nx G u)⟩
  | seen {m l w x v r} : At G m0 u ⟨m, l, w, (x, v :: r)⟩ → m.getD v false = true → At G m0 u ⟨m, l, w, (x, r)⟩
  | down {m l w x v r} : At G m0 u ⟨m, l, w, (x, v :: r)⟩ → m.getD v false = false → At G m0 u ⟨m.set v true, l, w ++ [(x, r)], (v, nx G v)⟩
  | up {m l w x y r} : At G m0 u ⟨m, l, w ++ [(y, r)], (x, [])⟩ → At G m0 u ⟨m, l ++ [x], w, (y, r)⟩
/-- the end of a search from u -/
def Fnd (G : Gr) (m0 : List Bool) (u : Nat) (l : List Nat) (m : List Bool) : Prop := ∃ l' x, At G m0 u ⟨m, l', [], (x, [])⟩ ∧ l = l' ++ [x]
/-- how much is left to do -/
def todo (G : Gr) (m : List Bool) : Nat := ((List.range m.length).map fun v => if m.getD v false then 0 else (nx G v).length + 2).sum
def left (w : List (Nat × List Nat)) : Nat := (w.map fun x => x.2.length + 1).sum
def meas (G : Gr) (s : Sta) : Nat := todo G s.marks + left s.way + s.here.2.length + 1
theorem sum_set (f g : Nat → Nat) (n v : Nat) (hv : v < n) (h : ∀ k, k ≠ v → f k = g k) : ((List.range n).map f).sum + g v = ((List.range n).map g).sum + f v := by
  induction n with
  | zero => omega
  | succ n ih =>
    rw [List.range_succ, List.map_append, List.map_append, List.sum_append, List.sum_append]
    simp only [List.map_cons, List.map_nil, List.sum_cons, List.sum_nil]
    by_cases e : v = n
    · subst e
      have : ((List.range v).map f) = ((List.range v).map g) := List.map_congr_left fun k hk => h k (by have := List.mem_range.1 hk; omega)
      rw [this]; omega
    · have := ih (by omega)
      rw [h n (by omega)]; omega
theorem getD_set (m : List Bool) (v k : Nat) (hv : v < m.length) : (m.set v true).getD k false = if k = v then true else m.getD k false := by
  rw [List.getD_eq_getElem?_getD, List.getElem?_set]
  by_cases e : v = k
  · subst e; simp [hv]
  · rw [if_neg e, if_neg (fun x => e x.symm), ← List.getD_eq_getElem?_getD]
theorem todo_set (G : Gr) (m : List Bool) (v : Nat) (hv : v < m.length) (h : m.getD v false = false) : todo G (m.set v true) + ((nx G v).length + 2) = todo G m := by
  unfold todo
  rw [List.length_set]
  have := sum_set (fun k => if (m.set v true).getD k false then 0 else (nx G k).length + 2) (fun k => if m.getD k false then 0 else (nx G k).length + 2) m.length v hv (fun k hk => by
    simp only [getD_set m v k hv, if_neg hk])
  simp only [getD_set m v v hv, h, if_true, Bool.false_eq_true, if_false] at this
  simp only [getD_set m v _ hv] at this ⊢
  omega
theorem left_snoc (w : List (Nat × List Nat)) (x : Nat × List Nat) : left (w ++ [x]) = left w + (x.2.length + 1) := by simp [left]

/-- y stands in a list, and x there or behind it -/
def NB (F : List Nat) (y x : Nat) : Prop := ∃ a b, F = a ++ y :: b ∧ x ∈ y :: b
theorem nb_more {F : List Nat} {y x : Nat} (h : NB F y x) (z : Nat) : NB (F ++ [z]) y x := by
  obtain ⟨a, b, rfl, hx⟩ := h
  exact ⟨a, b ++ [z], by simp, by rcases List.mem_cons.1 hx with rfl | hx <;> simp [*]⟩
theorem nb_last {F : List Nat} {y : Nat} (h : y ∈ F) (z : Nat) : NB (F ++ [z]) y z := by
  obtain ⟨a, b, rfl⟩ := List.append_of_mem h
  exact ⟨a, b ++ [z], by simp, by simp⟩
theorem nb_self (F : List Nat) (z : Nat) : NB (F ++ [z]) z z := ⟨F, [], by simp, by simp⟩
/-- what was left, and what is on the way -/
structure J (G : Gr) (n : Nat) (L S : List Nat) (m : List Bool) : Prop where
  len : m.length = n
  mark : ∀ v, m.getD v false = true ↔ v ∈ L ∨ v ∈ S
  lt : ∀ v, v ∈ L ∨ v ∈ S → v < n
  nd : (L ++ S).Nodup
  way : S.Pairwise (Rch G)
  shut : ∀ v ∈ L, ∀ x ∈ nx G v, x ∈ L ∨ x ∈ S
  back : ∀ x ∈ L, ∀ s ∈ S, Rch G x s → ∃ s' ∈ S, Rch G x s' ∧ Rch G s' x
  last : ∀ x ∈ L, ∀ y ∈ L, Rch G x y → (∃ x', NB L y x' ∧ Rch G x x' ∧ Rch G x' x) ∨ (∃ s ∈ S, Rch G x s ∧ Rch G s x)
section
variable {G : Gr} {n : Nat} {L S : List Nat} {m : List Bool}
theorem J.out (h : J G n L S m) {x z : Nat} (hx : x ∈ L) (hr : Rch G x z) : z ∈ L ∨ ∃ s ∈ S, Rch G x s := by
  induction hr with
  | refl => exact .inl hx
  | step hv hz ih =>
    rcases ih with h1 | h1
    · rcases h.shut _ h1 _ hz with h2 | h2
      · exact .inl h2
      · exact .inr ⟨_, h2, hv.step hz⟩
    · exact .inr h1
theorem J.push (h : J G n L S m) {v : Nat} (hv : v < n) (hm : m.getD v false = false) (hr : ∀ s ∈ S, Rch G s v) : J G n L (S ++ [v]) (m.set v true) := by
  have hlen := h.len
  have hno : ¬ (v ∈ L ∨ v ∈ S) := fun e => by rw [(h.mark v).2 e] at hm; cases hm
  refine ⟨by simp [hlen], fun k => ?_, fun k hk => ?_, ?_, ?_, fun x hx y hy => ?_, fun x hx s hs hxs => ?_, fun x hx y hy hxy => ?_⟩
  · rw [getD_set m v k (by omega)]
    by_cases e : k = v
    · subst e; simp
    · rw [if_neg e, h.mark k]; simp [e]
  · rcases hk with hk | hk
    · exact h.lt k (.inl hk)
    · rcases List.mem_append.1 hk with hk | hk
      · exact h.lt k (.inr hk)
      · obtain rfl := List.mem_singleton.1 hk; exact hv
  · rw [← List.append_assoc]
    refine List.nodup_append.2 ⟨h.nd, by simp, fun a ha b hb e => ?_⟩
    obtain rfl := List.mem_singleton.1 hb
    subst e
    exact hno (List.mem_append.1 ha)
  · exact List.pairwise_append.2 ⟨h.way, by simp, fun a ha b hb => by obtain rfl := List.mem_singleton.1 hb; exact hr a ha⟩
  · rcases h.shut x hx y hy with h1 | h1
    · exact .inl h1
    · exact .inr (List.mem_append_left _ h1)
  · have : ∃ s' ∈ S, Rch G x s' ∧ Rch G s' x := by
      rcases List.mem_append.1 hs with hs | hs
      · exact h.back x hx s hs hxs
      · obtain rfl := List.mem_singleton.1 hs
        rcases h.out hx hxs with h1 | ⟨s', h1, h2⟩
        · exact absurd (.inl h1) hno
        · exact h.back x hx s' h1 h2
    obtain ⟨s', a, b⟩ := this
    exact ⟨s', List.mem_append_left _ a, b⟩
  · rcases h.last x hx y hy hxy with h1 | ⟨s, a, b⟩
    · exact .inl h1
    · exact .inr ⟨s, List.mem_append_left _ a, b⟩
theorem J.pop {x : Nat} (h : J G n L (S ++ [x]) m) (hs : ∀ y ∈ nx G x, m.getD y false = true) : J G n (L ++ [x]) S m := by
  have hw := List.pairwise_append.1 h.way
  have hsx : ∀ s ∈ S, Rch G s x := fun s h1 => hw.2.2 s h1 x (by simp)
  refine ⟨h.len, fun k => ?_, fun k hk => h.lt k ?_, ?_, hw.1, fun v hv y hy => ?_, fun z hz s h1 hr => ?_, fun a ha b hb hab => ?_⟩
  · rw [h.mark k]; simp only [List.mem_append, List.mem_singleton]
    constructor
    · rintro (h1 | h1 | h1) <;> simp [h1]
    · rintro ((h1 | h1) | h1) <;> simp [h1]
  · simp only [List.mem_append, List.mem_singleton] at hk ⊢
    rcases hk with (h1 | h1) | h1 <;> simp [h1]
  · have hp : (L ++ [x] ++ S).Perm (L ++ (S ++ [x])) := by
      rw [List.append_assoc]
      exact List.Perm.append_left L List.perm_append_comm
    exact hp.symm.nodup h.nd
  · have : y ∈ L ∨ y ∈ S ++ [x] := by
      rcases List.mem_append.1 hv with h1 | h1
      · exact h.shut v h1 y hy
      · obtain rfl := List.mem_singleton.1 h1
        exact (h.mark y).1 (hs y hy)
    simp only [List.mem_append, List.mem_singleton] at this ⊢
    rcases this with h1 | h1 | h1 <;> simp [h1]
  · rcases List.mem_append.1 hz with h2 | h2
    · obtain ⟨s', a, b, c⟩ := h.back z h2 s (List.mem_append_left _ h1) hr
      rcases List.mem_append.1 a with a | a
      · exact ⟨s', a, b, c⟩
      · obtain rfl := List.mem_singleton.1 a
        exact ⟨s, h1, hr, (hsx s h1).trans c⟩
    · obtain rfl := List.mem_singleton.1 h2
      exact ⟨s, h1, hr, hsx s h1⟩
  · rcases List.mem_append.1 hb with kb | kb
    · rcases List.mem_append.1 ha with ka | ka
      · rcases h.last a ka b kb hab with ⟨x', h1, h2⟩ | ⟨s, h1, h2⟩
        · exact .inl ⟨x', nb_more h1 x, h2⟩
        · rcases List.mem_append.1 h1 with h1 | h1
          · exact .inr ⟨s, h1, h2⟩
          · obtain rfl := List.mem_singleton.1 h1
            exact .inl ⟨s, nb_last kb s, h2⟩
      · obtain rfl := List.mem_singleton.1 ka
        exact .inl ⟨a, nb_last kb a, .refl, .refl⟩
    · obtain rfl := List.mem_singleton.1 kb
      rcases List.mem_append.1 ha with ka | ka
      · obtain ⟨s', h1, h2⟩ := h.back a ka b (by simp) hab
        rcases List.mem_append.1 h1 with h1 | h1
        · exact .inr ⟨s', h1, h2⟩
        · obtain rfl := List.mem_singleton.1 h1
          exact .inl ⟨s', nb_self L s', h2⟩
      · obtain rfl := List.mem_singleton.1 ka
        exact .inl ⟨a, nb_self L a, .refl, .refl⟩
end
/-- what is on the way -/
def Sta.on (s : Sta) : List Nat := s.way.map (·.1) ++ [s.here.1]
structure Inv (G : Gr) (F0 : List Nat) (u : Nat) (s : Sta) : Prop where
  j : J G G.length (F0 ++ s.left) s.on s.marks
  rest : ∀ p ∈ s.way ++ [s.here], (∀ x ∈ p.2, x ∈ nx G p.1) ∧ ∀ x ∈ nx G p.1, x ∈ p.2 ∨ s.marks.getD x false = true
  root : ∀ v, v ∈ s.left ∨ v ∈ s.on → Rch G u v
  hasu : u ∈ s.left ∨ u ∈ s.on
theorem set_mono (m : List Bool) (v k : Nat) (h : m.getD k false = true) : (m.set v true).getD k false = true := by
  rcases Nat.lt_or_ge v m.length with hv | hv
  · rw [getD_set m v k hv, h]; split <;> rfl
  · rw [List.set_eq_of_length_le (by omega)]; exact h
theorem inv_of {G : Gr} (hG : Ok G) {F0 : List Nat} {m0 : List Bool} (h0 : J G G.length F0 [] m0) {u : Nat} {s : Sta} (h : At G m0 u s) : Inv G F0 u s := by
  induction h with
  | start hm hu =>
    have := h0.push (v := u) (by rw [← h0.len]; exact hu) hm (fun s hs => by cases hs)
    refine ⟨by simpa [Sta.on] using this, fun p hp => ?_, fun v hv => ?_, by simp [Sta.on]⟩
    · simp at hp; subst hp
      exact ⟨fun x hx => hx, fun x hx => .inl hx⟩
    · simp [Sta.on] at hv; subst hv; exact .refl
  | @seen m l w x v r _ hv ih =>
    refine ⟨ih.j, fun p hp => ?_, ih.root, ih.hasu⟩
    rcases List.mem_append.1 hp with h1 | h1
    · exact ih.rest p (List.mem_append_left _ h1)
    · obtain rfl := List.mem_singleton.1 h1
      obtain ⟨a, b⟩ := ih.rest (x, v :: r) (by simp)
      refine ⟨fun y hy => a y (by simp [hy]), fun y hy => ?_⟩
      rcases b y hy with h2 | h2
      · rcases List.mem_cons.1 h2 with rfl | h2
        · exact .inr hv
        · exact .inl h2
      · exact .inr h2
  | @down m l w x v r _ hv ih =>
    obtain ⟨a, b⟩ := ih.rest (x, v :: r) (by simp)
    have hxv : v ∈ nx G x := a v (by simp)
    have hon : ∀ s ∈ w.map (·.1) ++ [x], Rch G s x := fun s hs => by
      rcases List.mem_append.1 hs with h1 | h1
      · exact (List.pairwise_append.1 ih.j.way).2.2 s h1 x (by simp)
      · obtain rfl := List.mem_singleton.1 h1; exact .refl
    have hp := ih.j.push (v := v) (nx_lt hG hxv).1 hv (fun s hs => (hon s hs).step hxv)
    refine ⟨by simpa [Sta.on] using hp, fun p hp => ?_, fun y hy => ?_, ?_⟩
    · rcases List.mem_append.1 hp with h1 | h1
      · rcases List.mem_append.1 h1 with h1 | h1
        · obtain ⟨c, d⟩ := ih.rest p (List.mem_append_left _ h1)
          refine ⟨c, fun y hy => ?_⟩
          rcases d y hy with h2 | h2
          · exact .inl h2
          · exact .inr (set_mono _ _ _ h2)
        · obtain rfl := List.mem_singleton.1 h1
          refine ⟨fun y hy => a y (by simp [hy]), fun y hy => ?_⟩
          rcases b y hy with h2 | h2
          · rcases List.mem_cons.1 h2 with rfl | h2
            · refine .inr ?_
              rw [getD_set _ _ _ (by rw [ih.j.len]; exact (nx_lt hG hxv).1), if_pos rfl]
            · exact .inl h2
          · exact .inr (set_mono _ _ _ h2)
      · obtain rfl := List.mem_singleton.1 h1
        exact ⟨fun y hy => hy, fun y hy => .inl hy⟩
    · have : y ∈ l ∨ y ∈ w.map (·.1) ++ [x] ∨ y = v := by
        simp [Sta.on] at hy ⊢
        rcases hy with h1 | h1 | h1 | h1 <;> simp [h1]
      rcases this with h1 | h1 | h1
      · exact ih.root y (.inl h1)
      · exact ih.root y (.inr h1)
      · subst h1; exact (ih.root x (.inr (by simp [Sta.on]))).step hxv
    · rcases ih.hasu with h1 | h1
      · exact .inl h1
      · refine .inr ?_
        simp [Sta.on] at h1 ⊢
        rcases h1 with h1 | h1 <;> simp [h1]
  | @up m l w x y r _ ih =>
    obtain ⟨a, b⟩ := ih.rest (x, []) (by simp)
    have hp := J.pop (S := w.map (·.1) ++ [y]) (x := x) (by have := ih.j; simpa [Sta.on] using this) (fun z hz => by
      rcases b z hz with h1 | h1
      · cases h1
      · exact h1)
    refine ⟨by simpa [Sta.on] using hp, fun p hp => ih.rest p (by simp at hp ⊢; rcases hp with h1 | h1 <;> simp [h1]), fun z hz => ih.root z ?_, ?_⟩
    · simp [Sta.on] at hz ⊢
      rcases hz with (h1 | h1) | h1 | h1 <;> simp [h1]
    · have := ih.hasu
      simp [Sta.on] at this ⊢
      rcases this with h1 | h1 | h1 | h1 <;> simp [h1]
/-- what a search finds: with all that was left before, all that it leads to -/
theorem fnd_of {G : Gr} (hG : Ok G) {F0 : List Nat} {m0 : List Bool} (h0 : J G G.length F0 [] m0) {u : Nat} {l : List Nat} {m : List Bool} (h : Fnd G m0 u l m) :
    J G G.length (F0 ++ l) [] m ∧ u ∈ l ∧ ∀ v ∈ l, Rch G u v := by
  obtain ⟨l', x, h, rfl⟩ := h
  have i := inv_of hG h0 h
  obtain ⟨a, b⟩ := i.rest (x, []) (by simp)
  refine ⟨?_, ?_, fun v hv => i.root v ?_⟩
  · have := J.pop (S := []) (x := x) (by have := i.j; simpa [Sta.on] using this) (fun z hz => by
      rcases b z hz with h1 | h1
      · cases h1
      · exact h1)
    simpa using this
  · have := i.hasu; simp [Sta.on] at this ⊢; exact this
  · simp [Sta.on] at hv ⊢; exact hv
theorem meas_seen (G : Gr) (m : List Bool) (l : List Nat) (w : List (Nat × List Nat)) (x v : Nat) (r : List Nat) : meas G ⟨m, l, w, (x, r)⟩ < meas G ⟨m, l, w, (x, v :: r)⟩ := by simp only [meas, List.length_cons]; omega
theorem meas_down (G : Gr) (m : List Bool) (l : List Nat) (w : List (Nat × List Nat)) (x v : Nat) (r : List Nat) (hv : v < m.length) (hm : m.getD v false = false) : meas G ⟨m.set v true, l, w ++ [(x, r)], (v, nx G v)⟩ < meas G ⟨m, l, w, (x, v :: r)⟩ := by
  have := todo_set G m v hv hm
  simp [meas, left_snoc]; omega
theorem meas_up (G : Gr) (m : List Bool) (l l' : List Nat) (w : List (Nat × List Nat)) (x y : Nat) (r : List Nat) : meas G ⟨m, l', w, (y, r)⟩ < meas G ⟨m, l, w ++ [(y, r)], (x, [])⟩ := by
  simp only [meas, left_snoc, List.length_nil]; omega
end Go.Cmp

/-
What is proved here: numbers and lists of numbers in memory, rows of one's own, and what keeps them.
-/
set_option linter.unusedSimpArgs false
namespace Go.Proofs.YtpddamloajpiiaaGreatDoor
open Go.Cmp Go.RowKit

/-- block g is just the cells cs, of element type t, and may be written -/
def Lies (w : World) (g : Nat) (t : TypeId) (cs : Array Value) : Prop := w.heap[g]? = some (.cells cs t (0, 0))
section
variable {w w' : World} {g : Nat} {t : TypeId} {cs : Array Value}
theorem lies_lt (h : Lies w g t cs) : g < w.heap.size := by
  rcases Nat.lt_or_ge g w.heap.size with hlt | hge
  · exact hlt
  · unfold Lies at h; rw [Array.getElem?_eq_none hge] at h; cases h
theorem lies_cell (h : Lies w g t cs) (i : Nat) : w.cell? ⟨g, i, none⟩ = cs[i]? := cell_of_row w g i cs t (0, 0) h
theorem lies_free (h : Lies w g t cs) (i : Nat) : w.frozen? ⟨g, i, none⟩ = false := frozen_of_row w g i cs t h
theorem lies_new (w : World) (t : TypeId) (cs : Array Value) : Lies (w.alloc (.cells cs t)) w.heap.size t cs := heap_alloc_new w _
theorem lies_alloc (h : Lies w g t cs) (o : Obj) : Lies (w.alloc o) g t cs := (Below.heap_alloc w o g (lies_lt h)).trans h
theorem lies_set (h : Lies w g t cs) (i : Nat) (u : Value) : Lies (w.setCell ⟨g, i, none⟩ u) g t (cs.setIfInBounds i u) := heap_setCell_same w g i cs t u h
theorem lies_far (h : Lies w g t cs) {p : Addr} (hp : g ≠ p.block) (u : Value) : Lies (w.setCell p u) g t cs := (heap_setCell_other w p g u hp).trans h
theorem lies_drewN (h : Lies w g t cs) (n : Nat) : Lies (w.drewN n) g t cs := h
theorem lies_below {B : Nat} (h : Lies w g t cs) (hb : Below B w w') (hg : g < B) : Lies w' g t cs := (hb.block g hg).trans h
theorem lies_setRow {old : Array Value} (h : Lies w g t old) (cs : Array Value) : Lies (w.setRow g cs) g t cs := setRow_heap w g old cs t (0, 0) h
end
theorem below_setRow {B : Nat} {a w : World} (h : Below B a w) {g : Nat} (hg : B ≤ g) (cs : Array Value) : Below B a (w.setRow g cs) :=
  ⟨h.os, h.tape, h.output, by simpa using h.size, fun k hk => (setRow_other w g k cs (by omega)).trans (h.block k hk)⟩
theorem below_drewN {B : Nat} {a w : World} (h : Below B a w) (n : Nat) : Below B a (w.drewN n) := ⟨h.os, h.tape, h.output, h.size, h.block⟩

/-- as it was, but for the blocks of P -/
structure But (P : Nat → Prop) (w w' : World) : Prop where
  os : w'.os = w.os
  tape : w'.tape = w.tape
  output : w'.output = w.output
  size : w.heap.size ≤ w'.heap.size
  block : ∀ k, k < w.heap.size → ¬ P k → w'.heap[k]? = w.heap[k]?
section
variable {P : Nat → Prop} {a b c : World}
theorem But.refl (P : Nat → Prop) (w : World) : But P w w := ⟨rfl, rfl, rfl, Nat.le_refl _, fun _ _ _ => rfl⟩
theorem But.trans (h : But P a b) (k : But P b c) : But P a c := ⟨k.os.trans h.os, k.tape.trans h.tape, k.output.trans h.output, Nat.le_trans h.size k.size, fun i hi hp => (k.block i (Nat.lt_of_lt_of_le hi h.size) hp).trans (h.block i hi hp)⟩
theorem But.step {P' : Nat → Prop} (h : But P a b) (k : But P' b c) (hp : ∀ i, i < a.heap.size → P' i → P i) : But P a c := ⟨k.os.trans h.os, k.tape.trans h.tape, k.output.trans h.output, Nat.le_trans h.size k.size, fun i hi hn => (k.block i (Nat.lt_of_lt_of_le hi h.size) (fun h2 => hn (hp i hi h2))).trans (h.block i hi hn)⟩
theorem But.mono {P' : Nat → Prop} (h : But P a b) (hp : ∀ k, k < a.heap.size → P k → P' k) : But P' a b := ⟨h.os, h.tape, h.output, h.size, fun i hi h2 => h.block i hi (fun h3 => h2 (hp i hi h3))⟩
theorem But.of_below (h : Below a.heap.size a b) : But P a b := ⟨h.os, h.tape, h.output, h.size, fun i hi _ => h.block i hi⟩
theorem But.below (h : But P a b) {B : Nat} (hB : B ≤ a.heap.size) (hp : ∀ k, P k → B ≤ k) : Below B a b := ⟨h.os, h.tape, h.output, h.size, fun i hi => h.block i (by omega) (fun h3 => by have := hp i h3; omega)⟩
theorem But.grown {row : Option Nat} (h : a.grownBy b row) : But (fun k => some k = row) a b := ⟨h.os, h.tape, h.output, h.size, h.block⟩
theorem But.alloc (h : But P a b) (o : Obj) : But P a (b.alloc o) := h.trans ⟨rfl, rfl, rfl, by simp, fun k hk _ => Below.heap_alloc _ _ _ (by omega)⟩
theorem But.drewN (h : But P a b) (n : Nat) : But P a (b.drewN n) := ⟨h.os, h.tape, h.output, h.size, h.block⟩
theorem But.drew (h : But P a b) : But P a b.drew := ⟨h.os, h.tape, h.output, h.size, h.block⟩
theorem But.setCell (h : But P a b) {p : Addr} (hp : p.block < a.heap.size → P p.block) (u : Value) : But P a (b.setCell p u) :=
  ⟨h.os, h.tape, h.output, by simpa [World.setCell] using h.size, fun k hk hn => (Below.heap_setCell b p u k (fun e => hn (e ▸ hp (e ▸ hk)))).trans (h.block k hk hn)⟩
theorem But.setRow (h : But P a b) {g : Nat} (hp : g < a.heap.size → P g) (cs : Array Value) : But P a (b.setRow g cs) :=
  ⟨h.os, h.tape, h.output, by simpa using h.size, fun k hk hn => (setRow_other b g k cs (fun e => hn (e ▸ hp (e ▸ hk)))).trans (h.block k hk hn)⟩
theorem But.lies {g : Nat} {t : TypeId} {cs : Array Value} (h : But P a b) (hl : Lies a g t cs) (hg : ¬ P g) : Lies b g t cs := (h.block g (lies_lt hl) hg).trans hl
end

def iV (z : Int) : Value := .int .i64 z
def bV (b : Bool) : Value := .bool b
def bRow (m : List Bool) : Array Value := (m.map bV).toArray
/-- the numbers as integers -/
def zs (l : List Nat) : List Int := l.map fun n : Nat => (n : Int)
def zg (G : Gr) : List (List Int) := G.map zs
@[simp] theorem zs_len (l : List Nat) : (zs l).length = l.length := by simp [zs]
@[simp] theorem zg_len (G : Gr) : (zg G).length = G.length := by simp [zg]
theorem setRow_alloc (w : World) (t : TypeId) (c cs : Array Value) : (w.alloc (.cells c t)).setRow w.heap.size cs = w.alloc (.cells cs t) := by
  unfold World.setRow World.alloc
  congr 1
  refine Array.ext_getElem? fun i => ?_
  simp only [Array.getElem?_modify, Array.getElem?_push]
  by_cases h : w.heap.size = i
  · subst h; simp
  · rw [if_neg h]
    by_cases h2 : i = w.heap.size
    · exact absurd h2.symm h
    · simp [h2]
/-- numbers in a slice -/
def IntsAt (w : World) (A : Option Addr) (l : List Int) : Prop := ∀ i (h : i < l.length), ∃ b o, A = some ⟨b, o, none⟩ ∧ b < w.heap.size ∧ w.cell? ⟨b, o + i, none⟩ = some (iV l[i])
/-- lists of numbers in a slice -/
def LsAt (w : World) (A : Option Addr) (N : List (List Int)) : Prop := ∀ i (h : i < N.length), ∃ b o A' c, A = some ⟨b, o, none⟩ ∧ b < w.heap.size ∧ w.cell? ⟨b, o + i, none⟩ = some (.slice A' N[i].length c) ∧ N[i].length ≤ c ∧ IntsAt w A' N[i]
theorem cell_same {w w' : World} {b o : Nat} {v : Value} (hc : w.cell? ⟨b, o, none⟩ = some v) (h : w'.heap[b]? = w.heap[b]?) : w'.cell? ⟨b, o, none⟩ = some v := (World.cell?_of_block (a := ⟨b, o, none⟩) h).trans hc
theorem intsAt_nil (w : World) (A : Option Addr) : IntsAt w A [] := fun i hi => by cases hi
theorem intsAt_below {w w' : World} {A : Option Addr} {l : List Int} (h : IntsAt w A l) (hb : Below w.heap.size w w') : IntsAt w' A l := fun i hi => by
  obtain ⟨b, o, e, hl, hc⟩ := h i hi
  exact ⟨b, o, e, Nat.lt_of_lt_of_le hl hb.size, cell_same hc (hb.block b hl)⟩
theorem lsAt_below {w w' : World} {A : Option Addr} {N : List (List Int)} (h : LsAt w A N) (hb : Below w.heap.size w w') : LsAt w' A N := fun i hi => by
  obtain ⟨b, o, A', c, e, hl, hc, hk, hi'⟩ := h i hi
  exact ⟨b, o, A', c, e, Nat.lt_of_lt_of_le hl hb.size, cell_same hc (hb.block b hl), hk, intsAt_below hi' hb⟩
/-- the blocks in which a row of cells of type t lies, of which each cell is of a kind -/
def Not (P : Nat → Prop) (w : World) (bad : Value → Prop) : Prop := ∀ k, P k → ∀ o v, w.cell? ⟨k, o, none⟩ = some v → ¬ bad v
theorem intsAt_but {P : Nat → Prop} {w w' : World} {A : Option Addr} {l : List Int} (h : IntsAt w A l) (hb : But P w w') (hn : ∀ k, k < w.heap.size → P k → ∀ o z, w.cell? ⟨k, o, none⟩ ≠ some (iV z)) : IntsAt w' A l := fun i hi => by
  obtain ⟨b, o, e, hl, hc⟩ := h i hi
  exact ⟨b, o, e, Nat.lt_of_lt_of_le hl hb.size, cell_same hc (hb.block b hl (fun hp => hn b hl hp _ _ hc))⟩
theorem lsAt_but {P : Nat → Prop} {w w' : World} {A : Option Addr} {N : List (List Int)} (h : LsAt w A N) (hb : But P w w') (hn : ∀ k, k < w.heap.size → P k → ∀ o z, w.cell? ⟨k, o, none⟩ ≠ some (iV z)) (hs : ∀ k, k < w.heap.size → P k → ∀ o A n c, w.cell? ⟨k, o, none⟩ ≠ some (.slice A n c)) : LsAt w' A N := fun i hi => by
  obtain ⟨b, o, A', c, e, hl, hc, hk, hi'⟩ := h i hi
  exact ⟨b, o, A', c, e, Nat.lt_of_lt_of_le hl hb.size, cell_same hc (hb.block b hl (fun hp => hs b hl hp _ _ _ _ hc)), hk, intsAt_but hi' hb hn⟩
theorem marks_cell {w : World} {M : Nat} {m : List Bool} (h : Lies w M 4 (bRow m)) (o : Nat) (v : Value) (hc : w.cell? ⟨M, o, none⟩ = some v) : ∃ b, v = .bool b := by
  rw [lies_cell h o] at hc
  unfold bRow at hc
  rw [List.getElem?_toArray, List.getElem?_map] at hc
  cases e : m[o]? with
  | none => rw [e] at hc; cases hc
  | some b => rw [e] at hc; injection hc with hc; exact ⟨b, hc.symm⟩
theorem lsAt_marks {w w' : World} {A : Option Addr} {N : List (List Int)} {M : Nat} {m : List Bool} (h : LsAt w A N) (hm : Lies w M 4 (bRow m)) (hb : But (· = M) w w') : LsAt w' A N :=
  lsAt_but h hb (fun k _ e o z hc => by subst e; obtain ⟨b, e⟩ := marks_cell hm o _ hc; cases e) (fun k _ e o _ _ _ hc => by subst e; obtain ⟨b, e⟩ := marks_cell hm o _ hc; cases e)
theorem intsAt_marks {w w' : World} {A : Option Addr} {l : List Int} {M : Nat} {m : List Bool} (h : IntsAt w A l) (hm : Lies w M 4 (bRow m)) (hb : But (· = M) w w') : IntsAt w' A l :=
  intsAt_but h hb (fun k _ e o z hc => by subst e; obtain ⟨b, e⟩ := marks_cell hm o _ hc; cases e)
theorem int_info : (Tryz.prog.info? 3).map (fun i => (i.zero, i.size, i.bytes)) = some (some (.int .i64 0), 1, 8) := by kernel_rfl
theorem list_info : (Tryz.prog.info? 33).map (fun i => (i.zero, i.size, i.bytes)) = some (some (.slice none 0 0), 1, 24) := by kernel_rfl
theorem bool_info : (Tryz.prog.info? 4).map (fun i => (i.zero, i.size, i.bytes)) = some (some (.bool false), 1, 1) := by kernel_rfl
/-- a row of numbers of one's own -/
def OwnI (w : World) (B : Nat) (v : Value) (l : List Int) : Prop := w.ownsRow B 3 1 v l.length (l.map iV)
theorem ownI_nil (w : World) (B : Nat) : OwnI w B (.slice none 0 0) [] := World.ownsRow_nil _ _ _ _
theorem own_but {P : Nat → Prop} {w w' : World} {B e size : Nat} {v : Value} {n : Nat} {xs : List Value} (h : w.ownsRow B e size v n xs) (hb : But P w w') (hn : ∀ k, v.ownBlock = some k → ¬ P k) : w'.ownsRow B e size v n xs := by
  refine ⟨h.1, ?_⟩
  rcases h.2 with hz | ⟨g, cap, cur, rfl, hB, hg, rest⟩
  · exact .inl hz
  · exact .inr ⟨g, cap, cur, rfl, hB, (hb.block g (Array.getElem?_eq_some_iff.1 hg).1 (hn g rfl)).trans hg, rest⟩
theorem own_heap {w : World} {B e size : Nat} {v : Value} {n : Nat} {xs : List Value} (h : w.ownsRow B e size v n xs) (b : Nat) (hb : v.ownBlock = some b) : B ≤ b ∧ b < w.heap.size ∧ ∃ cs, Lies w b e cs := by
  rcases h.2 with ⟨rfl, _⟩ | ⟨g, cap, cur, rfl, hbg, hg, _⟩
  · simp [Value.ownBlock] at hb
  · obtain rfl : g = b := by simpa [Value.ownBlock] using hb
    exact ⟨hbg, (Array.getElem?_eq_some_iff.1 hg).1, cur, hg⟩
theorem own_ne {w : World} {B e size : Nat} {v : Value} {n : Nat} {xs : List Value} (h : w.ownsRow B e size v n xs) {g t : Nat} {cs : Array Value} (hl : Lies w g t cs) (ht : t ≠ e) : v.ownBlock ≠ some g := fun hb => by
  obtain ⟨_, _, cs', h2⟩ := own_heap h g hb
  unfold Lies at hl h2
  rw [hl] at h2
  injection h2 with h2
  injection h2 with _ h4 _
  exact ht h4
theorem own_slice {w : World} {B e size : Nat} {v : Value} {n : Nat} {xs : List Value} (h : w.ownsRow B e size v n xs) : ∃ A C, v = .slice A n C := by
  rcases h.2 with ⟨e1, e2⟩ | ⟨g, cap, cur, e1, _⟩
  · exact ⟨none, 0, by rw [e2]; exact e1⟩
  · exact ⟨_, _, e1⟩
theorem own_base {w : World} {B B' e size : Nat} {v : Value} {n : Nat} {xs : List Value} (h : w.ownsRow B e size v n xs) (hb : ∀ k, v.ownBlock = some k → B' ≤ k) : w.ownsRow B' e size v n xs := by
  refine ⟨h.1, ?_⟩
  rcases h.2 with hz | ⟨g, cap, cur, rfl, hB, rest⟩
  · exact .inl hz
  · exact .inr ⟨g, cap, cur, rfl, hb g rfl, rest⟩
theorem ownI_ints {w : World} {B : Nat} {A : Option Addr} {n c : Nat} {l : List Int} (h : OwnI w B (.slice A n c) l) : n = l.length ∧ IntsAt w A l := by
  unfold OwnI at h
  rcases h.2 with ⟨e, e0⟩ | ⟨g, cap, cur, e, hg, hb, hc, _⟩
  · injection e with a b d
    subst a b d
    have : l = [] := List.length_eq_zero_iff.1 e0
    subst this
    exact ⟨rfl, intsAt_nil _ _⟩
  · injection e with a b d
    subst a b d
    refine ⟨rfl, fun i hi => ⟨g, 0, rfl, (Array.getElem?_eq_some_iff.1 hb).1, ?_⟩⟩
    rw [Nat.zero_add, h.cellAt _ (by omega)]
    rw [List.getElem?_map, List.getElem?_eq_getElem hi]
    rfl
theorem rng2 {w : World} {g : Nat} {t : TypeId} {a b : Value} (h : Lies w g t #[a, b]) : w.rangeAt g 0 [a, b] := fun j v hj => by
  rw [Nat.zero_add]
  have := lies_cell h j
  rw [this]
  simpa using hj
theorem wpList_built {P : Program} {ops : Array Oper} {rest : List Oper} {o : Oper} {a : Act} {w : World} {Q : Exit → Act → World → Prop} (hg : o.guard = none) (t : TypeId) (parts : Array (Nat × Operand)) (ho : o.op = .build t parts)
    (cells : Array Value) (hf : P.built t (parts.map fun (i, x) => (i, a.eval x)).toList = some cells)
    (h : wpList P ops Q rest (a.put o.dst (.agg cells)) w) : wpList P ops Q (o :: rest) a w :=
  wpList_build hg t parts ho (by rw [hf]; rfl) (by rw [hf]; exact h)
set_option maxRecDepth 100000 in
/-- one number more behind a row of one's own: the number lies in a block of one cell -/
theorem wpList_app_int {w : World} {ops : Array Oper} {rest : List Oper} {o : Oper} {a : Act} {Q : Exit → Act → World → Prop} (hgd : o.guard = none) (s x : Operand)
    (ho : o.op = .call { callee := .builtin .append, args := #[s, x], argTypes := #[33, 33] }) (B g : Nat) (z : Int) (v : Value) (l : List Int) (hs : a.eval s = v) (hown : OwnI w B v l) (hx : a.eval x = .slice (some ⟨g, 0, none⟩) 1 1) (hg : Lies w g 3 #[iV z])
    (hb : l.length ≤ 100000000) (hbase : B ≤ w.heap.size)
    (h : ∀ v' w', OwnI w' B v' (l ++ [z]) → w.grownBy w' v.ownBlock → wpList Tryz.prog ops Q rest (a.put o.dst v') w') : wpList Tryz.prog ops Q (o :: rest) a w := by
  obtain ⟨i0, hi, hz0, hz1, hz2⟩ := info_parts int_info
  refine wpList_append_own _ hgd s x 33 ho B 3 i0 (.int .i64 0) 1 8 Tryz.underlying33 hi hz0 hz1 hz2 rfl (by decide) v l.length (l.map iV) hs hown ⟨g, 0, none⟩ 1 1 [iV z] hx (by simp) (fun j u hj => by
    match j, hj with
    | 0, hj => injection hj with hj; subst hj; exact lies_cell hg 0
    | j + 1, hj => simp at hj) (fun u hu => by simp at hu; subst hu; rfl) (by unfold maxLen; omega) (by omega) hbase (fun v' w' h1 h2 _ => h v' w' ?_ h2)
  unfold OwnI
  rw [List.length_append, List.map_append]
  exact h1
end Go.Proofs.YtpddamloajpiiaaGreatDoor

/-
What is proved here: several rows of numbers of one's own, each in a block of its own, and one number more behind one of them.
-/
set_option linter.unusedSimpArgs false
set_option linter.unusedVariables false
namespace Go.Proofs.YtpddamloajpiiaaGreatDoor
open Go.Cmp Go.RowKit
theorem getD_setV {α : Type} (l : List α) (v k : Nat) (x d : α) : (l.set v x).getD k d = if v = k ∧ k < l.length then x else l.getD k d := by
  rw [List.getD_eq_getElem?_getD, List.getElem?_set]
  by_cases e : v = k
  · subst e
    by_cases h : v < l.length
    · simp [h]
    · simp [h, List.getD_eq_getElem?_getD]
  · rw [if_neg e, if_neg (fun h => e h.1), ← List.getD_eq_getElem?_getD]
theorem getD_app {α : Type} (l : List α) (k : Nat) (x d : α) : (l ++ [x]).getD k d = if k < l.length then l.getD k d else if k = l.length then x else d := by
  rw [List.getD_eq_getElem?_getD]
  by_cases h : k < l.length
  · rw [List.getElem?_append_left h, if_pos h, ← List.getD_eq_getElem?_getD]
  · rw [if_neg h, List.getElem?_append_right (by omega)]
    by_cases e : k = l.length
    · subst e; simp
    · rw [if_neg e, List.getElem?_eq_none (by simp; omega)]; rfl
/-- rows of numbers of one's own, each in a block of its own -/
structure Sep (w : World) (B : Nat) (vs : List Value) (T : List (List Int)) : Prop where
  len : vs.length = T.length
  own : ∀ v, v < T.length → OwnI w B (vs.getD v undef) (T.getD v [])
  sep : ∀ v v' k, v < T.length → v' < T.length → v ≠ v' → (vs.getD v undef).ownBlock = some k → (vs.getD v' undef).ownBlock ≠ some k
section
variable {w w' : World} {B : Nat} {vs : List Value} {T : List (List Int)}
theorem Sep.but {P : Nat → Prop} (h : Sep w B vs T) (hb : But P w w') (hn : ∀ v k, v < T.length → (vs.getD v undef).ownBlock = some k → ¬ P k) : Sep w' B vs T :=
  ⟨h.len, fun v hv => own_but (h.own v hv) hb (fun k hk => hn v k hv hk), h.sep⟩
theorem Sep.below (h : Sep w B vs T) (hb : Below w.heap.size w w') : Sep w' B vs T :=
  h.but (But.of_below (P := fun _ => False) hb) (fun _ _ _ _ x => x)
theorem Sep.nil (w : World) (B : Nat) : Sep w B [] [] := ⟨rfl, fun v hv => absurd hv (Nat.not_lt_zero v), fun v _ _ hv _ _ _ => absurd hv (Nat.not_lt_zero v)⟩
theorem Sep.snoc (h : Sep w B vs T) {x : Value} {l : List Int} (hx : OwnI w B x l) (hn : ∀ v k, v < T.length → (vs.getD v undef).ownBlock = some k → x.ownBlock ≠ some k) : Sep w B (vs ++ [x]) (T ++ [l]) := by
  have hl := h.len
  refine ⟨by simp [hl], fun v hv => ?_, fun v v' k hv hv' hne hk => ?_⟩
  · rw [getD_app, getD_app, hl]
    simp at hv
    by_cases h1 : v < T.length
    · rw [if_pos h1, if_pos h1]; exact h.own v h1
    · rw [if_neg h1, if_neg h1, if_pos (by omega), if_pos (by omega)]; exact hx
  · rw [getD_app, hl] at hk ⊢
    simp at hv hv'
    by_cases h1 : v < T.length
    · rw [if_pos h1] at hk
      by_cases h2 : v' < T.length
      · rw [if_pos h2]; exact h.sep v v' k h1 h2 hne hk
      · rw [if_neg h2, if_pos (by omega)]; exact hn v k h1 hk
    · rw [if_neg h1, if_pos (by omega)] at hk
      rw [if_pos (by omega)]
      intro e
      exact hn v' k (by omega) e hk
theorem Sep.turn (h : Sep w B vs T) {v : Nat} (hv : v < T.length) {x : Value} {l : List Int} (hb : But (fun k => some k = (vs.getD v undef).ownBlock) w w') (hx : OwnI w' B x l)
    (hw : x.ownBlock = (vs.getD v undef).ownBlock ∨ ∀ k, x.ownBlock = some k → w.heap.size ≤ k) : Sep w' B (vs.set v x) (T.set v l) := by
  have hl := h.len
  refine ⟨by simp [hl], fun u hu => ?_, fun u u' k hu hu' hne hk => ?_⟩
  · rw [getD_setV, getD_setV, hl]
    simp at hu
    by_cases e : v = u
    · subst e; rw [if_pos ⟨rfl, hu⟩, if_pos ⟨rfl, hu⟩]; exact hx
    · rw [if_neg (fun x => e x.1), if_neg (fun x => e x.1)]
      exact own_but (h.own u hu) hb (fun k hk x => h.sep v u k hv hu e x.symm hk)
  · rw [getD_setV, hl] at hk ⊢
    simp at hu hu'
    by_cases e : v = u
    · subst e
      rw [if_pos ⟨rfl, hu⟩] at hk
      rw [if_neg (fun x => hne x.1)]
      rcases hw with hw | hw
      · exact h.sep v u' k hv hu' hne (hw ▸ hk)
      · intro e2
        have := (own_heap (h.own u' hu') k e2).2.1
        have := hw k hk
        omega
    · rw [if_neg (fun x => e x.1)] at hk
      by_cases e2 : v = u'
      · subst e2
        rw [if_pos ⟨rfl, hu'⟩]
        rcases hw with hw | hw
        · rw [hw]; exact h.sep u v k hu hv hne hk
        · intro e3
          have := (own_heap (h.own u hu) k hk).2.1
          have := hw k e3
          omega
      · rw [if_neg (fun x => e2 x.1)]; exact h.sep u u' k hu hu' hne hk
end
theorem ownI_cap {w : World} {B : Nat} {v : Value} {l : List Int} (h : OwnI w B v l) : ∃ A c, v = .slice A l.length c ∧ l.length ≤ c ∧ IntsAt w A l := by
  obtain ⟨A, c, rfl⟩ := own_slice h
  refine ⟨A, c, rfl, ?_, (ownI_ints h).2⟩
  rcases h.2 with ⟨e, e0⟩ | ⟨g, cap, cur, e, hg, hb, hc, _⟩
  · omega
  · injection e with a b d
    subst d; exact hc
theorem sep_ls {w : World} {B : Nat} {vs : List Value} {T : List (List Int)} {R off : Nat} (h : Sep w B vs T) (hR : R < w.heap.size) (hc : ∀ j u, vs[j]? = some u → w.cell? ⟨R, off + j, none⟩ = some u) : LsAt w (some ⟨R, off, none⟩) T := fun i hi => by
  have hv : i < vs.length := by rw [h.len]; exact hi
  have ho := h.own i hi
  rw [List.getD_eq_getElem?_getD, List.getElem?_eq_getElem hv, List.getD_eq_getElem?_getD, List.getElem?_eq_getElem hi] at ho
  obtain ⟨A, c, e, h1, h2⟩ := ownI_cap ho
  refine ⟨R, off, A, c, rfl, hR, ?_, h1, h2⟩
  rw [hc i _ (List.getElem?_eq_getElem hv)]
  exact congrArg some e
set_option maxRecDepth 100000 in
/-- one number more behind a row of one's own, and where the row then lies -/
theorem wpList_app_at {w : World} {ops : Array Oper} {rest : List Oper} {o : Oper} {a : Act} {Q : Exit → Act → World → Prop} (hgd : o.guard = none) (s x : Operand)
    (ho : o.op = .call { callee := .builtin .append, args := #[s, x], argTypes := #[33, 33] }) (B g : Nat) (z : Int) (v : Value) (l : List Int) (hs : a.eval s = v) (hown : OwnI w B v l) (hx : a.eval x = .slice (some ⟨g, 0, none⟩) 1 1) (hg : Lies w g 3 #[iV z])
    (hb : l.length ≤ 100000000) (hbase : B ≤ w.heap.size)
    (h : ∀ G cap w', OwnI w' B (.slice (some ⟨G, 0, none⟩) (l.length + 1) cap) (l ++ [z]) → w.grownBy w' v.ownBlock → (v.ownBlock = some G ∨ G = w.heap.size) → wpList Tryz.prog ops Q rest (a.put o.dst (.slice (some ⟨G, 0, none⟩) (l.length + 1) cap)) w') : wpList Tryz.prog ops Q (o :: rest) a w := by
  obtain ⟨i0, hi, hz0, hz1, hz2⟩ := info_parts int_info
  refine wpList_append_lies w hgd s x 33 ho B 3 i0 (.int .i64 0) 1 8 Tryz.underlying33 hi hz0 hz1 hz2 rfl (by decide) v l.length (l.map iV) hs hown ⟨g, 0, none⟩ 1 1 [iV z] hx (by simp) (fun j u hj => by
    match j, hj with
    | 0, hj => injection hj with hj; subst hj; exact lies_cell hg 0
    | j + 1, hj => simp at hj) (fun u hu => by simp at hu; subst hu; rfl) (by decide) (by unfold maxLen; omega) (by omega) hbase w.heap.size rfl (fun G cap w' h1 h2 h3 _ => h G cap w' ?_ h2 h3)
  unfold OwnI
  rw [List.length_append, List.map_append]
  exact h1
end Go.Proofs.YtpddamloajpiiaaGreatDoor

/-
What is proved here: that the library's sorts, search, insertion and deletion stand in this program as the kit's contracts know them.
-/
namespace Go.Proofs.YtpddamloajpiiaaGreatDoor
open Go.Shelf
def sortI_ren : Go.Shelf.Ren := ⟨fun | 189 => 53 | 125 => 77 | 257 => 76 | 128 => 101 | 129 => 102 | 294 => 93 | 295 => 94 | 296 => 95 | 297 => 96 | 298 => 97 | 299 => 98 | 216 => 69 | 300 => 99 | 301 => 100 | 328 => 117 | 329 => 118 | 330 => 119 | 331 => 120 | 332 => 121 | 215 => 91 | 343 => 128 | n => n, fun | 28 => 33 | 3 => 3 | 46 => 93 | 0 => 0 | 51 => 122 | 53 => 124 | 4 => 4 | 183 => 116 | 182 => 115 | 131 => 77 | 5 => 5 | 9 => 9 | 218 => 131 | 222 => 135 | 228 => 141 | 229 => 142 | n => n, fun | n => n⟩
theorem sortI : Go.Proofs.Lays.n189 Tryz.prog sortI_ren := {
  mixed := by kernel_rfl
  f125 := Tryz.func77.trans (congrArg some (by kernel_rfl))
  f128 := Tryz.func101.trans (congrArg some (by kernel_rfl))
  f129 := Tryz.func102.trans (congrArg some (by kernel_rfl))
  f189 := Tryz.func53.trans (congrArg some (by kernel_rfl))
  f215 := Tryz.func91.trans (congrArg some (by kernel_rfl))
  f216 := Tryz.func69.trans (congrArg some (by kernel_rfl))
  f257 := Tryz.func76.trans (congrArg some (by kernel_rfl))
  f294 := Tryz.func93.trans (congrArg some (by kernel_rfl))
  f295 := Tryz.func94.trans (congrArg some (by kernel_rfl))
  f296 := Tryz.func95.trans (congrArg some (by kernel_rfl))
  f297 := Tryz.func96.trans (congrArg some (by kernel_rfl))
  f298 := Tryz.func97.trans (congrArg some (by kernel_rfl))
  f299 := Tryz.func98.trans (congrArg some (by kernel_rfl))
  f300 := Tryz.func99.trans (congrArg some (by kernel_rfl))
  f301 := Tryz.func100.trans (congrArg some (by kernel_rfl))
  f328 := Tryz.func117.trans (congrArg some (by kernel_rfl))
  f329 := Tryz.func118.trans (congrArg some (by kernel_rfl))
  f330 := Tryz.func119.trans (congrArg some (by kernel_rfl))
  f331 := Tryz.func120.trans (congrArg some (by kernel_rfl))
  f332 := Tryz.func121.trans (congrArg some (by kernel_rfl))
  f343 := Tryz.func128.trans (congrArg some (by kernel_rfl))
  t0 := Tryz.underlying0
  a0 := Tryz.isAgg0
  z0 := Tryz.sizeOf0
  v0 := Tryz.zeroValue0
  t3 := Tryz.underlying3
  a3 := Tryz.isAgg3
  z3 := Tryz.sizeOf3
  v3 := Tryz.zeroValue3
  t4 := Tryz.underlying4
  a4 := Tryz.isAgg4
  z4 := Tryz.sizeOf4
  v4 := Tryz.zeroValue4
  t5 := Tryz.underlying5
  a5 := Tryz.isAgg5
  z5 := Tryz.sizeOf5
  v5 := Tryz.zeroValue5
  t9 := Tryz.underlying9
  a9 := Tryz.isAgg9
  z9 := Tryz.sizeOf9
  v9 := Tryz.zeroValue9
  t28 := Tryz.underlying33
  a28 := Tryz.isAgg33
  z28 := Tryz.sizeOf33
  v28 := Tryz.zeroValue33
  t46 := Tryz.underlying93
  a46 := Tryz.isAgg93
  z46 := Tryz.sizeOf93
  v46 := Tryz.zeroValue93
  t51 := Tryz.underlying122
  a51 := Tryz.isAgg122
  z51 := Tryz.sizeOf122
  v51 := Tryz.zeroValue122
  t53 := Tryz.underlying124
  a53 := Tryz.isAgg124
  z53 := Tryz.sizeOf124
  v53 := Tryz.zeroValue124
  t131 := Tryz.underlying77
  a131 := Tryz.isAgg77
  z131 := Tryz.sizeOf77
  v131 := Tryz.zeroValue77
  t182 := Tryz.underlying115
  a182 := Tryz.isAgg115
  z182 := Tryz.sizeOf115
  v182 := Tryz.zeroValue115
  t183 := Tryz.underlying116
  a183 := Tryz.isAgg116
  z183 := Tryz.sizeOf116
  v183 := Tryz.zeroValue116
  t218 := Tryz.underlying131
  a218 := Tryz.isAgg131
  z218 := Tryz.sizeOf131
  v218 := Tryz.zeroValue131
  t222 := Tryz.underlying135
  a222 := Tryz.isAgg135
  z222 := Tryz.sizeOf135
  v222 := Tryz.zeroValue135
  t228 := Tryz.underlying141
  a228 := Tryz.isAgg141
  z228 := Tryz.sizeOf141
  v228 := Tryz.zeroValue141
  t229 := Tryz.underlying142
  a229 := Tryz.isAgg142
  z229 := Tryz.sizeOf142
  v229 := Tryz.zeroValue142 }
def searchI_ren : Go.Shelf.Ren := ⟨fun | 25 => 48 | 31 => 69 | 32 => 70 | 37 => 91 | n => n, fun | 22 => 33 | 3 => 3 | 4 => 4 | 40 => 93 | 0 => 0 | n => n, fun | n => n⟩
theorem searchI : Go.Proofs.Lays2.n25 Tryz.prog searchI_ren := {
  mixed := by kernel_rfl
  f25 := Tryz.func48.trans (congrArg some (by kernel_rfl))
  f31 := Tryz.func69.trans (congrArg some (by kernel_rfl))
  f32 := Tryz.func70.trans (congrArg some (by kernel_rfl))
  f37 := Tryz.func91.trans (congrArg some (by kernel_rfl))
  t0 := Tryz.underlying0
  a0 := Tryz.isAgg0
  z0 := Tryz.sizeOf0
  v0 := Tryz.zeroValue0
  t3 := Tryz.underlying3
  a3 := Tryz.isAgg3
  z3 := Tryz.sizeOf3
  v3 := Tryz.zeroValue3
  t4 := Tryz.underlying4
  a4 := Tryz.isAgg4
  z4 := Tryz.sizeOf4
  v4 := Tryz.zeroValue4
  t22 := Tryz.underlying33
  a22 := Tryz.isAgg33
  z22 := Tryz.sizeOf33
  v22 := Tryz.zeroValue33
  t40 := Tryz.underlying93
  a40 := Tryz.isAgg93
  z40 := Tryz.sizeOf93
  v40 := Tryz.zeroValue93 }
def insertI_ren : Go.Shelf.Ren := ⟨fun | 21 => 49 | 27 => 71 | 28 => 72 | 35 => 92 | 39 => 116 | n => n, fun | 22 => 33 | 3 => 3 | 4 => 4 | 0 => 0 | n => n, fun | n => n⟩
theorem insertI : Go.Proofs.Lays2.n21 Tryz.prog insertI_ren := {
  mixed := by kernel_rfl
  f21 := Tryz.func49.trans (congrArg some (by kernel_rfl))
  f27 := Tryz.func71.trans (congrArg some (by kernel_rfl))
  f28 := Tryz.func72.trans (congrArg some (by kernel_rfl))
  f35 := Tryz.func92.trans (congrArg some (by kernel_rfl))
  f39 := Tryz.func116.trans (congrArg some (by kernel_rfl))
  t0 := Tryz.underlying0
  a0 := Tryz.isAgg0
  z0 := Tryz.sizeOf0
  v0 := Tryz.zeroValue0
  t3 := Tryz.underlying3
  a3 := Tryz.isAgg3
  z3 := Tryz.sizeOf3
  v3 := Tryz.zeroValue3
  t4 := Tryz.underlying4
  a4 := Tryz.isAgg4
  z4 := Tryz.sizeOf4
  v4 := Tryz.zeroValue4
  t22 := Tryz.underlying33
  a22 := Tryz.isAgg33
  z22 := Tryz.sizeOf33
  v22 := Tryz.zeroValue33
  i3 := by kernel_rfl }
def containsI_ren : Go.Shelf.Ren := ⟨fun | 107 => 82 | 108 => 111 | n => n, fun | 28 => 33 | 3 => 3 | 4 => 4 | 0 => 0 | n => n, fun | n => n⟩
theorem containsI : Go.Proofs.Lays.n107 Tryz.prog containsI_ren := {
  mixed := by kernel_rfl
  f107 := Tryz.func82.trans (congrArg some (by kernel_rfl))
  f108 := Tryz.func111.trans (congrArg some (by kernel_rfl))
  t0 := Tryz.underlying0
  a0 := Tryz.isAgg0
  z0 := Tryz.sizeOf0
  v0 := Tryz.zeroValue0
  t3 := Tryz.underlying3
  a3 := Tryz.isAgg3
  z3 := Tryz.sizeOf3
  v3 := Tryz.zeroValue3
  t4 := Tryz.underlying4
  a4 := Tryz.isAgg4
  z4 := Tryz.sizeOf4
  v4 := Tryz.zeroValue4
  t28 := Tryz.underlying33
  a28 := Tryz.isAgg33
  z28 := Tryz.sizeOf33
  v28 := Tryz.zeroValue33 }
def sortL_ren : Go.Shelf.Ren := ⟨fun | 6 => 54 | 15 => 77 | 14 => 78 | 28 => 101 | 29 => 102 | 20 => 103 | 21 => 104 | 22 => 105 | 23 => 106 | 24 => 107 | 25 => 108 | 26 => 109 | 27 => 110 | 46 => 122 | 47 => 118 | 48 => 119 | 49 => 123 | 50 => 124 | 57 => 129 | n => n, fun | 22 => 23 | 24 => 33 | 25 => 86 | 3 => 3 | 39 => 93 | 0 => 0 | 53 => 122 | 55 => 124 | 4 => 4 | 46 => 116 | 45 => 115 | 50 => 77 | 5 => 5 | 9 => 9 | 66 => 131 | 70 => 135 | 76 => 141 | 77 => 142 | n => n, fun | n => n⟩
theorem sortL : Go.Proofs.SlLaysF.n6 Tryz.prog sortL_ren := {
  mixed := by kernel_rfl
  f6 := ⟨Tryz.f54.name, by decide, Tryz.func54.trans (congrArg some (by kernel_rfl))⟩
  f14 := ⟨Tryz.f78.name, by decide, Tryz.func78.trans (congrArg some (by kernel_rfl))⟩
  f15 := Tryz.func77.trans (congrArg some (by kernel_rfl))
  f20 := ⟨Tryz.f103.name, by decide, Tryz.func103.trans (congrArg some (by kernel_rfl))⟩
  f21 := ⟨Tryz.f104.name, by decide, Tryz.func104.trans (congrArg some (by kernel_rfl))⟩
  f22 := ⟨Tryz.f105.name, by decide, Tryz.func105.trans (congrArg some (by kernel_rfl))⟩
  f23 := ⟨Tryz.f106.name, by decide, Tryz.func106.trans (congrArg some (by kernel_rfl))⟩
  f24 := ⟨Tryz.f107.name, by decide, Tryz.func107.trans (congrArg some (by kernel_rfl))⟩
  f25 := ⟨Tryz.f108.name, by decide, Tryz.func108.trans (congrArg some (by kernel_rfl))⟩
  f26 := ⟨Tryz.f109.name, by decide, Tryz.func109.trans (congrArg some (by kernel_rfl))⟩
  f27 := ⟨Tryz.f110.name, by decide, Tryz.func110.trans (congrArg some (by kernel_rfl))⟩
  f28 := Tryz.func101.trans (congrArg some (by kernel_rfl))
  f29 := Tryz.func102.trans (congrArg some (by kernel_rfl))
  f46 := ⟨Tryz.f122.name, by decide, Tryz.func122.trans (congrArg some (by kernel_rfl))⟩
  f47 := Tryz.func118.trans (congrArg some (by kernel_rfl))
  f48 := Tryz.func119.trans (congrArg some (by kernel_rfl))
  f49 := ⟨Tryz.f123.name, by decide, Tryz.func123.trans (congrArg some (by kernel_rfl))⟩
  f50 := ⟨Tryz.f124.name, by decide, Tryz.func124.trans (congrArg some (by kernel_rfl))⟩
  f57 := ⟨Tryz.f129.name, by decide, Tryz.func129.trans (congrArg some (by kernel_rfl))⟩
  t0 := Tryz.underlying0
  a0 := Tryz.isAgg0
  z0 := Tryz.sizeOf0
  v0 := Tryz.zeroValue0
  t3 := Tryz.underlying3
  a3 := Tryz.isAgg3
  z3 := Tryz.sizeOf3
  v3 := Tryz.zeroValue3
  t4 := Tryz.underlying4
  a4 := Tryz.isAgg4
  z4 := Tryz.sizeOf4
  v4 := Tryz.zeroValue4
  t5 := Tryz.underlying5
  a5 := Tryz.isAgg5
  z5 := Tryz.sizeOf5
  v5 := Tryz.zeroValue5
  t9 := Tryz.underlying9
  a9 := Tryz.isAgg9
  z9 := Tryz.sizeOf9
  v9 := Tryz.zeroValue9
  t22 := Tryz.underlying23
  a22 := Tryz.isAgg23
  z22 := Tryz.sizeOf23
  v22 := Tryz.zeroValue23
  a24 := Tryz.isAgg33
  z24 := Tryz.sizeOf33
  t25 := Tryz.underlying86
  a25 := Tryz.isAgg86
  z25 := Tryz.sizeOf86
  v25 := Tryz.zeroValue86
  t39 := Tryz.underlying93
  a39 := Tryz.isAgg93
  z39 := Tryz.sizeOf93
  v39 := Tryz.zeroValue93
  t45 := Tryz.underlying115
  a45 := Tryz.isAgg115
  z45 := Tryz.sizeOf115
  v45 := Tryz.zeroValue115
  t46 := Tryz.underlying116
  a46 := Tryz.isAgg116
  z46 := Tryz.sizeOf116
  v46 := Tryz.zeroValue116
  t50 := Tryz.underlying77
  a50 := Tryz.isAgg77
  z50 := Tryz.sizeOf77
  v50 := Tryz.zeroValue77
  t53 := Tryz.underlying122
  a53 := Tryz.isAgg122
  z53 := Tryz.sizeOf122
  v53 := Tryz.zeroValue122
  t55 := Tryz.underlying124
  a55 := Tryz.isAgg124
  z55 := Tryz.sizeOf124
  v55 := Tryz.zeroValue124
  t66 := Tryz.underlying131
  a66 := Tryz.isAgg131
  z66 := Tryz.sizeOf131
  v66 := Tryz.zeroValue131
  t70 := Tryz.underlying135
  a70 := Tryz.isAgg135
  z70 := Tryz.sizeOf135
  v70 := Tryz.zeroValue135
  t76 := Tryz.underlying141
  a76 := Tryz.isAgg141
  z76 := Tryz.sizeOf141
  v76 := Tryz.zeroValue141
  t77 := Tryz.underlying142
  a77 := Tryz.isAgg142
  z77 := Tryz.sizeOf142
  v77 := Tryz.zeroValue142 }
def delF_ren : Go.Shelf.Ren := ⟨fun | 10 => 83 | 6 => 67 | n => n, fun | 22 => 23 | 23 => 33 | 25 => 42 | 3 => 3 | 4 => 4 | 0 => 0 | n => n, fun | n => n⟩
theorem delF : Go.Proofs.SlLaysH.n10 Tryz.prog delF_ren := {
  mixed := by kernel_rfl
  f6 := ⟨Tryz.f67.name, by decide, Tryz.func67.trans (congrArg some (by kernel_rfl))⟩
  f10 := ⟨Tryz.f83.name, by decide, Tryz.func83.trans (congrArg some (by kernel_rfl))⟩
  t0 := Tryz.underlying0
  a0 := Tryz.isAgg0
  z0 := Tryz.sizeOf0
  v0 := Tryz.zeroValue0
  t3 := Tryz.underlying3
  a3 := Tryz.isAgg3
  z3 := Tryz.sizeOf3
  v3 := Tryz.zeroValue3
  t4 := Tryz.underlying4
  a4 := Tryz.isAgg4
  z4 := Tryz.sizeOf4
  v4 := Tryz.zeroValue4
  t22 := Tryz.underlying23
  a22 := Tryz.isAgg23
  z22 := Tryz.sizeOf23
  v22 := Tryz.zeroValue23
  a23 := Tryz.isAgg33
  z23 := Tryz.sizeOf33
  t25 := Tryz.underlying42
  a25 := Tryz.isAgg42
  z25 := Tryz.sizeOf42
  v25 := Tryz.zeroValue42 }
end Go.Proofs.YtpddamloajpiiaaGreatDoor

/-
What is proved here: the library's sort of numbers in a row of one's own, by a contract.
-/
set_option linter.unusedSimpArgs false
set_option linter.unusedVariables false
namespace Go.Proofs.YtpddamloajpiiaaGreatDoor
open Go.Cmp Go.RowKit Go.Sort Go.Shelf
section
variable {α : Type} [Inhabited α]
theorem heap_put {enc : α → Value} {w : World} {g n : Nat} {os : Array Obj} {cur : Array Value} {e : TypeId} {fr : Nat × Nat} (d : Array α) (hb : w.heap[g]? = some (.cells cur e fr)) :
    (grow (putRow enc (Sort.ahead w n) g 0 d) os).heap[g]? = some (.cells (putCells enc 0 d cur) e fr) := by
  have hg : g < w.heap.size := (Array.getElem?_eq_some_iff.1 hb).1
  rw [heap_grow_old _ _ (by simpa using hg)]
  simp [putRow, mapBlock, Sort.ahead, Array.getElem?_modify, hb, onCells]
theorem but_put {enc : α → Value} {w : World} {g n : Nat} {os : Array Obj} (d : Array α) : But (· = g) w (grow (putRow enc (Sort.ahead w n) g 0 d) os) := by
  refine ⟨rfl, rfl, rfl, by simp, fun k hk hne => ?_⟩
  rw [heap_grow_old _ _ (by simpa using hk)]
  have : g ≠ k := fun e => hne e.symm
  simp [putRow, mapBlock, Sort.ahead, Array.getElem?_modify, this]
theorem take_put (enc : α → Value) (cur : Array Value) (d : Array α) (h : d.size ≤ cur.size) : (putCells enc 0 d cur).toList.take d.size = d.toList.map enc := by
  apply List.ext_getElem?
  intro j
  by_cases hj : j < d.size
  · rw [List.getElem?_take_of_lt hj, Array.getElem?_toList, List.getElem?_map, Array.getElem?_toList, Array.getElem?_eq_getElem hj]
    simp [putCells, hj, show j < cur.size by omega, getElem!_pos d j hj]
  · rw [List.getElem?_take_eq_none (by omega), List.getElem?_eq_none (by simp; omega)]
theorem own_put {enc : α → Value} {w : World} {B g cap n t : Nat} {xs : List Value} {d : Array α} {os : Array Obj} {k : Nat} (h : w.ownsRow B t 1 (.slice (some ⟨g, 0, none⟩) k cap) k xs) (hd : d.size = k) :
    (grow (putRow enc (Sort.ahead w n) g 0 d) os).ownsRow B t 1 (.slice (some ⟨g, 0, none⟩) k cap) k (d.toList.map enc) := by
  rcases h.2 with ⟨h0, _⟩ | ⟨g', cap', cur, hv, hg, hb, hn, hcap, hs, _⟩
  · cases h0
  · injection hv with e1 e2 e3
    injection e1 with e1
    injection e1 with e1
    subst e1 e3
    refine ⟨by simp [hd], .inr ⟨g, cap, _, rfl, hg, heap_put _ hb, hn, hcap, by simp [putCells, hs], ?_⟩⟩
    have := take_put enc cur d (by omega)
    rw [hd] at this
    rw [Nat.mul_one]
    exact this
end
def sortZ (l : List Int) : List Int := l.mergeSort fun x y => decide (x ≤ y)
theorem sortI_any (B : Nat) (A : Option Addr) (C : Nat) (l : List Int) (w : World) (h : OwnI w B (.slice A l.length C) l) (h0 : 0 < l.length) (hl : l.length ≤ 100000) :
    Calls Tryz.prog 53 #[.slice A l.length C] w fun e w' => e = .returned (.tuple #[]) ∧ OwnI w' B (.slice A l.length C) (sortZ l) ∧ But (fun k => some k = (Value.slice A l.length C).ownBlock) w w' := by
  obtain ⟨g, cap, hv, hBg, hgl⟩ := World.ownsRow.form h (by omega)
  injection hv with e1 e2 e3
  subst e1 e3
  have hlen : (sortZ l).length = l.length := by unfold sortZ; exact List.length_mergeSort l
  have hcon := Any.slices_Sort_int sortI g 0 C l w (fun j hj => by
    have hj' : j < l.length := by simpa using hj
    refine ⟨?_, h.frozenAt _⟩
    rw [Nat.zero_add, h.cellAt j (by omega)]
    rw [List.getElem?_map, List.getElem?_eq_getElem hj']
    simp [iV, getElem!_pos l j hj']) hgl (by omega)
  refine (show Calls Tryz.prog 53 _ _ _ from hcon).mono ?_
  rintro e w' ⟨rfl, n, os, rfl⟩
  refine ⟨rfl, ?_, (but_put _).mono (fun k _ hk => by subst hk; rfl)⟩
  have := own_put (enc := Value.int .i64) (n := n) (os := os) (d := (sortZ l).toArray) h (by simp [hlen])
  unfold OwnI
  rw [hlen]
  exact this
end Go.Proofs.YtpddamloajpiiaaGreatDoor

/-
What is proved here: the library's comparison of two lists of numbers, by a contract.
-/
set_option linter.unusedSimpArgs false
set_option linter.unusedVariables false
namespace Go.Cmp
/-- the order of two lists -/
def cmpL : List Int → List Int → Int
  | [], [] => 0
  | [], _ :: _ => -1
  | _ :: _, [] => 1
  | x :: xs, y :: ys => if x < y then -1 else if y < x then 1 else cmpL xs ys
def cmpN (x y : Int) : Int := if x < y then -1 else if y < x then 1 else 0
end Go.Cmp
namespace Go.Proofs.YtpddamloajpiiaaGreatDoor
open Go.Cmp Go.RowKit
theorem nan_any (x : Int) (w : World) : Calls Tryz.prog 91 #[.int .i64 x] w fun e w' => e = .returned (.bool false) ∧ w = w' := by
  go_enter Tryz.func91, Tryz.ntmps91
  go_wp2
  go_ret
  exact ⟨by simp, rfl⟩
set_option maxHeartbeats 1000000 in
theorem cmpN_any (x y : Int) (w : World) : Calls Tryz.prog 79 #[.int .i64 x, .int .i64 y] w fun e w' => e = .returned (.int .i64 (cmpN x y)) ∧ w = w' := by
  have K1 := Lib.hid (nan_any x w)
  have K2 := Lib.hid (nan_any y w)
  rcases (show x < y ∨ (¬ x < y ∧ y < x) ∨ (¬ x < y ∧ ¬ y < x) by omega) with h | ⟨h, h2⟩ | ⟨h, h2⟩
  · have e : cmpN x y = -1 := by unfold cmpN; rw [if_pos h]
    rw [e]
    clear e
    go_enter Tryz.func79, Tryz.ntmps79
    go_wp2_with (first | (go_at_call 91; (with_reducible refine K1.out.mono ?_); rintro e w1 ⟨rfl, rfl⟩) | (go_at_call 91; (with_reducible refine K2.out.mono ?_); rintro e w1 ⟨rfl, rfl⟩))
    go_ret
    exact ⟨rfl, rfl⟩
  · have e : cmpN x y = 1 := by unfold cmpN; rw [if_neg h, if_pos h2]
    rw [e]
    clear e
    go_enter Tryz.func79, Tryz.ntmps79
    go_wp2_with (first | (go_at_call 91; (with_reducible refine K1.out.mono ?_); rintro e w1 ⟨rfl, rfl⟩) | (go_at_call 91; (with_reducible refine K2.out.mono ?_); rintro e w1 ⟨rfl, rfl⟩))
    go_ret
    exact ⟨rfl, rfl⟩
  · have e : cmpN x y = 0 := by unfold cmpN; rw [if_neg h, if_neg h2]
    rw [e]
    clear e
    go_enter Tryz.func79, Tryz.ntmps79
    go_wp2_with (first | (go_at_call 91; (with_reducible refine K1.out.mono ?_); rintro e w1 ⟨rfl, rfl⟩) | (go_at_call 91; (with_reducible refine K2.out.mono ?_); rintro e w1 ⟨rfl, rfl⟩))
    go_ret
    exact ⟨rfl, rfl⟩
theorem cmpL_both {l k : List Int} {i : Nat} (h1 : i < l.length) (h2 : i < k.length) : cmpL (l.drop i) (k.drop i) = if l[i] < k[i] then -1 else if k[i] < l[i] then 1 else cmpL (l.drop (i + 1)) (k.drop (i + 1)) := by
  rw [List.drop_eq_getElem_cons h1, List.drop_eq_getElem_cons h2, cmpL]
theorem cmpL_left {l k : List Int} {i : Nat} (h1 : i < l.length) (h2 : k.length ≤ i) : cmpL (l.drop i) (k.drop i) = 1 := by
  rw [List.drop_eq_getElem_cons h1, List.drop_of_length_le h2, cmpL]
theorem cmpL_right {l k : List Int} {i : Nat} (h1 : l.length ≤ i) (h2 : i < k.length) : cmpL (l.drop i) (k.drop i) = -1 := by
  rw [List.drop_eq_getElem_cons h2, List.drop_of_length_le h1, cmpL]
theorem cmpL_none {l k : List Int} {i : Nat} (h1 : l.length ≤ i) (h2 : k.length ≤ i) : cmpL (l.drop i) (k.drop i) = 0 := by
  rw [List.drop_of_length_le h1, List.drop_of_length_le h2, cmpL]
set_option maxRecDepth 100000 in
set_option maxHeartbeats 4000000 in
theorem cmpL_any (A1 A2 : Option Addr) (c1 c2 : Nat) (l k : List Int) (w : World) (h1 : IntsAt w A1 l) (h2 : IntsAt w A2 k) (hl : l.length ≤ 1000000000) (hk : k.length ≤ 1000000000) :
    Calls Tryz.prog 55 #[.slice A1 l.length c1, .slice A2 k.length c2] w fun e w' => e = .returned (.int .i64 (cmpL l k)) ∧ w = w' := by
  obtain ⟨n, hn⟩ : ∃ n, n = l.length := ⟨_, rfl⟩
  obtain ⟨m, hm⟩ : ∃ m, m = k.length := ⟨_, rfl⟩
  have H1 := Lib.hid h1
  have H2 := Lib.hid h2
  have HN := Lib.hid hn
  have HM := Lib.hid hm
  obtain ⟨r, hr⟩ : ∃ r, r = cmpL l k := ⟨_, rfl⟩
  have HR := Lib.hid hr
  rw [← hn, ← hm, ← hr]
  rw [← hn] at hl
  rw [← hm] at hk
  clear h1 h2 hn hm hr
  go_enter Tryz.func55, Tryz.ntmps55
  go_wp2
  go_loopw [11] (fun v11 wr => ∃ i : Nat, i ≤ n ∧ i ≤ m ∧ v11 = .int .i64 (i : Int) ∧ Hid (r = cmpL (l.drop i) (k.drop i)) ∧ w = wr) (fun v11 _ => n - (intOf v11).toNat)
  case atStart => exact ⟨0, Nat.zero_le _, Nat.zero_le _, rfl, Lib.hid (by have := HR.out; simpa using this), rfl⟩
  case round =>
    obtain ⟨i, hi, hi2, rfl, HC, hw⟩ := hrel
    subst hw
    by_cases hlt : i < n
    · have li : (i : Int) < (n : Int) := by omega
      have hil : i < l.length := by have := HN.out; omega
      obtain ⟨b, o, eA, hb, cA⟩ := H1.out i hil
      by_cases hlm : i < m
      · have lm : (i : Int) < (m : Int) := by omega
        have hik : i < k.length := by have := HM.out; omega
        obtain ⟨b2, o2, eB, hb2, cB⟩ := H2.out i hik
        subst eA eB
        have HB := Lib.hid (cmpL_both hil hik)
        generalize l[i] = x at *
        generalize k[i] = y at *
        have K := Lib.hid (cmpN_any x y w)
        clear hb hb2
        unfold iV at *
        rcases (show x < y ∨ (¬ x < y ∧ y < x) ∨ (¬ x < y ∧ ¬ y < x) by omega) with h | ⟨h, h2⟩ | ⟨h, h2⟩
        · have e : cmpN x y = -1 := by unfold cmpN; rw [if_pos h]
          have er : r = -1 := by rw [HC.out, HB.out, if_pos h]
          rw [e] at K
          have ER := Lib.hid er
          clear e er h
          go_wp2_with (go_at_call 79; (with_reducible refine K.out.mono ?_); rintro e w1 ⟨rfl, rfl⟩)
          go_ret
          exact ⟨by rw [ER.out]; rfl, rfl⟩
        · have e : cmpN x y = 1 := by unfold cmpN; rw [if_neg h, if_pos h2]
          have er : r = 1 := by rw [HC.out, HB.out, if_neg h, if_pos h2]
          rw [e] at K
          have ER := Lib.hid er
          clear e er h h2
          go_wp2_with (go_at_call 79; (with_reducible refine K.out.mono ?_); rintro e w1 ⟨rfl, rfl⟩)
          go_ret
          exact ⟨by rw [ER.out]; rfl, rfl⟩
        · have e : cmpN x y = 0 := by unfold cmpN; rw [if_neg h, if_neg h2]
          have er := Lib.hid (show r = cmpL (l.drop (i + 1)) (k.drop (i + 1)) by rw [HC.out, HB.out, if_neg h, if_neg h2])
          rw [e] at K
          clear e h h2
          go_wp2_with (go_at_call 79; (with_reducible refine K.out.mono ?_); rintro e w1 ⟨rfl, rfl⟩)
          go_roundw
          case rel => exact ⟨i + 1, by omega, by omega, by go_num, er, trivial⟩
          case measure => first | (simp [intOf]; done) | (simp [intOf]; omega)
      · obtain rfl : i = m := by omega
        have lm : ¬ (i : Int) < (i : Int) := by omega
        have er : r = 1 := by rw [HC.out, cmpL_left hil (by have := HM.out; omega)]
        have ER := Lib.hid er
        subst eA
        clear er hb
        unfold iV at *
        go_wp2
        go_ret
        exact ⟨by rw [ER.out]; rfl, rfl⟩
    · obtain rfl : i = n := by omega
      have li : ¬ (i : Int) < (i : Int) := by omega
      by_cases hlm : i < m
      · have lm : (i : Int) < (m : Int) := by omega
        have er : r = -1 := by rw [HC.out, cmpL_right (by have := HN.out; omega) (by have := HM.out; omega)]
        have ER := Lib.hid er
        clear er
        go_wp2
        go_ret
        exact ⟨by rw [ER.out]; rfl, rfl⟩
      · have lm : ¬ (i : Int) < (m : Int) := by omega
        have er : r = 0 := by rw [HC.out, cmpL_none (by have := HN.out; omega) (by have := HM.out; omega)]
        have ER := Lib.hid er
        clear er
        go_wp2
        go_ret
        exact ⟨by rw [ER.out]; rfl, rfl⟩
end Go.Proofs.YtpddamloajpiiaaGreatDoor

/-
What is proved here: what package comp's stack of places does, by contracts.
-/
set_option linter.unusedSimpArgs false
set_option linter.unusedVariables false
namespace Go.Proofs.YtpddamloajpiiaaGreatDoor
open Go.Cmp Go.RowKit
/-- a number, and the slice of those of its that were not looked at -/
structure Ent where
  x : Nat
  A : Option Addr
  r : List Nat
  c : Nat
def Ent.rv (e : Ent) : Value := .slice e.A e.r.length e.c
def Ent.cs (e : Ent) : List Value := [iV e.x, e.rv]
def Ent.pr (e : Ent) : Nat × List Nat := (e.x, e.r)
def wcs (es : List Ent) : List Value := (es.map Ent.cs).flatten
theorem wcs_len (es : List Ent) : (wcs es).length = es.length * 2 := by
  induction es with
  | nil => rfl
  | cons e r ih => simp [wcs, Ent.cs] at ih ⊢; omega
theorem wcs_snoc (es : List Ent) (e : Ent) : wcs (es ++ [e]) = wcs es ++ e.cs := by simp [wcs]
/-- the stack -/
def OwnW (w : World) (B : Nat) (v : Value) (es : List Ent) : Prop := w.ownsRow B 99 2 v es.length (wcs es)
theorem spot_info : (Tryz.prog.info? 99).map (fun i => (i.zero, i.size, i.bytes)) = some (some (.agg #[.int .i64 0, .slice none 0 0]), 2, 32) := by kernel_rfl
/-- what a place put on the stack leaves -/
def PutW (w : World) (B wy : Nat) (vW : Value) (es : List Ent) (e : Ent) (w' : World) : Prop :=
  ∃ v', Lies w' wy 97 #[v'] ∧ OwnW w' B v' (es ++ [e]) ∧ But (fun k => k = wy ∨ some k = vW.ownBlock) w w'
theorem putw_end {w X W w1 : World} {B wy gg cap : Nat} {vW : Value} {es : List Ent} {e : Ent} (hlt : wy < w.heap.size) (hX : w.grownBy X none) (hW : X.grownBy W none) (h1 : W.grownBy w1 vW.ownBlock) (LG : Lies X wy 97 #[vW]) (hne : vW.ownBlock ≠ some wy)
    (own : w1.ownsRow B 99 2 (.slice (some ⟨gg, 0, none⟩) (es.length + 1) cap) (es.length + 1) (wcs es ++ [iV e.x, e.rv])) :
    PutW w B wy vW es e (w1.setCell ⟨wy, 0, none⟩ (.slice (some ⟨gg, 0, none⟩) (es.length + 1) cap)) := by
  have hs := hX.size
  have hs2 := hW.size
  have LW : Lies W wy 97 #[vW] := (hW.block wy (by omega) (by simp)).trans LG
  have L1 : Lies w1 wy 97 #[vW] := (h1.block wy (by omega) (fun x => hne x.symm)).trans LW
  have hgg : gg ≠ wy := fun x => own_ne own L1 (by decide) (by rw [x]; rfl)
  have bX : But (fun k => k = wy ∨ some k = vW.ownBlock) w X := (But.grown hX).mono (fun k _ h => by cases h)
  have bW : But (fun k => k = wy ∨ some k = vW.ownBlock) X W := (But.grown hW).mono (fun k _ h => by cases h)
  have b1 : But (fun k => k = wy ∨ some k = vW.ownBlock) W w1 := (But.grown h1).mono (fun k _ h => .inr h)
  refine ⟨_, lies_set L1 0 _, ?_, ((bX.trans bW).trans b1).setCell (fun _ => .inl rfl) _⟩
  unfold OwnW
  rw [wcs_snoc, List.length_append]
  exact own_but own (P := (· = wy)) ((But.refl (· = wy) w1).setCell (p := ⟨wy, 0, none⟩) (fun _ => rfl) _) (fun k hk x => by injection hk with hk; exact hgg (hk.trans x))
set_option maxRecDepth 100000 in
set_option maxHeartbeats 4000000 in
theorem put_any (B wy : Nat) (vW : Value) (es : List Ent) (e : Ent) (w : World) (hg : Lies w wy 97 #[vW]) (hown : OwnW w B vW es) (hB : B ≤ w.heap.size) (hn : es.length ≤ 100000) :
    Calls Tryz.prog 73 #[.pointer (some ⟨wy, 0, none⟩), .agg #[iV e.x, e.rv]] w fun r w' => r = .returned (.tuple #[]) ∧ PutW w B wy vW es e w' := by
  obtain ⟨i0, hi0, hz0, hz1, hz2⟩ := info_parts spot_info
  have hlt := lies_lt hg
  have hne := own_ne hown hg (by decide)
  obtain ⟨rv, hrv⟩ : ∃ rv, rv = e.rv := ⟨_, rfl⟩
  obtain ⟨xs, hxs⟩ : ∃ xs, xs = wcs es := ⟨_, rfl⟩
  unfold OwnW at hown
  rw [← hxs] at hown
  have LG := lies_alloc hg (.cells #[iV e.x, e.rv] 99)
  have LN := lies_new w 99 #[iV e.x, e.rv]
  have OW := (hown.alloc (.cells #[iV e.x, e.rv] 99)).alloc (.cells #[iV e.x, e.rv] 99)
  have GR : w.grownBy (w.alloc (.cells #[iV e.x, e.rv] 99)) none := World.grownBy_alloc w _ none
  rw [← hrv] at LG LN OW GR ⊢
  have HO1 := Lib.hid (show rv.oneCell' = true by rw [hrv]; rfl)
  have HRV := Lib.hid hrv
  have HXS := Lib.hid hxs
  have g0 := lies_cell LG 0
  have n0 := lies_cell LN 0
  have n1 := lies_cell LN 1
  simp only [List.getElem?_toArray, List.getElem?_cons_zero, List.getElem?_cons_succ] at g0 n0 n1
  have HG := Lib.hid LG
  have HN := Lib.hid LN
  have HI := Lib.hid hi0
  have HZ0 := Lib.hid hz0
  have HZ1 := Lib.hid hz1
  have HZ2 := Lib.hid hz2
  have SZ := Lib.hid (World.size_alloc w (.cells #[iV e.x, rv] 99))
  have GRH := Lib.hid GR
  have OWH := Lib.hid OW
  have HNE := Lib.hid hne
  have HOUT := Lib.hid (fun w' (h : PutW w B wy vW es e w') => h)
  clear LG LN hg hi0 hz0 hz1 hz2 hown hne GR OW hrv hxs
  unfold iV at *
  obtain ⟨n, hnn⟩ : ∃ n, n = es.length := ⟨_, rfl⟩
  rw [← hnn] at hn OWH
  have HN2 := Lib.hid hnn
  clear hnn
  go_enter Tryz.func73, Tryz.ntmps73
  go_upto_region 1 with (fail)
  generalize w.alloc (.cells #[.int .i64 e.x, rv] 99) = X at *
  have GD := Lib.hid (show (X.alloc (.cells #[.int .i64 e.x, rv] 99)).grownBy (X.alloc (.cells #[.int .i64 e.x, rv] 99)).drew none from ⟨rfl, rfl, rfl, Nat.le_refl _, fun _ _ _ => rfl⟩)
  have gd := lies_cell (lies_alloc HG.out (.cells #[.int .i64 e.x, rv] 99)) 0
  simp only [List.getElem?_toArray, List.getElem?_cons_zero] at gd
  go_region_law (first
    | (refine step_append_lies _ (by rfl) _ _ _ (by rfl) B 99 i0 _ 2 32 Tryz.underlying97 HI.out HZ0.out HZ1.out HZ2.out rfl (by omega) vW n xs (by rfl) OWH.out
        ⟨X.heap.size, 0, none⟩ 1 1 [.int .i64 e.x, rv] (by rfl) (by rfl) (World.news_of_block (cs := #[.int .i64 e.x, rv]) (t := 99) (fr := (0, 0)) (heap_alloc_new _ _)) (fun u hu => by
          rcases List.mem_cons.1 hu with rfl | hu
          · rfl
          · obtain rfl := List.mem_singleton.1 hu; exact HO1.out)
        (by omega) (by have : (100001 : Nat) ≤ maxLen := by decide
                       omega) (by omega) (by have := SZ.out; simp; omega) (X.heap.size + 1) (by simp) ?_; intro gg cap w1 hown1 hgrow hat hlt1; have hW := (⟨rfl, rfl, rfl, by simp, fun k hk _ => Below.heap_alloc _ _ _ hk⟩ : X.grownBy (X.alloc (.cells #[.int .i64 e.x, rv] 99)).drew none); have L1 := (hgrow.block wy (by have := SZ.out; simp; omega) (fun x => HNE.out x.symm)).trans (lies_alloc HG.out (.cells #[.int .i64 e.x, rv] 99)); have g1 := lies_cell (w := w1) L1 0; have fz := lies_free (w := w1) L1 0; simp only [List.getElem?_toArray, List.getElem?_cons_zero] at g1; have HE := Lib.hid (putw_end hlt GRH.out hW hgrow HG.out HNE.out (by rw [← HN2.out, ← HXS.out, ← HRV.out]; exact hown1)); clear hown1 hgrow hat hlt1 hW L1))
  all_goals (go_wp2_with fail)
  all_goals exact Go.Great.bodyPost_end0 rfl rfl ⟨rfl, by have := HE.out; rw [← HN2.out] at this; exact this⟩
end Go.Proofs.YtpddamloajpiiaaGreatDoor
