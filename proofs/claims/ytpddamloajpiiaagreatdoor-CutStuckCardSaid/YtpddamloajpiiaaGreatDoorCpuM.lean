/-
What is proved here: what package cut makes of actions and their needs, on lists alone.
-/
import Derived.WalkKit
import Derived.Lib.SlicesCompact
set_option linter.unusedVariables false
namespace Go.Cut
abbrev Tx := List UInt8
/-- an action: what it does, two paths, a mode, a number -/
structure Ac where
  op : Int
  p : Tx
  t : Tx
  mode : Int
  ref : Int
deriving Inhabited, DecidableEq
/-- a list that rises -/
def Rise (l : List Nat) : Prop := l.Pairwise (· < ·)
theorem rise_eq : ∀ {a b : List Nat}, Rise a → Rise b → (∀ x, x ∈ a ↔ x ∈ b) → a = b
  | [], [], _, _, _ => rfl
  | [], y :: b, _, _, h => absurd ((h y).2 (by simp)) (by simp)
  | x :: a, [], _, _, h => absurd ((h x).1 (by simp)) (by simp)
  | x :: a, y :: b, ha, hb, h => by
    have ha' := List.pairwise_cons.1 ha
    have hb' := List.pairwise_cons.1 hb
    have e : x = y := by
      rcases List.mem_cons.1 ((h x).1 (by simp)) with e | e
      · exact e
      · rcases List.mem_cons.1 ((h y).2 (by simp)) with e2 | e2
        · exact e2.symm
        · have := hb'.1 _ e; have := ha'.1 _ e2; omega
    subst e
    rw [rise_eq ha'.2 hb'.2 fun z => ⟨fun hz => ?_, fun hz => ?_⟩]
    · rcases List.mem_cons.1 ((h z).1 (List.mem_cons_of_mem _ hz)) with e | e
      · subst e; exact absurd (ha'.1 _ hz) (Nat.lt_irrefl _)
      · exact e
    · rcases List.mem_cons.1 ((h z).2 (List.mem_cons_of_mem _ hz)) with e | e
      · subst e; exact absurd (hb'.1 _ hz) (Nat.lt_irrefl _)
      · exact e
/-- how many are less -/
def low (l : List Nat) (p : Nat) : Nat := l.countP (· < p)
/-- a number put among those that rise -/
def put (p : Nat) (l : List Nat) : List Nat := if p ∈ l then l else l.take (low l p) ++ p :: l.drop (low l p)
theorem low_split : ∀ {l : List Nat}, Rise l → ∀ p, (∀ x ∈ l.take (low l p), x < p) ∧ (∀ x ∈ l.drop (low l p), p ≤ x)
  | [], _, p => by simp
  | x :: l, h, p => by
    have h' := List.pairwise_cons.1 h
    by_cases hx : x < p
    · have e : low (x :: l) p = low l p + 1 := by simp [low, hx]
      have ih := low_split h'.2 p
      rw [e]
      refine ⟨fun y hy => ?_, ih.2⟩
      rcases List.mem_cons.1 hy with rfl | hy
      · exact hx
      · exact ih.1 y hy
    · have e0 : ∀ y ∈ l, ¬ y < p := fun y hy => by have := h'.1 y hy; omega
      have e : low (x :: l) p = 0 := by
        unfold low
        rw [List.countP_eq_zero]
        intro y hy
        rcases List.mem_cons.1 hy with rfl | hy
        · simpa using hx
        · simpa using e0 y hy
      rw [e]
      refine ⟨fun y hy => by simp at hy, fun y hy => ?_⟩
      rcases List.mem_cons.1 hy with rfl | hy
      · omega
      · have := e0 y hy; omega
theorem mem_put (p : Nat) (l : List Nat) (x : Nat) : x ∈ put p l ↔ x = p ∨ x ∈ l := by
  unfold put
  split
  · rename_i h
    exact ⟨.inr, fun e => e.elim (fun e => e ▸ h) id⟩
  · rw [List.mem_append, List.mem_cons]
    have : x ∈ l ↔ x ∈ l.take (low l p) ∨ x ∈ l.drop (low l p) := by rw [← List.mem_append, List.take_append_drop]
    rw [this]
    constructor <;> (rintro (h | h | h) <;> simp [h])
theorem rise_put {l : List Nat} (h : Rise l) (p : Nat) : Rise (put p l) := by
  unfold put
  split
  · exact h
  · rename_i hp
    have hs := low_split h p
    have h1 : Rise (l.take (low l p)) := List.Pairwise.sublist (List.take_sublist _ _) h
    have h2 : Rise (l.drop (low l p)) := List.Pairwise.sublist (List.drop_sublist _ _) h
    refine List.pairwise_append.2 ⟨h1, List.pairwise_cons.2 ⟨fun x hx => ?_, h2⟩, fun x hx y hy => ?_⟩
    · have := hs.2 x hx
      have : x ≠ p := fun e => hp (e ▸ List.mem_of_mem_drop hx)
      omega
    · have a := hs.1 x hx
      rcases List.mem_cons.1 hy with rfl | hy
      · exact a
      · have := hs.2 y hy; omega
theorem len_put (p : Nat) (l : List Nat) : (put p l).length ≤ l.length + 1 := by
  unfold put
  split
  · omega
  · have := congrArg List.length (List.take_append_drop (low l p) l)
    simp only [List.length_append, List.length_cons] at this ⊢
    omega
/-- a list put in order, each number once -/
def rise (l : List Nat) : List Nat := l.foldl (fun s x => put x s) []
theorem rise_fold : ∀ (l s : List Nat), Rise s → Rise (l.foldl (fun s x => put x s) s) ∧ ∀ x, x ∈ l.foldl (fun s x => put x s) s ↔ x ∈ l ∨ x ∈ s
  | [], s, h => ⟨h, fun x => by simp⟩
  | y :: l, s, h => by
    have ih := rise_fold l (put y s) (rise_put h y)
    refine ⟨ih.1, fun x => (ih.2 x).trans ?_⟩
    rw [mem_put, List.mem_cons]
    constructor
    · rintro (h | h | h)
      · exact .inl (.inr h)
      · exact .inl (.inl h)
      · exact .inr h
    · rintro ((h | h) | h)
      · exact .inr (.inl h)
      · exact .inl h
      · exact .inr (.inr h)
theorem rise_rise (l : List Nat) : Rise (rise l) := (rise_fold l [] .nil).1
theorem mem_rise (l : List Nat) (x : Nat) : x ∈ rise l ↔ x ∈ l := by
  refine ((rise_fold l [] .nil).2 x).trans ⟨fun h => h.elim id (fun h => by cases h), .inl⟩
theorem len_fold : ∀ (l s : List Nat), (l.foldl (fun s x => put x s) s).length ≤ l.length + s.length
  | [], s => by simp
  | y :: l, s => by
    have := len_fold l (put y s)
    have := len_put y s
    simp only [List.foldl_cons, List.length_cons]
    omega
theorem len_rise (l : List Nat) : (rise l).length ≤ l.length := len_fold l []
/-- one number instead of another -/
def inst (of p : Nat) (l : List Nat) : List Nat := if of ∈ l then put p (l.take (low l of) ++ l.drop (low l of + 1)) else l
theorem drop_low {l : List Nat} (h : Rise l) {p : Nat} (hp : p ∈ l) : l[low l p]? = some p ∧ p ∉ l.take (low l p) ++ l.drop (low l p + 1) ∧ Rise (l.take (low l p) ++ l.drop (low l p + 1)) := by
  have hs := low_split h p
  have hl := List.take_append_drop (low l p) l
  have hin : p ∈ l.drop (low l p) := by
    rw [← hl] at hp
    rcases List.mem_append.1 hp with e | e
    · exact absurd (hs.1 p e) (Nat.lt_irrefl _)
    · exact e
  cases e : l.drop (low l p) with
  | nil => rw [e] at hin; cases hin
  | cons y t =>
    have h2 : Rise (y :: t) := e ▸ (List.Pairwise.sublist (List.drop_sublist _ _) h : Rise (l.drop (low l p)))
    have h3 := List.pairwise_cons.1 h2
    have hy : y = p := by
      rw [e] at hin
      rcases List.mem_cons.1 hin with r | r
      · exact r.symm
      · have := h3.1 _ r
        have := hs.2 y (by rw [e]; simp)
        omega
    subst hy
    have ht : l.drop (low l y + 1) = t := by rw [← List.drop_drop, e]; rfl
    rw [ht]
    refine ⟨?_, fun hm => ?_, List.pairwise_append.2 ⟨List.Pairwise.sublist (List.take_sublist _ _) h, h3.2, fun a ha b hb => Nat.lt_trans (hs.1 a ha) (h3.1 b hb)⟩⟩
    · have h0 := List.getElem?_drop (xs := l) (i := low l y) (j := 0)
      rw [e, Nat.add_zero] at h0
      exact h0.symm
    · rcases List.mem_append.1 hm with r | r
      · exact absurd (hs.1 _ r) (Nat.lt_irrefl _)
      · exact absurd (h3.1 _ r) (Nat.lt_irrefl _)
theorem mem_out {l : List Nat} (h : Rise l) {p : Nat} (hp : p ∈ l) (x : Nat) : x ∈ l.take (low l p) ++ l.drop (low l p + 1) ↔ x ∈ l ∧ x ≠ p := by
  have hd := drop_low h hp
  constructor
  · intro hx
    refine ⟨?_, fun e => hd.2.1 (e ▸ hx)⟩
    rcases List.mem_append.1 hx with r | r
    · exact List.mem_of_mem_take r
    · exact List.mem_of_mem_drop r
  · rintro ⟨hx, hne⟩
    rw [← List.take_append_drop (low l p) l] at hx
    rcases List.mem_append.1 hx with r | r
    · exact List.mem_append_left _ r
    · refine List.mem_append_right _ ?_
      obtain ⟨k, hk⟩ := List.getElem?_of_mem r
      rw [List.getElem?_drop] at hk
      cases k with
      | zero => rw [Nat.add_zero, hd.1] at hk; exact absurd (Option.some.inj hk).symm hne
      | succ k => exact List.mem_of_getElem? (i := k) (by rw [List.getElem?_drop, ← hk]; congr 1; omega)
theorem rise_inst {l : List Nat} (h : Rise l) (of p : Nat) : Rise (inst of p l) := by
  unfold inst
  split
  · rename_i ho; exact rise_put (drop_low h ho).2.2 p
  · exact h
theorem mem_inst {l : List Nat} (h : Rise l) (of p x : Nat) : x ∈ inst of p l → x = p ∨ x ∈ l := by
  unfold inst
  split
  · rename_i ho
    intro hx
    rcases (mem_put _ _ _).1 hx with e | e
    · exact .inl e
    · exact .inr ((mem_out h ho x).1 e).1
  · exact .inr
theorem len_inst {l : List Nat} (h : Rise l) (of p : Nat) : (inst of p l).length ≤ l.length := by
  unfold inst
  split
  · rename_i ho
    have hd := (drop_low h ho).1
    have hlt : low l of < l.length := (List.getElem?_eq_some_iff.1 hd).1
    have := len_put p (l.take (low l of) ++ l.drop (low l of + 1))
    simp only [List.length_append, List.length_take, List.length_drop] at this
    omega
  · exact Nat.le_refl _
/-! what slices.Compact leaves of a list in order -/
section
open Go.Lib
theorem comp_up (d : Array Int) (hd : ∀ i j, i ≤ j → j < d.size → d[i]! ≤ d[j]!) : ∀ m, m ≤ d.size → (compactUpTo d m).Pairwise (· < ·) ∧ (∀ x, x ∈ compactUpTo d m ↔ ∃ j, j < m ∧ d[j]! = x)
  | 0, _ => by simp [compactUpTo]
  | m + 1, hm => by
    have ih := comp_up d hd m (by omega)
    rw [compactUpTo_succ]
    by_cases hk : keeps d m = true
    · rw [if_pos hk]
      refine ⟨List.pairwise_append.2 ⟨ih.1, by simp, fun a ha b hb => ?_⟩, fun x => ?_⟩
      · rw [List.mem_singleton] at hb
        subst hb
        obtain ⟨j, hj, rfl⟩ := (ih.2 a).1 ha
        have hne : d[m]! ≠ d[m - 1]! := by
          unfold keeps at hk
          rcases of_decide_eq_true hk with e | e
          · omega
          · exact e
        have h1 := hd j (m - 1) (by omega) (by omega)
        have h2 := hd (m - 1) m (by omega) (by omega)
        omega
      · rw [List.mem_append, ih.2, List.mem_singleton]
        constructor
        · rintro (⟨j, hj, e⟩ | e)
          · exact ⟨j, by omega, e⟩
          · exact ⟨m, by omega, e.symm⟩
        · rintro ⟨j, hj, e⟩
          by_cases h : j = m
          · subst h; exact .inr e.symm
          · exact .inl ⟨j, by omega, e⟩
    · rw [if_neg hk, List.append_nil]
      refine ⟨ih.1, fun x => (ih.2 x).trans ⟨fun ⟨j, hj, e⟩ => ⟨j, by omega, e⟩, fun ⟨j, hj, e⟩ => ?_⟩⟩
      by_cases h : j = m
      · subst h
        have : ¬ (j = 0 ∨ d[j]! ≠ d[j - 1]!) := fun e => hk (by simp [keeps, e])
        have h0 : j ≠ 0 := fun e => this (.inl e)
        have h1 : d[j]! = d[j - 1]! := Classical.byContradiction fun e => this (.inr e)
        exact ⟨j - 1, by omega, by rw [← h1, e]⟩
      · exact ⟨j, by omega, e⟩
theorem up_eq : ∀ {a b : List Int}, a.Pairwise (· < ·) → b.Pairwise (· < ·) → (∀ x, x ∈ a ↔ x ∈ b) → a = b
  | [], [], _, _, _ => rfl
  | [], y :: b, _, _, h => absurd ((h y).2 (by simp)) (by simp)
  | x :: a, [], _, _, h => absurd ((h x).1 (by simp)) (by simp)
  | x :: a, y :: b, ha, hb, h => by
    have ha' := List.pairwise_cons.1 ha
    have hb' := List.pairwise_cons.1 hb
    have e : x = y := by
      rcases List.mem_cons.1 ((h x).1 (by simp)) with e | e
      · exact e
      · rcases List.mem_cons.1 ((h y).2 (by simp)) with e2 | e2
        · exact e2.symm
        · have := hb'.1 _ e; have := ha'.1 _ e2; omega
    subst e
    rw [up_eq ha'.2 hb'.2 fun z => ⟨fun hz => ?_, fun hz => ?_⟩]
    · rcases List.mem_cons.1 ((h z).1 (List.mem_cons_of_mem _ hz)) with e | e
      · subst e; exact absurd (ha'.1 _ hz) (Int.lt_irrefl _)
      · exact e
    · rcases List.mem_cons.1 ((h z).2 (List.mem_cons_of_mem _ hz)) with e | e
      · subst e; exact absurd (hb'.1 _ hz) (Int.lt_irrefl _)
      · exact e
def zl (l : List Nat) : List Int := l.map fun n : Nat => (n : Int)
/-- what rising makes of needs: sorted, then each once -/
theorem compact_rise (l : List Nat) (s : List Int) (hs : s.Pairwise (· ≤ ·)) (hp : s.Perm (zl l)) : compactUpTo s.toArray s.toArray.size = zl (rise l) := by
  have hu := comp_up s.toArray (fun i j hij hj => by
    have hj' : j < s.length := by simpa using hj
    rw [getElem!_pos s.toArray i (by simp; omega), getElem!_pos s.toArray j hj]
    rcases Nat.lt_or_ge i j with h | h
    · simpa using List.pairwise_iff_getElem.1 hs i j (by omega) hj' h
    · obtain rfl : i = j := by omega
      exact Int.le_refl _) _ (Nat.le_refl _)
  refine up_eq hu.1 ?_ fun x => ?_
  · refine List.Pairwise.map _ (fun a b h => ?_) (rise_rise l)
    exact Int.ofNat_lt.2 h
  · rw [hu.2]
    have h1 : (∃ j, j < s.toArray.size ∧ s.toArray[j]! = x) ↔ x ∈ s := by
      constructor
      · rintro ⟨j, hj, rfl⟩
        rw [getElem!_pos s.toArray j hj]
        exact List.getElem_mem (by simpa using hj)
      · intro hx
        obtain ⟨j, hj, rfl⟩ := List.getElem_of_mem hx
        exact ⟨j, by simpa using hj, by rw [getElem!_pos s.toArray j (by simpa using hj)]; simp⟩
    rw [h1, hp.mem_iff]
    unfold zl
    rw [List.mem_map, List.mem_map]
    exact ⟨fun ⟨a, h, e⟩ => ⟨a, (mem_rise l a).2 h, e⟩, fun ⟨a, h, e⟩ => ⟨a, (mem_rise l a).1 h, e⟩⟩
end
/-! a cut, and breaking -/
section
variable (kept : Tx → Bool) (temp : Nat → Tx)
structure Wk where
  acts : List Ac
  needs : List (List Nat)
  cuts : Nat
def movP (a : Ac) : Bool := decide (a.op = 3) && !kept a.p
def takes (to : Tx) (a : Ac) : Bool := (decide (a.op = 4) || decide (a.op = 7) || decide (a.op = 8)) && decide (a.p = to)
def actsS (s : Wk) (i : Nat) : List Ac := s.acts.set i { s.acts.getD i default with t := temp s.cuts } ++ [⟨3, temp s.cuts, (s.acts.getD i default).t, 0, 0⟩]
def needsS (s : Wk) (i : Nat) : List (List Nat) := (s.needs ++ [put i (s.needs.getD i [])]).set i []
def splitP (s : Wk) (i : Nat) : Wk :=
  ⟨actsS temp s i, (List.range (s.acts.length + 1)).map fun k => if takes (s.acts.getD i default).t ((actsS temp s i).getD k default) then inst i s.acts.length ((needsS s i).getD k []) else (needsS s i).getD k [], s.cuts + 1⟩
end
end Go.Cut
