/-
What is proved here: the components of rings of given lengths, one needing the next. On lists alone.
-/
import Derived.Test.YtfgpaffcfkbjlaaPuu
import Derived.Test.YtfgpaffcfkbjlaaStl
set_option linter.unusedSimpArgs false
set_option linter.unusedVariables false
namespace Go.Cmp
open Go.Proofs.Ytfgpaffcfkbjlaa
/-- where ring i begins -/
def fs (l : List Nat) (i : Nat) : Nat := (l.take i).sum
theorem fs_succ {l : List Nat} {i : Nat} (h : i < l.length) : fs l (i + 1) = fs l i + l.getD i 0 := by
  unfold fs
  rw [List.take_succ_eq_append_getElem h, List.sum_append, List.getD_eq_getElem?_getD, List.getElem?_eq_getElem h]
  simp
theorem fs_mono (l : List Nat) : ∀ {i j : Nat}, i ≤ j → j ≤ l.length → fs l i ≤ fs l j := by
  intro i j h
  induction h with
  | refl => intro _; exact Nat.le_refl _
  | step h ih =>
    intro hj
    have := ih (by omega)
    rw [fs_succ (by omega)]
    omega
theorem fs_at (l : List Nat) : ∀ v, v < fs l l.length → ∃ i k, i < l.length ∧ k < l.getD i 0 ∧ v = fs l i + k := by
  have key : ∀ m, m ≤ l.length → ∀ v, v < fs l m → ∃ i k, i < m ∧ k < l.getD i 0 ∧ v = fs l i + k := by
    intro m
    induction m with
    | zero => intro _ v hv; simp [fs] at hv
    | succ m ih =>
      intro hm v hv
      rw [fs_succ (by omega)] at hv
      rcases Nat.lt_or_ge v (fs l m) with h | h
      · obtain ⟨i, k, h1, h2⟩ := ih (by omega) v h
        exact ⟨i, k, by omega, h2⟩
      · exact ⟨m, v - fs l m, by omega, by omega, by omega⟩
  exact key _ (Nat.le_refl _)
/-- what one of a ring of n needs within it -/
def ringAt (at' n k : Nat) : List Nat := if 1 < n then [at' + (k + 1) % n] else []
/-- rings, of which the first j need the next -/
structure Rig (l : List Nat) (j : Nat) (G : Gr) : Prop where
  len : G.length = fs l l.length
  at' : ∀ i k, i < l.length → k < l.getD i 0 → nx G (fs l i + k) = ringAt (fs l i) (l.getD i 0) k ++ (if k = 0 ∧ i < j then [fs l (i + 1)] else [])
theorem fs_same {l : List Nat} {i i' k k' : Nat} (hi : i < l.length) (hi' : i' < l.length) (hk : k < l.getD i 0) (hk' : k' < l.getD i' 0) (h : fs l i + k = fs l i' + k') : i = i' ∧ k = k' := by
  have e : i = i' := by
    rcases Nat.lt_trichotomy i i' with h1 | h1 | h1
    · have := fs_mono l (i := i + 1) (j := i') (by omega) (by omega)
      rw [fs_succ hi] at this; omega
    · exact h1
    · have := fs_mono l (i := i' + 1) (j := i) (by omega) (by omega)
      rw [fs_succ hi'] at this; omega
  subst e
  exact ⟨rfl, by omega⟩
theorem fs_lt {l : List Nat} {i k : Nat} (hi : i < l.length) (hk : k < l.getD i 0) : fs l i + k < fs l l.length := by
  have := fs_mono l (i := i + 1) (j := l.length) (by omega) (Nat.le_refl _)
  rw [fs_succ hi] at this; omega
theorem rig_link {l : List Nat} {j : Nat} {G : Gr} (h : Rig l j G) (hj : j + 1 < l.length) (hp : ∀ i, i < l.length → 0 < l.getD i 0) : Rig l (j + 1) (G.set (fs l j) (nx G (fs l j) ++ [fs l (j + 1)])) := by
  refine ⟨by simp [h.len], fun i k hi hk => ?_⟩
  have hlt : fs l j < G.length := by rw [h.len]; have := fs_lt (l := l) (i := j) (k := 0) (by omega) (hp j (by omega)); omega
  rw [nx_set]
  by_cases e : fs l j = fs l i + k
  · obtain ⟨e1, e2⟩ := fs_same (k := 0) (show j < l.length by omega) hi (hp j (by omega)) hk (by omega)
    subst e1
    subst e2
    have h0 := h.at' j 0 hi hk
    rw [Nat.add_zero] at h0
    rw [if_pos ⟨by omega, by omega⟩, h0, if_neg (by omega), List.append_nil, if_pos ⟨rfl, by omega⟩]
  · rw [if_neg (fun x => e x.1), h.at' i k hi hk]
    congr 1
    by_cases h1 : k = 0 ∧ i < j
    · rw [if_pos h1, if_pos ⟨h1.1, by omega⟩]
    · rw [if_neg h1, if_neg]
      rintro ⟨rfl, h2⟩
      have : i = j := by omega
      subst this
      exact e (by omega)
theorem fs_snoc {l : List Nat} {n i : Nat} (h : i ≤ l.length) : fs (l ++ [n]) i = fs l i := by
  unfold fs
  rw [List.take_append_of_le_length h]
theorem fs_snoc' {l : List Nat} {n : Nat} : fs (l ++ [n]) (l.length + 1) = fs l l.length + n := by
  have := fs_succ (l := l ++ [n]) (i := l.length) (by simp)
  rw [this, fs_snoc (Nat.le_refl _)]
  simp [List.getD_eq_getElem?_getD]
theorem getD_snoc {l : List Nat} {n i : Nat} : (l ++ [n]).getD i 0 = if i < l.length then l.getD i 0 else if i = l.length then n else 0 := by
  rw [List.getD_eq_getElem?_getD, List.getElem?_append]
  by_cases h : i < l.length
  · rw [if_pos h, if_pos h, List.getD_eq_getElem?_getD]
  · rw [if_neg h, if_neg h]
    by_cases e : i = l.length
    · rw [if_pos e, e]; simp
    · rw [if_neg e, List.getElem?_eq_none (by simp; omega)]; rfl
theorem nx_app {G : Gr} {x : List (List Nat)} {v : Nat} : nx (G ++ x) v = if v < G.length then nx G v else nx x (v - G.length) := by
  unfold nx
  rw [List.getD_eq_getElem?_getD, List.getElem?_append]
  split <;> rw [List.getD_eq_getElem?_getD]
theorem rig_nil : Rig [] 0 [] := ⟨rfl, fun i k hi => by cases hi⟩
/-- one ring more -/
theorem rig_snoc {l : List Nat} {G : Gr} (h : Rig l 0 G) (n : Nat) : Rig (l ++ [n]) 0 (G ++ (List.range n).map (ringAt G.length n)) := by
  have hl := h.len
  refine ⟨by rw [List.length_append, hl, List.length_append, List.length_singleton, fs_snoc']; simp, fun i k hi hk => ?_⟩
  rw [if_neg (by omega), List.append_nil, getD_snoc] at *
  have hi' : i < l.length ∨ i = l.length := by simp at hi; omega
  rcases hi' with h1 | h1
  · rw [if_pos h1] at hk ⊢
    rw [fs_snoc (by omega), nx_app, if_pos (by rw [hl]; exact fs_lt h1 hk)]
    have := h.at' i k h1 hk
    rw [if_neg (by omega), List.append_nil] at this
    exact this
  · subst h1
    rw [if_neg (by omega), if_pos rfl] at hk ⊢
    rw [fs_snoc (Nat.le_refl _), ← hl, nx_app, if_neg (by omega), show G.length + k - G.length = k by omega, nx_map, if_pos hk]
/-- all but the last need the next -/
def Rigs (l : List Nat) (G : Gr) : Prop := Rig l (l.length - 1) G ∧ ∀ i, i < l.length → 0 < l.getD i 0
theorem rig_in {l : List Nat} {G : Gr} (h : Rigs l G) {i k v : Nat} (hi : i < l.length) (hk : k < l.getD i 0) (hv : v ∈ nx G (fs l i + k)) : (∃ k', k' < l.getD i 0 ∧ v = fs l i + k') ∨ (i + 1 < l.length ∧ v = fs l (i + 1)) := by
  rw [h.1.at' i k hi hk] at hv
  rcases List.mem_append.1 hv with h1 | h1
  · unfold ringAt at h1
    split at h1
    · exact .inl ⟨_, Nat.mod_lt _ (by omega), List.mem_singleton.1 h1⟩
    · cases h1
  · split at h1
    · exact .inr ⟨by omega, List.mem_singleton.1 h1⟩
    · cases h1
theorem rig_le {l : List Nat} {G : Gr} (h : Rigs l G) {i k v : Nat} (hi : i < l.length) (hk : k < l.getD i 0) (hr : Rch G (fs l i + k) v) : fs l i ≤ v ∧ v < fs l l.length := by
  refine rch_closed (fun x => fs l i ≤ x ∧ x < fs l l.length) (fun x hx y hy => ?_) hr ⟨by omega, fs_lt hi hk⟩
  obtain ⟨i', k', h1, h2, rfl⟩ := fs_at l x hx.2
  have hii : i ≤ i' := by
    rcases Nat.lt_or_ge i' i with h3 | h3
    · have := fs_mono l (i := i' + 1) (j := i) (by omega) (by omega)
      rw [fs_succ h1] at this; omega
    · exact h3
  have hm := fs_mono l hii (by omega)
  rcases rig_in h h1 h2 hy with ⟨k2, h3, rfl⟩ | ⟨h3, rfl⟩
  · exact ⟨by omega, fs_lt h1 h3⟩
  · have := fs_mono l (i := i') (j := i' + 1) (by omega) (by omega)
    refine ⟨by omega, ?_⟩
    have := fs_lt (l := l) (i := i' + 1) (k := 0) h3 (h.2 _ h3)
    omega
theorem rig_up {l : List Nat} {G : Gr} (h : Rigs l G) {i : Nat} (hi : i < l.length) : ∀ (d a : Nat), a + d < l.getD i 0 → Rch G (fs l i + a) (fs l i + (a + d))
  | 0, a, _ => .refl
  | d + 1, a, hd => (rig_up h hi d a (by omega)).step (by
    rw [h.1.at' i (a + d) hi (by omega)]
    refine List.mem_append_left _ ?_
    unfold ringAt
    rw [if_pos (by omega), Nat.mod_eq_of_lt (by omega)]
    simp; omega)
theorem rig_all {l : List Nat} {G : Gr} (h : Rigs l G) {i a b : Nat} (hi : i < l.length) (ha : a < l.getD i 0) (hb : b < l.getD i 0) : Rch G (fs l i + a) (fs l i + b) := by
  have h1 := rig_up h hi (l.getD i 0 - 1 - a) a (by omega)
  have h3 := rig_up h hi b 0 (by omega)
  rw [show a + (l.getD i 0 - 1 - a) = l.getD i 0 - 1 by omega] at h1
  rw [Nat.zero_add, Nat.add_zero] at h3
  have h2 : Rch G (fs l i + (l.getD i 0 - 1)) (fs l i) := by
    by_cases e : l.getD i 0 = 1
    · rw [e]; exact .refl
    · refine .one ?_
      rw [h.1.at' i _ hi (by omega)]
      refine List.mem_append_left _ ?_
      unfold ringAt
      rw [if_pos (by omega), show l.getD i 0 - 1 + 1 = l.getD i 0 by omega, Nat.mod_self]
      simp
  exact (h1.trans h2).trans h3
def blk (l : List Nat) (i : Nat) : List Nat := (List.range (l.getD i 0)).map (fs l i + ·)
theorem blk_mem {l : List Nat} {i v : Nat} : v ∈ blk l i ↔ ∃ k, k < l.getD i 0 ∧ v = fs l i + k := by
  unfold blk
  rw [List.mem_map]
  constructor
  · rintro ⟨k, hk, rfl⟩; exact ⟨k, List.mem_range.1 hk, rfl⟩
  · rintro ⟨k, hk, rfl⟩; exact ⟨k, List.mem_range.2 hk, rfl⟩
theorem blk_head {l : List Nat} {i : Nat} (h : 0 < l.getD i 0) : ∃ t, blk l i = fs l i :: t := by
  unfold blk
  obtain ⟨m, hm⟩ : ∃ m, l.getD i 0 = m + 1 := ⟨l.getD i 0 - 1, by omega⟩
  rw [hm, List.range_succ_eq_map]
  exact ⟨_, rfl⟩
theorem rig_groups {l : List Nat} {G : Gr} (h : Rigs l G) : Groups G ((List.range l.length).map (blk l)) := by
  refine ⟨fun g hg => ?_, fun g hg => ?_, fun v hv => ?_, fun g hg v hv => ?_, ?_, ?_⟩
  · obtain ⟨i, hi, rfl⟩ := List.mem_map.1 hg
    have hi := List.mem_range.1 hi
    refine ⟨fs l i, blk_mem.2 ⟨0, h.2 i hi, rfl⟩, fun v => ?_⟩
    rw [blk_mem]
    constructor
    · rintro ⟨k, hk, rfl⟩
      exact ⟨by have := rig_all h hi (h.2 i hi) hk; exact this, by have := rig_all h hi hk (h.2 i hi); exact this⟩
    · rintro ⟨h1, h2⟩
      have h3 := rig_le h hi (h.2 i hi) (k := 0) h1
      obtain ⟨i', k', hi', hk', rfl⟩ := fs_at l v h3.2
      have h4 := rig_le h hi' hk' h2
      have e : i = i' := by
        rcases Nat.lt_trichotomy i i' with h5 | h5 | h5
        · have := fs_mono l (i := i + 1) (j := i') (by omega) (by omega)
          rw [fs_succ hi] at this
          have := h.2 i hi
          omega
        · exact h5
        · have := fs_mono l (i := i' + 1) (j := i) (by omega) (by omega)
          rw [fs_succ hi'] at this
          omega
      subst e
      exact ⟨k', hk', rfl⟩
  · obtain ⟨i, hi, rfl⟩ := List.mem_map.1 hg
    unfold blk
    rw [List.pairwise_map]
    exact List.pairwise_lt_range.imp (fun h => by omega)
  · rw [h.1.len] at hv
    obtain ⟨i, k, hi, hk, rfl⟩ := fs_at l v hv
    exact ⟨_, List.mem_map.2 ⟨i, List.mem_range.2 hi, rfl⟩, blk_mem.2 ⟨k, hk, rfl⟩⟩
  · obtain ⟨i, hi, rfl⟩ := List.mem_map.1 hg
    obtain ⟨k, hk, rfl⟩ := blk_mem.1 hv
    rw [h.1.len]
    exact fs_lt (List.mem_range.1 hi) hk
  · rw [List.pairwise_map]
    refine List.pairwise_lt_range.imp_of_mem (fun {a b} ha hb hab x y hx hy => ?_)
    have ha := List.mem_range.1 ha
    have hb := List.mem_range.1 hb
    obtain ⟨t, e⟩ := blk_head (h.2 a ha)
    obtain ⟨t', e'⟩ := blk_head (h.2 b hb)
    rw [e] at hx
    rw [e'] at hy
    injection hx with hx
    injection hy with hy
    have := fs_mono l (i := a + 1) (j := b) (by omega) (by omega)
    rw [fs_succ ha] at this
    have := h.2 a ha
    omega
  · rw [List.pairwise_map]
    refine List.pairwise_lt_range.imp_of_mem (fun {a b} ha hb hab v hv hv2 => ?_)
    obtain ⟨k, hk, rfl⟩ := blk_mem.1 hv
    obtain ⟨k', hk', e⟩ := blk_mem.1 hv2
    have := fs_same (List.mem_range.1 ha) (List.mem_range.1 hb) hk hk' e
    omega
theorem nx_blk (l : List Nat) (i : Nat) : nx ((List.range l.length).map (blk l)) i = if i < l.length then blk l i else [] := nx_map _ _
/-- they are told from the last to the first -/
theorem rig_turn {l : List Nat} {G : Gr} (h : Rigs l G) {S T : Gr} {out : List Nat} (hC : Cmps G S T out) : S = (List.range l.length).map (blk l) ∧ out = (List.range l.length).reverse := by
  have hS := groups_eq hC.grp (rig_groups h)
  subst hS
  obtain ⟨op, ha⟩ := hC.ask
  have hlen : ((List.range l.length).map (blk l)).length = l.length := by simp
  have htu := hC.turn
  have hal := hC.all
  have hlt := cmps_lt hC
  rw [hlen] at htu hal
  simp only [hlen] at hlt
  have hask : ∀ i, i + 1 < l.length → i ∈ nx T (i + 1) := fun i hi => by
    rw [ha.mem, hlen]
    refine ⟨by omega, by omega, hi, fs l i, ?_, fs l (i + 1), ?_, ?_⟩
    · rw [nx_blk, if_pos (by omega)]; exact blk_mem.2 ⟨0, h.2 i (by omega), rfl⟩
    · rw [nx_blk, if_pos hi]; exact blk_mem.2 ⟨0, h.2 _ hi, rfl⟩
    · have := h.1.at' i 0 (by omega) (h.2 i (by omega))
      rw [Nat.add_zero] at this
      rw [this]
      refine List.mem_append_right _ ?_
      rw [if_pos ⟨rfl, by omega⟩]; simp
  have hup : ∀ (d : Nat) p n s, out = p ++ n :: s → n + d + 1 < l.length → n + d + 1 ∈ p := by
    intro d
    induction d with
    | zero => intro p n s e hn; exact (htu p n s e).2.2.1 _ (hask n (by omega))
    | succ d ih =>
      intro p n s e hn
      have h1 := ih p n s e (by omega)
      obtain ⟨p', s', e'⟩ := List.append_of_mem h1
      have h2 := (htu p' (n + d + 1) (s' ++ n :: s) (by rw [e, e']; simp)).2.2.1 _ (hask _ (by omega))
      rw [e']
      exact List.mem_append_left _ (by rwa [show n + (d + 1) + 1 = n + d + 1 + 1 by omega])
  refine ⟨rfl, srt_eq (fun a b => b < a) _ _ (fun a _ b _ h1 => by omega) (fun a _ => by omega) ?_ ?_ (fun x => ?_)⟩
  · have key : ∀ p s, out = p ++ s → s.Pairwise (fun a b => b < a) := by
      intro p s
      induction s generalizing p with
      | nil => intro _; exact .nil
      | cons a t ih =>
        intro e
        refine List.pairwise_cons.2 ⟨fun b hb => ?_, ih (p ++ [a]) (by rw [e]; simp)⟩
        have hnd := hC.nd
        rw [e] at hnd
        obtain ⟨_, hnd2, hnd3⟩ := List.nodup_append.1 hnd
        obtain ⟨hna, _⟩ := List.nodup_cons.1 hnd2
        have hab : a ≠ b := fun x => hna (x ▸ hb)
        rcases Nat.lt_or_ge b a with h1 | h1
        · exact h1
        · exfalso
          have hbl : b < l.length := hlt b (by rw [e]; exact List.mem_append_right _ (List.mem_cons_of_mem _ hb))
          have := hup (b - a - 1) p a t e (by omega)
          rw [show a + (b - a - 1) + 1 = b by omega] at this
          exact hnd3 b this b (List.mem_cons_of_mem _ hb) rfl
    exact key [] out rfl
  · rw [List.pairwise_reverse]
    exact List.pairwise_lt_range
  · rw [List.mem_reverse, List.mem_range]
    exact ⟨hlt x, hal x⟩
theorem rig_still {l : List Nat} {G : Gr} (h : Rigs l G) {i : Nat} (hi : i < l.length) : stillP G (blk l i) = decide (l.getD i 0 = 1) := by
  unfold stillP
  have hl : (blk l i).length = l.getD i 0 := by simp [blk]
  rw [hl]
  by_cases e : l.getD i 0 = 1
  · obtain ⟨t, ht⟩ := blk_head (h.2 i hi)
    have hn : ¬ ((fs l i : Int) ∈ zs (nx G (fs l i))) := fun hm => by
      obtain ⟨v, hv, hv2⟩ := List.mem_map.1 hm
      have hv2 : (v : Int) = (fs l i : Int) := hv2
      have h0 := h.1.at' i 0 hi (h.2 i hi)
      rw [Nat.add_zero] at h0
      rw [h0] at hv
      unfold ringAt at hv
      rw [if_neg (by omega), List.nil_append] at hv
      split at hv
      · have := List.mem_singleton.1 hv
        have := fs_succ hi
        omega
      · cases hv
    rw [ht]
    simp [e, hn]
  · simp only [e, decide_false, Bool.false_and]
end Go.Cmp
