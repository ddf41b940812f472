/-
What is proved here: several texts in one (Puu, Puv, Pmo, Pwh, Pre, Pts, Liv, Uni): each says what it is about.
-/
import Derived.Test.YtpddamloajpiiaaGreatDoorMa6
/-
What is proved here: that the components are one list of lists, and which they are of three kinds of needs. On lists alone.
-/
set_option linter.unusedSimpArgs false
set_option linter.unusedVariables false
namespace Go.Cmp
open Go.Proofs.YtpddamloajpiiaaGreatDoor
theorem srt_eq {α : Type} (R : α → α → Prop) : ∀ (l m : List α), (∀ a ∈ l, ∀ b ∈ m, R a b → ¬ R b a) → (∀ a ∈ l, ¬ R a a) → l.Pairwise R → m.Pairwise R → (∀ x, x ∈ l ↔ x ∈ m) → l = m
  | [], [], _, _, _, _, _ => rfl
  | [], b :: m, _, _, _, _, h => by have := (h b).2 (by simp); cases this
  | a :: l, [], _, _, _, _, h => by have := (h a).1 (by simp); cases this
  | a :: l, b :: m, has, hir, h1, h2, h => by
    obtain ⟨p1, p2⟩ := List.pairwise_cons.1 h1
    obtain ⟨q1, q2⟩ := List.pairwise_cons.1 h2
    have hab : a = b := by
      rcases List.mem_cons.1 ((h a).1 (by simp)) with e | e
      · exact e
      · rcases List.mem_cons.1 ((h b).2 (by simp)) with e2 | e2
        · exact e2.symm
        · exact absurd (q1 a e) (has a (by simp) b (by simp) (p1 b e2))
    subst hab
    have hir2 := hir a (by simp)
    congr 1
    refine srt_eq R l m (fun x hx y hy => has x (List.mem_cons_of_mem _ hx) y (List.mem_cons_of_mem _ hy)) (fun x hx => hir x (List.mem_cons_of_mem _ hx)) p2 q2 (fun x => ?_)
    constructor
    · intro hx
      rcases List.mem_cons.1 ((h x).1 (List.mem_cons_of_mem _ hx)) with e | e
      · subst e; exact absurd (p1 x hx) hir2
      · exact e
    · intro hx
      rcases List.mem_cons.1 ((h x).2 (List.mem_cons_of_mem _ hx)) with e | e
      · subst e; exact absurd (q1 x hx) hir2
      · exact e
theorem up_eq {l m : List Nat} (h1 : l.Pairwise (· < ·)) (h2 : m.Pairwise (· < ·)) (h : ∀ x, x ∈ l ↔ x ∈ m) : l = m :=
  srt_eq (· < ·) l m (fun a _ b _ h => by omega) (fun a _ => by omega) h1 h2 h
theorem groups_sub {G : Gr} {S S' : List (List Nat)} (h : Groups G S) (h' : Groups G S') : ∀ g ∈ S, g ∈ S' := fun g hg => by
  obtain ⟨r, hr, hrm⟩ := h.scc g hg
  obtain ⟨g', hg', hr'⟩ := h'.all r (h.lt g hg r hr)
  have : g = g' := up_eq (h.up g hg) (h'.up g' hg') (fun v => by rw [hrm v, scc_all (h'.scc g' hg') hr'])
  rw [this]; exact hg'
theorem groups_eq {G : Gr} {S S' : List (List Nat)} (h : Groups G S) (h' : Groups G S') : S = S' := by
  have hne : ∀ {S : List (List Nat)}, Groups G S → ∀ g ∈ S, ∃ x, g.head? = some x := fun h g hg => by
    obtain ⟨r, hr, _⟩ := h.scc g hg
    cases g with
    | nil => cases hr
    | cons a t => exact ⟨a, rfl⟩
  refine srt_eq _ S S' (fun a ha b hb hab hba => ?_) (fun a ha haa => ?_) h.ord h'.ord (fun g => ⟨groups_sub h h' g, groups_sub h' h g⟩)
  · obtain ⟨x, hx⟩ := hne h a ha
    obtain ⟨y, hy⟩ := hne h' b hb
    have := hab x y hx hy
    have := hba y x hy hx
    omega
  · obtain ⟨x, hx⟩ := hne h a ha
    have := haa x x hx hx
    omega
/-- what is reached stays in a set that is closed -/
theorem rch_closed {G : Gr} (P : Nat → Prop) (hP : ∀ u, P u → ∀ v ∈ nx G u, P v) {u v : Nat} (h : Rch G u v) (hu : P u) : P v := by
  induction h with
  | refl => exact hu
  | step _ hx ih => exact hP _ ih _ hx
/-- one after the other -/
def chain (n : Nat) : Gr := (List.range n).map fun i => if i + 1 < n then [i + 1] else []
theorem nx_map {n : Nat} (f : Nat → List Nat) (i : Nat) : nx ((List.range n).map f) i = if i < n then f i else [] := by
  unfold nx
  rw [List.getD_eq_getElem?_getD, List.getElem?_map]
  by_cases h : i < n
  · rw [if_pos h, List.getElem?_range h]; rfl
  · rw [if_neg h, List.getElem?_eq_none (by simp; omega)]; rfl
theorem nx_chain (n i : Nat) : nx (chain n) i = if i + 1 < n then [i + 1] else [] := by
  unfold chain
  rw [nx_map]
  by_cases h : i < n
  · rw [if_pos h]
  · rw [if_neg h, if_neg (by omega)]
theorem chain_le {n u v : Nat} (h : Rch (chain n) u v) : u ≤ v := rch_closed (fun x => u ≤ x) (fun x hx y hy => by
  rw [nx_chain] at hy
  split at hy
  · obtain rfl := List.mem_singleton.1 hy; omega
  · cases hy) h (Nat.le_refl _)
theorem chain_groups (n : Nat) : Groups (chain n) ((List.range n).map fun i => [i]) := by
  have hl : (chain n).length = n := by simp [chain]
  refine ⟨fun g hg => ?_, fun g hg => ?_, fun v hv => ?_, fun g hg v hv => ?_, ?_, ?_⟩
  · obtain ⟨i, hi, rfl⟩ := List.mem_map.1 hg
    refine ⟨i, by simp, fun v => ?_⟩
    rw [List.mem_singleton]
    constructor
    · rintro rfl; exact ⟨.refl, .refl⟩
    · rintro ⟨a, b⟩
      have := chain_le a
      have := chain_le b
      omega
  · obtain ⟨i, hi, rfl⟩ := List.mem_map.1 hg
    exact List.pairwise_singleton _ _
  · exact ⟨[v], List.mem_map.2 ⟨v, List.mem_range.2 (by omega), rfl⟩, by simp⟩
  · obtain ⟨i, hi, rfl⟩ := List.mem_map.1 hg
    rw [List.mem_singleton.1 hv, hl]
    exact List.mem_range.1 hi
  · rw [List.pairwise_map]
    exact List.pairwise_lt_range.imp (fun h x y hx hy => by injection hx with hx; injection hy with hy; omega)
  · rw [List.pairwise_map]
    exact List.pairwise_lt_range.imp (fun h v hv hv2 => by have := List.mem_singleton.1 hv; have := List.mem_singleton.1 hv2; omega)
theorem nx_single (n i : Nat) : nx ((List.range n).map fun i => [i]) i = if i < n then [i] else [] := nx_map _ i
/-- each is told behind the next one -/
theorem chain_turn {n : Nat} {S T : Gr} {out : List Nat} (h : Cmps (chain n) S T out) (hn : 0 < n) : S = (List.range n).map (fun i => [i]) ∧ (∃ t, out = (n - 1) :: t) ∧ ∃ p, out = p ++ [0] := by
  have hS := groups_eq h.grp (chain_groups n)
  subst hS
  obtain ⟨op, ha⟩ := h.ask
  have hlen : ((List.range n).map fun i => [i]).length = n := by simp
  have htu := h.turn
  have hal := h.all
  rw [hlen] at htu hal
  have hask : ∀ i, i + 1 < n → i ∈ nx T (i + 1) := fun i hi => by
    rw [ha.mem, hlen]
    refine ⟨by omega, by omega, hi, i, ?_, i + 1, ?_, ?_⟩
    · rw [nx_single, if_pos (by omega)]; simp
    · rw [nx_single, if_pos hi]; simp
    · rw [nx_chain, if_pos hi]; simp
  refine ⟨rfl, ?_, ?_⟩
  · cases hout : out with
    | nil => have := hal 0 hn; rw [hout] at this; cases this
    | cons x t =>
      obtain ⟨hx, _, hp, _⟩ := htu [] x t hout
      rcases Nat.lt_or_ge (x + 1) n with h1 | h1
      · have := hp _ (hask x h1); cases this
      · exact ⟨t, by congr 1; omega⟩
  · rcases List.eq_nil_or_concat out with e | ⟨p, y, e⟩
    · have := hal 0 hn; rw [e] at this; cases this
    · rw [List.concat_eq_append] at e
      obtain ⟨hy, hyp, _, _⟩ := htu p y [] e
      rcases Nat.eq_zero_or_pos y with h0 | h0
      · exact ⟨p, by rw [e, h0]⟩
      · have h1 := hal (y - 1) (by omega)
        obtain ⟨p', s', e'⟩ := List.append_of_mem h1
        have h2 := (htu p' (y - 1) s' e').2.2.1 y (by have := hask (y - 1) (by omega); rwa [show y - 1 + 1 = y by omega] at this)
        exfalso
        have hnd := h.nd
        rcases List.eq_nil_or_concat s' with e2 | ⟨s2, z, e2⟩
        · rw [e2, e] at e'
          obtain ⟨_, e3⟩ := List.append_inj' e' rfl
          injection e3 with e3
          omega
        · rw [List.concat_eq_append] at e2
          rw [e2, e, ← List.cons_append, ← List.append_assoc] at e'
          obtain ⟨e3, e4⟩ := List.append_inj' e' rfl
          rw [e3] at hyp
          exact hyp (List.mem_append_left _ h2)
/-- all in one round -/
def ring (n : Nat) : Gr := (List.range n).map fun i => if i + 1 < n then [i + 1] else [0]
theorem nx_ring (n i : Nat) (h : i < n) : nx (ring n) i = if i + 1 < n then [i + 1] else [0] := by
  unfold ring
  rw [nx_map, if_pos h]
theorem ring_to {n : Nat} : ∀ (k u : Nat), u + k < n → Rch (ring n) u (u + k)
  | 0, u, _ => .refl
  | k + 1, u, h => (ring_to k u (by omega)).step (by rw [nx_ring n _ (by omega), if_pos (by omega)]; simp; omega)
theorem ring_all {n u v : Nat} (hu : u < n) (hv : v < n) : Rch (ring n) u v := by
  have h1 : Rch (ring n) u (n - 1) := by have := ring_to (n := n) (n - 1 - u) u (by omega); rwa [show u + (n - 1 - u) = n - 1 by omega] at this
  have h2 : Rch (ring n) (n - 1) 0 := .one (by rw [nx_ring n _ (by omega), if_neg (by omega)]; simp)
  have h3 : Rch (ring n) 0 v := by have := ring_to (n := n) v 0 (by omega); rwa [Nat.zero_add] at this
  exact (h1.trans h2).trans h3
theorem ring_lt {n u v : Nat} (hu : u < n) (h : Rch (ring n) u v) : v < n := rch_closed (fun x => x < n) (fun x hx y hy => by
  rw [nx_ring n x hx] at hy
  split at hy
  · obtain rfl := List.mem_singleton.1 hy; assumption
  · obtain rfl := List.mem_singleton.1 hy; omega) h hu
theorem ring_groups {n : Nat} (hn : 0 < n) : Groups (ring n) [List.range n] := by
  have hl : (ring n).length = n := by simp [ring]
  refine ⟨fun g hg => ?_, fun g hg => ?_, fun v hv => ⟨List.range n, by simp, List.mem_range.2 (by omega)⟩, fun g hg v hv => ?_, List.pairwise_singleton _ _, List.pairwise_singleton _ _⟩
  · obtain rfl := List.mem_singleton.1 hg
    refine ⟨0, List.mem_range.2 hn, fun v => ?_⟩
    rw [List.mem_range]
    exact ⟨fun h => ⟨ring_all hn h, ring_all h hn⟩, fun h => ring_lt hn h.1⟩
  · obtain rfl := List.mem_singleton.1 hg
    exact List.pairwise_lt_range
  · obtain rfl := List.mem_singleton.1 hg
    rw [hl]; exact List.mem_range.1 hv
/-- the needs that tell whether answers are fixed -/
def liv : Gr := [[1], [0], [0]]
theorem liv_groups : Groups liv [[0, 1], [2]] := by
  have h01 : Rch liv 0 1 := .one (by decide)
  have h10 : Rch liv 1 0 := .one (by decide)
  have cl : ∀ {v}, Rch liv 0 v → v < 2 := fun {v} h => rch_closed (fun x => x < 2) (fun x hx y hy => by
    rcases (show x = 0 ∨ x = 1 by omega) with rfl | rfl
    · have : y = 1 := by simpa [liv, nx] using hy
      omega
    · have : y = 0 := by simpa [liv, nx] using hy
      omega) h (by omega)
  have cl3 : ∀ {v}, Rch liv 2 v → v < 3 := fun {v} h => rch_closed (fun x => x < 3) (fun x hx y hy => by
    rcases (show x = 0 ∨ x = 1 ∨ x = 2 by omega) with rfl | rfl | rfl
    · have : y = 1 := by simpa [liv, nx] using hy
      omega
    · have : y = 0 := by simpa [liv, nx] using hy
      omega
    · have : y = 0 := by simpa [liv, nx] using hy
      omega) h (by omega)
  refine ⟨fun g hg => ?_, fun g hg => ?_, fun v hv => ?_, fun g hg v hv => ?_, ?_, ?_⟩
  · rcases List.mem_cons.1 hg with rfl | hg
    · refine ⟨0, by simp, fun v => ⟨fun hv => ?_, fun h => ?_⟩⟩
      · rcases List.mem_cons.1 hv with rfl | hv
        · exact ⟨.refl, .refl⟩
        · obtain rfl := List.mem_singleton.1 hv; exact ⟨h01, h10⟩
      · have := cl h.1
        rcases (show v = 0 ∨ v = 1 by omega) with rfl | rfl <;> simp
    · obtain rfl := List.mem_singleton.1 hg
      refine ⟨2, by simp, fun v => ⟨fun hv => ?_, fun h => ?_⟩⟩
      · obtain rfl := List.mem_singleton.1 hv; exact ⟨.refl, .refl⟩
      · have := cl3 h.1
        rcases (show v = 0 ∨ v = 1 ∨ v = 2 by omega) with rfl | rfl | rfl
        · have := cl h.2; omega
        · have := cl (h01.trans h.2); omega
        · simp
  · rcases List.mem_cons.1 hg with rfl | hg
    · simp
    · obtain rfl := List.mem_singleton.1 hg; simp
  · have : v = 0 ∨ v = 1 ∨ v = 2 := by simp [liv] at hv; omega
    rcases this with rfl | rfl | rfl
    · exact ⟨[0, 1], by simp, by simp⟩
    · exact ⟨[0, 1], by simp, by simp⟩
    · exact ⟨[2], by simp, by simp⟩
  · have : v < 3 := by
      rcases List.mem_cons.1 hg with rfl | hg
      · rcases List.mem_cons.1 hv with rfl | hv
        · omega
        · have := List.mem_singleton.1 hv; omega
      · obtain rfl := List.mem_singleton.1 hg
        have := List.mem_singleton.1 hv; omega
    simpa [liv] using this
  · simp
  · simp
theorem liv_turn {S T : Gr} {out : List Nat} (h : Cmps liv S T out) : S = [[0, 1], [2]] ∧ out = [0, 1] := by
  have hS := groups_eq h.grp liv_groups
  subst hS
  obtain ⟨op, ha⟩ := h.ask
  have hask : 1 ∈ nx T 0 := by
    rw [ha.mem]
    exact ⟨by omega, by simp, by simp, 2, by simp [nx], 0, by simp [nx], by simp [nx, liv]⟩
  have hlen := cmps_len h
  refine ⟨rfl, ?_⟩
  match out, hlen, h with
  | [a, b], _, h =>
    have ha2 := cmps_lt h a (by simp)
    have hb2 := cmps_lt h b (by simp)
    have hnd := h.nd
    simp at ha2 hb2 hnd
    have : a ≠ 1 := fun e => by
      have := (h.turn [] a [b] rfl).2.2.1 0 (by rw [e]; exact hask)
      cases this
    have e1 : a = 0 := by omega
    have e2 : b = 1 := by omega
    rw [e1, e2]
end Go.Cmp

/-
What is proved here: that components are told in one order only; and that needs named twice, or of oneself, turn none of it. On lists alone.
-/
set_option linter.unusedSimpArgs false
set_option linter.unusedVariables false
namespace Go.Cmp
open Go.Proofs.YtpddamloajpiiaaGreatDoor
theorem turn_uniq {T T' : Gr} {K : Nat} (hT : ∀ h g, g ∈ nx T h ↔ g ∈ nx T' h) {out out' : List Nat} (h : InTurn T K out) (h' : InTurn T' K out') (hl : out.length = out'.length) : out = out' := by
  have key : ∀ k, k ≤ out.length → out.take k = out'.take k := by
    intro k
    induction k with
    | zero => intro _; simp
    | succ k ih =>
      intro hk
      have e := ih (by omega)
      have k1 : k < out.length := by omega
      have k2 : k < out'.length := by omega
      have d1 : out = out.take k ++ out[k] :: out.drop (k + 1) := by rw [List.getElem_cons_drop, List.take_append_drop]
      have d2 : out' = out.take k ++ out'[k] :: out'.drop (k + 1) := by rw [e, List.getElem_cons_drop, List.take_append_drop]
      obtain ⟨a1, a2, a3, a4⟩ := h _ _ _ d1
      obtain ⟨b1, b2, b3, b4⟩ := h' _ _ _ d2
      have c1 := a4 _ b1 b2 (fun x hx => b3 x ((hT x _).1 hx))
      have c2 := b4 _ a1 a2 (fun x hx => a3 x ((hT x _).2 hx))
      rw [List.take_succ_eq_append_getElem k1, List.take_succ_eq_append_getElem k2, e]
      congr 2
      omega
  have := key out.length (Nat.le_refl _)
  rwa [List.take_length, hl, List.take_length] at this
/-- needs of the same numbers, but for those of oneself -/
def Alike (G G' : Gr) : Prop := G'.length = G.length ∧ ∀ u v, u ≠ v → (v ∈ nx G u ↔ v ∈ nx G' u)
theorem alike_rch {G G' : Gr} (h : Alike G G') {u v : Nat} (k : Rch G u v) : Rch G' u v := by
  induction k with
  | refl => exact .refl
  | @step a b _ hx ih =>
    by_cases e : a = b
    · subst e; exact ih
    · exact ih.step ((h.2 a b e).1 hx)
theorem alike_symm {G G' : Gr} (h : Alike G G') : Alike G' G := ⟨h.1.symm, fun u v e => (h.2 u v e).symm⟩
theorem alike_groups {G G' : Gr} (h : Alike G G') {S : List (List Nat)} (k : Groups G S) : Groups G' S := by
  refine ⟨fun g hg => ?_, k.up, fun v hv => k.all v (by rw [← h.1]; exact hv), fun g hg v hv => by rw [h.1]; exact k.lt g hg v hv, k.ord, k.dis⟩
  obtain ⟨r, hr, hm⟩ := k.scc g hg
  refine ⟨r, hr, fun v => ?_⟩
  rw [hm v]
  exact ⟨fun x => ⟨alike_rch h x.1, alike_rch h x.2⟩, fun x => ⟨alike_rch (alike_symm h) x.1, alike_rch (alike_symm h) x.2⟩⟩
/-- the same components, in the same order -/
theorem alike_same {G G' : Gr} (h : Alike G G') {S S' T T' : List (List Nat)} {out out' : List Nat} (k : Cmps G S T out) (k' : Cmps G' S' T' out') : S = S' ∧ out = out' := by
  have hS : S = S' := groups_eq (alike_groups h k.grp) k'.grp
  subst hS
  obtain ⟨op, a⟩ := k.ask
  obtain ⟨op', a'⟩ := k'.ask
  refine ⟨rfl, turn_uniq (fun x g => ?_) k.turn k'.turn (by rw [cmps_len k, cmps_len k'])⟩
  rw [a.mem, a'.mem]
  constructor
  · rintro ⟨h1, h2, h3, u, hu, v, hv, huv⟩
    exact ⟨h1, h2, h3, u, hu, v, hv, (h.2 u v (fun e => by subst e; exact h1 (groups_ne k.grp hu hv))).1 huv⟩
  · rintro ⟨h1, h2, h3, u, hu, v, hv, huv⟩
    exact ⟨h1, h2, h3, u, hu, v, hv, (h.2 u v (fun e => by subst e; exact h1 (groups_ne k.grp hu hv))).2 huv⟩
end Go.Cmp

/-
What is proved here: needs that stand twice, and one that needs itself: the same components; it goes round then. On lists alone.
-/
set_option linter.unusedSimpArgs false
set_option linter.unusedVariables false
namespace Go.Proofs.YtpddamloajpiiaaGreatDoor
open Go.Cmp Go.RowKit
/-- each list twice, and k behind that of k -/
def twin (G : Gr) (k i : Nat) : List Nat := nx G i ++ nx G i ++ if i = k then [k] else []
def twins (G : Gr) (k i : Nat) : Gr := (List.range i).map (twin G k)
theorem twins_succ (G : Gr) (k i : Nat) : twins G k (i + 1) = twins G k i ++ [twin G k i] := by
  unfold twins
  rw [List.range_succ, List.map_append]
  rfl
theorem twins_len (G : Gr) (k i : Nat) : (twins G k i).length = i := by simp [twins]
theorem nx_twins {G : Gr} {k u : Nat} (h : u < G.length) : nx (twins G k G.length) u = twin G k u := by
  unfold nx twins
  rw [List.getD_eq_getElem?_getD, List.getElem?_map, List.getElem?_range h]
  rfl
theorem nx_over {G : Gr} {u : Nat} (h : G.length ≤ u) : nx G u = [] := by
  unfold nx; rw [List.getD_eq_getElem?_getD, List.getElem?_eq_none h]; rfl
theorem twins_alike (G : Gr) (k : Nat) : Go.Cmp.Alike G (twins G k G.length) := by
  refine ⟨twins_len _ _ _, fun u v hne => ?_⟩
  rcases Nat.lt_or_ge u G.length with h | h
  · rw [nx_twins h]
    unfold twin
    by_cases e : u = k
    · rw [if_pos e]
      constructor
      · intro h1; exact List.mem_append_left _ (List.mem_append_left _ h1)
      · intro h1
        rcases List.mem_append.1 h1 with h2 | h2
        · rcases List.mem_append.1 h2 with h3 | h3 <;> exact h3
        · exact absurd ((List.mem_singleton.1 h2).trans e.symm).symm hne
    · rw [if_neg e, List.append_nil]
      constructor
      · intro h1; exact List.mem_append_left _ h1
      · intro h1; rcases List.mem_append.1 h1 with h3 | h3 <;> exact h3
  · rw [nx_over h, nx_over (by rw [twins_len]; exact h)]
theorem twins_ok {G : Gr} (hG : Ok G) {k : Nat} (hk : k < G.length) : Ok (twins G k G.length) := fun l hl v hv => by
  rw [twins_len]
  obtain ⟨i, hi, rfl⟩ := List.mem_map.1 hl
  unfold twin at hv
  rcases List.mem_append.1 hv with h2 | h2
  · rcases List.mem_append.1 h2 with h3 | h3 <;> exact (nx_lt hG h3).1
  · split at h2
    · rw [List.mem_singleton.1 h2]; exact hk
    · cases h2
theorem twin_len {G : Gr} {k i : Nat} (h : (nx G i).length ≤ 500) : (twin G k i).length ≤ 1001 := by
  unfold twin
  rw [List.length_append, List.length_append]
  have : (if i = k then [k] else ([] : List Nat)).length ≤ 1 := by split <;> simp
  omega
theorem twins_sm {G : Gr} {k : Nat} (h : ∀ i, i < G.length → (nx G i).length ≤ 500) : ∀ l ∈ twins G k G.length, l.length ≤ 1024 := fun l hl => by
  obtain ⟨i, hi, rfl⟩ := List.mem_map.1 hl
  have := twin_len (k := k) (h i (List.mem_range.1 hi))
  omega
theorem twins_round {G : Gr} {k : Nat} (hk : k < G.length) {S : Gr} (h : Groups (twins G k G.length) S) : ∃ g ∈ S, k ∈ g ∧ stillP (twins G k G.length) g = false := by
  obtain ⟨g, hg, hkg⟩ := h.all k (by rw [twins_len]; exact hk)
  refine ⟨g, hg, hkg, ?_⟩
  unfold stillP
  by_cases h1 : g.length = 1
  · obtain ⟨a, rfl⟩ := List.length_eq_one_iff.1 h1
    obtain rfl := List.mem_singleton.1 hkg
    have : (zs (nx (twins G k G.length) k)).contains (k : Int) = true := by
      rw [List.contains_iff_mem, nx_twins hk]
      exact List.mem_map.2 ⟨k, by unfold twin; rw [if_pos rfl]; simp, rfl⟩
    show (decide ([k].length = 1) && !(zs (nx (twins G k G.length) k)).contains (k : Int)) = false
    rw [this]; rfl
  · simp [h1]
/-- needs that check takes are numbers -/
theorem zg_of {N : List (List Int)} (h : chk N = 0) : ∃ G : Gr, N = zg G ∧ Ok G ∧ G.length ≤ 1024 ∧ ∀ l ∈ G, l.length ≤ 1024 := by
  unfold chk at h
  split at h
  · cases h
  · rename_i h1
    split at h
    · cases h
    · rename_i h2
      have hl : N.length ≤ 1024 := by
        rcases Nat.lt_or_ge 1024 N.length with h3 | h3
        · exact absurd (.inl h3) h1
        · exact h3
      have hs : ∀ l ∈ N, l.length ≤ 1024 := fun l hl => by
        rcases Nat.lt_or_ge 1024 l.length with h3 | h3
        · exact absurd (.inr (List.any_eq_true.2 ⟨l, hl, decide_eq_true h3⟩)) h1
        · exact h3
      have hb : ∀ l ∈ N, ∀ z ∈ l, 0 ≤ z ∧ z < (N.length : Int) := fun l hl z hz => by
        have h4 : noneP N.length z = false := by
          rw [Bool.eq_false_iff]
          intro h5
          exact h2 (List.any_eq_true.2 ⟨l, hl, List.any_eq_true.2 ⟨z, hz, h5⟩⟩)
        unfold noneP at h4
        rw [Bool.or_eq_false_iff] at h4
        have a := of_decide_eq_false h4.1
        have b := of_decide_eq_false h4.2
        omega
      have e : N = zg (N.map fun l => l.map Int.toNat) := by
        unfold zg zs
        rw [List.map_map]
        refine (List.map_id N).symm.trans (List.map_congr_left fun l hl => ?_)
        show l = (l.map Int.toNat).map fun n : Nat => (n : Int)
        rw [List.map_map]
        refine (List.map_id l).symm.trans (List.map_congr_left fun z hz => ?_)
        have := hb l hl z hz
        show z = ((z.toNat : Nat) : Int)
        omega
      refine ⟨N.map fun l => l.map Int.toNat, e, fun l hl v hv => ?_, by simpa using hl, fun l hl => ?_⟩
      · obtain ⟨l', hl', rfl⟩ := List.mem_map.1 hl
        obtain ⟨z, hz, rfl⟩ := List.mem_map.1 hv
        have := hb l' hl' z hz
        rw [List.length_map]
        omega
      · obtain ⟨l', hl', rfl⟩ := List.mem_map.1 hl
        rw [List.length_map]
        exact hs l' hl'
end Go.Proofs.YtpddamloajpiiaaGreatDoor

/-
What is proved here: of components told in turn: each number stands in one of them, none is ahead of what it needs, and its numbers reach one another. On lists alone.
-/
set_option linter.unusedSimpArgs false
set_option linter.unusedVariables false
namespace Go.Proofs.YtpddamloajpiiaaGreatDoor
open Go.Cmp Go.RowKit
/-- the components as they are told -/
def toldL (S : List (List Nat)) (out : List Nat) : List (List Nat) := out.map fun k => nx S k
theorem told_at {S : List (List Nat)} {out : List Nat} {i : Nat} (h : i < out.length) : nx (toldL S out) i = nx S out[i] := by
  unfold toldL nx
  rw [List.getD_eq_getElem?_getD, List.getElem?_map, List.getElem?_eq_getElem h]
  rfl
theorem told_pos {S : List (List Nat)} {out : List Nat} {i v : Nat} (h : v ∈ nx (toldL S out) i) : i < out.length := by
  have := nx_pos h
  simpa [toldL] using this
/-- what is told in turn -/
structure Wl (G L : List (List Nat)) : Prop where
  up : ∀ i, (nx L i).Pairwise (· < ·)
  lt : ∀ i v, v ∈ nx L i → v < G.length
  all : ∀ v, v < G.length → ∃ i, v ∈ nx L i
  one : ∀ i j v, v ∈ nx L i → v ∈ nx L j → i = j
  ord : ∀ i j u v, u ∈ nx L i → v ∈ nx L j → v ∈ nx G u → j ≤ i
  rch : ∀ i u v, u ∈ nx L i → (v ∈ nx L i ↔ Rch G u v ∧ Rch G v u)
  sm : (L.map List.length).sum = G.length
  ne : ∀ i, i < L.length → nx L i ≠ []
theorem nd_idx {l : List Nat} (h : l.Nodup) {i j : Nat} (hi : i < l.length) (hj : j < l.length) (e : l[i] = l[j]) : i = j := (List.getElem_inj h).1 e
theorem grp_one {G S : List (List Nat)} (h : Groups G S) {a b v : Nat} (ha : v ∈ nx S a) (hb : v ∈ nx S b) : a = b := by
  have h1 := nx_pos ha
  have h2 := nx_pos hb
  have e1 : nx S a = S[a] := by unfold nx; rw [List.getD_eq_getElem?_getD, List.getElem?_eq_getElem h1]; rfl
  have e2 : nx S b = S[b] := by unfold nx; rw [List.getD_eq_getElem?_getD, List.getElem?_eq_getElem h2]; rfl
  rw [e1] at ha
  rw [e2] at hb
  have hp := List.pairwise_iff_getElem.1 h.dis
  rcases Nat.lt_trichotomy a b with h3 | h3 | h3
  · exact absurd hb (hp a b h1 h2 h3 v ha)
  · exact h3
  · exact absurd ha (hp b a h2 h1 h3 v hb)
theorem sum_flat (L : List (List Nat)) : L.flatten.length = (L.map List.length).sum := List.length_flatten
theorem wl_of {G S T : List (List Nat)} {out : List Nat} (h : Cmps G S T out) : Wl G (toldL S out) := by
  have hlen := cmps_len h
  have hlt := cmps_lt h
  obtain ⟨op, hA⟩ := h.ask
  have hin : ∀ i (hi : i < out.length), nx S out[i] ∈ S := fun i hi => nx_mem (hlt _ (List.getElem_mem hi))
  have one : ∀ i j v, v ∈ nx (toldL S out) i → v ∈ nx (toldL S out) j → i = j := fun i j v hi hj => by
    have h1 := told_pos hi
    have h2 := told_pos hj
    rw [told_at h1] at hi
    rw [told_at h2] at hj
    exact nd_idx h.nd h1 h2 (grp_one h.grp hi hj)
  have up : ∀ i, (nx (toldL S out) i).Pairwise (· < ·) := fun i => by
    rcases Nat.lt_or_ge i out.length with h1 | h1
    · rw [told_at h1]; exact h.grp.up _ (hin i h1)
    · have : nx (toldL S out) i = [] := by unfold nx; rw [List.getD_eq_getElem?_getD, List.getElem?_eq_none (by simpa [toldL] using h1)]; rfl
      rw [this]; exact .nil
  have lt : ∀ i v, v ∈ nx (toldL S out) i → v < G.length := fun i v hv => by
    have h1 := told_pos hv
    rw [told_at h1] at hv
    exact h.grp.lt _ (hin i h1) v hv
  have all : ∀ v, v < G.length → ∃ i, v ∈ nx (toldL S out) i := fun v hv => by
    obtain ⟨g, hg, hvg⟩ := h.grp.all v hv
    obtain ⟨k, hk, rfl⟩ := List.getElem_of_mem hg
    obtain ⟨i, hi, e⟩ := List.getElem_of_mem (h.all k hk)
    refine ⟨i, ?_⟩
    rw [told_at hi, e]
    unfold nx
    rw [List.getD_eq_getElem?_getD, List.getElem?_eq_getElem hk]
    exact hvg
  have mem : ∀ v, v ∈ (toldL S out).flatten ↔ v < G.length := fun v => by
    constructor
    · intro hv
      obtain ⟨g, hg, hvg⟩ := List.mem_flatten.1 hv
      obtain ⟨i, hi, rfl⟩ := List.getElem_of_mem hg
      refine lt i v ?_
      unfold nx
      rw [List.getD_eq_getElem?_getD, List.getElem?_eq_getElem hi]
      exact hvg
    · intro hv
      obtain ⟨i, hi⟩ := all v hv
      have := nx_pos hi
      exact List.mem_flatten.2 ⟨_, nx_mem this, hi⟩
  have nd : (toldL S out).flatten.Nodup := by
    unfold List.Nodup
    rw [List.pairwise_flatten]
    refine ⟨fun g hg => ?_, List.pairwise_iff_getElem.2 fun i j hi hj hij x hx y hy e => ?_⟩
    · obtain ⟨i, hi, rfl⟩ := List.getElem_of_mem hg
      have := up i
      unfold nx at this
      rw [List.getD_eq_getElem?_getD, List.getElem?_eq_getElem hi] at this
      exact (show ((toldL S out)[i]).Pairwise (· < ·) from this).imp (fun {a b} h => Nat.ne_of_lt h)
    · subst e
      have e1 : x ∈ nx (toldL S out) i := by unfold nx; rw [List.getD_eq_getElem?_getD, List.getElem?_eq_getElem hi]; exact hx
      have e2 : x ∈ nx (toldL S out) j := by unfold nx; rw [List.getD_eq_getElem?_getD, List.getElem?_eq_getElem hj]; exact hy
      have := one i j x e1 e2
      omega
  refine ⟨up, lt, all, one, fun i j u v hu hv huv => ?_, fun i u v hu => ?_, ?_, fun i hi e => ?_⟩
  · have h1 := told_pos hu
    have h2 := told_pos hv
    rw [told_at h1] at hu
    rw [told_at h2] at hv
    by_cases e : out[i] = out[j]
    · have := nd_idx h.nd h1 h2 e; omega
    · have hm : out[i] ∈ nx T out[j] := (hA.mem _ _).2 ⟨e, hlt _ (List.getElem_mem h1), hlt _ (List.getElem_mem h2), u, hu, v, hv, huv⟩
      have hs : out = out.take i ++ out[i] :: out.drop (i + 1) := by
        rw [← List.drop_eq_getElem_cons h1, List.take_append_drop]
      have hp := (h.turn _ _ _ hs).2.2.1 _ hm
      obtain ⟨j', hj', e'⟩ := List.getElem_of_mem hp
      rw [List.getElem_take] at e'
      have hl : j' < i ∧ j' < out.length := by simp at hj'; omega
      have := nd_idx h.nd hl.2 h2 e'
      omega
  · have h1 := told_pos hu
    rw [told_at h1] at hu ⊢
    exact scc_all (h.grp.scc _ (hin i h1)) hu
  · rw [← sum_flat]
    have hp : (toldL S out).flatten.length ≤ (List.range G.length).length := len_sub _ _ nd (fun x hx => List.mem_range.2 ((mem x).1 hx))
    have hq : (List.range G.length).length ≤ (toldL S out).flatten.length := len_sub _ _ List.nodup_range (fun x hx => (mem x).2 (List.mem_range.1 hx))
    rw [List.length_range] at hp hq
    omega
  · have h1 : i < out.length := by simpa [toldL] using hi
    rw [told_at h1] at e
    obtain ⟨r, hr, _⟩ := h.grp.scc _ (hin i h1)
    rw [e] at hr
    cases hr
/-- the places told, when those of the first i components are, and of the next the first k -/
structure AtI (G L : List (List Nat)) (i k : Nat) (f : List Nat) : Prop where
  len : f.length = G.length
  old : ∀ j, j < i → ∀ v ∈ nx L j, f.getD v 0 = j + 1
  now : ∀ v ∈ (nx L i).take k, f.getD v 0 = i + 1
  no : ∀ v, (∀ j, j < i → v ∉ nx L j) → v ∉ (nx L i).take k → f.getD v 0 = 0
theorem atI_0 (G L : List (List Nat)) : AtI G L 0 0 (List.replicate G.length 0) :=
  ⟨by simp, fun j hj => absurd hj (Nat.not_lt_zero j), (fun v hv => by simp at hv), fun v _ _ => by rw [List.getD_eq_getElem?_getD, List.getElem?_replicate]; split <;> rfl⟩
theorem atI_free {G L : List (List Nat)} (hW : Wl G L) {i k : Nat} {f : List Nat} (h : AtI G L i k f) (hk : k < (nx L i).length) : f.getD (nx L i)[k] 0 = 0 := by
  refine h.no _ (fun j hj hm => ?_) (fun hm => ?_)
  · have := hW.one j i _ hm (List.getElem_mem hk); omega
  · obtain ⟨a, ha, e⟩ := List.getElem_of_mem hm
    rw [List.getElem_take] at e
    have h1 : a < k ∧ a < (nx L i).length := by simp at ha; omega
    have := List.pairwise_iff_getElem.1 (hW.up i) a k h1.2 hk h1.1
    omega
theorem atI_set {G L : List (List Nat)} (hW : Wl G L) {i k : Nat} {f : List Nat} (h : AtI G L i k f) (hk : k < (nx L i).length) : AtI G L i (k + 1) (f.set (nx L i)[k] (i + 1)) := by
  have hl : (nx L i)[k] < f.length := by rw [h.len]; exact hW.lt i _ (List.getElem_mem hk)
  have et : (nx L i).take (k + 1) = (nx L i).take k ++ [(nx L i)[k]] := by rw [List.take_succ_eq_append_getElem hk]
  refine ⟨by rw [List.length_set]; exact h.len, fun j hj v hv => ?_, fun v hv => ?_, fun v h1 h2 => ?_⟩
  · rw [getD_setV]
    by_cases e : (nx L i)[k] = v
    · have := hW.one i j v (e ▸ List.getElem_mem hk) hv; omega
    · rw [if_neg (fun x => e x.1)]; exact h.old j hj v hv
  · rw [getD_setV]
    rw [et] at hv
    by_cases e : (nx L i)[k] = v
    · rw [if_pos ⟨e, by omega⟩]
    · rw [if_neg (fun x => e x.1)]
      rcases List.mem_append.1 hv with h3 | h3
      · exact h.now v h3
      · exact absurd (List.mem_singleton.1 h3).symm e
  · rw [et] at h2
    rw [getD_setV, if_neg (fun x => h2 (List.mem_append_right _ (List.mem_singleton.2 x.1.symm)))]
    exact h.no v h1 (fun x => h2 (List.mem_append_left _ x))
theorem atI_next {G L : List (List Nat)} {i : Nat} {f : List Nat} (h : AtI G L i (nx L i).length f) : AtI G L (i + 1) 0 f := by
  refine ⟨h.len, fun j hj v hv => ?_, (fun v hv => by simp at hv), fun v h1 _ => h.no v (fun j hj => h1 j (by omega)) (fun x => h1 i (by omega) (List.take_subset _ _ x))⟩
  rcases Nat.lt_or_ge j i with h1 | h1
  · exact h.old j h1 v hv
  · obtain rfl : j = i := by omega
    exact h.now v (by rw [List.take_length]; exact hv)
theorem atI_end {G L : List (List Nat)} (hW : Wl G L) {k : Nat} {f : List Nat} (h : AtI G L L.length k f) {u v : Nat} (hu : u < G.length) (hv : v ∈ nx G u) (hv' : v < G.length) : f.getD v 0 ≤ f.getD u 0 := by
  obtain ⟨i, hi⟩ := hW.all u hu
  obtain ⟨j, hj⟩ := hW.all v hv'
  rw [h.old i (nx_pos hi) u hi, h.old j (nx_pos hj) v hj]
  have := hW.ord i j u v hi hj hv
  omega
theorem sum_take {L : List (List Nat)} {i : Nat} (h : i < L.length) : ((L.take (i + 1)).map List.length).sum = ((L.take i).map List.length).sum + (nx L i).length := by
  have e : nx L i = L[i] := by unfold nx; rw [List.getD_eq_getElem?_getD, List.getElem?_eq_getElem h]; rfl
  rw [List.take_succ_eq_append_getElem h, List.map_append, List.sum_append, e]
  simp
/-- one leads to another, by one step at least -/
def R1 (G : Gr) (u v : Nat) : Prop := ∃ x ∈ nx G u, Rch G x v
theorem r1_of {G : Gr} {u v : Nat} (h : Rch G u v) (hne : u ≠ v) : R1 G u v := by
  induction h with
  | refl => exact absurd rfl hne
  | @step a b h1 h2 ih =>
    by_cases e : u = a
    · subst e; exact ⟨b, h2, .refl⟩
    · obtain ⟨x, hx, hr⟩ := ih e
      exact ⟨x, hx, hr.step h2⟩
theorem r1_rch {G : Gr} {u v : Nat} (h : R1 G u v) : Rch G u v := by
  obtain ⟨x, hx, hr⟩ := h
  exact (Rch.one hx).trans hr
end Go.Proofs.YtpddamloajpiiaaGreatDoor

/-
What is proved here: the document's own search from a number: it marks all that the number leads to. On lists alone.
-/
set_option linter.unusedSimpArgs false
set_option linter.unusedVariables false
namespace Go.Proofs.YtpddamloajpiiaaGreatDoor
open Go.Cmp Go.RowKit
structure RcI (G : Gr) (f : Nat) (m : List Bool) (l : List Nat) : Prop where
  len : m.length = G.length
  mrk : ∀ v, m.getD v false = true → R1 G f v
  ls : ∀ v ∈ l, R1 G f v
  first : ∀ x ∈ nx G f, m.getD x false = true ∨ x ∈ l
  shut : ∀ u, m.getD u false = true → ∀ x ∈ nx G u, m.getD x false = true ∨ x ∈ l
  big : todo G m + l.length ≤ todo G (List.replicate G.length false) + (nx G f).length
theorem r1_lt {G : Gr} (hG : Ok G) {u v : Nat} (h : R1 G u v) : v < G.length := by
  obtain ⟨x, hx, hr⟩ := h
  cases hr with
  | refl => exact (nx_lt hG hx).1
  | step h1 h2 => exact (nx_lt hG h2).1
theorem rcI_0 (G : Gr) (f : Nat) : RcI G f (List.replicate G.length false) (nx G f) := by
  have no : ∀ v, (List.replicate G.length false).getD v false = false := fun v => by
    rw [List.getD_eq_getElem?_getD, List.getElem?_replicate]; split <;> rfl
  exact ⟨by simp, (fun v hv => by rw [no] at hv; cases hv), fun v hv => ⟨v, hv, .refl⟩, fun x hx => .inr hx, (fun u hu => by rw [no] at hu; cases hu), Nat.le_refl _⟩
theorem rcI_seen {G : Gr} {f : Nat} {m : List Bool} {l : List Nat} {v : Nat} (h : RcI G f m (l ++ [v])) (hv : m.getD v false = true) : RcI G f m l := by
  have cut : ∀ x, m.getD x false = true ∨ x ∈ l ++ [v] → m.getD x false = true ∨ x ∈ l := fun x hx => by
    rcases hx with h1 | h1
    · exact .inl h1
    · rcases List.mem_append.1 h1 with h2 | h2
      · exact .inr h2
      · rw [List.mem_singleton.1 h2]; exact .inl hv
  have hb := h.big
  rw [List.length_append, List.length_singleton] at hb
  exact ⟨h.len, h.mrk, fun x hx => h.ls x (List.mem_append_left _ hx), fun x hx => cut x (h.first x hx), fun u hu x hx => cut x (h.shut u hu x hx), by omega⟩
theorem rcI_mark {G : Gr} (hG : Ok G) {f : Nat} {m : List Bool} {l : List Nat} {v : Nat} (h : RcI G f m (l ++ [v])) (hv : m.getD v false = false) : RcI G f (m.set v true) (l ++ nx G v) := by
  have hr := h.ls v (by simp)
  have hvl : v < m.length := by rw [h.len]; exact r1_lt hG hr
  have cut : ∀ x, m.getD x false = true ∨ x ∈ l ++ [v] → (m.set v true).getD x false = true ∨ x ∈ l ++ nx G v := fun x hx => by
    rw [getD_set m v x hvl]
    by_cases e : x = v
    · rw [if_pos e]; exact .inl rfl
    · rw [if_neg e]
      rcases hx with h1 | h1
      · exact .inl h1
      · rcases List.mem_append.1 h1 with h2 | h2
        · exact .inr (List.mem_append_left _ h2)
        · exact absurd (List.mem_singleton.1 h2) e
  have hb := h.big
  have ht := todo_set G m v hvl hv
  refine ⟨by rw [List.length_set]; exact h.len, fun x hx => ?_, fun x hx => ?_, fun x hx => cut x (h.first x hx), fun u hu x hx => ?_, ?_⟩
  · rw [getD_set m v x hvl] at hx
    by_cases e : x = v
    · rw [e]; exact hr
    · rw [if_neg e] at hx; exact h.mrk x hx
  · rcases List.mem_append.1 hx with h1 | h1
    · exact h.ls x (List.mem_append_left _ h1)
    · obtain ⟨y, hy, h2⟩ := hr
      exact ⟨y, hy, h2.step h1⟩
  · rw [getD_set m v u hvl] at hu
    by_cases e : u = v
    · rw [e] at hx; exact .inr (List.mem_append_right _ hx)
    · rw [if_neg e] at hu; exact cut x (h.shut u hu x hx)
  · rw [List.length_append] at hb ⊢
    rw [List.length_singleton] at hb
    omega
theorem rcI_end {G : Gr} {f : Nat} {m : List Bool} (h : RcI G f m []) (v : Nat) : m.getD v false = true ↔ R1 G f v := by
  refine ⟨h.mrk v, fun ⟨x, hx, hr⟩ => ?_⟩
  have hx2 : m.getD x false = true := (h.first x hx).resolve_right (by simp)
  exact rch_closed (fun y => m.getD y false = true) (fun u hu y hy => (h.shut u hu y hy).resolve_right (by simp)) hr hx2
/-- what the document's own search marks -/
def Rea (G : Gr) (f : Nat) (m : List Bool) : Prop := m.length = G.length ∧ ∀ v, m.getD v false = true ↔ R1 G f v
theorem rea_lt {G : Gr} {f : Nat} {m m' : List Bool} (h : Rea G f m) (h' : Rea G f m') : m = m' := by
  refine List.ext_getElem (by rw [h.1, h'.1]) fun i h1 h2 => ?_
  have a := h.2 i
  have b := h'.2 i
  rw [List.getD_eq_getElem?_getD, List.getElem?_eq_getElem h1] at a
  rw [List.getD_eq_getElem?_getD, List.getElem?_eq_getElem h2] at b
  simp only [Option.getD_some] at a b
  exact Bool.eq_iff_iff.2 (a.trans b.symm)
end Go.Proofs.YtpddamloajpiiaaGreatDoor

/-
What is proved here: of each number the least one of its component, as the document's own answer finds it. On lists alone.
-/
set_option linter.unusedSimpArgs false
set_option linter.unusedVariables false
namespace Go.Proofs.YtpddamloajpiiaaGreatDoor
open Go.Cmp Go.RowKit
/-- t is the least number of i's component -/
def Lst (G : Gr) (i t : Nat) : Prop := t ≤ i ∧ Rch G i t ∧ Rch G t i ∧ ∀ k, k < t → ¬ (Rch G i k ∧ Rch G k i)
theorem lst_uniq {G : Gr} {i t t' : Nat} (h : Lst G i t) (h' : Lst G i t') : t = t' := by
  rcases Nat.lt_trichotomy t t' with h1 | h1 | h1
  · exact absurd ⟨h.2.1, h.2.2.1⟩ (h'.2.2.2 t h1)
  · exact h1
  · exact absurd ⟨h'.2.1, h'.2.2.1⟩ (h.2.2.2 t' h1)
theorem lst_self {G : Gr} {i : Nat} (h : ∀ k, k < i → ¬ (R1 G i k ∧ R1 G k i)) : Lst G i i :=
  ⟨Nat.le_refl _, .refl, .refl, fun k hk ⟨a, b⟩ => h k hk ⟨r1_of a (by omega), r1_of b (by omega)⟩⟩
theorem lst_at {G : Gr} {i k : Nat} (hk : k < i) (h1 : R1 G i k) (h2 : R1 G k i) (h : ∀ j, j < k → ¬ (R1 G i j ∧ R1 G j i)) : Lst G i k :=
  ⟨by omega, r1_rch h1, r1_rch h2, fun j hj ⟨a, b⟩ => h j hj ⟨r1_of a (by omega), r1_of b (by omega)⟩⟩
/-- each number's least one -/
def Tos (G : Gr) (to' : List Nat) : Prop := to'.length = G.length ∧ ∀ i, i < G.length → Lst G i (to'.getD i 0)
/-- those numbers of which one is the least -/
def memL (to' : List Nat) (i : Nat) : List Nat := (List.range to'.length).filter fun v => to'.getD v 0 == i
theorem memL_up (to' : List Nat) (i : Nat) : (memL to' i).Pairwise (· < ·) := (List.pairwise_lt_range (n := to'.length)).filter _
theorem mem_memL {to' : List Nat} {i v : Nat} : v ∈ memL to' i ↔ v < to'.length ∧ to'.getD v 0 = i := by
  unfold memL
  rw [List.mem_filter, List.mem_range]
  simp
/-- a component's least number -/
def hd (S : Gr) (g : Nat) : Nat := (nx S g).headD 0
theorem hd_mem {G S : Gr} (h : Groups G S) {g : Nat} (hg : g < S.length) : hd S g ∈ nx S g := by
  obtain ⟨r, hr, _⟩ := h.scc _ (nx_mem hg)
  unfold hd
  cases e : nx S g with
  | nil => rw [e] at hr; cases hr
  | cons a t => simp
theorem hd_le {G S : Gr} (h : Groups G S) {g v : Nat} (hv : v ∈ nx S g) : hd S g ≤ v := by
  have hu := h.up _ (nx_mem (nx_pos hv))
  unfold hd
  cases e : nx S g with
  | nil => rw [e] at hv; cases hv
  | cons a t =>
    rw [e] at hv hu
    rcases List.mem_cons.1 hv with rfl | h1
    · exact Nat.le_refl _
    · have := (List.pairwise_cons.1 hu).1 v h1
      simp; omega
theorem hd_lt {G S : Gr} (h : Groups G S) {a b : Nat} (ha : a < b) (hb : b < S.length) : hd S a < hd S b := by
  have h1 := List.pairwise_iff_getElem.1 h.ord a b (by omega) hb ha
  have e1 : nx S a = S[a] := by unfold nx; rw [List.getD_eq_getElem?_getD, List.getElem?_eq_getElem (by omega)]; rfl
  have e2 : nx S b = S[b] := by unfold nx; rw [List.getD_eq_getElem?_getD, List.getElem?_eq_getElem hb]; rfl
  have m1 := hd_mem h (g := a) (by omega)
  have m2 := hd_mem h (g := b) hb
  rw [← e1, ← e2] at h1
  unfold hd at m1 m2 ⊢
  cases x1 : nx S a with
  | nil => rw [x1] at m1; cases m1
  | cons p t =>
    cases x2 : nx S b with
    | nil => rw [x2] at m2; cases m2
    | cons q u => rw [x1, x2] at h1; simpa using h1 p q rfl rfl
theorem grp_lst {G S : Gr} (h : Groups G S) {g v : Nat} (hv : v ∈ nx S g) : Lst G v (hd S g) := by
  have hg := nx_pos hv
  have hm := hd_mem h hg
  have hs := scc_all (h.scc _ (nx_mem hg)) hv (v := hd S g)
  have h2 := hs.1 hm
  refine ⟨hd_le h hv, h2.1, h2.2, fun k hk hr => ?_⟩
  have h3 := (scc_all (h.scc _ (nx_mem hg)) hv (v := k)).2 hr
  have := hd_le h h3
  omega
theorem to_grp {G S : Gr} (h : Groups G S) {to' : List Nat} (ht : Tos G to') {g v : Nat} (hv : v ∈ nx S g) : to'.getD v 0 = hd S g :=
  lst_uniq (ht.2 v (h.lt _ (nx_mem (nx_pos hv)) v hv)) (grp_lst h hv)
theorem grp_at {G S : Gr} (h : Groups G S) {v : Nat} (hv : v < G.length) : ∃ g, g < S.length ∧ v ∈ nx S g := by
  obtain ⟨l, hl, hvl⟩ := h.all v hv
  obtain ⟨g, hg, rfl⟩ := List.getElem_of_mem hl
  refine ⟨g, hg, ?_⟩
  unfold nx
  rw [List.getD_eq_getElem?_getD, List.getElem?_eq_getElem hg]
  exact hvl
theorem hd_inj {G S : Gr} (h : Groups G S) {a b : Nat} (ha : a < S.length) (hb : b < S.length) (e : hd S a = hd S b) : a = b := by
  rcases Nat.lt_trichotomy a b with h1 | h1 | h1
  · have := hd_lt h h1 hb; omega
  · exact h1
  · have := hd_lt h h1 ha; omega
theorem memL_hd {G S : Gr} (h : Groups G S) {to' : List Nat} (ht : Tos G to') {g : Nat} (hg : g < S.length) : memL to' (hd S g) = nx S g := by
  refine up_eq (memL_up _ _) (h.up _ (nx_mem hg)) fun v => ?_
  rw [mem_memL, ht.1]
  constructor
  · rintro ⟨h1, h2⟩
    obtain ⟨g', hg', hv⟩ := grp_at h h1
    rw [to_grp h ht hv] at h2
    rw [← hd_inj h hg' hg h2]
    exact hv
  · intro hv
    exact ⟨h.lt _ (nx_mem hg) v hv, to_grp h ht hv⟩
/-- a component that may be told next, by its least number -/
def Cand (G : Gr) (to' : List Nat) (told : List Bool) (i : Nat) : Prop := to'.getD i 0 = i ∧ told.getD i false = false ∧ ∀ u ∈ memL to' i, ∀ x ∈ nx G u, to'.getD x 0 = i ∨ told.getD (to'.getD x 0) false = true
/-- those told are the first p -/
def ToldP (S : Gr) (n : Nat) (out : List Nat) (p : Nat) (told : List Bool) : Prop := told.length = n ∧ ∀ g, g < S.length → (told.getD (hd S g) false = true ↔ g ∈ out.take p)
theorem cand_iff {G S T : Gr} (hG : Ok G) {out : List Nat} (h : Cmps G S T out) {to' : List Nat} (ht : Tos G to') {p : Nat} {told : List Bool} (hp : ToldP S G.length out p told) {i : Nat} (hi : i < G.length) :
    Cand G to' told i ↔ ∃ g, g < S.length ∧ i = hd S g ∧ g ∉ out.take p ∧ ∀ h, g ∈ nx T h → h ∈ out.take p := by
  obtain ⟨op, hA⟩ := h.ask
  have hS := h.grp
  constructor
  · rintro ⟨h1, h2, h3⟩
    obtain ⟨g, hg, hv⟩ := grp_at hS hi
    have e := to_grp hS ht hv
    rw [h1] at e
    refine ⟨g, hg, e, fun hm => ?_, fun k hk => ?_⟩
    · have := (hp.2 g hg).2 hm
      rw [← e, h2] at this
      cases this
    · obtain ⟨hne, _, hkl, a, ha, b, hb, hab⟩ := (hA.mem k g).1 hk
      have ha2 : a ∈ memL to' i := by rw [e, memL_hd hS ht hg]; exact ha
      have e2 := to_grp hS ht hb
      rcases h3 a ha2 b hab with h4 | h4
      · rw [e2, e] at h4
        exact absurd (hd_inj hS hkl hg h4).symm hne
      · rw [e2] at h4
        exact (hp.2 k hkl).1 h4
  · rintro ⟨g, hg, rfl, h2, h3⟩
    have hm := hd_mem hS hg
    refine ⟨to_grp hS ht hm, ?_, fun u hu x hx => ?_⟩
    · rw [Bool.eq_false_iff]
      intro h4
      exact h2 ((hp.2 g hg).1 h4)
    · rw [memL_hd hS ht hg] at hu
      obtain ⟨k, hk, hxk⟩ := grp_at hS (nx_lt hG hx).1
      rw [to_grp hS ht hxk]
      by_cases e : k = g
      · rw [e]; exact .inl rfl
      · exact .inr ((hp.2 k hk).2 (h3 k ((hA.mem k g).2 ⟨fun x => e x.symm, hg, hk, u, hu, x, hxk, hx⟩)))
/-- the next one told is the first that may be -/
theorem cand_next {G S T : Gr} (hG : Ok G) {out : List Nat} (h : Cmps G S T out) {to' : List Nat} (ht : Tos G to') {p : Nat} {told : List Bool} (hp : ToldP S G.length out p told) (hpl : p < out.length) :
    Cand G to' told (hd S out[p]) ∧ ∀ i, i < hd S out[p] → ¬ Cand G to' told i := by
  have hg := cmps_lt h _ (List.getElem_mem hpl)
  have hn : hd S out[p] < G.length := h.grp.lt _ (nx_mem hg) _ (hd_mem h.grp hg)
  have hs : out = out.take p ++ out[p] :: out.drop (p + 1) := by rw [← List.drop_eq_getElem_cons hpl, List.take_append_drop]
  obtain ⟨_, h2, h3, h4⟩ := h.turn _ _ _ hs
  refine ⟨(cand_iff hG h ht hp hn).2 ⟨out[p], hg, rfl, h2, h3⟩, fun i hi hc => ?_⟩
  obtain ⟨g, hg2, rfl, h5, h6⟩ := (cand_iff hG h ht hp (by omega)).1 hc
  have h7 := h4 g hg2 h5 h6
  rcases Nat.lt_or_eq_of_le h7 with h8 | h8
  · have := hd_lt h.grp h8 hg2; omega
  · rw [h8] at hi; omega
theorem cand_none {G S T : Gr} (hG : Ok G) {out : List Nat} (h : Cmps G S T out) {to' : List Nat} (ht : Tos G to') {told : List Bool} (hp : ToldP S G.length out out.length told) {i : Nat} (hi : i < G.length) : ¬ Cand G to' told i := fun hc => by
  obtain ⟨g, hg, _, h5, _⟩ := (cand_iff hG h ht hp hi).1 hc
  rw [List.take_length] at h5
  exact h5 (h.all g hg)
theorem toldP_0 {G S : Gr} (out : List Nat) : ToldP S G.length out 0 (List.replicate G.length false) :=
  ⟨by simp, fun g hg => by rw [List.getD_eq_getElem?_getD, List.getElem?_replicate]; split <;> simp⟩
theorem toldP_next {G S T : Gr} {out : List Nat} (h : Cmps G S T out) {p : Nat} {told : List Bool} (hp : ToldP S G.length out p told) (hpl : p < out.length) : ToldP S G.length out (p + 1) (told.set (hd S out[p]) true) := by
  have hg := cmps_lt h _ (List.getElem_mem hpl)
  have hn : hd S out[p] < told.length := by rw [hp.1]; exact h.grp.lt _ (nx_mem hg) _ (hd_mem h.grp hg)
  refine ⟨by rw [List.length_set]; exact hp.1, fun g hg2 => ?_⟩
  rw [getD_set told _ _ hn, List.take_succ_eq_append_getElem hpl, List.mem_append, List.mem_singleton]
  by_cases e : hd S g = hd S out[p]
  · rw [if_pos e]; simp [hd_inj h.grp hg2 hg e]
  · rw [if_neg e, hp.2 g hg2]
    constructor
    · exact .inl
    · rintro (h1 | h1)
      · exact h1
      · exact absurd (by rw [h1]) e
/-- what goes round, as the document's own answer finds it -/
theorem round_iff {G S : Gr} (h : Groups G S) {to' : List Nat} (ht : Tos G to') {g : Nat} (hg : g < S.length) : stillP G (nx S g) = false ↔ R1 G (hd S g) (hd S g) := by
  have hm := hd_mem h hg
  unfold stillP
  by_cases h1 : (nx S g).length = 1
  · obtain ⟨a, e⟩ := List.length_eq_one_iff.1 h1
    have e2 : hd S g = a := by unfold hd; rw [e]; rfl
    rw [e2, e]
    simp only [List.length_singleton, decide_true, Bool.true_and, List.headD_cons]
    rw [Bool.not_eq_false', List.contains_iff_mem]
    constructor
    · intro hc
      obtain ⟨x, hx, e3⟩ := List.mem_map.1 hc
      have : x = a := by have : (x : Int) = (a : Int) := e3; omega
      subst this
      exact ⟨x, hx, .refl⟩
    · rintro ⟨x, hx, hr⟩
      have hxa : x ∈ nx S g := (scc_all (h.scc _ (nx_mem hg)) (u := a) (by rw [e]; simp)).2 ⟨.one hx, hr⟩
      rw [e] at hxa
      have := List.mem_singleton.1 hxa
      subst this
      exact List.mem_map.2 ⟨x, hx, rfl⟩
  · simp only [h1, decide_false, Bool.false_and, true_iff]
    cases e : nx S g with
    | nil => rw [e] at hm; cases hm
    | cons a t =>
      cases t with
      | nil => rw [e] at h1; exact absurd rfl h1
      | cons b t =>
        have e2 : hd S g = a := by unfold hd; rw [e]; rfl
        rw [e2]
        have hu := h.up _ (nx_mem hg)
        rw [e] at hu
        have hab : a < b := (List.pairwise_cons.1 hu).1 b (by simp)
        have hs := (scc_all (h.scc _ (nx_mem hg)) (u := a) (v := b) (by rw [e]; simp)).1 (by rw [e]; simp)
        obtain ⟨x, hx, hr⟩ := r1_of hs.1 (by omega)
        exact ⟨x, hx, hr.trans hs.2⟩
end Go.Proofs.YtpddamloajpiiaaGreatDoor

/-
What is proved here: that answers are fixed; what is told of needs that are not taken.
-/
set_option linter.unusedSimpArgs false
set_option linter.unusedVariables false
namespace Go.Proofs.YtpddamloajpiiaaGreatDoor
open Go.Cmp Go.RowKit
set_option maxRecDepth 100000 in
theorem comps_bad (A : Option Addr) (c : Nat) (N : List (List Int)) (w : World) (hL : LsAt w A N) (hn : N.length ≤ 1000000000) (hs : ∀ l ∈ N, l.length ≤ 1000000000) (hb : chk N ≠ 0) :
    Calls Tryz.prog 17 #[.slice A N.length c] w fun e w' => e = .returned (.tuple #[.slice none 0 0, .int .i64 (chk N)]) ∧ Below w.heap.size w w' := by
  have KC := Lib.hid (check_any A c N w hL hn hs)
  have hz : (chk N != 0) = true := by simp [hb]
  generalize chk N = z at *
  generalize N.length = n at *
  clear hL hs
  go_enter Tryz.func17, Tryz.ntmps17
  go_wp2_with (go_at_call 28; (with_reducible refine KC.out.mono ?_); rintro e w1 ⟨rfl, hb⟩; have B1 := Lib.hid hb; clear hb)
  go_ret2
  exact ⟨rfl, B1.out⟩
set_option maxRecDepth 100000 in
theorem round_bad (A : Option Addr) (c : Nat) (N : List (List Int)) (w : World) (hL : LsAt w A N) (hn : N.length ≤ 1000000000) (hs : ∀ l ∈ N, l.length ≤ 1000000000) (hb : chk N ≠ 0) :
    Calls Tryz.prog 58 #[.slice A N.length c] w fun e w' => e = .returned (.tuple #[.slice none 0 0, .int .i64 (chk N)]) ∧ Below w.heap.size w w' := by
  have hb0 := below_alloc w (.cells #[.slice A N.length c] 23)
  have KC := Lib.hid (check_any A c N _ (lsAt_below hL hb0) hn hs)
  have cb := lies_cell (lies_new w 23 #[.slice A N.length c]) 0
  simp only [List.getElem?_toArray, List.getElem?_cons_zero] at cb
  have HB0 := Lib.hid hb0
  have hz : (chk N != 0) = true := by simp [hb]
  generalize chk N = z at *
  generalize N.length = n at *
  clear hL hs hb0
  go_enter Tryz.func58, Tryz.ntmps58
  go_upto_region 1 with (fail)
  generalize w.alloc (.cells #[.slice A n c] 23) = X at *
  go_wp2_with (go_at_call 28; (with_reducible refine KC.out.mono ?_); rintro e w1 ⟨rfl, hb⟩; have B1 := Lib.hid (HB0.out.trans (hb.mono HB0.out.size)); clear hb)
  go_ret2
  exact ⟨rfl, B1.out⟩
/-- one number in a row of its own -/
theorem one_own (w : World) (B : Nat) (z : Int) (hB : B ≤ w.heap.size) : OwnI (w.alloc (.cells #[iV z] 3)) B (.slice (some ⟨w.heap.size, 0, none⟩) 1 1) [z] :=
  ⟨by simp, .inr ⟨w.heap.size, 1, #[iV z], rfl, hB, heap_alloc_new _ _, Nat.le_refl _, by decide, rfl, by simp⟩⟩
theorem one_ints {w : World} {g : Nat} {z : Int} (h : Lies w g 3 #[iV z]) : IntsAt w (some ⟨g, 0, none⟩) [z] := fun i hi => by
  have : i = 0 := by simpa using hi
  subst this
  exact ⟨g, 0, rfl, lies_lt h, by rw [lies_cell h]; rfl⟩
theorem liv_ls {W : World} {a b c d : Nat} (h1 : Lies W a 3 #[iV 1]) (h2 : Lies W b 3 #[iV 0]) (h3 : Lies W c 3 #[iV 0]) (h4 : Lies W d 33 #[.slice (some ⟨a, 0, none⟩) 1 1, .slice (some ⟨b, 0, none⟩) 1 1, .slice (some ⟨c, 0, none⟩) 1 1]) : LsAt W (some ⟨d, 0, none⟩) (zg liv) := fun i hi => by
  have hi3 : i < 3 := by simpa [liv] using hi
  rcases (show i = 0 ∨ i = 1 ∨ i = 2 by omega) with rfl | rfl | rfl
  · exact ⟨d, 0, _, 1, rfl, lies_lt h4, by rw [lies_cell h4]; rfl, Nat.le_refl _, one_ints h1⟩
  · exact ⟨d, 0, _, 1, rfl, lies_lt h4, by rw [lies_cell h4]; rfl, Nat.le_refl _, one_ints h2⟩
  · exact ⟨d, 0, _, 1, rfl, lies_lt h4, by rw [lies_cell h4]; rfl, Nat.le_refl _, one_ints h3⟩
/-- a component's slice, and its first number -/
theorem grps_first {w : World} {B : Nat} {A : Option Addr} {C : Nat} {es : List Ent} (h : Grps w B (.slice A es.length C) es) {k : Nat} (hk : k < es.length) : ∃ g, A = some ⟨g, 0, none⟩ ∧ w.cell? ⟨g, k, none⟩ = some (.slice es[k].A es[k].r.length es[k].c) ∧ IntsAt w es[k].A (zs es[k].r) := by
  obtain ⟨g, e, _, hc⟩ := grps_cell h hk
  rw [Nat.zero_add] at hc
  exact ⟨g, e, hc, (ownI_ints (h.own _ (List.getElem_mem hk))).2⟩
theorem liv_out {w w' : World} {e : Ending} (h : CpsE liv w e w') : ∃ g C A0 C0 b o C1, e = .returned (.tuple #[.slice (some ⟨g, 0, none⟩) 2 C, .int .i64 0]) ∧ w'.cell? ⟨g, 0, none⟩ = some (.slice A0 2 C0) ∧ w'.cell? ⟨g, 1, none⟩ = some (.slice (some ⟨b, o, none⟩) 1 C1) ∧ w'.cell? ⟨b, o, none⟩ = some (.int .i64 2) ∧ Below w.heap.size w w' := by
  obtain ⟨A, C, es, T, out, rfl, hC, hG, hB⟩ := h
  obtain ⟨hS, rfl⟩ := liv_turn hC
  have hl : es.length = 2 := by have := congrArg List.length hS; simpa using this
  obtain ⟨e0, e1, rfl⟩ : ∃ e0 e1, es = [e0, e1] := by
    clear hS hC hG
    match es, hl with
    | [a, b], _ => exact ⟨a, b, rfl⟩
  simp only [List.map_cons, List.map_nil, List.cons.injEq, and_true] at hS
  obtain ⟨r0, r1⟩ := hS
  have hG' : Grps w' w.heap.size (.slice A [e0, e1].length C) [e0, e1] := hG
  obtain ⟨g, rfl, c0, _⟩ := grps_first hG' (k := 0) (by simp)
  obtain ⟨g', eg, c1, i1⟩ := grps_first hG' (k := 1) (by simp)
  injection eg with eg
  injection eg with eg
  subst eg
  simp only [List.getElem_cons_zero, List.getElem_cons_succ] at c0 c1 i1
  rw [r0] at c0
  rw [r1] at c1 i1
  obtain ⟨b, o, eA, _, cc⟩ := i1 0 (by simp [zs])
  rw [eA] at c1
  exact ⟨g, C, _, _, b, o, _, rfl, c0, c1, cc, hB⟩
end Go.Proofs.YtpddamloajpiiaaGreatDoor

/-
What is proved here: package comp's Components and Round of whatever needs, taken or not, in one form.
-/
set_option linter.unusedSimpArgs false
set_option linter.unusedVariables false
namespace Go.Proofs.YtpddamloajpiiaaGreatDoor
open Go.Cmp Go.RowKit
/-- what either tells: lists of one's own -/
structure UniE (N : List (List Int)) (P : Gr → Gr → Prop) (w : World) (e : Ending) (w' : World) (A : Option Addr) (C : Nat) (es : List Ent) : Prop where
  eq : e = .returned (.tuple #[.slice A es.length C, .int .i64 (chk N)])
  grp : Grps w' w.heap.size (.slice A es.length C) es
  low : Below w.heap.size w w'
  bad : chk N ≠ 0 → es = []
  good : ∀ G, N = zg G → Ok G → G.length ≤ 1024 → (∀ l ∈ G, l.length ≤ 1024) → P G (es.map Ent.r)
  len : es.length ≤ 1024 ∧ ∀ e ∈ es, e.r.length ≤ 1024
theorem zs_inj : ∀ {l m : List Nat}, zs l = zs m → l = m
  | [], [], _ => rfl
  | [], b :: t, h => by cases h
  | a :: s, [], h => by cases h
  | a :: s, b :: t, h => by
    have h1 : (a : Int) = (b : Int) := by simpa [zs] using (List.cons.inj h).1
    have h2 : zs s = zs t := (List.cons.inj h).2
    have : a = b := by omega
    rw [this, zs_inj h2]
theorem zg_inj : ∀ {G G' : Gr}, zg G = zg G' → G = G'
  | [], [], _ => rfl
  | [], b :: t, h => by cases h
  | a :: s, [], h => by cases h
  | a :: s, b :: t, h => by
    have h1 := zs_inj (List.cons.inj h).1
    have h2 : zg s = zg t := (List.cons.inj h).2
    rw [h1, zg_inj h2]
def PC (G L : Gr) : Prop := ∃ S T out, Cmps G S T out ∧ L = out.map fun k => nx S k
def PR (G L : Gr) : Prop := ∃ S, Groups G S ∧ L = S.filter fun r => !stillP G r
theorem grp_each {G S : Gr} (h : Groups G S) : S.length ≤ G.length ∧ ∀ g ∈ S, g.length ≤ G.length :=
  ⟨groups_len h, fun g hg => nodup_bound _ _ ((h.up g hg).imp (fun {a b} h => Nat.ne_of_lt h)) (h.lt g hg)⟩
theorem none_grp (w w' : World) (B : Nat) : Grps w' B (.slice none 0 0) [] := ⟨World.ownsRow_nil _ _ _ _, (fun e he => by cases he), .nil⟩
theorem comps_uni (A : Option Addr) (c : Nat) (N : List (List Int)) (w : World) (hL : LsAt w A N) (hn : N.length ≤ 1000000000) (hs : ∀ l ∈ N, l.length ≤ 1000000000) :
    Calls Tryz.prog 17 #[.slice A N.length c] w fun e w' => ∃ A' C es, UniE N PC w e w' A' C es := by
  by_cases hc : chk N = 0
  · obtain ⟨G, rfl, hG, h1, h2⟩ := zg_of hc
    rw [zg_len]
    refine (comps_any A c G hG h1 h2 w hL).mono fun e w' ⟨A', C, es, T, out, he, hC, hGr, hB⟩ => ?_
    have hm : (out.map fun k => es.getD k dE).map Ent.r = out.map fun k => nx (es.map Ent.r) k := by
      rw [List.map_map]
      refine List.map_congr_left fun k hk => ?_
      show (es.getD k dE).r = nx (es.map Ent.r) k
      unfold nx
      rw [List.getD_eq_getElem?_getD, List.getD_eq_getElem?_getD, List.getElem?_map]
      cases es[k]? <;> rfl
    have hb := grp_each hC.grp
    refine ⟨A', C, out.map fun k => es.getD k dE, ⟨by rw [hc, List.length_map]; exact he, hGr, hB, fun h => absurd hc h, fun G' e' _ _ _ => ?_, ?_, fun e' he' => ?_⟩⟩
    · obtain rfl := zg_inj e'
      exact ⟨es.map Ent.r, T, out, hC, hm⟩
    · rw [List.length_map, cmps_len hC]
      omega
    · have h9 : e'.r ∈ (out.map fun k => es.getD k dE).map Ent.r := List.mem_map.2 ⟨e', he', rfl⟩
      rw [hm] at h9
      obtain ⟨k, hk, e9⟩ := List.mem_map.1 h9
      have := hb.2 _ (nx_mem (cmps_lt hC k hk))
      have e9 : nx (es.map Ent.r) k = e'.r := e9
      rw [← e9]
      omega
  · exact (comps_bad A c N w hL hn hs hc).mono fun e w' ⟨he, hB⟩ => ⟨none, 0, [], ⟨he, none_grp w w' _, hB, fun _ => rfl, fun G e h1 h2 h3 => absurd (by rw [e]; exact chk_ok h1 h2 h3) hc, by simp, fun e he => by cases he⟩⟩
theorem round_uni (A : Option Addr) (c : Nat) (N : List (List Int)) (w : World) (hL : LsAt w A N) (hn : N.length ≤ 1000000000) (hs : ∀ l ∈ N, l.length ≤ 1000000000) :
    Calls Tryz.prog 58 #[.slice A N.length c] w fun e w' => ∃ A' C es, UniE N PR w e w' A' C es := by
  by_cases hc : chk N = 0
  · obtain ⟨G, rfl, hG, h1, h2⟩ := zg_of hc
    rw [zg_len]
    refine (round_all A c G hG h1 h2 w hL).mono fun e w' ⟨A', C, es, he, hS, hGr, hB⟩ => ?_
    have hb := grp_each hS
    have hm : (es.filter fun e => !stillP G e.r).map Ent.r = (es.map Ent.r).filter fun r => !stillP G r := by
      rw [List.filter_map]
      rfl
    refine ⟨A', C, es.filter fun e => !stillP G e.r, ⟨by rw [hc]; exact he, hGr, hB, fun h => absurd hc h, fun G' e' _ _ _ => ?_, ?_, fun e' he' => ?_⟩⟩
    · obtain rfl := zg_inj e'
      exact ⟨es.map Ent.r, hS, hm⟩
    · have h9 := List.length_filter_le (fun e : Ent => !stillP G e.r) es
      have h8 := hb.1
      rw [List.length_map] at h8
      omega
    · have := hb.2 e'.r (List.mem_map.2 ⟨e', (List.mem_filter.1 he').1, rfl⟩)
      omega
  · exact (round_bad A c N w hL hn hs hc).mono fun e w' ⟨he, hB⟩ => ⟨none, 0, [], ⟨he, none_grp w w' _, hB, fun _ => rfl, fun G e h1 h2 h3 => absurd (by rw [e]; exact chk_ok h1 h2 h3) hc, by simp, fun e he => by cases he⟩⟩
end Go.Proofs.YtpddamloajpiiaaGreatDoor
