/-
What is proved here: that the components are one list of lists, and which they are of three kinds of needs. On lists alone.
-/
import Derived.Test.YtnbjfmkckebfgaaGreatCps
set_option linter.unusedSimpArgs false
set_option linter.unusedVariables false
namespace Go.Cmp
open Go.Proofs.YtnbjfmkckebfgaaGreat
theorem srt_eq {α : Type} (R : α → α → Prop) : ∀ (l m : List α), (∀ a ∈ l, ∀ b ∈ m, R a b → ¬ R b a) → (∀ a ∈ l, ¬ R a a) → l.Pairwise R → m.Pairwise R → (∀ x, x ∈ l ↔ x ∈ m) → l = m
  | [], [], _, _, _, _, _ => rfl
  | [], b :: m, _, _, _, _, h => by have := (h b).2 (by simp); cases this
  | a :: l, [], _, _, _, _, h => by have := (h a).1 (by simp); cases this
  | a :: l, b :: m, has, hir, h1, h2, h => by
    obtain ⟨p1, p2⟩ := List.pairwise_cons.1 h1
    obtain ⟨q1, q2⟩ := List.pairwise_cons.1 h2
    have hab : a = b := by
      rcases List.mem_cons.1 ((h a).1 (by simp)) with e | e
      · exact e
      · rcases List.mem_cons.1 ((h b).2 (by simp)) with e2 | e2
        · exact e2.symm
        · exact absurd (q1 a e) (has a (by simp) b (by simp) (p1 b e2))
    subst hab
    have hir2 := hir a (by simp)
    congr 1
    refine srt_eq R l m (fun x hx y hy => has x (List.mem_cons_of_mem _ hx) y (List.mem_cons_of_mem _ hy)) (fun x hx => hir x (List.mem_cons_of_mem _ hx)) p2 q2 (fun x => ?_)
    constructor
    · intro hx
      rcases List.mem_cons.1 ((h x).1 (List.mem_cons_of_mem _ hx)) with e | e
      · subst e; exact absurd (p1 x hx) hir2
      · exact e
    · intro hx
      rcases List.mem_cons.1 ((h x).2 (List.mem_cons_of_mem _ hx)) with e | e
      · subst e; exact absurd (q1 x hx) hir2
      · exact e
theorem up_eq {l m : List Nat} (h1 : l.Pairwise (· < ·)) (h2 : m.Pairwise (· < ·)) (h : ∀ x, x ∈ l ↔ x ∈ m) : l = m :=
  srt_eq (· < ·) l m (fun a _ b _ h => by omega) (fun a _ => by omega) h1 h2 h
theorem groups_sub {G : Gr} {S S' : List (List Nat)} (h : Groups G S) (h' : Groups G S') : ∀ g ∈ S, g ∈ S' := fun g hg => by
  obtain ⟨r, hr, hrm⟩ := h.scc g hg
  obtain ⟨g', hg', hr'⟩ := h'.all r (h.lt g hg r hr)
  have : g = g' := up_eq (h.up g hg) (h'.up g' hg') (fun v => by rw [hrm v, scc_all (h'.scc g' hg') hr'])
  rw [this]; exact hg'
theorem groups_eq {G : Gr} {S S' : List (List Nat)} (h : Groups G S) (h' : Groups G S') : S = S' := by
  have hne : ∀ {S : List (List Nat)}, Groups G S → ∀ g ∈ S, ∃ x, g.head? = some x := fun h g hg => by
    obtain ⟨r, hr, _⟩ := h.scc g hg
    cases g with
    | nil => cases hr
    | cons a t => exact ⟨a, rfl⟩
  refine srt_eq _ S S' (fun a ha b hb hab hba => ?_) (fun a ha haa => ?_) h.ord h'.ord (fun g => ⟨groups_sub h h' g, groups_sub h' h g⟩)
  · obtain ⟨x, hx⟩ := hne h a ha
    obtain ⟨y, hy⟩ := hne h' b hb
    have := hab x y hx hy
    have := hba y x hy hx
    omega
  · obtain ⟨x, hx⟩ := hne h a ha
    have := haa x x hx hx
    omega
/-- what is reached stays in a set that is closed -/
theorem rch_closed {G : Gr} (P : Nat → Prop) (hP : ∀ u, P u → ∀ v ∈ nx G u, P v) {u v : Nat} (h : Rch G u v) (hu : P u) : P v := by
  induction h with
  | refl => exact hu
  | step _ hx ih => exact hP _ ih _ hx
/-- one after the other -/
def chain (n : Nat) : Gr := (List.range n).map fun i => if i + 1 < n then [i + 1] else []
theorem nx_map {n : Nat} (f : Nat → List Nat) (i : Nat) : nx ((List.range n).map f) i = if i < n then f i else [] := by
  unfold nx
  rw [List.getD_eq_getElem?_getD, List.getElem?_map]
  by_cases h : i < n
  · rw [if_pos h, List.getElem?_range h]; rfl
  · rw [if_neg h, List.getElem?_eq_none (by simp; omega)]; rfl
theorem nx_chain (n i : Nat) : nx (chain n) i = if i + 1 < n then [i + 1] else [] := by
  unfold chain
  rw [nx_map]
  by_cases h : i < n
  · rw [if_pos h]
  · rw [if_neg h, if_neg (by omega)]
theorem chain_le {n u v : Nat} (h : Rch (chain n) u v) : u ≤ v := rch_closed (fun x => u ≤ x) (fun x hx y hy => by
  rw [nx_chain] at hy
  split at hy
  · obtain rfl := List.mem_singleton.1 hy; omega
  · cases hy) h (Nat.le_refl _)
theorem chain_groups (n : Nat) : Groups (chain n) ((List.range n).map fun i => [i]) := by
  have hl : (chain n).length = n := by simp [chain]
  refine ⟨fun g hg => ?_, fun g hg => ?_, fun v hv => ?_, fun g hg v hv => ?_, ?_, ?_⟩
  · obtain ⟨i, hi, rfl⟩ := List.mem_map.1 hg
    refine ⟨i, by simp, fun v => ?_⟩
    rw [List.mem_singleton]
    constructor
    · rintro rfl; exact ⟨.refl, .refl⟩
    · rintro ⟨a, b⟩
      have := chain_le a
      have := chain_le b
      omega
  · obtain ⟨i, hi, rfl⟩ := List.mem_map.1 hg
    exact List.pairwise_singleton _ _
  · exact ⟨[v], List.mem_map.2 ⟨v, List.mem_range.2 (by omega), rfl⟩, by simp⟩
  · obtain ⟨i, hi, rfl⟩ := List.mem_map.1 hg
    rw [List.mem_singleton.1 hv, hl]
    exact List.mem_range.1 hi
  · rw [List.pairwise_map]
    exact List.pairwise_lt_range.imp (fun h x y hx hy => by injection hx with hx; injection hy with hy; omega)
  · rw [List.pairwise_map]
    exact List.pairwise_lt_range.imp (fun h v hv hv2 => by have := List.mem_singleton.1 hv; have := List.mem_singleton.1 hv2; omega)
theorem nx_single (n i : Nat) : nx ((List.range n).map fun i => [i]) i = if i < n then [i] else [] := nx_map _ i
/-- each is told behind the next one -/
theorem chain_turn {n : Nat} {S T : Gr} {out : List Nat} (h : Cmps (chain n) S T out) (hn : 0 < n) : S = (List.range n).map (fun i => [i]) ∧ (∃ t, out = (n - 1) :: t) ∧ ∃ p, out = p ++ [0] := by
  have hS := groups_eq h.grp (chain_groups n)
  subst hS
  obtain ⟨op, ha⟩ := h.ask
  have hlen : ((List.range n).map fun i => [i]).length = n := by simp
  have htu := h.turn
  have hal := h.all
  rw [hlen] at htu hal
  have hask : ∀ i, i + 1 < n → i ∈ nx T (i + 1) := fun i hi => by
    rw [ha.mem, hlen]
    refine ⟨by omega, by omega, hi, i, ?_, i + 1, ?_, ?_⟩
    · rw [nx_single, if_pos (by omega)]; simp
    · rw [nx_single, if_pos hi]; simp
    · rw [nx_chain, if_pos hi]; simp
  refine ⟨rfl, ?_, ?_⟩
  · cases hout : out with
    | nil => have := hal 0 hn; rw [hout] at this; cases this
    | cons x t =>
      obtain ⟨hx, _, hp, _⟩ := htu [] x t hout
      rcases Nat.lt_or_ge (x + 1) n with h1 | h1
      · have := hp _ (hask x h1); cases this
      · exact ⟨t, by congr 1; omega⟩
  · rcases List.eq_nil_or_concat out with e | ⟨p, y, e⟩
    · have := hal 0 hn; rw [e] at this; cases this
    · rw [List.concat_eq_append] at e
      obtain ⟨hy, hyp, _, _⟩ := htu p y [] e
      rcases Nat.eq_zero_or_pos y with h0 | h0
      · exact ⟨p, by rw [e, h0]⟩
      · have h1 := hal (y - 1) (by omega)
        obtain ⟨p', s', e'⟩ := List.append_of_mem h1
        have h2 := (htu p' (y - 1) s' e').2.2.1 y (by have := hask (y - 1) (by omega); rwa [show y - 1 + 1 = y by omega] at this)
        exfalso
        have hnd := h.nd
        rcases List.eq_nil_or_concat s' with e2 | ⟨s2, z, e2⟩
        · rw [e2, e] at e'
          obtain ⟨_, e3⟩ := List.append_inj' e' rfl
          injection e3 with e3
          omega
        · rw [List.concat_eq_append] at e2
          rw [e2, e, ← List.cons_append, ← List.append_assoc] at e'
          obtain ⟨e3, e4⟩ := List.append_inj' e' rfl
          rw [e3] at hyp
          exact hyp (List.mem_append_left _ h2)
/-- all in one round -/
def ring (n : Nat) : Gr := (List.range n).map fun i => if i + 1 < n then [i + 1] else [0]
theorem nx_ring (n i : Nat) (h : i < n) : nx (ring n) i = if i + 1 < n then [i + 1] else [0] := by
  unfold ring
  rw [nx_map, if_pos h]
theorem ring_to {n : Nat} : ∀ (k u : Nat), u + k < n → Rch (ring n) u (u + k)
  | 0, u, _ => .refl
  | k + 1, u, h => (ring_to k u (by omega)).step (by rw [nx_ring n _ (by omega), if_pos (by omega)]; simp; omega)
theorem ring_all {n u v : Nat} (hu : u < n) (hv : v < n) : Rch (ring n) u v := by
  have h1 : Rch (ring n) u (n - 1) := by have := ring_to (n := n) (n - 1 - u) u (by omega); rwa [show u + (n - 1 - u) = n - 1 by omega] at this
  have h2 : Rch (ring n) (n - 1) 0 := .one (by rw [nx_ring n _ (by omega), if_neg (by omega)]; simp)
  have h3 : Rch (ring n) 0 v := by have := ring_to (n := n) v 0 (by omega); rwa [Nat.zero_add] at this
  exact (h1.trans h2).trans h3
theorem ring_lt {n u v : Nat} (hu : u < n) (h : Rch (ring n) u v) : v < n := rch_closed (fun x => x < n) (fun x hx y hy => by
  rw [nx_ring n x hx] at hy
  split at hy
  · obtain rfl := List.mem_singleton.1 hy; assumption
  · obtain rfl := List.mem_singleton.1 hy; omega) h hu
theorem ring_groups {n : Nat} (hn : 0 < n) : Groups (ring n) [List.range n] := by
  have hl : (ring n).length = n := by simp [ring]
  refine ⟨fun g hg => ?_, fun g hg => ?_, fun v hv => ⟨List.range n, by simp, List.mem_range.2 (by omega)⟩, fun g hg v hv => ?_, List.pairwise_singleton _ _, List.pairwise_singleton _ _⟩
  · obtain rfl := List.mem_singleton.1 hg
    refine ⟨0, List.mem_range.2 hn, fun v => ?_⟩
    rw [List.mem_range]
    exact ⟨fun h => ⟨ring_all hn h, ring_all h hn⟩, fun h => ring_lt hn h.1⟩
  · obtain rfl := List.mem_singleton.1 hg
    exact List.pairwise_lt_range
  · obtain rfl := List.mem_singleton.1 hg
    rw [hl]; exact List.mem_range.1 hv
/-- the needs that tell whether answers are fixed -/
def liv : Gr := [[1], [0], [0]]
theorem liv_groups : Groups liv [[0, 1], [2]] := by
  have h01 : Rch liv 0 1 := .one (by decide)
  have h10 : Rch liv 1 0 := .one (by decide)
  have cl : ∀ {v}, Rch liv 0 v → v < 2 := fun {v} h => rch_closed (fun x => x < 2) (fun x hx y hy => by
    rcases (show x = 0 ∨ x = 1 by omega) with rfl | rfl
    · have : y = 1 := by simpa [liv, nx] using hy
      omega
    · have : y = 0 := by simpa [liv, nx] using hy
      omega) h (by omega)
  have cl3 : ∀ {v}, Rch liv 2 v → v < 3 := fun {v} h => rch_closed (fun x => x < 3) (fun x hx y hy => by
    rcases (show x = 0 ∨ x = 1 ∨ x = 2 by omega) with rfl | rfl | rfl
    · have : y = 1 := by simpa [liv, nx] using hy
      omega
    · have : y = 0 := by simpa [liv, nx] using hy
      omega
    · have : y = 0 := by simpa [liv, nx] using hy
      omega) h (by omega)
  refine ⟨fun g hg => ?_, fun g hg => ?_, fun v hv => ?_, fun g hg v hv => ?_, ?_, ?_⟩
  · rcases List.mem_cons.1 hg with rfl | hg
    · refine ⟨0, by simp, fun v => ⟨fun hv => ?_, fun h => ?_⟩⟩
      · rcases List.mem_cons.1 hv with rfl | hv
        · exact ⟨.refl, .refl⟩
        · obtain rfl := List.mem_singleton.1 hv; exact ⟨h01, h10⟩
      · have := cl h.1
        rcases (show v = 0 ∨ v = 1 by omega) with rfl | rfl <;> simp
    · obtain rfl := List.mem_singleton.1 hg
      refine ⟨2, by simp, fun v => ⟨fun hv => ?_, fun h => ?_⟩⟩
      · obtain rfl := List.mem_singleton.1 hv; exact ⟨.refl, .refl⟩
      · have := cl3 h.1
        rcases (show v = 0 ∨ v = 1 ∨ v = 2 by omega) with rfl | rfl | rfl
        · have := cl h.2; omega
        · have := cl (h01.trans h.2); omega
        · simp
  · rcases List.mem_cons.1 hg with rfl | hg
    · simp
    · obtain rfl := List.mem_singleton.1 hg; simp
  · have : v = 0 ∨ v = 1 ∨ v = 2 := by simp [liv] at hv; omega
    rcases this with rfl | rfl | rfl
    · exact ⟨[0, 1], by simp, by simp⟩
    · exact ⟨[0, 1], by simp, by simp⟩
    · exact ⟨[2], by simp, by simp⟩
  · have : v < 3 := by
      rcases List.mem_cons.1 hg with rfl | hg
      · rcases List.mem_cons.1 hv with rfl | hv
        · omega
        · have := List.mem_singleton.1 hv; omega
      · obtain rfl := List.mem_singleton.1 hg
        have := List.mem_singleton.1 hv; omega
    simpa [liv] using this
  · simp
  · simp
theorem liv_turn {S T : Gr} {out : List Nat} (h : Cmps liv S T out) : S = [[0, 1], [2]] ∧ out = [0, 1] := by
  have hS := groups_eq h.grp liv_groups
  subst hS
  obtain ⟨op, ha⟩ := h.ask
  have hask : 1 ∈ nx T 0 := by
    rw [ha.mem]
    exact ⟨by omega, by simp, by simp, 2, by simp [nx], 0, by simp [nx], by simp [nx, liv]⟩
  have hlen := cmps_len h
  refine ⟨rfl, ?_⟩
  match out, hlen, h with
  | [a, b], _, h =>
    have ha2 := cmps_lt h a (by simp)
    have hb2 := cmps_lt h b (by simp)
    have hnd := h.nd
    simp at ha2 hb2 hnd
    have : a ≠ 1 := fun e => by
      have := (h.turn [] a [b] rfl).2.2.1 0 (by rw [e]; exact hask)
      cases this
    have e1 : a = 0 := by omega
    have e2 : b = 1 := by omega
    rw [e1, e2]
end Go.Cmp
