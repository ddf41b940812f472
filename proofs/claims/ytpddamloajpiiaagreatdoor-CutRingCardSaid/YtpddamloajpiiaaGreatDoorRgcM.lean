/-
What is proved here: on lists alone, what straightening comes to where nothing goes round, where nothing that goes round can be cut, and where the first one can; and a ring of renames behind its cut.
-/
import Derived.Test.YtpddamloajpiiaaGreatDoorWkqM
import Derived.Test.YtpddamloajpiiaaGreatDoorMa7
set_option linter.unusedSimpArgs false
set_option linter.unusedVariables false
namespace Go.Proofs.YtpddamloajpiiaaGreatDoor
open Go.Cmp Go.Cut Go.Pth
theorem str_still {s s' : Wk} {S : Gr} {e : Int} (hS : Groups s.needs S) (hf : (S.filter fun r => !stillP s.needs r) = []) (h : StrR s e s') : e = 0 ∧ s' = s := by
  cases h with
  | done => exact ⟨rfl, rfl⟩
  | stuck h1 h2 _ => rw [groups_eq h1 hS, hf] at h2; cases h2
  | full h1 h2 _ _ _ _ => rw [groups_eq h1 hS, hf] at h2; cases h2
  | cut h1 h2 _ _ _ _ _ => rw [groups_eq h1 hS, hf] at h2; cases h2
theorem str_stuck {s s' : Wk} {S gs : Gr} {g : List Nat} {e : Int} (hS : Groups s.needs S) (hf : (S.filter fun r => !stillP s.needs r) = g :: gs) (hm : ∀ i ∈ g, movP keptP (s.acts.getD i default) = false) (h : StrR s e s') : e = 33 ∧ s' = s := by
  cases h with
  | done h1 h2 => rw [groups_eq h1 hS, hf] at h2; cases h2
  | stuck => exact ⟨rfl, rfl⟩
  | full h1 h2 h3 _ h5 _ =>
    rw [groups_eq h1 hS, hf] at h2
    injection h2 with e1 _
    subst e1
    rw [hm _ (by rw [h3]; simp)] at h5; cases h5
  | cut h1 h2 h3 _ h5 _ _ =>
    rw [groups_eq h1 hS, hf] at h2
    injection h2 with e1 _
    subst e1
    rw [hm _ (by rw [h3]; simp)] at h5; cases h5
theorem str_head {s s' : Wk} {S gs : Gr} {i : Nat} {post : List Nat} {e : Int} (hS : Groups s.needs S) (hf : (S.filter fun r => !stillP s.needs r) = (i :: post) :: gs) (hm : movP keptP (s.acts.getD i default) = true) (hl : s.acts.length ≠ 1024) (h : StrR s e s') : StrR (splitP tmpN s i) e s' := by
  cases h with
  | done h1 h2 => rw [groups_eq h1 hS, hf] at h2; cases h2
  | stuck h1 h2 h3 =>
    rw [groups_eq h1 hS, hf] at h2
    injection h2 with e1 _
    subst e1
    rw [h3 i (by simp)] at hm; cases hm
  | full _ _ _ _ _ h6 => exact absurd h6 hl
  | @cut _ _ _ _ _ pre post' i' _ h1 h2 h3 h4 h5 h6 h7 =>
    rw [groups_eq h1 hS, hf] at h2
    injection h2 with e1 _
    subst e1
    cases pre with
    | nil =>
      injection h3 with e2 _
      subst e2
      exact h7
    | cons a t =>
      injection h3 with e2 _
      subst e2
      rw [h4 i (by simp)] at hm; cases hm
/-- needs that sink -/
theorem sink_groups {G : Gr} (r : Nat → Nat) (h : ∀ u v, v ∈ nx G u → r v < r u) : Groups G ((List.range G.length).map fun i => [i]) := by
  have hr : ∀ u v, Rch G u v → u = v ∨ r v < r u := fun u v h2 => by
    induction h2 with
    | refl => exact .inl rfl
    | step _ hx ih =>
      have := h _ _ hx
      rcases ih with e | e
      · subst e; exact .inr this
      · exact .inr (by omega)
  refine ⟨fun g hg => ?_, fun g hg => ?_, fun v hv => ?_, fun g hg v hv => ?_, ?_, ?_⟩
  · obtain ⟨i, hi, rfl⟩ := List.mem_map.1 hg
    refine ⟨i, by simp, fun v => ?_⟩
    rw [List.mem_singleton]
    constructor
    · rintro rfl; exact ⟨.refl, .refl⟩
    · rintro ⟨a, b⟩
      rcases hr _ _ a with e | e
      · exact e.symm
      · rcases hr _ _ b with e2 | e2
        · exact e2
        · omega
  · obtain ⟨i, hi, rfl⟩ := List.mem_map.1 hg
    exact List.pairwise_singleton _ _
  · exact ⟨[v], List.mem_map.2 ⟨v, List.mem_range.2 hv, rfl⟩, by simp⟩
  · obtain ⟨i, hi, rfl⟩ := List.mem_map.1 hg
    rw [List.mem_singleton.1 hv]
    exact List.mem_range.1 hi
  · refine List.Pairwise.map _ (fun a b h x y hx hy => ?_) List.pairwise_lt_range
    injection hx with hx; injection hy with hy
    subst hx hy
    exact h
  · refine List.Pairwise.map _ (fun a b h x hx hy => ?_) List.pairwise_lt_range
    have := List.mem_singleton.1 hx
    have := List.mem_singleton.1 hy
    omega
theorem still_one {G : Gr} {i : Nat} (h : i ∉ nx G i) : stillP G [i] = true := by
  unfold stillP
  have : (zs (nx G i)).contains (i : Int) = false := by
    rw [Bool.eq_false_iff]
    intro e
    rw [List.contains_iff_mem] at e
    unfold zs at e
    rw [List.mem_map] at e
    obtain ⟨a, ha, e⟩ := e
    have : a = i := by omega
    exact h (this ▸ ha)
  show (decide ((1 : Nat) = 1) && !(zs (nx G i)).contains (i : Int)) = true
  rw [this]; rfl
theorem sink_still {G : Gr} (r : Nat → Nat) (h : ∀ u v, v ∈ nx G u → r v < r u) : (((List.range G.length).map fun i => [i]).filter fun x => !stillP G x) = [] := by
  refine List.filter_eq_nil_iff.2 fun x hx => ?_
  obtain ⟨i, _, rfl⟩ := List.mem_map.1 hx
  rw [still_one (fun e => by have := h _ _ e; omega)]
  simp
theorem ring_still {n : Nat} (hn : 0 < n) : ([List.range n].filter fun r => !stillP (ring n) r) = [List.range n] := by
  have : stillP (ring n) (List.range n) = false := by
    unfold stillP
    by_cases e : n = 1
    · subst e; decide
    · simp [e]
  simp [this]
theorem ring_len (n : Nat) : (ring n).length = n := by simp [ring]
theorem rise_ring (n : Nat) : (ring n).map rise = ring n := by
  unfold ring
  rw [List.map_map]
  refine List.map_congr_left fun i _ => ?_
  show rise (if i + 1 < n then [i + 1] else [0]) = _
  split <;> rfl
theorem ok_ring {n : Nat} : Ok (ring n) := fun l hl x hx => by
  rw [ring_len]
  obtain ⟨i, hi, rfl⟩ := List.mem_map.1 hl
  have := List.mem_range.1 hi
  split at hx
  · rw [List.mem_singleton.1 hx]; omega
  · rw [List.mem_singleton.1 hx]; omega
/-- what is in a ring of acts of which none can be cut -/
theorem ring_stuck {l : List Ac} {n : Nat} (hn : 0 < n) (hm : ∀ i, i < n → movP keptP (l.getD i default) = false) {e : Int} {s' : Wk} (h : StrR ⟨l, ring n, 0⟩ e s') : e = 33 ∧ s' = ⟨l, ring n, 0⟩ := by
  have hR : (List.range n) = 0 :: (List.range n).tail := by
    obtain ⟨m, rfl⟩ : ∃ m, n = m + 1 := ⟨n - 1, by omega⟩
    rw [List.range_succ_eq_map]; rfl
  exact str_stuck (s := ⟨l, ring n, 0⟩) (ring_groups hn) (ring_still hn) (fun i hi => hm i (List.mem_range.1 hi)) h
theorem rename_no (to : Tx) (a : Ac) (h : a.op = 3) : takes to a = false := by
  unfold takes
  rw [h]; rfl
theorem tmp0 : tmpN 0 = [46, 116, 115, 45, 48] := by
  unfold tmpN tempOf
  rw [if_pos (by decide)]
  have e : Lib.decDigits (((0 : Nat) : Int).toNat) = [48] := by
    rw [show ((0 : Nat) : Int).toNat = 0 from rfl, Lib.decDigits]
    rfl
  rw [e]
  rfl
/-- a ring of renames behind its cut -/
theorem ring_split {l : List Ac} {n : Nat} (hn : 2 ≤ n) (hl : l.length = n) (h3 : ∀ a ∈ l, a.op = 3) :
    (splitP tmpN ⟨l, ring n, 0⟩ 0).acts = l.set 0 { l.getD 0 default with t := [46, 116, 115, 45, 48] } ++ [⟨3, [46, 116, 115, 45, 48], (l.getD 0 default).t, 0, 0⟩] ∧ (splitP tmpN ⟨l, ring n, 0⟩ 0).cuts = 1 ∧ (splitP tmpN ⟨l, ring n, 0⟩ 0).needs.length = n + 1 ∧
      ∀ k, nx (splitP tmpN ⟨l, ring n, 0⟩ 0).needs k = if k = 0 then [] else if k < n then (if k + 1 < n then [k + 1] else [0]) else if k = n then [0, 1] else [] := by
  have hd : (l.getD 0 default).op = 3 := by
    rw [List.getD_eq_getElem?_getD, List.getElem?_eq_getElem (by omega)]
    exact h3 _ (List.getElem_mem _)
  have ha : ∀ a ∈ actsS tmpN ⟨l, ring n, 0⟩ 0, a.op = 3 := fun a h => by
    unfold actsS at h
    rcases List.mem_append.1 h with e | e
    · rcases List.mem_or_eq_of_mem_set e with e | e
      · exact h3 a e
      · subst e; exact hd
    · obtain rfl := List.mem_singleton.1 e
      rfl
  refine ⟨?_, rfl, by simp [splitP, hl], fun k => ?_⟩
  · show actsS tmpN ⟨l, ring n, 0⟩ 0 = _
    unfold actsS
    show l.set 0 { l.getD 0 default with t := tmpN 0 } ++ [⟨3, tmpN 0, (l.getD 0 default).t, 0, 0⟩] = _
    rw [tmp0]
  · have hr := nx_needs ⟨l, ring n, 0⟩ 0 k (by show 0 < (ring n).length; rw [ring_len]; omega)
    have hs := nx_split ⟨l, ring n, 0⟩ 0 k
    show nx (splitP tmpN ⟨l, ring n, 0⟩ 0).needs k = _
    rw [hs]
    show (if k < l.length + 1 then (if takes (l.getD 0 default).t ((actsS tmpN ⟨l, ring n, 0⟩ 0).getD k default) then inst 0 l.length (nx (needsS ⟨l, ring n, 0⟩ 0) k) else nx (needsS ⟨l, ring n, 0⟩ 0) k) else []) = _
    rw [hl]
    by_cases hk : k < n + 1
    · have hal : k < (actsS tmpN ⟨l, ring n, 0⟩ 0).length := by unfold actsS; simp [hl]; omega
      rw [if_pos hk, rename_no _ _ (by
        rw [List.getD_eq_getElem?_getD, List.getElem?_eq_getElem hal]
        exact ha _ (List.getElem_mem hal)), if_neg (by simp), hr]
      show (if 0 = k then [] else if k = (ring n).length then put 0 (nx (ring n) 0) else nx (ring n) k) = _
      rw [ring_len]
      by_cases e0 : k = 0
      · rw [if_pos e0.symm, if_pos e0]
      · rw [if_neg (fun e => e0 e.symm), if_neg e0]
        by_cases e1 : k = n
        · rw [if_pos e1, if_neg (by omega), if_pos e1, nx_ring n 0 (by omega), if_pos (by omega)]
          rfl
        · rw [if_neg e1, if_pos (by omega), nx_ring n k (by omega)]
    · rw [if_neg hk, if_neg (by omega), if_neg (by omega), if_neg (by omega)]
theorem ring_cut {l : List Ac} {n : Nat} (hn : 2 ≤ n) (hn2 : n ≤ 1000) (hl : l.length = n) (h3 : ∀ a ∈ l, a.op = 3) (hk : keptP (l.getD 0 default).p = false) {e : Int} {s' : Wk} (h : StrR ⟨l, ring n, 0⟩ e s') : e = 0 ∧ s' = splitP tmpN ⟨l, ring n, 0⟩ 0 := by
  have hR : (List.range n) = 0 :: (List.range n).tail := by
    obtain ⟨m, rfl⟩ : ∃ m, n = m + 1 := ⟨n - 1, by omega⟩
    rw [List.range_succ_eq_map]; rfl
  have hd : (l.getD 0 default).op = 3 := by
    rw [List.getD_eq_getElem?_getD, List.getElem?_eq_getElem (by omega)]
    exact h3 _ (List.getElem_mem _)
  have h1 := str_head (s := ⟨l, ring n, 0⟩) (i := 0) (post := (List.range n).tail) (gs := []) (ring_groups (by omega)) (by rw [← hR]; exact ring_still (by omega)) (by
    show movP keptP (l.getD 0 default) = true
    unfold movP
    rw [hd, hk]; rfl) (by show l.length ≠ 1024; omega) h
  obtain ⟨_, _, hnl, hnx⟩ := ring_split hn hl h3
  have hsk : ∀ u v, v ∈ nx (splitP tmpN ⟨l, ring n, 0⟩ 0).needs u → (fun k => if k = 0 then 0 else if k < n then n - k else n + 1) v < (fun k => if k = 0 then 0 else if k < n then n - k else n + 1) u := fun u v hv => by
    rw [hnx u] at hv
    simp only []
    by_cases e0 : u = 0
    · rw [if_pos e0] at hv; cases hv
    · rw [if_neg e0] at hv ⊢
      by_cases e1 : u < n
      · rw [if_pos e1] at hv ⊢
        by_cases e2 : u + 1 < n
        · rw [if_pos e2] at hv
          rw [List.mem_singleton.1 hv, if_neg (by omega), if_pos e2]
          omega
        · rw [if_neg e2] at hv
          rw [List.mem_singleton.1 hv, if_pos rfl]
          omega
      · rw [if_neg e1] at hv ⊢
        by_cases e2 : u = n
        · rw [if_pos e2] at hv
          rcases List.mem_cons.1 hv with e3 | e3
          · rw [e3, if_pos rfl]; omega
          · rw [List.mem_singleton.1 e3, if_neg (by omega), if_pos (by omega)]; omega
        · rw [if_neg e2] at hv; cases hv
  exact str_still (sink_groups _ hsk) (sink_still _ hsk) h1
end Go.Proofs.YtpddamloajpiiaaGreatDoor
