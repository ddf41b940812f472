/-
What is proved here: on lists alone, what order's row comes to, for needs of none and for a chain; and what goes round in a chain and in a ring.
-/
import Derived.Test.YtnbjfmkckebfgaaGreatLiv
set_option linter.unusedSimpArgs false
set_option linter.unusedVariables false
namespace Go.Cmp
open Go.Proofs.YtnbjfmkckebfgaaGreat
/-- lists turned, one number put in -/
def putT (i : Nat) (T : Gr) (v : Nat) : Gr := T.set v (nx T v ++ [i])
/-- lists turned, as far as the first i -/
def trI (G : Gr) : Nat → Gr
  | 0 => List.replicate G.length []
  | i + 1 => (nx G i).foldl (putT i) (trI G i)
theorem putT_len (i : Nat) (T : Gr) (v : Nat) : (putT i T v).length = T.length := by simp [putT]
theorem foldT_len (i : Nat) : ∀ (l : List Nat) (T : Gr), (l.foldl (putT i) T).length = T.length
  | [], _ => rfl
  | v :: r, T => by rw [List.foldl_cons, foldT_len i r, putT_len]
theorem trI_len (G : Gr) : ∀ i, (trI G i).length = G.length
  | 0 => by simp [trI]
  | i + 1 => by rw [trI, foldT_len, trI_len G i]
/-- which place is taken, as far as the first k -/
def fstK (l : List Nat) : Nat → Nat
  | 0 => 0
  | k + 1 => if l.getD k 0 < l.getD (fstK l k) 0 then k else fstK l k
def fstP (l : List Nat) : Nat := fstK l l.length
theorem fstK_lt (l : List Nat) (h : 0 < l.length) : ∀ k, k ≤ l.length → fstK l k < l.length
  | 0, _ => h
  | k + 1, hk => by
    unfold fstK
    split
    · omega
    · exact fstK_lt l h k (by omega)
theorem fstK_0 (l : List Nat) (h : ∀ k, k < l.length → l.getD 0 0 ≤ l.getD k 0) : ∀ k, k ≤ l.length → fstK l k = 0
  | 0, _ => rfl
  | k + 1, hk => by
    unfold fstK
    rw [fstK_0 l h k (by omega), if_neg (by have := h k (by omega); omega)]
/-- a need met: what waits, and how many needs are open -/
def relF (s : List Nat × List Int) (n : Nat) : List Nat × List Int := (if s.2.getD n 0 - 1 = 0 then s.1 ++ [n] else s.1, s.2.set n (s.2.getD n 0 - 1))
structure OSt where
  ready : List Nat
  opn : List Int
  out : List Nat
def nextO (T : Gr) (s : OSt) : OSt :=
  let x := s.ready.getD (fstP s.ready) 0
  let r := (nx T x).foldl relF (s.ready.eraseIdx (fstP s.ready), s.opn)
  ⟨r.1, r.2, s.out ++ [x]⟩
def opn0 (G : Gr) : List Int := G.map fun l => (l.length : Int)
def rdy0 (G : Gr) (k : Nat) : List Nat := (List.range k).filter fun i => decide ((nx G i).length = 0)
def simO (G : Gr) : Nat → OSt
  | 0 => ⟨rdy0 G G.length, opn0 G, []⟩
  | k + 1 => nextO (trI G G.length) (simO G k)
theorem rdy0_succ (G : Gr) (k : Nat) : rdy0 G (k + 1) = if (nx G k).length = 0 then rdy0 G k ++ [k] else rdy0 G k := by
  unfold rdy0
  rw [List.range_succ, List.filter_append, List.filter_cons, List.filter_nil]
  by_cases h : (nx G k).length = 0
  · rw [if_pos h, if_pos (decide_eq_true h)]
  · rw [if_neg h, if_neg (by rw [decide_eq_true_eq]; exact h), List.append_nil]
/-- needs of none -/
def none (n : Nat) : Gr := List.replicate n []
theorem nx_none (n i : Nat) : nx (none n) i = [] := by
  unfold nx none
  rw [List.getD_eq_getElem?_getD, List.getElem?_replicate]
  split <;> rfl
theorem trI_none (n : Nat) : ∀ i, trI (none n) i = List.replicate n []
  | 0 => by simp [trI, none]
  | i + 1 => by rw [trI, nx_none, List.foldl_nil, trI_none n i]
theorem up_at (k m i : Nat) (h : i < m) : ((List.range m).map (k + ·)).getD i 0 = k + i := by
  rw [List.getD_eq_getElem?_getD, List.getElem?_map, List.getElem?_range h]; rfl
theorem fst_up (k m : Nat) : fstP ((List.range m).map (k + ·)) = 0 := by
  unfold fstP
  refine fstK_0 _ (fun i hi => ?_) _ (Nat.le_refl _)
  have hm : i < m := by simpa using hi
  rw [up_at _ _ _ hm, up_at _ _ _ (by omega)]
  omega
theorem sim_none (n : Nat) : ∀ k, k ≤ n → simO (none n) k = ⟨(List.range (n - k)).map (k + ·), List.replicate n 0, List.range k⟩
  | 0, _ => by
    have h1 : rdy0 (none n) (none n).length = (List.range (n - 0)).map (0 + ·) := by
      unfold rdy0
      rw [show (none n).length = n by simp [none], List.filter_eq_self.2 (fun i _ => by rw [nx_none]; rfl)]
      simp
    have h2 : opn0 (none n) = List.replicate n 0 := by simp [opn0, none]
    rw [simO, h1, h2]
    rfl
  | k + 1, hk => by
    have ih := sim_none n k (by omega)
    rw [simO, ih]
    unfold nextO
    simp only []
    rw [fst_up, up_at _ _ _ (by omega), trI_none]
    have e0 : nx (List.replicate n ([] : List Nat)) (k + 0) = [] := nx_none n _
    rw [e0, List.foldl_nil]
    have e1 : ((List.range (n - k)).map (k + ·)).eraseIdx 0 = (List.range (n - (k + 1))).map (k + 1 + ·) := by
      obtain ⟨m, hm⟩ : ∃ m, n - k = m + 1 := ⟨n - k - 1, by omega⟩
      rw [hm, show n - (k + 1) = m by omega, List.range_succ_eq_map]
      simp only [List.map_cons, List.eraseIdx_cons_zero, List.map_map]
      refine List.map_congr_left fun a _ => ?_
      show k + (a + 1) = k + 1 + a
      omega
    rw [e1, List.range_succ]
    try rfl
/-- what is needed in a chain, turned -/
theorem trI_chain (n : Nat) : ∀ i, i ≤ n → (trI (chain n) i).length = n ∧ ∀ v, nx (trI (chain n) i) v = if 1 ≤ v ∧ v ≤ i ∧ v < n then [v - 1] else []
  | 0, _ => by
    refine ⟨by simp [trI, chain], fun v => ?_⟩
    rw [if_neg (by omega)]
    exact nx_none _ v
  | i + 1, hi => by
    obtain ⟨h1, h2⟩ := trI_chain n i (by omega)
    refine ⟨by rw [trI_len]; simp [chain], fun v => ?_⟩
    rw [trI, nx_chain]
    by_cases hn : i + 1 < n
    · rw [if_pos hn, List.foldl_cons, List.foldl_nil]
      unfold putT
      have e9 := h2 (i + 1)
      rw [if_neg (by omega)] at e9
      rw [nx_set, e9, h1]
      by_cases hv : i + 1 = v
      · subst hv
        rw [if_pos ⟨rfl, hn⟩, if_pos ⟨by omega, Nat.le_refl _, hn⟩]
        rfl
      · rw [if_neg (fun e => hv e.1), h2 v]
        by_cases e : 1 ≤ v ∧ v ≤ i ∧ v < n
        · rw [if_pos e, if_pos (by omega)]
        · rw [if_neg e, if_neg (by omega)]
    · rw [if_neg hn, List.foldl_nil, h2 v]
      by_cases e : 1 ≤ v ∧ v ≤ i ∧ v < n
      · rw [if_pos e, if_pos (by omega)]
      · rw [if_neg e, if_neg (by omega)]
theorem chain_len (n : Nat) : (chain n).length = n := by simp [chain]
theorem fst_one (x : Nat) : fstP [x] = 0 := by
  unfold fstP
  exact fstK_0 _ (fun k hk => by have : k = 0 := by simp at hk; exact hk
                                 subst this; exact Nat.le_refl _) _ (Nat.le_refl _)
theorem set_eq (l m : List Int) (i : Nat) (x : Int) (hl : l.length = m.length) (h : ∀ j, j < l.length → m.getD j 0 = if i = j then x else l.getD j 0) : l.set i x = m := by
  apply List.ext_getElem?
  intro j
  by_cases hj : j < l.length
  · have := h j hj
    rw [List.getElem?_set]
    rw [List.getD_eq_getElem?_getD, List.getElem?_eq_getElem (by omega)] at this
    rw [List.getElem?_eq_getElem (show j < m.length by omega)]
    by_cases e : i = j
    · subst e
      rw [if_pos rfl, if_pos hj]
      rw [if_pos rfl] at this
      exact congrArg some this.symm
    · rw [if_neg e, List.getElem?_eq_getElem hj]
      rw [if_neg e, List.getD_eq_getElem?_getD, List.getElem?_eq_getElem hj] at this
      exact congrArg some this.symm
  · rw [List.getElem?_eq_none (by simp; omega), List.getElem?_eq_none (by omega)]
def opnC (n k : Nat) : List Int := (List.range n).map fun i => if i + 1 + k < n then 1 else 0
theorem opnC_at (n k i : Nat) (h : i < n) : (opnC n k).getD i 0 = if i + 1 + k < n then 1 else 0 := by
  unfold opnC
  rw [List.getD_eq_getElem?_getD, List.getElem?_map, List.getElem?_range h]; rfl
theorem sim_chain (n : Nat) : ∀ k, k ≤ n → simO (chain n) k = ⟨if k < n then [n - 1 - k] else [], opnC n k, (List.range k).map (n - 1 - ·)⟩
  | 0, _ => by
    have h1 : rdy0 (chain n) (chain n).length = if 0 < n then [n - 1 - 0] else [] := by
      rw [chain_len]
      have key : ∀ k, k ≤ n → rdy0 (chain n) k = if k = n ∧ 0 < n then [n - 1] else [] := by
        intro k
        induction k with
        | zero => intro _; rw [if_neg (by omega)]; rfl
        | succ k ih =>
          intro hk
          rw [rdy0_succ, ih (by omega), nx_chain, if_neg (by omega : ¬ (k = n ∧ 0 < n))]
          by_cases e : k + 1 < n
          · rw [if_pos e, if_neg (by simp), if_neg (by omega)]
          · rw [if_neg e, if_pos (show ([] : List Nat).length = 0 from rfl), if_pos (by omega)]
            have : k = n - 1 := by omega
            subst this; rfl
      rw [key n (Nat.le_refl n)]
      by_cases e : 0 < n
      · rw [if_pos ⟨rfl, e⟩, if_pos e]; rfl
      · rw [if_neg (by omega), if_neg e]
    have h2 : opn0 (chain n) = opnC n 0 := by
      unfold opn0 opnC chain
      rw [List.map_map]
      refine List.map_congr_left fun i _ => ?_
      show ((if i + 1 < n then [i + 1] else []).length : Int) = _
      by_cases e : i + 1 < n
      · rw [if_pos e, if_pos (by omega)]; rfl
      · rw [if_neg e, if_neg (by omega)]; rfl
    rw [simO, h1, h2]
    rfl
  | k + 1, hk => by
    have ih := sim_chain n k (by omega)
    rw [simO, ih, if_pos (by omega)]
    unfold nextO
    simp only []
    rw [fst_one]
    have e0 : ([n - 1 - k].getD 0 0 : Nat) = n - 1 - k := rfl
    have e1 : ([n - 1 - k].eraseIdx 0 : List Nat) = [] := rfl
    have e2 : (List.range (k + 1)).map (n - 1 - ·) = (List.range k).map (n - 1 - ·) ++ [n - 1 - k] := by rw [List.range_succ, List.map_append]; rfl
    rw [e0, e1, e2, chain_len, (trI_chain n n (Nat.le_refl n)).2]
    by_cases e : k + 1 < n
    · rw [if_pos (by omega), if_pos e, List.foldl_cons, List.foldl_nil]
      unfold relF
      simp only []
      rw [opnC_at n k _ (by omega), if_pos (by omega), if_pos (by omega)]
      have q1 : (opnC n k).set (n - 1 - k - 1) (1 - 1) = opnC n (k + 1) := by
        refine set_eq _ _ _ _ (by simp [opnC]) (fun j hj => ?_)
        have hj2 : j < n := by simpa [opnC] using hj
        rw [opnC_at n _ j hj2, opnC_at n k j hj2]
        by_cases e3 : n - 1 - k - 1 = j
        · rw [if_pos e3, if_neg (by omega)]; rfl
        · rw [if_neg e3]
          by_cases e4 : j + 1 + k < n
          · rw [if_pos e4, if_pos (by omega)]
          · rw [if_neg e4, if_neg (by omega)]
      rw [q1]
      have q2 : n - 1 - k - 1 = n - 1 - (k + 1) := by omega
      rw [q2]
      rfl
    · rw [if_neg (by omega), if_neg e, List.foldl_nil]
      congr 1
      unfold opnC
      refine List.map_congr_left fun j hj => ?_
      have := List.mem_range.1 hj
      by_cases e4 : j + 1 + k < n
      · exact absurd e4 (by omega)
      · rw [if_neg e4, if_neg (by omega)]
/-- none goes round -/
theorem none_groups (n : Nat) : Groups (none n) ((List.range n).map fun i => [i]) := by
  have hl : (none n).length = n := by simp [none]
  have hr : ∀ u v, Rch (none n) u v → u = v := fun u v h => by
    induction h with
    | refl => rfl
    | step _ hx _ => rw [nx_none] at hx; cases hx
  refine ⟨fun g hg => ?_, fun g hg => ?_, fun v hv => ?_, fun g hg v hv => ?_, ?_, ?_⟩
  · obtain ⟨i, hi, rfl⟩ := List.mem_map.1 hg
    refine ⟨i, by simp, fun v => ?_⟩
    rw [List.mem_singleton]
    constructor
    · rintro rfl; exact ⟨.refl, .refl⟩
    · rintro ⟨a, b⟩
      exact (hr _ _ a).symm
  · obtain ⟨i, hi, rfl⟩ := List.mem_map.1 hg
    exact List.pairwise_singleton _ _
  · rw [hl] at hv
    exact ⟨[v], List.mem_map.2 ⟨v, List.mem_range.2 hv, rfl⟩, by simp⟩
  · obtain ⟨i, hi, rfl⟩ := List.mem_map.1 hg
    rw [hl, List.mem_singleton.1 hv]
    exact List.mem_range.1 hi
  · refine List.Pairwise.map _ (fun a b h x y hx hy => ?_) List.pairwise_lt_range
    injection hx with hx; injection hy with hy
    subst hx hy
    exact h
  · refine List.Pairwise.map _ (fun a b h x hx hy => ?_) List.pairwise_lt_range
    have := List.mem_singleton.1 hx
    have := List.mem_singleton.1 hy
    omega
theorem still_one {G : Gr} {i : Nat} (h : i ∉ nx G i) : stillP G [i] = true := by
  unfold stillP
  have : (zs (nx G i)).contains (i : Int) = false := by
    rw [Bool.eq_false_iff]
    intro e
    rw [List.contains_iff_mem] at e
    unfold zs at e
    rw [List.mem_map] at e
    obtain ⟨a, ha, e⟩ := e
    have : a = i := by omega
    exact h (this ▸ ha)
  show (decide ((1 : Nat) = 1) && !(zs (nx G i)).contains (i : Int)) = true
  rw [this]; rfl
theorem none_still (n : Nat) {S : Gr} (h : Groups (none n) S) : S.filter (fun r => !stillP (none n) r) = [] := by
  rw [groups_eq h (none_groups n)]
  refine List.filter_eq_nil_iff.2 fun r hr => ?_
  obtain ⟨i, _, rfl⟩ := List.mem_map.1 hr
  rw [still_one (by rw [nx_none]; simp)]
  simp
theorem chain_still (n : Nat) {S : Gr} (h : Groups (chain n) S) : S.filter (fun r => !stillP (chain n) r) = [] := by
  rw [groups_eq h (chain_groups n)]
  refine List.filter_eq_nil_iff.2 fun r hr => ?_
  obtain ⟨i, _, rfl⟩ := List.mem_map.1 hr
  rw [still_one (by rw [nx_chain]; split <;> simp)]
  simp
theorem ring_still {n : Nat} (hn : 0 < n) {S : Gr} (h : Groups (ring n) S) : (S.filter fun r => !stillP (ring n) r) = [List.range n] := by
  rw [groups_eq h (ring_groups hn)]
  have : stillP (ring n) (List.range n) = false := by
    unfold stillP
    by_cases e : n = 1
    · subst e; decide
    · simp [e]
  simp [this]
end Go.Cmp
