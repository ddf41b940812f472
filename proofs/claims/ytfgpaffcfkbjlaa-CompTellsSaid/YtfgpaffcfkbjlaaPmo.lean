/-
What is proved here: needs that stand twice, and one that needs itself: the same components; it goes round then. On lists alone.
-/
import Derived.Test.YtfgpaffcfkbjlaaPuv
import Derived.Test.YtfgpaffcfkbjlaaDel
set_option linter.unusedSimpArgs false
set_option linter.unusedVariables false
namespace Go.Proofs.Ytfgpaffcfkbjlaa
open Go.Cmp Go.RowKit
/-- each list twice, and k behind that of k -/
def twin (G : Gr) (k i : Nat) : List Nat := nx G i ++ nx G i ++ if i = k then [k] else []
def twins (G : Gr) (k i : Nat) : Gr := (List.range i).map (twin G k)
theorem twins_succ (G : Gr) (k i : Nat) : twins G k (i + 1) = twins G k i ++ [twin G k i] := by
  unfold twins
  rw [List.range_succ, List.map_append]
  rfl
theorem twins_len (G : Gr) (k i : Nat) : (twins G k i).length = i := by simp [twins]
theorem nx_twins {G : Gr} {k u : Nat} (h : u < G.length) : nx (twins G k G.length) u = twin G k u := by
  unfold nx twins
  rw [List.getD_eq_getElem?_getD, List.getElem?_map, List.getElem?_range h]
  rfl
theorem nx_over {G : Gr} {u : Nat} (h : G.length ≤ u) : nx G u = [] := by
  unfold nx; rw [List.getD_eq_getElem?_getD, List.getElem?_eq_none h]; rfl
theorem twins_alike (G : Gr) (k : Nat) : Go.Cmp.Alike G (twins G k G.length) := by
  refine ⟨twins_len _ _ _, fun u v hne => ?_⟩
  rcases Nat.lt_or_ge u G.length with h | h
  · rw [nx_twins h]
    unfold twin
    by_cases e : u = k
    · rw [if_pos e]
      constructor
      · intro h1; exact List.mem_append_left _ (List.mem_append_left _ h1)
      · intro h1
        rcases List.mem_append.1 h1 with h2 | h2
        · rcases List.mem_append.1 h2 with h3 | h3 <;> exact h3
        · exact absurd ((List.mem_singleton.1 h2).trans e.symm).symm hne
    · rw [if_neg e, List.append_nil]
      constructor
      · intro h1; exact List.mem_append_left _ h1
      · intro h1; rcases List.mem_append.1 h1 with h3 | h3 <;> exact h3
  · rw [nx_over h, nx_over (by rw [twins_len]; exact h)]
theorem twins_ok {G : Gr} (hG : Ok G) {k : Nat} (hk : k < G.length) : Ok (twins G k G.length) := fun l hl v hv => by
  rw [twins_len]
  obtain ⟨i, hi, rfl⟩ := List.mem_map.1 hl
  unfold twin at hv
  rcases List.mem_append.1 hv with h2 | h2
  · rcases List.mem_append.1 h2 with h3 | h3 <;> exact (nx_lt hG h3).1
  · split at h2
    · rw [List.mem_singleton.1 h2]; exact hk
    · cases h2
theorem twin_len {G : Gr} {k i : Nat} (h : (nx G i).length ≤ 500) : (twin G k i).length ≤ 1001 := by
  unfold twin
  rw [List.length_append, List.length_append]
  have : (if i = k then [k] else ([] : List Nat)).length ≤ 1 := by split <;> simp
  omega
theorem twins_sm {G : Gr} {k : Nat} (h : ∀ i, i < G.length → (nx G i).length ≤ 500) : ∀ l ∈ twins G k G.length, l.length ≤ 1024 := fun l hl => by
  obtain ⟨i, hi, rfl⟩ := List.mem_map.1 hl
  have := twin_len (k := k) (h i (List.mem_range.1 hi))
  omega
theorem twins_round {G : Gr} {k : Nat} (hk : k < G.length) {S : Gr} (h : Groups (twins G k G.length) S) : ∃ g ∈ S, k ∈ g ∧ stillP (twins G k G.length) g = false := by
  obtain ⟨g, hg, hkg⟩ := h.all k (by rw [twins_len]; exact hk)
  refine ⟨g, hg, hkg, ?_⟩
  unfold stillP
  by_cases h1 : g.length = 1
  · obtain ⟨a, rfl⟩ := List.length_eq_one_iff.1 h1
    obtain rfl := List.mem_singleton.1 hkg
    have : (zs (nx (twins G k G.length) k)).contains (k : Int) = true := by
      rw [List.contains_iff_mem, nx_twins hk]
      exact List.mem_map.2 ⟨k, by unfold twin; rw [if_pos rfl]; simp, rfl⟩
    show (decide ([k].length = 1) && !(zs (nx (twins G k G.length) k)).contains (k : Int)) = false
    rw [this]; rfl
  · simp [h1]
/-- needs that check takes are numbers -/
theorem zg_of {N : List (List Int)} (h : chk N = 0) : ∃ G : Gr, N = zg G ∧ Ok G ∧ G.length ≤ 1024 ∧ ∀ l ∈ G, l.length ≤ 1024 := by
  unfold chk at h
  split at h
  · cases h
  · rename_i h1
    split at h
    · cases h
    · rename_i h2
      have hl : N.length ≤ 1024 := by
        rcases Nat.lt_or_ge 1024 N.length with h3 | h3
        · exact absurd (.inl h3) h1
        · exact h3
      have hs : ∀ l ∈ N, l.length ≤ 1024 := fun l hl => by
        rcases Nat.lt_or_ge 1024 l.length with h3 | h3
        · exact absurd (.inr (List.any_eq_true.2 ⟨l, hl, decide_eq_true h3⟩)) h1
        · exact h3
      have hb : ∀ l ∈ N, ∀ z ∈ l, 0 ≤ z ∧ z < (N.length : Int) := fun l hl z hz => by
        have h4 : noneP N.length z = false := by
          rw [Bool.eq_false_iff]
          intro h5
          exact h2 (List.any_eq_true.2 ⟨l, hl, List.any_eq_true.2 ⟨z, hz, h5⟩⟩)
        unfold noneP at h4
        rw [Bool.or_eq_false_iff] at h4
        have a := of_decide_eq_false h4.1
        have b := of_decide_eq_false h4.2
        omega
      have e : N = zg (N.map fun l => l.map Int.toNat) := by
        unfold zg zs
        rw [List.map_map]
        refine (List.map_id N).symm.trans (List.map_congr_left fun l hl => ?_)
        show l = (l.map Int.toNat).map fun n : Nat => (n : Int)
        rw [List.map_map]
        refine (List.map_id l).symm.trans (List.map_congr_left fun z hz => ?_)
        have := hb l hl z hz
        show z = ((z.toNat : Nat) : Int)
        omega
      refine ⟨N.map fun l => l.map Int.toNat, e, fun l hl v hv => ?_, by simpa using hl, fun l hl => ?_⟩
      · obtain ⟨l', hl', rfl⟩ := List.mem_map.1 hl
        obtain ⟨z, hz, rfl⟩ := List.mem_map.1 hv
        have := hb l' hl' z hz
        rw [List.length_map]
        omega
      · obtain ⟨l', hl', rfl⟩ := List.mem_map.1 hl
        rw [List.length_map]
        exact hs l' hl'
end Go.Proofs.Ytfgpaffcfkbjlaa
