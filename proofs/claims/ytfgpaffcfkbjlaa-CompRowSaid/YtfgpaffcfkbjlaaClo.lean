/-
What is proved here: law CompLong, by a contract.
-/
import Derived.Test.YtfgpaffcfkbjlaaLon
set_option linter.unusedSimpArgs false
set_option linter.unusedVariables false
namespace Go.Proofs.Ytfgpaffcfkbjlaa
open Go.Cmp Go.RowKit
theorem chk_many {G : Gr} (h : 1024 < G.length) : chk (zg G) = 2 := by
  unfold chk
  rw [if_pos (.inl (by simpa using h))]
theorem zeros_ls (W : World) (N : Nat) : LsAt ((W.alloc (.cells (Array.replicate N (.int .i64 0)) 3)).alloc (.cells #[.slice (some ⟨W.heap.size, 0, none⟩) N N] 33)) (some ⟨W.heap.size + 1, 0, none⟩) (zg [List.replicate N 0]) := fun i hi => by
  have : i = 0 := by simpa using hi
  subst this
  have L2 := lies_new (W.alloc (.cells (Array.replicate N (.int .i64 0)) 3)) 33 #[.slice (some ⟨W.heap.size, 0, none⟩) N N]
  rw [World.size_alloc] at L2
  have L1 := lies_alloc (lies_new W 3 (Array.replicate N (.int .i64 0))) (.cells #[.slice (some ⟨W.heap.size, 0, none⟩) N N] 33)
  refine ⟨W.heap.size + 1, 0, some ⟨W.heap.size, 0, none⟩, N, rfl, lies_lt L2, ?_, ?_, fun j hj => ⟨W.heap.size, 0, rfl, lies_lt L1, ?_⟩⟩
  · rw [lies_cell L2]; simp [zg, zs]
  · simp [zg, zs]
  · have hjN : j < N := by simpa [zg, zs] using hj
    rw [lies_cell L1, Nat.zero_add, Array.getElem?_replicate, if_pos hjN]
    simp [zg, zs, iV]
theorem zeros_any (N : Nat) (hN : N ≤ 1000000) (W : World) : Calls Try.prog 11 #[.slice (some ⟨W.heap.size + 1, 0, none⟩) 1 1] ((W.alloc (.cells (Array.replicate N (.int .i64 0)) 3)).alloc (.cells #[.slice (some ⟨W.heap.size, 0, none⟩) N N] 33)) fun e w' => ∃ A m C, e = .returned (.tuple #[.slice A m C, .int .i64 (if 1024 < N then 2 else 0)]) ∧ Below W.heap.size W w' := by
  have hb : Below W.heap.size W ((W.alloc (.cells (Array.replicate N (.int .i64 0)) 3)).alloc (.cells #[.slice (some ⟨W.heap.size, 0, none⟩) N N] 33)) := (below_alloc _ _).alloc (by simp) _
  by_cases h : 1024 < N
  · have hc : chk (zg [List.replicate N 0]) = 2 := by
      unfold chk
      rw [if_pos (.inr (by simp [zg, zs, longP, h]))]
    have := round_bad (some ⟨W.heap.size + 1, 0, none⟩) 1 (zg [List.replicate N 0]) _ (zeros_ls W N) (by simp) (fun l hl => by
      have : l = zs (List.replicate N 0) := by simpa [zg] using hl
      rw [this]; simp [zs]; omega) (by rw [hc]; decide)
    rw [hc] at this
    refine (show Calls Try.prog 11 #[.slice (some ⟨W.heap.size + 1, 0, none⟩) 1 1] _ _ from this).mono ?_
    rintro e w' ⟨rfl, h2⟩
    rw [if_pos h]
    exact ⟨none, 0, 0, rfl, hb.trans (h2.mono hb.size)⟩
  · have := round_any (some ⟨W.heap.size + 1, 0, none⟩) 1 [List.replicate N 0] (fun l hl v hv => by
      obtain rfl := List.mem_singleton.1 hl
      obtain ⟨_, rfl⟩ := List.mem_replicate.1 hv
      simp) (by simp) (by simp) (fun l hl => by
      obtain rfl := List.mem_singleton.1 hl
      simp; omega) _ (zeros_ls W N)
    refine (show Calls Try.prog 11 #[.slice (some ⟨W.heap.size + 1, 0, none⟩) 1 1] _ _ from this).mono ?_
    rintro e w' ⟨A, C, es, rfl, _, _, h2⟩
    rw [if_neg h]
    exact ⟨_, _, _, rfl, hb.trans (h2.mono hb.size)⟩
theorem cell_keep {w w' : World} {p : Addr} {v : Value} (hb : Below w.heap.size w w') (hc : w.cell? p = some v) : w'.cell? p = some v := (hb.cell (block_lt_of_cell hc)).trans hc
theorem ok_chain (N : Nat) : Ok (chain N) := fun l hl v hv => by
  obtain ⟨i, hi, rfl⟩ := List.mem_map.1 hl
  have hlen : (chain N).length = N := by simp [chain]
  rw [hlen]
  split at hv
  · rw [List.mem_singleton.1 hv]; assumption
  · cases hv
theorem ok_ring (N : Nat) : Ok (ring N) := fun l hl v hv => by
  obtain ⟨i, hi, rfl⟩ := List.mem_map.1 hl
  have hlen : (ring N).length = N := by simp [ring]
  rw [hlen]
  have := List.mem_range.1 hi
  split at hv
  · rw [List.mem_singleton.1 hv]; assumption
  · rw [List.mem_singleton.1 hv]; omega
theorem len_chain (N : Nat) : (chain N).length = N ∧ ∀ l ∈ chain N, l.length ≤ 1 := ⟨by simp [chain], fun l hl => by
  obtain ⟨i, hi, rfl⟩ := List.mem_map.1 hl
  split <;> simp⟩
theorem len_ring (N : Nat) : (ring N).length = N ∧ ∀ l ∈ ring N, l.length ≤ 1 := ⟨by simp [ring], fun l hl => by
  obtain ⟨i, hi, rfl⟩ := List.mem_map.1 hl
  split <;> simp⟩

end Go.Proofs.Ytfgpaffcfkbjlaa
