/-
What is proved here: what holds of a work holds of it behind a cut, on lists alone.
-/
import Derived.Test.YtpddamloajpiiaaGreatDoorWkmM
set_option linter.unusedSimpArgs false
set_option linter.unusedVariables false
namespace Go.Proofs.YtpddamloajpiiaaGreatDoor
open Go.Cmp Go.Cut Go.Pth
theorem tmpN_len (k : Nat) : (tmpN k).length ≤ 8 := by
  unfold tmpN tempOf
  split
  · rename_i h
    have := digits_len 3 k (by omega)
    rw [List.length_append]
    simp only [List.length_cons, List.length_nil, Int.toNat_natCast]
    omega
  · simp
theorem nx_app (G : Gr) (l : List Nat) (k : Nat) : nx (G ++ [l]) k = if k = G.length then l else nx G k := by
  unfold nx
  rw [List.getD_eq_getElem?_getD, List.getElem?_append]
  by_cases h : k < G.length
  · rw [if_pos h, if_neg (by omega), ← List.getD_eq_getElem?_getD]
  · rw [if_neg h]
    by_cases e : k = G.length
    · subst e; simp
    · rw [if_neg e, List.getD_eq_getElem?_getD, List.getElem?_eq_none (l := G) (by omega), List.getElem?_eq_none (by simp only [List.length_singleton]; omega)]
theorem nx_needs (s : Wk) (i k : Nat) (hi : i < s.needs.length) : nx (needsS s i) k = if i = k then [] else if k = s.needs.length then put i (nx s.needs i) else nx s.needs k := by
  unfold needsS
  rw [nx_set]
  by_cases h : i = k
  · rw [if_pos ⟨h, by simp; omega⟩, if_pos h]
  · rw [if_neg (fun e => h e.1), if_neg h, nx_app]
    rfl
theorem nx_split (s : Wk) (i k : Nat) : nx (splitP tmpN s i).needs k = if k < s.acts.length + 1 then (if takes (s.acts.getD i default).t ((actsS tmpN s i).getD k default) then inst i s.acts.length (nx (needsS s i) k) else nx (needsS s i) k) else [] := by
  unfold splitP
  show nx ((List.range (s.acts.length + 1)).map _) k = _
  conv => lhs; unfold nx
  rw [List.getD_eq_getElem?_getD, List.getElem?_map]
  by_cases h : k < s.acts.length + 1
  · rw [if_pos h, List.getElem?_range h]
    rfl
  · rw [if_neg h, List.getElem?_eq_none (by simp; omega)]
    rfl
theorem wkp_split {s : Wk} (h : WkP s) {i : Nat} (hi : i < s.acts.length) (hb : s.acts.length < 1024) : WkP (splitP tmpN s i) := by
  have hin : i < s.needs.length := by rw [← h.len]; exact hi
  have hu : ∀ k, Rise (nx (needsS s i) k) := fun k => by
    rw [nx_needs s i k hin]
    split
    · exact .nil
    · split
      · exact rise_put (h.up i) i
      · exact h.up k
  have hm : ∀ k, ∀ x ∈ nx (needsS s i) k, x < s.acts.length := fun k x hx => by
    rw [nx_needs s i k hin] at hx
    split at hx
    · cases hx
    · split at hx
      · rcases (mem_put _ _ _).1 hx with e | e
        · omega
        · rw [h.len]; exact (nx_lt h.ok e).1
      · rw [h.len]; exact (nx_lt h.ok hx).1
  have hl : (splitP tmpN s i).acts.length = s.acts.length + 1 := by simp [splitP, actsS]
  have hl2 : (splitP tmpN s i).needs.length = s.acts.length + 1 := by simp [splitP]
  refine ⟨by rw [hl, hl2], fun k => ?_, fun l hl3 x hx => ?_, by rw [hl]; omega, fun a ha => ?_, by rw [hl]; have := h.cut; show s.cuts + 1 ≤ _; omega⟩
  · rw [nx_split]
    split
    · split
      · exact rise_inst (hu k) _ _
      · exact hu k
    · exact .nil
  · obtain ⟨k, hk, rfl⟩ := List.getElem_of_mem hl3
    have e : (splitP tmpN s i).needs[k] = nx (splitP tmpN s i).needs k := by
      unfold nx
      rw [List.getD_eq_getElem?_getD, List.getElem?_eq_getElem hk]; rfl
    rw [e, nx_split] at hx
    rw [hl2]
    split at hx
    · split at hx
      · rcases mem_inst (hu k) _ _ _ hx with e | e
        · omega
        · have := hm k x e; omega
      · have := hm k x hx; omega
    · cases hx
  · have ha' : a ∈ s.acts.set i { s.acts.getD i default with t := tmpN s.cuts } ++ [⟨3, tmpN s.cuts, (s.acts.getD i default).t, 0, 0⟩] := ha
    rcases List.mem_append.1 ha' with e | e
    · rcases List.mem_or_eq_of_mem_set e with e | e
      · exact h.txt a e
      · subst e
        show (s.acts.getD i default).p.length ≤ 100000
        rw [List.getD_eq_getElem?_getD, List.getElem?_eq_getElem hi]
        exact h.txt _ (List.getElem_mem hi)
    · obtain rfl := List.mem_singleton.1 e
      have := tmpN_len s.cuts
      show (tmpN s.cuts).length ≤ 100000
      omega
end Go.Proofs.YtpddamloajpiiaaGreatDoor
