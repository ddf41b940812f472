/-
What is proved here: Find's place tells whether there is a directory of a path; so Form's recursion is the walk over the nodes.
-/
import Derived.Test.YtdnagkgblmcojaaFom
import Derived.Test.YtdnagkgblmcojaaRft
namespace Go.Tre
open Go.Pth Go.Op Go.Proofs.Ytdnagkgblmcojaa
/-- Form's look at what is above -/
def findB (ns : List Nd) (p : Bt) : Bool := decide (0 ≤ findI ns p) && decide ((ns.getD (findI ns p).toNat ⟨[], 0, 0⟩).file = -1)
theorem find_dir (ns : List Nd) (hc : chain [] ns) (p : Bt) : findB ns p = dirAt ns p := by
  by_cases hi : ns.findIdx (fun x => same x.path p) < ns.length
  · obtain ⟨i, hie⟩ : ∃ i, i = ns.findIdx (fun x => same x.path p) := ⟨_, rfl⟩
    have hp : same (ns[i]'(by omega)).path p = true := by
      have := List.findIdx_getElem (w := hi)
      simp only [hie]
      exact this
    have hil : i < ns.length := by omega
    have hpe : ns[i].path = p := of_decide_eq_true hp
    have hI : findI ns p = (i : Int) := by unfold findI; rw [if_pos hi, hie]
    have hB : findB ns p = isDir ns[i] := by
      unfold findB
      rw [hI, decide_eq_true (by omega : (0 : Int) ≤ (i : Int)), Bool.true_and, Int.toNat_natCast, List.getD_eq_getElem?_getD, List.getElem?_eq_getElem hil]
      rfl
    rw [hB]
    cases hd : isDir ns[i] with
    | true => exact (List.any_eq_true.2 ⟨ns[i], List.getElem_mem hil, by simp [hpe, hd]⟩).symm
    | false =>
      cases e : dirAt ns p with
      | false => rfl
      | true =>
        obtain ⟨z, hz, hz2⟩ := List.any_eq_true.1 e
        simp only [Bool.and_eq_true, decide_eq_true_eq] at hz2
        obtain ⟨j, hj, rfl⟩ := List.getElem_of_mem hz
        rcases Nat.lt_trichotomy i j with h | h | h
        · have := chain_lt ns [] hc i j h hj
          rw [hpe, hz2.1, bl_irrefl] at this
          cases this
        · subst h
          rw [hd] at hz2
          cases hz2.2
        · have := chain_lt ns [] hc j i h hil
          rw [hpe, hz2.1, bl_irrefl] at this
          cases this
  · have hI : findI ns p = -1 := by unfold findI; rw [if_neg hi]
    have hB : findB ns p = false := by unfold findB; rw [hI]; rfl
    rw [hB]
    cases e : dirAt ns p with
    | false => rfl
    | true =>
      obtain ⟨z, hz, hz2⟩ := List.any_eq_true.1 e
      simp only [Bool.and_eq_true, decide_eq_true_eq] at hz2
      exact absurd (List.findIdx_lt_length_of_exists ⟨z, hz, by unfold same; exact decide_eq_true hz2.1⟩) hi
/-- Form tells what the walk tells -/
theorem form_loose (ns : List Nd) (fs : List Fl) : (ends fs.length (walkF fs.length (findB ns) [] 0 ns) && !anyWrong fs) = looseB ns fs :=
  form_eq ns fs (findB ns) (fun hc p => find_dir ns hc p)
end Go.Tre
