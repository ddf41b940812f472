/-
What is proved here: the order of texts by bytes is total and strict; what is above a path is less than it.
-/
import Derived.Test.YtdnagkgblmcojaaSet
import Derived.Test.YtdnagkgblmcojaaPure2
namespace Go.Pth
open Go.Op
theorem bl_irrefl : ∀ a : Bt, bytesLess a a = false
  | [] => rfl
  | x :: a => by
    show (decide (x < x) || (x == x && bytesLess a a)) = false
    rw [bl_irrefl a, decide_eq_false (UInt8.lt_irrefl x)]
    simp
theorem bl_trans : ∀ a b c : Bt, bytesLess a b = true → bytesLess b c = true → bytesLess a c = true
  | _, _, [], _, h => by cases ‹Bt› <;> simp [bytesLess] at h
  | [], _, z :: c, _, _ => rfl
  | x :: a, [], z :: c, h, _ => by simp [bytesLess] at h
  | x :: a, y :: b, z :: c, h1, h2 => by
    simp only [bytesLess, Bool.or_eq_true, Bool.and_eq_true, decide_eq_true_eq, beq_iff_eq] at h1 h2 ⊢
    rcases h1 with h1 | ⟨rfl, h1⟩
    · rcases h2 with h2 | ⟨rfl, h2⟩
      · exact .inl (UInt8.lt_trans h1 h2)
      · exact .inl h1
    · rcases h2 with h2 | ⟨rfl, h2⟩
      · exact .inl h2
      · exact .inr ⟨rfl, bl_trans a b c h1 h2⟩
theorem bl_total : ∀ a b : Bt, bytesLess a b = true ∨ a = b ∨ bytesLess b a = true
  | [], [] => .inr (.inl rfl)
  | [], _ :: _ => .inl rfl
  | _ :: _, [] => .inr (.inr rfl)
  | x :: a, y :: b => by
    simp only [bytesLess, Bool.or_eq_true, Bool.and_eq_true, decide_eq_true_eq, beq_iff_eq]
    rcases bl_total a b with h | rfl | h
    · by_cases hxy : x = y
      · exact .inl (.inr ⟨hxy, h⟩)
      · rcases UInt8.lt_or_lt_of_ne hxy with k | k
        · exact .inl (.inl k)
        · exact .inr (.inr (.inl k))
    · by_cases hxy : x = y
      · exact .inr (.inl (by rw [hxy]))
      · rcases UInt8.lt_or_lt_of_ne hxy with k | k
        · exact .inl (.inl k)
        · exact .inr (.inr (.inl k))
    · by_cases hxy : x = y
      · exact .inr (.inr (.inr ⟨hxy.symm, h⟩))
      · rcases UInt8.lt_or_lt_of_ne hxy with k | k
        · exact .inl (.inl k)
        · exact .inr (.inr (.inl k))
theorem bl_prefix : ∀ (x : Bt) (c : UInt8) (y : Bt), bytesLess x (x ++ c :: y) = true
  | [], _, _ => rfl
  | a :: x, c, y => by
    show (decide (a < a) || (a == a && bytesLess x (x ++ c :: y))) = true
    rw [bl_prefix x c y]
    simp
/-- not at or below: above -/
theorem leB_false (a b : Bt) : leB a b = false ↔ bytesLess b a = true := by
  unfold leB
  rw [Bool.or_eq_false_iff]
  constructor
  · rintro ⟨h1, h2⟩
    rcases bl_total a b with h | rfl | h
    · rw [h] at h1; cases h1
    · simp at h2
    · exact h
  · intro h
    refine ⟨?_, ?_⟩
    · cases h1 : bytesLess a b with
      | false => rfl
      | true => have := bl_trans a b a h1 h; rw [bl_irrefl] at this; cases this
    · refine beq_eq_false_iff_ne.2 (fun e => ?_)
      subst e
      rw [bl_irrefl] at h
      cases h
/-- what is above a path, if it is not the root, is less than it -/
theorem up_less (l : Bt) (hu : upP l ≠ []) : bytesLess (upP l) l = true := by
  have hp : isPath l = true := by
    cases h : isPath l with
    | true => rfl
    | false => exact absurd (by unfold upP; rw [h]; rfl) hu
  have e : upP l = up l := by unfold upP; rw [if_pos hp]
  rw [e] at hu ⊢
  rcases up_base l with ⟨h1, _, _⟩ | ⟨x, y, h1, h2, _⟩
  · exact absurd h1 hu
  · have := bl_prefix x 47 y
    rw [h2]
    conv => lhs; rw [h1]
    exact this
end Go.Pth
