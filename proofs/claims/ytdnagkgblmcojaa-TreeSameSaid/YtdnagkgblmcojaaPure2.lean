/-
What is proved here: a path's last slash, what stands ahead of it and behind it, by its parts.
-/
import Derived.Test.YtdnagkgblmcojaaPure
import Derived.Lib.LastIndexByte
namespace Go.Pth

theorem cut_app (x y : Bt) : cutAt (x ++ 47 :: y) = ((cutAt x).1, (cutAt x).2 ++ parts y) := by
  induction x with
  | nil => simp [cutAt, parts]
  | cons c r ih =>
    by_cases h : c = 47
    · subst h; simp [cutAt, ih]
    · simp [cutAt, h, ih]
theorem parts_app (x y : Bt) : parts (x ++ 47 :: y) = parts x ++ parts y := by
  unfold parts
  rw [cut_app]
  simp [parts]
theorem cut_none (y : Bt) (h : ∀ c ∈ y, c ≠ 47) : cutAt y = (y, []) := by
  induction y with
  | nil => rfl
  | cons c r ih =>
    have h1 := h c (by simp)
    have h2 := ih (fun d hd => h d (by simp [hd]))
    simp [cutAt, h1, h2]
theorem parts_none (y : Bt) (h : ∀ c ∈ y, c ≠ 47) : parts y = [y] := by unfold parts; rw [cut_none y h]

/-- the place of the last slash, or -1 -/
def lastAt (l : Bt) : Int := Lib.lastIndexByte ⟨l.toArray⟩ 47
theorem data_at (l : Bt) (j : Nat) (h : j < l.length) : (ByteArray.mk l.toArray).data[j]! = l[j] := by
  simp [h]
theorem num_slash (c : UInt8) : ((c.toNat : Int) = 47) ↔ c = 47 := by
  constructor
  · intro h
    exact UInt8.toNat_inj.1 (by show c.toNat = 47; omega)
  · rintro rfl; decide
theorem last_cases (l : Bt) : (lastAt l = -1 ∧ parts l = [l]) ∨ ∃ x y, l = x ++ 47 :: y ∧ lastAt l = (x.length : Int) ∧ parts l = parts x ++ [y] ∧ ∀ c ∈ y, c ≠ 47 := by
  have hs : (ByteArray.mk l.toArray).size = l.length := by simp [ByteArray.size]
  rcases Lib.lastIndexByte_spec ⟨l.toArray⟩ 47 with ⟨h1, h2⟩ | ⟨i, hi, h1, h2, h3⟩
  · refine Or.inl ⟨h1, parts_none l fun c hc => ?_⟩
    obtain ⟨j, hj, rfl⟩ := List.getElem_of_mem hc
    have := h2 j (by rw [hs]; exact hj)
    rw [data_at l j hj] at this
    exact fun e => this ((num_slash _).2 e)
  · rw [hs] at hi
    rw [data_at l i hi] at h2
    have h4 : ∀ c ∈ l.drop (i + 1), c ≠ 47 := fun c hc => by
      obtain ⟨j, hj, rfl⟩ := List.getElem_of_mem hc
      rw [List.length_drop] at hj
      have := h3 (i + 1 + j) (by omega) (by rw [hs]; omega)
      rw [data_at l _ (by omega)] at this
      rw [List.getElem_drop]
      exact fun e => this ((num_slash _).2 e)
    have e : l = l.take i ++ 47 :: l.drop (i + 1) := by
      have h5 : l[i] = 47 := (num_slash _).1 h2
      rw [← h5, ← List.drop_eq_getElem_cons hi, List.take_append_drop]
    refine Or.inr ⟨l.take i, l.drop (i + 1), e, ?_, ?_, h4⟩
    · rw [List.length_take_of_le (by omega)]; exact h1
    · conv => lhs; rw [e]
      rw [parts_app, parts_none _ h4]

/-- a path without its last name; its last name -/
def up (l : Bt) : Bt := if lastAt l < 0 then [] else l.take (lastAt l).toNat
def base (l : Bt) : Bt := l.drop (lastAt l + 1).toNat
def upP (l : Bt) : Bt := if isPath l then up l else []
def baseP (l : Bt) : Bt := if isPath l then base l else []
theorem up_base (l : Bt) : (up l = [] ∧ base l = l ∧ parts l = [l]) ∨ ∃ x y, l = x ++ 47 :: y ∧ up l = x ∧ base l = y ∧ parts l = parts x ++ [y] ∧ ∀ c ∈ y, c ≠ 47 := by
  rcases last_cases l with ⟨h1, h2⟩ | ⟨x, y, h1, h2, h3, h4⟩
  · refine Or.inl ⟨?_, ?_, h2⟩
    · unfold up; rw [h1]; rfl
    · unfold base; rw [h1]; rfl
  · refine Or.inr ⟨x, y, h1, ?_, ?_, h3, h4⟩
    · unfold up
      rw [h2, if_neg (by omega), Int.toNat_natCast, h1]
      simp
    · unfold base
      rw [h2, show ((x.length : Int) + 1).toNat = x.length + 1 by omega, h1]
      simp
end Go.Pth
