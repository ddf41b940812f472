/-
What is proved here: so many directories in the root: what Loose, Check and Weight tell of them.
-/
import Derived.Test.YtdnagkgblmcojaaAlv
set_option linter.unusedSimpArgs false
namespace Go.Tre
open Go.Pth Go.Proofs.Ytdnagkgblmcojaa
def mP (i : Nat) : Bt := [100, UInt8.ofNat (48 + i / 100), UInt8.ofNat (48 + i / 10 % 10), UInt8.ofNat (48 + i % 10)]
def mN (i : Nat) : Nd := ⟨mP i, -1, 493⟩
def mNs (n : Nat) : List Nd := (List.range n).map mN
def prev (i : Nat) : Bt := if i = 0 then [] else mP (i - 1)
theorem m_facts : ∀ i < 270, (leB (mP i) (prev i) = false ∧ isPath (mP i) = true) ∧ upP (mP i) = [] ∧ keptP (mP i) = false := by decide +kernel
theorem m_len (n : Nat) : (mNs n).length = n := by simp [mNs]
theorem m_walk : ∀ (k i : Nat) (D : Bt → Bool), D [] = true → i + k ≤ 270 → walkT D (prev i) 0 ((List.range' i k).map mN) = some 0
  | 0, _, _, _, _ => rfl
  | k + 1, i, D, hD, hk => by
    obtain ⟨⟨h1, h2⟩, h3, _⟩ := m_facts i (by omega)
    have e : nodeT D (prev i) 0 (mN i) = some ((fun y => y == mP i || D y), mP i, 0) := by
      unfold nodeT
      rw [if_neg (by show ¬ (leB (mP i) (prev i) = true ∨ isPath (mP i) = false); simp [h1, h2]), if_neg (by show ¬ D (upP (mP i)) = false; rw [h3, hD]; decide), if_pos ⟨rfl, (by decide : okMode 493 = true)⟩]
      rfl
    rw [List.range'_succ, List.map_cons]
    unfold walkT
    rw [e]
    have := m_walk k (i + 1) (fun y => y == mP i || D y) (by simp [hD]) (by omega)
    exact this
theorem m_loose (n : Nat) (h : n ≤ 270) : looseE (mNs n) [] = if 256 < n then 31 else 0 := by
  have h1 : looseB (mNs n) [] = true := by
    unfold looseB mNs
    have := m_walk n 0 root rfl (by omega)
    rw [show prev 0 = [] from rfl] at this
    rw [List.range_eq_range', this]
    rfl
  have h2 : tooB (mNs n).length [] = decide (256 < n) := by rw [m_len]; simp [tooB, anyGreat]
  unfold looseE
  rw [h2, h1]
  by_cases h : 256 < n <;> simp [h]
theorem m_check (n : Nat) (h : n ≤ 270) : checkE (mNs n) [] = if 128 < n then 31 else 0 := by
  unfold checkE
  rw [m_len, m_loose n h]
  by_cases h1 : 128 < n
  · rw [if_pos h1, if_pos h1]
  · rw [if_neg h1, if_neg h1, if_neg (by omega)]
    have : anyKept (mNs n) = false := by
      unfold anyKept
      rw [List.any_eq_false]
      intro x hx
      unfold mNs at hx
      obtain ⟨i, hi, rfl⟩ := List.mem_map.1 hx
      have := (m_facts i (by have := List.mem_range.1 hi; omega)).2.2
      simp [mN, this]
    simp [this]
theorem m_root (n : Nat) (h : n ≤ 270) : kidsN (mNs n) [] = (n : Int) := by
  unfold kidsN
  rw [List.filter_eq_self.2 (fun x hx => by
    unfold mNs at hx
    obtain ⟨i, hi, rfl⟩ := List.mem_map.1 hx
    exact decide_eq_true (m_facts i (by have := List.mem_range.1 hi; omega)).2.1), m_len]
theorem m_kid (n i : Nat) (h : n ≤ 270) : kidsN (mNs n) (mP i) = 0 := by
  unfold kidsN
  rw [List.filter_eq_nil_iff.2 (fun x hx => by
    unfold mNs at hx
    obtain ⟨j, hj, rfl⟩ := List.mem_map.1 hx
    have := (m_facts j (by have := List.mem_range.1 hj; omega)).2.1
    show ¬ decide (upP (mP j) = mP i) = true
    rw [this]
    simp [mP])]
  rfl
theorem dsum_ones : ∀ ys : List K256, (∀ y ∈ ys, dirW y = 1) → dsum ys = ys.length
  | [], _ => rfl
  | y :: r, h => by
    have h1 := h y (List.mem_cons_self ..)
    have h2 := dsum_ones r (fun z hz => h z (List.mem_cons_of_mem _ hz))
    have e : dsum (y :: r) = dirW y + dsum r := by simp [dsum]
    rw [e, h1, h2, List.length_cons]
    omega
theorem dirW_zero (k : K256) (h : k.1 = 0) : dirW k = 1 := by
  unfold dirW partsN
  rw [h]
  decide
theorem m_weight (n : Nat) (h : n ≤ 256) : weightB (mNs n) [] = max (((n + 15) / 16 : Nat) : Int) 1 + n ∧ weightI (mNs n) [] = n + 1 := by
  have hf : (mNs n).filter isDir = mNs n := List.filter_eq_self.2 (fun x hx => by
    unfold mNs at hx
    obtain ⟨i, _, rfl⟩ := List.mem_map.1 hx
    rfl)
  have hl : (fillsL (mNs n)).length = n + 1 := by
    unfold fillsL
    rw [hf, List.length_cons, List.length_map, m_len]
  have hd : dsum (fillsL (mNs n)) = max (((n + 15) / 16 : Nat) : Int) 1 + n := by
    unfold fillsL
    have e : ∀ (y : K256) r, dsum (y :: r) = dirW y + dsum r := fun y r => by simp [dsum]
    rw [hf, e, dsum_ones _ (fun y hy => by
      obtain ⟨x, hx, rfl⟩ := List.mem_map.1 hy
      unfold mNs at hx
      obtain ⟨i, _, rfl⟩ := List.mem_map.1 hx
      exact dirW_zero _ ((kidsK_val (mNs n) (mP i) (by rw [m_len]; omega)).trans (m_kid n i (by omega)))), List.length_map, m_len]
    congr 1
    unfold dirW partsN
    rw [kidsK_val (mNs n) [] (by rw [m_len]; omega), m_root n (by omega), Int.toNat_natCast]
    rfl
  constructor
  · unfold weightB
    rw [hd]
    simp [fsum]
  · unfold weightI
    rw [hl]
    simp
end Go.Tre
