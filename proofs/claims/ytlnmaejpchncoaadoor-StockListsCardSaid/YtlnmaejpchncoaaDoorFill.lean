/-
What is proved here: what the document's own SHA puts behind its bytes, piece by piece. Plain functions. It names no program.
-/
import Derived.Test.YtlnmaejpchncoaaDoorChain
namespace Go.Word

/-- bytes, 0x80 and z noughts -/
def fillw (b : List (BitVec 8)) (z : Nat) : List (BitVec 8) := b ++ (128#8 :: List.replicate z 0)
/-- the first m of the eight bytes that tell how many there were -/
def eight (n m : Nat) : List (BitVec 8) := (List.range m).map fun i => BitVec.ofNat 8 (n * 8 / 2 ^ (56 - 8 * i))
theorem fill_len (b : List (BitVec 8)) (z : Nat) : (fillw b z).length = b.length + 1 + z := by simp [fillw]; omega
theorem fill_zero (b : List (BitVec 8)) : b ++ [128#8] = fillw b 0 := rfl
theorem fill_next (b : List (BitVec 8)) (z : Nat) : fillw b z ++ [0#8] = fillw b (z + 1) := by
  unfold fillw
  rw [List.append_assoc, List.cons_append, List.replicate_succ']
  rfl
theorem fill_stop (b : List (BitVec 8)) (z : Nat) (h : z < gap b.length) : (fillw b z).length % 64 = 56 ↔ z + 1 = gap b.length := by
  rw [fill_len]
  unfold gap at *
  omega
theorem eight_len (n m : Nat) : (eight n m).length = m := by simp [eight]
theorem eight_next (n m : Nat) : eight n m ++ [BitVec.ofNat 8 (n * 8 / 2 ^ (56 - 8 * m))] = eight n (m + 1) := by simp [eight, List.range_succ]
theorem fill_full (b : List (BitVec 8)) (z : Nat) (h : z + 1 = gap b.length) : fillw b z ++ eight b.length 8 = full b := by
  unfold fillw full
  rw [List.append_assoc]
  congr 1
  have hl : (128#8 :: List.replicate z 0 ++ eight b.length 8).length = (pad b.length).length := by simp [eight_len, pad_len]; omega
  refine List.ext_getElem hl fun j h1 h2 => ?_
  have hj : j < gap b.length + 8 := by rw [pad_len] at h2; exact h2
  have e : (pad b.length)[j] = padAt b.length j := by
    have := pad_at b.length hj
    rw [List.getD_eq_getElem?_getD, List.getElem?_eq_getElem h2] at this
    exact this
  rw [e]
  unfold padAt
  by_cases h0 : j = 0
  · subst h0; simp
  · rw [if_neg h0]
    by_cases hg : j < gap b.length
    · rw [if_pos hg, List.getElem_append_left (by simp; omega), List.getElem_cons, dif_neg h0]
      simp
    · rw [if_neg hg, List.getElem_append_right (by simp; omega)]
      simp only [List.length_cons, List.length_replicate, eight, List.getElem_map, List.getElem_range]
      rw [show j - (z + 1) = j - gap b.length by omega]
end Go.Word
