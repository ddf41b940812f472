/-
What is proved here: CRC tells bytes of which one is turned (plain functions).
-/
import Derived.Test.YtlnmaejpchncoaaDoorApp
set_option linter.unusedSimpArgs false
namespace Go.Proofs.YtlnmaejpchncoaaDoor
open Go.Word Go.RowKit

theorem lowIx_mod (c : BitVec 32) : lowIx c = c.toNat % 16 := by
  unfold lowIx
  have : (c &&& 15#32).toNat = c.toNat &&& 15 := BitVec.toNat_and ..
  rw [this]
  exact Nat.and_two_pow_sub_one_eq_mod c.toNat 4
theorem half_top : ∀ i j : Fin 16, half i.val >>> 28 = half j.val >>> 28 → i = j := by decide +kernel
theorem nib_top (c : BitVec 32) : nib c >>> 28 = half (lowIx c) >>> 28 := by
  unfold nib
  rw [BitVec.ushiftRight_xor_distrib]
  have : (c >>> 4) >>> 28 = 0#32 := by
    apply BitVec.eq_of_toNat_eq
    rw [BitVec.toNat_ushiftRight, BitVec.toNat_ushiftRight, Nat.shiftRight_eq_div_pow, Nat.shiftRight_eq_div_pow]
    have := lt32 c
    simp
    omega
  rw [this]
  simp
theorem nib_inj {c d : BitVec 32} (h : nib c = nib d) : c = d := by
  have h1 : half (lowIx c) >>> 28 = half (lowIx d) >>> 28 := by rw [← nib_top, ← nib_top, h]
  have h2 : lowIx c = lowIx d := by
    have := half_top ⟨lowIx c, low15 c⟩ ⟨lowIx d, low15 d⟩ h1
    simpa using this
  have h3 : c >>> 4 = d >>> 4 := by
    unfold nib at h
    rw [h2] at h
    exact (BitVec.xor_left_inj _).1 h
  have h4 : c.toNat / 16 = d.toNat / 16 := by
    have := congrArg BitVec.toNat h3
    rw [BitVec.toNat_ushiftRight, BitVec.toNat_ushiftRight, Nat.shiftRight_eq_div_pow, Nat.shiftRight_eq_div_pow] at this
    exact this
  rw [lowIx_mod, lowIx_mod] at h2
  apply BitVec.eq_of_toNat_eq
  omega
theorem on1_inj {c d : BitVec 32} {x : BitVec 8} (h : on1 c x = on1 d x) : c = d := (BitVec.xor_left_inj _).1 (nib_inj (nib_inj h))
theorem wide_inj {x y : BitVec 8} (h : wide x = wide y) : x = y := by
  have := congrArg BitVec.toNat h
  unfold wide at this
  rw [BitVec.toNat_setWidth, BitVec.toNat_setWidth] at this
  have h1 := lt8 x
  have h2 := lt8 y
  apply BitVec.eq_of_toNat_eq
  omega
theorem on1_byte {c : BitVec 32} {x y : BitVec 8} (h : on1 c x = on1 c y) : x = y := wide_inj ((BitVec.xor_right_inj _).1 (nib_inj (nib_inj h)))
theorem onAll_inj : ∀ (l : List (BitVec 8)) {c d : BitVec 32}, onAll c l = onAll d l → c = d
  | [], _, _, h => h
  | _ :: r, _, _, h => on1_inj (onAll_inj r h)
theorem more_turned {l : List (BitVec 8)} {m : Nat} (hm : m < l.length) {y : BitVec 8} (hy : y ≠ l.getD m 0) (crc : Int) : more crc l ≠ more crc (l.set m y) := by
  intro h
  have h1 : onAll (~~~ cut crc) l = onAll (~~~ cut crc) (l.set m y) := by
    have : wint (~~~ onAll (~~~ cut crc) l) = wint (~~~ onAll (~~~ cut crc) (l.set m y)) := h
    have h2 : (~~~ onAll (~~~ cut crc) l) = (~~~ onAll (~~~ cut crc) (l.set m y)) := BitVec.eq_of_toNat_eq (by unfold wint at this; omega)
    exact BitVec.not_inj.1 h2
  have e1 : l = l.take m ++ l[m] :: l.drop (m + 1) := by rw [List.getElem_cons_drop, List.take_append_drop]
  have e2 : l.set m y = l.take m ++ y :: l.drop (m + 1) := by rw [List.set_eq_take_append_cons_drop, if_pos hm]
  rw [e2] at h1
  rw [show onAll (~~~ cut crc) l = onAll (~~~ cut crc) (l.take m ++ l[m] :: l.drop (m + 1)) by rw [← e1]] at h1
  unfold onAll at h1
  rw [List.foldl_append, List.foldl_append, List.foldl_cons, List.foldl_cons] at h1
  have h3 := on1_byte (onAll_inj (l.drop (m + 1)) h1)
  rw [List.getD_eq_getElem?_getD, List.getElem?_eq_getElem hm] at hy
  exact hy h3.symm
theorem and255 (z : Int) : bits .and .i64 z 255 = ((BitVec.ofInt 8 z).toNat : Int) := by
  show IntKind.i64.wrap (((BitVec.ofInt 64 z &&& BitVec.ofInt 64 255 : BitVec 64)).toNat : Int) = _
  have h : (BitVec.ofInt 64 z &&& BitVec.ofInt 64 255 : BitVec 64).toNat = (BitVec.ofInt 64 z).toNat % 256 := by
    rw [BitVec.toNat_and]
    exact Nat.and_two_pow_sub_one_eq_mod _ 8
  rw [h, BitVec.toNat_ofInt, BitVec.toNat_ofInt]
  rw [IntWalk.i64_in _ (by omega)]
  omega
theorem y_xor (t : TypeId) (x : BitVec 8) (z : Int) : binOp .xor t (Y x) (.int .u8 (z % 256)) = pure (Y (x ^^^ BitVec.ofInt 8 z)) := by
  have e : z % 256 = ((BitVec.ofInt 8 z).toNat : Int) := by rw [BitVec.toNat_ofInt]; omega
  rw [e]
  show Op.intBits .xor .u8 _ _ = _
  rw [intBits_xor]
  show pure (Value.int .u8 (IntKind.u8.wrap ((BitVec.ofInt 8 (x.toNat : Int) ^^^ BitVec.ofInt 8 ((BitVec.ofInt 8 z).toNat : Int) : BitVec 8)).toNat)) = _
  have h8 : ∀ y : BitVec 8, BitVec.ofInt 8 (y.toNat : Int) = y := fun y => by simp
  rw [h8, h8, wrap8]
  have := lt8 (x ^^^ BitVec.ofInt 8 z)
  unfold Y
  congr 2
  omega
end Go.Proofs.YtlnmaejpchncoaaDoor
