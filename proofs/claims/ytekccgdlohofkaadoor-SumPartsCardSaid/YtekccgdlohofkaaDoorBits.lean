/-
What is proved here: the document's own CRC, a bit at a time, by a contract: it answers what More answers.
-/
import Derived.Test.YtekccgdlohofkaaDoorTurned
set_option linter.unusedSimpArgs false
namespace Go.Proofs.YtekccgdlohofkaaDoor
open Go.Word Go.RowKit

/-- a bit on -/
def bit1 (c : BitVec 32) : BitVec 32 := if c &&& 1#32 = 1#32 then c >>> 1 ^^^ 3988292384#32 else c >>> 1
def bitN : Nat → BitVec 32 → BitVec 32
  | 0, c => c
  | n + 1, c => bit1 (bitN n c)
theorem bit1_bool (c : BitVec 32) : bit1 c = c >>> 1 ^^^ (bif c.getLsbD 0 then 3988292384#32 else 0#32) := by
  unfold bit1
  rw [BitVec.and_one_eq_setWidth_ofBool_getLsbD]
  cases c.getLsbD 0 <;> simp
theorem lowIx_bits (c : BitVec 32) : lowIx c = (c.getLsbD 0).toNat + 2 * (c.getLsbD 1).toNat + 4 * (c.getLsbD 2).toNat + 8 * (c.getLsbD 3).toNat := by
  have h : c &&& 15#32 = BitVec.ofNat 32 ((c.getLsbD 0).toNat + 2 * (c.getLsbD 1).toNat + 4 * (c.getLsbD 2).toNat + 8 * (c.getLsbD 3).toNat) := by
    apply BitVec.eq_of_getLsbD_eq
    intro i hi
    rw [BitVec.getLsbD_and]
    obtain ⟨b0, h0⟩ : ∃ b, b = c.getLsbD 0 := ⟨_, rfl⟩
    obtain ⟨b1, h1⟩ : ∃ b, b = c.getLsbD 1 := ⟨_, rfl⟩
    obtain ⟨b2, h2⟩ : ∃ b, b = c.getLsbD 2 := ⟨_, rfl⟩
    obtain ⟨b3, h3⟩ : ∃ b, b = c.getLsbD 3 := ⟨_, rfl⟩
    rw [← h0, ← h1, ← h2, ← h3]
    by_cases hi4 : i < 4
    · have : i = 0 ∨ i = 1 ∨ i = 2 ∨ i = 3 := by omega
      rcases this with rfl | rfl | rfl | rfl
      · rw [← h0]; clear h0 h1 h2 h3; revert b0 b1 b2 b3; decide
      · rw [← h1]; clear h0 h1 h2 h3; revert b0 b1 b2 b3; decide
      · rw [← h2]; clear h0 h1 h2 h3; revert b0 b1 b2 b3; decide
      · rw [← h3]; clear h0 h1 h2 h3; revert b0 b1 b2 b3; decide
    · have e : (15#32).getLsbD i = false := by
        have : ∀ j : Fin 32, 4 ≤ j.val → (15#32).getLsbD j.val = false := by decide
        exact this ⟨i, hi⟩ (by show 4 ≤ i; omega)
      rw [e, Bool.and_false]
      have : ∀ (b0 b1 b2 b3 : Bool) (j : Fin 32), 4 ≤ j.val → (BitVec.ofNat 32 (b0.toNat + 2 * b1.toNat + 4 * b2.toNat + 8 * b3.toNat)).getLsbD j.val = false := by decide
      exact (this b0 b1 b2 b3 ⟨i, hi⟩ (by show 4 ≤ i; omega)).symm
  unfold lowIx
  rw [h, BitVec.toNat_ofNat]
  have hb : ∀ b : Bool, b.toNat ≤ 1 := fun b => by cases b <;> decide
  have := hb (c.getLsbD 0)
  have := hb (c.getLsbD 1)
  have := hb (c.getLsbD 2)
  have := hb (c.getLsbD 3)
  omega
theorem bit4_nib (c : BitVec 32) : bit1 (bit1 (bit1 (bit1 c))) = nib c := by
  unfold nib
  rw [lowIx_bits]
  have e1 : (bit1 c).getLsbD 0 = c.getLsbD 1 := by
    rw [bit1_bool, BitVec.getLsbD_xor, BitVec.getLsbD_ushiftRight]
    cases c.getLsbD 0 <;> simp
  have e1' : (bit1 c).getLsbD 1 = c.getLsbD 2 := by
    rw [bit1_bool, BitVec.getLsbD_xor, BitVec.getLsbD_ushiftRight]
    cases c.getLsbD 0 <;> simp
  have e1'' : (bit1 c).getLsbD 2 = c.getLsbD 3 := by
    rw [bit1_bool, BitVec.getLsbD_xor, BitVec.getLsbD_ushiftRight]
    cases c.getLsbD 0 <;> simp
  have e2 : (bit1 (bit1 c)).getLsbD 0 = c.getLsbD 2 := by
    rw [bit1_bool (bit1 c), BitVec.getLsbD_xor, BitVec.getLsbD_ushiftRight, ← e1']
    cases (bit1 c).getLsbD 0 <;> simp
  have e2' : (bit1 (bit1 c)).getLsbD 1 = c.getLsbD 3 := by
    rw [bit1_bool (bit1 c), BitVec.getLsbD_xor, BitVec.getLsbD_ushiftRight, ← e1'']
    cases (bit1 c).getLsbD 0 <;> simp
  have e3 : (bit1 (bit1 (bit1 c))).getLsbD 0 = c.getLsbD 3 := by
    rw [bit1_bool (bit1 (bit1 c)), BitVec.getLsbD_xor, BitVec.getLsbD_ushiftRight, ← e2']
    cases (bit1 (bit1 c)).getLsbD 0 <;> simp
  rw [bit1_bool (bit1 (bit1 (bit1 c))), e3, bit1_bool (bit1 (bit1 c)), e2, bit1_bool (bit1 c), e1, bit1_bool c]
  simp only [BitVec.ushiftRight_xor_distrib, ← BitVec.shiftRight_add, BitVec.xor_assoc]
  congr 1
  cases c.getLsbD 0 <;> cases c.getLsbD 1 <;> cases c.getLsbD 2 <;> cases c.getLsbD 3 <;> decide
theorem bitN_add (m n : Nat) (c : BitVec 32) : bitN (m + n) c = bitN n (bitN m c) := by
  induction n with
  | zero => rfl
  | succ n ih => exact congrArg bit1 ih
theorem bit8 (c : BitVec 32) : bitN 8 c = nib (nib c) := by
  rw [← bit4_nib, ← bit4_nib]; rfl
theorem and1 (t : TypeId) (x : BitVec 32) : binOp .and t (U x) (.int .u32 1) = pure (U (x &&& 1#32)) := u_and t x 1
/-- is a word one? -/
def isOne (x : BitVec 32) : Bool := decide (x = 1#32)
theorem eql1 (t : TypeId) (x : BitVec 32) : binOp .eql t (U x) (.int .u32 1) = pure (.bool (isOne x)) := u_eql t x 1
theorem xorP (t : TypeId) (x : BitVec 32) : binOp .xor t (U x) (.int .u32 3988292384) = pure (U (x ^^^ 3988292384#32)) := u_xor t x 3988292384
theorem xorM (t : TypeId) (x : BitVec 32) : binOp .xor t (U x) (.int .u32 4294967295) = pure (U (~~~ x)) := by
  have h := u_xor t x 4294967295#32
  have e : x ^^^ 4294967295#32 = ~~~ x := by rw [show (4294967295#32) = BitVec.allOnes 32 by decide, BitVec.xor_allOnes]
  rw [e] at h
  exact h
theorem guard_u (x y : Operand) (a : BitVec 32) : eqGuard .eql 45 x y (U a) (.int .u32 1) = pure () := rfl
theorem bit1_yes {c : BitVec 32} (h : c &&& 1#32 = 1#32) : bit1 c = c >>> 1 ^^^ 3988292384#32 := if_pos h
theorem bit1_no {c : BitVec 32} (h : ¬ c &&& 1#32 = 1#32) : bit1 c = c >>> 1 := if_neg h
theorem start_ref (crc : Int) : Value.int .u32 (bits .xor .u32 (crc % 4294967296) 4294967295) = U (~~~ cut crc) := by
  have h := xorM 45 (cut crc)
  have e : binOp .xor 45 (U (cut crc)) (.int .u32 4294967295) = pure (Value.int .u32 (bits .xor .u32 ((cut crc).toNat : Int) 4294967295)) := rfl
  rw [e] at h
  have e2 : ((cut crc).toNat : Int) = crc % 4294967296 := by unfold cut; rw [BitVec.toNat_ofInt]; omega
  rw [e2] at h
  injection h
attribute [local go_sem] u_xor and1 eql1 guard_u xorP xorM shr1 byte_word word_wint word_of_int

set_option maxHeartbeats 400000 in
theorem refmore_any (crc : Int) (A : Option Addr) (k c : Nat) (b : List (BitVec 8)) (w : World) (hb : b.length = k) (hs : Byt w A b) (hk : k < 2 ^ 60) :
    Calls Tryd.prog 17 #[.int .i64 crc, .slice A k c] w fun e w' => e = .returned (.int .i64 (more crc b)) ∧ w = w' := by
  have hk' : k < 1152921504606846976 := hk
  clear hk
  have HB := Lib.hid hb
  have HS := Lib.hid hs
  clear hb hs
  go_enter Tryd.func17, Tryd.ntmps17
  go_wp2
  go_loop [5, 6] (fun s v => ∃ i : Nat, i ≤ k ∧ v = .int .i64 i ∧ s = U (onAll (~~~ cut crc) (b.take i))) (fun _ v => k - (intOf v).toNat)
  case atStart => exact ⟨0, by omega, rfl, by first | exact start_ref crc | rfl⟩
  case round =>
    obtain ⟨i, hi, rfl, rfl⟩ := hrel
    by_cases hlt : i < k
    · obtain ⟨ad, rfl, _, hc⟩ := HS.out (by rw [HB.out]; omega)
      have c0 := hc i (by rw [HB.out]; exact hlt)
      obtain ⟨x, hx⟩ : ∃ x, x = b.getD i 0 := ⟨_, rfl⟩
      rw [← hx] at c0
      obtain ⟨s, hs⟩ : ∃ s, s = onAll (~~~ cut crc) (b.take i) := ⟨_, rfl⟩
      rw [← hs]
      have HX := Lib.hid hx
      have HT := Lib.hid hs
      clear hc hx hs
      go_wp2
      go_loop [5, 7] (fun r v => ∃ n : Nat, n ≤ 8 ∧ v = .int .i64 n ∧ r = U (bitN n (s ^^^ wide x))) (fun _ v => 8 - (intOf v).toNat)
      case atStart => exact ⟨0, by omega, rfl, rfl⟩
      case round =>
        obtain ⟨n, hn, rfl, rfl⟩ := hrel
        by_cases h8 : n < 8
        · obtain ⟨r, hr⟩ : ∃ r, r = bitN n (s ^^^ wide x) := ⟨_, rfl⟩
          rw [← hr]
          have HR := Lib.hid hr
          clear hr
          by_cases hl : r &&& 1#32 = 1#32
          · have hd : isOne (r &&& 1#32) = true := decide_eq_true hl
            have HL := Lib.hid hl
            clear hl
            go_wp2
            go_round
            case rel => exact ⟨n + 1, by omega, by go_num, by show _ = U (bit1 (bitN n (s ^^^ wide x))); rw [← HR.out, bit1_yes HL.out]⟩
            case measure => simp [intOf]; omega
          · have hd : isOne (r &&& 1#32) = false := decide_eq_false hl
            have HL := Lib.hid hl
            clear hl
            go_wp2
            go_round
            case rel => exact ⟨n + 1, by omega, by go_num, by show _ = U (bit1 (bitN n (s ^^^ wide x))); rw [← HR.out, bit1_no HL.out]⟩
            case measure => simp [intOf]; omega
        · obtain rfl : n = 8 := by omega
          rw [bit8]
          go_wp2
          go_round
          case rel => exact ⟨i + 1, by omega, by go_num, by rw [onAll_step _ _ _ (by rw [HB.out]; exact hlt), ← HT.out, ← HX.out]; rfl⟩
          case measure => simp [intOf]; omega
    · have e : b.take i = b := List.take_of_length_le (by rw [HB.out]; omega)
      rw [e]
      clear e
      go_wp2
      go_ret
      exact ⟨rfl, rfl⟩
theorem refcrc_any (A : Option Addr) (k c : Nat) (b : List (BitVec 8)) (w : World) (hb : b.length = k) (hs : Byt w A b) (hk : k < 2 ^ 60) :
    Calls Tryd.prog 16 #[.slice A k c] w fun e w' => e = .returned (.int .i64 (more 0 b)) ∧ w = w' := by
  have H := Lib.hid (refmore_any 0 A k c b w hb hs hk)
  clear hb hs hk
  go_enter Tryd.func16, Tryd.ntmps16
  go_wp2_with (go_at_call 17; (with_reducible refine H.out.mono ?_); rintro e w' ⟨rfl, rfl⟩)
  go_ret
  exact ⟨rfl, rfl⟩
end Go.Proofs.YtekccgdlohofkaaDoor
