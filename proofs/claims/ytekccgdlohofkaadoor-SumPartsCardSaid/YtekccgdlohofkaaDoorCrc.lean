/-
What is proved here: More and CRC, by a contract each.
-/
import Derived.Test.YtekccgdlohofkaaDoorSum
set_option linter.unusedSimpArgs false
namespace Go.Proofs.YtekccgdlohofkaaDoor
open Go.Word Go.RowKit

/-- the remainders of half a byte -/
def halves : List Nat := [0x00000000, 0x1DB71064, 0x3B6E20C8, 0x26D930AC, 0x76DC4190, 0x6B6B51F4, 0x4DB26158, 0x5005713C,
  0xEDB88320, 0xF00F9344, 0xD6D6A3E8, 0xCB61B38C, 0x9B64C2B0, 0x86D3D2D4, 0xA00AE278, 0xBDBDF21C]
def half (i : Nat) : BitVec 32 := BitVec.ofNat 32 (halves.getD i 0)
/-- a word's lowest four bits, as a number -/
def lowIx (x : BitVec 32) : Nat := (x &&& 15#32).toNat
/-- a word as an int -/
def wint (x : BitVec 32) : Int := (x.toNat : Int)
/-- half a byte on -/
def nib (c : BitVec 32) : BitVec 32 := c >>> 4 ^^^ half (lowIx c)
/-- a byte on -/
def on1 (c : BitVec 32) (x : BitVec 8) : BitVec 32 := nib (nib (c ^^^ wide x))
def onAll (c : BitVec 32) (l : List (BitVec 8)) : BitVec 32 := l.foldl on1 c
/-- what More answers -/
def more (crc : Int) (l : List (BitVec 8)) : Int := wint (~~~ onAll (~~~ cut crc) l)
def Halved (w : World) : Prop := 1 ≤ w.heap.size ∧ ∀ i, i < 16 → w.cell? ⟨0, i, none⟩ = some (U (half i))

theorem and15 (t : TypeId) (x : BitVec 32) : binOp .and t (U x) (.int .u32 15) = pure (U (x &&& 15#32)) := u_and t x 15
theorem low15 (x : BitVec 32) : lowIx x < 16 := by
  unfold lowIx
  have : (x &&& 15#32).toNat = x.toNat &&& 15 := BitVec.toNat_and ..
  rw [this]
  exact Nat.lt_of_le_of_lt Nat.and_le_right (by omega)
theorem idx15 (x : BitVec 32) (W : World) : (Instr.indexAt 47 (.pointer (some ⟨0, 0, none⟩)) (U (x &&& 15#32))).run Tryd.prog W = .ok (.pointer (some ⟨0, lowIx x, none⟩)) W := by
  have h := low15 x
  have := run_indexAt_array (P := Tryd.prog) W 47 ⟨0, 0, none⟩ .u32 (lowIx x : Int) Tryd.underlying47
  have e : (Instr.indexAt 47 (.pointer (some ⟨0, 0, none⟩)) (U (x &&& 15#32))).run Tryd.prog W = (Instr.indexAt 47 (.pointer (some ⟨0, 0, none⟩)) (.int .u32 (lowIx x : Int))).run Tryd.prog W := rfl
  rw [e, this, if_pos ⟨by omega, by show _ < ((16 : Nat) : Int); omega⟩]
  have hz : (sizeOf (Tryd.prog.elem 47)).run Tryd.prog W = .ok 1 W := by kernel_rfl
  rw [hz]
  simp [Result.andThen, Addr.add_mid]
theorem word_wint (x : BitVec 32) (w : World) : (convert 45 3 (U x)).run Tryd.prog w = .ok (.int .i64 (wint x)) w := word_int x w
theorem start_word (crc : Int) : Value.int .u32 (bits .xor .u32 IntKind.u32.max (crc % 4294967296)) = U (~~~ cut crc) := by
  have h := u_not (cut crc)
  have e : Op.unary .xor (U (cut crc)) = pure (Value.int .u32 (bits .xor .u32 IntKind.u32.max ((cut crc).toNat : Int))) := rfl
  rw [e] at h
  have e2 : ((cut crc).toNat : Int) = crc % 4294967296 := by unfold cut; rw [BitVec.toNat_ofInt]; omega
  rw [e2] at h
  injection h
theorem onAll_step (s : BitVec 32) (b : List (BitVec 8)) (i : Nat) (h : i < b.length) : onAll s (b.take (i + 1)) = on1 (onAll s (b.take i)) (b.getD i 0) := by
  rw [List.take_succ_eq_append_getElem h, onAll, List.foldl_append, List.getD_eq_getElem?_getD, List.getElem?_eq_getElem h]
  rfl
attribute [local go_sem] u_xor u_not shr4 and15 idx15 byte_word word_wint word_of_int

set_option maxHeartbeats 400000 in
theorem more_any (crc : Int) (A : Option Addr) (k c : Nat) (b : List (BitVec 8)) (w : World) (hb : b.length = k) (hh : Halved w) (hs : Byt w A b) (hk : k < 2 ^ 60) :
    Calls Tryd.prog 14 #[.int .i64 crc, .slice A k c] w fun e w' => e = .returned (.int .i64 (more crc b)) ∧ w = w' := by
  have hk' : k < 1152921504606846976 := hk
  clear hk
  have HB := Lib.hid hb
  have HH := Lib.hid hh
  have HS := Lib.hid hs
  clear hb hh hs
  go_enter Tryd.func14, Tryd.ntmps14
  go_wp2
  go_loop [5, 13] (fun s v => ∃ i : Nat, i ≤ k ∧ v = .int .i64 i ∧ s = U (onAll (~~~ cut crc) (b.take i))) (fun _ v => k - (intOf v).toNat)
  case atStart => exact ⟨0, by omega, rfl, start_word crc⟩
  case round =>
    obtain ⟨i, hi, rfl, rfl⟩ := hrel
    by_cases hlt : i < k
    · obtain ⟨ad, rfl, _, hc⟩ := HS.out (by rw [HB.out]; omega)
      have c0 := hc i (by rw [HB.out]; exact hlt)
      obtain ⟨x, hx⟩ : ∃ x, x = b.getD i 0 := ⟨_, rfl⟩
      rw [← hx] at c0
      obtain ⟨s, hs⟩ : ∃ s, s = onAll (~~~ cut crc) (b.take i) := ⟨_, rfl⟩
      rw [← hs]
      have HX := Lib.hid hx
      have HT := Lib.hid hs
      clear hc hx hs
      have c1 := HH.out.2 _ (low15 (s ^^^ wide x))
      have c2 := HH.out.2 _ (low15 ((s ^^^ wide x) >>> 4 ^^^ half (lowIx (s ^^^ wide x))))
      go_wp2
      go_round
      case rel => exact ⟨i + 1, by omega, by go_num, by rw [onAll_step _ _ _ (by rw [HB.out]; exact hlt), ← HT.out, ← HX.out]; rfl⟩
      case measure => simp [intOf]; omega
    · have e : b.take i = b := List.take_of_length_le (by rw [HB.out]; omega)
      rw [e]
      clear e
      go_wp2
      go_ret
      exact ⟨rfl, rfl⟩
theorem crc_any (A : Option Addr) (k c : Nat) (b : List (BitVec 8)) (w : World) (hb : b.length = k) (hh : Halved w) (hs : Byt w A b) (hk : k < 2 ^ 60) :
    Calls Tryd.prog 13 #[.slice A k c] w fun e w' => e = .returned (.int .i64 (more 0 b)) ∧ w = w' := by
  have H := Lib.hid (more_any 0 A k c b w hb hh hs hk)
  clear hb hh hs hk
  go_enter Tryd.func13, Tryd.ntmps13
  go_wp2_with (go_at_call 14; (with_reducible refine H.out.mono ?_); rintro e w' ⟨rfl, rfl⟩)
  go_ret
  exact ⟨rfl, rfl⟩
end Go.Proofs.YtekccgdlohofkaaDoor
