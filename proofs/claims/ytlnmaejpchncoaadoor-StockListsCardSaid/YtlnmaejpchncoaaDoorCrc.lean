/-
What is proved here: More and CRC, by a contract each.
-/
import Derived.Test.YtlnmaejpchncoaaDoorSum
set_option linter.unusedSimpArgs false
namespace Go.Proofs.YtlnmaejpchncoaaDoor
open Go.Word Go.RowKit

/-- the remainders of half a byte -/
def halves : List Nat := [0x00000000, 0x1DB71064, 0x3B6E20C8, 0x26D930AC, 0x76DC4190, 0x6B6B51F4, 0x4DB26158, 0x5005713C,
  0xEDB88320, 0xF00F9344, 0xD6D6A3E8, 0xCB61B38C, 0x9B64C2B0, 0x86D3D2D4, 0xA00AE278, 0xBDBDF21C]
def half (i : Nat) : BitVec 32 := BitVec.ofNat 32 (halves.getD i 0)
/-- a word's lowest four bits, as a number -/
def lowIx (x : BitVec 32) : Nat := (x &&& 15#32).toNat
/-- a word as an int -/
def wint (x : BitVec 32) : Int := (x.toNat : Int)
/-- half a byte on -/
def nib (c : BitVec 32) : BitVec 32 := c >>> 4 ^^^ half (lowIx c)
/-- a byte on -/
def on1 (c : BitVec 32) (x : BitVec 8) : BitVec 32 := nib (nib (c ^^^ wide x))
def onAll (c : BitVec 32) (l : List (BitVec 8)) : BitVec 32 := l.foldl on1 c
/-- what More answers -/
def more (crc : Int) (l : List (BitVec 8)) : Int := wint (~~~ onAll (~~~ cut crc) l)
def Halved (w : World) : Prop := 1 ≤ w.heap.size ∧ ∀ i, i < 16 → w.cell? ⟨0, i, none⟩ = some (U (half i))

theorem and15 (t : TypeId) (x : BitVec 32) : binOp .and t (U x) (.int .u32 15) = pure (U (x &&& 15#32)) := u_and t x 15
theorem low15 (x : BitVec 32) : lowIx x < 16 := by
  unfold lowIx
  have : (x &&& 15#32).toNat = x.toNat &&& 15 := BitVec.toNat_and ..
  rw [this]
  exact Nat.lt_of_le_of_lt Nat.and_le_right (by omega)
theorem word_wint (x : BitVec 32) (w : World) : (convert 58 3 (U x)).run Tryd.prog w = .ok (.int .i64 (wint x)) w := word_int x w
theorem start_word (crc : Int) : Value.int .u32 (bits .xor .u32 IntKind.u32.max (crc % 4294967296)) = U (~~~ cut crc) := by
  have h := u_not (cut crc)
  have e : Op.unary .xor (U (cut crc)) = pure (Value.int .u32 (bits .xor .u32 IntKind.u32.max ((cut crc).toNat : Int))) := rfl
  rw [e] at h
  have e2 : ((cut crc).toNat : Int) = crc % 4294967296 := by unfold cut; rw [BitVec.toNat_ofInt]; omega
  rw [e2] at h
  injection h
theorem onAll_step (s : BitVec 32) (b : List (BitVec 8)) (i : Nat) (h : i < b.length) : onAll s (b.take (i + 1)) = on1 (onAll s (b.take i)) (b.getD i 0) := by
  rw [List.take_succ_eq_append_getElem h, onAll, List.foldl_append, List.getD_eq_getElem?_getD, List.getElem?_eq_getElem h]
  rfl
attribute [local go_sem] u_xor u_not shr4 and15 byte_word word_wint word_of_int

end Go.Proofs.YtlnmaejpchncoaaDoor
