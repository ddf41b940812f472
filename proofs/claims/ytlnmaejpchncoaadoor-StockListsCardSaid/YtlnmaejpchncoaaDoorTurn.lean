/-
What is proved here: turn and bits.RotateLeft32, by a contract each.
-/
import Derived.Test.YtlnmaejpchncoaaDoorMem
namespace Go.Proofs.YtlnmaejpchncoaaDoor
open Go.Word Go.RowKit
attribute [local go_sem] u_xor u_and u_or u_add u_shl u_shr u_not u_eql store_u store_y


theorem and31 (n : Nat) (h0 : 0 < n) (h1 : n < 32) : bits .and .u64 (IntKind.u64.wrap (-(n : Int))) 31 = ((32 - n : Nat) : Int) := by
  have h : ∀ k : Fin 32, 0 < k.val → bits .and .u64 (IntKind.u64.wrap (-(k.val : Int))) 31 = ((32 - k.val : Nat) : Int) := by decide +kernel
  exact h ⟨n, h1⟩ h0

set_option maxHeartbeats 400000 in
theorem rotate_any (x : BitVec 32) (n : Nat) (w : World) (h0 : 0 < n) (h1 : n < 32) :
    Calls Tryd.prog 33 #[U x, .int .i64 (-(n : Int))] w fun e w' => e = .returned (U (rot x n)) ∧ w = w' := by
  obtain ⟨m, rfl, hm0, hm1⟩ : ∃ m, n = 32 - m ∧ 0 < m ∧ m < 32 := ⟨32 - n, by omega, by omega, by omega⟩
  have ha := and31 (32 - m) h0 h1
  rw [show 32 - (32 - m) = m by omega] at ha
  have hl : binOp .shl 58 (U x) (.int .u64 (m : Int)) = pure (U (x <<< m)) := u_shl 58 .u64 x m (by omega) (by omega)
  have hr : binOp .shr 58 (U x) (.int .u64 ((32 - m : Nat) : Int)) = pure (U (x >>> (32 - m))) := u_shr 58 .u64 x _ (by omega) (by omega)
  have hs : binOp .sub 57 (.int .u64 32) (.int .u64 (m : Int)) = pure (.int .u64 ((32 - m : Nat) : Int)) := by
    show pure (Value.int .u64 (IntKind.u64.wrap (32 - (m : Int)))) = _
    have : IntKind.u64.wrap (32 - (m : Int)) = ((32 - m : Nat) : Int) := by simp [IntKind.wrap, IntKind.bits, IntKind.signed]; omega
    rw [this]
  have e : rot x (32 - m) = x <<< m ||| x >>> (32 - m) := by unfold rot; rw [show 32 - (32 - m) = m by omega]
  have E := Lib.hid e
  clear e
  go_enter Tryd.func33, Tryd.ntmps33
  go_wp2
  go_ret
  exact ⟨by rw [E.out]; rfl, rfl⟩
set_option maxHeartbeats 400000 in
theorem turn_any (x : BitVec 32) (n : Nat) (w : World) (h0 : 0 < n) (h1 : n < 32) :
    Calls Tryd.prog 32 #[U x, .int .i64 (n : Int)] w fun e w' => e = .returned (U (rot x n)) ∧ w = w' := by
  have H := Lib.hid (fun w => rotate_any x n w h0 h1)
  go_enter Tryd.func32, Tryd.ntmps32
  go_wp2_with (go_at_call 33; (with_reducible refine (H.out _).mono ?_); rintro e w' ⟨rfl, rfl⟩)
  go_ret
  exact ⟨rfl, rfl⟩
/-- the same, the count as Go's text has it -/
theorem turn_z (x : BitVec 32) (z : Int) (w : World) (h0 : 0 < z) (h1 : z < 32) :
    Calls Tryd.prog 32 #[U x, .int .i64 z] w fun e w' => e = .returned (U (rot x z.toNat)) ∧ w = w' := by
  have := turn_any x z.toNat w (by omega) (by omega)
  rwa [show ((z.toNat : Nat) : Int) = z by omega] at this
theorem turn_q (x : BitVec 32) (z : Int) (w : World) (h0 : 0 < z) (h1 : z < 32) :
    Calls Tryd.prog 32 #[U x, .int .i64 z] w fun e w' => e = .returned (U (rot x z.toNat)) ∧ w' = w := (turn_z x z w h0 h1).mono fun _ _ h => ⟨h.1, h.2.symm⟩
end Go.Proofs.YtlnmaejpchncoaaDoor
