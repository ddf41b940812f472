/-
What is proved here: the document's own turn of a word and its table of numbers, by a contract each.
-/
import Derived.Test.YtlnmaejpchncoaaDoorLent
set_option linter.unusedSimpArgs false
namespace Go.Proofs.YtlnmaejpchncoaaDoor
open Go.Word Go.RowKit
attribute [local go_sem] u_xor u_and u_or u_add u_shl u_shr u_not

theorem rot_or (x : BitVec 32) (n : Nat) : x >>> n ||| x <<< (32 - n) = rot x n := by unfold rot; rw [BitVec.or_comm]
set_option maxHeartbeats 400000 in
theorem right_any (x : BitVec 32) (n : Nat) (w : World) (h0 : 0 < n) (h1 : n < 32) :
    Calls Tryd.prog 30 #[U x, .int .u64 (n : Int)] w fun e w' => e = .returned (U (rot x n)) ∧ w = w' := by
  have hr : binOp .shr 58 (U x) (.int .u64 (n : Int)) = pure (U (x >>> n)) := u_shr 58 .u64 x n (by omega) (by omega)
  have hl : binOp .shl 58 (U x) (.int .u64 ((32 - n : Nat) : Int)) = pure (U (x <<< (32 - n))) := u_shl 58 .u64 x _ (by omega) (by omega)
  have hs : binOp .sub 57 (.int .u64 32) (.int .u64 (n : Int)) = pure (.int .u64 ((32 - n : Nat) : Int)) := by
    show pure (Value.int .u64 (IntKind.u64.wrap (32 - (n : Int)))) = _
    have : IntKind.u64.wrap (32 - (n : Int)) = ((32 - n : Nat) : Int) := by simp [IntKind.wrap, IntKind.bits, IntKind.signed]; omega
    rw [this]
  obtain ⟨m, hm⟩ : ∃ m, m = 32 - n := ⟨_, rfl⟩
  have e := rot_or x n
  rw [← hm] at hl hs e
  have E := Lib.hid e
  clear e hm
  go_enter Tryd.func30, Tryd.ntmps30
  go_wp2
  go_ret
  exact ⟨by rw [E.out]; rfl, rfl⟩
theorem right_z (x : BitVec 32) (z : Int) (w : World) (h0 : 0 < z) (h1 : z < 32) :
    Calls Tryd.prog 30 #[U x, .int .u64 z] w fun e w' => e = .returned (U (rot x z.toNat)) ∧ w = w' := by
  have := right_any x z.toNat w (by omega) (by omega)
  rwa [show ((z.toNat : Nat) : Int) = z by omega] at this
theorem right_q (x : BitVec 32) (z : Int) (w : World) (h0 : 0 < z) (h1 : z < 32) :
    Calls Tryd.prog 30 #[U x, .int .u64 z] w fun e w' => e = .returned (U (rot x z.toNat)) ∧ w' = w := (right_z x z w h0 h1).mono fun _ _ h => ⟨h.1, h.2.symm⟩
theorem keys_any (w : World) : Calls Tryd.prog 24 #[] w fun e w' => e = .returned (.agg (uRow key 64)) ∧ Below w.heap.size w w' := by
  go_enter Tryd.func24, Tryd.ntmps24
  go_wp2_with (first | (refine wpList_built rfl 60 _ rfl (uRow key 64) (by kernel_rfl) ?_) | (refine wpList_store_row rfl 60 _ _ rfl w.heap.size (uRow key 64) rfl rfl 60 _ (lies_new _ _ _) (by kernel_rfl) (by kernel_rfl) (uRow_one _ _) ?_))
  refine bodyPost_ret (results_cell_row rfl _ _ w.heap.size 60 (uRow key 64) (0, 0) _ rfl (lies_setRow (lies_new _ _ _) _) Tryd.underlying60 rfl (by kernel_rfl)) rfl ⟨rfl, below_setRow ((Below.refl _ _).alloc (Nat.le_refl _) _) (Nat.le_refl _) _⟩
end Go.Proofs.YtlnmaejpchncoaaDoor
