/-
What is proved here: a digest is the same as itself: what == and != answer.
-/
import Derived.Test.YtlnmaejpchncoaaDoorRefA
import Derived.Laws.StructEq
set_option linter.unusedSimpArgs false
namespace Go.Proofs.YtlnmaejpchncoaaDoor
open Go.Word Go.RowKit

theorem part_byte (f : Nat → BitVec 8) (W : World) {i : Nat} (h : i < 32) : (part 5 (yRow f 32) i).run Tryd.prog W = .ok (Y (f i)) W := by
  have ha : (isAgg 5).run Tryd.prog W = .ok false W := by kernel_rfl
  unfold part
  rw [Sem.run_bind, ha]
  simp only [Result.andThen_ok, Bool.false_eq_true, if_false, yRow_at f h]
  rfl
theorem same_byte (d : Nat) (x : BitVec 8) (W : World) : (Op.equalIn (d + 1) 5 (Y x) (Y x)).run Tryd.prog W = .ok true W := by
  have := run_equalIn_int (P := Tryd.prog) W d 5 .u8 .u8 (x.toNat : Int) (x.toNat : Int) Tryd.underlying5
  rw [beq_self_eq_true] at this
  exact this
theorem same_digest (d : Nat) (f : Nat → BitVec 8) (W : World) : (Op.equalIn (d + 1 + 1) 35 (.agg (yRow f 32)) (.agg (yRow f 32))).run Tryd.prog W = .ok true W := by
  have hz : (sizeOf 5).run Tryd.prog W = .ok 1 W := by kernel_rfl
  unfold Op.equalIn
  rw [Sem.run_bind, run_underlying Tryd.underlying35]
  simp only [Result.andThen_ok, Sem.run_bind, hz, Nat.mul_one, Std.Legacy.Range.forIn_eq_forIn_range', Std.Legacy.Range.size, Nat.sub_zero, Nat.add_one_sub_one, Nat.div_one]
  generalize hl : List.range' 0 32 1 = l
  have hb : ∀ i ∈ l, i < 32 := by subst hl; decide
  clear hl
  induction l with
  | nil => simp
  | cons i l ih =>
    simp only [List.forIn_cons, Sem.run_bind, part_byte f W (hb i (by simp)), Result.andThen_ok, same_byte, Bool.not_true, Bool.false_eq_true, if_false, Sem.run_pure]
    exact ih fun j hj => hb j (by simp [hj])
theorem eql_digest (f : Nat → BitVec 8) (W : World) : (binOp .eql 35 (.agg (yRow f 32)) (.agg (yRow f 32))).run Tryd.prog W = .ok (.bool true) W := by
  rw [run_eql_struct, same_digest 9998 f W]
  rfl
theorem neq_digest (f : Nat → BitVec 8) (W : World) : (binOp .neq 35 (.agg (yRow f 32)) (.agg (yRow f 32))).run Tryd.prog W = .ok (.bool false) W := by
  rw [run_neq_struct, same_digest 9998 f W]
  rfl
theorem guard_digest (op : BinOp) (x y : Operand) (xs ys : Array Value) (W : World) : (eqGuard op 35 x y (.agg xs) (.agg ys)).run Tryd.prog W = .ok () W := run_eqGuard_agg W op 35 x y xs ys (by kernel_rfl)
end Go.Proofs.YtlnmaejpchncoaaDoor
