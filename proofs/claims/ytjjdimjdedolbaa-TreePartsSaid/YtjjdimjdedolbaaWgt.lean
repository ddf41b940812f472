/-
What is proved here: how many parts so many things fill; the toll of one inode; complex sums of whole numbers.
-/
import Derived.Test.YtjjdimjdedolbaaFil
import Derived.Test.YtjjdimjdedolbaaFl
import Derived.Laws.ComplexArith
set_option linter.unusedSimpArgs false
namespace Go.Proofs.Ytjjdimjdedolbaa
open Go.Pth Go.Tre Go.RowKit Go.Word Go.Fl

theorem parts_any (t s : Nat) (ht : t ≤ 1000000) (hs1 : 1 ≤ s) (hs2 : s ≤ 1000) (w : World) : Calls Try.prog 68 #[.int .i64 (t : Int), .int .i64 (s : Int)] w fun e w' => e = .returned (.int .i64 (((t + s - 1) / s : Nat) : Int)) ∧ w = w' := by
  have h0 : (s : Int) ≠ 0 := by omega
  have e : ((t : Int) + s - 1) / (s : Int) = (((t + s - 1) / s : Nat) : Int) := by
    rw [Int.natCast_ediv]
    congr 1
    omega
  have E := Lib.hid e
  clear e
  go_enter Try.func68, Try.ntmps68
  go_wp2
  go_ret
  exact ⟨congrArg (fun z => Ending.returned (.int .i64 z)) E.out, rfl⟩
theorem inode_any (b : Int) (w : World) : Calls Try.prog 67 #[.int .i64 b] w fun e w' => e = .returned (.complex .f64 (fl b) 4607182418800017408) ∧ w = w' := by
  go_enter Try.func67, Try.ntmps67
  go_wp2
  go_ret
  exact ⟨rfl, rfl⟩
theorem rep_one : Rep 4607182418800017408 1 := ⟨false, 52, by decide +kernel, by decide⟩
theorem rep_zero : Rep 0 0 := ⟨false, 1074, by decide +kernel, by decide⟩
theorem cadd {x y a b : Nat} {X Y A B : Int} (hx : Rep x X) (hy : Rep y Y) (ha : Rep a A) (hb : Rep b B) (h1 : (X + A).natAbs < 2 ^ 53) (h2 : (Y + B).natAbs < 2 ^ 53) :
    ∃ x' y', Rep x' (X + A) ∧ Rep y' (Y + B) ∧ ∀ t w, (binOp .add t (.complex .f64 x y) (.complex .f64 a b)).run Try.prog w = .ok (.complex .f64 x' y') w := by
  obtain ⟨x', e1, r1⟩ := add_rep hx ha h1
  obtain ⟨y', e2, r2⟩ := add_rep hy hb h2
  exact ⟨x', y', r1, r2, fun t w => run_complex_sum w .add (Or.inl rfl) t .f64 x y a b _ _ (by simp [cSumBits, e1, e2])⟩
end Go.Proofs.Ytjjdimjdedolbaa
