/-
What is proved here: the calls of package toll and of the law's own helpers, each by a contract, over tolls of whole numbers.
-/
import Derived.Test.YtofpofojmbnomaaRows
import Derived.Test.YtofpofojmbnomaaFl
import Derived.WalkKit
import Derived.WalkLawsBesides
import Derived.Laws.Externs
import Derived.ProofKit
namespace Go.Proofs.Ytofpofojmbnomaa
open Go.Fl

theorem run_trunc (x z : Nat) (w : World) (hn : (FloatKind.f64.decode x).isNaN = false) (hz : Ieee.double.write ((Ieee.double.read x).integral .zero) = z) :
    (Extern.MathFloor.toIntegral "math.archTrunc" .zero #[.float .f64 x]).run Try.prog w = .ok (.float .f64 z) w := by
  subst hz
  unfold Extern.MathFloor.toIntegral
  show Sem.run Try.prog (match FloatKind.f64.decode x with
    | .nan s t => _
    | d => pure (Value.float .f64 (FloatKind.f64.encode (d.integral .zero)))) w = _
  cases h : FloatKind.f64.decode x <;> simp_all [Ieee.Datum.isNaN]
  all_goals (show FloatKind.f64.encode _ = _; rw [show Ieee.double.read x = FloatKind.f64.decode x from rfl, h]; rfl)

theorem rep_number {x : Nat} {a : Int} (h : Rep x a) : (FloatKind.f64.decode x).isNaN = false := by
  obtain ⟨s, k, h, _⟩ := h
  have e : FloatKind.f64.decode x = .number s (a.natAbs * 2 ^ k) (-(k : Int)) := h
  rw [e]; rfl

theorem trunc_any (x z : Nat) (w : World) (hn : (FloatKind.f64.decode x).isNaN = false) (hz : Ieee.double.write ((Ieee.double.read x).integral .zero) = z) :
    Calls Try.prog 24 #[.float .f64 x] w fun e w' => e = .returned (.float .f64 z) ∧ w = w' := by
  have hd : ∀ w, (callFunc 26 #[.float .f64 x]).run Try.prog w = .ok (.value (.float .f64 z)) w := fun w => by
    rw [run_callFunc_extern (e := Extern.MathFloor.toIntegral "math.archTrunc" .zero) Try.func26 (by kernel_rfl) (by kernel_rfl) (by kernel_rfl) (by kernel_rfl) _ w, run_trunc x z w hn hz]
    rfl
  go_enter Try.func24, Try.ntmps24
  go_wp2
  go_ret
  exact ⟨rfl, rfl⟩

theorem rep_lo : Rep 14010698440749613056 (-1099511627776) := ⟨true, 12, by decide +kernel, by decide⟩
theorem rep_hi : Rep 4787326403894837248 1099511627776 := ⟨false, 12, by decide +kernel, by decide⟩

theorem whole_lo (x : Nat) (a : Int) (w : World) (hx : Rep x a) (h : a < -1099511627776) :
    Calls Try.prog 21 #[.float .f64 x] w fun e w' => e = .returned (.bool false) ∧ w = w' := by
  have ho := order_rep hx rep_lo
  rw [Int.compare_eq_lt.2 h] at ho
  go_enter Try.func21, Try.ntmps21
  go_wp2
  all_goals go_ret
  all_goals exact ⟨rfl, rfl⟩

theorem whole_hi (x : Nat) (a : Int) (w : World) (hx : Rep x a) (h : 1099511627776 < a) :
    Calls Try.prog 21 #[.float .f64 x] w fun e w' => e = .returned (.bool false) ∧ w = w' := by
  have ho := order_rep hx rep_lo
  rw [Int.compare_eq_gt.2 (by omega)] at ho
  have ho2 := order_rep hx rep_hi
  rw [Int.compare_eq_gt.2 (by omega)] at ho2
  go_enter Try.func21, Try.ntmps21
  go_wp2
  all_goals go_ret
  all_goals exact ⟨rfl, rfl⟩

theorem whole_in (x : Nat) (a : Int) (w : World) (hx : Rep x a) (h1 : -1099511627776 ≤ a) (h2 : a ≤ 1099511627776) :
    Calls Try.prog 21 #[.float .f64 x] w fun e w' => e = .returned (.bool true) ∧ w = w' := by
  obtain ⟨z, hz, hrz⟩ := trunc_rep hx (by omega)
  have hn := rep_number hx
  have ho3 := order_rep hx hrz
  rw [Int.compare_eq_eq.2 rfl] at ho3
  have ho : FloatKind.f64.format.order x 14010698440749613056 = some .gt ∨ FloatKind.f64.format.order x 14010698440749613056 = some .eq := by
    rw [order_rep hx rep_lo]
    rcases Int.lt_or_eq_of_le h1 with h | h
    · exact Or.inl (by rw [Int.compare_eq_gt.2 h])
    · exact Or.inr (by rw [Int.compare_eq_eq.2 h.symm])
  have ho2 : FloatKind.f64.format.order x 4787326403894837248 = some .lt ∨ FloatKind.f64.format.order x 4787326403894837248 = some .eq := by
    rw [order_rep hx rep_hi]
    rcases Int.lt_or_eq_of_le h2 with h | h
    · exact Or.inl (by rw [Int.compare_eq_lt.2 h])
    · exact Or.inr (by rw [Int.compare_eq_eq.2 h])
  have key := fun w => trunc_any x z w hn hz
  clear hz h1 h2 hx hrz hn
  rcases ho with ho | ho <;> rcases ho2 with ho2 | ho2
  all_goals
    go_enter Try.func21, Try.ntmps21
    go_wp2_with (go_at_call 24; refine (key _).mono ?_; rintro e w' ⟨rfl, rfl⟩)
    all_goals go_ret
    all_goals exact ⟨rfl, rfl⟩
end Go.Proofs.Ytofpofojmbnomaa
