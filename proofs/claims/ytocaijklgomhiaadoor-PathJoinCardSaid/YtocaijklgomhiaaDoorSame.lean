/-
What is proved here: the law's look whether two lists of texts are one, by a contract, for two lists that are.
-/
import Derived.Test.YtocaijklgomhiaaDoorRefK
set_option linter.unusedSimpArgs false
namespace Go.Proofs.YtocaijklgomhiaaDoor
open Go.Pth Go.RowKit Go.Word
attribute [local go_sem] guard_eq guard_ne st_neq

set_option maxRecDepth 100000 in
set_option maxHeartbeats 4000000 in
theorem same_any (A A' : Option Addr) (C C' b b' : Nat) (ns : List Bt) (w : World) (h1 : Tx w b A ns) (h2 : Tx w b' A' ns) (hn : ns.length ≤ 100000) :
    Calls Tryd.prog 15 #[.slice A ns.length C, .slice A' ns.length C'] w fun e w' => e = .returned (.bool true) ∧ Below w.heap.size w w' := by
  go_enter Tryd.func15, Tryd.ntmps15
  go_wp2
  go_loopw [5] (fun x wr => ∃ i : Nat, i ≤ ns.length ∧ x = .int .i64 i ∧ Below w.heap.size w wr) (fun x _ => ns.length - (intOf x).toNat)
  case atStart => exact ⟨0, by omega, rfl, Below.refl _ _⟩
  case round =>
    obtain ⟨i, hil, rfl, hb⟩ := hrel
    have HB := Lib.hid hb
    by_cases hlt : i < ns.length
    · obtain ⟨g, rfl, _, c1⟩ := tx_below h1 hb i hlt
      obtain ⟨g', rfl, _, c2⟩ := tx_below h2 hb i hlt
      have li : (i : Int) < (ns.length : Int) := by omega
      have q2 : i + 1 ≤ ns.length := hlt
      have wi : wrap64 ((i : Int) + 1) = ((i + 1 : Nat) : Int) := by rw [wrap_in _ (by omega) (by omega)]; omega
      have ho : ∀ x : Bt, other x x = false := fun x => decide_eq_false (by simp)
      generalize ns.getD i [] = c at *
      have hoc := ho c
      clear h1 h2 ho hb
      go_upto_region 6 with (fail)
      go_quiet (fail)
      go_wp2
      go_roundw
      case rel => exact ⟨i + 1, q2, by go_num, below_drewN HB.out _⟩
      case measure => first | (simp [intOf]; done) | (simp [intOf]; omega)
    · have li : ¬ (i : Int) < (ns.length : Int) := by omega
      clear hb h1 h2
      go_wp2
      go_ret
      exact ⟨rfl, HB.out⟩
end Go.Proofs.YtocaijklgomhiaaDoor
