/-
What is proved here: what a row of this seat gives the walks: the table of powers of ten in its variable.
-/
import Derived.Test.YtpddamloajpiiaaGreatDoorTemM
import Derived.Test.YtpddamloajpiiaaGreatDoorOpiM
import Derived.Test.YtpddamloajpiiaaGreatDoorTie
import Derived.Test.YtpddamloajpiiaaGreatDoorCards
import Derived.ProofKit
import Derived.LaidMore
import Derived.OpenShut
import Derived.Stop.Joined
import Derived.Lib.LaidTab
import Derived.Lib.SmallJoins
import Derived.Carry
import Derived.SevenTiedAt
set_option linter.unusedVariables false
namespace Go.Proofs.YtpddamloajpiiaaGreatDoor
open Go.Cmp Go.Word Go.ChangeShapes Go.WideShapes Go.ChangeAt Go.RowKit Go.Pth

theorem pow_type : (Tryz.prog.globals[0]?).map (·.type) = some 152 := by kernel_rfl
theorem cells124 : Tryz.prog.cellsOf 124 = 1 := by kernel_rfl

theorem door_met (os : Os) (args : Array Value) : laidMetH Tryz.prog Rows.cutStuckRow.laid ((World.doorLaid Tryz.prog 24 os).forCall (fun _ _ => 0) ⟨#[], args, []⟩).memory :=
  laidMetH_of_parts3 (fuel := 8) (laidMet_of_run' 8 (by kernel_rfl) (by kernel_rfl)) (by kernel_rfl) (by kernel_rfl)

theorem pow_of_laid {W : World} (h : laidMetH Tryz.prog Rows.cutStuckRow.laid W) : Pow W := by
  rw [MakeChecks.laidMetH_plain _ _ _ (by kernel_rfl)] at h
  obtain ⟨ps, ⟨g0, t0, cs0, f0, p0, q0, hg0, ht0, hv0, hd0, ⟨g1, t1, cs1, f1, p1, q1, hg1, ht1, hv1, hd1, ⟨g2, t2, cs2, f2, p2, q2, hg2, ht2, hv2, hd2, _, _⟩, _⟩, _⟩, _, _⟩ := h
  obtain rfl : g2 = 0 := Option.some.inj (hg2.symm.trans pow_at)
  obtain rfl : t2 = 152 := Option.some.inj (ht2.symm.trans pow_type)
  have e2 := Lib.cells_of_tab (k := .u64) (zs := Lib.pow10Tab) Tryz.underlying152 Tryz.underlying124 cells124 (by kernel_rfl) hd2
  unfold Pow Lib.TabIs
  rw [hv2, ← e2]
end Go.Proofs.YtpddamloajpiiaaGreatDoor
