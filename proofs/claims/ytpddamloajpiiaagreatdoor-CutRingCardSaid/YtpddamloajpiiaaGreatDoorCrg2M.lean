/-
What is proved here: the law of a ring of renames; split is as it is asked.
-/
import Derived.Test.YtpddamloajpiiaaGreatDoorCrgM
import Derived.Test.YtpddamloajpiiaaGreatDoorCst2M
set_option linter.unusedVariables false
namespace Go.Proofs.YtpddamloajpiiaaGreatDoor
open Go.Cmp Go.RowKit Go.Cut Go.Pth Go.Word Go.Shelf
theorem ring_all (n f : Int) (w : World) (hT : Pow w) : Calls Tryz.prog 4 #[.int .i64 n, .int .i64 f] w fun e w' => e = .returned (.bool true) ∧ Below w.heap.size w w' := ring_law split_all n f w hT
end Go.Proofs.YtpddamloajpiiaaGreatDoor
