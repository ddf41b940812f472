/-
What is proved here: the law of what goes round without a rename; split is as it is asked.
-/
import Derived.Test.YtpddamloajpiiaaGreatDoorCstM
import Derived.Test.YtpddamloajpiiaaGreatDoorSpbM
set_option linter.unusedVariables false
namespace Go.Proofs.YtpddamloajpiiaaGreatDoor
open Go.Cmp Go.RowKit Go.Cut Go.Pth Go.Word Go.Shelf
theorem split_all : SplitOK := fun w0 WB s i w h1 h2 h3 h4 h5 h6 => split_ok w0 WB s i w h1 h2 h3 h4 h5 h6
end Go.Proofs.YtpddamloajpiiaaGreatDoor
