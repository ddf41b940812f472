/-
  No cell of these rows narrows 'for every input' (looked for: loops, veiled, ifaces, maps, wideKeys, modest, calm, conditions, laid).
  DERIVED. THE GIVEN ROWS OF THIS SEAT. 10 by the template 'for every input the law returns true; each argument reads behind the call as it read before'; 0 by the template 'total and deterministic' (their statements: YtjagddhkoacipaaTotals.lean).
  GIVEN WITH THE SEED: the statements are not yours to turn. If you find one false, say at which input.
  Laid BY PROGRAM, IN A SANDBOX (cutbox-rows.mjs): the forced cells as the released guide's own fill.sh prints them over the translation dee5a3bddb91a77e… (all of the seat's roots in one cut). By AI agents, Wed Nov 11 2026. No macro, syntax, notation, axiom, sorry.
-/
import Derived.Test.YtjagddhkoacipaaChecked
import GoSem.Claim
import GoSem.ClaimJoined
import GoSem.ClaimMapViews
import Derived.JoinedTies
import Derived.KernelRfl
namespace Go.Proofs.Ytjagddhkoacipaa
/- THE CELL 'sum', in the pinned program and in every row, IS THE sha256 OF THE DUMP (.gsa) THAT YtjagddhkoacipaaProg.lean LOADS. Nothing in Lean hashes anything: it is a label: what it is worth is what the hold of that sum in a sandbox is worth. -/
noncomputable def Try.pinned : Pinned := { name := "ytjagddhkoacipaa", sum := "dee5a3bddb91a77e449b649c97f40d6f74ee2ab9107770d6a5fd190bb0cae8f1", checked := Try.checked }
namespace Rows
def none {H : Type} : Left H := { results := [], args := [] }

/-- 'shuntlaw6.TreeCanon': WHATEVER THE INPUT: true; the input reads as it did. -/
def treeCanonSpec : ChangeSpec := { name := "treeCanon", fn := fun _ => fun
  | [d] => { results := [.lit (.bool true)], args := [d] }
  | _ => none }
def treeCanonRow : OpenClaim := { program := "ytjagddhkoacipaa", sum := "dee5a3bddb91a77e449b649c97f40d6f74ee2ab9107770d6a5fd190bb0cae8f1", func := "shunt/shuntlaw6.TreeCanon", spec := "treeCanon", unfollowed := true, recurses := true, apart := false }
def TreeCanonSaid : Prop := treeCanonRow.holds Try.pinned (OpenSpec.ofChange treeCanonSpec)

/-- ITS FALSE NEIGHBOUR: 'it returns false'. Refute it at one input. -/
def treeCanonWrong : ChangeSpec := { name := "treeCanon", fn := fun _ => fun
  | [d] => { results := [.lit (.bool false)], args := [d] }
  | _ => none }
def TreeCanonWrongFalsely : Prop := treeCanonRow.holds Try.pinned (OpenSpec.ofChange treeCanonWrong)

/-- 'shuntlaw6.TreeHeld': WHATEVER THE INPUT: true; the input reads as it did. -/
def treeHeldSpec : ChangeSpec := { name := "treeHeld", fn := fun _ => fun
  | [d1, d2] => { results := [.lit (.bool true)], args := [d1, d2] }
  | _ => none }
def treeHeldRow : OpenClaim := { program := "ytjagddhkoacipaa", sum := "dee5a3bddb91a77e449b649c97f40d6f74ee2ab9107770d6a5fd190bb0cae8f1", func := "shunt/shuntlaw6.TreeHeld", spec := "treeHeld", unfollowed := true, recurses := true, apart := false }
def TreeHeldSaid : Prop := treeHeldRow.holds Try.pinned (OpenSpec.ofChange treeHeldSpec)

/-- ITS FALSE NEIGHBOUR: 'it returns false'. Refute it at one input. -/
def treeHeldWrong : ChangeSpec := { name := "treeHeld", fn := fun _ => fun
  | [d1, d2] => { results := [.lit (.bool false)], args := [d1, d2] }
  | _ => none }
def TreeHeldWrongFalsely : Prop := treeHeldRow.holds Try.pinned (OpenSpec.ofChange treeHeldWrong)

/-- 'shuntlaw7.ModelLong': WHATEVER THE INPUT: true; the input reads as it did. -/
def modelLongSpec : ChangeSpec := { name := "modelLong", fn := fun _ => fun
  | [d] => { results := [.lit (.bool true)], args := [d] }
  | _ => none }
def modelLongRow : OpenClaim := { program := "ytjagddhkoacipaa", sum := "dee5a3bddb91a77e449b649c97f40d6f74ee2ab9107770d6a5fd190bb0cae8f1", func := "shunt/shuntlaw7.ModelLong", spec := "modelLong", inPlace := ["internal/bytealg.abigen_runtime_cmpstring"], unfollowed := true, recurses := true, apart := false }
def ModelLongSaid : Prop := modelLongRow.holds Try.pinned (OpenSpec.ofChange modelLongSpec)

/-- ITS FALSE NEIGHBOUR: 'it returns false'. Refute it at one input. -/
def modelLongWrong : ChangeSpec := { name := "modelLong", fn := fun _ => fun
  | [d] => { results := [.lit (.bool false)], args := [d] }
  | _ => none }
def ModelLongWrongFalsely : Prop := modelLongRow.holds Try.pinned (OpenSpec.ofChange modelLongWrong)

/-- 'shuntlaw7.ModelUndo': WHATEVER THE INPUT: true; the input reads as it did. -/
def modelUndoSpec : ChangeSpec := { name := "modelUndo", fn := fun _ => fun
  | [d1, d2, d3, d4, d5] => { results := [.lit (.bool true)], args := [d1, d2, d3, d4, d5] }
  | _ => none }
def modelUndoRow : OpenClaim := { program := "ytjagddhkoacipaa", sum := "dee5a3bddb91a77e449b649c97f40d6f74ee2ab9107770d6a5fd190bb0cae8f1", func := "shunt/shuntlaw7.ModelUndo", spec := "modelUndo", inPlace := ["internal/bytealg.abigen_runtime_cmpstring"], unfollowed := true, recurses := true, apart := false }
def ModelUndoSaid : Prop := modelUndoRow.holds Try.pinned (OpenSpec.ofChange modelUndoSpec)

/-- ITS FALSE NEIGHBOUR: 'it returns false'. Refute it at one input. -/
def modelUndoWrong : ChangeSpec := { name := "modelUndo", fn := fun _ => fun
  | [d1, d2, d3, d4, d5] => { results := [.lit (.bool false)], args := [d1, d2, d3, d4, d5] }
  | _ => none }
def ModelUndoWrongFalsely : Prop := modelUndoRow.holds Try.pinned (OpenSpec.ofChange modelUndoWrong)

/-- 'shuntlaw7.ModelRest': WHATEVER THE INPUT: true; the input reads as it did. -/
def modelRestSpec : ChangeSpec := { name := "modelRest", fn := fun _ => fun
  | [d1, d2, d3] => { results := [.lit (.bool true)], args := [d1, d2, d3] }
  | _ => none }
def modelRestRow : OpenClaim := { program := "ytjagddhkoacipaa", sum := "dee5a3bddb91a77e449b649c97f40d6f74ee2ab9107770d6a5fd190bb0cae8f1", func := "shunt/shuntlaw7.ModelRest", spec := "modelRest", inPlace := ["internal/bytealg.abigen_runtime_cmpstring"], unfollowed := true, recurses := true, apart := false }
def ModelRestSaid : Prop := modelRestRow.holds Try.pinned (OpenSpec.ofChange modelRestSpec)

/-- ITS FALSE NEIGHBOUR: 'it returns false'. Refute it at one input. -/
def modelRestWrong : ChangeSpec := { name := "modelRest", fn := fun _ => fun
  | [d1, d2, d3] => { results := [.lit (.bool false)], args := [d1, d2, d3] }
  | _ => none }
def ModelRestWrongFalsely : Prop := modelRestRow.holds Try.pinned (OpenSpec.ofChange modelRestWrong)

/-- 'shuntlaw7.ModelSplit': WHATEVER THE INPUT: true; the input reads as it did. -/
def modelSplitSpec : ChangeSpec := { name := "modelSplit", fn := fun _ => fun
  | [d1, d2, d3, d4] => { results := [.lit (.bool true)], args := [d1, d2, d3, d4] }
  | _ => none }
def modelSplitRow : OpenClaim := { program := "ytjagddhkoacipaa", sum := "dee5a3bddb91a77e449b649c97f40d6f74ee2ab9107770d6a5fd190bb0cae8f1", func := "shunt/shuntlaw7.ModelSplit", spec := "modelSplit", inPlace := ["internal/bytealg.abigen_runtime_cmpstring"], unfollowed := true, recurses := true, apart := false }
def ModelSplitSaid : Prop := modelSplitRow.holds Try.pinned (OpenSpec.ofChange modelSplitSpec)

/-- ITS FALSE NEIGHBOUR: 'it returns false'. Refute it at one input. -/
def modelSplitWrong : ChangeSpec := { name := "modelSplit", fn := fun _ => fun
  | [d1, d2, d3, d4] => { results := [.lit (.bool false)], args := [d1, d2, d3, d4] }
  | _ => none }
def ModelSplitWrongFalsely : Prop := modelSplitRow.holds Try.pinned (OpenSpec.ofChange modelSplitWrong)

/-- 'shuntlaw7.ModelSwap': WHATEVER THE INPUT: true; the input reads as it did. -/
def modelSwapSpec : ChangeSpec := { name := "modelSwap", fn := fun _ => fun
  | [d1, d2, d3, d4] => { results := [.lit (.bool true)], args := [d1, d2, d3, d4] }
  | _ => none }
def modelSwapRow : OpenClaim := { program := "ytjagddhkoacipaa", sum := "dee5a3bddb91a77e449b649c97f40d6f74ee2ab9107770d6a5fd190bb0cae8f1", func := "shunt/shuntlaw7.ModelSwap", spec := "modelSwap", inPlace := ["internal/bytealg.abigen_runtime_cmpstring"], unfollowed := true, recurses := true, apart := false }
def ModelSwapSaid : Prop := modelSwapRow.holds Try.pinned (OpenSpec.ofChange modelSwapSpec)

/-- ITS FALSE NEIGHBOUR: 'it returns false'. Refute it at one input. -/
def modelSwapWrong : ChangeSpec := { name := "modelSwap", fn := fun _ => fun
  | [d1, d2, d3, d4] => { results := [.lit (.bool false)], args := [d1, d2, d3, d4] }
  | _ => none }
def ModelSwapWrongFalsely : Prop := modelSwapRow.holds Try.pinned (OpenSpec.ofChange modelSwapWrong)

/-- 'shuntlaw7.ModelGrows': WHATEVER THE INPUT: true; the input reads as it did. -/
def modelGrowsSpec : ChangeSpec := { name := "modelGrows", fn := fun _ => fun
  | [d1, d2, d3] => { results := [.lit (.bool true)], args := [d1, d2, d3] }
  | _ => none }
def modelGrowsRow : OpenClaim := { program := "ytjagddhkoacipaa", sum := "dee5a3bddb91a77e449b649c97f40d6f74ee2ab9107770d6a5fd190bb0cae8f1", func := "shunt/shuntlaw7.ModelGrows", spec := "modelGrows", inPlace := ["internal/bytealg.abigen_runtime_cmpstring"], unfollowed := true, recurses := true, apart := false }
def ModelGrowsSaid : Prop := modelGrowsRow.holds Try.pinned (OpenSpec.ofChange modelGrowsSpec)

/-- ITS FALSE NEIGHBOUR: 'it returns false'. Refute it at one input. -/
def modelGrowsWrong : ChangeSpec := { name := "modelGrows", fn := fun _ => fun
  | [d1, d2, d3] => { results := [.lit (.bool false)], args := [d1, d2, d3] }
  | _ => none }
def ModelGrowsWrongFalsely : Prop := modelGrowsRow.holds Try.pinned (OpenSpec.ofChange modelGrowsWrong)

/-- 'shuntlaw7.ModelFull': WHATEVER THE INPUT: true; the input reads as it did. -/
def modelFullSpec : ChangeSpec := { name := "modelFull", fn := fun _ => fun
  | [d] => { results := [.lit (.bool true)], args := [d] }
  | _ => none }
def modelFullRow : OpenClaim := { program := "ytjagddhkoacipaa", sum := "dee5a3bddb91a77e449b649c97f40d6f74ee2ab9107770d6a5fd190bb0cae8f1", func := "shunt/shuntlaw7.ModelFull", spec := "modelFull", inPlace := ["internal/bytealg.abigen_runtime_cmpstring"], unfollowed := true, recurses := true, apart := false }
def ModelFullSaid : Prop := modelFullRow.holds Try.pinned (OpenSpec.ofChange modelFullSpec)

/-- ITS FALSE NEIGHBOUR: 'it returns false'. Refute it at one input. -/
def modelFullWrong : ChangeSpec := { name := "modelFull", fn := fun _ => fun
  | [d] => { results := [.lit (.bool false)], args := [d] }
  | _ => none }
def ModelFullWrongFalsely : Prop := modelFullRow.holds Try.pinned (OpenSpec.ofChange modelFullWrong)

/-- 'shuntlaw7.ModelIgnores': WHATEVER THE INPUT: true; the input reads as it did. -/
def modelIgnoresSpec : ChangeSpec := { name := "modelIgnores", fn := fun _ => fun
  | [d1, d2, d3, d4, d5, d6] => { results := [.lit (.bool true)], args := [d1, d2, d3, d4, d5, d6] }
  | _ => none }
def modelIgnoresRow : OpenClaim := { program := "ytjagddhkoacipaa", sum := "dee5a3bddb91a77e449b649c97f40d6f74ee2ab9107770d6a5fd190bb0cae8f1", func := "shunt/shuntlaw7.ModelIgnores", spec := "modelIgnores", inPlace := ["internal/bytealg.abigen_runtime_cmpstring"], unfollowed := true, recurses := true, apart := false }
def ModelIgnoresSaid : Prop := modelIgnoresRow.holds Try.pinned (OpenSpec.ofChange modelIgnoresSpec)

/-- ITS FALSE NEIGHBOUR: 'it returns false'. Refute it at one input. -/
def modelIgnoresWrong : ChangeSpec := { name := "modelIgnores", fn := fun _ => fun
  | [d1, d2, d3, d4, d5, d6] => { results := [.lit (.bool false)], args := [d1, d2, d3, d4, d5, d6] }
  | _ => none }
def ModelIgnoresWrongFalsely : Prop := modelIgnoresRow.holds Try.pinned (OpenSpec.ofChange modelIgnoresWrong)

/- THE SECOND FORM. 'bulk': how many values and letters a reading holds, each counted each time it is reached (what is shared counts as often as it is met; a slice's spare places count too). A statement '..UptoSaid' is the law's where the arguments, and the package variables that the reading takes, are together of bulk at most 1048576: NARROWER than '..Said'. Prove '..Said' where nothing that the law and all that it calls make is longer than what came in: it says more and counts as full. Else prove '..UptoSaid'. A law counts once. -/
mutual
def uptoBulk {H : Type} : DataW H → Nat
  | .lit (.string bytes) => bytes.length + 1
  | .lit _ => 1
  | .nil => 1
  | .ptr d => uptoBulk d + 1
  | .slice elems spare => uptoBulkAll elems + uptoBulkAll spare + 1
  | .agg parts => uptoBulkAll parts + 1
  | .iface _ d => uptoBulk d + 1
  | .map entries => uptoBulkEntries entries + 1
  | .held _ => 1
def uptoBulkAll {H : Type} : List (DataW H) → Nat
  | [] => 0
  | d :: r => uptoBulk d + uptoBulkAll r
def uptoBulkEntries {H : Type} : List (Lit × DataW H) → Nat
  | [] => 0
  | x :: r => uptoBulkEntry x + uptoBulkEntries r
def uptoBulkEntry {H : Type} : Lit × DataW H → Nat
  | (.string bytes, d) => bytes.length + uptoBulk d + 1
  | (_, d) => uptoBulk d + 1
 end
def uptoSmall : (H : Type) → List (DataW H) → Bool := fun _ ds => decide (uptoBulkAll ds ≤ 1048576)
def OpenSpec.upto (s : _root_.Go.ChangeSpec) : _root_.Go.OpenSpec := { _root_.Go.OpenSpec.ofChange s with cond := some uptoSmall }

/-- 'shuntlaw6.TreeCanon', WHERE WHAT IT READS IS OF BULK AT MOST 1048576: true; the input reads as it did. -/
def treeCanonUptoRow : OpenClaim := { program := "ytjagddhkoacipaa", sum := "dee5a3bddb91a77e449b649c97f40d6f74ee2ab9107770d6a5fd190bb0cae8f1", func := "shunt/shuntlaw6.TreeCanon", spec := "treeCanon", unfollowed := true, recurses := true, apart := false, narrowed := true }
def TreeCanonUptoSaid : Prop := treeCanonUptoRow.holds Try.pinned (OpenSpec.upto treeCanonSpec)

/-- 'shuntlaw6.TreeHeld', WHERE WHAT IT READS IS OF BULK AT MOST 1048576: true; the input reads as it did. -/
def treeHeldUptoRow : OpenClaim := { program := "ytjagddhkoacipaa", sum := "dee5a3bddb91a77e449b649c97f40d6f74ee2ab9107770d6a5fd190bb0cae8f1", func := "shunt/shuntlaw6.TreeHeld", spec := "treeHeld", unfollowed := true, recurses := true, apart := false, narrowed := true }
def TreeHeldUptoSaid : Prop := treeHeldUptoRow.holds Try.pinned (OpenSpec.upto treeHeldSpec)

/-- 'shuntlaw7.ModelLong', WHERE WHAT IT READS IS OF BULK AT MOST 1048576: true; the input reads as it did. -/
def modelLongUptoRow : OpenClaim := { program := "ytjagddhkoacipaa", sum := "dee5a3bddb91a77e449b649c97f40d6f74ee2ab9107770d6a5fd190bb0cae8f1", func := "shunt/shuntlaw7.ModelLong", spec := "modelLong", inPlace := ["internal/bytealg.abigen_runtime_cmpstring"], unfollowed := true, recurses := true, apart := false, narrowed := true }
def ModelLongUptoSaid : Prop := modelLongUptoRow.holds Try.pinned (OpenSpec.upto modelLongSpec)

/-- 'shuntlaw7.ModelUndo', WHERE WHAT IT READS IS OF BULK AT MOST 1048576: true; the input reads as it did. -/
def modelUndoUptoRow : OpenClaim := { program := "ytjagddhkoacipaa", sum := "dee5a3bddb91a77e449b649c97f40d6f74ee2ab9107770d6a5fd190bb0cae8f1", func := "shunt/shuntlaw7.ModelUndo", spec := "modelUndo", inPlace := ["internal/bytealg.abigen_runtime_cmpstring"], unfollowed := true, recurses := true, apart := false, narrowed := true }
def ModelUndoUptoSaid : Prop := modelUndoUptoRow.holds Try.pinned (OpenSpec.upto modelUndoSpec)

/-- 'shuntlaw7.ModelRest', WHERE WHAT IT READS IS OF BULK AT MOST 1048576: true; the input reads as it did. -/
def modelRestUptoRow : OpenClaim := { program := "ytjagddhkoacipaa", sum := "dee5a3bddb91a77e449b649c97f40d6f74ee2ab9107770d6a5fd190bb0cae8f1", func := "shunt/shuntlaw7.ModelRest", spec := "modelRest", inPlace := ["internal/bytealg.abigen_runtime_cmpstring"], unfollowed := true, recurses := true, apart := false, narrowed := true }
def ModelRestUptoSaid : Prop := modelRestUptoRow.holds Try.pinned (OpenSpec.upto modelRestSpec)

/-- 'shuntlaw7.ModelSplit', WHERE WHAT IT READS IS OF BULK AT MOST 1048576: true; the input reads as it did. -/
def modelSplitUptoRow : OpenClaim := { program := "ytjagddhkoacipaa", sum := "dee5a3bddb91a77e449b649c97f40d6f74ee2ab9107770d6a5fd190bb0cae8f1", func := "shunt/shuntlaw7.ModelSplit", spec := "modelSplit", inPlace := ["internal/bytealg.abigen_runtime_cmpstring"], unfollowed := true, recurses := true, apart := false, narrowed := true }
def ModelSplitUptoSaid : Prop := modelSplitUptoRow.holds Try.pinned (OpenSpec.upto modelSplitSpec)

/-- 'shuntlaw7.ModelSwap', WHERE WHAT IT READS IS OF BULK AT MOST 1048576: true; the input reads as it did. -/
def modelSwapUptoRow : OpenClaim := { program := "ytjagddhkoacipaa", sum := "dee5a3bddb91a77e449b649c97f40d6f74ee2ab9107770d6a5fd190bb0cae8f1", func := "shunt/shuntlaw7.ModelSwap", spec := "modelSwap", inPlace := ["internal/bytealg.abigen_runtime_cmpstring"], unfollowed := true, recurses := true, apart := false, narrowed := true }
def ModelSwapUptoSaid : Prop := modelSwapUptoRow.holds Try.pinned (OpenSpec.upto modelSwapSpec)

/-- 'shuntlaw7.ModelGrows', WHERE WHAT IT READS IS OF BULK AT MOST 1048576: true; the input reads as it did. -/
def modelGrowsUptoRow : OpenClaim := { program := "ytjagddhkoacipaa", sum := "dee5a3bddb91a77e449b649c97f40d6f74ee2ab9107770d6a5fd190bb0cae8f1", func := "shunt/shuntlaw7.ModelGrows", spec := "modelGrows", inPlace := ["internal/bytealg.abigen_runtime_cmpstring"], unfollowed := true, recurses := true, apart := false, narrowed := true }
def ModelGrowsUptoSaid : Prop := modelGrowsUptoRow.holds Try.pinned (OpenSpec.upto modelGrowsSpec)

/-- 'shuntlaw7.ModelFull', WHERE WHAT IT READS IS OF BULK AT MOST 1048576: true; the input reads as it did. -/
def modelFullUptoRow : OpenClaim := { program := "ytjagddhkoacipaa", sum := "dee5a3bddb91a77e449b649c97f40d6f74ee2ab9107770d6a5fd190bb0cae8f1", func := "shunt/shuntlaw7.ModelFull", spec := "modelFull", inPlace := ["internal/bytealg.abigen_runtime_cmpstring"], unfollowed := true, recurses := true, apart := false, narrowed := true }
def ModelFullUptoSaid : Prop := modelFullUptoRow.holds Try.pinned (OpenSpec.upto modelFullSpec)

/-- 'shuntlaw7.ModelIgnores', WHERE WHAT IT READS IS OF BULK AT MOST 1048576: true; the input reads as it did. -/
def modelIgnoresUptoRow : OpenClaim := { program := "ytjagddhkoacipaa", sum := "dee5a3bddb91a77e449b649c97f40d6f74ee2ab9107770d6a5fd190bb0cae8f1", func := "shunt/shuntlaw7.ModelIgnores", spec := "modelIgnores", inPlace := ["internal/bytealg.abigen_runtime_cmpstring"], unfollowed := true, recurses := true, apart := false, narrowed := true }
def ModelIgnoresUptoSaid : Prop := modelIgnoresUptoRow.holds Try.pinned (OpenSpec.upto modelIgnoresSpec)

end Rows
end Go.Proofs.Ytjagddhkoacipaa
