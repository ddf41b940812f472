/-
  No cell of these rows narrows 'for every input' (looked for: loops, veiled, ifaces, maps, wideKeys, modest, calm, conditions, laid).
  DERIVED. THE GIVEN ROWS OF THIS SEAT. 5 by the template 'for every input the law returns true; each argument reads behind the call as it read before'; 0 by the template 'total and deterministic' (their statements: YtaanihmbnjjhcaaTotals.lean).
  GIVEN WITH THE SEED: the statements are not yours to turn. If you find one false, say at which input.
  Laid BY PROGRAM, IN A SANDBOX (cutbox-rows.mjs): the forced cells as the released guide's own fill.sh prints them over the translation 4483f98e81c8e3d9… (all of the seat's roots in one cut). By AI agents, Wed Nov 11 2026. No macro, syntax, notation, axiom, sorry.
-/
import Derived.Test.YtaanihmbnjjhcaaChecked
import GoSem.Claim
import GoSem.ClaimJoined
import GoSem.ClaimMapViews
import Derived.JoinedTies
import Derived.KernelRfl
namespace Go.Proofs.Ytaanihmbnjjhcaa
/- THE CELL 'sum', in the pinned program and in every row, IS THE sha256 OF THE DUMP (.gsa) THAT YtaanihmbnjjhcaaProg.lean LOADS. Nothing in Lean hashes anything: it is a label: what it is worth is what the hold of that sum in a sandbox is worth. -/
noncomputable def Try.pinned : Pinned := { name := "ytaanihmbnjjhcaa", sum := "4483f98e81c8e3d9d02618ebcea6fa3c23393a185d17efe030b19a01e9b43e38", checked := Try.checked }
namespace Rows
def none {H : Type} : Left H := { results := [], args := [] }

/-- 'shuntlaw6.TreeCanon': WHATEVER THE INPUT: true; the input reads as it did. -/
def treeCanonSpec : ChangeSpec := { name := "treeCanon", fn := fun _ => fun
  | [d] => { results := [.lit (.bool true)], args := [d] }
  | _ => none }
def treeCanonRow : OpenClaim := { program := "ytaanihmbnjjhcaa", sum := "4483f98e81c8e3d9d02618ebcea6fa3c23393a185d17efe030b19a01e9b43e38", func := "shunt/shuntlaw6.TreeCanon", spec := "treeCanon", unfollowed := true, recurses := true, apart := false }
def TreeCanonSaid : Prop := treeCanonRow.holds Try.pinned (OpenSpec.ofChange treeCanonSpec)

/-- ITS FALSE NEIGHBOUR: 'it returns false'. Refute it at one input. -/
def treeCanonWrong : ChangeSpec := { name := "treeCanon", fn := fun _ => fun
  | [d] => { results := [.lit (.bool false)], args := [d] }
  | _ => none }
def TreeCanonWrongFalsely : Prop := treeCanonRow.holds Try.pinned (OpenSpec.ofChange treeCanonWrong)

/-- 'shuntlaw6.TreeShuffled': WHATEVER THE INPUT: true; the input reads as it did. -/
def treeShuffledSpec : ChangeSpec := { name := "treeShuffled", fn := fun _ => fun
  | [d1, d2, d3] => { results := [.lit (.bool true)], args := [d1, d2, d3] }
  | _ => none }
def treeShuffledRow : OpenClaim := { program := "ytaanihmbnjjhcaa", sum := "4483f98e81c8e3d9d02618ebcea6fa3c23393a185d17efe030b19a01e9b43e38", func := "shunt/shuntlaw6.TreeShuffled", spec := "treeShuffled", unfollowed := true, recurses := true, apart := false }
def TreeShuffledSaid : Prop := treeShuffledRow.holds Try.pinned (OpenSpec.ofChange treeShuffledSpec)

/-- ITS FALSE NEIGHBOUR: 'it returns false'. Refute it at one input. -/
def treeShuffledWrong : ChangeSpec := { name := "treeShuffled", fn := fun _ => fun
  | [d1, d2, d3] => { results := [.lit (.bool false)], args := [d1, d2, d3] }
  | _ => none }
def TreeShuffledWrongFalsely : Prop := treeShuffledRow.holds Try.pinned (OpenSpec.ofChange treeShuffledWrong)

/-- 'shuntlaw6.TreeHeld': WHATEVER THE INPUT: true; the input reads as it did. -/
def treeHeldSpec : ChangeSpec := { name := "treeHeld", fn := fun _ => fun
  | [d1, d2] => { results := [.lit (.bool true)], args := [d1, d2] }
  | _ => none }
def treeHeldRow : OpenClaim := { program := "ytaanihmbnjjhcaa", sum := "4483f98e81c8e3d9d02618ebcea6fa3c23393a185d17efe030b19a01e9b43e38", func := "shunt/shuntlaw6.TreeHeld", spec := "treeHeld", unfollowed := true, recurses := true, apart := false }
def TreeHeldSaid : Prop := treeHeldRow.holds Try.pinned (OpenSpec.ofChange treeHeldSpec)

/-- ITS FALSE NEIGHBOUR: 'it returns false'. Refute it at one input. -/
def treeHeldWrong : ChangeSpec := { name := "treeHeld", fn := fun _ => fun
  | [d1, d2] => { results := [.lit (.bool false)], args := [d1, d2] }
  | _ => none }
def TreeHeldWrongFalsely : Prop := treeHeldRow.holds Try.pinned (OpenSpec.ofChange treeHeldWrong)

/-- 'shuntlaw6.TreeTurned': WHATEVER THE INPUT: true; the input reads as it did. -/
def treeTurnedSpec : ChangeSpec := { name := "treeTurned", fn := fun _ => fun
  | [d1, d2, d3] => { results := [.lit (.bool true)], args := [d1, d2, d3] }
  | _ => none }
def treeTurnedRow : OpenClaim := { program := "ytaanihmbnjjhcaa", sum := "4483f98e81c8e3d9d02618ebcea6fa3c23393a185d17efe030b19a01e9b43e38", func := "shunt/shuntlaw6.TreeTurned", spec := "treeTurned", unfollowed := true, recurses := true, apart := false }
def TreeTurnedSaid : Prop := treeTurnedRow.holds Try.pinned (OpenSpec.ofChange treeTurnedSpec)

/-- ITS FALSE NEIGHBOUR: 'it returns false'. Refute it at one input. -/
def treeTurnedWrong : ChangeSpec := { name := "treeTurned", fn := fun _ => fun
  | [d1, d2, d3] => { results := [.lit (.bool false)], args := [d1, d2, d3] }
  | _ => none }
def TreeTurnedWrongFalsely : Prop := treeTurnedRow.holds Try.pinned (OpenSpec.ofChange treeTurnedWrong)

/-- 'shuntlaw6.TreeUnnamed': WHATEVER THE INPUT: true; the input reads as it did. -/
def treeUnnamedSpec : ChangeSpec := { name := "treeUnnamed", fn := fun _ => fun
  | [d1, d2] => { results := [.lit (.bool true)], args := [d1, d2] }
  | _ => none }
def treeUnnamedRow : OpenClaim := { program := "ytaanihmbnjjhcaa", sum := "4483f98e81c8e3d9d02618ebcea6fa3c23393a185d17efe030b19a01e9b43e38", func := "shunt/shuntlaw6.TreeUnnamed", spec := "treeUnnamed", unfollowed := true, recurses := true, apart := false }
def TreeUnnamedSaid : Prop := treeUnnamedRow.holds Try.pinned (OpenSpec.ofChange treeUnnamedSpec)

/-- ITS FALSE NEIGHBOUR: 'it returns false'. Refute it at one input. -/
def treeUnnamedWrong : ChangeSpec := { name := "treeUnnamed", fn := fun _ => fun
  | [d1, d2] => { results := [.lit (.bool false)], args := [d1, d2] }
  | _ => none }
def TreeUnnamedWrongFalsely : Prop := treeUnnamedRow.holds Try.pinned (OpenSpec.ofChange treeUnnamedWrong)

/- THE SECOND FORM. 'bulk': how many values and letters a reading holds, each counted each time it is reached (what is shared counts as often as it is met; a slice's spare places count too). A statement '..UptoSaid' is the law's where the arguments, and the package variables that the reading takes, are together of bulk at most 1048576: NARROWER than '..Said'. Prove '..Said' where nothing that the law and all that it calls make is longer than what came in: it says more and counts as full. Else prove '..UptoSaid'. A law counts once. -/
mutual
def uptoBulk {H : Type} : DataW H → Nat
  | .lit (.string bytes) => bytes.length + 1
  | .lit _ => 1
  | .nil => 1
  | .ptr d => uptoBulk d + 1
  | .slice elems spare => uptoBulkAll elems + uptoBulkAll spare + 1
  | .agg parts => uptoBulkAll parts + 1
  | .iface _ d => uptoBulk d + 1
  | .map entries => uptoBulkEntries entries + 1
  | .held _ => 1
def uptoBulkAll {H : Type} : List (DataW H) → Nat
  | [] => 0
  | d :: r => uptoBulk d + uptoBulkAll r
def uptoBulkEntries {H : Type} : List (Lit × DataW H) → Nat
  | [] => 0
  | x :: r => uptoBulkEntry x + uptoBulkEntries r
def uptoBulkEntry {H : Type} : Lit × DataW H → Nat
  | (.string bytes, d) => bytes.length + uptoBulk d + 1
  | (_, d) => uptoBulk d + 1
 end
def uptoSmall : (H : Type) → List (DataW H) → Bool := fun _ ds => decide (uptoBulkAll ds ≤ 1048576)
def OpenSpec.upto (s : _root_.Go.ChangeSpec) : _root_.Go.OpenSpec := { _root_.Go.OpenSpec.ofChange s with cond := some uptoSmall }

/-- 'shuntlaw6.TreeCanon', WHERE WHAT IT READS IS OF BULK AT MOST 1048576: true; the input reads as it did. -/
def treeCanonUptoRow : OpenClaim := { program := "ytaanihmbnjjhcaa", sum := "4483f98e81c8e3d9d02618ebcea6fa3c23393a185d17efe030b19a01e9b43e38", func := "shunt/shuntlaw6.TreeCanon", spec := "treeCanon", unfollowed := true, recurses := true, apart := false, narrowed := true }
def TreeCanonUptoSaid : Prop := treeCanonUptoRow.holds Try.pinned (OpenSpec.upto treeCanonSpec)

/-- 'shuntlaw6.TreeShuffled', WHERE WHAT IT READS IS OF BULK AT MOST 1048576: true; the input reads as it did. -/
def treeShuffledUptoRow : OpenClaim := { program := "ytaanihmbnjjhcaa", sum := "4483f98e81c8e3d9d02618ebcea6fa3c23393a185d17efe030b19a01e9b43e38", func := "shunt/shuntlaw6.TreeShuffled", spec := "treeShuffled", unfollowed := true, recurses := true, apart := false, narrowed := true }
def TreeShuffledUptoSaid : Prop := treeShuffledUptoRow.holds Try.pinned (OpenSpec.upto treeShuffledSpec)

/-- 'shuntlaw6.TreeHeld', WHERE WHAT IT READS IS OF BULK AT MOST 1048576: true; the input reads as it did. -/
def treeHeldUptoRow : OpenClaim := { program := "ytaanihmbnjjhcaa", sum := "4483f98e81c8e3d9d02618ebcea6fa3c23393a185d17efe030b19a01e9b43e38", func := "shunt/shuntlaw6.TreeHeld", spec := "treeHeld", unfollowed := true, recurses := true, apart := false, narrowed := true }
def TreeHeldUptoSaid : Prop := treeHeldUptoRow.holds Try.pinned (OpenSpec.upto treeHeldSpec)

/-- 'shuntlaw6.TreeTurned', WHERE WHAT IT READS IS OF BULK AT MOST 1048576: true; the input reads as it did. -/
def treeTurnedUptoRow : OpenClaim := { program := "ytaanihmbnjjhcaa", sum := "4483f98e81c8e3d9d02618ebcea6fa3c23393a185d17efe030b19a01e9b43e38", func := "shunt/shuntlaw6.TreeTurned", spec := "treeTurned", unfollowed := true, recurses := true, apart := false, narrowed := true }
def TreeTurnedUptoSaid : Prop := treeTurnedUptoRow.holds Try.pinned (OpenSpec.upto treeTurnedSpec)

/-- 'shuntlaw6.TreeUnnamed', WHERE WHAT IT READS IS OF BULK AT MOST 1048576: true; the input reads as it did. -/
def treeUnnamedUptoRow : OpenClaim := { program := "ytaanihmbnjjhcaa", sum := "4483f98e81c8e3d9d02618ebcea6fa3c23393a185d17efe030b19a01e9b43e38", func := "shunt/shuntlaw6.TreeUnnamed", spec := "treeUnnamed", unfollowed := true, recurses := true, apart := false, narrowed := true }
def TreeUnnamedUptoSaid : Prop := treeUnnamedUptoRow.holds Try.pinned (OpenSpec.upto treeUnnamedSpec)

end Rows
end Go.Proofs.Ytaanihmbnjjhcaa
