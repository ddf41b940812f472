/-
  No cell of these rows narrows 'for every input' (looked for: loops, veiled, ifaces, maps, wideKeys, modest, calm, conditions, laid).
  DERIVED. THE GIVEN ROWS OF THIS SEAT. 4 by the template 'for every input the law returns true; each argument reads behind the call as it read before'; 0 by the template 'total and deterministic' (their statements: YtfgpaffcfkbjlaaTotals.lean).
  GIVEN WITH THE SEED: the statements are not yours to turn. If you find one false, say at which input.
  Laid BY PROGRAM, IN A SANDBOX (cutbox-rows.mjs): the forced cells as the released guide's own fill.sh prints them over the translation 516d4e7b685299c7… (all of the seat's roots in one cut). By AI agents, Wed Nov 11 2026. No macro, syntax, notation, axiom, sorry.
-/
import Derived.Test.YtfgpaffcfkbjlaaChecked
import GoSem.Claim
import GoSem.ClaimJoined
import GoSem.ClaimMapViews
import Derived.JoinedTies
import Derived.KernelRfl
namespace Go.Proofs.Ytfgpaffcfkbjlaa
/- THE CELL 'sum', in the pinned program and in every row, IS THE sha256 OF THE DUMP (.gsa) THAT YtfgpaffcfkbjlaaProg.lean LOADS. Nothing in Lean hashes anything: it is a label: what it is worth is what the hold of that sum in a sandbox is worth. -/
noncomputable def Try.pinned : Pinned := { name := "ytfgpaffcfkbjlaa", sum := "516d4e7b685299c748a746ca2f48f476be566e33d3cdfe34719cf37f556c2513", checked := Try.checked }
namespace Rows
def none {H : Type} : Left H := { results := [], args := [] }

/-- 'shuntlaw14.CompTells': WHATEVER THE INPUT: true; the input reads as it did. -/
def compTellsSpec : ChangeSpec := { name := "compTells", fn := fun _ => fun
  | [d1, d2] => { results := [.lit (.bool true)], args := [d1, d2] }
  | _ => none }
def compTellsRow : OpenClaim := { program := "ytfgpaffcfkbjlaa", sum := "516d4e7b685299c748a746ca2f48f476be566e33d3cdfe34719cf37f556c2513", func := "shunt/shuntlaw14.CompTells", spec := "compTells", inPlace := ["slices.overlaps[int]"], unfollowed := true, recurses := true, apart := false }
def CompTellsSaid : Prop := compTellsRow.holds Try.pinned (OpenSpec.ofChange compTellsSpec)

/-- ITS FALSE NEIGHBOUR: 'it returns false'. Refute it at one input. -/
def compTellsWrong : ChangeSpec := { name := "compTells", fn := fun _ => fun
  | [d1, d2] => { results := [.lit (.bool false)], args := [d1, d2] }
  | _ => none }
def CompTellsWrongFalsely : Prop := compTellsRow.holds Try.pinned (OpenSpec.ofChange compTellsWrong)

/-- 'shuntlaw14.CompWhole': WHATEVER THE INPUT: true; the input reads as it did. -/
def compWholeSpec : ChangeSpec := { name := "compWhole", fn := fun _ => fun
  | [d] => { results := [.lit (.bool true)], args := [d] }
  | _ => none }
def compWholeRow : OpenClaim := { program := "ytfgpaffcfkbjlaa", sum := "516d4e7b685299c748a746ca2f48f476be566e33d3cdfe34719cf37f556c2513", func := "shunt/shuntlaw14.CompWhole", spec := "compWhole", inPlace := ["slices.overlaps[int]"], unfollowed := true, recurses := true, apart := false }
def CompWholeSaid : Prop := compWholeRow.holds Try.pinned (OpenSpec.ofChange compWholeSpec)

/-- ITS FALSE NEIGHBOUR: 'it returns false'. Refute it at one input. -/
def compWholeWrong : ChangeSpec := { name := "compWhole", fn := fun _ => fun
  | [d] => { results := [.lit (.bool false)], args := [d] }
  | _ => none }
def CompWholeWrongFalsely : Prop := compWholeRow.holds Try.pinned (OpenSpec.ofChange compWholeWrong)

/-- 'shuntlaw14.CompRow': WHATEVER THE INPUT: true; the input reads as it did. -/
def compRowSpec : ChangeSpec := { name := "compRow", fn := fun _ => fun
  | [d] => { results := [.lit (.bool true)], args := [d] }
  | _ => none }
def compRowRow : OpenClaim := { program := "ytfgpaffcfkbjlaa", sum := "516d4e7b685299c748a746ca2f48f476be566e33d3cdfe34719cf37f556c2513", func := "shunt/shuntlaw14.CompRow", spec := "compRow", inPlace := ["slices.overlaps[int]"], unfollowed := true, recurses := true, apart := false }
def CompRowSaid : Prop := compRowRow.holds Try.pinned (OpenSpec.ofChange compRowSpec)

/-- ITS FALSE NEIGHBOUR: 'it returns false'. Refute it at one input. -/
def compRowWrong : ChangeSpec := { name := "compRow", fn := fun _ => fun
  | [d] => { results := [.lit (.bool false)], args := [d] }
  | _ => none }
def CompRowWrongFalsely : Prop := compRowRow.holds Try.pinned (OpenSpec.ofChange compRowWrong)

/-- 'shuntlaw14.CompMore': WHATEVER THE INPUT: true; the input reads as it did. -/
def compMoreSpec : ChangeSpec := { name := "compMore", fn := fun _ => fun
  | [d1, d2] => { results := [.lit (.bool true)], args := [d1, d2] }
  | _ => none }
def compMoreRow : OpenClaim := { program := "ytfgpaffcfkbjlaa", sum := "516d4e7b685299c748a746ca2f48f476be566e33d3cdfe34719cf37f556c2513", func := "shunt/shuntlaw14.CompMore", spec := "compMore", inPlace := ["slices.overlaps[int]"], unfollowed := true, recurses := true, apart := false }
def CompMoreSaid : Prop := compMoreRow.holds Try.pinned (OpenSpec.ofChange compMoreSpec)

/-- ITS FALSE NEIGHBOUR: 'it returns false'. Refute it at one input. -/
def compMoreWrong : ChangeSpec := { name := "compMore", fn := fun _ => fun
  | [d1, d2] => { results := [.lit (.bool false)], args := [d1, d2] }
  | _ => none }
def CompMoreWrongFalsely : Prop := compMoreRow.holds Try.pinned (OpenSpec.ofChange compMoreWrong)

/- THE SECOND FORM. 'bulk': how many values and letters a reading holds, each counted each time it is reached (what is shared counts as often as it is met; a slice's spare places count too). A statement '..UptoSaid' is the law's where the arguments, and the package variables that the reading takes, are together of bulk at most 1048576: NARROWER than '..Said'. Prove '..Said' where nothing that the law and all that it calls make is longer than what came in: it says more and counts as full. Else prove '..UptoSaid'. A law counts once. -/
mutual
def uptoBulk {H : Type} : DataW H → Nat
  | .lit (.string bytes) => bytes.length + 1
  | .lit _ => 1
  | .nil => 1
  | .ptr d => uptoBulk d + 1
  | .slice elems spare => uptoBulkAll elems + uptoBulkAll spare + 1
  | .agg parts => uptoBulkAll parts + 1
  | .iface _ d => uptoBulk d + 1
  | .map entries => uptoBulkEntries entries + 1
  | .held _ => 1
def uptoBulkAll {H : Type} : List (DataW H) → Nat
  | [] => 0
  | d :: r => uptoBulk d + uptoBulkAll r
def uptoBulkEntries {H : Type} : List (Lit × DataW H) → Nat
  | [] => 0
  | x :: r => uptoBulkEntry x + uptoBulkEntries r
def uptoBulkEntry {H : Type} : Lit × DataW H → Nat
  | (.string bytes, d) => bytes.length + uptoBulk d + 1
  | (_, d) => uptoBulk d + 1
 end
def uptoSmall : (H : Type) → List (DataW H) → Bool := fun _ ds => decide (uptoBulkAll ds ≤ 1048576)
def OpenSpec.upto (s : _root_.Go.ChangeSpec) : _root_.Go.OpenSpec := { _root_.Go.OpenSpec.ofChange s with cond := some uptoSmall }

/-- 'shuntlaw14.CompTells', WHERE WHAT IT READS IS OF BULK AT MOST 1048576: true; the input reads as it did. -/
def compTellsUptoRow : OpenClaim := { program := "ytfgpaffcfkbjlaa", sum := "516d4e7b685299c748a746ca2f48f476be566e33d3cdfe34719cf37f556c2513", func := "shunt/shuntlaw14.CompTells", spec := "compTells", inPlace := ["slices.overlaps[int]"], unfollowed := true, recurses := true, apart := false, narrowed := true }
def CompTellsUptoSaid : Prop := compTellsUptoRow.holds Try.pinned (OpenSpec.upto compTellsSpec)

/-- 'shuntlaw14.CompWhole', WHERE WHAT IT READS IS OF BULK AT MOST 1048576: true; the input reads as it did. -/
def compWholeUptoRow : OpenClaim := { program := "ytfgpaffcfkbjlaa", sum := "516d4e7b685299c748a746ca2f48f476be566e33d3cdfe34719cf37f556c2513", func := "shunt/shuntlaw14.CompWhole", spec := "compWhole", inPlace := ["slices.overlaps[int]"], unfollowed := true, recurses := true, apart := false, narrowed := true }
def CompWholeUptoSaid : Prop := compWholeUptoRow.holds Try.pinned (OpenSpec.upto compWholeSpec)

/-- 'shuntlaw14.CompRow', WHERE WHAT IT READS IS OF BULK AT MOST 1048576: true; the input reads as it did. -/
def compRowUptoRow : OpenClaim := { program := "ytfgpaffcfkbjlaa", sum := "516d4e7b685299c748a746ca2f48f476be566e33d3cdfe34719cf37f556c2513", func := "shunt/shuntlaw14.CompRow", spec := "compRow", inPlace := ["slices.overlaps[int]"], unfollowed := true, recurses := true, apart := false, narrowed := true }
def CompRowUptoSaid : Prop := compRowUptoRow.holds Try.pinned (OpenSpec.upto compRowSpec)

/-- 'shuntlaw14.CompMore', WHERE WHAT IT READS IS OF BULK AT MOST 1048576: true; the input reads as it did. -/
def compMoreUptoRow : OpenClaim := { program := "ytfgpaffcfkbjlaa", sum := "516d4e7b685299c748a746ca2f48f476be566e33d3cdfe34719cf37f556c2513", func := "shunt/shuntlaw14.CompMore", spec := "compMore", inPlace := ["slices.overlaps[int]"], unfollowed := true, recurses := true, apart := false, narrowed := true }
def CompMoreUptoSaid : Prop := compMoreUptoRow.holds Try.pinned (OpenSpec.upto compMoreSpec)

end Rows
end Go.Proofs.Ytfgpaffcfkbjlaa
