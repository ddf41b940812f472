/-
  NARROWER THAN 'FOR EVERY INPUT', by the rows' own cells (each row's printed sentence says how): SumCRC: laid · SumSHA: laid · SumParts: laid · SumSplit: laid · SumTurned: laid · SumLength: laid · SumAgain: laid · SumJoin: laid.
  DERIVED. THE GIVEN ROWS OF THIS SEAT. 8 by the template 'for every input the law returns true; each argument reads behind the call as it read before'; 0 by the template 'total and deterministic' (their statements: YtekccgdlohofkaaDoorTotals.lean).
  GIVEN WITH THE SEED: the statements are not yours to turn. If you find one false, say at which input.
  Laid BY PROGRAM, IN A SANDBOX (cutbox-rows.mjs): the forced cells as the released guide's own fill.sh prints them over the translation 3628de95fa3db857… (all of the seat's roots in one cut). By AI agents, Wed Nov 11 2026. No macro, syntax, notation, axiom, sorry.
-/
import Derived.Test.YtekccgdlohofkaaDoorChecked
import GoSem.Claim
import GoSem.ClaimJoined
import GoSem.ClaimMapViews
import Derived.JoinedTies
import Derived.KernelRfl
namespace Go.Proofs.YtekccgdlohofkaaDoor
/- THE CELL 'sum', in the pinned program and in every row, IS THE sha256 OF THE DUMP (.gsa) THAT YtekccgdlohofkaaDoorProg.lean LOADS. Nothing in Lean hashes anything: it is a label: what it is worth is what the hold of that sum in a sandbox is worth. -/
noncomputable def Tryd.pinned : Pinned := { name := "ytekccgdlohofkaadoor", sum := "3628de95fa3db857412190dec5024cab496fcf4cd0ca9bf3e58efb2af1d9831b", checked := Tryd.checked }
namespace Rows
def none {H : Type} : Left H := { results := [], args := [] }

/- WHAT THE LISTED PACKAGE-LEVEL VARIABLES READ AS WHEN THE CALL BEGINS. Each datum BY PROGRAM (the guide's laid-datum.mjs) off the statement by which the dump's own 'gosem.cut.vars' lays the variable. In a bare row this is a premise. The card (YtekccgdlohofkaaDoorCards.lean) ties it to the program's text. -/
def laid_shunt_sum_crcs {H : Type} : DataW H := .agg [.lit (.int .u32 0), .lit (.int .u32 498536548), .lit (.int .u32 997073096), .lit (.int .u32 651767980), .lit (.int .u32 1994146192), .lit (.int .u32 1802195444), .lit (.int .u32 1303535960), .lit (.int .u32 1342533948), .lit (.int .u32 3988292384), .lit (.int .u32 4027552580), .lit (.int .u32 3604390888), .lit (.int .u32 3412177804), .lit (.int .u32 2607071920), .lit (.int .u32 2262029012), .lit (.int .u32 2685067896), .lit (.int .u32 3183342108)]
def laid_shunt_sum_adds {H : Type} : DataW H := .agg [.lit (.int .u32 1116352408), .lit (.int .u32 1899447441), .lit (.int .u32 3049323471), .lit (.int .u32 3921009573), .lit (.int .u32 961987163), .lit (.int .u32 1508970993), .lit (.int .u32 2453635748), .lit (.int .u32 2870763221), .lit (.int .u32 3624381080), .lit (.int .u32 310598401), .lit (.int .u32 607225278), .lit (.int .u32 1426881987), .lit (.int .u32 1925078388), .lit (.int .u32 2162078206), .lit (.int .u32 2614888103), .lit (.int .u32 3248222580), .lit (.int .u32 3835390401), .lit (.int .u32 4022224774), .lit (.int .u32 264347078), .lit (.int .u32 604807628), .lit (.int .u32 770255983), .lit (.int .u32 1249150122), .lit (.int .u32 1555081692), .lit (.int .u32 1996064986), .lit (.int .u32 2554220882), .lit (.int .u32 2821834349), .lit (.int .u32 2952996808), .lit (.int .u32 3210313671), .lit (.int .u32 3336571891), .lit (.int .u32 3584528711), .lit (.int .u32 113926993), .lit (.int .u32 338241895), .lit (.int .u32 666307205), .lit (.int .u32 773529912), .lit (.int .u32 1294757372), .lit (.int .u32 1396182291), .lit (.int .u32 1695183700), .lit (.int .u32 1986661051), .lit (.int .u32 2177026350), .lit (.int .u32 2456956037), .lit (.int .u32 2730485921), .lit (.int .u32 2820302411), .lit (.int .u32 3259730800), .lit (.int .u32 3345764771), .lit (.int .u32 3516065817), .lit (.int .u32 3600352804), .lit (.int .u32 4094571909), .lit (.int .u32 275423344), .lit (.int .u32 430227734), .lit (.int .u32 506948616), .lit (.int .u32 659060556), .lit (.int .u32 883997877), .lit (.int .u32 958139571), .lit (.int .u32 1322822218), .lit (.int .u32 1537002063), .lit (.int .u32 1747873779), .lit (.int .u32 1955562222), .lit (.int .u32 2024104815), .lit (.int .u32 2227730452), .lit (.int .u32 2361852424), .lit (.int .u32 2428436474), .lit (.int .u32 2756734187), .lit (.int .u32 3204031479), .lit (.int .u32 3329325298)]

/-- 'shuntlaw2.SumCRC': WHATEVER THE INPUT: true; the input reads as it did. -/
def sumCRCSpec : ChangeSpec := { name := "sumCRC", fn := fun _ => fun
  | [d1, d2, d3] => { results := [.lit (.bool true)], args := [d1, d2, d3] }
  | _ => none }
def sumCRCRow : OpenClaim := { program := "ytekccgdlohofkaadoor", sum := "3628de95fa3db857412190dec5024cab496fcf4cd0ca9bf3e58efb2af1d9831b", func := "shunt/shuntlaw2.SumCRC", spec := "sumCRC", named := ["shunt/sum.crcs", "shunt/sum.adds"], apart := false, laid := [("shunt/sum.crcs", laid_shunt_sum_crcs), ("shunt/sum.adds", laid_shunt_sum_adds)] }
def SumCRCSaid : Prop := sumCRCRow.holds Tryd.pinned (OpenSpec.ofChange sumCRCSpec)

/-- ITS FALSE NEIGHBOUR: 'it returns false'. Refute it at one input. -/
def sumCRCWrong : ChangeSpec := { name := "sumCRC", fn := fun _ => fun
  | [d1, d2, d3] => { results := [.lit (.bool false)], args := [d1, d2, d3] }
  | _ => none }
def SumCRCWrongFalsely : Prop := sumCRCRow.holds Tryd.pinned (OpenSpec.ofChange sumCRCWrong)

/-- 'shuntlaw2.SumSHA': WHATEVER THE INPUT: true; the input reads as it did. -/
def sumSHASpec : ChangeSpec := { name := "sumSHA", fn := fun _ => fun
  | [d] => { results := [.lit (.bool true)], args := [d] }
  | _ => none }
def sumSHARow : OpenClaim := { program := "ytekccgdlohofkaadoor", sum := "3628de95fa3db857412190dec5024cab496fcf4cd0ca9bf3e58efb2af1d9831b", func := "shunt/shuntlaw2.SumSHA", spec := "sumSHA", named := ["shunt/sum.crcs", "shunt/sum.adds"], apart := false, laid := [("shunt/sum.crcs", laid_shunt_sum_crcs), ("shunt/sum.adds", laid_shunt_sum_adds)] }
def SumSHASaid : Prop := sumSHARow.holds Tryd.pinned (OpenSpec.ofChange sumSHASpec)

/-- ITS FALSE NEIGHBOUR: 'it returns false'. Refute it at one input. -/
def sumSHAWrong : ChangeSpec := { name := "sumSHA", fn := fun _ => fun
  | [d] => { results := [.lit (.bool false)], args := [d] }
  | _ => none }
def SumSHAWrongFalsely : Prop := sumSHARow.holds Tryd.pinned (OpenSpec.ofChange sumSHAWrong)

/-- 'shuntlaw2.SumParts': WHATEVER THE INPUT: true; the input reads as it did. -/
def sumPartsSpec : ChangeSpec := { name := "sumParts", fn := fun _ => fun
  | [d1, d2] => { results := [.lit (.bool true)], args := [d1, d2] }
  | _ => none }
def sumPartsRow : OpenClaim := { program := "ytekccgdlohofkaadoor", sum := "3628de95fa3db857412190dec5024cab496fcf4cd0ca9bf3e58efb2af1d9831b", func := "shunt/shuntlaw2.SumParts", spec := "sumParts", named := ["shunt/sum.crcs", "shunt/sum.adds"], apart := false, laid := [("shunt/sum.crcs", laid_shunt_sum_crcs), ("shunt/sum.adds", laid_shunt_sum_adds)] }
def SumPartsSaid : Prop := sumPartsRow.holds Tryd.pinned (OpenSpec.ofChange sumPartsSpec)

/-- ITS FALSE NEIGHBOUR: 'it returns false'. Refute it at one input. -/
def sumPartsWrong : ChangeSpec := { name := "sumParts", fn := fun _ => fun
  | [d1, d2] => { results := [.lit (.bool false)], args := [d1, d2] }
  | _ => none }
def SumPartsWrongFalsely : Prop := sumPartsRow.holds Tryd.pinned (OpenSpec.ofChange sumPartsWrong)

/-- 'shuntlaw2.SumSplit': WHATEVER THE INPUT: true; the input reads as it did. -/
def sumSplitSpec : ChangeSpec := { name := "sumSplit", fn := fun _ => fun
  | [d1, d2] => { results := [.lit (.bool true)], args := [d1, d2] }
  | _ => none }
def sumSplitRow : OpenClaim := { program := "ytekccgdlohofkaadoor", sum := "3628de95fa3db857412190dec5024cab496fcf4cd0ca9bf3e58efb2af1d9831b", func := "shunt/shuntlaw2.SumSplit", spec := "sumSplit", named := ["shunt/sum.crcs", "shunt/sum.adds"], apart := false, laid := [("shunt/sum.crcs", laid_shunt_sum_crcs), ("shunt/sum.adds", laid_shunt_sum_adds)] }
def SumSplitSaid : Prop := sumSplitRow.holds Tryd.pinned (OpenSpec.ofChange sumSplitSpec)

/-- ITS FALSE NEIGHBOUR: 'it returns false'. Refute it at one input. -/
def sumSplitWrong : ChangeSpec := { name := "sumSplit", fn := fun _ => fun
  | [d1, d2] => { results := [.lit (.bool false)], args := [d1, d2] }
  | _ => none }
def SumSplitWrongFalsely : Prop := sumSplitRow.holds Tryd.pinned (OpenSpec.ofChange sumSplitWrong)

/-- 'shuntlaw2.SumTurned': WHATEVER THE INPUT: true; the input reads as it did. -/
def sumTurnedSpec : ChangeSpec := { name := "sumTurned", fn := fun _ => fun
  | [d1, d2, d3] => { results := [.lit (.bool true)], args := [d1, d2, d3] }
  | _ => none }
def sumTurnedRow : OpenClaim := { program := "ytekccgdlohofkaadoor", sum := "3628de95fa3db857412190dec5024cab496fcf4cd0ca9bf3e58efb2af1d9831b", func := "shunt/shuntlaw2.SumTurned", spec := "sumTurned", named := ["shunt/sum.crcs", "shunt/sum.adds"], apart := false, laid := [("shunt/sum.crcs", laid_shunt_sum_crcs), ("shunt/sum.adds", laid_shunt_sum_adds)] }
def SumTurnedSaid : Prop := sumTurnedRow.holds Tryd.pinned (OpenSpec.ofChange sumTurnedSpec)

/-- ITS FALSE NEIGHBOUR: 'it returns false'. Refute it at one input. -/
def sumTurnedWrong : ChangeSpec := { name := "sumTurned", fn := fun _ => fun
  | [d1, d2, d3] => { results := [.lit (.bool false)], args := [d1, d2, d3] }
  | _ => none }
def SumTurnedWrongFalsely : Prop := sumTurnedRow.holds Tryd.pinned (OpenSpec.ofChange sumTurnedWrong)

/-- 'shuntlaw2.SumLength': WHATEVER THE INPUT: true; the input reads as it did. -/
def sumLengthSpec : ChangeSpec := { name := "sumLength", fn := fun _ => fun
  | [d1, d2] => { results := [.lit (.bool true)], args := [d1, d2] }
  | _ => none }
def sumLengthRow : OpenClaim := { program := "ytekccgdlohofkaadoor", sum := "3628de95fa3db857412190dec5024cab496fcf4cd0ca9bf3e58efb2af1d9831b", func := "shunt/shuntlaw2.SumLength", spec := "sumLength", named := ["shunt/sum.crcs", "shunt/sum.adds"], apart := false, laid := [("shunt/sum.crcs", laid_shunt_sum_crcs), ("shunt/sum.adds", laid_shunt_sum_adds)] }
def SumLengthSaid : Prop := sumLengthRow.holds Tryd.pinned (OpenSpec.ofChange sumLengthSpec)

/-- ITS FALSE NEIGHBOUR: 'it returns false'. Refute it at one input. -/
def sumLengthWrong : ChangeSpec := { name := "sumLength", fn := fun _ => fun
  | [d1, d2] => { results := [.lit (.bool false)], args := [d1, d2] }
  | _ => none }
def SumLengthWrongFalsely : Prop := sumLengthRow.holds Tryd.pinned (OpenSpec.ofChange sumLengthWrong)

/-- 'shuntlaw2.SumAgain': WHATEVER THE INPUT: true; the input reads as it did. -/
def sumAgainSpec : ChangeSpec := { name := "sumAgain", fn := fun _ => fun
  | [d1, d2] => { results := [.lit (.bool true)], args := [d1, d2] }
  | _ => none }
def sumAgainRow : OpenClaim := { program := "ytekccgdlohofkaadoor", sum := "3628de95fa3db857412190dec5024cab496fcf4cd0ca9bf3e58efb2af1d9831b", func := "shunt/shuntlaw2.SumAgain", spec := "sumAgain", named := ["shunt/sum.crcs", "shunt/sum.adds"], apart := false, laid := [("shunt/sum.crcs", laid_shunt_sum_crcs), ("shunt/sum.adds", laid_shunt_sum_adds)] }
def SumAgainSaid : Prop := sumAgainRow.holds Tryd.pinned (OpenSpec.ofChange sumAgainSpec)

/-- ITS FALSE NEIGHBOUR: 'it returns false'. Refute it at one input. -/
def sumAgainWrong : ChangeSpec := { name := "sumAgain", fn := fun _ => fun
  | [d1, d2] => { results := [.lit (.bool false)], args := [d1, d2] }
  | _ => none }
def SumAgainWrongFalsely : Prop := sumAgainRow.holds Tryd.pinned (OpenSpec.ofChange sumAgainWrong)

/-- 'shuntlaw2.SumJoin': WHATEVER THE INPUT: true; the input reads as it did. -/
def sumJoinSpec : ChangeSpec := { name := "sumJoin", fn := fun _ => fun
  | [d1, d2, d3] => { results := [.lit (.bool true)], args := [d1, d2, d3] }
  | _ => none }
def sumJoinRow : OpenClaim := { program := "ytekccgdlohofkaadoor", sum := "3628de95fa3db857412190dec5024cab496fcf4cd0ca9bf3e58efb2af1d9831b", func := "shunt/shuntlaw2.SumJoin", spec := "sumJoin", named := ["shunt/sum.crcs", "shunt/sum.adds"], apart := false, laid := [("shunt/sum.crcs", laid_shunt_sum_crcs), ("shunt/sum.adds", laid_shunt_sum_adds)] }
def SumJoinSaid : Prop := sumJoinRow.holds Tryd.pinned (OpenSpec.ofChange sumJoinSpec)

/-- ITS FALSE NEIGHBOUR: 'it returns false'. Refute it at one input. -/
def sumJoinWrong : ChangeSpec := { name := "sumJoin", fn := fun _ => fun
  | [d1, d2, d3] => { results := [.lit (.bool false)], args := [d1, d2, d3] }
  | _ => none }
def SumJoinWrongFalsely : Prop := sumJoinRow.holds Tryd.pinned (OpenSpec.ofChange sumJoinWrong)

/- THE SECOND FORM. 'bulk': how many values and letters a reading holds, each counted each time it is reached (what is shared counts as often as it is met; a slice's spare places count too). A statement '..UptoSaid' is the law's where the arguments, and the package variables that the reading takes, are together of bulk at most 1048576: NARROWER than '..Said'. Prove '..Said' where nothing that the law and all that it calls make is longer than what came in: it says more and counts as full. Else prove '..UptoSaid'. A law counts once. -/
mutual
def uptoBulk {H : Type} : DataW H → Nat
  | .lit (.string bytes) => bytes.length + 1
  | .lit _ => 1
  | .nil => 1
  | .ptr d => uptoBulk d + 1
  | .slice elems spare => uptoBulkAll elems + uptoBulkAll spare + 1
  | .agg parts => uptoBulkAll parts + 1
  | .iface _ d => uptoBulk d + 1
  | .map entries => uptoBulkEntries entries + 1
  | .held _ => 1
def uptoBulkAll {H : Type} : List (DataW H) → Nat
  | [] => 0
  | d :: r => uptoBulk d + uptoBulkAll r
def uptoBulkEntries {H : Type} : List (Lit × DataW H) → Nat
  | [] => 0
  | x :: r => uptoBulkEntry x + uptoBulkEntries r
def uptoBulkEntry {H : Type} : Lit × DataW H → Nat
  | (.string bytes, d) => bytes.length + uptoBulk d + 1
  | (_, d) => uptoBulk d + 1
 end
def uptoSmall : (H : Type) → List (DataW H) → Bool := fun _ ds => decide (uptoBulkAll ds ≤ 1048576)
def OpenSpec.upto (s : _root_.Go.ChangeSpec) : _root_.Go.OpenSpec := { _root_.Go.OpenSpec.ofChange s with cond := some uptoSmall }

/-- 'shuntlaw2.SumCRC', WHERE WHAT IT READS IS OF BULK AT MOST 1048576: true; the input reads as it did. -/
def sumCRCUptoRow : OpenClaim := { program := "ytekccgdlohofkaadoor", sum := "3628de95fa3db857412190dec5024cab496fcf4cd0ca9bf3e58efb2af1d9831b", func := "shunt/shuntlaw2.SumCRC", spec := "sumCRC", named := ["shunt/sum.crcs", "shunt/sum.adds"], apart := false, laid := [("shunt/sum.crcs", laid_shunt_sum_crcs), ("shunt/sum.adds", laid_shunt_sum_adds)], narrowed := true }
def SumCRCUptoSaid : Prop := sumCRCUptoRow.holds Tryd.pinned (OpenSpec.upto sumCRCSpec)

/-- 'shuntlaw2.SumSHA', WHERE WHAT IT READS IS OF BULK AT MOST 1048576: true; the input reads as it did. -/
def sumSHAUptoRow : OpenClaim := { program := "ytekccgdlohofkaadoor", sum := "3628de95fa3db857412190dec5024cab496fcf4cd0ca9bf3e58efb2af1d9831b", func := "shunt/shuntlaw2.SumSHA", spec := "sumSHA", named := ["shunt/sum.crcs", "shunt/sum.adds"], apart := false, laid := [("shunt/sum.crcs", laid_shunt_sum_crcs), ("shunt/sum.adds", laid_shunt_sum_adds)], narrowed := true }
def SumSHAUptoSaid : Prop := sumSHAUptoRow.holds Tryd.pinned (OpenSpec.upto sumSHASpec)

/-- 'shuntlaw2.SumParts', WHERE WHAT IT READS IS OF BULK AT MOST 1048576: true; the input reads as it did. -/
def sumPartsUptoRow : OpenClaim := { program := "ytekccgdlohofkaadoor", sum := "3628de95fa3db857412190dec5024cab496fcf4cd0ca9bf3e58efb2af1d9831b", func := "shunt/shuntlaw2.SumParts", spec := "sumParts", named := ["shunt/sum.crcs", "shunt/sum.adds"], apart := false, laid := [("shunt/sum.crcs", laid_shunt_sum_crcs), ("shunt/sum.adds", laid_shunt_sum_adds)], narrowed := true }
def SumPartsUptoSaid : Prop := sumPartsUptoRow.holds Tryd.pinned (OpenSpec.upto sumPartsSpec)

/-- 'shuntlaw2.SumSplit', WHERE WHAT IT READS IS OF BULK AT MOST 1048576: true; the input reads as it did. -/
def sumSplitUptoRow : OpenClaim := { program := "ytekccgdlohofkaadoor", sum := "3628de95fa3db857412190dec5024cab496fcf4cd0ca9bf3e58efb2af1d9831b", func := "shunt/shuntlaw2.SumSplit", spec := "sumSplit", named := ["shunt/sum.crcs", "shunt/sum.adds"], apart := false, laid := [("shunt/sum.crcs", laid_shunt_sum_crcs), ("shunt/sum.adds", laid_shunt_sum_adds)], narrowed := true }
def SumSplitUptoSaid : Prop := sumSplitUptoRow.holds Tryd.pinned (OpenSpec.upto sumSplitSpec)

/-- 'shuntlaw2.SumTurned', WHERE WHAT IT READS IS OF BULK AT MOST 1048576: true; the input reads as it did. -/
def sumTurnedUptoRow : OpenClaim := { program := "ytekccgdlohofkaadoor", sum := "3628de95fa3db857412190dec5024cab496fcf4cd0ca9bf3e58efb2af1d9831b", func := "shunt/shuntlaw2.SumTurned", spec := "sumTurned", named := ["shunt/sum.crcs", "shunt/sum.adds"], apart := false, laid := [("shunt/sum.crcs", laid_shunt_sum_crcs), ("shunt/sum.adds", laid_shunt_sum_adds)], narrowed := true }
def SumTurnedUptoSaid : Prop := sumTurnedUptoRow.holds Tryd.pinned (OpenSpec.upto sumTurnedSpec)

/-- 'shuntlaw2.SumLength', WHERE WHAT IT READS IS OF BULK AT MOST 1048576: true; the input reads as it did. -/
def sumLengthUptoRow : OpenClaim := { program := "ytekccgdlohofkaadoor", sum := "3628de95fa3db857412190dec5024cab496fcf4cd0ca9bf3e58efb2af1d9831b", func := "shunt/shuntlaw2.SumLength", spec := "sumLength", named := ["shunt/sum.crcs", "shunt/sum.adds"], apart := false, laid := [("shunt/sum.crcs", laid_shunt_sum_crcs), ("shunt/sum.adds", laid_shunt_sum_adds)], narrowed := true }
def SumLengthUptoSaid : Prop := sumLengthUptoRow.holds Tryd.pinned (OpenSpec.upto sumLengthSpec)

/-- 'shuntlaw2.SumAgain', WHERE WHAT IT READS IS OF BULK AT MOST 1048576: true; the input reads as it did. -/
def sumAgainUptoRow : OpenClaim := { program := "ytekccgdlohofkaadoor", sum := "3628de95fa3db857412190dec5024cab496fcf4cd0ca9bf3e58efb2af1d9831b", func := "shunt/shuntlaw2.SumAgain", spec := "sumAgain", named := ["shunt/sum.crcs", "shunt/sum.adds"], apart := false, laid := [("shunt/sum.crcs", laid_shunt_sum_crcs), ("shunt/sum.adds", laid_shunt_sum_adds)], narrowed := true }
def SumAgainUptoSaid : Prop := sumAgainUptoRow.holds Tryd.pinned (OpenSpec.upto sumAgainSpec)

/-- 'shuntlaw2.SumJoin', WHERE WHAT IT READS IS OF BULK AT MOST 1048576: true; the input reads as it did. -/
def sumJoinUptoRow : OpenClaim := { program := "ytekccgdlohofkaadoor", sum := "3628de95fa3db857412190dec5024cab496fcf4cd0ca9bf3e58efb2af1d9831b", func := "shunt/shuntlaw2.SumJoin", spec := "sumJoin", named := ["shunt/sum.crcs", "shunt/sum.adds"], apart := false, laid := [("shunt/sum.crcs", laid_shunt_sum_crcs), ("shunt/sum.adds", laid_shunt_sum_adds)], narrowed := true }
def SumJoinUptoSaid : Prop := sumJoinUptoRow.holds Tryd.pinned (OpenSpec.upto sumJoinSpec)

end Rows
end Go.Proofs.YtekccgdlohofkaaDoor
