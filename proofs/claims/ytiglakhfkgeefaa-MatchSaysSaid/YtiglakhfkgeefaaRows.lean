/-
  No cell of these rows narrows 'for every input' (looked for: loops, veiled, ifaces, maps, wideKeys, modest, calm, conditions, laid).
  DERIVED. THE GIVEN ROWS OF THIS SEAT. 6 by the template 'for every input the law returns true; each argument reads behind the call as it read before'; 0 by the template 'total and deterministic' (their statements: YtiglakhfkgeefaaTotals.lean).
  GIVEN WITH THE SEED: the statements are not yours to turn. If you find one false, say at which input.
  Laid BY PROGRAM, IN A SANDBOX (cutbox-rows.mjs): the forced cells as the released guide's own fill.sh prints them over the translation d2a1a30121463d67… (all of the seat's roots in one cut). By AI agents, Wed Nov 11 2026. No macro, syntax, notation, axiom, sorry.
-/
import Derived.Test.YtiglakhfkgeefaaChecked
import GoSem.Claim
import GoSem.ClaimJoined
import GoSem.ClaimMapViews
import Derived.JoinedTies
import Derived.KernelRfl
namespace Go.Proofs.Ytiglakhfkgeefaa
/- THE CELL 'sum', in the pinned program and in every row, IS THE sha256 OF THE DUMP (.gsa) THAT YtiglakhfkgeefaaProg.lean LOADS. Nothing in Lean hashes anything: it is a label: what it is worth is what the hold of that sum in a sandbox is worth. -/
noncomputable def Try.pinned : Pinned := { name := "ytiglakhfkgeefaa", sum := "d2a1a30121463d675aa9f05cef715ea10212c8412aaf37c47be22f9608880fee", checked := Try.checked }
namespace Rows
def none {H : Type} : Left H := { results := [], args := [] }

/-- 'shuntlaw11.MatchSays': WHATEVER THE INPUT: true; the input reads as it did. -/
def matchSaysSpec : ChangeSpec := { name := "matchSays", fn := fun _ => fun
  | [d] => { results := [.lit (.bool true)], args := [d] }
  | _ => none }
def matchSaysRow : OpenClaim := { program := "ytiglakhfkgeefaa", sum := "d2a1a30121463d675aa9f05cef715ea10212c8412aaf37c47be22f9608880fee", func := "shunt/shuntlaw11.MatchSays", spec := "matchSays", unfollowed := true, recurses := true, apart := false }
def MatchSaysSaid : Prop := matchSaysRow.holds Try.pinned (OpenSpec.ofChange matchSaysSpec)

/-- ITS FALSE NEIGHBOUR: 'it returns false'. Refute it at one input. -/
def matchSaysWrong : ChangeSpec := { name := "matchSays", fn := fun _ => fun
  | [d] => { results := [.lit (.bool false)], args := [d] }
  | _ => none }
def MatchSaysWrongFalsely : Prop := matchSaysRow.holds Try.pinned (OpenSpec.ofChange matchSaysWrong)

/-- 'shuntlaw11.MatchWhole': WHATEVER THE INPUT: true; the input reads as it did. -/
def matchWholeSpec : ChangeSpec := { name := "matchWhole", fn := fun _ => fun
  | [d] => { results := [.lit (.bool true)], args := [d] }
  | _ => none }
def matchWholeRow : OpenClaim := { program := "ytiglakhfkgeefaa", sum := "d2a1a30121463d675aa9f05cef715ea10212c8412aaf37c47be22f9608880fee", func := "shunt/shuntlaw11.MatchWhole", spec := "matchWhole", unfollowed := true, recurses := true, apart := false }
def MatchWholeSaid : Prop := matchWholeRow.holds Try.pinned (OpenSpec.ofChange matchWholeSpec)

/-- ITS FALSE NEIGHBOUR: 'it returns false'. Refute it at one input. -/
def matchWholeWrong : ChangeSpec := { name := "matchWhole", fn := fun _ => fun
  | [d] => { results := [.lit (.bool false)], args := [d] }
  | _ => none }
def MatchWholeWrongFalsely : Prop := matchWholeRow.holds Try.pinned (OpenSpec.ofChange matchWholeWrong)

/-- 'shuntlaw11.MatchSelf': WHATEVER THE INPUT: true; the input reads as it did. -/
def matchSelfSpec : ChangeSpec := { name := "matchSelf", fn := fun _ => fun
  | [d] => { results := [.lit (.bool true)], args := [d] }
  | _ => none }
def matchSelfRow : OpenClaim := { program := "ytiglakhfkgeefaa", sum := "d2a1a30121463d675aa9f05cef715ea10212c8412aaf37c47be22f9608880fee", func := "shunt/shuntlaw11.MatchSelf", spec := "matchSelf", unfollowed := true, recurses := true, apart := false }
def MatchSelfSaid : Prop := matchSelfRow.holds Try.pinned (OpenSpec.ofChange matchSelfSpec)

/-- ITS FALSE NEIGHBOUR: 'it returns false'. Refute it at one input. -/
def matchSelfWrong : ChangeSpec := { name := "matchSelf", fn := fun _ => fun
  | [d] => { results := [.lit (.bool false)], args := [d] }
  | _ => none }
def MatchSelfWrongFalsely : Prop := matchSelfRow.holds Try.pinned (OpenSpec.ofChange matchSelfWrong)

/-- 'shuntlaw11.MatchStays': WHATEVER THE INPUT: true; the input reads as it did. -/
def matchStaysSpec : ChangeSpec := { name := "matchStays", fn := fun _ => fun
  | [d] => { results := [.lit (.bool true)], args := [d] }
  | _ => none }
def matchStaysRow : OpenClaim := { program := "ytiglakhfkgeefaa", sum := "d2a1a30121463d675aa9f05cef715ea10212c8412aaf37c47be22f9608880fee", func := "shunt/shuntlaw11.MatchStays", spec := "matchStays", unfollowed := true, recurses := true, apart := false }
def MatchStaysSaid : Prop := matchStaysRow.holds Try.pinned (OpenSpec.ofChange matchStaysSpec)

/-- ITS FALSE NEIGHBOUR: 'it returns false'. Refute it at one input. -/
def matchStaysWrong : ChangeSpec := { name := "matchStays", fn := fun _ => fun
  | [d] => { results := [.lit (.bool false)], args := [d] }
  | _ => none }
def MatchStaysWrongFalsely : Prop := matchStaysRow.holds Try.pinned (OpenSpec.ofChange matchStaysWrong)

/-- 'shuntlaw11.MatchModes': WHATEVER THE INPUT: true; the input reads as it did. -/
def matchModesSpec : ChangeSpec := { name := "matchModes", fn := fun _ => fun
  | [d1, d2] => { results := [.lit (.bool true)], args := [d1, d2] }
  | _ => none }
def matchModesRow : OpenClaim := { program := "ytiglakhfkgeefaa", sum := "d2a1a30121463d675aa9f05cef715ea10212c8412aaf37c47be22f9608880fee", func := "shunt/shuntlaw11.MatchModes", spec := "matchModes", unfollowed := true, recurses := true, apart := false }
def MatchModesSaid : Prop := matchModesRow.holds Try.pinned (OpenSpec.ofChange matchModesSpec)

/-- ITS FALSE NEIGHBOUR: 'it returns false'. Refute it at one input. -/
def matchModesWrong : ChangeSpec := { name := "matchModes", fn := fun _ => fun
  | [d1, d2] => { results := [.lit (.bool false)], args := [d1, d2] }
  | _ => none }
def MatchModesWrongFalsely : Prop := matchModesRow.holds Try.pinned (OpenSpec.ofChange matchModesWrong)

/-- 'shuntlaw11.MatchStock': WHATEVER THE INPUT: true; the input reads as it did. -/
def matchStockSpec : ChangeSpec := { name := "matchStock", fn := fun _ => fun
  | [d1, d2] => { results := [.lit (.bool true)], args := [d1, d2] }
  | _ => none }
def matchStockRow : OpenClaim := { program := "ytiglakhfkgeefaa", sum := "d2a1a30121463d675aa9f05cef715ea10212c8412aaf37c47be22f9608880fee", func := "shunt/shuntlaw11.MatchStock", spec := "matchStock", unfollowed := true, recurses := true, apart := false }
def MatchStockSaid : Prop := matchStockRow.holds Try.pinned (OpenSpec.ofChange matchStockSpec)

/-- ITS FALSE NEIGHBOUR: 'it returns false'. Refute it at one input. -/
def matchStockWrong : ChangeSpec := { name := "matchStock", fn := fun _ => fun
  | [d1, d2] => { results := [.lit (.bool false)], args := [d1, d2] }
  | _ => none }
def MatchStockWrongFalsely : Prop := matchStockRow.holds Try.pinned (OpenSpec.ofChange matchStockWrong)

/- THE SECOND FORM. 'bulk': how many values and letters a reading holds, each counted each time it is reached (what is shared counts as often as it is met; a slice's spare places count too). A statement '..UptoSaid' is the law's where the arguments, and the package variables that the reading takes, are together of bulk at most 1048576: NARROWER than '..Said'. Prove '..Said' where nothing that the law and all that it calls make is longer than what came in: it says more and counts as full. Else prove '..UptoSaid'. A law counts once. -/
mutual
def uptoBulk {H : Type} : DataW H → Nat
  | .lit (.string bytes) => bytes.length + 1
  | .lit _ => 1
  | .nil => 1
  | .ptr d => uptoBulk d + 1
  | .slice elems spare => uptoBulkAll elems + uptoBulkAll spare + 1
  | .agg parts => uptoBulkAll parts + 1
  | .iface _ d => uptoBulk d + 1
  | .map entries => uptoBulkEntries entries + 1
  | .held _ => 1
def uptoBulkAll {H : Type} : List (DataW H) → Nat
  | [] => 0
  | d :: r => uptoBulk d + uptoBulkAll r
def uptoBulkEntries {H : Type} : List (Lit × DataW H) → Nat
  | [] => 0
  | x :: r => uptoBulkEntry x + uptoBulkEntries r
def uptoBulkEntry {H : Type} : Lit × DataW H → Nat
  | (.string bytes, d) => bytes.length + uptoBulk d + 1
  | (_, d) => uptoBulk d + 1
 end
def uptoSmall : (H : Type) → List (DataW H) → Bool := fun _ ds => decide (uptoBulkAll ds ≤ 1048576)
def OpenSpec.upto (s : _root_.Go.ChangeSpec) : _root_.Go.OpenSpec := { _root_.Go.OpenSpec.ofChange s with cond := some uptoSmall }

/-- 'shuntlaw11.MatchSays', WHERE WHAT IT READS IS OF BULK AT MOST 1048576: true; the input reads as it did. -/
def matchSaysUptoRow : OpenClaim := { program := "ytiglakhfkgeefaa", sum := "d2a1a30121463d675aa9f05cef715ea10212c8412aaf37c47be22f9608880fee", func := "shunt/shuntlaw11.MatchSays", spec := "matchSays", unfollowed := true, recurses := true, apart := false, narrowed := true }
def MatchSaysUptoSaid : Prop := matchSaysUptoRow.holds Try.pinned (OpenSpec.upto matchSaysSpec)

/-- 'shuntlaw11.MatchWhole', WHERE WHAT IT READS IS OF BULK AT MOST 1048576: true; the input reads as it did. -/
def matchWholeUptoRow : OpenClaim := { program := "ytiglakhfkgeefaa", sum := "d2a1a30121463d675aa9f05cef715ea10212c8412aaf37c47be22f9608880fee", func := "shunt/shuntlaw11.MatchWhole", spec := "matchWhole", unfollowed := true, recurses := true, apart := false, narrowed := true }
def MatchWholeUptoSaid : Prop := matchWholeUptoRow.holds Try.pinned (OpenSpec.upto matchWholeSpec)

/-- 'shuntlaw11.MatchSelf', WHERE WHAT IT READS IS OF BULK AT MOST 1048576: true; the input reads as it did. -/
def matchSelfUptoRow : OpenClaim := { program := "ytiglakhfkgeefaa", sum := "d2a1a30121463d675aa9f05cef715ea10212c8412aaf37c47be22f9608880fee", func := "shunt/shuntlaw11.MatchSelf", spec := "matchSelf", unfollowed := true, recurses := true, apart := false, narrowed := true }
def MatchSelfUptoSaid : Prop := matchSelfUptoRow.holds Try.pinned (OpenSpec.upto matchSelfSpec)

/-- 'shuntlaw11.MatchStays', WHERE WHAT IT READS IS OF BULK AT MOST 1048576: true; the input reads as it did. -/
def matchStaysUptoRow : OpenClaim := { program := "ytiglakhfkgeefaa", sum := "d2a1a30121463d675aa9f05cef715ea10212c8412aaf37c47be22f9608880fee", func := "shunt/shuntlaw11.MatchStays", spec := "matchStays", unfollowed := true, recurses := true, apart := false, narrowed := true }
def MatchStaysUptoSaid : Prop := matchStaysUptoRow.holds Try.pinned (OpenSpec.upto matchStaysSpec)

/-- 'shuntlaw11.MatchModes', WHERE WHAT IT READS IS OF BULK AT MOST 1048576: true; the input reads as it did. -/
def matchModesUptoRow : OpenClaim := { program := "ytiglakhfkgeefaa", sum := "d2a1a30121463d675aa9f05cef715ea10212c8412aaf37c47be22f9608880fee", func := "shunt/shuntlaw11.MatchModes", spec := "matchModes", unfollowed := true, recurses := true, apart := false, narrowed := true }
def MatchModesUptoSaid : Prop := matchModesUptoRow.holds Try.pinned (OpenSpec.upto matchModesSpec)

/-- 'shuntlaw11.MatchStock', WHERE WHAT IT READS IS OF BULK AT MOST 1048576: true; the input reads as it did. -/
def matchStockUptoRow : OpenClaim := { program := "ytiglakhfkgeefaa", sum := "d2a1a30121463d675aa9f05cef715ea10212c8412aaf37c47be22f9608880fee", func := "shunt/shuntlaw11.MatchStock", spec := "matchStock", unfollowed := true, recurses := true, apart := false, narrowed := true }
def MatchStockUptoSaid : Prop := matchStockUptoRow.holds Try.pinned (OpenSpec.upto matchStockSpec)

end Rows
end Go.Proofs.Ytiglakhfkgeefaa
