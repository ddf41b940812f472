/-
  No cell of these rows narrows 'for every input' (looked for: loops, veiled, ifaces, maps, wideKeys, modest, calm, conditions, laid).
  DERIVED. THE GIVEN ROWS OF THIS SEAT. 5 by the template 'for every input the law returns true; each argument reads behind the call as it read before'; 0 by the template 'total and deterministic' (their statements: YtlnmaejpchncoaaTotals.lean).
  GIVEN WITH THE SEED: the statements are not yours to turn. If you find one false, say at which input.
  Laid BY PROGRAM, IN A SANDBOX (cutbox-rows.mjs): the forced cells as the released guide's own fill.sh prints them over the translation e3e343403a8d0989… (all of the seat's roots in one cut). By AI agents, Wed Nov 11 2026. No macro, syntax, notation, axiom, sorry.
-/
import Derived.Test.YtlnmaejpchncoaaChecked
import GoSem.Claim
import GoSem.ClaimJoined
import GoSem.ClaimMapViews
import Derived.JoinedTies
import Derived.KernelRfl
namespace Go.Proofs.Ytlnmaejpchncoaa
/- THE CELL 'sum', in the pinned program and in every row, IS THE sha256 OF THE DUMP (.gsa) THAT YtlnmaejpchncoaaProg.lean LOADS. Nothing in Lean hashes anything: it is a label: what it is worth is what the hold of that sum in a sandbox is worth. -/
noncomputable def Try.pinned : Pinned := { name := "ytlnmaejpchncoaa", sum := "e3e343403a8d0989bc2d2387b012789eac76aa42a331412694d65d54a922e391", checked := Try.checked }
namespace Rows
def none {H : Type} : Left H := { results := [], args := [] }

/-- 'shuntlaw10.StockPlays': WHATEVER THE INPUT: true; the input reads as it did. -/
def stockPlaysSpec : ChangeSpec := { name := "stockPlays", fn := fun _ => fun
  | [d1, d2] => { results := [.lit (.bool true)], args := [d1, d2] }
  | _ => none }
def stockPlaysRow : OpenClaim := { program := "ytlnmaejpchncoaa", sum := "e3e343403a8d0989bc2d2387b012789eac76aa42a331412694d65d54a922e391", func := "shunt/shuntlaw10.StockPlays", spec := "stockPlays", unfollowed := true, recurses := true, apart := false }
def StockPlaysSaid : Prop := stockPlaysRow.holds Try.pinned (OpenSpec.ofChange stockPlaysSpec)

/-- ITS FALSE NEIGHBOUR: 'it returns false'. Refute it at one input. -/
def stockPlaysWrong : ChangeSpec := { name := "stockPlays", fn := fun _ => fun
  | [d1, d2] => { results := [.lit (.bool false)], args := [d1, d2] }
  | _ => none }
def StockPlaysWrongFalsely : Prop := stockPlaysRow.holds Try.pinned (OpenSpec.ofChange stockPlaysWrong)

/-- 'shuntlaw10.StockMany': WHATEVER THE INPUT: true; the input reads as it did. -/
def stockManySpec : ChangeSpec := { name := "stockMany", fn := fun _ => fun
  | [d] => { results := [.lit (.bool true)], args := [d] }
  | _ => none }
def stockManyRow : OpenClaim := { program := "ytlnmaejpchncoaa", sum := "e3e343403a8d0989bc2d2387b012789eac76aa42a331412694d65d54a922e391", func := "shunt/shuntlaw10.StockMany", spec := "stockMany", apart := false }
def StockManySaid : Prop := stockManyRow.holds Try.pinned (OpenSpec.ofChange stockManySpec)

/-- ITS FALSE NEIGHBOUR: 'it returns false'. Refute it at one input. -/
def stockManyWrong : ChangeSpec := { name := "stockMany", fn := fun _ => fun
  | [d] => { results := [.lit (.bool false)], args := [d] }
  | _ => none }
def StockManyWrongFalsely : Prop := stockManyRow.holds Try.pinned (OpenSpec.ofChange stockManyWrong)

/-- 'shuntlaw10.StockBytes': WHATEVER THE INPUT: true; the input reads as it did. -/
def stockBytesSpec : ChangeSpec := { name := "stockBytes", fn := fun _ => fun
  | [d] => { results := [.lit (.bool true)], args := [d] }
  | _ => none }
def stockBytesRow : OpenClaim := { program := "ytlnmaejpchncoaa", sum := "e3e343403a8d0989bc2d2387b012789eac76aa42a331412694d65d54a922e391", func := "shunt/shuntlaw10.StockBytes", spec := "stockBytes", apart := false }
def StockBytesSaid : Prop := stockBytesRow.holds Try.pinned (OpenSpec.ofChange stockBytesSpec)

/-- ITS FALSE NEIGHBOUR: 'it returns false'. Refute it at one input. -/
def stockBytesWrong : ChangeSpec := { name := "stockBytes", fn := fun _ => fun
  | [d] => { results := [.lit (.bool false)], args := [d] }
  | _ => none }
def StockBytesWrongFalsely : Prop := stockBytesRow.holds Try.pinned (OpenSpec.ofChange stockBytesWrong)

/-- 'shuntlaw10.StockFinds': WHATEVER THE INPUT: true; the input reads as it did. -/
def stockFindsSpec : ChangeSpec := { name := "stockFinds", fn := fun _ => fun
  | [d1, d2] => { results := [.lit (.bool true)], args := [d1, d2] }
  | _ => none }
def stockFindsRow : OpenClaim := { program := "ytlnmaejpchncoaa", sum := "e3e343403a8d0989bc2d2387b012789eac76aa42a331412694d65d54a922e391", func := "shunt/shuntlaw10.StockFinds", spec := "stockFinds", unfollowed := true, recurses := true, apart := false }
def StockFindsSaid : Prop := stockFindsRow.holds Try.pinned (OpenSpec.ofChange stockFindsSpec)

/-- ITS FALSE NEIGHBOUR: 'it returns false'. Refute it at one input. -/
def stockFindsWrong : ChangeSpec := { name := "stockFinds", fn := fun _ => fun
  | [d1, d2] => { results := [.lit (.bool false)], args := [d1, d2] }
  | _ => none }
def StockFindsWrongFalsely : Prop := stockFindsRow.holds Try.pinned (OpenSpec.ofChange stockFindsWrong)

/-- 'shuntlaw10.StockTight': WHATEVER THE INPUT: true; the input reads as it did. -/
def stockTightSpec : ChangeSpec := { name := "stockTight", fn := fun _ => fun
  | [d1, d2] => { results := [.lit (.bool true)], args := [d1, d2] }
  | _ => none }
def stockTightRow : OpenClaim := { program := "ytlnmaejpchncoaa", sum := "e3e343403a8d0989bc2d2387b012789eac76aa42a331412694d65d54a922e391", func := "shunt/shuntlaw10.StockTight", spec := "stockTight", apart := false }
def StockTightSaid : Prop := stockTightRow.holds Try.pinned (OpenSpec.ofChange stockTightSpec)

/-- ITS FALSE NEIGHBOUR: 'it returns false'. Refute it at one input. -/
def stockTightWrong : ChangeSpec := { name := "stockTight", fn := fun _ => fun
  | [d1, d2] => { results := [.lit (.bool false)], args := [d1, d2] }
  | _ => none }
def StockTightWrongFalsely : Prop := stockTightRow.holds Try.pinned (OpenSpec.ofChange stockTightWrong)

/- THE SECOND FORM. 'bulk': how many values and letters a reading holds, each counted each time it is reached (what is shared counts as often as it is met; a slice's spare places count too). A statement '..UptoSaid' is the law's where the arguments, and the package variables that the reading takes, are together of bulk at most 1048576: NARROWER than '..Said'. Prove '..Said' where nothing that the law and all that it calls make is longer than what came in: it says more and counts as full. Else prove '..UptoSaid'. A law counts once. -/
mutual
def uptoBulk {H : Type} : DataW H → Nat
  | .lit (.string bytes) => bytes.length + 1
  | .lit _ => 1
  | .nil => 1
  | .ptr d => uptoBulk d + 1
  | .slice elems spare => uptoBulkAll elems + uptoBulkAll spare + 1
  | .agg parts => uptoBulkAll parts + 1
  | .iface _ d => uptoBulk d + 1
  | .map entries => uptoBulkEntries entries + 1
  | .held _ => 1
def uptoBulkAll {H : Type} : List (DataW H) → Nat
  | [] => 0
  | d :: r => uptoBulk d + uptoBulkAll r
def uptoBulkEntries {H : Type} : List (Lit × DataW H) → Nat
  | [] => 0
  | x :: r => uptoBulkEntry x + uptoBulkEntries r
def uptoBulkEntry {H : Type} : Lit × DataW H → Nat
  | (.string bytes, d) => bytes.length + uptoBulk d + 1
  | (_, d) => uptoBulk d + 1
 end
def uptoSmall : (H : Type) → List (DataW H) → Bool := fun _ ds => decide (uptoBulkAll ds ≤ 1048576)
def OpenSpec.upto (s : _root_.Go.ChangeSpec) : _root_.Go.OpenSpec := { _root_.Go.OpenSpec.ofChange s with cond := some uptoSmall }

/-- 'shuntlaw10.StockPlays', WHERE WHAT IT READS IS OF BULK AT MOST 1048576: true; the input reads as it did. -/
def stockPlaysUptoRow : OpenClaim := { program := "ytlnmaejpchncoaa", sum := "e3e343403a8d0989bc2d2387b012789eac76aa42a331412694d65d54a922e391", func := "shunt/shuntlaw10.StockPlays", spec := "stockPlays", unfollowed := true, recurses := true, apart := false, narrowed := true }
def StockPlaysUptoSaid : Prop := stockPlaysUptoRow.holds Try.pinned (OpenSpec.upto stockPlaysSpec)

/-- 'shuntlaw10.StockMany', WHERE WHAT IT READS IS OF BULK AT MOST 1048576: true; the input reads as it did. -/
def stockManyUptoRow : OpenClaim := { program := "ytlnmaejpchncoaa", sum := "e3e343403a8d0989bc2d2387b012789eac76aa42a331412694d65d54a922e391", func := "shunt/shuntlaw10.StockMany", spec := "stockMany", apart := false, narrowed := true }
def StockManyUptoSaid : Prop := stockManyUptoRow.holds Try.pinned (OpenSpec.upto stockManySpec)

/-- 'shuntlaw10.StockBytes', WHERE WHAT IT READS IS OF BULK AT MOST 1048576: true; the input reads as it did. -/
def stockBytesUptoRow : OpenClaim := { program := "ytlnmaejpchncoaa", sum := "e3e343403a8d0989bc2d2387b012789eac76aa42a331412694d65d54a922e391", func := "shunt/shuntlaw10.StockBytes", spec := "stockBytes", apart := false, narrowed := true }
def StockBytesUptoSaid : Prop := stockBytesUptoRow.holds Try.pinned (OpenSpec.upto stockBytesSpec)

/-- 'shuntlaw10.StockFinds', WHERE WHAT IT READS IS OF BULK AT MOST 1048576: true; the input reads as it did. -/
def stockFindsUptoRow : OpenClaim := { program := "ytlnmaejpchncoaa", sum := "e3e343403a8d0989bc2d2387b012789eac76aa42a331412694d65d54a922e391", func := "shunt/shuntlaw10.StockFinds", spec := "stockFinds", unfollowed := true, recurses := true, apart := false, narrowed := true }
def StockFindsUptoSaid : Prop := stockFindsUptoRow.holds Try.pinned (OpenSpec.upto stockFindsSpec)

/-- 'shuntlaw10.StockTight', WHERE WHAT IT READS IS OF BULK AT MOST 1048576: true; the input reads as it did. -/
def stockTightUptoRow : OpenClaim := { program := "ytlnmaejpchncoaa", sum := "e3e343403a8d0989bc2d2387b012789eac76aa42a331412694d65d54a922e391", func := "shunt/shuntlaw10.StockTight", spec := "stockTight", apart := false, narrowed := true }
def StockTightUptoSaid : Prop := stockTightUptoRow.holds Try.pinned (OpenSpec.upto stockTightSpec)

end Rows
end Go.Proofs.Ytlnmaejpchncoaa
