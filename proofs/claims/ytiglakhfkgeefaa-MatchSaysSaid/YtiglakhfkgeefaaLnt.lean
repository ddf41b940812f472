/-
What is proved here: Lent and Stays of trees, by contracts.
-/
import Derived.Test.YtiglakhfkgeefaaRfs
import Derived.Test.YtiglakhfkgeefaaCpm
import Derived.Test.YtiglakhfkgeefaaRefK
import Derived.Test.YtiglakhfkgeefaaEqb
import Derived.Test.YtiglakhfkgeefaaTools2
import Derived.Test.YtiglakhfkgeefaaFI
import Derived.OrdersIn
import Derived.WalkKit
import Derived.OwnWalkIn
import Derived.Orders
import Derived.Deep.MidRow
import Derived.ProofKit
import Derived.Lib.Hide
import Derived.Deep.Draws
import Derived.Scope
import Derived.WalkMore
import Derived.LoopTactic
import Derived.Laws.RangeString
import Derived.Laws.RangeAny
import Derived.Lib.LastIndexByte
import Derived.Shelf.Strings.LastIndex
import Derived.Shelf.Strings.Prefix
import Derived.Deep.QuietTactic
import Derived.BigQuiet
import Derived.Deep.Cut
import Derived.RangeFuncNested
import Derived.RangeFuncBox
import Derived.RangeFuncLeaves
import Derived.RangeFuncBound
import Derived.RangeFuncCalls
import Derived.Shelf.Abstract
import Derived.TacticsInMore
import Derived.LoopNIn
import Derived.LoopIn
import Derived.Maps.AppendAt
import Derived.Maps.OwnSet
import Derived.OwnWalk
import Derived.Maps.OwnOps
import Derived.Maps.Views
import Derived.Laws.Cover1
import Derived.StringKeys
import Derived.Laws.StructEq
import Derived.Maps.OwnIn
import Derived.Laws.FloatArith
import Derived.Laws.ComplexArith
import Derived.Sort.CutIn
import Derived.Shelf.RegionOpen
import Derived.Laws.BytesString
import Derived.Deep.Onto
import Derived.Lib.AppendStr
import Derived.Laws.AppendOwnNone
import Derived.Laws.Rows
import Derived.Lib.SlBytesConst
import Derived.Great.BuildSlice
import Derived.Lib.SliceRun
import Derived.StillTailTactics
import Derived.Deep.SlicePairs
import Derived.ChangeArms
import Derived.ChangeSlices
import Derived.ChangeSame
import Derived.Laws.OwnMore
import Derived.Laws.ResultCell
import Derived.Great.Walk
set_option linter.unusedSimpArgs false
namespace Go.Word
section
variable {F : Fence} {n : Nat} {P : Program} {md : Region.Mode} {ops : Array Oper} {Q : Exit → Act → World → Prop} {own : Nat → Option Nat} {vals : Nat → Value} {a0 : Act}
end
end Go.Word
namespace Go.Word
section
variable {F : Fence} {n : Nat} {P : Program} {Q : Exit → Act → World → Prop} {a : Act} {w : World} {K : Act → World → Prop} {oi : Oper}
end
end Go.Word
namespace Go.Word
section
variable {F : Fence} {n : Nat} {P : Program} {md : Region.Mode} {ops : Array Oper} {Q : Exit → Act → World → Prop} {own : Nat → Option Nat} {vals : Nat → Value} {a0 : Act}
end
end Go.Word
set_option linter.unusedSimpArgs false
namespace Go.Word
section
variable {F : Fence} {n : Nat} {P : Program} {md : Region.Mode} {ops : Array Oper} {Q : Exit → Act → World → Prop} {own : Nat → Option Nat} {vals : Nat → Value} {a0 : Act}
end
end Go.Word
set_option linter.unusedSimpArgs false
namespace Go.Word
section
variable {P : Program} {Q : Exit → Act → World → Prop} {a : Act} {w w' : World} {K : Act → World → Prop} {oi : Oper}
end
section
variable {own : Nat → Option Nat} {vals : Nat → Value} {a0 a : Act} {ops : Array Oper} {listed : Array Bool} {oi oj : Oper} {j t : Nat} {b c : Bool}
end
end Go.Word
namespace Go.Proofs.Ytiglakhfkgeefaa
open Go.Pth Go.RowKit
attribute [local go_sem] guard_eq guard_ne neq_nil neq_dot neq_dots
end Go.Proofs.Ytiglakhfkgeefaa
namespace Go.Word
section
variable {P : Program} {a : Act} {w : World} {Q : Exit → Act → World → Prop}
end
end Go.Word
namespace Go.Proofs.Ytiglakhfkgeefaa
open Go.Pth Go.RowKit Go.Word
attribute [local go_sem] run_range_st
end Go.Proofs.Ytiglakhfkgeefaa
set_option linter.unusedSimpArgs false
set_option linter.unusedSimpArgs false
namespace Go.Proofs.Ytiglakhfkgeefaa
open Go.Pth Go.RowKit Go.Word Go.Shelf
attribute [local go_sem] run_range_st
end Go.Proofs.Ytiglakhfkgeefaa
set_option linter.unusedSimpArgs false
namespace Go.Proofs.Ytiglakhfkgeefaa
open Go.Pth Go.RowKit Go.Word Go.Shelf
attribute [local go_sem] run_range_st
end Go.Proofs.Ytiglakhfkgeefaa
set_option linter.unusedSimpArgs false
namespace Go.Proofs.Ytiglakhfkgeefaa
open Go.Pth Go.Tre Go.RowKit Go.Word
section
variable {w w' : World} {g : Nat} {t : TypeId} {cs : Array Value}
end
end Go.Proofs.Ytiglakhfkgeefaa
set_option linter.unusedSimpArgs false
namespace Go.Proofs.Ytiglakhfkgeefaa
open Go.Pth Go.Tre Go.RowKit Go.Word
section
variable {w w' : World} {b n : Nat} {S : Bt → Bool}
end
end Go.Proofs.Ytiglakhfkgeefaa
set_option linter.unusedSimpArgs false
set_option linter.unusedSimpArgs false
set_option linter.unusedSimpArgs false
set_option linter.unusedSimpArgs false
set_option linter.unusedSimpArgs false
namespace Go.Proofs.Ytiglakhfkgeefaa
open Go.Pth Go.Tre Go.RowKit Go.Word
attribute [local go_sem] st_leq
section
variable {D : Bt → Bool} {l p : Bt} {k f md : Int}
end
end Go.Proofs.Ytiglakhfkgeefaa
set_option linter.unusedSimpArgs false
namespace Go.Word
section
variable {F : Fence} {nF : Nat} {P : Program} {w w' : World} {ops : Array Oper} {rest : List Oper} {o : Oper} {a : Act} {Q : Exit → Act → World → Prop}
end
end Go.Word
namespace Go.Proofs.Ytiglakhfkgeefaa
open Go.Pth Go.Tre Go.RowKit Go.Word
section
variable {w w' : World} {b n : Nat} {C : Bt → Int}
end
end Go.Proofs.Ytiglakhfkgeefaa
set_option linter.unusedSimpArgs false
set_option linter.unusedSimpArgs false
set_option linter.unusedSimpArgs false
set_option linter.unusedSimpArgs false
set_option linter.unusedSimpArgs false
set_option linter.unusedSimpArgs false
set_option linter.unusedSimpArgs false
namespace Go.Proofs.Ytiglakhfkgeefaa
open Go.Pth Go.Tre Go.RowKit Go.Word Go.Shelf
attribute [local go_sem] guard_eq guard_ne st_eql st_neq
end Go.Proofs.Ytiglakhfkgeefaa
set_option linter.unusedSimpArgs false
set_option linter.unusedSimpArgs false
set_option linter.unusedSimpArgs false
namespace Go.Proofs.Ytiglakhfkgeefaa
open Go.Pth Go.Tre Go.RowKit Go.Word Go.Shelf
attribute [local go_sem] guard_eq st_eql
end Go.Proofs.Ytiglakhfkgeefaa
set_option linter.unusedSimpArgs false
namespace Go.Proofs.Ytiglakhfkgeefaa
open Go.Pth Go.Tre Go.RowKit Go.Word Go.Shelf
attribute [local go_sem] guard_eq guard_ne st_eql
end Go.Proofs.Ytiglakhfkgeefaa
set_option linter.unusedSimpArgs false
namespace Go.Proofs.Ytiglakhfkgeefaa
open Go.Pth Go.Tre Go.RowKit Go.Word Go.Shelf
attribute [local go_sem] guard_eq guard_ne st_eql
end Go.Proofs.Ytiglakhfkgeefaa
set_option linter.unusedSimpArgs false
namespace Go.Proofs.Ytiglakhfkgeefaa
open Go.Pth Go.RowKit Go.Word
attribute [local go_sem] guard_eq eql_dot eql_dots len_st
end Go.Proofs.Ytiglakhfkgeefaa
set_option linter.unusedSimpArgs false
namespace Go.Proofs.Ytiglakhfkgeefaa
open Go.Pth Go.RowKit Go.Word
attribute [local go_sem] guard_eq eql_dot eql_dots len_st
end Go.Proofs.Ytiglakhfkgeefaa
set_option linter.unusedSimpArgs false
namespace Go.Proofs.Ytiglakhfkgeefaa
open Go.Pth Go.RowKit Go.Word
attribute [local go_sem] guard_eq eql_dot eql_dots len_st eql_ts
end Go.Proofs.Ytiglakhfkgeefaa
set_option linter.unusedSimpArgs false
namespace Go.Proofs.Ytiglakhfkgeefaa
open Go.Pth Go.RowKit Go.Word
attribute [local go_sem] guard_eq eql_dot eql_dots len_st eql_ts
end Go.Proofs.Ytiglakhfkgeefaa
set_option linter.unusedSimpArgs false
namespace Go.Proofs.Ytiglakhfkgeefaa
open Go.Pth Go.Tre Go.RowKit Go.Word
attribute [local go_sem] guard_eq guard_ne st_eql st_neq
end Go.Proofs.Ytiglakhfkgeefaa
set_option linter.unusedSimpArgs false
namespace Go.Proofs.Ytiglakhfkgeefaa
open Go.Pth Go.Tre Go.RowKit Go.Word Go.Shelf
attribute [local go_sem] guard_eq guard_ne st_eql
end Go.Proofs.Ytiglakhfkgeefaa
set_option linter.unusedSimpArgs false
set_option linter.unusedSimpArgs false
namespace Go.Tre
open Go.Pth Go.Op Go.Proofs.Ytiglakhfkgeefaa
section
variable {ns : List Nd} {fs : List Fl} (h : looseE ns fs = 0)
end
end Go.Tre
set_option linter.unusedSimpArgs false
namespace Go.Tre
open Go.Pth Go.Proofs.Ytiglakhfkgeefaa
section
variable {ns : List Nd} {fs : List Fl} (h : looseE ns fs = 0)
end
end Go.Tre
set_option linter.unusedSimpArgs false
set_option linter.unusedSimpArgs false
set_option linter.unusedSimpArgs false
set_option linter.unusedSimpArgs false
set_option linter.unusedSimpArgs false
namespace Go.Word
section
variable {P : Program} {md : Region.Mode} {ops : Array Oper} {Q : Exit → Act → World → Prop} {own : Nat → Option Nat} {vals : Nat → Value} {a0 : Act}
end
end Go.Word
set_option linter.unusedSimpArgs false
set_option linter.unusedSimpArgs false
namespace Go.Word
section
variable {P : Program} {Q : Exit → Act → World → Prop} {a : Act} {w w' : World} {K : Act → World → Prop} {oi : Oper}
end
end Go.Word
set_option linter.unusedSimpArgs false
set_option linter.unusedSimpArgs false
set_option linter.unusedSimpArgs false
set_option linter.unusedSimpArgs false
set_option linter.unusedSimpArgs false
set_option linter.unusedSimpArgs false
namespace Go.Word
section
variable {P : Program} {md : Region.Mode} {ops : Array Oper} {Q : Exit → Act → World → Prop} {own : Nat → Option Nat} {vals : Nat → Value} {a0 : Act}
end
end Go.Word
set_option linter.unusedSimpArgs false
set_option linter.unusedSimpArgs false
set_option linter.unusedVariables false
namespace Go.Word
section
variable {P : Program} {md : Region.Mode} {ops : Array Oper} {Q : Exit → Act → World → Prop} {own : Nat → Option Nat} {vals : Nat → Value} {a0 : Act}
end
end Go.Word
set_option linter.unusedSimpArgs false
set_option linter.unusedVariables false
namespace Go.Word
section
variable {P : Program} {md : Region.Mode} {ops : Array Oper} {Q : Exit → Act → World → Prop} {own : Nat → Option Nat} {vals : Nat → Value} {a0 : Act}
end
end Go.Word
set_option linter.unusedSimpArgs false
set_option linter.unusedVariables false
namespace Go.Word
section
variable {P : Program} {md : Region.Mode} {ops : Array Oper} {Q : Exit → Act → World → Prop} {own : Nat → Option Nat} {vals : Nat → Value} {a0 : Act}
theorem every_factl (rank : Nat → Nat) (last : Nat) (F : Array Bool → Nat → Value → World → Prop) (Inv : World → Prop)
    (hac : ∀ (i : Nat) (oi : Oper), ops[i]? = some oi → ∀ e ∈ oi.after, Region.binds md e = true → rank e.on < rank i)
    (hon : ∀ (i : Nat) (oi : Oper), ops[i]? = some oi → ∀ e ∈ oi.after, e.on < ops.size)
    (hdst : ∀ i oi, ops[i]? = some oi → (oi.dst = none ∧ ∀ t, own t ≠ some i) ∨ ∃ d, oi.dst = some d ∧ d < a0.tmps.size ∧ own d = some i ∧ ∀ t, own t = some i → t = d)
    (hop : ∀ i oi a w listed vals, ops[i]? = some oi → i ≠ last → listed.size = ops.size → Shut md ops listed → listed.getD i false = false → (∀ e ∈ oi.after, Region.binds md e = true → listed.getD e.on false = true) → Tabd own vals a0 listed a → (∀ k, listed.getD k false = true → F listed k (vals k) w) → Inv w →
      (Region.wanted oi (yielded ops a.tmps) = true ∧ ∀ K : Act → World → Prop, (∀ v w', F (listed.setIfInBounds i true) i v w' → (∀ k u, k ≠ i → listed.getD k false = true → F listed k u w → F (listed.setIfInBounds i true) k u w') → Inv w' → K (a.put oi.dst v) w') → Oper.wp P oi a w K Q))
    (hall : ∀ listed : Array Bool, Shut md ops listed → (∀ ol, ops[last]? = some ol → ∀ e ∈ ol.after, Region.binds md e = true → listed.getD e.on false = true) → ∀ i, i < ops.size → i ≠ last → listed.getD i false = true)
    (hl : ∀ a w listed vals ol, ops[last]? = some ol → (∀ i, i < ops.size → i ≠ last → listed.getD i false = true) → (∀ e ∈ ol.after, Region.binds md e = true → listed.getD e.on false = true) → listed.getD last false = false → Tabd own vals a0 listed a → (∀ k, k < ops.size → k ≠ last → F listed k (vals k) w) → Inv w →
      Region.wanted ol (yielded ops a.tmps) = true ∧ ∀ K : Act → World → Prop, (∀ a' w', Q .normal a' w' → K a' w') → Oper.wp P ol a w K Q)
    (hlast : last < ops.size) :
    ∀ (fuel : Nat) (listed : Array Bool) (a : Act) (w : World) (vals : Nat → Value), listed.size = ops.size → Shut md ops listed → listed.getD last false = false → listed.toList.count false ≤ fuel → Tabd own vals a0 listed a → (∀ k, listed.getD k false = true → F listed k (vals k) w) → Inv w → wpAny P md ops Q fuel listed a w := by
  intro fuel
  induction fuel with
  | zero =>
    intro listed a w vals hs hcl hlf hc ht hF hI
    have hr : Region.ready md ops listed = [] := List.eq_nil_iff_forall_not_mem.2 fun j hj => by
      obtain ⟨hun, oj, hoj, _⟩ := mem_ready.1 hj
      have hjlt : j < ops.size := (Array.getElem?_eq_some_iff.1 hoj).1
      have := count_pos (by omega) hun
      omega
    have ha := all_listed hac hs hon hr
    rw [ha last hlast] at hlf
    cases hlf
  | succ fuel ih =>
    intro listed a w vals hs hcl hlf hc ht hF hI
    refine ⟨fun hr => ?_, fun i hi => ?_⟩
    · have ha := all_listed hac hs hon hr
      rw [ha last hlast] at hlf
      cases hlf
    obtain ⟨hun, oi, hoi, hdeps⟩ := mem_ready.1 hi
    have hilt : i < ops.size := (Array.getElem?_eq_some_iff.1 hoi).1
    have hun2 : listed.getD i false = false := by
      rw [Array.getD_eq_getD_getElem?, Array.getElem?_eq_getElem (by omega)] at hun ⊢
      simpa using hun
    by_cases hil : i = last
    · subst hil
      have hothers := hall listed hcl (fun ol hol => by rw [hoi] at hol; injection hol with hol; subst hol; exact hdeps)
      obtain ⟨hw, hK⟩ := hl a w listed vals oi hoi hothers hdeps hun2 ht (fun k hk hne => hF k (hothers k hk hne)) hI
      unfold wpOp
      rw [hoi]
      simp only [hw, if_true]
      refine .inl (hK _ fun a' w' hq => wpAny_done2 (List.eq_nil_iff_forall_not_mem.2 fun j hj => ?_) hq fuel)
      obtain ⟨hj1, oj, hoj, _⟩ := mem_ready.1 hj
      have hjlt : j < ops.size := (Array.getElem?_eq_some_iff.1 hoj).1
      by_cases hji : j = i
      · subst hji
        simp [hs, hjlt] at hj1
      · rw [getD_set_ne true (Ne.symm hji)] at hj1
        have h2 := hothers j hjlt hji
        rw [Array.getD_eq_getD_getElem?, Array.getElem?_eq_getElem (by omega)] at hj1 h2
        simp only [Option.getD_some] at hj1 h2
        rw [hj1] at h2
        cases h2
    have next : ∀ v w', F (listed.setIfInBounds i true) i v w' → (∀ k u, k ≠ i → listed.getD k false = true → F listed k u w → F (listed.setIfInBounds i true) k u w') → Inv w' → wpAny P md ops Q fuel (listed.setIfInBounds i true) (a.put oi.dst v) w' := fun v w' h1 h2 h3 => by
      have ht1 := tabd_upd v ht hun2
      have hv : upd vals i v i = v := upd_same vals i v
      have ht' : Tabd own (upd vals i v) a0 (listed.setIfInBounds i true) (a.put oi.dst v) := by
        rcases hdst i oi hoi with ⟨hd, hno⟩ | ⟨d, hd, hdl, hod, hinj⟩
        · have := tabd_skip ht1 hno
          rw [hv] at this
          rw [hd]; exact this
        · have := tabd_put ht1 (by omega) hdl hod hinj
          rw [hv] at this
          rw [hd]; exact this
      refine ih _ _ _ (upd vals i v) (by simp [hs]) (shut_set hcl hs hoi hdeps) (by rw [getD_set_ne false hil]; exact hlf) (count_set (by omega) hun hc) ht' (fun k hk => ?_) h3
      by_cases e : k = i
      · subst e
        rw [hv]; exact h1
      · rw [upd_other e]
        rw [getD_set_ne false (Ne.symm e)] at hk
        exact h2 k _ e hk (hF k hk)
    unfold wpOp
    rw [hoi]
    obtain ⟨hw, hK⟩ := hop i oi a w listed vals hoi hil hs hcl hun2 hdeps ht hF hI
    simp only [hw, if_true]
    exact .inl (hK _ next)
end
end Go.Word
set_option linter.unusedSimpArgs false
namespace Go.Tre
open Go.Pth Go.Op
/-- has a node the number of one of m files -/
def hasF (m : Nat) (x : Nd) : Bool := decide (0 ≤ x.file ∧ x.file < m)
/-- the files' numbers in the order in which they are named: one node more -/
def ordT (m : Nat) (o : List Int) (x : Nd) : List Int := if hasF m x = true ∧ x.file ∉ o then o ++ [x.file] else o
def numT (m : Nat) (o : List Int) (x : Nd) : Nd := if hasF m x = true then ⟨x.path, (o.idxOf x.file : Nat), x.mode⟩ else x
def setA (m : Nat) : List Int → List Nd → List Nd
  | _, [] => []
  | o, x :: r => numT m (ordT m o x) x :: setA m (ordT m o x) r
def setN (m : Nat) (ns : List Nd) : List Nd := setA m [] ns
section
variable {σ : Int → Int} {M : Nat}
end
end Go.Tre
set_option linter.unusedSimpArgs false
namespace Go.Proofs.Ytiglakhfkgeefaa
open Go.Pth Go.Tre Go.RowKit Go.Word
section
variable {w w' : World} {b n : Nat} {o : List Int}
end
end Go.Proofs.Ytiglakhfkgeefaa
set_option linter.unusedSimpArgs false
namespace Go.Proofs.Ytiglakhfkgeefaa
open Go.Pth Go.Tre Go.RowKit Go.Word Go.Shelf
attribute [local go_sem] guard_eq guard_ne st_eql st_neq
end Go.Proofs.Ytiglakhfkgeefaa
set_option linter.unusedSimpArgs false
namespace Go.Proofs.Ytiglakhfkgeefaa
open Go.Pth Go.Tre Go.RowKit Go.Word Go.Shelf
attribute [local go_sem] guard_eq guard_ne st_eql st_neq
def exactB (ns : List Nd) (fs : List Fl) (ms : List Nd) (gs : List Fl) : Bool := decide (ns = ms) && decide (fs = gs)
set_option maxRecDepth 100000 in
set_option maxHeartbeats 4000000 in
theorem exact_any (NA FA MA GA : Option Addr) (nc fc mc gc : Nat) (ns ms : List Nd) (fs gs : List Fl) (w : World) (hN : NodesAt w NA ns) (hF : FilesAt w FA fs) (hM : NodesAt w MA ms) (hG : FilesAt w GA gs) (h1 : ns.length ≤ 1000000) (h2 : fs.length ≤ 1000000) :
    Calls Try.prog 35 #[.agg #[.slice NA ns.length nc, .slice FA fs.length fc], .agg #[.slice MA ms.length mc, .slice GA gs.length gc]] w fun e w' => e = .returned (.bool (exactB ns fs ms gs)) ∧ Below w.heap.size w w' := by
  obtain ⟨n, hne⟩ : ∃ n, n = ns.length := ⟨_, rfl⟩
  obtain ⟨m, hme⟩ : ∃ m, m = ms.length := ⟨_, rfl⟩
  obtain ⟨f, hfe⟩ : ∃ f, f = fs.length := ⟨_, rfl⟩
  obtain ⟨g, hge⟩ : ∃ g, g = gs.length := ⟨_, rfl⟩
  rw [← hne] at h1
  rw [← hfe] at h2
  rw [← hne, ← hme, ← hfe, ← hge]
  have L1 := lies_alloc (lies_new w 25 #[.slice NA n nc, .slice FA f fc]) (.cells #[.slice MA m mc, .slice GA g gc] 25)
  have L2 := lies_new (w.alloc (.cells #[.slice NA n nc, .slice FA f fc] 25)) 25 #[.slice MA m mc, .slice GA g gc]
  rw [World.size_alloc] at L2
  have hB : Below w.heap.size w ((w.alloc (.cells #[.slice NA n nc, .slice FA f fc] 25)).alloc (.cells #[.slice MA m mc, .slice GA g gc] 25)) := ((Below.refl _ _).alloc (Nat.le_refl _) _).alloc (by simp) _
  have HN := Lib.hid (nodesAt_below hN hB)
  have HM := Lib.hid (nodesAt_below hM hB)
  have HF := Lib.hid (filesAt_below hF hB)
  have HG := Lib.hid (filesAt_below hG hB)
  have NE := Lib.hid hne
  have ME := Lib.hid hme
  have FE := Lib.hid hfe
  have GE := Lib.hid hge
  obtain ⟨r, hr⟩ : ∃ r, r = exactB ns fs ms gs := ⟨_, rfl⟩
  rw [← hr]
  have RE := Lib.hid hr
  have x0 := lies_cell L1 0
  have x1 := lies_cell L1 1
  have y0 := lies_cell L2 0
  have y1 := lies_cell L2 1
  simp only [List.getElem?_toArray, List.getElem?_cons_zero, List.getElem?_cons_succ] at x0 x1 y0 y1
  have HB := Lib.hid hB
  clear L1 L2 hB hN hF hM hG hne hme hfe hge hr
  by_cases hnm : ¬ n = m
  · have hr := Lib.hid (show r = false by
      rw [RE.out]; unfold exactB
      rw [decide_eq_false (fun e : ns = ms => hnm (by rw [NE.out, ME.out, e])), Bool.false_and])
    have l1 : ¬ (n : Int) = (m : Int) := by omega
    go_enter Try.func35, Try.ntmps35
    go_wp2
    go_ret
    rw [hr.out]
    exact ⟨rfl, HB.out⟩
  obtain rfl := Decidable.not_not.1 hnm
  by_cases hfg : ¬ f = g
  · have hr := Lib.hid (show r = false by
      rw [RE.out]; unfold exactB
      rw [decide_eq_false (fun e : fs = gs => hfg (by rw [FE.out, GE.out, e])), Bool.and_false])
    have l1 : ¬ (f : Int) = (g : Int) := by omega
    go_enter Try.func35, Try.ntmps35
    go_wp2
    go_ret
    rw [hr.out]
    exact ⟨rfl, HB.out⟩
  obtain rfl := Decidable.not_not.1 hfg
  clear hnm hfg
  go_enter Try.func35, Try.ntmps35
  go_wp2
  generalize (w.alloc (.cells #[.slice NA n nc, .slice FA f fc] 25)).alloc (.cells #[.slice MA n mc, .slice GA f gc] 25) = X at *
  go_loopw [5] (fun v5 wr => ∃ i : Nat, i ≤ n ∧ v5 = .int .i64 (i : Int) ∧ ns.take i = ms.take i ∧ ∃ k, wr = X.drewN k) (fun v5 _ => n - (intOf v5).toNat)
  case atStart => exact ⟨0, Nat.zero_le _, rfl, by simp, 0, rfl⟩
  case round =>
    obtain ⟨i, hi, rfl, hno, kk, rfl⟩ := hrel
    have NO := Lib.hid hno
    clear hno
    have z0 : (X.drewN kk).cell? ⟨w.heap.size, 0, none⟩ = some (.slice NA n nc) := x0
    have z1 : (X.drewN kk).cell? ⟨w.heap.size, 1, none⟩ = some (.slice FA f fc) := x1
    have z2 : (X.drewN kk).cell? ⟨w.heap.size + 1, 0, none⟩ = some (.slice MA n mc) := y0
    have z3 : (X.drewN kk).cell? ⟨w.heap.size + 1, 1, none⟩ = some (.slice GA f gc) := y1
    by_cases hlt : i < n
    · have li : (i : Int) < (n : Int) := by omega
      have lf : i < ns.length := by have := NE.out; omega
      have lm : i < ms.length := by have := ME.out; omega
      obtain ⟨b, o, eA, hl, d1, d2, d3⟩ := HN.out i lf
      obtain ⟨b', o', eB, hl', f1, f2, f3⟩ := HM.out i lm
      subst eA eB
      have TK := Lib.hid (take_eq ns ms i NO.out lf lm)
      have EQ := Lib.hid (eqNd_iff ns[i] ms[i])
      have RN := Lib.hid (show ns = ms → ns[i] = ms[i] from fun e => by subst e; rfl)
      generalize ns[i] = x at *
      generalize ms[i] = y at *
      obtain ⟨p, fx, md⟩ := x
      obtain ⟨q, gx, k⟩ := y
      have d1 : (X.drewN kk).cell? ⟨b, o + i * 3, none⟩ = some (St p) := d1
      have d2 : (X.drewN kk).cell? ⟨b, o + i * 3 + 1, none⟩ = some (.int .i64 fx) := d2
      have d3 : (X.drewN kk).cell? ⟨b, o + i * 3 + 2, none⟩ = some (.int .i64 md) := d3
      have f1 : (X.drewN kk).cell? ⟨b', o' + i * 3, none⟩ = some (St q) := f1
      have f2 : (X.drewN kk).cell? ⟨b', o' + i * 3 + 1, none⟩ = some (.int .i64 gx) := f2
      have f3 : (X.drewN kk).cell? ⟨b', o' + i * 3 + 2, none⟩ = some (.int .i64 k) := f3
      have hE := fun W => neq_node p q fx gx md k W
      have hG := fun x y W => guard_node .neq x y #[St p, .int .i64 fx, .int .i64 md] #[St q, .int .i64 gx, .int .i64 k] W
      have EQ2 : Hid (eqNd p q fx gx md k = decide ((⟨p, fx, md⟩ : Nd) = ⟨q, gx, k⟩)) := EQ
      generalize eqNd p q fx gx md k = s at hE EQ2
      obtain ⟨Y, hY⟩ : ∃ Y, Y = X.drewN kk := ⟨_, rfl⟩
      rw [← hY] at z0 z1 z2 z3 d1 d2 d3 f1 f2 f3 ⊢
      have HY := Lib.hid hY
      clear hY
      go_wp2
      go_quiet (fail)
      go_wp2
      · rename_i hd
        have hs : s = false := by simpa using hd
        go_ret
        have hr : r = false := by
          rw [RE.out]
          unfold exactB
          rw [decide_eq_false (fun e => ?_), Bool.false_and]
          have h1 := EQ2.out
          rw [hs, decide_eq_true (RN.out e)] at h1
          cases h1
        rw [hr]
        exact ⟨rfl, by rw [HY.out]; exact below_drewN (below_drewN HB.out _) _⟩
      · rename_i hd
        have hs : s = true := by simpa using hd
        have hxy : (⟨p, fx, md⟩ : Nd) = ⟨q, gx, k⟩ := of_decide_eq_true (by rw [← EQ2.out]; exact hs)
        exact ⟨⟨i + 1, by omega, by go_num, TK.out.2 hxy, _, by rw [HY.out, World.drewN_drewN]⟩, by first | (simp [intOf]; done) | (simp [intOf]; omega)⟩
    · have li : ¬ (i : Int) < (n : Int) := by omega
      have EN := Lib.hid (show ns = ms by
        have h1 := NO.out
        rwa [List.take_of_length_le (by have := NE.out; omega), List.take_of_length_le (by have := ME.out; omega)] at h1)
      clear z0 z1 z2 z3
      go_wp2
      go_loopw [6] (fun v6 wr => ∃ j : Nat, j ≤ f ∧ v6 = .int .i64 (j : Int) ∧ fs.take j = gs.take j ∧ ∃ k, wr = X.drewN k) (fun v6 _ => f - (intOf v6).toNat)
      case atStart => exact ⟨0, Nat.zero_le _, rfl, by simp, kk, rfl⟩
      case round =>
        obtain ⟨j, hj, rfl, hno, k2, rfl⟩ := hrel
        have NO2 := Lib.hid hno
        clear hno
        have z0 : (X.drewN k2).cell? ⟨w.heap.size, 0, none⟩ = some (.slice NA n nc) := x0
        have z1 : (X.drewN k2).cell? ⟨w.heap.size, 1, none⟩ = some (.slice FA f fc) := x1
        have z2 : (X.drewN k2).cell? ⟨w.heap.size + 1, 0, none⟩ = some (.slice MA n mc) := y0
        have z3 : (X.drewN k2).cell? ⟨w.heap.size + 1, 1, none⟩ = some (.slice GA f gc) := y1
        by_cases hlt2 : j < f
        · have li2 : (j : Int) < (f : Int) := by omega
          have lf : j < fs.length := by have := FE.out; omega
          have lm : j < gs.length := by have := GE.out; omega
          obtain ⟨b, o, DA, dc, eA, hl, d1, d2, d3⟩ := HF.out j lf
          obtain ⟨b', o', DB, dd, eB, hl', f1, f2, f3⟩ := HG.out j lm
          subst eA eB
          have TK := Lib.hid (take_eq fs gs j NO2.out lf lm)
          have RN := Lib.hid (show fs = gs → fs[j] = gs[j] from fun e => by subst e; rfl)
          generalize fs[j] = x at *
          generalize gs[j] = y at *
          obtain ⟨md, a⟩ := x
          obtain ⟨k, c⟩ := y
          have d1 : (X.drewN k2).cell? ⟨b, o + j * 2, none⟩ = some (.int .i64 md) := d1
          have d2 : (X.drewN k2).cell? ⟨b, o + j * 2 + 1, none⟩ = some (.slice DA a.length dc) := d2
          have f1 : (X.drewN k2).cell? ⟨b', o' + j * 2, none⟩ = some (.int .i64 k) := f1
          have f2 : (X.drewN k2).cell? ⟨b', o' + j * 2 + 1, none⟩ = some (.slice DB c.length dd) := f2
          have t1 : ∀ q, (convert 47 9 (.slice DA a.length dc)).run Try.prog ((X.drewN k2).drewN q) = .ok (St a) ((X.drewN k2).drewN q) := fun q => run_text48 DA a dc ((X.drewN k2).drewN q) d3
          have t2 : ∀ q, (convert 47 9 (.slice DB c.length dd)).run Try.prog ((X.drewN k2).drewN q) = .ok (St c) ((X.drewN k2).drewN q) := fun q => run_text48 DB c dd ((X.drewN k2).drewN q) f3
          have RN2 : Hid (fs = gs → (⟨md, a⟩ : Fl) = ⟨k, c⟩) := RN
          have TK2 : Hid (fs.take (j + 1) = gs.take (j + 1) ↔ (⟨md, a⟩ : Fl) = ⟨k, c⟩) := TK
          clear d3 f3 RN TK
          generalize a.length = na at *
          generalize c.length = nb at *
          obtain ⟨Y, hY⟩ : ∃ Y, Y = X.drewN k2 := ⟨_, rfl⟩
          rw [← hY] at z0 z1 z2 z3 d1 d2 f1 f2 t1 t2 ⊢
          have HY := Lib.hid hY
          have bad : (⟨md, a⟩ : Fl) ≠ ⟨k, c⟩ → r = false := fun h => by
            rw [RE.out]
            unfold exactB
            rw [decide_eq_false (fun e => h (RN2.out e)), Bool.and_false]
          have BAD := Lib.hid bad
          clear hY bad
          by_cases hm : md = k
          · by_cases hac : a = c
            · have ho : other a c = false := decide_eq_false (by simp [hac])
              have hxy : (⟨md, a⟩ : Fl) = ⟨k, c⟩ := by rw [hm, hac]
              clear hac
              go_wp2
              go_quiet (fail)
              go_wp2
              exact ⟨⟨j + 1, by omega, by go_num, TK2.out.2 hxy, _, by rw [HY.out, World.drewN_drewN]⟩, by first | (simp [intOf]; done) | (simp [intOf]; omega)⟩
            · have ho : other a c = true := decide_eq_true hac
              have HR := Lib.hid (BAD.out (fun e => hac (by injection e)))
              clear hac
              go_wp2
              go_quiet (fail)
              go_wp2
              go_ret
              rw [HR.out]
              exact ⟨rfl, by rw [HY.out]; exact below_drewN (below_drewN HB.out _) _⟩
          · have HR := Lib.hid (BAD.out (fun e => hm (by injection e)))
            go_wp2
            go_quiet (fail)
            go_wp2
            go_ret
            rw [HR.out]
            exact ⟨rfl, by rw [HY.out]; exact below_drewN (below_drewN HB.out _) _⟩
        · have li2 : ¬ (j : Int) < (f : Int) := by omega
          have EF := Lib.hid (show fs = gs by
            have h1 := NO2.out
            rwa [List.take_of_length_le (by have := FE.out; omega), List.take_of_length_le (by have := GE.out; omega)] at h1)
          have HR := Lib.hid (show r = true by rw [RE.out]; unfold exactB; rw [decide_eq_true EN.out, decide_eq_true EF.out]; rfl)
          go_wp2
          go_ret
          rw [HR.out]
          exact ⟨rfl, below_drewN HB.out _⟩
end Go.Proofs.Ytiglakhfkgeefaa
set_option linter.unusedSimpArgs false
namespace Go.Proofs.Ytiglakhfkgeefaa
open Go.Pth Go.Tre Go.Word Go.ChangeShapes Go.WideShapes Go.ChangeAt Go.RowKit Go.Deep
section
variable {H : Type} {enc : TypeId × Value → H}
end
end Go.Proofs.Ytiglakhfkgeefaa
set_option linter.unusedSimpArgs false
set_option linter.unusedVariables false
namespace Go.Tre
open Go.Pth Go.Op
/-- the nodes of which the first j have their new numbers -/
def cur (m : Nat) (ms : List Nd) (j : Nat) : List Nd := setN m (ms.take j) ++ ms.drop j
end Go.Tre
namespace Go.Proofs.Ytiglakhfkgeefaa
open Go.Pth Go.Tre Go.RowKit Go.Word Go.Shelf
section
variable {w w' : World} {B xs : Nat} {vN vF v3 : Value} {D : Nat → Value} {ms : List Nd} {fs : List Fl} {j : Nat}
end
end Go.Proofs.Ytiglakhfkgeefaa
set_option linter.unusedSimpArgs false
set_option linter.unusedVariables false
namespace Go.Proofs.Ytiglakhfkgeefaa
open Go.Pth Go.Tre Go.RowKit Go.Word Go.Shelf
theorem ncells_app (a b : List Nd) : ncells (a ++ b) = ncells a ++ ncells b := by
  unfold ncells
  exact List.flatMap_append
theorem own_nodes {w : World} {B : Nat} {v : Value} {us : List Nd} (h : w.ownsRow B 60 3 v us.length (ncells us)) : ∃ A C, v = .slice A us.length C ∧ NodesAt w A us ∧ us.length ≤ C ∧ (A = none → C = 0) := by
  rcases h.2 with ⟨e, h0⟩ | ⟨g, cap, cur, e, hg, hb, hc, _⟩
  · exact ⟨none, 0, by rw [e, h0], fun i hi => by omega, by omega, fun _ => rfl⟩
  · subst e
    refine ⟨_, _, rfl, fun i hi => ⟨g, 0, rfl, (Array.getElem?_eq_some_iff.1 hb).1, ?_⟩, hc, fun e => by cases e⟩
    obtain ⟨k1, k2, k3⟩ := ncells_at us i hi
    rw [Nat.zero_add, h.cellAt _ (by omega), h.cellAt _ (by omega), h.cellAt _ (by omega)]
    exact ⟨k1, k2, k3⟩
set_option maxRecDepth 100000 in
theorem cut_to (A : Option Addr) (k c m : Nat) (h : m ≤ c) (W : World) : (Instr.slice 22 (.slice A k c) none (some (.int .i64 (m : Int))) none).run Try.prog W = .ok (.slice A m c) W := by
  have := run_slice_h (P := Try.prog) W 22 A k c Try.underlying22 .i64 (m : Int) (by omega) (by omega)
  rw [this]
  have hz : (sizeOf (Try.prog.elem 22)).run Try.prog W = .ok 3 W := by kernel_rfl
  rw [hz]
  cases A <;> simp [sliced, Result.andThen, Addr.add]
/-- nodes put behind a row of one's own -/
theorem run_app_row (w : World) (ty : TypeId) (B : Nat) (v : Value) (us vs : List Nd) (A : Option Addr) (C : Nat) (h : w.ownsRow B 60 3 v us.length (ncells us)) (hr : NodesAt w A vs) (hB : B ≤ w.heap.size) (h1 : us.length ≤ 1000000) (h2 : vs.length ≤ 1000000) (hC : A = none → C = 0) :
    ∃ v' w', (Builtin.append_ #[22, 22] ty #[v, .slice A vs.length C]).run Try.prog w = .ok v' w' ∧ w'.ownsRow B 60 3 v' (us ++ vs).length (ncells (us ++ vs)) ∧ w.grownBy w' v.ownBlock := by
  obtain ⟨i0, hi, hz0, hz1, hz2⟩ := info_parts node_info3
  rw [List.length_append, ncells_app]
  cases A with
  | none =>
    have hd0 : vs = [] := by
      cases vs with
      | nil => rfl
      | cons c t =>
        obtain ⟨b, o, e, _⟩ := hr 0 (by simp)
        cases e
    subst hd0
    rw [hC rfl]
    refine ⟨v, w, run_append_owned_none (P := Try.prog) w B 22 ty 60 i0 3 Try.underlying22 hi v us.length _ h, ?_, ⟨rfl, rfl, rfl, Nat.le_refl _, fun _ _ _ => rfl⟩⟩
    simpa [ncells] using h
  | some ad =>
    obtain ⟨v', w', h3, h4, h5, _⟩ := run_append_own (P := Try.prog) w B 22 ty 60 i0 _ 3 32 Try.underlying22 hi hz0 hz1 hz2 rfl (by decide) v us.length (ncells us) h ad vs.length C (ncells vs) (ncells_len vs) (ncells_src hr) (ncells_one vs) (by unfold maxLen; omega) (by omega) hB
    exact ⟨v', w', h3, h4, h5⟩
end Go.Proofs.Ytiglakhfkgeefaa
set_option linter.unusedSimpArgs false
set_option linter.unusedVariables false
set_option linter.unusedSimpArgs false
set_option linter.unusedVariables false
namespace Go.Proofs.Ytiglakhfkgeefaa
open Go.Pth Go.Tre Go.RowKit Go.Word Go.Shelf
section
variable {w : World} {B m n g C T RT j : Nat} {vF vT : Value} {D : Nat → Value} {ms : List Nd} {gs : List Fl} {rs : List Value}
end
end Go.Proofs.Ytiglakhfkgeefaa
set_option linter.unusedSimpArgs false
set_option linter.unusedVariables false
namespace Go.Proofs.Ytiglakhfkgeefaa
open Go.Pth Go.Tre Go.RowKit Go.Word Go.Shelf
/-- bytes with one more behind them -/
def LentD (w : World) (B : Nat) (v : Value) (d : Bt) : Prop := ∃ A C, v = .slice A d.length C ∧ w.ownsRow B 5 1 (.slice A (d.length + 1) C) (d.length + 1) ((d ++ [167]).map yB)
theorem row_cap {w : World} {B e z n C : Nat} {A : Option Addr} {xs : List Value} (h : w.ownsRow B e z (.slice A n C) n xs) : n ≤ C := by
  rcases h.2 with ⟨e1, h0⟩ | ⟨_, cap, _, e1, _, _, h1, _⟩
  · omega
  · injection e1 with _ _ e1
    omega
set_option maxRecDepth 100000 in
theorem cutb_to (A : Option Addr) (k c m : Nat) (h : m ≤ c) (W : World) : (Instr.slice 47 (.slice A k c) none (some (.int .i64 (m : Int))) none).run Try.prog W = .ok (.slice A m c) W := by
  have := run_slice_h (P := Try.prog) W 47 A k c Try.underlying47 .i64 (m : Int) (by omega) (by omega)
  rw [this]
  have hz : (sizeOf (Try.prog.elem 47)).run Try.prog W = .ok 1 W := by kernel_rfl
  rw [hz]
  cases A <;> simp [sliced, Result.andThen, Addr.add]
set_option maxRecDepth 100000 in
theorem cutf_to (A : Option Addr) (k c m : Nat) (h : m ≤ c) (W : World) : (Instr.slice 23 (.slice A k c) none (some (.int .i64 (m : Int))) none).run Try.prog W = .ok (.slice A m c) W := by
  have := run_slice_h (P := Try.prog) W 23 A k c Try.underlying23 .i64 (m : Int) (by omega) (by omega)
  rw [this]
  have hz : (sizeOf (Try.prog.elem 23)).run Try.prog W = .ok 2 W := by kernel_rfl
  rw [hz]
  cases A <;> simp [sliced, Result.andThen, Addr.add]
set_option maxRecDepth 100000 in
theorem row_byte (w : World) (B : Nat) (v : Value) (d : Bt) (h : OwnB w B v d) (hB : B ≤ w.heap.size) (hl : d.length ≤ 1000000) :
    ∃ A C Z, (Builtin.append_ #[47, 47] 47 #[v, .slice (some ⟨w.heap.size, 0, none⟩) 1 1]).run Try.prog (w.alloc (.cells #[.int .u8 167] 5)) = .ok (.slice A (d.length + 1) C) Z ∧ Z.ownsRow B 5 1 (.slice A (d.length + 1) C) (d.length + 1) ((d ++ [167]).map yB) ∧ (w.alloc (.cells #[.int .u8 167] 5)).grownBy Z v.ownBlock ∧ ∀ r, v.ownBlock = some r → B ≤ r ∧ ∃ cs, (w.alloc (.cells #[.int .u8 167] 5)).heap[r]? = some (.cells cs 5 (0, 0)) := by
  obtain ⟨i0, hi, hz0, hz1, hz2⟩ := info_parts byte_info
  have h1 := ownB_alloc h (.cells #[.int .u8 167] 5)
  have L := lies_new w 5 #[.int .u8 167]
  obtain ⟨v', Z, hr, ho, hg, _⟩ := run_append_own (P := Try.prog) (w.alloc (.cells #[.int .u8 167] 5)) B 47 47 5 i0 (.int .u8 0) 1 1 Try.underlying47 hi hz0 hz1 hz2 rfl (by decide) v d.length (d.map yB) h1 ⟨w.heap.size, 0, none⟩ 1 1 [.int .u8 167] rfl (fun q u hq => by
    match q, hq with
    | 0, hq => injection hq with hq; subst hq; exact lies_cell L 0
    | q + 1, hq => simp at hq) (fun u hu => by simp at hu; subst hu; rfl) (by unfold maxLen; omega) (by omega) (by simp; omega)
  obtain ⟨A, C, rfl⟩ := own_slice ho
  refine ⟨A, C, Z, hr, ?_, hg, fun r e => own_heap h1 r e⟩
  rw [List.map_append]
  exact ho
set_option maxRecDepth 100000 in
theorem row_file (w : World) (B : Nat) (vF vD : Value) (D : Nat → Value) (us : List Fl) (md : Int) (h : w.ownsRow B 52 2 vF us.length (fcells D us)) (hB : B ≤ w.heap.size) (ho : vD.oneCell' = true) (hl : us.length ≤ 1000000) :
    ∃ A C Z, (Builtin.append_ #[23, 23] 23 #[vF, .slice (some ⟨w.heap.size, 0, none⟩) 1 1]).run Try.prog (w.alloc (.cells #[.int .i64 md, vD] 52)) = .ok (.slice A (us.length + 1) C) Z ∧ Z.ownsRow B 52 2 (.slice A (us.length + 1) C) (us.length + 1) (fcells D us ++ [.int .i64 md, vD]) ∧ (w.alloc (.cells #[.int .i64 md, vD] 52)).grownBy Z vF.ownBlock ∧ ∀ r, vF.ownBlock = some r → B ≤ r ∧ ∃ cs, (w.alloc (.cells #[.int .i64 md, vD] 52)).heap[r]? = some (.cells cs 52 (0, 0)) := by
  obtain ⟨i1, hj, hj0, hj1, hj2⟩ := info_parts file_info2
  have h1 := h.alloc (.cells #[.int .i64 md, vD] 52)
  have L := lies_new w 52 #[.int .i64 md, vD]
  obtain ⟨v', Z, hr, ho2, hg, _⟩ := run_append_own (P := Try.prog) (w.alloc (.cells #[.int .i64 md, vD] 52)) B 23 23 52 i1 _ 2 32 Try.underlying23 hj hj0 hj1 hj2 rfl (by decide) vF us.length (fcells D us) h1 ⟨w.heap.size, 0, none⟩ 1 1 [.int .i64 md, vD] rfl (fun q u hq => by
    match q, hq with
    | 0, hq => injection hq with hq; subst hq; exact lies_cell L 0
    | 1, hq => injection hq with hq; subst hq; exact lies_cell L 1
    | q + 2, hq => simp at hq) (fun u hu => by
    simp at hu
    rcases hu with rfl | rfl
    · rfl
    · exact ho) (by unfold maxLen; omega) (by omega) (by simp; omega)
  obtain ⟨A, C, rfl⟩ := own_slice ho2
  exact ⟨A, C, Z, hr, ho2, hg, fun r e => own_heap h1 r e⟩
theorem lentD_other {w w' : World} {B : Nat} {v : Value} {d : Bt} {row : Option Nat} (h : LentD w B v d) (hg : w.grownBy w' row) (hr : ∀ r, row = some r → ∃ cs t, w.heap[r]? = some (.cells cs t (0, 0)) ∧ t ≠ 5) : LentD w' B v d := by
  obtain ⟨A, C, e, h⟩ := h
  exact ⟨A, C, e, h.kept hg (own_other h hr)⟩
theorem lies_other {w w' : World} {T : Nat} {cs : Array Value} {row : Option Nat} (h : Lies w T 25 cs) (hg : w.grownBy w' row) (hr : ∀ r, row = some r → ∃ cs t, w.heap[r]? = some (.cells cs t (0, 0)) ∧ t ≠ 25) : Lies w' T 25 cs :=
  (hg.block T (lies_lt h) (fun e => by
    obtain ⟨_, t, h1, h2⟩ := hr T e.symm
    rw [show _ = _ from h] at h1
    injection h1 with h1
    injection h1 with _ h1 _
    exact h2 h1.symm)).trans h
theorem lent_step {wr : World} {B T n C1 : Nat} {A1 : Option Addr} {vF : Value} {D : Nat → Value} {us : List Fl} {nds : List Value} (ND : wr.ownsRow B 60 3 (.slice A1 (n + 1) C1) (n + 1) nds) (LL : Lies wr T 25 #[.slice A1 n C1, vF]) (FR : wr.ownsRow B 52 2 vF us.length (fcells D us)) (DD : ∀ k, k < us.length → LentD wr B (D k) (us.getD k ⟨0, []⟩).data) (hB : B ≤ wr.heap.size) (hT : B ≤ T)
    (DA : Option Addr) (dc : Nat) (d : Bt) (md : Int) (hd : BytesAt wr DA d) (hl : d.length ≤ 100000) (hu : us.length ≤ 1000) :
    ∃ Ad Cd W1, (Builtin.append_ #[47, 47] 47 #[.slice none 0 0, .slice DA d.length dc]).run Try.prog wr = .ok (.slice Ad d.length Cd) W1 ∧
    ∃ Ae Ce W3, (Builtin.append_ #[47, 47] 47 #[.slice Ad d.length Cd, .slice (some ⟨W1.heap.size, 0, none⟩) 1 1]).run Try.prog (W1.alloc (.cells #[.int .u8 167] 5)) = .ok (.slice Ae (d.length + 1) Ce) W3 ∧ d.length + 1 ≤ Ce ∧ Lies W3 T 25 #[.slice A1 n C1, vF] ∧ Below B wr W3 ∧
    ∃ Ag Cg Z3, (Builtin.append_ #[23, 23] 23 #[vF, .slice (some ⟨W3.heap.size, 0, none⟩) 1 1]).run Try.prog (W3.drew.alloc (.cells #[.int .i64 md, .slice Ae d.length Ce] 52)) = .ok (.slice Ag (us.length + 1) Cg) Z3 ∧
      Lies (W3.drew.alloc (.cells #[.int .i64 md, .slice Ae d.length Ce] 52)) T 25 #[.slice A1 n C1, vF] ∧ Lies Z3 T 25 #[.slice A1 n C1, vF] ∧ Below B wr (W3.drew.alloc (.cells #[.int .i64 md, .slice Ae d.length Ce] 52)) ∧ Below B wr Z3 ∧ Below B wr (Z3.setCell ⟨T, 1, none⟩ (.slice Ag (us.length + 1) Cg)) ∧
      Lies (Z3.setCell ⟨T, 1, none⟩ (.slice Ag (us.length + 1) Cg)) T 25 #[.slice A1 n C1, .slice Ag (us.length + 1) Cg] ∧ (Z3.setCell ⟨T, 1, none⟩ (.slice Ag (us.length + 1) Cg)).ownsRow B 60 3 (.slice A1 (n + 1) C1) (n + 1) nds ∧
      ∃ D' : Nat → Value, (Z3.setCell ⟨T, 1, none⟩ (.slice Ag (us.length + 1) Cg)).ownsRow B 52 2 (.slice Ag (us.length + 1) Cg) (us.length + 1) (fcells D' (us ++ [⟨md, d⟩])) ∧ ∀ k, k < us.length + 1 → LentD (Z3.setCell ⟨T, 1, none⟩ (.slice Ag (us.length + 1) Cg)) B (D' k) ((us ++ [(⟨md, d⟩ : Fl)]).getD k ⟨0, []⟩).data := by
  obtain ⟨vD, W1, r1, o1, g1⟩ := run_app_fresh wr 47 DA dc d hd (by omega)
  obtain ⟨Ad, Cd, rfl⟩ := own_slice o1
  have n1 : ∀ r, (none : Option Nat) = some r → ∃ cs t, wr.heap[r]? = some (.cells cs t (0, 0)) ∧ t ≠ 25 := fun r e => by cases e
  have no : ∀ {w : World} {e z : Nat} {v : Value} {k : Nat} {xs : List Value} {w' : World}, w.ownsRow B e z v k xs → w.grownBy w' none → w'.ownsRow B e z v k xs := fun {w e z v k xs w'} h hg => h.kept hg (by cases v.ownBlock <;> simp)
  have g1' : wr.grownBy (W1.alloc (.cells #[.int .u8 167] 5)) none := ⟨g1.os, g1.tape, g1.output, Nat.le_trans g1.size (by simp), fun q hq hne => (heap_alloc_old W1 _ (Nat.lt_of_lt_of_le hq g1.size)).trans (g1.block q hq hne)⟩
  obtain ⟨Ae, Ce, W3, r2, o2, g2, b2⟩ := row_byte W1 wr.heap.size _ d o1 g1.size (by omega)
  have hcap := row_cap o2
  -- what stands behind the byte
  have nd2 := no ND g1'
  have fr2 := no FR g1'
  have l2 : Lies (W1.alloc (.cells #[.int .u8 167] 5)) T 25 #[.slice A1 n C1, vF] := (g1'.block T (lies_lt LL) (by simp)).trans LL
  have d2 : ∀ k, k < us.length → LentD (W1.alloc (.cells #[.int .u8 167] 5)) B (D k) (us.getD k ⟨0, []⟩).data := fun k hk => by
    obtain ⟨A, C, e, h⟩ := DD k hk
    exact ⟨A, C, e, no h g1'⟩
  have t5 : ∀ r, (Value.slice Ad d.length Cd).ownBlock = some r → ∃ cs t, (W1.alloc (.cells #[.int .u8 167] 5)).heap[r]? = some (.cells cs t (0, 0)) ∧ t = 5 := fun r e => by obtain ⟨_, cs, h⟩ := b2 r e; exact ⟨cs, 5, h, rfl⟩
  have nd3 := nd2.kept g2 (own_other nd2 (fun r e => by obtain ⟨cs, t, h, ht⟩ := t5 r e; exact ⟨cs, t, h, by rw [ht]; decide⟩))
  have fr3 := fr2.kept g2 (own_other fr2 (fun r e => by obtain ⟨cs, t, h, ht⟩ := t5 r e; exact ⟨cs, t, h, by rw [ht]; decide⟩))
  have l3 := lies_other l2 g2 (fun r e => by obtain ⟨cs, t, h, ht⟩ := t5 r e; exact ⟨cs, t, h, by rw [ht]; decide⟩)
  have d3 : ∀ k, k < us.length → LentD W3 B (D k) (us.getD k ⟨0, []⟩).data := fun k hk => by
    obtain ⟨A, C, e, h⟩ := d2 k hk
    obtain ⟨A', C', e', h'⟩ := DD k hk
    have e2 := e.symm.trans e'
    injection e2 with a1 _ a3
    subst a1 a3
    refine ⟨A, C, e, h.kept g2 ?_⟩
    cases hv : (Value.slice A ((us.getD k ⟨0, []⟩).data.length + 1) C).ownBlock with
    | none => exact .inl rfl
    | some b =>
      refine .inr (fun e3 => ?_)
      have h4 := (h'.lt b hv).2
      have h5 := (b2 b e3.symm).1
      omega
  have w3 : Below B wr W3 := by
    have h1 : Below B wr (W1.alloc (.cells #[.int .u8 167] 5)) := (Below.refl B wr).grown g1' hB (fun k e => by cases e)
    exact h1.grown g2 (Nat.le_trans hB g1'.size) (fun k e => Nat.le_trans hB (b2 k e).1)
  have s3 : B ≤ W3.heap.size := Nat.le_trans hB (Nat.le_trans g1'.size g2.size)
  have gd : W3.grownBy W3.drew none := ⟨rfl, rfl, rfl, Nat.le_refl _, fun _ _ _ => rfl⟩
  have lD : LentD W3 B (.slice Ae d.length Ce) d := ⟨Ae, Ce, rfl, World.ownsRow.mono o2 hB⟩
  obtain ⟨Ag, Cg, Z3, r3, o3, g3, b3⟩ := row_file W3.drew B vF (.slice Ae d.length Ce) D us md (no fr3 gd) s3 rfl (by omega)
  have g4 : W3.grownBy (W3.drew.alloc (.cells #[.int .i64 md, .slice Ae d.length Ce] 52)) none := ⟨rfl, rfl, rfl, by simp, fun q hq _ => heap_alloc_old W3.drew _ hq⟩
  have nd4 := no nd3 g4
  have l4 := lies_other l3 g4 (fun r e => by cases e)
  have t57 : ∀ r, vF.ownBlock = some r → ∃ cs t, (W3.drew.alloc (.cells #[.int .i64 md, .slice Ae d.length Ce] 52)).heap[r]? = some (.cells cs t (0, 0)) ∧ t = 52 := fun r e => by obtain ⟨_, cs, h⟩ := b3 r e; exact ⟨cs, 52, h, rfl⟩
  have nd5 := nd4.kept g3 (own_other nd4 (fun r e => by obtain ⟨cs, t, h, ht⟩ := t57 r e; exact ⟨cs, t, h, by rw [ht]; decide⟩))
  have l5 := lies_other l4 g3 (fun r e => by obtain ⟨cs, t, h, ht⟩ := t57 r e; exact ⟨cs, t, h, by rw [ht]; decide⟩)
  have w4 : Below B wr (W3.drew.alloc (.cells #[.int .i64 md, .slice Ae d.length Ce] 52)) := w3.grown g4 s3 (fun k e => by cases e)
  have w5 : Below B wr Z3 := w4.grown g3 (Nat.le_trans s3 g4.size) (fun k e => (b3 k e).1)
  have gs := grown_setCell Z3 T 1 (.slice Ag (us.length + 1) Cg)
  have t25 : ∀ r, some T = some r → ∃ cs t, Z3.heap[r]? = some (.cells cs t (0, 0)) ∧ t = 25 := fun r e => by injection e with e; subst e; exact ⟨_, 25, l5, rfl⟩
  have l6 : Lies (Z3.setCell ⟨T, 1, none⟩ (.slice Ag (us.length + 1) Cg)) T 25 #[.slice A1 n C1, .slice Ag (us.length + 1) Cg] := lies_set l5 1 _
  have dk : ∀ v e, LentD W3 B v e → LentD (Z3.setCell ⟨T, 1, none⟩ (.slice Ag (us.length + 1) Cg)) B v e := fun v e h =>
    lentD_other (lentD_other (lentD_other h g4 (fun r e => by cases e)) g3 (fun r e => by obtain ⟨cs, t, h, ht⟩ := t57 r e; exact ⟨cs, t, h, by rw [ht]; decide⟩)) gs (fun r e => by obtain ⟨cs, t, h, ht⟩ := t25 r e; exact ⟨cs, t, h, by rw [ht]; decide⟩)
  refine ⟨Ad, Cd, W1, r1, Ae, Ce, W3, r2, hcap, l3, w3, Ag, Cg, Z3, r3, l4, l5, w4, w5, below_setCell w5 hT _, l6, nd5.kept gs (own_other nd5 (fun r e => by obtain ⟨cs, t, h, ht⟩ := t25 r e; exact ⟨cs, t, h, by rw [ht]; decide⟩)), (fun k => if k = us.length then .slice Ae d.length Ce else D k), ?_, fun k hk => ?_⟩
  · rw [fcells_snoc D _ us ⟨md, d⟩ (fun i hi => by rw [if_neg (by omega)]), if_pos rfl]
    exact o3.kept gs (own_other o3 (fun r e => by obtain ⟨cs, t, h, ht⟩ := t25 r e; exact ⟨cs, t, h, by rw [ht]; decide⟩))
  · by_cases e : k = us.length
    · subst e
      have e2 : ((us ++ [(⟨md, d⟩ : Fl)]).getD us.length ⟨0, []⟩).data = d := by simp [List.getD_eq_getElem?_getD]
      show LentD _ B (if us.length = us.length then .slice Ae d.length Ce else D us.length) _
      rw [if_pos rfl, e2]
      exact dk _ _ lD
    · have hk' : k < us.length := by omega
      have e2 : (us ++ [(⟨md, d⟩ : Fl)]).getD k ⟨0, []⟩ = us.getD k ⟨0, []⟩ := by
        rw [List.getD_eq_getElem?_getD, List.getD_eq_getElem?_getD, List.getElem?_append_left hk']
      show LentD _ B (if k = us.length then .slice Ae d.length Ce else D k) _
      rw [if_neg e, e2]
      exact dk _ _ (d3 k hk')
/-- what stands behind a lent tree's nodes -/
def endN : Nd := ⟨[], -71, 0⟩
/-- a lent tree: one more behind each list -/
def LentAt (w : World) (NA : Option Addr) (nc : Nat) (FA : Option Addr) (fc : Nat) (ns : List Nd) (fs : List Fl) : Prop :=
  NodesAt w NA (ns ++ [endN]) ∧ ns.length + 1 ≤ nc ∧ fs.length + 1 ≤ fc ∧ ∃ g, FA = some ⟨g, 0, none⟩ ∧ g < w.heap.size ∧ w.cell? ⟨g, fs.length * 2, none⟩ = some (.int .i64 (-72)) ∧
    ∀ i (h : i < fs.length), ∃ DA dc, w.cell? ⟨g, i * 2, none⟩ = some (.int .i64 fs[i].mode) ∧ w.cell? ⟨g, i * 2 + 1, none⟩ = some (.slice DA fs[i].data.length dc) ∧ fs[i].data.length + 1 ≤ dc ∧ BytesAt w DA (fs[i].data ++ [167])
theorem lent_at {w : World} {B C1 C2 : Nat} {A1 A2 : Option Addr} {D : Nat → Value} {ns : List Nd} {fs : List Fl} (N : w.ownsRow B 60 3 (.slice A1 (ns.length + 1) C1) (ns.length + 1) (ncells (ns ++ [endN])))
    (O : w.ownsRow B 52 2 (.slice A2 (fs.length + 1) C2) (fs.length + 1) (fcells D fs ++ [.int .i64 (-72), .slice none 0 0])) (DD : ∀ k, k < fs.length → LentD w B (D k) (fs.getD k ⟨0, []⟩).data) : LentAt w A1 C1 A2 C2 ns fs := by
  have hl : (ns ++ [endN]).length = ns.length + 1 := by simp
  obtain ⟨A, C, e, hN, hc, _⟩ := own_nodes (us := ns ++ [endN]) (by rw [hl]; exact N)
  rw [hl] at e hc
  obtain ⟨rfl, rfl⟩ : A1 = A ∧ C1 = C := by injection e with h1 h2 h3; exact ⟨h1, h3⟩
  have hc2 := row_cap O
  obtain ⟨g, rfl⟩ := own_at O (by omega)
  obtain ⟨_, cs, hg⟩ := own_heap O g rfl
  refine ⟨hN, hc, hc2, g, rfl, (Array.getElem?_eq_some_iff.1 hg).1, ?_, fun i hi => ?_⟩
  · rw [O.cellAt _ (by omega), List.getElem?_append_right (by rw [fcells_len]; omega), fcells_len, Nat.sub_self]
    rfl
  · have e2 : fs.getD i ⟨0, []⟩ = fs[i] := by simp [List.getD_eq_getElem?_getD, List.getElem?_eq_getElem hi]
    obtain ⟨A, C, e, h⟩ := DD i hi
    rw [e2] at e h
    have h' : OwnB w B (.slice A (fs[i].data.length + 1) C) (fs[i].data ++ [167]) := by
      unfold OwnB
      rw [List.length_append]
      exact h
    obtain ⟨DA, dc, e3, hb⟩ := own_bytes h'
    obtain ⟨rfl, rfl⟩ : A = DA ∧ C = dc := by injection e3 with h1 h2 h3; exact ⟨h1, h3⟩
    refine ⟨A, C, ?_, ?_, row_cap h, hb⟩
    · rw [O.cellAt _ (by omega), List.getElem?_append_left (by rw [fcells_len]; omega), (fcells_at D fs i hi).1]
    · rw [O.cellAt _ (by omega), List.getElem?_append_left (by rw [fcells_len]; omega), (fcells_at D fs i hi).2, e]
section
variable {w w' : World} {NA FA : Option Addr} {nc fc : Nat} {ns : List Nd} {fs : List Fl}
theorem lent_below (h : LentAt w NA nc FA fc ns fs) (hb : Below w.heap.size w w') : LentAt w' NA nc FA fc ns fs := by
  obtain ⟨h1, h2, h3, g, e, hg, h4, h5⟩ := h
  refine ⟨nodesAt_below h1 hb, h2, h3, g, e, Nat.lt_of_lt_of_le hg hb.size, (hb.cell (p := ⟨g, fs.length * 2, none⟩) hg).trans h4, fun i hi => ?_⟩
  obtain ⟨DA, dc, a, b, c, d⟩ := h5 i hi
  exact ⟨DA, dc, (hb.cell (p := ⟨g, i * 2, none⟩) hg).trans a, (hb.cell (p := ⟨g, i * 2 + 1, none⟩) hg).trans b, c, bytesAt_below d hb⟩
theorem lent_nodes (h : LentAt w NA nc FA fc ns fs) : NodesAt w NA ns := fun i hi => by
  obtain ⟨b, o, e, hl, a, b', c⟩ := h.1 i (by simp; omega)
  rw [List.getElem_append_left hi] at a b' c
  exact ⟨b, o, e, hl, a, b', c⟩
theorem lent_files (h : LentAt w NA nc FA fc ns fs) : FilesAt w FA fs := fun i hi => by
  obtain ⟨_, _, _, g, e, hg, _, h5⟩ := h
  obtain ⟨DA, dc, a, b, _, d⟩ := h5 i hi
  refine ⟨g, 0, DA, dc, e, hg, by rw [Nat.zero_add]; exact a, by rw [Nat.zero_add]; exact b, fun k hk => ?_⟩
  obtain ⟨b2, o2, e2, hl, hc⟩ := d k (by simp; omega)
  rw [List.getElem_append_left hk] at hc
  exact ⟨b2, o2, e2, hl, hc⟩
end
end Go.Proofs.Ytiglakhfkgeefaa
set_option linter.unusedSimpArgs false
set_option linter.unusedVariables false
namespace Go.Proofs.Ytiglakhfkgeefaa
open Go.Pth Go.Tre Go.RowKit Go.Word Go.Shelf
section
variable {i j k : Nat} {A B C D : World} {l : Array Bool}
end
end Go.Proofs.Ytiglakhfkgeefaa
set_option linter.unusedSimpArgs false
set_option linter.unusedVariables false
namespace Go.Proofs.Ytiglakhfkgeefaa
open Go.Pth Go.Tre Go.RowKit Go.Word Go.Shelf
theorem below_grown {B : Nat} {a w w' : World} (h : Below B a w) (hB : B ≤ w.heap.size) (hg : w.grownBy w' none) : Below B a w' := h.grown hg hB (fun k e => by cases e)
set_option maxRecDepth 100000 in
set_option maxHeartbeats 8000000 in
theorem lent_any (NA FA : Option Addr) (nc fc : Nat) (ns : List Nd) (fs : List Fl) (w : World) (hN : NodesAt w NA ns) (hF : FilesAt w FA fs) (h1 : ns.length ≤ 1000) (h2 : fs.length ≤ 1000) (h3 : ∀ x ∈ fs, x.data.length ≤ 100000) :
    Calls Try.prog 11 #[.agg #[.slice NA ns.length nc, .slice FA fs.length fc]] w fun e w' => (∃ A1 c1 A2 c2, e = .returned (.agg #[.slice A1 ns.length c1, .slice A2 fs.length c2]) ∧ LentAt w' A1 c1 A2 c2 ns fs) ∧ Below w.heap.size w w' := by
  have L := lies_alloc (lies_new w 25 #[.slice NA ns.length nc, .slice FA fs.length fc]) (.cells #[.slice none 0 0, .slice none 0 0] 25)
  have hB : Below w.heap.size w ((w.alloc (.cells #[.slice NA ns.length nc, .slice FA fs.length fc] 25)).alloc (.cells #[.slice none 0 0, .slice none 0 0] 25)) := ((Below.refl _ _).alloc (Nat.le_refl _) _).alloc (by simp) _
  have L2 := lies_new (w.alloc (.cells #[.slice NA ns.length nc, .slice FA fs.length fc] 25)) 25 #[.slice none 0 0, .slice none 0 0]
  rw [World.size_alloc] at L2
  have HN := Lib.hid (nodesAt_below hN hB)
  have HF := Lib.hid (filesAt_below hF hB)
  have H3 := Lib.hid h3
  clear hN hF h3
  have x0 := lies_cell L 0
  have x1 := lies_cell L 1
  simp only [List.getElem?_toArray, List.getElem?_cons_zero, List.getElem?_cons_succ] at x0 x1
  have HB := Lib.hid hB
  have LX := Lib.hid L
  have LR := Lib.hid L2
  clear L L2 hB
  obtain ⟨n, hne⟩ : ∃ n, n = ns.length := ⟨_, rfl⟩
  obtain ⟨m, hme⟩ : ∃ m, m = fs.length := ⟨_, rfl⟩
  rw [← hne] at h1
  rw [← hme] at h2
  rw [← hne, ← hme] at x0 x1 LX HB HN HF LR
  rw [← hne, ← hme]
  have NE := Lib.hid hne
  have ME := Lib.hid hme
  clear hne hme
  go_enter Try.func11, Try.ntmps11
  go_upto_region 1 with (fail)
  generalize (w.alloc (.cells #[.slice NA n nc, .slice FA m fc] 25)).alloc (.cells #[.slice none 0 0, .slice none 0 0] 25) = X at *
  have after : ∀ W, Below X.heap.size X W → Hid (W.cell? ⟨w.heap.size, 0, none⟩ = some (.slice NA n nc) ∧ W.cell? ⟨w.heap.size, 1, none⟩ = some (.slice FA m fc)) := fun W hb =>
    Lib.hid ⟨(hb.cell (p := ⟨w.heap.size, 0, none⟩) (lies_lt LX.out)).trans x0, (hb.cell (p := ⟨w.heap.size, 1, none⟩) (lies_lt LX.out)).trans x1⟩
  have KF : ∀ (l : Array Bool) (p k : Nat) (u : Value) (W W' : World), p ≠ 5 → W.grownBy W' none → ((fun (l_ : Array Bool) (j_ : Nat) (v_ : Value) (W : World) => match j_ with | 0 => v_ = .pointer (some ⟨w.heap.size, 0, none⟩) | 1 => v_ = .slice NA n nc | 2 => (∃ A C, v_ = .slice A n C ∧ (l_.getD 5 false = false → W.ownsRow X.heap.size 60 3 v_ n (ncells ns))) | 3 => v_ = .agg #[.string { data := #[] }, .int .i64 (-71), .int .i64 0] | 4 => (∃ G, v_ = .slice (some ⟨G, 0, none⟩) 1 1 ∧ (l_.getD 5 false = false → Lies W G 60 #[St [], .int .i64 (-71), .int .i64 0])) | 5 => (∃ A C, v_ = .slice A (n + 1) C ∧ W.ownsRow X.heap.size 60 3 (.slice A (n + 1) C) (n + 1) (ncells (ns ++ [endN]))) | 6 => v_ = .pointer (some ⟨w.heap.size, 0, none⟩) | 7 => v_ = .slice NA n nc | 8 => v_ = .int .i64 (n : Int) | 9 => (∃ A C, v_ = .slice A n C ∧ W.ownsRow X.heap.size 60 3 (.slice A (n + 1) C) (n + 1) (ncells (ns ++ [endN]))) | 10 => (∃ A C, v_ = .agg #[.slice A n C, .slice none 0 0] ∧ W.ownsRow X.heap.size 60 3 (.slice A (n + 1) C) (n + 1) (ncells (ns ++ [endN]))) | 11 => (∃ T, v_ = .pointer (some ⟨T, 0, none⟩) ∧ Lies W T 25 #[.slice none 0 0, .slice none 0 0] ∧ X.heap.size ≤ T) | _ => True) : Array Bool → Nat → Value → World → Prop) l k u W → ((fun (l_ : Array Bool) (j_ : Nat) (v_ : Value) (W : World) => match j_ with | 0 => v_ = .pointer (some ⟨w.heap.size, 0, none⟩) | 1 => v_ = .slice NA n nc | 2 => (∃ A C, v_ = .slice A n C ∧ (l_.getD 5 false = false → W.ownsRow X.heap.size 60 3 v_ n (ncells ns))) | 3 => v_ = .agg #[.string { data := #[] }, .int .i64 (-71), .int .i64 0] | 4 => (∃ G, v_ = .slice (some ⟨G, 0, none⟩) 1 1 ∧ (l_.getD 5 false = false → Lies W G 60 #[St [], .int .i64 (-71), .int .i64 0])) | 5 => (∃ A C, v_ = .slice A (n + 1) C ∧ W.ownsRow X.heap.size 60 3 (.slice A (n + 1) C) (n + 1) (ncells (ns ++ [endN]))) | 6 => v_ = .pointer (some ⟨w.heap.size, 0, none⟩) | 7 => v_ = .slice NA n nc | 8 => v_ = .int .i64 (n : Int) | 9 => (∃ A C, v_ = .slice A n C ∧ W.ownsRow X.heap.size 60 3 (.slice A (n + 1) C) (n + 1) (ncells (ns ++ [endN]))) | 10 => (∃ A C, v_ = .agg #[.slice A n C, .slice none 0 0] ∧ W.ownsRow X.heap.size 60 3 (.slice A (n + 1) C) (n + 1) (ncells (ns ++ [endN]))) | 11 => (∃ T, v_ = .pointer (some ⟨T, 0, none⟩) ∧ Lies W T 25 #[.slice none 0 0, .slice none 0 0] ∧ X.heap.size ≤ T) | _ => True) : Array Bool → Nat → Value → World → Prop) (l.setIfInBounds p true) k u W' := fun l p k u W W' hp hg h => by
    have h5 : (l.setIfInBounds p true).getD 5 false = l.getD 5 false := by rw [getD_set_ne false hp]
    have kl : ∀ {g t cs}, Lies W g t cs → Lies W' g t cs := fun h => (hg.block _ (lies_lt h) (by simp)).trans h
    have ko : ∀ {B e z v k xs}, W.ownsRow B e z v k xs → W'.ownsRow B e z v k xs := fun {B e z v k xs} h => h.kept hg (by cases v.ownBlock <;> simp)
    match k, h with
    | 0, h => exact h
    | 1, h => exact h
    | 2, ⟨A, C, e, h⟩ => exact ⟨A, C, e, fun h6 => ko (h (by rw [← h5]; exact h6))⟩
    | 3, h => exact h
    | 4, ⟨G, e, h⟩ => exact ⟨G, e, fun h6 => kl (h (by rw [← h5]; exact h6))⟩
    | 5, ⟨A, C, e, h⟩ => exact ⟨A, C, e, ko h⟩
    | 6, h => exact h
    | 7, h => exact h
    | 8, h => exact h
    | 9, ⟨A, C, e, h⟩ => exact ⟨A, C, e, ko h⟩
    | 10, ⟨A, C, e, h⟩ => exact ⟨A, C, e, ko h⟩
    | 11, ⟨T, e, h, h'⟩ => exact ⟨T, e, kl h, h'⟩
    | _ + 12, _ => exact trivial
  have gr : ∀ W : World, W.grownBy W none := fun W => ⟨rfl, rfl, rfl, Nat.le_refl _, fun _ _ _ => rfl⟩
  have KP := fun (l : Array Bool) (p : Nat) (W : World) (hp : p ≠ 5) => fun (k : Nat) (u : Value) (_ : k ≠ p) (_ : l.getD k false = true) (h : ((fun (l_ : Array Bool) (j_ : Nat) (v_ : Value) (W : World) => match j_ with | 0 => v_ = .pointer (some ⟨w.heap.size, 0, none⟩) | 1 => v_ = .slice NA n nc | 2 => (∃ A C, v_ = .slice A n C ∧ (l_.getD 5 false = false → W.ownsRow X.heap.size 60 3 v_ n (ncells ns))) | 3 => v_ = .agg #[.string { data := #[] }, .int .i64 (-71), .int .i64 0] | 4 => (∃ G, v_ = .slice (some ⟨G, 0, none⟩) 1 1 ∧ (l_.getD 5 false = false → Lies W G 60 #[St [], .int .i64 (-71), .int .i64 0])) | 5 => (∃ A C, v_ = .slice A (n + 1) C ∧ W.ownsRow X.heap.size 60 3 (.slice A (n + 1) C) (n + 1) (ncells (ns ++ [endN]))) | 6 => v_ = .pointer (some ⟨w.heap.size, 0, none⟩) | 7 => v_ = .slice NA n nc | 8 => v_ = .int .i64 (n : Int) | 9 => (∃ A C, v_ = .slice A n C ∧ W.ownsRow X.heap.size 60 3 (.slice A (n + 1) C) (n + 1) (ncells (ns ++ [endN]))) | 10 => (∃ A C, v_ = .agg #[.slice A n C, .slice none 0 0] ∧ W.ownsRow X.heap.size 60 3 (.slice A (n + 1) C) (n + 1) (ncells (ns ++ [endN]))) | 11 => (∃ T, v_ = .pointer (some ⟨T, 0, none⟩) ∧ Lies W T 25 #[.slice none 0 0, .slice none 0 0] ∧ X.heap.size ≤ T) | _ => True) : Array Bool → Nat → Value → World → Prop) l k u W) => KF l p k u W W hp (gr W) h
  refine wp_region_any (by kernel_rfl) ?_
  refine every_factl (own := ownAll _) id 12 ((fun (l_ : Array Bool) (j_ : Nat) (v_ : Value) (W : World) => match j_ with | 0 => v_ = .pointer (some ⟨w.heap.size, 0, none⟩) | 1 => v_ = .slice NA n nc | 2 => (∃ A C, v_ = .slice A n C ∧ (l_.getD 5 false = false → W.ownsRow X.heap.size 60 3 v_ n (ncells ns))) | 3 => v_ = .agg #[.string { data := #[] }, .int .i64 (-71), .int .i64 0] | 4 => (∃ G, v_ = .slice (some ⟨G, 0, none⟩) 1 1 ∧ (l_.getD 5 false = false → Lies W G 60 #[St [], .int .i64 (-71), .int .i64 0])) | 5 => (∃ A C, v_ = .slice A (n + 1) C ∧ W.ownsRow X.heap.size 60 3 (.slice A (n + 1) C) (n + 1) (ncells (ns ++ [endN]))) | 6 => v_ = .pointer (some ⟨w.heap.size, 0, none⟩) | 7 => v_ = .slice NA n nc | 8 => v_ = .int .i64 (n : Int) | 9 => (∃ A C, v_ = .slice A n C ∧ W.ownsRow X.heap.size 60 3 (.slice A (n + 1) C) (n + 1) (ncells (ns ++ [endN]))) | 10 => (∃ A C, v_ = .agg #[.slice A n C, .slice none 0 0] ∧ W.ownsRow X.heap.size 60 3 (.slice A (n + 1) C) (n + 1) (ncells (ns ++ [endN]))) | 11 => (∃ T, v_ = .pointer (some ⟨T, 0, none⟩) ∧ Lies W T 25 #[.slice none 0 0, .slice none 0 0] ∧ X.heap.size ≤ T) | _ => True) : Array Bool → Nat → Value → World → Prop) (fun W => Below X.heap.size X W) (acAll_of (by kernel_rfl)) (onAll_of (by kernel_rfl)) (dstAll_of (by kernel_rfl)) ?hop ?hall ?hl (by decide) _ _ _ _ (fun _ => undef) rfl (shut_none _) (rep_false _ _) (of_decide_eq_true (by kernel_rfl)) (tabd_start (fun i => rep_false _ i)) (fun k hk => by rw [rep_false] at hk; cases hk) ((Below.refl X.heap.size X).drew)
  case hop =>
    intro j oi a w0 listed vals hoi hjl hsz hcl hun hdeps ht hF hI
    have hj : j < 13 := (Array.getElem?_eq_some_iff.1 hoi).1
    have cj : j = 0 ∨ j = 1 ∨ j = 2 ∨ j = 3 ∨ j = 4 ∨ j = 5 ∨ j = 6 ∨ j = 7 ∨ j = 8 ∨ j = 9 ∨ j = 10 ∨ j = 11 := by omega
    have u9 : listed.getD 9 false = true → listed.getD 5 false = true := fun h => hcl 9 _ rfl h ⟨5, .data⟩ (by simp) rfl
    have u10 : listed.getD 10 false = true → listed.getD 5 false = true := fun h => u9 (hcl 10 _ rfl h ⟨9, .data⟩ (by simp) rfl)
    have sz : listed.size = 13 := hsz
    clear hcl
    obtain rfl | rfl | rfl | rfl | rfl | rfl | rfl | rfl | rfl | rfl | rfl | rfl := cj
    all_goals obtain rfl := Option.some.inj hoi
    · have e1 : a.eval (.tmp 1) = .pointer (some ⟨w.heap.size, 0, none⟩) := (tabd_old ht (t := 1) (of_decide_eq_true (by kernel_rfl)) (by kernel_rfl)).trans rfl
      exact ⟨rfl, fun K hk => wp_val (v := .pointer (some ⟨w.heap.size, 0, none⟩)) (by clear hk hI hoi hdeps ht hF KF KP; generalize a.eval = ρ at *; unfold execOp; simp only [e1]; go_simp) (hk _ _ rfl (KP listed 0 w0 (by decide)) hI)⟩
    · have d0 := hdeps ⟨0, .data⟩ (by simp) rfl
      have e6 : a.eval (.tmp 6) = .pointer (some ⟨w.heap.size, 0, none⟩) := (tabd_at ht (t := 6) (of_decide_eq_true (by kernel_rfl)) (by kernel_rfl) d0).trans (hF 0 d0)
      exact ⟨rfl, fun K hk => wp_val (v := .slice NA n nc) (by have hc := (after _ hI).out.1; clear hk hI hoi hdeps ht hF KF KP; generalize a.eval = ρ at *; unfold execOp; simp only [e6]; go_simp) (hk _ _ rfl (KP listed 1 w0 (by decide)) hI)⟩
    · have d1 := hdeps ⟨1, .data⟩ (by simp) rfl
      have e7 : a.eval (.tmp 7) = .slice NA n nc := (tabd_at ht (t := 7) (of_decide_eq_true (by kernel_rfl)) (by kernel_rfl) d1).trans (hF 1 d1)
      refine ⟨rfl, fun K hk => ?_⟩
      obtain ⟨v, w1, hr, ho, hg⟩ := run_app_nodes w0 22 NA nc ns (nodesAt_below HN.out hI) (by have := NE.out; omega)
      rw [← NE.out] at hr ho
      obtain ⟨A, C, rfl⟩ := own_slice ho
      exact wp_valT (w' := w1) (app_op _ _ rfl rfl e7 hr) (hk _ w1 ⟨A, C, rfl, fun _ => World.ownsRow.mono ho hI.size⟩ (fun k u _ _ h => KF listed 2 k u w0 w1 (by decide) hg h) (below_grown hI hI.size hg))
    · exact ⟨rfl, fun K hk => wp_val (v := .agg #[.string { data := #[] }, .int .i64 (-71), .int .i64 0]) (by clear hk hI hoi hdeps ht hF KF KP; generalize a.eval = ρ at *; unfold execOp; simp only [St]; go_simp; kernel_rfl) (hk _ _ rfl (KP listed 3 w0 (by decide)) hI)⟩
    · have d3 := hdeps ⟨3, .data⟩ (by simp) rfl
      have e9 : a.eval (.tmp 9) = .agg #[.string { data := #[] }, .int .i64 (-71), .int .i64 0] := (tabd_at ht (t := 9) (of_decide_eq_true (by kernel_rfl)) (by kernel_rfl) d3).trans (hF 3 d3)
      refine ⟨rfl, fun K hk => ?_⟩
      obtain ⟨i1, hj1_, hj0, hj1, hj2⟩ := info_parts node_info3
      exact wp_buildSlice 22 60 1 _ rfl #[St [], .int .i64 (-71), .int .i64 0] i1 _ Try.underlying22 hj1_ hj0 (by rw [hj1]; decide) (by rw [hj1]; decide) (by rw [hj1]; simp only [List.map_toArray, List.map_cons, List.map_nil, e9]; kernel_rfl) (hk _ _ ⟨w0.heap.size, rfl, fun _ => lies_new w0 60 #[St [], .int .i64 (-71), .int .i64 0]⟩ (fun k u _ _ h => KF listed 4 k u w0 _ (by decide) (World.grownBy_alloc w0 _ none) h) (hI.alloc hI.size _))
    · have d2 := hdeps ⟨2, .data⟩ (by simp) rfl
      have d4 := hdeps ⟨4, .data⟩ (by simp) rfl
      have f2 := hF 2 d2
      have e8 : a.eval (.tmp 8) = vals 2 := tabd_at ht (t := 8) (of_decide_eq_true (by kernel_rfl)) (by kernel_rfl) d2
      have f4 := hF 4 d4
      have e10 : a.eval (.tmp 10) = vals 4 := tabd_at ht (t := 10) (of_decide_eq_true (by kernel_rfl)) (by kernel_rfl) d4
      refine ⟨rfl, fun K hk => ?_⟩
      obtain ⟨A, C, e2, h2⟩ := f2
      obtain ⟨G, e4, h4⟩ := f4
      have ho := h2 hun
      rw [e2] at ho
      have hl := h4 hun
      have hx : NodesAt w0 (some ⟨G, 0, none⟩) [endN] := fun i hi => by
        obtain rfl : i = 0 := by simpa using hi
        exact ⟨G, 0, rfl, lies_lt hl, lies_cell hl 0, lies_cell hl 1, lies_cell hl 2⟩
      obtain ⟨v, w1, hr, h6, hg⟩ := run_app_row w0 22 X.heap.size (.slice A n C) ns [endN] (some ⟨G, 0, none⟩) 1 (by rw [← NE.out]; exact ho) hx hI.size (by have := NE.out; omega) (by simp) (fun e => by cases e)
      rw [List.length_append, ← NE.out] at h6
      obtain ⟨A3, C3, rfl⟩ := own_slice h6
      refine wp_valT (w' := w1) (app_op _ _ rfl (e8.trans e2) (e10.trans e4) hr) (hk _ w1 ⟨A3, C3, rfl, h6⟩ (fun k u hk5 hkl h => ?_) (hI.grown hg hI.size (fun k e => (own_heap ho k e).1)))
      have s5 : (listed.setIfInBounds 5 true).getD 5 false = true := getD_here (by omega)
      match k, hk5, hkl, h with
      | 0, _, _, h => exact h
      | 1, _, _, h => exact h
      | 2, _, _, ⟨A, C, e, h⟩ => exact ⟨A, C, e, fun h6 => by rw [s5] at h6; cases h6⟩
      | 3, _, _, h => exact h
      | 4, _, _, ⟨G, e, h⟩ => exact ⟨G, e, fun h6 => by rw [s5] at h6; cases h6⟩
      | 5, h5, _, _ => exact absurd rfl h5
      | 6, _, _, h => exact h
      | 7, _, _, h => exact h
      | 8, _, _, h => exact h
      | 9, _, hkl, _ => exact absurd (u9 hkl) (by simp [hun])
      | 10, _, hkl, _ => exact absurd (u10 hkl) (by simp [hun])
      | 11, _, _, ⟨T, e, h, h'⟩ =>
        refine ⟨T, e, (hg.block T (lies_lt h) (fun e => ?_)).trans h, h'⟩
        obtain ⟨_, cs, h7⟩ := own_heap ho T e.symm
        rw [show _ = _ from h] at h7
        injection h7 with h7
        injection h7 with _ h7 _
        cases h7
      | _ + 12, _, _, _ => exact trivial
    · have e1 : a.eval (.tmp 1) = .pointer (some ⟨w.heap.size, 0, none⟩) := (tabd_old ht (t := 1) (of_decide_eq_true (by kernel_rfl)) (by kernel_rfl)).trans rfl
      exact ⟨rfl, fun K hk => wp_val (v := .pointer (some ⟨w.heap.size, 0, none⟩)) (by clear hk hI hoi hdeps ht hF KF KP; generalize a.eval = ρ at *; unfold execOp; simp only [e1]; go_simp) (hk _ _ rfl (KP listed 6 w0 (by decide)) hI)⟩
    · have d6 := hdeps ⟨6, .data⟩ (by simp) rfl
      have e12 : a.eval (.tmp 12) = .pointer (some ⟨w.heap.size, 0, none⟩) := (tabd_at ht (t := 12) (of_decide_eq_true (by kernel_rfl)) (by kernel_rfl) d6).trans (hF 6 d6)
      exact ⟨rfl, fun K hk => wp_val (v := .slice NA n nc) (by have hc := (after _ hI).out.1; clear hk hI hoi hdeps ht hF KF KP; generalize a.eval = ρ at *; unfold execOp; simp only [e12]; go_simp) (hk _ _ rfl (KP listed 7 w0 (by decide)) hI)⟩
    · have d7 := hdeps ⟨7, .data⟩ (by simp) rfl
      have e13 : a.eval (.tmp 13) = .slice NA n nc := (tabd_at ht (t := 13) (of_decide_eq_true (by kernel_rfl)) (by kernel_rfl) d7).trans (hF 7 d7)
      exact ⟨rfl, fun K hk => wp_val (v := .int .i64 (n : Int)) (by clear hk hI hoi hdeps ht hF KF KP; generalize a.eval = ρ at *; unfold execOp; simp only [e13]; go_simp) (hk _ _ rfl (KP listed 8 w0 (by decide)) hI)⟩
    · have d5 := hdeps ⟨5, .data⟩ (by simp) rfl
      have d8 := hdeps ⟨8, .data⟩ (by simp) rfl
      have f5 := hF 5 d5
      have e11 : a.eval (.tmp 11) = vals 5 := tabd_at ht (t := 11) (of_decide_eq_true (by kernel_rfl)) (by kernel_rfl) d5
      have e14 : a.eval (.tmp 14) = .int .i64 (n : Int) := (tabd_at ht (t := 14) (of_decide_eq_true (by kernel_rfl)) (by kernel_rfl) d8).trans (hF 8 d8)
      refine ⟨rfl, fun K hk => ?_⟩
      obtain ⟨A, C, e5, h5⟩ := f5
      have hcap : n + 1 ≤ C := by
        rcases h5.2 with ⟨_, h0⟩ | ⟨_, cap, _, e, _, _, h1, _⟩
        · omega
        · injection e with _ _ e
          omega
      have hc := cut_to A (n + 1) C n (by omega) w0
      exact wp_val (v := .slice A n C) (by clear hk hI hoi hdeps ht hF KF KP; rw [e5] at e11; generalize a.eval = ρ at *; unfold execOp; simp only [e11, e14]; go_simp) (hk _ _ ⟨A, C, rfl, h5⟩ (KP listed 9 w0 (by decide)) hI)
    · have d9 := hdeps ⟨9, .data⟩ (by simp) rfl
      have f9 := hF 9 d9
      have e15 : a.eval (.tmp 15) = vals 9 := tabd_at ht (t := 15) (of_decide_eq_true (by kernel_rfl)) (by kernel_rfl) d9
      refine ⟨rfl, fun K hk => ?_⟩
      obtain ⟨A, C, e9, h9⟩ := f9
      exact wp_val (v := .agg #[.slice A n C, .slice none 0 0]) (by clear hk hI hoi hdeps ht hF KF KP; rw [e9] at e15; generalize a.eval = ρ at *; unfold execOp; simp only [e15]; go_simp) (hk _ _ ⟨A, C, rfl, h9⟩ (KP listed 10 w0 (by decide)) hI)
    · refine ⟨rfl, fun K hk => ?_⟩
      refine wp_valT (v := .pointer (some ⟨w0.heap.size, 0, none⟩)) (w' := w0.alloc (.cells #[.slice none 0 0, .slice none 0 0] 25)) (by
        clear hk hI hoi hdeps ht hF KF KP
        generalize a.eval = ρ at *
        unfold execOp
        go_simp) ?_
      exact hk _ _ ⟨w0.heap.size, rfl, lies_new w0 25 _, hI.size⟩ (fun k u _ _ h => KF listed 11 k u w0 _ (by decide) (World.grownBy_alloc w0 _ none) h) (hI.alloc hI.size _)
  case hall =>
    intro listed hcl h i hi hne
    have hi : i < 13 := hi
    have ci : i = 0 ∨ i = 1 ∨ i = 2 ∨ i = 3 ∨ i = 4 ∨ i = 5 ∨ i = 6 ∨ i = 7 ∨ i = 8 ∨ i = 9 ∨ i = 10 ∨ i = 11 := by omega
    obtain rfl | rfl | rfl | rfl | rfl | rfl | rfl | rfl | rfl | rfl | rfl | rfl := ci
    · exact h _ rfl ⟨0, .phase⟩ (by simp) rfl
    · exact h _ rfl ⟨1, .phase⟩ (by simp) rfl
    · exact h _ rfl ⟨2, .phase⟩ (by simp) rfl
    · exact h _ rfl ⟨3, .phase⟩ (by simp) rfl
    · exact h _ rfl ⟨4, .phase⟩ (by simp) rfl
    · exact h _ rfl ⟨5, .phase⟩ (by simp) rfl
    · exact h _ rfl ⟨6, .phase⟩ (by simp) rfl
    · exact h _ rfl ⟨7, .phase⟩ (by simp) rfl
    · exact h _ rfl ⟨8, .phase⟩ (by simp) rfl
    · exact h _ rfl ⟨9, .phase⟩ (by simp) rfl
    · exact h _ rfl ⟨10, .data⟩ (by simp) rfl
    · exact h _ rfl ⟨11, .data⟩ (by simp) rfl
  case hl =>
    intro a w0 listed vals ol hoi hall hdeps hun ht hF hI
    obtain rfl := Option.some.inj hoi
    have g0 : vals 0 = .pointer (some ⟨w.heap.size, 0, none⟩) := hF 0 (by decide) (by decide)
    have g1 : vals 1 = .slice NA n nc := hF 1 (by decide) (by decide)
    have g2 := hF 2 (by decide) (by decide)
    have g3 : vals 3 = .agg #[.string { data := #[] }, .int .i64 (-71), .int .i64 0] := hF 3 (by decide) (by decide)
    have g4 := hF 4 (by decide) (by decide)
    have g5 := hF 5 (by decide) (by decide)
    have g6 : vals 6 = .pointer (some ⟨w.heap.size, 0, none⟩) := hF 6 (by decide) (by decide)
    have g7 : vals 7 = .slice NA n nc := hF 7 (by decide) (by decide)
    have g8 : vals 8 = .int .i64 (n : Int) := hF 8 (by decide) (by decide)
    have g9 := hF 9 (by decide) (by decide)
    have g10 := hF 10 (by decide) (by decide)
    have g11 := hF 11 (by decide) (by decide)
    obtain ⟨T, e11, l11, hT⟩ := g11
    obtain ⟨A1, C1, e10, o10⟩ := g10
    have e3 : a.eval (.tmp 3) = vals 11 := tabd_at ht (t := 3) (of_decide_eq_true (by kernel_rfl)) (by kernel_rfl) (hall 11 (by decide) (by decide))
    have e16 : a.eval (.tmp 16) = vals 10 := tabd_at ht (t := 16) (of_decide_eq_true (by kernel_rfl)) (by kernel_rfl) (hall 10 (by decide) (by decide))
    refine ⟨rfl, fun K hk => wp_store_row 25 _ _ rfl T #[.slice A1 n C1, .slice none 0 0] (e3.trans e11) (e16.trans e10) 25 _ l11 (by kernel_rfl) rfl (by simp [Value.oneCell']) (hk _ _ ?_)⟩
    have ha := tabd_fill ht (fun t i ho => hall i (ownAll_lt ho) (fun e => by subst e; have h9 : (none : Option Nat) = some t := ownAll_spec ho; cases h9))
    subst ha
    change Exit.then _ _ Exit.normal { tmps := (.agg #[.slice NA n nc, .slice FA m fc] :: .pointer (some ⟨w.heap.size, 0, none⟩) :: .pointer (some ⟨w.heap.size + 1, 0, none⟩) :: vals 11 :: undef :: undef :: vals 0 :: vals 1 :: vals 2 :: vals 3 :: vals 4 :: vals 5 :: vals 6 :: vals 7 :: vals 8 :: vals 9 :: vals 10 :: undef :: undef :: undef :: undef :: undef :: undef :: undef :: undef :: undef :: undef :: undef :: undef :: undef :: undef :: undef :: undef :: undef :: undef :: undef :: undef :: undef :: undef :: undef :: undef :: undef :: undef :: undef :: undef :: undef :: undef :: undef :: undef :: undef :: undef :: undef :: undef :: undef :: undef :: undef :: undef :: undef :: undef :: undef :: undef :: []).toArray, defers := [] } _
    rw [e11]
    have L0 := Lib.hid (lies_setRow l11 #[.slice A1 n C1, .slice none 0 0])
    have O0 := Lib.hid (o10.kept (grown_setRow w0 T #[.slice A1 n C1, .slice none 0 0]) (own_other o10 (fun r e => by injection e with e; subst e; exact ⟨_, 25, l11, by decide⟩)))
    have B0 := Lib.hid (below_setRow hI hT #[.slice A1 n C1, .slice none 0 0])
    have ZT := Lib.hid hT
    clear e3 e16 g0 g1 g2 g3 g4 g5 g6 g7 g8 g9 e10 e11 l11 o10 hI hT hF hun hdeps hall KF KP gr ht
    generalize vals 2 = y2
    generalize vals 3 = y3
    generalize vals 4 = y4
    generalize vals 5 = y5
    generalize vals 9 = y9
    generalize vals 10 = y10
    generalize vals 0 = y0
    generalize vals 1 = y1
    generalize vals 6 = y6
    generalize vals 7 = y7
    generalize vals 8 = y8
    generalize w0.setRow T #[.slice A1 n C1, .slice none 0 0] = W1 at *
    go_wp2
    go_loopw [4] (fun v4 wr => ∃ i : Nat, i ≤ m ∧ v4 = .int .i64 (i : Int) ∧ (∃ vF D, Lies wr T 25 #[.slice A1 n C1, vF] ∧ wr.ownsRow X.heap.size 60 3 (.slice A1 (n + 1) C1) (n + 1) (ncells (ns ++ [endN])) ∧ wr.ownsRow X.heap.size 52 2 vF i (fcells D (fs.take i)) ∧ ∀ k, k < i → LentD wr X.heap.size (D k) ((fs.take i).getD k ⟨0, []⟩).data) ∧ Below X.heap.size X wr) (fun v4 _ => m - (intOf v4).toNat)
    case atStart => exact ⟨0, Nat.zero_le _, rfl, ⟨.slice none 0 0, fun _ => undef, L0.out, O0.out, World.ownsRow_nil _ _ _ _, fun k hk => absurd hk (by omega)⟩, B0.out⟩
    case round =>
      obtain ⟨i, hi, rfl, ⟨vF, D, hL, hN, hFr, hD⟩, hb⟩ := hrel
      have HL := Lib.hid hL
      have HNR := Lib.hid hN
      have HFR := Lib.hid hFr
      have HD := Lib.hid hD
      have HW := Lib.hid hb
      clear hL hN hFr hD hb L0 O0 B0
      obtain ⟨q0, q1⟩ := (after _ HW.out).out
      have t0 := lies_cell HL.out 0
      have t1 := lies_cell HL.out 1
      simp only [List.getElem?_toArray, List.getElem?_cons_zero, List.getElem?_cons_succ] at t0 t1
      by_cases hlt : i < m
      · have li : (i : Int) < (m : Int) := by omega
        have lf : i < fs.length := by have := ME.out; omega
        obtain ⟨b, o, DA, dc, eA, hl, d1, d2, d3⟩ := HF.out i lf
        subst eA
        have dl := H3.out fs[i] (List.getElem_mem _)
        have TS := Lib.hid (List.take_succ_eq_append_getElem lf)
        have lt : (fs.take i).length = i := by rw [List.length_take]; omega
        generalize fs[i] = x at *
        obtain ⟨md, d⟩ := x
        have dl : d.length ≤ 100000 := dl
        have d1 : X.cell? ⟨b, o + i * 2, none⟩ = some (.int .i64 md) := d1
        have d2 : X.cell? ⟨b, o + i * 2 + 1, none⟩ = some (.slice DA d.length dc) := d2
        have d3 : BytesAt X DA d := d3
        have st := lent_step (us := fs.take i) HNR.out HL.out (by rw [lt]; exact HFR.out) (by rw [lt]; exact HD.out) HW.out.size ZT.out DA dc d md (bytesAt_below d3 HW.out) dl (by omega)
        rw [lt, ← TS.out] at st
        obtain ⟨Ad, Cd, W1, r1, Ae, Ce, W3, r2, hcap, l3, w3, Ag, Cg, Z3, r3, l4, l5, w4, w5, w6, l6, nd6, D', fr6, dd6⟩ := st
        have c1 := (HW.out.cell (p := ⟨b, o + i * 2, none⟩) hl).trans d1
        have c2 := (HW.out.cell (p := ⟨b, o + i * 2 + 1, none⟩) hl).trans d2
        have R1 := Lib.hid r1
        have R2 := Lib.hid r2
        have D1 := Lib.hid d1
        have HBL := Lib.hid hl
        obtain ⟨dn, hdn⟩ : ∃ dn, dn = d.length := ⟨_, rfl⟩
        rw [← hdn] at c2 r2 r3 l4 w4 R1 R2 hcap dl
        clear hdn
        go_upto_region 6 with (first
          | (refine wpList_app_run rfl _ _ rfl rfl rfl R1.out ?_)
          | (refine wpList_app_run rfl _ _ rfl rfl rfl R2.out ?_))
        clear q0 q1 t0 t1 c1 c2
        have bb : ∀ W', Below X.heap.size wr W' → Below X.heap.size X W' := fun W' h => HW.out.trans h
        have BA := Lib.hid (fun (l : Array Bool) => stc_all (i := 14) (j := 15) (k := 17) (l := l) (Below X.heap.size X) (bb _ w3).drew (bb _ w4) (bb _ w5) (fun _ => bb _ w6))
        have F3 := Lib.hid (fun (l : Array Bool) (_ : l.getD 17 false = false) => ((BA.out l).cell (p := ⟨w.heap.size, 1, none⟩) (lies_lt LX.out)).trans x1)
        have FC1 := Lib.hid (fun (l : Array Bool) (_ : l.getD 17 false = false) => ((BA.out l).cell (p := ⟨b, o + i * 2, none⟩) HBL.out).trans D1.out)
        have FY := Lib.hid (fun (l : Array Bool) (hu : l.getD 17 false = false) => stc_all (i := 14) (j := 15) (k := 17) (A := W3.drew) (B := W3.drew.alloc (.cells #[.int .i64 md, .slice Ae dn Ce] 52)) (C := Z3) (D := Z3.setCell ⟨T, 1, none⟩ (.slice Ag (i + 1) Cg)) (l := l) (fun W => W.cell? ⟨T, 1, none⟩ = some vF) (lies_cell (lies_drew l3) 1) (lies_cell l4 1) (lies_cell l5 1) (fun h => by rw [hu] at h; cases h))
        have R3 := Lib.hid r3
        have L5 := Lib.hid l5
        have L6 := Lib.hid l6
        have N6 := Lib.hid nd6
        have FR6 := Lib.hid fr6
        have DD6 := Lib.hid dd6
        have W6 := Lib.hid (bb _ w6)
        have CT := Lib.hid (cutb_to Ae (dn + 1) Ce dn (by omega))
        have hcut := CT.out
        have hw1 : IntKind.i64.wrap ((dn : Int) + 1 - 1) = (dn : Int) := by rw [wrap_i64]; omega
        obtain ⟨i1, hj1_, hj0, hj1, hj2⟩ := info_parts file_info2
        clear r1 r2 r3 l3 w3 l4 l5 w4 w5 w6 l6 nd6 fr6 dd6 bb BA d1 d2 d3 hl R1 R2 HL HFR HD HNR CT
        refine wp_region_any (by kernel_rfl) ?_
        refine every_at (own := ownAll _) (vals := fun k_ => match k_ with | 0 => .pointer (some ⟨T, 1, none⟩) | 1 => vF | 2 => .pointer (some ⟨w.heap.size, 1, none⟩) | 3 => .slice (some ⟨b, o, none⟩) m fc | 4 => .int .i64 (i : Int) | 5 => .pointer (some ⟨b, o + i * 2, none⟩) | 6 => .pointer (some ⟨b, o + i * 2, none⟩) | 7 => .int .i64 md | 8 => .slice Ae (dn + 1) Ce | 9 => .slice Ae (dn + 1) Ce | 10 => .int .i64 ((dn : Int) + 1) | 11 => .int .i64 (dn : Int) | 12 => .slice Ae dn Ce | 13 => .agg #[.int .i64 md, .slice Ae dn Ce] | 14 => .slice (some ⟨W3.heap.size, 0, none⟩) 1 1 | 15 => .slice Ag (i + 1) Cg | 16 => .pointer (some ⟨T, 1, none⟩) | 17 => undef | _ => undef) id (fun l W => W = (Stc 14 15 17 (W3.drew) (W3.drew.alloc (.cells #[.int .i64 md, .slice Ae dn Ce] 52)) (Z3) (Z3.setCell ⟨T, 1, none⟩ (.slice Ag (i + 1) Cg))) l) (acAll_of (by kernel_rfl)) (onAll_of (by kernel_rfl)) (dstAll_of (by kernel_rfl)) ?hop ?hend _ _ _ _ rfl (shut_none _) (of_decide_eq_true (by kernel_rfl)) (tabd_start (fun i => rep_false _ i)) rfl
        case hop =>
          intro x oi a w0 listed hoi hun hsz hcl hdeps ht hI
          have hx : x < 18 := (Array.getElem?_eq_some_iff.1 hoi).1
          have cx : x = 0 ∨ x = 1 ∨ x = 2 ∨ x = 3 ∨ x = 4 ∨ x = 5 ∨ x = 6 ∨ x = 7 ∨ x = 8 ∨ x = 9 ∨ x = 10 ∨ x = 11 ∨ x = 12 ∨ x = 13 ∨ x = 14 ∨ x = 15 ∨ x = 16 ∨ x = 17 := by omega
          have sz : listed.size = 18 := hsz
          have uj : listed.getD 15 false = true → listed.getD 14 false = true := fun h => hcl 15 _ rfl h ⟨14, .data⟩ (by simp) rfl
          have uk : listed.getD 17 false = true → listed.getD 15 false = true := fun h => hcl 17 _ rfl h ⟨15, .data⟩ (by simp) rfl
          have ul1 : listed.getD 17 false = true → listed.getD 1 false = true := fun h => hcl 17 _ rfl h ⟨1, .phase⟩ (by simp) rfl
          have ul3 : listed.getD 17 false = true → listed.getD 3 false = true := fun h => hcl 17 _ rfl h ⟨3, .phase⟩ (by simp) rfl
          have ul7 : listed.getD 17 false = true → listed.getD 7 false = true := fun h => hcl 17 _ rfl h ⟨7, .phase⟩ (by simp) rfl
          clear hcl
          obtain rfl | rfl | rfl | rfl | rfl | rfl | rfl | rfl | rfl | rfl | rfl | rfl | rfl | rfl | rfl | rfl | rfl | rfl := cx
          all_goals obtain rfl := Option.some.inj hoi
          · have e3 : a.eval (.tmp 3) = .pointer (some ⟨T, 0, none⟩) := (tabd_old ht (t := 3) (of_decide_eq_true (by kernel_rfl)) (by kernel_rfl)).trans rfl
            exact .inl ⟨rfl, fun K hk => wp_val (v := .pointer (some ⟨T, 1, none⟩)) (by generalize a.eval = ρ at *; unfold execOp; simp only [e3]; go_simp) (hk _ (hI.trans (stc_keep (by decide) (by decide) (by decide)).symm))⟩
          · have d0 := hdeps ⟨0, .data⟩ (by simp) rfl
            have e33 : a.eval (.tmp 33) = .pointer (some ⟨T, 1, none⟩) := tabd_at ht (t := 33) (of_decide_eq_true (by kernel_rfl)) (by kernel_rfl) d0
            have h : w0.cell? ⟨T, 1, none⟩ = some (vF) := by rw [hI]; exact FY.out listed (no_of ul1 (by simp [hun]))
            exact .inl ⟨rfl, fun K hk => wp_val (v := vF) (by clear hk hI hoi hdeps ht; generalize a.eval = ρ at *; unfold execOp; simp only [e33]; go_simp) (hk _ (hI.trans (stc_keep (by decide) (by decide) (by decide)).symm))⟩
          · have e1 : a.eval (.tmp 1) = .pointer (some ⟨w.heap.size, 0, none⟩) := (tabd_old ht (t := 1) (of_decide_eq_true (by kernel_rfl)) (by kernel_rfl)).trans rfl
            exact .inl ⟨rfl, fun K hk => wp_val (v := .pointer (some ⟨w.heap.size, 1, none⟩)) (by generalize a.eval = ρ at *; unfold execOp; simp only [e1]; go_simp) (hk _ (hI.trans (stc_keep (by decide) (by decide) (by decide)).symm))⟩
          · have d2 := hdeps ⟨2, .data⟩ (by simp) rfl
            have e35 : a.eval (.tmp 35) = .pointer (some ⟨w.heap.size, 1, none⟩) := tabd_at ht (t := 35) (of_decide_eq_true (by kernel_rfl)) (by kernel_rfl) d2
            have h : w0.cell? ⟨w.heap.size, 1, none⟩ = some (.slice (some ⟨b, o, none⟩) m fc) := by rw [hI]; exact F3.out listed (no_of ul3 (by simp [hun]))
            exact .inl ⟨rfl, fun K hk => wp_val (v := .slice (some ⟨b, o, none⟩) m fc) (by clear hk hI hoi hdeps ht; generalize a.eval = ρ at *; unfold execOp; simp only [e35]; go_simp) (hk _ (hI.trans (stc_keep (by decide) (by decide) (by decide)).symm))⟩
          · have e4 : a.eval (.tmp 4) = .int .i64 (i : Int) := (tabd_old ht (t := 4) (of_decide_eq_true (by kernel_rfl)) (by kernel_rfl)).trans rfl
            exact .inl ⟨rfl, fun K hk => wp_val (v := .int .i64 (i : Int)) (by generalize a.eval = ρ at *; unfold execOp; simp only [e4]; go_simp) (hk _ (hI.trans (stc_keep (by decide) (by decide) (by decide)).symm))⟩
          · have d3 := hdeps ⟨3, .data⟩ (by simp) rfl
            have d4 := hdeps ⟨4, .data⟩ (by simp) rfl
            have e36 : a.eval (.tmp 36) = .slice (some ⟨b, o, none⟩) m fc := tabd_at ht (t := 36) (of_decide_eq_true (by kernel_rfl)) (by kernel_rfl) d3
            have e37 : a.eval (.tmp 37) = .int .i64 (i : Int) := tabd_at ht (t := 37) (of_decide_eq_true (by kernel_rfl)) (by kernel_rfl) d4
            exact .inl ⟨rfl, fun K hk => wp_val (v := .pointer (some ⟨b, o + i * 2, none⟩)) (by generalize a.eval = ρ at *; unfold execOp; simp only [e36, e37]; go_simp) (hk _ (hI.trans (stc_keep (by decide) (by decide) (by decide)).symm))⟩
          · have d5 := hdeps ⟨5, .data⟩ (by simp) rfl
            have e38 : a.eval (.tmp 38) = .pointer (some ⟨b, o + i * 2, none⟩) := tabd_at ht (t := 38) (of_decide_eq_true (by kernel_rfl)) (by kernel_rfl) d5
            exact .inl ⟨rfl, fun K hk => wp_val (v := .pointer (some ⟨b, o + i * 2, none⟩)) (by generalize a.eval = ρ at *; unfold execOp; simp only [e38]; go_simp) (hk _ (hI.trans (stc_keep (by decide) (by decide) (by decide)).symm))⟩
          · have d6 := hdeps ⟨6, .data⟩ (by simp) rfl
            have e39 : a.eval (.tmp 39) = .pointer (some ⟨b, o + i * 2, none⟩) := tabd_at ht (t := 39) (of_decide_eq_true (by kernel_rfl)) (by kernel_rfl) d6
            have h : w0.cell? ⟨b, o + i * 2, none⟩ = some (.int .i64 md) := by rw [hI]; exact FC1.out listed (no_of ul7 (by simp [hun]))
            exact .inl ⟨rfl, fun K hk => wp_val (v := .int .i64 md) (by clear hk hI hoi hdeps ht; generalize a.eval = ρ at *; unfold execOp; simp only [e39]; go_simp) (hk _ (hI.trans (stc_keep (by decide) (by decide) (by decide)).symm))⟩
          · have e5 : a.eval (.tmp 5) = .slice Ae (dn + 1) Ce := (tabd_old ht (t := 5) (of_decide_eq_true (by kernel_rfl)) (by kernel_rfl)).trans rfl
            exact .inl ⟨rfl, fun K hk => wp_val (v := .slice Ae (dn + 1) Ce) (by generalize a.eval = ρ at *; unfold execOp; simp only [e5]; go_simp) (hk _ (hI.trans (stc_keep (by decide) (by decide) (by decide)).symm))⟩
          · have e5 : a.eval (.tmp 5) = .slice Ae (dn + 1) Ce := (tabd_old ht (t := 5) (of_decide_eq_true (by kernel_rfl)) (by kernel_rfl)).trans rfl
            exact .inl ⟨rfl, fun K hk => wp_val (v := .slice Ae (dn + 1) Ce) (by generalize a.eval = ρ at *; unfold execOp; simp only [e5]; go_simp) (hk _ (hI.trans (stc_keep (by decide) (by decide) (by decide)).symm))⟩
          · have d9 := hdeps ⟨9, .data⟩ (by simp) rfl
            have e42 : a.eval (.tmp 42) = .slice Ae (dn + 1) Ce := tabd_at ht (t := 42) (of_decide_eq_true (by kernel_rfl)) (by kernel_rfl) d9
            exact .inl ⟨rfl, fun K hk => wp_val (v := .int .i64 ((dn : Int) + 1)) (by generalize a.eval = ρ at *; unfold execOp; simp only [e42]; go_simp) (hk _ (hI.trans (stc_keep (by decide) (by decide) (by decide)).symm))⟩
          · have d10 := hdeps ⟨10, .data⟩ (by simp) rfl
            have e43 : a.eval (.tmp 43) = .int .i64 ((dn : Int) + 1) := tabd_at ht (t := 43) (of_decide_eq_true (by kernel_rfl)) (by kernel_rfl) d10
            have ec1 : a.eval (.const (Value.int IntKind.i64 1)) = (Value.int IntKind.i64 1) := rfl
            exact .inl ⟨rfl, fun K hk => wp_val (v := .int .i64 (dn : Int)) (by generalize a.eval = ρ at *; unfold execOp; simp only [e43, ec1]; go_simp; rw [wrap_i64]; omega) (hk _ (hI.trans (stc_keep (by decide) (by decide) (by decide)).symm))⟩
          · have d8 := hdeps ⟨8, .data⟩ (by simp) rfl
            have d11 := hdeps ⟨11, .data⟩ (by simp) rfl
            have e41 : a.eval (.tmp 41) = .slice Ae (dn + 1) Ce := tabd_at ht (t := 41) (of_decide_eq_true (by kernel_rfl)) (by kernel_rfl) d8
            have e44 : a.eval (.tmp 44) = .int .i64 (dn : Int) := tabd_at ht (t := 44) (of_decide_eq_true (by kernel_rfl)) (by kernel_rfl) d11
            exact .inl ⟨rfl, fun K hk => wp_val (v := .slice Ae dn Ce) (by generalize a.eval = ρ at *; unfold execOp; simp only [e41, e44]; go_simp) (hk _ (hI.trans (stc_keep (by decide) (by decide) (by decide)).symm))⟩
          · have d7 := hdeps ⟨7, .data⟩ (by simp) rfl
            have d12 := hdeps ⟨12, .data⟩ (by simp) rfl
            have e40 : a.eval (.tmp 40) = .int .i64 md := tabd_at ht (t := 40) (of_decide_eq_true (by kernel_rfl)) (by kernel_rfl) d7
            have e45 : a.eval (.tmp 45) = .slice Ae dn Ce := tabd_at ht (t := 45) (of_decide_eq_true (by kernel_rfl)) (by kernel_rfl) d12
            exact .inl ⟨rfl, fun K hk => wp_val (v := .agg #[.int .i64 md, .slice Ae dn Ce]) (by generalize a.eval = ρ at *; unfold execOp; simp only [e40, e45]; go_simp) (hk _ (hI.trans (stc_keep (by decide) (by decide) (by decide)).symm))⟩
          · have d13 := hdeps ⟨13, .data⟩ (by simp) rfl
            have e46 : a.eval (.tmp 46) = .agg #[.int .i64 md, .slice Ae dn Ce] := tabd_at ht (t := 46) (of_decide_eq_true (by kernel_rfl)) (by kernel_rfl) d13
            have hst : (Stc 14 15 17 (W3.drew) (W3.drew.alloc (.cells #[.int .i64 md, .slice Ae dn Ce] 52)) (Z3) (Z3.setCell ⟨T, 1, none⟩ (.slice Ag (i + 1) Cg))) listed = W3.drew ∧ (Stc 14 15 17 (W3.drew) (W3.drew.alloc (.cells #[.int .i64 md, .slice Ae dn Ce] 52)) (Z3) (Z3.setCell ⟨T, 1, none⟩ (.slice Ag (i + 1) Cg))) (listed.setIfInBounds 14 true) = W3.drew.alloc (.cells #[.int .i64 md, .slice Ae dn Ce] 52) := stc_0 (by decide) (by decide) uj uk (by omega) hun
            have hw : W3.drew = w0 := (hI.trans hst.1).symm
            subst hw
            exact .inl ⟨rfl, fun K hk => wp_buildSlice 23 52 1 _ rfl #[.int .i64 md, .slice Ae dn Ce] i1 _ Try.underlying23 hj1_ hj0 (by rw [hj1]; decide) (by rw [hj1]; decide) (by rw [hj1]; simp only [List.map_toArray, List.map_cons, List.map_nil, e46]; kernel_rfl) (hk _ hst.2.symm)⟩
          · have d1 := hdeps ⟨1, .data⟩ (by simp) rfl
            have d14 := hdeps ⟨14, .data⟩ (by simp) rfl
            have e34 : a.eval (.tmp 34) = vF := tabd_at ht (t := 34) (of_decide_eq_true (by kernel_rfl)) (by kernel_rfl) d1
            have e47 : a.eval (.tmp 47) = .slice (some ⟨W3.heap.size, 0, none⟩) 1 1 := tabd_at ht (t := 47) (of_decide_eq_true (by kernel_rfl)) (by kernel_rfl) d14
            have hst : (Stc 14 15 17 (W3.drew) (W3.drew.alloc (.cells #[.int .i64 md, .slice Ae dn Ce] 52)) (Z3) (Z3.setCell ⟨T, 1, none⟩ (.slice Ag (i + 1) Cg))) listed = W3.drew.alloc (.cells #[.int .i64 md, .slice Ae dn Ce] 52) ∧ (Stc 14 15 17 (W3.drew) (W3.drew.alloc (.cells #[.int .i64 md, .slice Ae dn Ce] 52)) (Z3) (Z3.setCell ⟨T, 1, none⟩ (.slice Ag (i + 1) Cg))) (listed.setIfInBounds 15 true) = Z3 := stc_1 (by decide) (by decide) uk (by omega) hun d14
            have hw : W3.drew.alloc (.cells #[.int .i64 md, .slice Ae dn Ce] 52) = w0 := (hI.trans hst.1).symm
            subst hw
            exact .inl ⟨rfl, fun K hk => wp_valT (v := .slice Ag (i + 1) Cg) (w' := Z3) (app_op _ _ rfl e34 e47 R3.out) (hk _ hst.2.symm)⟩
          · have e3 : a.eval (.tmp 3) = .pointer (some ⟨T, 0, none⟩) := (tabd_old ht (t := 3) (of_decide_eq_true (by kernel_rfl)) (by kernel_rfl)).trans rfl
            exact .inl ⟨rfl, fun K hk => wp_val (v := .pointer (some ⟨T, 1, none⟩)) (by generalize a.eval = ρ at *; unfold execOp; simp only [e3]; go_simp) (hk _ (hI.trans (stc_keep (by decide) (by decide) (by decide)).symm))⟩
          · have d16 := hdeps ⟨16, .data⟩ (by simp) rfl
            have d15 := hdeps ⟨15, .data⟩ (by simp) rfl
            have e48 : a.eval (.tmp 48) = .slice Ag (i + 1) Cg := tabd_at ht (t := 48) (of_decide_eq_true (by kernel_rfl)) (by kernel_rfl) d15
            have e49 : a.eval (.tmp 49) = .pointer (some ⟨T, 1, none⟩) := tabd_at ht (t := 49) (of_decide_eq_true (by kernel_rfl)) (by kernel_rfl) d16
            have hst : (Stc 14 15 17 (W3.drew) (W3.drew.alloc (.cells #[.int .i64 md, .slice Ae dn Ce] 52)) (Z3) (Z3.setCell ⟨T, 1, none⟩ (.slice Ag (i + 1) Cg))) listed = Z3 ∧ (Stc 14 15 17 (W3.drew) (W3.drew.alloc (.cells #[.int .i64 md, .slice Ae dn Ce] 52)) (Z3) (Z3.setCell ⟨T, 1, none⟩ (.slice Ag (i + 1) Cg))) (listed.setIfInBounds 17 true) = Z3.setCell ⟨T, 1, none⟩ (.slice Ag (i + 1) Cg) := stc_2 (by decide) (by omega) hun d15
            have hw : Z3 = w0 := (hI.trans hst.1).symm
            subst hw
            exact .inl ⟨rfl, fun K hk => wp_skipT (w' := Z3.setCell ⟨T, 1, none⟩ (.slice Ag (i + 1) Cg)) (by have h1 := lies_cell L5.out 1; have h2 := lies_free L5.out 1; simp only [List.getElem?_toArray, List.getElem?_cons_zero, List.getElem?_cons_succ] at h1; clear hk hst hI ht hoi hdeps; generalize a.eval = ρ at *; unfold execOp; simp only [e48, e49]; go_simp) (hk _ hst.2.symm)⟩
        case hend =>
          intro a w0 listed hall ht hI
          rw [tabd_fill ht (fun t i ho => hall i (ownAll_lt ho))]
          have hw : w0 = _ := hI.trans (stc_end (hall 17 (of_decide_eq_true (by kernel_rfl))))
          change Exit.inBlock _ (Exit.then _ _) Exit.normal { tmps := (.agg #[.slice NA n nc, .slice (some ⟨b, o, none⟩) m fc] :: .pointer (some ⟨w.heap.size, 0, none⟩) :: .pointer (some ⟨w.heap.size + 1, 0, none⟩) :: .pointer (some ⟨T, 0, none⟩) :: .int .i64 (i : Int) :: .slice Ae (dn + 1) Ce :: y0 :: y1 :: y2 :: y3 :: y4 :: y5 :: y6 :: y7 :: y8 :: y9 :: y10 :: .int .i64 (i : Int) :: .pointer (some ⟨w.heap.size, 1, none⟩) :: .slice (some ⟨b, o, none⟩) m fc :: .int .i64 (m : Int) :: .bool true :: u22 :: u23 :: .pointer (some ⟨w.heap.size, 1, none⟩) :: .slice (some ⟨b, o, none⟩) m fc :: .int .i64 (i : Int) :: .pointer (some ⟨b, o + i * 2, none⟩) :: .pointer (some ⟨b, o + i * 2 + 1, none⟩) :: .slice DA dn dc :: .slice Ad dn Cd :: .slice (some ⟨W1.heap.size, 0, none⟩) 1 1 :: .slice Ae (dn + 1) Ce :: .pointer (some ⟨T, 1, none⟩) :: vF :: .pointer (some ⟨w.heap.size, 1, none⟩) :: .slice (some ⟨b, o, none⟩) m fc :: .int .i64 (i : Int) :: .pointer (some ⟨b, o + i * 2, none⟩) :: .pointer (some ⟨b, o + i * 2, none⟩) :: .int .i64 md :: .slice Ae (dn + 1) Ce :: .slice Ae (dn + 1) Ce :: .int .i64 ((dn : Int) + 1) :: .int .i64 (dn : Int) :: .slice Ae dn Ce :: .agg #[.int .i64 md, .slice Ae dn Ce] :: .slice (some ⟨W3.heap.size, 0, none⟩) 1 1 :: .slice Ag (i + 1) Cg :: .pointer (some ⟨T, 1, none⟩) :: undef :: undef :: undef :: undef :: undef :: undef :: undef :: undef :: undef :: undef :: undef :: []).toArray, defers := [] } w0
          clear hall ht hI
          subst hw
          go_wp2
          go_roundw
          case rel => exact ⟨i + 1, by omega, by go_num, ⟨_, D', L6.out, N6.out, FR6.out, DD6.out⟩, W6.out⟩
          case measure => first | (simp [intOf]; done) | (simp [intOf]; omega)
      · have li : ¬ (i : Int) < (m : Int) := by omega
        have him : m = i := by omega
        subst him
        have TK : fs.take m = fs := List.take_of_length_le (by have := ME.out; omega)
        have HFR2 := HFR.out
        have HD2 := HD.out
        rw [TK] at HFR2 HD2
        have HD3 := Lib.hid HD2
        have lrf := row_file wr.drew X.heap.size vF (.slice none 0 0) D fs (-72) (by rw [← ME.out]; exact World.ownsRow.kept HFR2 (w' := wr.drew) (row := none) ⟨rfl, rfl, rfl, Nat.le_refl _, fun _ _ _ => rfl⟩ (by cases vF.ownBlock <;> simp)) HW.out.size rfl (by have := ME.out; omega)
        rw [← ME.out] at lrf
        obtain ⟨A2, C2, Z, r5, o5, g5, b5⟩ := lrf
        have hcap := row_cap o5
        have t57 : ∀ r, vF.ownBlock = some r → ∃ cs t, (wr.drew.alloc (.cells #[.int .i64 (-72), .slice none 0 0] 52)).heap[r]? = some (.cells cs t (0, 0)) ∧ t = 52 := fun r e => by obtain ⟨_, cs, h⟩ := b5 r e; exact ⟨cs, 52, h, rfl⟩
        have g4 : wr.grownBy (wr.drew.alloc (.cells #[.int .i64 (-72), .slice none 0 0] 52)) none := ⟨rfl, rfl, rfl, by simp, fun q hq _ => heap_alloc_old wr.drew _ hq⟩
        have l4 := lies_other HL.out g4 (fun r e => by cases e)
        have l5 := lies_other l4 g5 (fun r e => by obtain ⟨cs, t, h, ht⟩ := t57 r e; exact ⟨cs, t, h, by rw [ht]; decide⟩)
        have gs := grown_setCell Z T 1 (.slice A2 m C2)
        have t25 : ∀ r, some T = some r → ∃ cs t, Z.heap[r]? = some (.cells cs t (0, 0)) ∧ t = 25 := fun r e => by injection e with e; subst e; exact ⟨_, 25, l5, rfl⟩
        have l6 : Lies (Z.setCell ⟨T, 1, none⟩ (.slice A2 m C2)) T 25 #[.slice A1 n C1, .slice A2 m C2] := lies_set l5 1 _
        have nd6 := ((HNR.out.kept g4 (by cases (Value.slice A1 (n + 1) C1).ownBlock <;> simp)).kept g5 (own_other (HNR.out.kept g4 (by cases (Value.slice A1 (n + 1) C1).ownBlock <;> simp)) (fun r e => by obtain ⟨cs, t, h, ht⟩ := t57 r e; exact ⟨cs, t, h, by rw [ht]; decide⟩)))
        have nd7 := nd6.kept gs (own_other nd6 (fun r e => by obtain ⟨cs, t, h, ht⟩ := t25 r e; exact ⟨cs, t, h, by rw [ht]; decide⟩))
        have o7 := o5.kept gs (own_other o5 (fun r e => by obtain ⟨cs, t, h, ht⟩ := t25 r e; exact ⟨cs, t, h, by rw [ht]; decide⟩))
        have d7 : ∀ k, k < m → LentD (Z.setCell ⟨T, 1, none⟩ (.slice A2 m C2)) X.heap.size (D k) (fs.getD k ⟨0, []⟩).data := fun k hk => lentD_other (lentD_other (lentD_other (HD3.out k hk) g4 (fun r e => by cases e)) g5 (fun r e => by obtain ⟨cs, t, h, ht⟩ := t57 r e; exact ⟨cs, t, h, by rw [ht]; decide⟩)) gs (fun r e => by obtain ⟨cs, t, h, ht⟩ := t25 r e; exact ⟨cs, t, h, by rw [ht]; decide⟩)
        have w4 : Below X.heap.size X (wr.drew.alloc (.cells #[.int .i64 (-72), .slice none 0 0] 52)) := HW.out.grown g4 HW.out.size (fun k e => by cases e)
        have w5 : Below X.heap.size X Z := w4.grown g5 w4.size (fun k e => (b5 k e).1)
        have ZTT := ZT.out
        have w6 : Below X.heap.size X (Z.setCell ⟨T, 1, none⟩ (.slice A2 m C2)) := below_setCell w5 ZTT _
        have BA := Lib.hid (fun (l : Array Bool) => stc_all (i := 3) (j := 4) (k := 10) (l := l) (Below X.heap.size X) HW.out.drew w4 w5 (fun _ => w6))
        have F3 := Lib.hid (fun (l : Array Bool) (_ : l.getD 10 false = false) => ((BA.out l).cell (p := ⟨w.heap.size, 1, none⟩) (lies_lt LX.out)).trans x1)
        have FY := Lib.hid (fun (l : Array Bool) (hu : l.getD 10 false = false) => stc_all (i := 3) (j := 4) (k := 10) (A := wr.drew) (B := wr.drew.alloc (.cells #[.int .i64 (-72), .slice none 0 0] 52)) (C := Z) (D := Z.setCell ⟨T, 1, none⟩ (.slice A2 m C2)) (l := l) (fun W => W.cell? ⟨T, 1, none⟩ = some vF) (lies_cell (lies_drew HL.out) 1) (lies_cell l4 1) (lies_cell l5 1) (fun h => by rw [hu] at h; cases h))
        have R5 := Lib.hid r5
        have L5 := Lib.hid l5
        have L6 := Lib.hid l6
        have N7 := Lib.hid nd7
        have O7 := Lib.hid o7
        have D7 := Lib.hid d7
        have W6 := Lib.hid w6
        have CT := Lib.hid (cutf_to A2 (m + 1) C2 m (by omega))
        have hcut := CT.out
        obtain ⟨i1, hj1_, hj0, hj1, hj2⟩ := info_parts file_info2
        clear r5 o5 g5 b5 t57 g4 l4 l5 gs t25 l6 nd6 nd7 o7 d7 w4 w5 w6 BA TK HFR2 HD2 HD3 HFR HD HNR HL ZTT CT
        go_upto_region 7 with (fail)
        refine wp_region_any (by kernel_rfl) ?_
        refine every_at (own := ownAll _) (vals := fun k_ => match k_ with | 0 => .pointer (some ⟨T, 1, none⟩) | 1 => vF | 2 => .agg #[.int .i64 (-72), .slice none 0 0] | 3 => .slice (some ⟨wr.heap.size, 0, none⟩) 1 1 | 4 => .slice A2 (m + 1) C2 | 5 => .pointer (some ⟨w.heap.size, 1, none⟩) | 6 => .slice FA m fc | 7 => .int .i64 (m : Int) | 8 => .slice A2 m C2 | 9 => .pointer (some ⟨T, 1, none⟩) | 10 => undef | _ => undef) id (fun l W => W = (Stc 3 4 10 (wr.drew) (wr.drew.alloc (.cells #[.int .i64 (-72), .slice none 0 0] 52)) (Z) (Z.setCell ⟨T, 1, none⟩ (.slice A2 m C2))) l) (acAll_of (by kernel_rfl)) (onAll_of (by kernel_rfl)) (dstAll_of (by kernel_rfl)) ?hop ?hend _ _ _ _ rfl (shut_none _) (of_decide_eq_true (by kernel_rfl)) (tabd_start (fun i => rep_false _ i)) rfl
        case hop =>
          intro x oi a w0 listed hoi hun hsz hcl hdeps ht hI
          have hx : x < 11 := (Array.getElem?_eq_some_iff.1 hoi).1
          have cx : x = 0 ∨ x = 1 ∨ x = 2 ∨ x = 3 ∨ x = 4 ∨ x = 5 ∨ x = 6 ∨ x = 7 ∨ x = 8 ∨ x = 9 ∨ x = 10 := by omega
          have sz : listed.size = 11 := hsz
          have uj : listed.getD 4 false = true → listed.getD 3 false = true := fun h => hcl 4 _ rfl h ⟨3, .data⟩ (by simp) rfl
          have uk : listed.getD 10 false = true → listed.getD 4 false = true := fun h => hcl 10 _ rfl h ⟨4, .chain⟩ (by simp) rfl
          have ul1 : listed.getD 10 false = true → listed.getD 1 false = true := fun h => hcl 10 _ rfl h ⟨1, .phase⟩ (by simp) rfl
          have ul6 : listed.getD 10 false = true → listed.getD 6 false = true := fun h => hcl 10 _ rfl h ⟨6, .phase⟩ (by simp) rfl
          clear hcl
          obtain rfl | rfl | rfl | rfl | rfl | rfl | rfl | rfl | rfl | rfl | rfl := cx
          all_goals obtain rfl := Option.some.inj hoi
          · have e3 : a.eval (.tmp 3) = .pointer (some ⟨T, 0, none⟩) := (tabd_old ht (t := 3) (of_decide_eq_true (by kernel_rfl)) (by kernel_rfl)).trans rfl
            exact .inl ⟨rfl, fun K hk => wp_val (v := .pointer (some ⟨T, 1, none⟩)) (by generalize a.eval = ρ at *; unfold execOp; simp only [e3]; go_simp) (hk _ (hI.trans (stc_keep (by decide) (by decide) (by decide)).symm))⟩
          · have d0 := hdeps ⟨0, .data⟩ (by simp) rfl
            have e50 : a.eval (.tmp 50) = .pointer (some ⟨T, 1, none⟩) := tabd_at ht (t := 50) (of_decide_eq_true (by kernel_rfl)) (by kernel_rfl) d0
            have h : w0.cell? ⟨T, 1, none⟩ = some (vF) := by rw [hI]; exact FY.out listed (no_of ul1 (by simp [hun]))
            exact .inl ⟨rfl, fun K hk => wp_val (v := vF) (by clear hk hI hoi hdeps ht; generalize a.eval = ρ at *; unfold execOp; simp only [e50]; go_simp) (hk _ (hI.trans (stc_keep (by decide) (by decide) (by decide)).symm))⟩
          · exact .inl ⟨rfl, fun K hk => wp_val (v := .agg #[.int .i64 (-72), .slice none 0 0]) (by have ec : a.eval (.const (Value.int IntKind.i64 (-72))) = (Value.int IntKind.i64 (-72)) := rfl; generalize a.eval = ρ at *; unfold execOp; simp only [ec]; go_simp; try kernel_rfl) (hk _ (hI.trans (stc_keep (by decide) (by decide) (by decide)).symm))⟩
          · have d2 := hdeps ⟨2, .data⟩ (by simp) rfl
            have e52 : a.eval (.tmp 52) = .agg #[.int .i64 (-72), .slice none 0 0] := tabd_at ht (t := 52) (of_decide_eq_true (by kernel_rfl)) (by kernel_rfl) d2
            have hst : (Stc 3 4 10 (wr.drew) (wr.drew.alloc (.cells #[.int .i64 (-72), .slice none 0 0] 52)) (Z) (Z.setCell ⟨T, 1, none⟩ (.slice A2 m C2))) listed = wr.drew ∧ (Stc 3 4 10 (wr.drew) (wr.drew.alloc (.cells #[.int .i64 (-72), .slice none 0 0] 52)) (Z) (Z.setCell ⟨T, 1, none⟩ (.slice A2 m C2))) (listed.setIfInBounds 3 true) = wr.drew.alloc (.cells #[.int .i64 (-72), .slice none 0 0] 52) := stc_0 (by decide) (by decide) uj uk (by omega) hun
            have hw : wr.drew = w0 := (hI.trans hst.1).symm
            subst hw
            exact .inl ⟨rfl, fun K hk => wp_buildSlice 23 52 1 _ rfl #[.int .i64 (-72), .slice none 0 0] i1 _ Try.underlying23 hj1_ hj0 (by rw [hj1]; decide) (by rw [hj1]; decide) (by rw [hj1]; simp only [List.map_toArray, List.map_cons, List.map_nil, e52]; kernel_rfl) (hk _ hst.2.symm)⟩
          · have d1 := hdeps ⟨1, .data⟩ (by simp) rfl
            have d3 := hdeps ⟨3, .data⟩ (by simp) rfl
            have e51 : a.eval (.tmp 51) = vF := tabd_at ht (t := 51) (of_decide_eq_true (by kernel_rfl)) (by kernel_rfl) d1
            have e53 : a.eval (.tmp 53) = .slice (some ⟨wr.heap.size, 0, none⟩) 1 1 := tabd_at ht (t := 53) (of_decide_eq_true (by kernel_rfl)) (by kernel_rfl) d3
            have hst : (Stc 3 4 10 (wr.drew) (wr.drew.alloc (.cells #[.int .i64 (-72), .slice none 0 0] 52)) (Z) (Z.setCell ⟨T, 1, none⟩ (.slice A2 m C2))) listed = wr.drew.alloc (.cells #[.int .i64 (-72), .slice none 0 0] 52) ∧ (Stc 3 4 10 (wr.drew) (wr.drew.alloc (.cells #[.int .i64 (-72), .slice none 0 0] 52)) (Z) (Z.setCell ⟨T, 1, none⟩ (.slice A2 m C2))) (listed.setIfInBounds 4 true) = Z := stc_1 (by decide) (by decide) uk (by omega) hun d3
            have hw : wr.drew.alloc (.cells #[.int .i64 (-72), .slice none 0 0] 52) = w0 := (hI.trans hst.1).symm
            subst hw
            exact .inl ⟨rfl, fun K hk => wp_valT (v := .slice A2 (m + 1) C2) (w' := Z) (app_op _ _ rfl e51 e53 R5.out) (hk _ hst.2.symm)⟩
          · have e1 : a.eval (.tmp 1) = .pointer (some ⟨w.heap.size, 0, none⟩) := (tabd_old ht (t := 1) (of_decide_eq_true (by kernel_rfl)) (by kernel_rfl)).trans rfl
            exact .inl ⟨rfl, fun K hk => wp_val (v := .pointer (some ⟨w.heap.size, 1, none⟩)) (by generalize a.eval = ρ at *; unfold execOp; simp only [e1]; go_simp) (hk _ (hI.trans (stc_keep (by decide) (by decide) (by decide)).symm))⟩
          · have d5 := hdeps ⟨5, .data⟩ (by simp) rfl
            have e55 : a.eval (.tmp 55) = .pointer (some ⟨w.heap.size, 1, none⟩) := tabd_at ht (t := 55) (of_decide_eq_true (by kernel_rfl)) (by kernel_rfl) d5
            have h : w0.cell? ⟨w.heap.size, 1, none⟩ = some (.slice FA m fc) := by rw [hI]; exact F3.out listed (no_of ul6 (by simp [hun]))
            exact .inl ⟨rfl, fun K hk => wp_val (v := .slice FA m fc) (by clear hk hI hoi hdeps ht; generalize a.eval = ρ at *; unfold execOp; simp only [e55]; go_simp) (hk _ (hI.trans (stc_keep (by decide) (by decide) (by decide)).symm))⟩
          · have d6 := hdeps ⟨6, .data⟩ (by simp) rfl
            have e56 : a.eval (.tmp 56) = .slice FA m fc := tabd_at ht (t := 56) (of_decide_eq_true (by kernel_rfl)) (by kernel_rfl) d6
            exact .inl ⟨rfl, fun K hk => wp_val (v := .int .i64 (m : Int)) (by generalize a.eval = ρ at *; unfold execOp; simp only [e56]; go_simp) (hk _ (hI.trans (stc_keep (by decide) (by decide) (by decide)).symm))⟩
          · have d4 := hdeps ⟨4, .data⟩ (by simp) rfl
            have d7 := hdeps ⟨7, .data⟩ (by simp) rfl
            have e54 : a.eval (.tmp 54) = .slice A2 (m + 1) C2 := tabd_at ht (t := 54) (of_decide_eq_true (by kernel_rfl)) (by kernel_rfl) d4
            have e57 : a.eval (.tmp 57) = .int .i64 (m : Int) := tabd_at ht (t := 57) (of_decide_eq_true (by kernel_rfl)) (by kernel_rfl) d7
            exact .inl ⟨rfl, fun K hk => wp_val (v := .slice A2 m C2) (by generalize a.eval = ρ at *; unfold execOp; simp only [e54, e57]; go_simp) (hk _ (hI.trans (stc_keep (by decide) (by decide) (by decide)).symm))⟩
          · have e3 : a.eval (.tmp 3) = .pointer (some ⟨T, 0, none⟩) := (tabd_old ht (t := 3) (of_decide_eq_true (by kernel_rfl)) (by kernel_rfl)).trans rfl
            exact .inl ⟨rfl, fun K hk => wp_val (v := .pointer (some ⟨T, 1, none⟩)) (by generalize a.eval = ρ at *; unfold execOp; simp only [e3]; go_simp) (hk _ (hI.trans (stc_keep (by decide) (by decide) (by decide)).symm))⟩
          · have d9 := hdeps ⟨9, .data⟩ (by simp) rfl
            have d8 := hdeps ⟨8, .data⟩ (by simp) rfl
            have d4 := hdeps ⟨4, .chain⟩ (by simp) rfl
            have e58 : a.eval (.tmp 58) = .slice A2 m C2 := tabd_at ht (t := 58) (of_decide_eq_true (by kernel_rfl)) (by kernel_rfl) d8
            have e59 : a.eval (.tmp 59) = .pointer (some ⟨T, 1, none⟩) := tabd_at ht (t := 59) (of_decide_eq_true (by kernel_rfl)) (by kernel_rfl) d9
            have hst : (Stc 3 4 10 (wr.drew) (wr.drew.alloc (.cells #[.int .i64 (-72), .slice none 0 0] 52)) (Z) (Z.setCell ⟨T, 1, none⟩ (.slice A2 m C2))) listed = Z ∧ (Stc 3 4 10 (wr.drew) (wr.drew.alloc (.cells #[.int .i64 (-72), .slice none 0 0] 52)) (Z) (Z.setCell ⟨T, 1, none⟩ (.slice A2 m C2))) (listed.setIfInBounds 10 true) = Z.setCell ⟨T, 1, none⟩ (.slice A2 m C2) := stc_2 (by decide) (by omega) hun d4
            have hw : Z = w0 := (hI.trans hst.1).symm
            subst hw
            exact .inl ⟨rfl, fun K hk => wp_skipT (w' := Z.setCell ⟨T, 1, none⟩ (.slice A2 m C2)) (by have h1 := lies_cell L5.out 1; have h2 := lies_free L5.out 1; simp only [List.getElem?_toArray, List.getElem?_cons_zero, List.getElem?_cons_succ] at h1; clear hk hst hI ht hoi hdeps; generalize a.eval = ρ at *; unfold execOp; simp only [e58, e59]; go_simp) (hk _ hst.2.symm)⟩
        case hend =>
          intro a w0 listed hall ht hI
          rw [tabd_fill ht (fun t i ho => hall i (ownAll_lt ho))]
          have hw : w0 = _ := hI.trans (stc_end (hall 10 (of_decide_eq_true (by kernel_rfl))))
          change Exit.then _ _ Exit.normal { tmps := (.agg #[.slice NA n nc, .slice FA m fc] :: .pointer (some ⟨w.heap.size, 0, none⟩) :: .pointer (some ⟨w.heap.size + 1, 0, none⟩) :: .pointer (some ⟨T, 0, none⟩) :: .int .i64 (m : Int) :: u5 :: y0 :: y1 :: y2 :: y3 :: y4 :: y5 :: y6 :: y7 :: y8 :: y9 :: y10 :: .int .i64 (m : Int) :: .pointer (some ⟨w.heap.size, 1, none⟩) :: .slice FA m fc :: .int .i64 (m : Int) :: .bool false :: u22 :: u23 :: u24 :: u25 :: u26 :: u27 :: u28 :: u29 :: u30 :: u31 :: u32 :: u33 :: u34 :: u35 :: u36 :: u37 :: u38 :: u39 :: u40 :: u41 :: u42 :: u43 :: u44 :: u45 :: u46 :: u47 :: u48 :: u49 :: .pointer (some ⟨T, 1, none⟩) :: vF :: .agg #[.int .i64 (-72), .slice none 0 0] :: .slice (some ⟨wr.heap.size, 0, none⟩) 1 1 :: .slice A2 (m + 1) C2 :: .pointer (some ⟨w.heap.size, 1, none⟩) :: .slice FA m fc :: .int .i64 (m : Int) :: .slice A2 m C2 :: .pointer (some ⟨T, 1, none⟩) :: undef :: []).toArray, defers := [] } w0
          clear hall ht hI
          subst hw
          have LRW := Lib.hid (lies_below LR.out W6.out (lies_lt LR.out))
          have RG := Lib.hid (lies_range L6.out)
          have gs := grown_setRow (Z.setCell ⟨T, 1, none⟩ (.slice A2 m C2)) (w.heap.size + 1) #[.slice A1 n C1, .slice A2 m C2]
          have tr : ∀ r, some (w.heap.size + 1) = some r → ∃ cs t, (Z.setCell ⟨T, 1, none⟩ (.slice A2 m C2)).heap[r]? = some (.cells cs t (0, 0)) ∧ t = 25 := fun r e => by injection e with e; subst e; exact ⟨_, 25, LRW.out, rfl⟩
          have n8 := N7.out.kept gs (own_other N7.out (fun r e => by obtain ⟨cs, t, h, ht⟩ := tr r e; exact ⟨cs, t, h, by rw [ht]; decide⟩))
          have o8 := O7.out.kept gs (own_other O7.out (fun r e => by obtain ⟨cs, t, h, ht⟩ := tr r e; exact ⟨cs, t, h, by rw [ht]; decide⟩))
          have d8 : ∀ k, k < m → LentD _ X.heap.size (D k) (fs.getD k ⟨0, []⟩).data := fun k hk => lentD_other (D7.out k hk) gs (fun r e => by obtain ⟨cs, t, h, ht⟩ := tr r e; exact ⟨cs, t, h, by rw [ht]; decide⟩)
          have LA := Lib.hid (lent_at (by rw [← NE.out]; exact n8) (by rw [← ME.out]; exact o8) (by rw [← ME.out]; exact d8))
          have BZ := Lib.hid (below_setRow (HB.out.trans (W6.out.mono HB.out.size)) (g := w.heap.size + 1) (by omega) #[.slice A1 n C1, .slice A2 m C2])
          clear gs tr n8 o8 d8 FY F3 R5 L5
          generalize Z.setCell ⟨T, 1, none⟩ (.slice A2 m C2) = WE at *
          go_wp2_with (first
            | (refine wpList_load_mid rfl 25 _ rfl T 0 rfl [.slice A1 n C1, .slice A2 m C2] _ RG.out Try.underlying25 rfl (by kernel_rfl) ?_)
            | (refine wpList_store_row rfl 25 _ _ rfl (w.heap.size + 1) #[.slice A1 n C1, .slice A2 m C2] rfl rfl 25 _ LRW.out (by kernel_rfl) rfl (by simp [Value.oneCell']) ?_))
          refine bodyPost_ret (results_cell_row rfl _ _ (w.heap.size + 1) 25 #[.slice A1 n C1, .slice A2 m C2] (0, 0) _ rfl (lies_setRow LRW.out #[.slice A1 n C1, .slice A2 m C2]) Try.underlying25 rfl (by kernel_rfl)) rfl ?_
          exact ⟨⟨A1, C1, A2, C2, rfl, LA.out⟩, BZ.out⟩
end Go.Proofs.Ytiglakhfkgeefaa
set_option linter.unusedSimpArgs false
set_option linter.unusedVariables false
namespace Go.Proofs.Ytiglakhfkgeefaa
open Go.Pth Go.Tre Go.RowKit Go.Word Go.Shelf
set_option maxRecDepth 100000 in
set_option maxHeartbeats 8000000 in
theorem stays_any (NA FA MA GA : Option Addr) (nc fc mc gc : Nat) (ns : List Nd) (fs : List Fl) (w : World) (hL : LentAt w NA nc FA fc ns fs) (hM : NodesAt w MA ns) (hG : FilesAt w GA fs) (h1 : ns.length ≤ 1000) (h2 : fs.length ≤ 1000) (h3 : ∀ x ∈ fs, x.data.length ≤ 100000) :
    Calls Try.prog 15 #[.agg #[.slice NA ns.length nc, .slice FA fs.length fc], .agg #[.slice MA ns.length mc, .slice GA fs.length gc]] w fun e w' => e = .returned (.bool true) ∧ Below w.heap.size w w' := by
  have L1 := lies_alloc (lies_new w 25 #[.slice NA ns.length nc, .slice FA fs.length fc]) (.cells #[.slice MA ns.length mc, .slice GA fs.length gc] 25)
  have L2 := lies_new (w.alloc (.cells #[.slice NA ns.length nc, .slice FA fs.length fc] 25)) 25 #[.slice MA ns.length mc, .slice GA fs.length gc]
  rw [World.size_alloc] at L2
  have hB : Below w.heap.size w ((w.alloc (.cells #[.slice NA ns.length nc, .slice FA fs.length fc] 25)).alloc (.cells #[.slice MA ns.length mc, .slice GA fs.length gc] 25)) := ((Below.refl _ _).alloc (Nat.le_refl _) _).alloc (by simp) _
  have hL2 := lent_below hL hB
  have hM2 := nodesAt_below hM hB
  have hG2 := filesAt_below hG hB
  have KE0 := exact_any NA FA MA GA nc fc mc gc ns ns fs fs _ (lent_nodes hL2) (lent_files hL2) hM2 hG2 (by omega) (by omega)
  rw [show exactB ns fs ns fs = true from by unfold exactB; simp] at KE0
  have KE := Lib.hid KE0
  have HL := Lib.hid hL2
  have HG := Lib.hid hG2
  have H3 := Lib.hid h3
  clear hL hM hG hL2 hM2 hG2 h3 KE0
  have x0 := lies_cell L1 0
  have x1 := lies_cell L1 1
  have y0 := lies_cell L2 0
  have y1 := lies_cell L2 1
  simp only [List.getElem?_toArray, List.getElem?_cons_zero, List.getElem?_cons_succ] at x0 x1 y0 y1
  have LX := Lib.hid L1
  have LY := Lib.hid L2
  have HB := Lib.hid hB
  clear L1 L2 hB
  obtain ⟨n, hne⟩ : ∃ n, n = ns.length := ⟨_, rfl⟩
  obtain ⟨m, hme⟩ : ∃ m, m = fs.length := ⟨_, rfl⟩
  rw [← hne] at h1
  rw [← hme] at h2
  rw [← hne, ← hme] at x0 x1 y0 y1 LX LY HB KE HL HG
  rw [← hne, ← hme]
  have NE := Lib.hid hne
  have ME := Lib.hid hme
  clear hne hme
  go_enter Try.func15, Try.ntmps15
  go_upto_region 1 with (fail)
  generalize ((w.alloc (.cells #[.slice NA n nc, .slice FA m fc] 25)).alloc (.cells #[.slice MA n mc, .slice GA m gc] 25)) = X at *
  have after : ∀ W, Below X.heap.size X W → Hid (W.cell? ⟨w.heap.size, 0, none⟩ = some (.slice NA n nc) ∧ W.cell? ⟨w.heap.size, 1, none⟩ = some (.slice FA m fc) ∧ W.cell? ⟨w.heap.size + 1, 0, none⟩ = some (.slice MA n mc) ∧ W.cell? ⟨w.heap.size + 1, 1, none⟩ = some (.slice GA m gc)) := fun W hb =>
    Lib.hid ⟨(hb.cell (p := ⟨w.heap.size, 0, none⟩) (lies_lt LX.out)).trans x0, (hb.cell (p := ⟨w.heap.size, 1, none⟩) (lies_lt LX.out)).trans x1, (hb.cell (p := ⟨w.heap.size + 1, 0, none⟩) (lies_lt LY.out)).trans y0, (hb.cell (p := ⟨w.heap.size + 1, 1, none⟩) (lies_lt LY.out)).trans y1⟩
  go_upto_region 2 with (go_at_call 35; (with_reducible refine KE.out.mono ?_); rintro e w1 ⟨rfl, hb⟩; have B1 := Lib.hid hb; clear hb)
  obtain ⟨q0, q1, q2, q3⟩ := (after _ B1.out).out
  have hl1 := lent_below HL.out B1.out
  have hg1 := filesAt_below HG.out B1.out
  clear x0 x1 y0 y1 KE HL HG
  obtain ⟨hn1, hn2, hm2, g, rfl, hgs, hm3, hd⟩ := hl1
  rw [← NE.out] at hn2
  rw [← ME.out] at hm2 hm3
  obtain ⟨b, o, eA, hbl, d1, d2, d3⟩ := hn1 n (by have := NE.out; simp; omega)
  subst eA
  have en : (ns ++ [endN])[n]'(by have := NE.out; simp; omega) = endN := by
    rw [List.getElem_append_right (by have := NE.out; omega)]
    simp
  rw [en] at d2
  have d2 : w1.cell? ⟨b, o + n * 3 + 1, none⟩ = some (.int .i64 (-71)) := d2
  have HD := Lib.hid hd
  have HG1 := Lib.hid hg1
  have hcn : ∀ W : World, (Instr.slice 22 (.slice (some ⟨b, o, none⟩) n nc) none (some (.int .i64 ((n : Int) + 1))) none).run Try.prog W = .ok (.slice (some ⟨b, o, none⟩) (n + 1) nc) W := fun W => cut_to (some ⟨b, o, none⟩) n nc (n + 1) (by omega) W
  have hcf : ∀ W : World, (Instr.slice 23 (.slice (some ⟨g, 0, none⟩) m fc) none (some (.int .i64 ((m : Int) + 1))) none).run Try.prog W = .ok (.slice (some ⟨g, 0, none⟩) (m + 1) fc) W := fun W => cutf_to (some ⟨g, 0, none⟩) m fc (m + 1) (by omega) W
  have r71 : ((-71 : Int) != -71) = false := by decide
  have r72 : ((-72 : Int) != -72) = false := by decide
  have ln : (n : Int) < (n : Int) + 1 := by omega
  have lm : (m : Int) < (m : Int) + 1 := by omega
  clear hn1 d1 d3 en hd hg1 hgs hbl
  go_upto_region 6 with (fail)
  clear hcn hcf d2 hm3
  go_wp2
  go_loopw [8] (fun v8 wr => ∃ i : Nat, i ≤ m ∧ v8 = .int .i64 (i : Int) ∧ wr = w1) (fun v8 _ => m - (intOf v8).toNat)
  case atStart => exact ⟨0, Nat.zero_le _, rfl, rfl⟩
  case round =>
    obtain ⟨i, hi, rfl, rfl⟩ := hrel
    by_cases hlt : i < m
    · have li : (i : Int) < (m : Int) := by omega
      have lf : i < fs.length := by have := ME.out; omega
      obtain ⟨DA, dc, c1, c2, c3, c4⟩ := HD.out i lf
      obtain ⟨b2, o2, DB, db, eG, hl2, e1, e2, e3⟩ := HG1.out i lf
      subst eG
      have dl := H3.out fs[i] (List.getElem_mem _)
      obtain ⟨b3, o3, eD, hl3, k1⟩ := c4 fs[i].data.length (by simp)
      subst eD
      have ek : (fs[i].data ++ [167])[fs[i].data.length]'(by simp) = 167 := by simp
      rw [ek] at k1
      generalize fs[i] = x at *
      obtain ⟨md, d⟩ := x
      have c2 : wr.cell? ⟨g, i * 2 + 1, none⟩ = some (.slice (some ⟨b3, o3, none⟩) d.length dc) := c2
      have e2 : wr.cell? ⟨b2, o2 + i * 2 + 1, none⟩ = some (.slice DB d.length db) := e2
      have k1 : wr.cell? ⟨b3, o3 + d.length, none⟩ = some (.int .u8 167) := k1
      have dl : d.length ≤ 100000 := dl
      have c3 : d.length + 1 ≤ dc := c3
      clear ek c1 c4 e1 e3 hl2 hl3
      generalize d.length = k at *
      have hcb : ∀ W : World, (Instr.slice 47 (.slice (some ⟨b3, o3, none⟩) k dc) none (some (.int .i64 ((k : Int) + 1))) none).run Try.prog W = .ok (.slice (some ⟨b3, o3, none⟩) (k + 1) dc) W := fun W => cutb_to (some ⟨b3, o3, none⟩) k dc (k + 1) (by omega) W
      have lk : (k : Int) < (k : Int) + 1 := by omega
      have r167 : ((167 : Int) != 167) = false := by decide
      go_wp2
      go_roundw
      case rel => first | exact ⟨i + 1, by omega, by go_num, trivial⟩ | exact ⟨i + 1, by omega, by go_num, rfl⟩
      case measure => first | (simp [intOf]; done) | (simp [intOf]; omega)
    · have li : ¬ (i : Int) < (m : Int) := by omega
      go_wp2
      go_ret
      exact ⟨rfl, HB.out.trans (B1.out.mono HB.out.size)⟩
end Go.Proofs.Ytiglakhfkgeefaa
