/-
What is proved here: the function value that goes over the fills of a tree's directories, for every loop body that keeps what lay below but one block, and the maps.
-/
import Derived.Test.YtiglakhfkgeefaaIns
import Derived.Test.YtiglakhfkgeefaaChk
set_option linter.unusedSimpArgs false
namespace Go.Tre
open Go.Pth
/-- how many nodes a directory has in it -/
def kidsN (ns : List Nd) (p : Bt) : Int := ((ns.filter fun x => decide (upP x.path = p)).length : Int)
abbrev K256 := { x : Int // 0 ≤ x ∧ x ≤ 256 }
def kidsK (ns : List Nd) (p : Bt) : K256 := ⟨min (kidsN ns p) 256, by unfold kidsN; omega⟩
def isDir (x : Nd) : Bool := decide (x.file = -1)
/-- what has come when i nodes are over -/
def fillsTo (ns : List Nd) (i : Nat) : List K256 := kidsK ns [] :: ((ns.take i).filter isDir).map fun x => kidsK ns x.path
def fillsL (ns : List Nd) : List K256 := kidsK ns [] :: (ns.filter isDir).map fun x => kidsK ns x.path
theorem fillsTo_all (ns : List Nd) (i : Nat) (h : ns.length ≤ i) : fillsTo ns i = fillsL ns := by unfold fillsTo fillsL; rw [List.take_of_length_le h]
theorem fillsTo_dir (ns : List Nd) (i : Nat) (h : i < ns.length) (hd : isDir ns[i] = true) : fillsTo ns (i + 1) = fillsTo ns i ++ [kidsK ns ns[i].path] := by
  unfold fillsTo
  rw [List.take_succ_eq_append_getElem h, List.filter_append, List.map_append]
  simp [hd]
theorem fillsTo_not (ns : List Nd) (i : Nat) (h : i < ns.length) (hd : isDir ns[i] = false) : fillsTo ns (i + 1) = fillsTo ns i := by
  unfold fillsTo
  rw [List.take_succ_eq_append_getElem h, List.filter_append, List.map_append]
  simp [hd]
theorem fillsTo_pre (ns : List Nd) (i : Nat) : fillsTo ns i <+: fillsL ns := by
  unfold fillsTo fillsL
  refine (List.cons_prefix_cons).2 ⟨rfl, ?_⟩
  exact ((List.take_prefix i ns).filter _).map _
theorem kidsN_take (ns : List Nd) (i : Nat) (h : i < ns.length) (p : Bt) : kidsN (ns.take (i + 1)) p = if p = upP ns[i].path then kidsN (ns.take i) p + 1 else kidsN (ns.take i) p := by
  unfold kidsN
  rw [List.take_succ_eq_append_getElem h, List.filter_append, List.length_append]
  by_cases e : upP ns[i].path = p
  · rw [if_pos e.symm]; simp [e]
  · rw [if_neg (fun e' => e e'.symm)]; simp [e]
theorem kidsN_bd (ns : List Nd) (p : Bt) : 0 ≤ kidsN ns p ∧ kidsN ns p ≤ ns.length := by
  unfold kidsN
  have := List.length_filter_le (fun x : Nd => decide (upP x.path = p)) ns
  omega
theorem kidsK_val (ns : List Nd) (p : Bt) (h : ns.length ≤ 256) : (kidsK ns p).1 = kidsN ns p := by
  have := kidsN_bd ns p
  show min (kidsN ns p) 256 = kidsN ns p
  omega
end Go.Tre
namespace Go.Proofs.Ytiglakhfkgeefaa
open Go.Pth Go.Tre Go.RowKit Go.Word Go.Shelf
attribute [local go_sem] Oper.semAt_some

def encI (k : K256) : Array Value := #[.int .i64 k.1]
/-- what a round keeps -/
def KW (m WB : Nat) (A B : World) : Prop := (∀ i, i < m → i ≠ WB → B.heap[i]? = A.heap[i]?) ∧ KeepsWalks A B
theorem kw_t {m WB : Nat} {A B C : World} (h : KW m WB A B) (k : KW m WB B C) : KW m WB A C := ⟨fun i h1 h2 => (k.1 i h1 h2).trans (h.1 i h1 h2), h.2.trans k.2⟩
theorem kw_b {m WB : Nat} {w : World} (hB : m ≤ w.heap.size) (W : World) (l : Nat) (o o' : Obj) (hl : w.heap.size ≤ l) (h : W.heap[l]? = some o) (_ : o.isCells = false) (hw : o.isWalk = false) : KW m WB W (W.putObj l o') :=
  ⟨fun i hi _ => World.putObj_heap_other (by omega), KeepsWalks.putObj _ h hw⟩
/-- nodes in a slice that lies below m, and not in block WB -/
def NodesIn (w : World) (m WB : Nat) (A : Option Addr) (ns : List Nd) : Prop := ∀ i (h : i < ns.length), ∃ b o, A = some ⟨b, o, none⟩ ∧ b < m ∧ b ≠ WB ∧
  w.cell? ⟨b, o + i * 3, none⟩ = some (St ns[i].path) ∧ w.cell? ⟨b, o + i * 3 + 1, none⟩ = some (.int .i64 ns[i].file) ∧ w.cell? ⟨b, o + i * 3 + 2, none⟩ = some (.int .i64 ns[i].mode)

theorem wf_i64 {z : Int} (h1 : -9223372036854775808 ≤ z) (h2 : z ≤ 9223372036854775807) : (Lit.int .i64 z).wf = true := by
  have e1 : IntKind.i64.min = -9223372036854775808 := by decide
  have e2 : IntKind.i64.max = 9223372036854775807 := by decide
  simp only [Lit.wf, Bool.and_eq_true, decide_eq_true_eq, e1, e2]
  exact ⟨h1, h2⟩
end Go.Proofs.Ytiglakhfkgeefaa
