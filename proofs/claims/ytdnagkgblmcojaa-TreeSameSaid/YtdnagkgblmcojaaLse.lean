/-
What is proved here: package tree's tooGreat, and Loose, by contracts.
-/
import Derived.Test.YtdnagkgblmcojaaNmd
set_option linter.unusedSimpArgs false
namespace Go.Tre
open Go.Pth
def anyGreat (fs : List Fl) : Bool := fs.any (fun x => decide (8192 < x.data.length))
def anyWrong (fs : List Fl) : Bool := fs.any (fun x => !okMode x.mode)
def tooB (n : Nat) (fs : List Fl) : Bool := decide (256 < n) || (decide (256 < fs.length) || anyGreat fs)
/-- one node more: the directories so far, the last path, how many files are named -/
def nodeT (D : Bt → Bool) (last : Bt) (named : Int) (x : Nd) : Option ((Bt → Bool) × Bt × Int) :=
  if leB x.path last = true ∨ isPath x.path = false then none
  else if D (upP x.path) = false then none
  else if x.file = -1 ∧ okMode x.mode = true then some (fun y => y == x.path || D y, x.path, named)
  else if nameB x = true ∧ x.file ≤ named then some (D, x.path, max named (x.file + 1))
  else none
def walkT : (Bt → Bool) → Bt → Int → List Nd → Option Int
  | _, _, k, [] => some k
  | D, l, k, x :: r => match nodeT D l k x with
    | none => none
    | some (D', l', k') => walkT D' l' k' r
def root : Bt → Bool := fun y => y == [] || false
def looseB (ns : List Nd) (fs : List Fl) : Bool := match walkT root [] 0 ns with
  | none => false
  | some k => decide (k = fs.length) && !anyWrong fs
def looseE (ns : List Nd) (fs : List Fl) : Int := if tooB ns.length fs then 31 else if looseB ns fs then 0 else 30
end Go.Tre
namespace Go.Proofs.Ytdnagkgblmcojaa
open Go.Pth Go.Tre Go.RowKit Go.Word

set_option maxRecDepth 100000 in
theorem tooGreat_any (NA FA : Option Addr) (n nc mc : Nat) (fs : List Fl) (w : World) (h : FilesAt w FA fs) :
    Calls Try.prog 38 #[.agg #[.slice NA n nc, .slice FA fs.length mc]] w fun e w' => e = .returned (.bool (tooB n fs)) ∧ Below w.heap.size w w' := by
  have L := lies_new w 25 #[.slice NA n nc, .slice FA fs.length mc]
  have c0 : (w.alloc (.cells #[.slice NA n nc, .slice FA fs.length mc] 25)).cell? ⟨w.heap.size, 0, none⟩ = some (.slice NA n nc) := lies_cell L 0
  have c1 : (w.alloc (.cells #[.slice NA n nc, .slice FA fs.length mc] 25)).cell? ⟨w.heap.size, 1, none⟩ = some (.slice FA fs.length mc) := lies_cell L 1
  have hb : Below w.heap.size w (w.alloc (.cells #[.slice NA n nc, .slice FA fs.length mc] 25)) := (Below.refl _ _).alloc (Nat.le_refl _) _
  have K := fun (hm : fs.length ≤ 1000000) => Lib.hid (great_contains FA mc fs _ hm (filesAt_below h hb))
  have HB := Lib.hid hb
  clear L h hb
  by_cases h1 : 256 < n
  · have hr : tooB n fs = true := by simp [tooB, h1]
    have t1 : 256 < (n : Int) := by omega
    have t2 : decide (256 < n) = true := decide_eq_true h1
    rw [hr]
    clear hr K
    generalize fs.length = m at *
    go_enter Try.func38, Try.ntmps38
    go_wp2
    go_ret
    exact ⟨rfl, HB.out⟩
  · have t1 : ¬ 256 < (n : Int) := by omega
    have t2 : decide (256 < n) = false := decide_eq_false h1
    by_cases h2 : 256 < fs.length
    · have hr : tooB n fs = true := by simp [tooB, h2]
      have s1 : 256 < (fs.length : Int) := by omega
      have s2 : decide (256 < fs.length) = true := decide_eq_true h2
      rw [hr]
      clear hr K
      generalize fs.length = m at *
      go_enter Try.func38, Try.ntmps38
      go_wp2
      go_ret
      exact ⟨rfl, HB.out⟩
    · have hr : tooB n fs = anyGreat fs := by simp [tooB, h1, h2]
      have s1 : ¬ 256 < (fs.length : Int) := by omega
      have s2 : decide (256 < fs.length) = false := decide_eq_false h2
      have K2 := K (by omega)
      rw [hr]
      change Hid (Calls _ _ _ _ fun e w' => e = .returned (.bool (anyGreat fs)) ∧ _) at K2
      clear hr K
      generalize anyGreat fs = r at *
      generalize fs.length = m at *
      go_enter Try.func38, Try.ntmps38
      go_wp2_with (go_at_call 42; (with_reducible refine K2.out.mono ?_); rintro e w1 ⟨rfl, hb⟩; have HB1 := Lib.hid (HB.out.trans (hb.mono HB.out.size)); clear hb)
      go_ret
      exact ⟨rfl, HB1.out⟩

end Go.Proofs.Ytdnagkgblmcojaa
