/-
What is proved here: what an instruction asks of what is at a path, by contracts.
-/
import Derived.Test.YtciafdbhkfhidaaMem
set_option linter.unusedSimpArgs false
set_option linter.unusedVariables false
namespace Go.Mod
/-- nothing is there -/
def nothingE (k : Int) : Int := if k = 0 then 0 else 23
def someE (k : Int) : Int := if k = 0 then 21 else 0
def fileE (k : Int) : Int := if k = 1 then 24 else someE k
def folderE (k : Int) : Int := if k = 2 then 22 else someE k
def emptyE (k : Int) (b : Bool) : Int := if b = true then 25 else folderE k
end Go.Mod
namespace Go.Proofs.Ytciafdbhkfhidaa
open Go.Pth Go.Tre Go.RowKit Go.Word Go.Mod
theorem nothing_any (k : Int) (b : Bool) (w : World) : Calls Try.prog 36 #[.agg #[.int .i64 k, .bool b]] w fun e w' => e = .returned (.int .i64 (nothingE k)) ∧ Below w.heap.size w w' := by
  have HB := Lib.hid (((Below.refl w.heap.size w).alloc (Nat.le_refl _) (.cells #[.int .i64 k, .bool b] 81)))
  by_cases h : k = 0
  · have e : nothingE k = 0 := by unfold nothingE; rw [if_pos h]
    rw [e]
    subst h
    go_enter Try.func36, Try.ntmps36
    go_wp2
    go_ret
    exact ⟨rfl, HB.out⟩
  · have e : nothingE k = 23 := by unfold nothingE; rw [if_neg h]
    rw [e]
    have h1 : (k != 0) = true := by simpa using h
    go_enter Try.func36, Try.ntmps36
    go_wp2
    go_ret
    exact ⟨rfl, HB.out⟩
theorem some_any (k : Int) (b : Bool) (w : World) : Calls Try.prog 48 #[.agg #[.int .i64 k, .bool b]] w fun e w' => e = .returned (.int .i64 (someE k)) ∧ Below w.heap.size w w' := by
  have HB := Lib.hid (((Below.refl w.heap.size w).alloc (Nat.le_refl _) (.cells #[.int .i64 k, .bool b] 81)))
  by_cases h : k = 0
  · have e : someE k = 21 := by unfold someE; rw [if_pos h]
    rw [e]
    subst h
    go_enter Try.func48, Try.ntmps48
    go_wp2
    go_ret
    exact ⟨rfl, HB.out⟩
  · have e : someE k = 0 := by unfold someE; rw [if_neg h]
    rw [e]
    have h1 : (k == 0) = false := by simpa using h
    go_enter Try.func48, Try.ntmps48
    go_wp2
    go_ret
    exact ⟨rfl, HB.out⟩
theorem file_any (k : Int) (b : Bool) (w : World) : Calls Try.prog 43 #[.agg #[.int .i64 k, .bool b]] w fun e w' => e = .returned (.int .i64 (fileE k)) ∧ Below w.heap.size w w' := by
  have hB := ((Below.refl w.heap.size w).alloc (Nat.le_refl _) (.cells #[.int .i64 k, .bool b] 81))
  have HB := Lib.hid hB
  by_cases h : k = 1
  · have e : fileE k = 24 := by unfold fileE; rw [if_pos h]
    rw [e]
    subst h
    clear hB
    go_enter Try.func43, Try.ntmps43
    go_wp2
    go_ret
    exact ⟨rfl, HB.out⟩
  · have e : fileE k = someE k := by unfold fileE; rw [if_neg h]
    rw [e]
    have h1 : (k == 1) = false := by simpa using h
    have KS := Lib.hid (some_any k b (w.alloc (.cells #[.int .i64 k, .bool b] 81)))
    clear hB e
    generalize someE k = z at *
    go_enter Try.func43, Try.ntmps43
    go_wp2_with (go_at_call 48; (with_reducible refine KS.out.mono ?_); rintro e w1 ⟨rfl, hb⟩; have B1 := Lib.hid (HB.out.trans (hb.mono HB.out.size)); clear hb)
    go_ret
    exact ⟨rfl, B1.out⟩
theorem folder_any (k : Int) (b : Bool) (w : World) : Calls Try.prog 58 #[.agg #[.int .i64 k, .bool b]] w fun e w' => e = .returned (.int .i64 (folderE k)) ∧ Below w.heap.size w w' := by
  have hB := ((Below.refl w.heap.size w).alloc (Nat.le_refl _) (.cells #[.int .i64 k, .bool b] 81))
  have HB := Lib.hid hB
  by_cases h : k = 2
  · have e : folderE k = 22 := by unfold folderE; rw [if_pos h]
    rw [e]
    subst h
    clear hB
    go_enter Try.func58, Try.ntmps58
    go_wp2
    go_ret
    exact ⟨rfl, HB.out⟩
  · have e : folderE k = someE k := by unfold folderE; rw [if_neg h]
    rw [e]
    have h1 : (k == 2) = false := by simpa using h
    have KS := Lib.hid (some_any k b (w.alloc (.cells #[.int .i64 k, .bool b] 81)))
    clear hB e
    generalize someE k = z at *
    go_enter Try.func58, Try.ntmps58
    go_wp2_with (go_at_call 48; (with_reducible refine KS.out.mono ?_); rintro e w1 ⟨rfl, hb⟩; have B1 := Lib.hid (HB.out.trans (hb.mono HB.out.size)); clear hb)
    go_ret
    exact ⟨rfl, B1.out⟩
theorem empty_any (k : Int) (b : Bool) (w : World) : Calls Try.prog 41 #[.agg #[.int .i64 k, .bool b]] w fun e w' => e = .returned (.int .i64 (emptyE k b)) ∧ Below w.heap.size w w' := by
  have hB := ((Below.refl w.heap.size w).alloc (Nat.le_refl _) (.cells #[.int .i64 k, .bool b] 81))
  have HB := Lib.hid hB
  cases b with
  | true =>
    have e : emptyE k true = 25 := rfl
    rw [e]
    clear hB
    go_enter Try.func41, Try.ntmps41
    go_wp2
    go_ret
    exact ⟨rfl, HB.out⟩
  | false =>
    have e : emptyE k false = folderE k := rfl
    rw [e]
    have KS := Lib.hid (folder_any k false (w.alloc (.cells #[.int .i64 k, .bool false] 81)))
    clear hB e
    generalize folderE k = z at *
    go_enter Try.func41, Try.ntmps41
    go_wp2_with (go_at_call 58; (with_reducible refine KS.out.mono ?_); rintro e w1 ⟨rfl, hb⟩; have B1 := Lib.hid (HB.out.trans (hb.mono HB.out.size)); clear hb)
    go_ret
    exact ⟨rfl, B1.out⟩
end Go.Proofs.Ytciafdbhkfhidaa
