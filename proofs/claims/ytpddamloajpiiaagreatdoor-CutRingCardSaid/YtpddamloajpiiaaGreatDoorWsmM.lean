/-
What is proved here: cut's small calls (with, instead, takes, movable) and the copy of actions, by contracts.
-/
import Derived.Test.YtpddamloajpiiaaGreatDoorWthM
import Derived.Test.YtpddamloajpiiaaGreatDoorTemM
import Derived.Deep.MidRow
import Derived.Shelf.SlicesE.Clone
set_option linter.unusedSimpArgs false
set_option linter.unusedVariables false
namespace Go.Proofs.YtpddamloajpiiaaGreatDoor
open Go.Cmp Go.RowKit Go.Cut Go.Pth Go.Word Go.Shelf
attribute [local go_sem] guard_eq guard_ne st_eql st_neq
def acC (a : Ac) : List Value := [.int .i64 a.op, St a.p, St a.t, .int .i64 a.mode, .int .i64 a.ref]
def acV (a : Ac) : Value := .agg #[.int .i64 a.op, St a.p, St a.t, .int .i64 a.mode, .int .i64 a.ref]
def acs (l : List Ac) : List Value := l.flatMap acC
/-- actions in a slice -/
def ActsAt (w : World) (A : Option Addr) (l : List Ac) : Prop := ∀ i (h : i < l.length), ∃ b o, A = some ⟨b, o, none⟩ ∧ b < w.heap.size ∧ w.rangeAt b (o + i * 5) (acC l[i])
theorem actsAt_below {w w' : World} {A : Option Addr} {l : List Ac} (h : ActsAt w A l) (hb : Below w.heap.size w w') : ActsAt w' A l := fun i hi => by
  obtain ⟨b, o, e, hl, hr⟩ := h i hi
  exact ⟨b, o, e, Nat.lt_of_lt_of_le hl hb.size, fun j v hj => (hb.cell (p := ⟨b, o + i * 5 + j, none⟩) hl).trans (hr j v hj)⟩
theorem with_any (p : Int) (w : World) :
    Calls Tryz.prog 61 #[.int .i64 p] w fun e w' => e = .returned (.func (.func 87) #[] #[.pointer (some ⟨w.heap.size, 0, none⟩)]) ∧ w' = w.alloc (.cells #[.int .i64 p] 3) := by
  go_enter Tryz.func61, Tryz.ntmps61
  go_wp2
  go_ret
  exact ⟨rfl, rfl⟩
theorem store_fn (P : Program) (w : World) (a : Addr) (f : Fn) (l b : Array Value) : (store a (.func f l b)).run P w = stored P w a (.func f l b) .plain := run_store P w a _ .plain rfl
attribute [local go_sem] store_fn
/-- what instead tells: a function value over three new blocks -/
structure InsF (w : World) (of p : Int) (e : Ending) (w' : World) : Prop where
  eq : e = .returned (.func (.func 88) #[] #[.pointer (some ⟨w.heap.size, 0, none⟩), .pointer (some ⟨w.heap.size + 2, 0, none⟩)])
  fo : Lies w' w.heap.size 3 #[.int .i64 of]
  fp : Lies w' (w.heap.size + 1) 3 #[.int .i64 p]
  ft : Lies w' (w.heap.size + 2) 58 #[.func (.func 87) #[] #[.pointer (some ⟨w.heap.size + 1, 0, none⟩)]]
  low : Below w.heap.size w w'
theorem instead_any (of p : Int) (w : World) : Calls Tryz.prog 62 #[.int .i64 of, .int .i64 p] w (InsF w of p) := by
  have e1 : (w.alloc (.cells #[.int .i64 of] 3)).heap.size = w.heap.size + 1 := by simp
  have K := Lib.hid (with_any p (w.alloc (.cells #[.int .i64 of] 3)))
  go_enter Tryz.func62, Tryz.ntmps62
  go_wp2_with (go_at_call 61; (with_reducible refine K.out.mono ?_); rintro e w1 ⟨rfl, rfl⟩)
  go_ret
  have L1 := lies_new w 3 #[.int .i64 of]
  have L2 := lies_new (w.alloc (.cells #[.int .i64 of] 3)) 3 #[.int .i64 p]
  refine ⟨?_, ?_, ?_, ?_, ?_⟩
  · simp [go_sem]
  · exact lies_alloc (lies_alloc L1 _) _
  · rw [e1] at L2; exact lies_alloc L2 _
  · have L3 := lies_new ((w.alloc (.cells #[.int .i64 of] 3)).alloc (.cells #[.int .i64 p] 3)) 58 #[.func (.func 87) #[] #[.pointer (some ⟨w.heap.size + 1, 0, none⟩)]]
    simpa using L3
  · exact (((Below.refl _ w).alloc (Nat.le_refl _) _).alloc (by simp) _).alloc (by simp; omega) _
end Go.Proofs.YtpddamloajpiiaaGreatDoor
