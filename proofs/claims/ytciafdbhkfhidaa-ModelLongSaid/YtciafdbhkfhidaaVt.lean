/-
What is proved here: a step of sync on any tree, by a contract.
-/
import Derived.Test.YtciafdbhkfhidaaVr
set_option linter.unusedSimpArgs false
set_option linter.unusedVariables false
namespace Go.Proofs.Ytciafdbhkfhidaa
open Go.Pth Go.Tre Go.RowKit Go.Word Go.Mod
theorem zero29 (w : World) : (zeroValue 29).run Try.prog w = .ok (.agg #[.slice none 0 0, .slice none 0 0]) w := by kernel_rfl
set_option maxRecDepth 100000 in
set_option maxHeartbeats 4000000 in
theorem step_sync (NA FA : Option Addr) (n nc fl fc : Nat) (p q m r S : Value) (hp : p.oneCell' = true) (hq : q.oneCell' = true) (hm : m.oneCell' = true) (hr : r.oneCell' = true) (w : World) :
    Calls Try.prog 13 #[.agg #[.slice NA n nc, .slice FA fl fc], .agg #[.int .i64 9, p, q, m, r], S] w fun e w' => e = .returned (.tuple #[.agg #[.slice NA n nc, .slice FA fl fc], .int .i64 0]) ∧ Below w.heap.size w w' := by
  have hz := zero29
  have HB := Lib.hid (show Below w.heap.size w (((w.alloc (.cells #[.slice NA n nc, .slice FA fl fc] 29)).alloc (.cells #[.int .i64 9, p, q, m, r] 25)).alloc (.cells #[.slice none 0 0, .slice none 0 0] 29)) from (((Below.refl _ _).alloc (Nat.le_refl _) _).alloc (by simp) _).alloc (by simp; omega) _)
  have LT := Lib.hid (lies_alloc (lies_alloc (lies_new w 29 #[.slice NA n nc, .slice FA fl fc]) (.cells #[.int .i64 9, p, q, m, r] 25)) (.cells #[.slice none 0 0, .slice none 0 0] 29))
  have LI := lies_new (w.alloc (.cells #[.slice NA n nc, .slice FA fl fc] 29)) 25 #[.int .i64 9, p, q, m, r]
  rw [World.size_alloc] at LI
  have LI := Lib.hid (lies_alloc LI (.cells #[.slice none 0 0, .slice none 0 0] 29))
  have LR := lies_new ((w.alloc (.cells #[.slice NA n nc, .slice FA fl fc] 29)).alloc (.cells #[.int .i64 9, p, q, m, r] 25)) 29 #[.slice none 0 0, .slice none 0 0]
  simp only [World.size_alloc] at LR
  have LR := Lib.hid LR
  go_enter Try.func13, Try.ntmps13
  go_upto_region 1 with (fail)
  clear hz
  generalize ((w.alloc (.cells #[.slice NA n nc, .slice FA fl fc] 29)).alloc (.cells #[.int .i64 9, p, q, m, r] 25)).alloc (.cells #[.slice none 0 0, .slice none 0 0] 29) = X at *
  have LTD := Lib.hid (show Lies X.drew w.heap.size 29 #[.slice NA n nc, .slice FA fl fc] from LT.out)
  have LID := Lib.hid (show Lies X.drew (w.heap.size + 1) 25 #[.int .i64 9, p, q, m, r] from LI.out)
  go_cut [8] from 10 to 14 (fun v8 wx => v8 = .int .i64 0 ∧ Below X.heap.size X wx)
  case first =>
    have t0 := lies_cell LT.out 0
    have t1 := lies_cell LT.out 1
    have i0 := lies_cell LI.out 0
    have i1 := lies_cell LI.out 1
    have i2 := lies_cell LI.out 2
    have i3 := lies_cell LI.out 3
    have i4 := lies_cell LI.out 4
    simp only [List.getElem?_toArray, List.getElem?_cons_zero, List.getElem?_cons_succ] at t0 t1 i0 i1 i2 i3 i4
    go_region_with (first
      | (go_at_call 22; (with_reducible refine (view_any NA FA n nc fl fc _).mono ?_); rintro e w1 ⟨rfl, hb, hT⟩; have LI1 := lies_below LID.out hb (lies_lt LID.out); have i0 := lies_cell LI1 0; have i1 := lies_cell LI1 1; have i2 := lies_cell LI1 2; have i3 := lies_cell LI1 3; have i4 := lies_cell LI1 4; simp only [List.getElem?_toArray, List.getElem?_cons_zero, List.getElem?_cons_succ] at i0 i1 i2 i3 i4; have B1 := Lib.hid hb; have KR := Lib.hid (fun V F hV => refuses_sync V p q m r S n F hV w1); clear hb hT LI1)
      | (go_at_call 23; (with_reducible refine (KR.out _ _ rfl).mono ?_); rintro e w2 ⟨rfl, hb⟩; have B2 := Lib.hid (B1.out.trans (hb.mono B1.out.size)); clear hb))
    all_goals (go_wp2_with fail; go_meet; exact ⟨rfl, (Below.refl X.heap.size X).drew.trans B2.out⟩)
  case rest =>
    obtain ⟨rfl, hb⟩ := hcut
    have LT1 := lies_below LT.out hb (lies_lt LT.out)
    have LI1 := lies_below LI.out hb (lies_lt LI.out)
    have LR1 := Lib.hid (lies_below LR.out hb (lies_lt LR.out))
    have t0 := lies_cell LT1 0
    have t1 := lies_cell LT1 1
    have i0 := lies_cell LI1 0
    simp only [List.getElem?_toArray, List.getElem?_cons_zero, List.getElem?_cons_succ] at t0 t1 i0
    have W3 := Lib.hid (below_setRow (HB.out.trans (hb.mono HB.out.size)) (g := w.heap.size + 1 + 1) (by omega) #[.slice NA n nc, .slice FA fl fc])
    clear hb LT1 LI1 LT LI LR LTD LID
    go_wp2_with (refine wpList_store_row rfl 29 _ _ rfl (w.heap.size + 1 + 1) #[.slice NA n nc, .slice FA fl fc] rfl rfl 29 _ LR1.out (by kernel_rfl) rfl (by simp [Value.oneCell']) ?_)
    refine bodyPost_ret (results_row_tmp rfl _ _ (w.heap.size + 1 + 1) 29 #[.slice NA n nc, .slice FA fl fc] (0, 0) _ rfl _ rfl (lies_setRow LR1.out _) Try.underlying29 rfl (by kernel_rfl)) rfl ?_
    exact ⟨rfl, W3.out⟩
end Go.Proofs.Ytciafdbhkfhidaa
