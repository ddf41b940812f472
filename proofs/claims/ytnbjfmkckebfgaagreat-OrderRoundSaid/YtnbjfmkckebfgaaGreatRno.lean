/-
What is proved here: package comp's Round of whatever needs are taken, none too, by a contract.
-/
import Derived.Test.YtnbjfmkckebfgaaGreatDel
set_option linter.unusedSimpArgs false
set_option linter.unusedVariables false
namespace Go.Proofs.YtnbjfmkckebfgaaGreat
open Go.Cmp Go.RowKit
set_option maxRecDepth 100000 in
theorem index_nil (A : Option Addr) (C : Nat) (f : Value) (w : World) : Calls Tryz.prog 61 #[.slice A 0 C, f] w fun e w' => e = .returned (.int .i64 (-1)) ∧ w' = w := by
  go_enter Tryz.func61, Tryz.ntmps61
  go_wp2
  go_loopw [8] (fun v8 wr => v8 = .int .i64 0 ∧ wr = w) (fun _ _ => 0)
  case atStart => exact ⟨rfl, (by first | rfl | trivial)⟩
  case round =>
    obtain ⟨rfl, rfl⟩ := hrel
    go_wp2
    go_ret
    exact ⟨rfl, rfl⟩
set_option maxRecDepth 100000 in
theorem del_nil (A : Option Addr) (C : Nat) (f : Value) (w : World) : Calls Tryz.prog 38 #[.slice A 0 C, f] w fun e w' => e = .returned (.slice A 0 C) ∧ w' = w := by
  go_enter Tryz.func38, Tryz.ntmps38
  go_wp2_with (go_at_call 61; (with_reducible refine (index_nil _ _ _ _).mono ?_); rintro e w1 ⟨rfl, h⟩; have h := h.symm; subst h)
  go_ret
  exact ⟨rfl, rfl⟩
set_option maxRecDepth 100000 in
set_option maxHeartbeats 2000000 in
theorem round_nil (LA : Option Addr) (lc : Nat) (w : World) (hL : LsAt w LA (zg [])) : Calls Tryz.prog 13 #[.slice LA 0 lc] w (RndE [] w) := by
  have hb0 := below_alloc w (.cells #[.slice LA 0 lc] 24)
  have kc := check_any LA lc (zg []) _ (lsAt_below hL hb0) (by simp) (fun l hl => by cases hl)
  rw [show chk (zg []) = 0 from chk_ok (G := []) (fun l hl => by cases hl) (by simp) (fun l hl => by cases hl), show (zg []).length = 0 from rfl] at kc
  have LB := lies_new w 24 #[.slice LA 0 lc]
  have cb := lies_cell LB 0
  simp only [List.getElem?_toArray, List.getElem?_cons_zero] at cb
  have KC := Lib.hid kc
  have HB0 := Lib.hid hb0
  have HLB := Lib.hid LB
  have SZ := Lib.hid (World.size_alloc w (.cells #[.slice LA 0 lc] 24))
  have KG := Lib.hid (fun (W : World) (hb : Below w.heap.size w W) => show Calls Tryz.prog 39 #[.slice LA 0 lc] W (GpsE [] W) from groups_any LA lc [] (fun l hl => by cases hl) (by simp) (fun l hl => by cases hl) W (lsAt_below hL hb))
  clear kc hL hb0 LB
  go_enter Tryz.func13, Tryz.ntmps13
  go_upto_region 1 with (fail)
  generalize w.alloc (.cells #[.slice LA 0 lc] 24) = X at *
  go_upto_region 2 with (go_at_call 35; (with_reducible refine KC.out.mono ?_); rintro e w1 ⟨rfl, hb⟩; have L1 := Lib.hid (lies_below HLB.out hb (by have := SZ.out; omega)); have W1 := Lib.hid (HB0.out.trans (hb.mono HB0.out.size)); have c1 := lies_cell L1.out 0; simp only [List.getElem?_toArray, List.getElem?_cons_zero] at c1; clear hb cb)
  have K1 := Lib.hid (KG.out _ W1.out)
  go_wp2_with (first
    | (go_at_call 39; (with_reducible refine K1.out.mono ?_); rintro e w2 ⟨GA, gc, es, rfl, hS, hE, hb⟩; obtain rfl : es = [] := (by
        cases es with
        | nil => rfl
        | cons a t =>
          obtain ⟨r, hr, _⟩ := hS.scc a.r (by simp)
          exact absurd (hS.lt a.r (by simp) r hr) (Nat.not_lt_zero r)); have B2 := Lib.hid hb; have HS := Lib.hid hS; have HE := Lib.hid hE; clear hb hS hE)
    | (go_at_call 38; (with_reducible refine (del_nil _ _ _ _).mono ?_); rintro e w3 ⟨rfl, h⟩; have h := h.symm; subst h))
  go_ret2
  exact ⟨GA, gc, [], rfl, HS.out, ⟨HE.out.row.mono W1.out.size, (fun e he => by cases he), .nil⟩, W1.out.trans (B2.out.mono W1.out.size)⟩
theorem round_all (LA : Option Addr) (lc : Nat) (G : Gr) (hG : Ok G) (hn : G.length ≤ 1024) (hg : ∀ l ∈ G, l.length ≤ 1024) (w : World) (hL : LsAt w LA (zg G)) : Calls Tryz.prog 13 #[.slice LA G.length lc] w (RndE G w) := by
  cases G with
  | nil => exact round_nil LA lc w hL
  | cons a t => exact round_any LA lc (a :: t) hG (by simp) hn hg w hL
end Go.Proofs.YtnbjfmkckebfgaaGreat
