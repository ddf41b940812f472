/-
What is proved here: what order refuses over the empty tree, and Order without thrift there, by contracts.
-/
import Derived.Test.YtnbjfmkckebfgaaGreatOlo
import Derived.Test.YtnbjfmkckebfgaaGreatRno
set_option linter.unusedSimpArgs false
set_option linter.unusedVariables false
namespace Go.Proofs.YtnbjfmkckebfgaaGreat
open Go.Cmp Go.RowKit
def noT : Value := .agg #[.slice Option.none 0 0, .slice Option.none 0 0]
set_option maxRecDepth 100000 in
set_option maxHeartbeats 4000000 in
/-- needs that are taken -/
theorem ocheck_any (AA LA : Option Addr) (an ac lc : Nat) (G S : Gr) (hG : Ok G) (hn : G.length ≤ 1024) (hg : ∀ l ∈ G, l.length ≤ 1024) (hS : Groups G S) (w : World) (hL : LsAt w LA (zg G)) (han : an ≤ 1000000000) :
    Calls Tryz.prog 8 #[.agg #[.slice Option.none 0 0, .slice Option.none 0 0], .slice AA an ac, .slice LA G.length lc] w fun e w' => e = .returned (.int .i64 (if an ≠ G.length then 1 else if 0 < (S.filter fun r => !stillP G r).length then 33 else 0)) ∧ Below w.heap.size w w' := by
  have hb0 : Below w.heap.size w (w.alloc (.cells #[.slice Option.none 0 0, .slice Option.none 0 0] 34)) := (Below.refl _ _).alloc (Nat.le_refl _) _
  have LB := lies_new w 34 #[.slice Option.none 0 0, .slice Option.none 0 0]
  have HB0 := Lib.hid hb0
  have SZ := Lib.hid (World.size_alloc w (.cells #[.slice Option.none 0 0, .slice Option.none 0 0] 34))
  have KL := Lib.hid (loose_no (w.alloc (.cells #[.slice Option.none 0 0, .slice Option.none 0 0] 34)))
  have KR := Lib.hid (fun (W : World) (hb : Below w.heap.size w W) => show Calls Tryz.prog 13 #[.slice LA G.length lc] W (fun e w' => ∃ A C, e = .returned (.tuple #[.slice A (S.filter fun r => !stillP G r).length C, .int .i64 0]) ∧ Below W.heap.size W w') from (round_all LA lc G hG hn hg W (lsAt_below hL hb)).mono fun e w' ⟨A', C, es, he, hGr, _, hB⟩ => ⟨A', C, by
    rw [groups_eq hS hGr, List.filter_map, List.length_map]
    exact he, hB⟩)
  obtain ⟨n, hnn⟩ : ∃ n, n = G.length := ⟨_, rfl⟩
  obtain ⟨r, hr⟩ : ∃ r, r = (S.filter fun r => !stillP G r).length := ⟨_, rfl⟩
  rw [← hnn] at hn
  rw [← hnn, ← hr] at KR ⊢
  clear hnn hr hb0 LB hL hS hG hg
  by_cases h1 : an = n
  · subst h1
    have e1 : ((an : Int) != (an : Int)) = false := by simp
    by_cases h2 : 0 < r
    · have e2 : (0 : Int) < (r : Int) := by omega
      obtain ⟨z, hz⟩ : ∃ z : Int, z = if an ≠ an then 1 else if 0 < r then 33 else 0 := ⟨_, rfl⟩
      rw [← hz]
      have HZ := Lib.hid (show z = 33 by rw [hz, if_neg (by simp), if_pos h2])
      clear hz h2
      go_enter Tryz.func8, Tryz.ntmps8
      go_upto_region 4 with (go_at_call 12; (with_reducible refine KL.out.mono ?_); rintro e w1 ⟨rfl, hb⟩; have W1 := Lib.hid (HB0.out.trans (hb.mono HB0.out.size)); clear hb)
      have K1 := Lib.hid (KR.out w1 W1.out)
      go_wp2_with (go_at_call 13; (with_reducible refine K1.out.mono ?_); rintro e w2 ⟨GA, gc, rfl, hb⟩; have W2 := Lib.hid (W1.out.trans (hb.mono W1.out.size)); clear hb)
      go_ret
      exact ⟨by rw [HZ.out]; rfl, W2.out⟩
    · have e2 : ¬ (0 : Int) < (r : Int) := by omega
      obtain ⟨z, hz⟩ : ∃ z : Int, z = if an ≠ an then 1 else if 0 < r then 33 else 0 := ⟨_, rfl⟩
      rw [← hz]
      have HZ := Lib.hid (show z = 0 by rw [hz, if_neg (by simp), if_neg h2])
      clear hz
      have h3 : r = 0 := by omega
      subst h3
      clear h2 e2
      go_enter Tryz.func8, Tryz.ntmps8
      go_upto_region 4 with (go_at_call 12; (with_reducible refine KL.out.mono ?_); rintro e w1 ⟨rfl, hb⟩; have W1 := Lib.hid (HB0.out.trans (hb.mono HB0.out.size)); clear hb)
      have K1 := Lib.hid (KR.out w1 W1.out)
      go_wp2_with (go_at_call 13; (with_reducible refine K1.out.mono ?_); rintro e w2 ⟨GA, gc, rfl, hb⟩; have W2 := Lib.hid (W1.out.trans (hb.mono W1.out.size)); clear hb)
      go_ret
      exact ⟨by rw [HZ.out]; rfl, W2.out⟩
  · have e1 : ((an : Int) != (n : Int)) = true := by simp; omega
    obtain ⟨z, hz⟩ : ∃ z : Int, z = if an ≠ n then 1 else if 0 < r then 33 else 0 := ⟨_, rfl⟩
    rw [← hz]
    have HZ := Lib.hid (show z = 1 by rw [hz, if_pos h1])
    clear hz h1
    go_enter Tryz.func8, Tryz.ntmps8
    go_upto_region 4 with (go_at_call 12; (with_reducible refine KL.out.mono ?_); rintro e w1 ⟨rfl, hb⟩; have W1 := Lib.hid (HB0.out.trans (hb.mono HB0.out.size)); clear hb)
    have K1 := Lib.hid (KR.out w1 W1.out)
    go_wp2_with (go_at_call 13; (with_reducible refine K1.out.mono ?_); rintro e w2 ⟨GA, gc, rfl, hb⟩; have W2 := Lib.hid (W1.out.trans (hb.mono W1.out.size)); clear hb)
    go_ret
    exact ⟨by rw [HZ.out]; rfl, W2.out⟩
set_option maxRecDepth 100000 in
set_option maxHeartbeats 4000000 in
/-- needs that are refused -/
theorem ocheck_bad (AA LA : Option Addr) (an ac lc : Nat) (N : List (List Int)) (hc : chk N ≠ 0) (w : World) (hL : LsAt w LA N) (hn : N.length ≤ 1000000000) (hs : ∀ l ∈ N, l.length ≤ 1000000000) :
    Calls Tryz.prog 8 #[.agg #[.slice Option.none 0 0, .slice Option.none 0 0], .slice AA an ac, .slice LA N.length lc] w fun e w' => e = .returned (.int .i64 (chk N)) ∧ Below w.heap.size w w' := by
  have hb0 : Below w.heap.size w (w.alloc (.cells #[.slice Option.none 0 0, .slice Option.none 0 0] 34)) := (Below.refl _ _).alloc (Nat.le_refl _) _
  have HB0 := Lib.hid hb0
  have KL := Lib.hid (loose_no (w.alloc (.cells #[.slice Option.none 0 0, .slice Option.none 0 0] 34)))
  have KR := Lib.hid (fun (W : World) (hb : Below w.heap.size w W) => round_bad LA lc N W (lsAt_below hL hb) hn hs hc)
  obtain ⟨z, hz⟩ : ∃ z, z = chk N := ⟨_, rfl⟩
  rw [← hz] at KR hc ⊢
  have ez : (z != 0) = true := by simp [hc]
  clear hz hc hb0 hL hn hs
  go_enter Tryz.func8, Tryz.ntmps8
  go_upto_region 4 with (go_at_call 12; (with_reducible refine KL.out.mono ?_); rintro e w1 ⟨rfl, hb⟩; have W1 := Lib.hid (HB0.out.trans (hb.mono HB0.out.size)); clear hb)
  have K1 := Lib.hid (KR.out w1 W1.out)
  go_wp2_with (go_at_call 13; (with_reducible refine K1.out.mono ?_); rintro e w2 ⟨rfl, hb⟩; have W2 := Lib.hid (W1.out.trans (hb.mono W1.out.size)); clear hb)
  go_ret
  exact ⟨rfl, W2.out⟩
end Go.Proofs.YtnbjfmkckebfgaaGreat
