/-
What is proved here: package comp's check of needs, by a contract.
-/
import Derived.Test.YtnbjfmkckebfgaaGreatChk
import Derived.Laws.EntriesVeiled
set_option linter.unusedSimpArgs false
set_option linter.unusedVariables false
namespace Go.Proofs.YtnbjfmkckebfgaaGreat
open Go.Cmp Go.RowKit
/-- what is wrong with needs -/
def chk (N : List (List Int)) : Int := if 1024 < N.length ∨ N.any longP = true then 2 else if N.any (badP N.length) = true then 1 else 0
theorem below_alloc (w : World) (o : Obj) : Below w.heap.size w (w.alloc o) := (Below.refl _ w).alloc (Nat.le_refl _) _
set_option maxRecDepth 100000 in
set_option maxHeartbeats 2000000 in
theorem check_any (A : Option Addr) (c : Nat) (N : List (List Int)) (w : World) (hL : LsAt w A N) (hn : N.length ≤ 1000000000) (hs : ∀ l ∈ N, l.length ≤ 1000000000) :
    Calls Tryz.prog 35 #[.slice A N.length c] w fun e w' => e = .returned (.int .i64 (chk N)) ∧ Below w.heap.size w w' := by
  have b1 := below_alloc w (.cells #[.slice A N.length c] 24)
  have l1 := lsAt_below hL b1
  have KA := Lib.hid (con29_any A c N _ l1 hn)
  have LB := Lib.hid (lies_new w 24 #[.slice A N.length c])
  have HB := Lib.hid b1
  have HL := Lib.hid l1
  have HS := Lib.hid hs
  have HH := Lib.hid hn
  have c0 := lies_cell LB.out 0
  simp only [List.getElem?_toArray, List.getElem?_cons_zero] at c0
  unfold chk
  obtain ⟨n, hnn⟩ : ∃ n, n = N.length := ⟨_, rfl⟩
  have HN := Lib.hid hnn
  rw [← hnn] at KA LB HB HL c0 ⊢
  clear hL hn hs hnn b1 l1
  obtain ⟨r, hr⟩ : ∃ r, r = (if 1024 < n ∨ N.any longP = true then (2 : Int) else if N.any (badP n) = true then 1 else 0) := ⟨_, rfl⟩
  rw [← hr]
  have HR := Lib.hid hr
  clear hr
  by_cases h1 : 1024 < n
  · have h1i : (1024 : Int) < (n : Int) := by omega
    have e2 : r = 2 := by rw [HR.out, if_pos (.inl h1)]
    clear HR
    subst e2
    go_enter Tryz.func35, Tryz.ntmps35
    go_wp2
    go_ret
    exact ⟨rfl, HB.out⟩
  · have h1i : ¬ (1024 : Int) < (n : Int) := by omega
    cases hb : N.any longP with
    | true =>
      rw [hb] at KA
      have e2 : r = 2 := by rw [HR.out, if_pos (.inr hb)]
      clear HR hb
      subst e2
      go_enter Tryz.func35, Tryz.ntmps35
      go_upto_region 2 with (fail)
      generalize w.alloc (.cells #[.slice A n c] 24) = X at *
      go_wp2_with (go_at_call 56; (with_reducible refine KA.out.mono ?_); rintro e w1 ⟨rfl, rfl⟩)
      go_ret
      exact ⟨rfl, HB.out⟩
    | false =>
      rw [hb] at KA
      have HR2 := Lib.hid (show r = if N.any (badP n) = true then (1 : Int) else 0 by rw [HR.out, if_neg (by rw [hb]; simp; omega)])
      clear HR hb
      go_enter Tryz.func35, Tryz.ntmps35
      go_upto_region 2 with (fail)
      generalize w.alloc (.cells #[.slice A n c] 24) = X at *
      go_upto_region 4 with (go_at_call 56; (with_reducible refine KA.out.mono ?_); rintro e w1 ⟨rfl, rfl⟩)
      generalize w1 = Y at *
      have L1 := lies_new Y 36 #[.nilFunc]
      have c1 := lies_cell L1 0
      have f1 := lies_free L1 0
      simp only [List.getElem?_toArray, List.getElem?_cons_zero] at c1
      clear c0
      have c0 := lies_cell (lies_alloc LB.out (.cells #[.nilFunc] 36)) 0
      simp only [List.getElem?_toArray, List.getElem?_cons_zero] at c0
      have L2 := Lib.hid L1
      clear L1
      go_upto_region 5 with (fail)
      have hb4 := below_alloc Y (.cells #[.func (.func 57) #[] #[.pointer (some ⟨w.heap.size, 0, none⟩)]] 36)
      have LN := lies_new Y 36 #[.func (.func 57) #[] #[.pointer (some ⟨w.heap.size, 0, none⟩)]]
      have LB2 := Lib.hid (lies_alloc LB.out (.cells #[.func (.func 57) #[] #[.pointer (some ⟨w.heap.size, 0, none⟩)]] 36))
      have HL2 := Lib.hid (lsAt_below HL.out hb4)
      have HB2 := Lib.hid (HB.out.trans (hb4.mono HB.out.size))
      generalize Y.alloc (.cells #[.func (.func 57) #[] #[.pointer (some ⟨w.heap.size, 0, none⟩)]] 36) = Z at *
      have KB := Lib.hid (con32_any A c N Z HL2.out HH.out HS.out n c A w.heap.size Y.heap.size LB2.out LN)
      rw [← HN.out] at KB
      clear c0 c1 f1 LN hb4
      have c0 := lies_cell LB2.out 0
      simp only [List.getElem?_toArray, List.getElem?_cons_zero] at c0
      cases hp : N.any (badP n) with
      | true =>
        rw [hp] at KB
        have e2 : r = 1 := by rw [HR2.out, if_pos hp]
        clear HR2 hp
        subst e2
        go_wp2_with (go_at_call 56; (with_reducible refine KB.out.mono ?_); rintro e w1 ⟨rfl, rfl⟩)
        go_ret
        exact ⟨rfl, HB2.out⟩
      | false =>
        rw [hp] at KB
        have e2 : r = 0 := by rw [HR2.out, if_neg (by rw [hp]; simp)]
        clear HR2 hp
        subst e2
        go_wp2_with (go_at_call 56; (with_reducible refine KB.out.mono ?_); rintro e w1 ⟨rfl, rfl⟩)
        go_ret
        exact ⟨rfl, HB2.out⟩
end Go.Proofs.YtnbjfmkckebfgaaGreat
