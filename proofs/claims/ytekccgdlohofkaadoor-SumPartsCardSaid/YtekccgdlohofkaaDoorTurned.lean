/-
What is proved here: the law SumTurned's walk.
-/
import Derived.Test.YtekccgdlohofkaaDoorTell
set_option linter.unusedSimpArgs false
namespace Go.Proofs.YtekccgdlohofkaaDoor
open Go.Word Go.RowKit

theorem own_some {w : World} {base n c : Nat} {A : Option Addr} {b : List (BitVec 8)} (h : Own w base (.slice A n c) b) (hb : 0 < b.length) :
    ∃ g, A = some ⟨g, 0, none⟩ ∧ base ≤ g ∧ g < w.heap.size ∧ ∀ j, j < b.length → w.cell? ⟨g, j, none⟩ = some (Y (b.getD j 0)) ∧ w.frozen? ⟨g, j, none⟩ = false := by
  have hy := own_byt h hb
  rcases h.2 with ⟨_, h1⟩ | ⟨g, cap, cur, hv, hB, hg, _⟩
  · omega
  · injection hv with hA _ _
    subst hA
    obtain ⟨ad, e, hl, hc⟩ := hy
    injection e with e
    subst e
    refine ⟨g, rfl, hB, hl, fun j hj => ⟨?_, lies_free (t := 5) (cs := cur) hg j⟩⟩
    have := hc j hj
    rw [Addr.add_mid, Nat.zero_add] at this
    exact this
theorem byt_set {w : World} {g m : Nat} {b : List (BitVec 8)} (hg : g < w.heap.size) (hc : ∀ j, j < b.length → w.cell? ⟨g, j, none⟩ = some (Y (b.getD j 0)) ∧ w.frozen? ⟨g, j, none⟩ = false) (hm : m < b.length) (y : BitVec 8) :
    Byt (w.setCell ⟨g, m, none⟩ (Y y)) (some ⟨g, 0, none⟩) (b.set m y) := fun _ => by
  refine ⟨_, rfl, by simpa [World.setCell] using hg, fun j hj => ?_⟩
  rw [List.length_set] at hj
  rw [Addr.add_mid, Nat.zero_add]
  by_cases e : m = j
  · subst e
    rw [World.cell?_setCell_same _ _ _ (hc m hm).1, List.getD_eq_getElem?_getD, List.getElem?_set_self (by omega)]
    rfl
  · rw [World.cell?_setCell_other _ _ _ _ (by intro h; injection h with _ h2; omega), (hc j hj).1, List.getD_eq_getElem?_getD, List.getD_eq_getElem?_getD, List.getElem?_set_ne e]
attribute [local go_sem] y_xor

set_option maxHeartbeats 1000000 in
theorem turned_any (A : Option Addr) (k c : Nat) (b : List (BitVec 8)) (m z : Int) (w : World) (hb : b.length = k) (hA : A = none → c = 0) (hT : Tabs w) (hs : Byt w A b) :
    Calls Tryd.prog 7 #[.slice A k c, .int .i64 m, .int .i64 z] w fun e w' => e = .returned (.bool true) ∧ Below w.heap.size w w' := by
  have HT := Lib.hid hT
  have HS := Lib.hid hs
  have HB := Lib.hid hb
  have HA := Lib.hid hA
  clear hT hs hb hA
  by_cases h1 : 5000 < k
  · have t1 : decide ((5000 : Int) < (k : Int)) = true := decide_eq_true (by omega)
    go_enter Tryd.func7, Tryd.ntmps7
    go_wp2_with (go_at_call 11; (with_reducible refine (alive_any _ HT.out).mono ?_); rintro e w1 ⟨rfl, hb⟩; have H1 := Lib.hid hb; clear hb)
    go_ret
    exact ⟨rfl, H1.out⟩
  have t1 : decide ((5000 : Int) < (k : Int)) = false := decide_eq_false (by omega)
  by_cases h2 : m < 0
  · have t2 : decide (m < 0) = true := decide_eq_true h2
    go_enter Tryd.func7, Tryd.ntmps7
    go_wp2_with (go_at_call 11; (with_reducible refine (alive_any _ HT.out).mono ?_); rintro e w1 ⟨rfl, hb⟩; have H1 := Lib.hid hb; clear hb)
    go_ret
    exact ⟨rfl, H1.out⟩
  obtain ⟨m, rfl⟩ : ∃ n : Nat, m = n := ⟨m.toNat, by omega⟩
  have t2 : decide ((m : Int) < 0) = false := by simp
  by_cases h3 : k ≤ m
  · have t3 : decide (k ≤ m) = true := decide_eq_true h3
    go_enter Tryd.func7, Tryd.ntmps7
    go_wp2_with (go_at_call 11; (with_reducible refine (alive_any _ HT.out).mono ?_); rintro e w1 ⟨rfl, hb⟩; have H1 := Lib.hid hb; clear hb)
    go_ret
    exact ⟨rfl, H1.out⟩
  have t3 : decide (k ≤ m) = false := decide_eq_false h3
  by_cases h4 : BitVec.ofInt 8 z = 0
  · have t4 : (bits .and .i64 z 255 == 0) = true := by rw [and255, h4]; rfl
    go_enter Tryd.func7, Tryd.ntmps7
    go_wp2_with (go_at_call 11; (with_reducible refine (alive_any _ HT.out).mono ?_); rintro e w1 ⟨rfl, hb⟩; have H1 := Lib.hid hb; clear hb)
    go_ret
    exact ⟨rfl, H1.out⟩
  have t4 : (bits .and .i64 z 255 == 0) = false := by
    rw [and255]
    have : (BitVec.ofInt 8 z).toNat ≠ 0 := fun e => h4 (BitVec.eq_of_toNat_eq (by rw [e]; rfl))
    simp only [beq_eq_false_iff_ne, ne_eq]
    omega
  obtain ⟨x0, hx0⟩ : ∃ x, x = b.getD m 0 := ⟨_, rfl⟩
  obtain ⟨y, hy⟩ : ∃ y, y = x0 ^^^ BitVec.ofInt 8 z := ⟨_, rfl⟩
  have hne : y ≠ b.getD m 0 := by
    rw [hy, ← hx0]
    intro e
    have : x0 ^^^ BitVec.ofInt 8 z = x0 ^^^ 0 := by rw [e]; simp
    exact h4 ((BitVec.xor_right_inj _).1 this)
  have HX := Lib.hid hx0
  clear hx0
  have HY := Lib.hid hy
  have HN := Lib.hid hne
  clear hy hne h4
  go_enter Tryd.func7, Tryd.ntmps7
  go_upto_region 5 with (first
    | (go_at_call 11; (with_reducible refine (alive_any _ HT.out).mono ?_); rintro e w1 ⟨rfl, hb⟩; have H1 := Lib.hid hb; clear hb)
    | (refine wpList_app rfl _ (.tmp 29) rfl w1.heap.size (.slice none 0 0) [] rfl (own_nil _ _) A k c b rfl HB.out (byt_below HS.out H1.out) HA.out k (by simp) (by omega) (Nat.le_refl _) ?_; intro A1 c1 w2 o1 b1 l1 n1; have O1 := Lib.hid o1; have B1 := Lib.hid b1; clear o1 b1 n1))
  obtain ⟨g, rfl, hg, hg2, hc⟩ := own_some (show Own w2 w1.heap.size (.slice A1 k c1) b from O1.out) (by rw [HB.out]; omega)
  have cm := (hc m (by rw [HB.out]; omega)).1
  rw [← HX.out] at cm
  have fm := (hc m (by rw [HB.out]; omega)).2
  have hmk : m < k := by omega
  have P2 := byt_set hg2 hc (by rw [HB.out]; exact hmk) y
  have HP := Lib.hid P2
  clear hc P2 O1
  go_upto_region 6 with (rw [store_ys]; go_simp)
  rw [← HY.out]
  have W2 : Below w.heap.size w w2 := H1.out.trans (B1.out.mono H1.out.size)
  have hgw : w.heap.size ≤ g := Nat.le_trans H1.out.size hg
  have W3 : Below w.heap.size w (w2.setCell ⟨g, m, none⟩ (Y y)) := W2.setCell hgw _
  have T3 := tabs_below HT.out W3
  have P1 := byt_below HS.out W3
  obtain ⟨V, hV⟩ : ∃ V, V = more 0 b := ⟨_, rfl⟩
  obtain ⟨V', hV'⟩ : ∃ V, V = more 0 (b.set m y) := ⟨_, rfl⟩
  have hVV : V ≠ V' := by rw [hV, hV']; exact more_turned (by rw [HB.out]; exact hmk) HN.out 0
  have hdec : (V != V') = true := by simpa using hVV
  have HD := Lib.hid hdec
  clear hdec
  have F1 := Lib.hid (crc_v A k c b _ HB.out T3 P1 (by omega) V hV.symm)
  have F2 := Lib.hid (crc_v (some ⟨g, 0, none⟩) k c1 (b.set m y) _ (by rw [List.length_set, HB.out]) T3 HP.out (by omega) V' hV'.symm)
  have HW := Lib.hid W3
  clear W2 W3 T3 P1 hV hV' cm fm
  generalize w2.setCell ⟨g, m, none⟩ (Y y) = w3 at *
  go_wp2_with (first
    | (go_at_call 13; (with_reducible refine F1.out.mono ?_); rintro e w' ⟨rfl, rfl⟩)
    | (go_at_call 13; (with_reducible refine F2.out.mono ?_); rintro e w' ⟨rfl, rfl⟩))
  go_ret
  exact ⟨by show Ending.returned (.bool (V != V')) = _; rw [HD.out], HW.out⟩
end Go.Proofs.YtekccgdlohofkaaDoor
