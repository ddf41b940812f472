/-
What is proved here: the law SumSHA's walk.
-/
import Derived.Test.YtekccgdlohofkaaDoorRefC
import Derived.Test.YtekccgdlohofkaaDoorSame
import Derived.Test.YtekccgdlohofkaaDoorCrcs
import Derived.Deep.RegionHeld3
set_option linter.unusedSimpArgs false
namespace Go.Proofs.YtekccgdlohofkaaDoor
open Go.Word Go.RowKit

/-- a digest's value as a list of cells that nobody looks into -/
def Dig (D : List Value) (b : List (BitVec 8)) : Prop := D = (yRow (sha key b) 32).toList
theorem dig_row {D : List Value} {b : List (BitVec 8)} (h : Dig D b) : yRow (sha key b) 32 = D.toArray := by rw [h]
theorem dig_eql {D : List Value} {b : List (BitVec 8)} (h : Dig D b) (W : World) : (binOp .eql 30 (.agg D.toArray) (.agg D.toArray)).run Tryd.prog W = .ok (.bool true) W := by
  rw [← dig_row h]; exact eql_digest _ W
theorem dig_neq {D : List Value} {b : List (BitVec 8)} (h : Dig D b) (W : World) : (binOp .neq 30 (.agg D.toArray) (.agg D.toArray)).run Tryd.prog W = .ok (.bool false) W := by
  rw [← dig_row h]; exact neq_digest _ W
theorem dig_len {D : List Value} {b : List (BitVec 8)} (h : Dig D b) : (Tryd.prog.info? 30).map (·.size) = some D.length := by
  rw [h, Array.length_toList, yRow_size]; kernel_rfl
theorem dig_one {D : List Value} {b : List (BitVec 8)} (h : Dig D b) : D.toArray.all (·.oneCell') = true := by
  rw [← dig_row h]; exact yRow_one _ _
theorem dig_sha {D : List Value} (A : Option Addr) (k c : Nat) (b : List (BitVec 8)) (hD : Dig D b) (w : World) (hb : b.length = k) (hT : Tabs w) (hs : Byt w A b) (hc : k ≤ c) (hn : k ≤ 20000) :
    Calls Tryd.prog 18 #[.slice A k c] w fun e w' => e = .returned (.agg D.toArray) ∧ Below w.heap.size w w' := by
  rw [← dig_row hD]; exact sha_any A k c b w hb hT.1 hs hc (by omega)
theorem dig_ref {D : List Value} (A : Option Addr) (k c : Nat) (b : List (BitVec 8)) (hD : Dig D b) (w : World) (hb : b.length = k) (hs : Byt w A b) (hA : A = none → c = 0) (hn : k ≤ 20000) :
    Calls Tryd.prog 19 #[.slice A k c] w fun e w' => e = .returned (.agg D.toArray) ∧ Below w.heap.size w w' := by
  rw [← dig_row hD]; exact refsha_any A k c b w hb hA hs hn
theorem range_below {W w' : World} {h : Nat} {D : List Value} (hr : W.rangeAt h 0 D) (hh : h < W.heap.size) (hb : Below W.heap.size W w') : w'.rangeAt h 0 D := fun j v hj => by
  rw [hb.cell (by exact hh)]; exact hr j v hj
theorem up {W W' w' : World} (h : Below W.heap.size W W') (hb : Below W'.heap.size W' w') : Below W.heap.size W w' := h.trans (hb.mono h.size)

/-- a digest laid in a block of its own -/
theorem behind_d {w3 W : World} {o : Array Value} {D : List Value} (hW : (w3.alloc (.cells o 30)).setRow w3.heap.size D.toArray = W) : W.rangeAt w3.heap.size 0 D ∧ w3.heap.size < W.heap.size ∧ Below w3.heap.size w3 W := by
  subst hW
  refine ⟨?_, by simp, below_setRow (below_new w3 _) (Nat.le_refl _) _⟩
  exact range_of (lies_setRow (lies_new w3 30 o) D.toArray) (fun j v h => by rw [Nat.zero_add]; simpa using h)

set_option maxHeartbeats 1000000 in
theorem shas_any (B : Option Addr) (l d : Nat) (y : List (BitVec 8)) (w : World) (hy : y.length = l) (hB : B = none → d = 0) (hT : Tabs w) (s2 : Byt w B y) :
    Calls Tryd.prog 4 #[.slice B l d] w fun e w' => e = .returned (.bool true) ∧ Below w.heap.size w w' := by
  have HT := Lib.hid hT
  have S2 := Lib.hid s2
  have HY := Lib.hid hy
  have HB := Lib.hid hB
  clear hT s2 hy hB
  by_cases h2 : 5000 < l
  · have t2 : decide ((5000 : Int) < (l : Int)) = true := decide_eq_true (by omega)
    go_enter Tryd.func4, Tryd.ntmps4
    go_wp2_with (go_at_call 11; (with_reducible refine (alive_any _ HT.out).mono ?_); rintro e w1 ⟨rfl, hb⟩; have H1 := Lib.hid hb; clear hb)
    go_ret
    exact ⟨rfl, H1.out⟩
  have t2 : decide ((5000 : Int) < (l : Int)) = false := decide_eq_false (by omega)
  obtain ⟨D, hD⟩ : ∃ D, Dig D y := ⟨_, rfl⟩
  have HD := Lib.hid hD
  clear hD
  go_enter Tryd.func4, Tryd.ntmps4
  go_upto_region 5 with (first
    | (go_at_call 11; (with_reducible refine (alive_any _ HT.out).mono ?_); rintro e w1 ⟨rfl, hb⟩; have H1 := Lib.hid hb; clear hb)
    | (go_at_call 12; (with_reducible refine (lent_any B l d y _ HY.out HB.out (byt_below S2.out H1.out) (by omega)).mono ?_); rintro e w2 ⟨g, cg, rfl, hcg, hO, hb⟩; have O2 := Lib.hid hO; have H2 := Lib.hid hb; clear hO hb))
  have W2 := H1.out.trans (H2.out.mono H1.out.size)
  have T2 := tabs_below HT.out W2
  have P2 := byt_below S2.out W2
  have P3 : Byt w2 (some ⟨g, 0, none⟩) (y ++ [167#8]) := own_byt O2.out
  have P4 := byt_front P3
  have F1 := Lib.hid (dig_sha (some ⟨g, 0, none⟩) l cg y HD.out w2 HY.out T2 P4 (by omega) (by omega))
  have HP2 := Lib.hid P2
  have HP3 := Lib.hid P3
  have HW2 := Lib.hid W2
  clear P2 P3 P4 T2 W2
  go_upto_region 6 with (first
    | (go_at_call 18; (with_reducible refine F1.out.mono ?_); rintro e w3 ⟨rfl, hb⟩; have H3 := Lib.hid hb; clear hb)
    | (refine wpList_store_row rfl 30 _ _ rfl _ D.toArray rfl rfl 30 _ (lies_new _ _ _) (by have := dig_len HD.out; rw [List.size_toArray]; exact this) (by have := dig_len HD.out; rw [List.size_toArray]; exact (Option.some.inj (this.symm.trans (by kernel_rfl))).symm) (dig_one HD.out) ?_))
  generalize hW : World.setRow _ w3.heap.size D.toArray = W
  obtain ⟨r1, r2, r3⟩ := behind_d hW
  have b3 := up H3.out r3
  have P2 := byt_below HP2.out b3
  have P3 := byt_below HP3.out b3
  have F5 := Lib.hid (fun W' (h : Below W.heap.size W W') => stays_any (some ⟨g, 0, none⟩) B l cg d y W' HY.out (byt_below P3 h) hcg (byt_below P2 h) (by omega))
  have F6 := Lib.hid (fun W' (h : Below W.heap.size W W') => dig_ref B l d y HD.out W' HY.out (byt_below P2 h) HB.out (by omega))
  have HWW := Lib.hid (up HW2.out b3)
  have HR := Lib.hid (show W.rangeAt w3.heap.size 0 D ∧ w3.heap.size < W.heap.size from ⟨r1, r2⟩)
  clear hW r1 r2 r3 b3 P2 P3 H3 F1 HP2 HP3 HW2 H1 H2 O2
  have de := dig_eql HD.out
  have dl := dig_len HD.out
  have du := Tryd.underlying30
  go_region_held3 (fun w' => Below W.heap.size W w' ∧ w'.rangeAt w3.heap.size 0 D)
    (first
      | exact ⟨Below.drew (Below.refl _ _), HR.out.1⟩
      | exact ⟨up (‹Below W.heap.size W _ ∧ _›).1 (by assumption), range_below HR.out.1 HR.out.2 (up (‹Below W.heap.size W _ ∧ _›).1 (by assumption))⟩
      | assumption)
    (first
      | (go_at_call 15; (with_reducible refine (F5.out _ (by first | exact (‹Below W.heap.size W _ ∧ _›).1 | exact Below.drew (Below.refl _ _))).mono ?_); rintro e w' ⟨rfl, rfl⟩)
      | (go_at_call 19; (with_reducible refine (F6.out _ (by first | exact (‹Below W.heap.size W _ ∧ _›).1 | exact Below.drew (Below.refl _ _))).mono ?_); rintro e w' ⟨rfl, hb⟩))
  have hB := (‹Below W.heap.size W _ ∧ _›).1
  have HB2 := Lib.hid (up HWW.out hB)
  clear hB
  go_wp2
  go_ret
  exact ⟨rfl, HB2.out⟩
end Go.Proofs.YtekccgdlohofkaaDoor
