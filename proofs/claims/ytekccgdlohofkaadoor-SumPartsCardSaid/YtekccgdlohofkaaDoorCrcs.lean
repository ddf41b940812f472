/-
What is proved here: the law SumCRC's walk.
-/
import Derived.Test.YtekccgdlohofkaaDoorLent
set_option linter.unusedSimpArgs false
namespace Go.Proofs.YtekccgdlohofkaaDoor
open Go.Word Go.RowKit

theorem refcrc_v (A : Option Addr) (k c : Nat) (b : List (BitVec 8)) (w : World) (hb : b.length = k) (hs : Byt w A b) (hk : k ≤ 20000) (v : Int) (hv : more 0 b = v) :
    Calls Tryd.prog 16 #[.slice A k c] w fun e w' => e = .returned (.int .i64 v) ∧ w = w' := (refcrc_any A k c b w hb hs (by omega)).mono fun _ _ h => ⟨by rw [← hv]; exact h.1, h.2⟩
theorem refmore_v (crc : Int) (A : Option Addr) (k c : Nat) (b : List (BitVec 8)) (w : World) (hb : b.length = k) (hs : Byt w A b) (hk : k ≤ 20000) (v : Int) (hv : more crc b = v) :
    Calls Tryd.prog 17 #[.int .i64 crc, .slice A k c] w fun e w' => e = .returned (.int .i64 v) ∧ w = w' := (refmore_any crc A k c b w hb hs (by omega)).mono fun _ _ h => ⟨by rw [← hv]; exact h.1, h.2⟩
theorem byt_front {w : World} {A : Option Addr} {b : List (BitVec 8)} (h : Byt w A (b ++ [167#8])) : Byt w A b := by
  have := byt_take h b.length
  rwa [List.take_append_of_le_length (by omega), List.take_of_length_le (by omega)] at this

set_option maxHeartbeats 1000000 in
theorem crcs_any (A B : Option Addr) (k l c d : Nat) (x y : List (BitVec 8)) (m : Int) (w : World) (hx : x.length = k) (hy : y.length = l) (hB : B = none → d = 0) (hT : Tabs w) (s1 : Byt w A x) (s2 : Byt w B y) :
    Calls Tryd.prog 3 #[.slice A k c, .slice B l d, .int .i64 m] w fun e w' => e = .returned (.bool true) ∧ Below w.heap.size w w' := by
  have HT := Lib.hid hT
  have S1 := Lib.hid s1
  have S2 := Lib.hid s2
  have HX := Lib.hid hx
  have HY := Lib.hid hy
  have HB := Lib.hid hB
  clear hT s1 s2 hx hy hB
  by_cases h1 : 5000 < k
  · have t1 : decide ((5000 : Int) < (k : Int)) = true := decide_eq_true (by omega)
    go_enter Tryd.func3, Tryd.ntmps3
    go_wp2_with (go_at_call 11; (with_reducible refine (alive_any _ HT.out).mono ?_); rintro e w1 ⟨rfl, hb⟩; have H1 := Lib.hid hb; clear hb)
    go_ret
    exact ⟨rfl, H1.out⟩
  have t1 : decide ((5000 : Int) < (k : Int)) = false := decide_eq_false (by omega)
  by_cases h2 : 5000 < l
  · have t2 : decide ((5000 : Int) < (l : Int)) = true := decide_eq_true (by omega)
    go_enter Tryd.func3, Tryd.ntmps3
    go_wp2_with (go_at_call 11; (with_reducible refine (alive_any _ HT.out).mono ?_); rintro e w1 ⟨rfl, hb⟩; have H1 := Lib.hid hb; clear hb)
    go_ret
    exact ⟨rfl, H1.out⟩
  have t2 : decide ((5000 : Int) < (l : Int)) = false := decide_eq_false (by omega)
  have v3 : more (more 0 x) y = more (more 0 x) y := rfl
  obtain ⟨V, hV⟩ : ∃ V, V = more (more 0 x) y := ⟨_, rfl⟩
  obtain ⟨V0, hV0⟩ : ∃ V, V = more 0 x := ⟨_, rfl⟩
  obtain ⟨V1, hV1⟩ : ∃ V, V = more 0 y := ⟨_, rfl⟩
  obtain ⟨V2, hV2⟩ : ∃ V, V = more m y := ⟨_, rfl⟩
  rw [← hV0] at hV
  have G := Lib.hid hV.symm
  have G0 := Lib.hid hV0.symm
  have G1 := Lib.hid hV1.symm
  have G2 := Lib.hid hV2.symm
  clear hV hV0 hV1 hV2 v3
  go_enter Tryd.func3, Tryd.ntmps3
  go_upto_region 5 with (first
    | (go_at_call 11; (with_reducible refine (alive_any _ HT.out).mono ?_); rintro e w1 ⟨rfl, hb⟩; have H1 := Lib.hid hb; clear hb)
    | (go_at_call 12; (with_reducible refine (lent_any B l d y _ HY.out HB.out (byt_below S2.out H1.out) (by omega)).mono ?_); rintro e w2 ⟨g, cg, rfl, hcg, hO, hb⟩; have O2 := Lib.hid hO; have H2 := Lib.hid hb; clear hO hb))
  have W2 := H1.out.trans (H2.out.mono H1.out.size)
  have T2 := tabs_below HT.out W2
  have P1 := byt_below S1.out W2
  have P2 := byt_below S2.out W2
  have P3 : Byt w2 (some ⟨g, 0, none⟩) (y ++ [167#8]) := own_byt O2.out
  have P4 := byt_front P3
  have F1 := Lib.hid (crc_v (some ⟨g, 0, none⟩) l cg y w2 HY.out T2 P4 (by omega) V1 G1.out)
  have F2 := Lib.hid (more_v m (some ⟨g, 0, none⟩) l cg y w2 HY.out T2 P4 (by omega) V2 G2.out)
  have F3 := Lib.hid (crc_v A k c x w2 HX.out T2 P1 (by omega) V0 G0.out)
  have F4 := Lib.hid (more_v V0 (some ⟨g, 0, none⟩) l cg y w2 HY.out T2 P4 (by omega) V G.out)
  have F5 := Lib.hid (stays_any (some ⟨g, 0, none⟩) B l cg d y w2 HY.out P3 hcg P2 (by omega))
  have F6 := Lib.hid (refcrc_v B l d y w2 HY.out P2 (by omega) V1 G1.out)
  have F7 := Lib.hid (refmore_v m B l d y w2 HY.out P2 (by omega) V2 G2.out)
  have F8 := Lib.hid (refcrc_v A k c x w2 HX.out P1 (by omega) V0 G0.out)
  have F9 := Lib.hid (refmore_v V0 B l d y w2 HY.out P2 (by omega) V G.out)
  have HW := Lib.hid W2
  clear W2 T2 P1 P2 P3 P4
  go_wp2_with (first
    | (go_at_call 13; (with_reducible refine F1.out.mono ?_); rintro e w' ⟨rfl, rfl⟩)
    | (go_at_call 14; (with_reducible refine F2.out.mono ?_); rintro e w' ⟨rfl, rfl⟩)
    | (go_at_call 13; (with_reducible refine F3.out.mono ?_); rintro e w' ⟨rfl, rfl⟩)
    | (go_at_call 14; (with_reducible refine F4.out.mono ?_); rintro e w' ⟨rfl, rfl⟩)
    | (go_at_call 15; (with_reducible refine F5.out.mono ?_); rintro e w' ⟨rfl, rfl⟩)
    | (go_at_call 16; (with_reducible refine F6.out.mono ?_); rintro e w' ⟨rfl, rfl⟩)
    | (go_at_call 17; (with_reducible refine F7.out.mono ?_); rintro e w' ⟨rfl, rfl⟩)
    | (go_at_call 16; (with_reducible refine F8.out.mono ?_); rintro e w' ⟨rfl, rfl⟩)
    | (go_at_call 17; (with_reducible refine F9.out.mono ?_); rintro e w' ⟨rfl, rfl⟩))
  go_ret
  exact ⟨rfl, HW.out⟩
end Go.Proofs.YtekccgdlohofkaaDoor
