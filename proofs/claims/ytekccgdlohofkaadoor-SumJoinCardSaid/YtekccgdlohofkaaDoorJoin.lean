/-
What is proved here: the law SumJoin's walk.
-/
import Derived.Test.YtekccgdlohofkaaDoorApp
set_option linter.unusedSimpArgs false
namespace Go.Proofs.YtekccgdlohofkaaDoor
open Go.Word Go.RowKit

set_option maxHeartbeats 1000000 in
theorem join_any (A B C : Option Addr) (k l m c d e : Nat) (x y z : List (BitVec 8)) (w : World) (hx : x.length = k) (hy : y.length = l) (hz : z.length = m) (hB : B = none → d = 0) (hC : C = none → e = 0) (hT : Tabs w) (s1 : Byt w A x) (s2 : Byt w B y) (s3 : Byt w C z) :
    Calls Tryd.prog 10 #[.slice A k c, .slice B l d, .slice C m e] w fun e w' => e = .returned (.bool true) ∧ Below w.heap.size w w' := by
  have HT := Lib.hid hT
  have S1 := Lib.hid s1
  have S2 := Lib.hid s2
  have S3 := Lib.hid s3
  have HX := Lib.hid hx
  have HY := Lib.hid hy
  have HZ := Lib.hid hz
  have HB := Lib.hid hB
  have HC := Lib.hid hC
  clear hT s1 s2 s3 hx hy hz hB hC
  by_cases h1 : 5000 < k
  · have t1 : decide ((5000 : Int) < (k : Int)) = true := decide_eq_true (by omega)
    go_enter Tryd.func10, Tryd.ntmps10
    go_wp2_with (go_at_call 11; (with_reducible refine (alive_any _ HT.out).mono ?_); rintro e w1 ⟨rfl, hb⟩; have H1 := Lib.hid hb; clear hb)
    go_ret
    exact ⟨rfl, H1.out⟩
  · have t1 : decide ((5000 : Int) < (k : Int)) = false := decide_eq_false (by omega)
    by_cases h2 : 5000 < l
    · have t2 : decide ((5000 : Int) < (l : Int)) = true := decide_eq_true (by omega)
      go_enter Tryd.func10, Tryd.ntmps10
      go_wp2_with (go_at_call 11; (with_reducible refine (alive_any _ HT.out).mono ?_); rintro e w1 ⟨rfl, hb⟩; have H1 := Lib.hid hb; clear hb)
      go_ret
      exact ⟨rfl, H1.out⟩
    · have t2 : decide ((5000 : Int) < (l : Int)) = false := decide_eq_false (by omega)
      by_cases h3 : 5000 < m
      · have t3 : decide ((5000 : Int) < (m : Int)) = true := decide_eq_true (by omega)
        go_enter Tryd.func10, Tryd.ntmps10
        go_wp2_with (go_at_call 11; (with_reducible refine (alive_any _ HT.out).mono ?_); rintro e w1 ⟨rfl, hb⟩; have H1 := Lib.hid hb; clear hb)
        go_ret
        exact ⟨rfl, H1.out⟩
      · have t3 : decide ((5000 : Int) < (m : Int)) = false := decide_eq_false (by omega)
        have v1 : more (more 0 x) y = more 0 (x ++ y) := more_more 0 x y
        have v2 : more (more 0 (x ++ y)) z = more 0 (x ++ (y ++ z)) := by rw [more_more, List.append_assoc]
        have v3 : more (more 0 x) (y ++ z) = more 0 (x ++ (y ++ z)) := more_more 0 x (y ++ z)
        obtain ⟨V, hV⟩ : ∃ V, V = more 0 (x ++ (y ++ z)) := ⟨_, rfl⟩
        obtain ⟨V2, hV2⟩ : ∃ V, V = more 0 (x ++ y) := ⟨_, rfl⟩
        obtain ⟨V1, hV1⟩ : ∃ V, V = more 0 x := ⟨_, rfl⟩
        rw [← hV1, ← hV2] at v1
        rw [← hV2, ← hV] at v2
        rw [← hV1, ← hV] at v3
        have G1 := Lib.hid v1
        have G2 := Lib.hid v2
        have G3 := Lib.hid v3
        have G0 := Lib.hid hV1.symm
        clear v1 v2 v3 hV hV2 hV1
        go_enter Tryd.func10, Tryd.ntmps10
        go_upto_region 5 with (first
          | (go_at_call 11; (with_reducible refine (alive_any _ HT.out).mono ?_); rintro e w1 ⟨rfl, hb⟩; have H1 := Lib.hid hb; clear hb)
          | (refine wpList_app rfl _ (.tmp 28) rfl w1.heap.size (.slice none 0 0) [] rfl (own_nil _ _) B l d y rfl HY.out (byt_below S2.out H1.out) HB.out l (by simp) (by omega) (Nat.le_refl _) ?_; intro A1 c1 w2 o1 b1 l1 n1; have O1 := Lib.hid o1; have B1 := Lib.hid b1; have N1 := Lib.hid n1; clear o1 b1 n1)
          | (refine wpList_app rfl (.tmp 29) (.tmp 30) rfl w1.heap.size (.slice A1 l c1) ([] ++ y) rfl O1.out C m e z rfl HZ.out (byt_below S3.out (H1.out.trans (B1.out.mono H1.out.size))) HC.out (l + m) (by simp [HY.out]) (by omega) B1.out.size ?_; intro A2 c2 w3 o2 b2 l2 n2; have O2 := Lib.hid o2; have B2 := Lib.hid b2; clear o2 b2 n2))
        have W3 := H1.out.trans ((B1.out.trans B2.out).mono H1.out.size)
        have T3 := tabs_below HT.out W3
        have P1 := byt_below S1.out W3
        have P2 := byt_below S2.out W3
        have P3 := byt_below S3.out W3
        have P4 : Byt w3 A2 (y ++ z) := own_byt O2.out
        have F1 := Lib.hid (crc_v A k c x w3 HX.out T3 P1 (by omega) V1 G0.out)
        have F2 := Lib.hid (more_v V1 B l d y w3 HY.out T3 P2 (by omega) V2 G1.out)
        have F3 := Lib.hid (more_v V2 C m e z w3 HZ.out T3 P3 (by omega) V G2.out)
        have F4 := Lib.hid (more_v V1 A2 (l + m) c2 (y ++ z) w3 (by rw [List.length_append, HY.out, HZ.out]) T3 P4 (by omega) V G3.out)
        have HW := Lib.hid W3
        clear W3 T3 P1 P2 P3 P4
        go_wp2_with (first
          | (go_at_call 13; (with_reducible refine F1.out.mono ?_); rintro e w' ⟨rfl, rfl⟩)
          | (go_at_call 14; (with_reducible refine F2.out.mono ?_); rintro e w' ⟨rfl, rfl⟩)
          | (go_at_call 14; (with_reducible refine F3.out.mono ?_); rintro e w' ⟨rfl, rfl⟩)
          | (go_at_call 14; (with_reducible refine F4.out.mono ?_); rintro e w' ⟨rfl, rfl⟩))
        go_ret
        exact ⟨rfl, HW.out⟩
end Go.Proofs.YtekccgdlohofkaaDoor
