/-
What is proved here: the law SumAgain's walk.
-/
import Derived.Test.YtekccgdlohofkaaDoorLens
set_option linter.unusedSimpArgs false
namespace Go.Proofs.YtekccgdlohofkaaDoor
open Go.Word Go.RowKit

theorem range_up {B : Nat} {W w' : World} {h : Nat} {D : List Value} (hr : W.rangeAt h 0 D) (hh : h < B) (hb : Below B W w') : w'.rangeAt h 0 D := fun j v hj => by
  rw [hb.cell (by exact hh)]; exact hr j v hj
theorem range_only {W w' : World} {h g : Nat} {D : List Value} (hr : W.rangeAt h 0 D) (hh : h < W.heap.size) (hne : h ≠ g) (hb : W.grownBy w' (some g)) : w'.rangeAt h 0 D := fun j v hj => by
  rw [only_cell hb (by exact hh) (by exact hne)]; exact hr j v hj
theorem src_none (w : World) (g : Nat) : Src w g none [] := fun h => absurd h (by simp)
theorem dig_size {D : List Value} {b : List (BitVec 8)} (h : Dig D b) : D.length = 32 := by rw [h, Array.length_toList, yRow_size]

set_option maxHeartbeats 2000000 in
theorem agns_any (A B : Option Addr) (k l c d : Nat) (x y : List (BitVec 8)) (w : World) (hx : x.length = k) (hy : y.length = l) (hc : k ≤ c) (hd : l ≤ d) (hA : A = none → c = 0) (hB : B = none → d = 0) (hT : Tabs w) (s1 : Byt w A x) (s2 : Byt w B y) :
    Calls Tryd.prog 9 #[.slice A k c, .slice B l d] w fun e w' => e = .returned (.bool true) ∧ Below w.heap.size w w' := by
  have HT := Lib.hid hT
  have S1 := Lib.hid s1
  have S2 := Lib.hid s2
  have HX := Lib.hid hx
  have HY := Lib.hid hy
  have HA := Lib.hid hA
  have HB := Lib.hid hB
  have HC := Lib.hid hc
  have HD := Lib.hid hd
  clear hT s1 s2 hx hy hA hB hc hd
  by_cases h1 : 5000 < k
  · have t1 : decide ((5000 : Int) < (k : Int)) = true := decide_eq_true (by omega)
    go_enter Tryd.func9, Tryd.ntmps9
    go_wp2_with (go_at_call 11; (with_reducible refine (alive_any _ HT.out).mono ?_); rintro e w1 ⟨rfl, hb⟩; have H1 := Lib.hid hb; clear hb)
    go_ret
    exact ⟨rfl, H1.out⟩
  have t1 : decide ((5000 : Int) < (k : Int)) = false := decide_eq_false (by omega)
  by_cases h2 : 5000 < l
  · have t2 : decide ((5000 : Int) < (l : Int)) = true := decide_eq_true (by omega)
    go_enter Tryd.func9, Tryd.ntmps9
    go_wp2_with (go_at_call 11; (with_reducible refine (alive_any _ HT.out).mono ?_); rintro e w1 ⟨rfl, hb⟩; have H1 := Lib.hid hb; clear hb)
    go_ret
    exact ⟨rfl, H1.out⟩
  have t2 : decide ((5000 : Int) < (l : Int)) = false := decide_eq_false (by omega)
  obtain ⟨D, hD⟩ : ∃ D, Dig D x := ⟨_, rfl⟩
  obtain ⟨E, hE⟩ : ∃ E, Dig E (x ++ y) := ⟨_, rfl⟩
  have KD := Lib.hid hD
  have KE := Lib.hid hE
  have w2 := HT.out.1.1
  clear hD hE
  go_enter Tryd.func9, Tryd.ntmps9
  go_upto_region 7 with (first
    | (go_at_call 11; (with_reducible refine (alive_any _ HT.out).mono ?_); rintro e w1 ⟨rfl, hb⟩; have H1 := Lib.hid hb; clear hb)
    | (go_at_call 20; (with_reducible refine (new_at _).mono ?_); rintro e v1 ⟨g, rfl, hg, hh, hb2, hz2⟩; have HG := Lib.hid hg; have HH := Lib.hid hh; have H2 := Lib.hid hb2; clear hg hh hb2))
  clear t1 t2
  have hwg : w.heap.size ≤ g := by have := HG.out; have := H1.out.size; omega
  have g2 : 2 ≤ g := by omega
  have b1 := up H1.out H2.out
  have B1 := Lib.hid b1
  have F := Lib.hid (add_at g A k c [] x v1 HX.out (tabs_below HT.out b1).1 HH.out (src_of S1.out b1 hwg) g2 HC.out (by simp; omega))
  clear H1 HG HH H2 b1 hz2
  go_upto_region 8 with (go_at_call 21; (with_reducible refine F.out.mono ?_); rintro e v2 ⟨rfl, hh, hG⟩; have HH := Lib.hid (show Hash v2 g x from has_hash hh); have HG := Lib.hid hG; clear hh hG)
  have b2 := only_up B1.out HG.out hwg
  have B2 := Lib.hid b2
  have F2 := Lib.hid (dig_sum g x KD.out v2 (tabs_below HT.out b2) HH.out g2 (by rw [HX.out]; omega))
  clear F B1 HG b2
  go_upto_region 9 with (first
    | (go_at_call 22; (with_reducible refine F2.out.mono ?_); rintro e v3 ⟨rfl, hb⟩; have H3 := Lib.hid hb; clear hb)
    | (refine wpList_store_row rfl 30 _ _ rfl _ D.toArray rfl rfl 30 _ (lies_new _ _ _) (by have := dig_len KD.out; rw [List.size_toArray]; exact this) (by have := dig_len KD.out; rw [List.size_toArray]; exact (Option.some.inj (this.symm.trans (by kernel_rfl))).symm) (dig_one KD.out) ?_))
  generalize hW : World.setRow _ v3.heap.size D.toArray = W3
  obtain ⟨r1, r2, r3⟩ := behind_d hW
  have u3 := up H3.out r3
  have h3 := hash_below HH.out u3 (hash_lt HH.out)
  have gl3 : g < v3.heap.size := by have := H3.out.size; have := hash_lt HH.out; omega
  have b3 := up B2.out u3
  have HH3 := Lib.hid h3
  have B3 := Lib.hid b3
  have R3 := Lib.hid (show W3.rangeAt v3.heap.size 0 D ∧ v3.heap.size < W3.heap.size from ⟨r1, r2⟩)
  have F3 := Lib.hid (dig_sum g x KD.out W3 (tabs_below HT.out b3) h3 g2 (by rw [HX.out]; omega))
  obtain ⟨d1, hd1⟩ : ∃ d1, d1 = v3.heap.size := ⟨_, rfl⟩
  rw [← hd1] at R3 gl3 ⊢
  clear hW r1 r2 r3 u3 h3 b3 F2 B2 HH H3 hd1
  go_upto_region 10 with (first
    | (go_at_call 22; (with_reducible refine F3.out.mono ?_); rintro e v4 ⟨rfl, hb⟩; have H3 := Lib.hid hb; clear hb)
    | (refine wpList_store_row rfl 30 _ _ rfl _ D.toArray rfl rfl 30 _ (lies_new _ _ _) (by have := dig_len KD.out; rw [List.size_toArray]; exact this) (by have := dig_len KD.out; rw [List.size_toArray]; exact (Option.some.inj (this.symm.trans (by kernel_rfl))).symm) (dig_one KD.out) ?_))
  generalize hW : World.setRow _ v4.heap.size D.toArray = W4
  obtain ⟨r1, r2, r3⟩ := behind_d hW
  have u3 := up H3.out r3
  have h3 := hash_below HH3.out u3 (hash_lt HH3.out)
  have gl4 : g < v4.heap.size := by have := H3.out.size; have := hash_lt HH3.out; omega
  have b3 := up B3.out u3
  have l1 := R3.out.2
  have q1 := range_up R3.out.1 l1 u3
  have z1 : d1 < W4.heap.size := by have := u3.size; omega
  obtain ⟨d2, hd2⟩ : ∃ d2, d2 = v4.heap.size := ⟨_, rfl⟩
  rw [← hd2] at r1 r2 gl4 ⊢
  have R4 := Lib.hid (show W4.rangeAt d1 0 D ∧ W4.rangeAt d2 0 D ∧ d1 < W4.heap.size ∧ d2 < W4.heap.size from ⟨q1, r1, z1, r2⟩)
  have HH4 := Lib.hid h3
  have B4 := Lib.hid b3
  have F4 := Lib.hid (add_at g B l d x y W4 HY.out (tabs_below HT.out b3).1 h3 (src_of S2.out b3 hwg) g2 HD.out (by rw [HX.out]; omega))
  clear hW r1 r2 r3 u3 h3 b3 F3 B3 HH3 H3 R3 hd2 q1 z1 l1
  go_upto_region 11 with (go_at_call 21; (with_reducible refine F4.out.mono ?_); rintro e v5 ⟨rfl, hh, hG⟩; have HH5 := Lib.hid (show Hash v5 g (x ++ y) from has_hash hh); have HG := Lib.hid hG; clear hh hG)
  have b5 := only_up B4.out HG.out hwg
  have B5 := Lib.hid b5
  have z5 := HG.out.size
  have R5 := Lib.hid (show v5.rangeAt d1 0 D ∧ v5.rangeAt d2 0 D ∧ d1 < v5.heap.size ∧ d2 < v5.heap.size from ⟨range_only R4.out.1 R4.out.2.2.1 (by omega) HG.out, range_only R4.out.2.1 R4.out.2.2.2 (by omega) HG.out, by have := R4.out; omega, by have := R4.out; omega⟩)
  have F5 := Lib.hid (dig_sum g (x ++ y) KE.out v5 (tabs_below HT.out b5) HH5.out g2 (by rw [List.length_append, HX.out, HY.out]; omega))
  clear F4 B4 HG b5 HH4 R4 z5
  go_upto_region 12 with (first
    | (go_at_call 22; (with_reducible refine F5.out.mono ?_); rintro e v6 ⟨rfl, hb⟩; have H3 := Lib.hid hb; clear hb)
    | (refine wpList_store_row rfl 30 _ _ rfl _ E.toArray rfl rfl 30 _ (lies_new _ _ _) (by have := dig_len KE.out; rw [List.size_toArray]; exact this) (by have := dig_len KE.out; rw [List.size_toArray]; exact (Option.some.inj (this.symm.trans (by kernel_rfl))).symm) (dig_one KE.out) ?_))
  generalize hW : World.setRow _ v6.heap.size E.toArray = W6
  obtain ⟨r1, r2, r3⟩ := behind_d hW
  have u3 := up H3.out r3
  have h3 := hash_below HH5.out u3 (hash_lt HH5.out)
  have gl6 : g < v6.heap.size := by have := H3.out.size; have := hash_lt HH5.out; omega
  have b3 := up B5.out u3
  have z6 := u3.size
  have q1 := range_up R5.out.1 R5.out.2.2.1 u3
  have q2 := range_up R5.out.2.1 R5.out.2.2.2 u3
  obtain ⟨d3, hd3⟩ : ∃ d3, d3 = v6.heap.size := ⟨_, rfl⟩
  rw [← hd3] at r1 r2 gl6 ⊢
  have R6 := Lib.hid (show W6.rangeAt d1 0 D ∧ W6.rangeAt d2 0 D ∧ W6.rangeAt d3 0 E ∧ d1 < W6.heap.size ∧ d2 < W6.heap.size ∧ d3 < W6.heap.size from ⟨q1, q2, r1, by have := R5.out; omega, by have := R5.out; omega, r2⟩)
  have HH6 := Lib.hid h3
  have B6 := Lib.hid b3
  have F6 := Lib.hid (add_at g none 0 0 (x ++ y) [] W6 rfl (tabs_below HT.out b3).1 h3 (src_none _ _) g2 (Nat.le_refl _) (by rw [List.length_append, HX.out, HY.out]; omega))
  clear hW r1 r2 r3 u3 h3 b3 F5 B5 HH5 H3 R5 hd3 q1 q2 z6
  go_upto_region 13 with (go_at_call 21; (with_reducible refine F6.out.mono ?_); rintro e v7 ⟨rfl, hh, hG⟩; have HH7 := Lib.hid (show Hash v7 g (x ++ y) from has_hash (by rw [List.append_nil] at hh; exact hh)); have HG := Lib.hid hG; clear hh hG)
  have b7 := only_up B6.out HG.out hwg
  have B7 := Lib.hid b7
  have z7 := HG.out.size
  have R7 := Lib.hid (show v7.rangeAt d1 0 D ∧ v7.rangeAt d2 0 D ∧ v7.rangeAt d3 0 E ∧ d1 < v7.heap.size ∧ d2 < v7.heap.size ∧ d3 < v7.heap.size from ⟨range_only R6.out.1 R6.out.2.2.2.1 (by omega) HG.out, range_only R6.out.2.1 R6.out.2.2.2.2.1 (by omega) HG.out, range_only R6.out.2.2.1 R6.out.2.2.2.2.2 (by omega) HG.out, by have := R6.out; omega, by have := R6.out; omega, by have := R6.out; omega⟩)
  have P1 := Lib.hid (byt_below S1.out b7)
  have P2 := Lib.hid (byt_below S2.out b7)
  clear F6 B6 HG b7 HH6 R6 z7
  obtain ⟨N, hN⟩ : ∃ N, N = k + l := ⟨_, rfl⟩
  have HN := Lib.hid hN
  clear hN
  go_upto_region 14 with (first
    | (refine wpList_app rfl _ (.tmp 42) rfl v7.heap.size (.slice none 0 0) [] rfl (own_nil _ _) A k c x rfl HX.out P1.out HA.out k (by simp) (by omega) (Nat.le_refl _) ?_; intro A1 c1 v8 o1 e1 l1 n1; have O1 := Lib.hid o1; have E1 := Lib.hid e1; clear o1 e1 n1)
    | (refine wpList_app rfl (.tmp 43) (.tmp 44) rfl v7.heap.size (.slice A1 k c1) ([] ++ x) rfl O1.out B l d y rfl HY.out (byt_below P2.out E1.out) HB.out N (by rw [List.nil_append, HX.out, HN.out]) (by have := HN.out; omega) E1.out.size ?_; intro A2 c2 W o2 e2 l2 n2; have O2 := Lib.hid o2; have E2 := Lib.hid e2; clear o2 e2 n2))
  have u := E1.out.trans E2.out
  have pT := tabs_below HT.out (up B7.out u)
  have pB := up B7.out u
  have p1 := byt_below P1.out u
  have pA : Byt W A2 (x ++ y) := by have := own_byt O2.out; rwa [List.nil_append] at this
  have pH := hash_below HH7.out u (hash_lt HH7.out)
  have pg := hash_lt pH
  have hN := HN.out
  have lN : (x ++ y).length = N := by rw [List.length_append, HX.out, HY.out, hN]
  have zu := u.size
  have G1 := Lib.hid (fun W' (h : Below W.heap.size W W') => dig_sha A k c x KD.out W' HX.out (tabs_below pT h) (byt_below p1 h) HC.out (by omega))
  have G2 := Lib.hid (fun W' (h : Below W.heap.size W W') => dig_sha A2 N c2 (x ++ y) KE.out W' lN (tabs_below pT h) (byt_below pA h) l2 (by omega))
  have G3 := Lib.hid (fun W' (h : Below W.heap.size W W') => dig_sum g (x ++ y) KE.out W' (tabs_below pT h) (hash_below pH h pg) g2 (by rw [lN]; omega))
  have G4 := Lib.hid (fun W' (h : Below W.heap.size W W') => size_hash g N (x ++ y) W' (hash_below pH h pg) lN)
  have HR := Lib.hid (show W.rangeAt d1 0 D ∧ W.rangeAt d2 0 D ∧ W.rangeAt d3 0 E ∧ d1 < W.heap.size ∧ d2 < W.heap.size ∧ d3 < W.heap.size from ⟨range_up R7.out.1 R7.out.2.2.2.1 u, range_up R7.out.2.1 R7.out.2.2.2.2.1 u, range_up R7.out.2.2.1 R7.out.2.2.2.2.2 u, by have := R7.out; omega, by have := R7.out; omega, by have := R7.out; omega⟩)
  have HPB := Lib.hid pB
  have keep : ∀ W', Below W.heap.size W W' → Below W.heap.size W W' ∧ W'.rangeAt d1 0 D ∧ W'.rangeAt d2 0 D ∧ W'.rangeAt d3 0 E := fun W' h => ⟨h, range_below HR.out.1 HR.out.2.2.2.1 h, range_below HR.out.2.1 HR.out.2.2.2.2.1 h, range_below HR.out.2.2.1 HR.out.2.2.2.2.2 h⟩
  have HK := Lib.hid keep
  have de := dig_eql KD.out
  have ee := dig_eql KE.out
  have dl := dig_len KD.out
  have el := dig_len KE.out
  clear u pT pB p1 pA pH pg hN lN zu keep R7 E1 E2 O1 O2 P1 P2 HH7 B7
  refine wp_region_held_drew (S := fun w' => Below W.heap.size W w' ∧ w'.rangeAt d1 0 D ∧ w'.rangeAt d2 0 D ∧ w'.rangeAt d3 0 E) (by kernel_rfl) (HK.out _ (Below.drew (Below.refl _ _))) (fun hH => ?_)
  refine held_take 0 (some 46) (.agg D.toArray) rfl rfl (by kernel_rfl) (by kernel_rfl) (by kernel_rfl) (fun _ _ _ h => h) (by rfl) (load_under 30 _ rfl d1 0 rfl _ _ (fun W' hSW => hSW.2.1) Tryd.underlying30 rfl dl) hH ?_
  simp only [Act.put, List.setIfInBounds_toArray, List.set_cons_zero, List.set_cons_succ]
  refine held_take 1 (some 47) (.agg D.toArray) rfl rfl (by kernel_rfl) (by kernel_rfl) (by kernel_rfl) (fun _ _ _ h => h) (by rfl) (load_under 30 _ rfl d2 0 rfl _ _ (fun W' hSW => hSW.2.2.1) Tryd.underlying30 rfl dl) hH ?_
  simp only [Act.put, List.setIfInBounds_toArray, List.set_cons_zero, List.set_cons_succ]
  refine held_take 2 (some 48) (.bool true) rfl rfl (by kernel_rfl) (by kernel_rfl) (by kernel_rfl) (fun _ _ _ h => h) (by rfl) (fun W' hSW => (by go_simp)) hH ?_
  simp only [Act.put, List.setIfInBounds_toArray, List.set_cons_zero, List.set_cons_succ]
  refine held_take 3 (some 49) (.bool true) rfl rfl (by kernel_rfl) (by kernel_rfl) (by kernel_rfl) (fun _ _ _ h => h) (by rfl) (fun W' hSW => (by kernel_rfl)) hH ?_
  simp only [Act.put, List.setIfInBounds_toArray, List.set_cons_zero, List.set_cons_succ]
  refine held_take 4 (some 50) (.agg D.toArray) rfl rfl (by kernel_rfl) (by kernel_rfl) (by kernel_rfl) (fun _ _ _ h => h) (by rfl) (load_under 30 _ rfl d1 0 rfl _ _ (fun W' hSW => hSW.2.1) Tryd.underlying30 rfl dl) hH ?_
  simp only [Act.put, List.setIfInBounds_toArray, List.set_cons_zero, List.set_cons_succ]
  refine held_take 5 (some 51) (.slice A k c) rfl rfl (by kernel_rfl) (by kernel_rfl) (by kernel_rfl) (fun _ _ _ h => h) (by rfl) (fun W' hSW => (by kernel_rfl)) hH ?_
  simp only [Act.put, List.setIfInBounds_toArray, List.set_cons_zero, List.set_cons_succ]
  refine held_call (i := 6) (some 52) (.agg D.toArray) (by kernel_rfl) rfl rfl (by rfl) 18 #[.slice A k c] (by kernel_rfl) ((G1.out _ hH.1).mono fun _ _ q => ⟨q.1, HK.out _ (up hH.1 q.2)⟩) (fun W' hH => ?_)
  simp only [Act.put, List.setIfInBounds_toArray, List.set_cons_zero, List.set_cons_succ]
  refine held_take 7 (some 53) (.bool true) rfl rfl (by kernel_rfl) (by kernel_rfl) (by kernel_rfl) (fun _ _ _ h => h) (by rfl) (fun W' hSW => (by go_simp)) hH ?_
  simp only [Act.put, List.setIfInBounds_toArray, List.set_cons_zero, List.set_cons_succ]
  refine held_take 8 (some 54) (.bool true) rfl rfl (by kernel_rfl) (by kernel_rfl) (by kernel_rfl) (fun _ _ _ h => h) (by rfl) (fun W' hSW => (by kernel_rfl)) hH ?_
  simp only [Act.put, List.setIfInBounds_toArray, List.set_cons_zero, List.set_cons_succ]
  refine held_take 9 (some 55) (.bool true) rfl rfl (by kernel_rfl) (by kernel_rfl) (by kernel_rfl) (fun _ _ _ h => h) (by rfl) (fun W' hSW => (by kernel_rfl)) hH ?_
  simp only [Act.put, List.setIfInBounds_toArray, List.set_cons_zero, List.set_cons_succ]
  refine held_take 10 (some 56) (.agg E.toArray) rfl rfl (by kernel_rfl) (by kernel_rfl) (by kernel_rfl) (fun _ _ _ h => h) (by rfl) (load_under 30 _ rfl d3 0 rfl _ _ (fun W' hSW => hSW.2.2.2) Tryd.underlying30 rfl el) hH ?_
  simp only [Act.put, List.setIfInBounds_toArray, List.set_cons_zero, List.set_cons_succ]
  refine held_take 11 (some 57) (.slice A2 N c2) rfl rfl (by kernel_rfl) (by kernel_rfl) (by kernel_rfl) (fun _ _ _ h => h) (by rfl) (fun W' hSW => (by kernel_rfl)) hH ?_
  simp only [Act.put, List.setIfInBounds_toArray, List.set_cons_zero, List.set_cons_succ]
  refine held_call (i := 12) (some 58) (.agg E.toArray) (by kernel_rfl) rfl rfl (by rfl) 18 #[.slice A2 N c2] (by kernel_rfl) ((G2.out _ hH.1).mono fun _ _ q => ⟨q.1, HK.out _ (up hH.1 q.2)⟩) (fun W' hH => ?_)
  simp only [Act.put, List.setIfInBounds_toArray, List.set_cons_zero, List.set_cons_succ]
  refine held_take 13 (some 59) (.bool true) rfl rfl (by kernel_rfl) (by kernel_rfl) (by kernel_rfl) (fun _ _ _ h => h) (by rfl) (fun W' hSW => (by go_simp)) hH ?_
  simp only [Act.put, List.setIfInBounds_toArray, List.set_cons_zero, List.set_cons_succ]
  refine held_take 14 (some 60) (.bool true) rfl rfl (by kernel_rfl) (by kernel_rfl) (by kernel_rfl) (fun _ _ _ h => h) (by rfl) (fun W' hSW => (by kernel_rfl)) hH ?_
  simp only [Act.put, List.setIfInBounds_toArray, List.set_cons_zero, List.set_cons_succ]
  refine held_take 15 (some 61) (.bool true) rfl rfl (by kernel_rfl) (by kernel_rfl) (by kernel_rfl) (fun _ _ _ h => h) (by rfl) (fun W' hSW => (by kernel_rfl)) hH ?_
  simp only [Act.put, List.setIfInBounds_toArray, List.set_cons_zero, List.set_cons_succ]
  refine held_take 16 (some 62) (.pointer (some ⟨g, 0, none⟩)) rfl rfl (by kernel_rfl) (by kernel_rfl) (by kernel_rfl) (fun _ _ _ h => h) (by rfl) (fun W' hSW => (by kernel_rfl)) hH ?_
  simp only [Act.put, List.setIfInBounds_toArray, List.set_cons_zero, List.set_cons_succ]
  refine held_take 18 (some 64) (.agg E.toArray) rfl rfl (by kernel_rfl) (by kernel_rfl) (by kernel_rfl) (fun _ _ _ h => h) (by rfl) (load_under 30 _ rfl d3 0 rfl _ _ (fun W' hSW => hSW.2.2.2) Tryd.underlying30 rfl el) hH ?_
  simp only [Act.put, List.setIfInBounds_toArray, List.set_cons_zero, List.set_cons_succ]
  refine held_call (i := 17) (some 63) (.agg E.toArray) (by kernel_rfl) rfl rfl (by rfl) 22 #[.pointer (some ⟨g, 0, none⟩)] (by kernel_rfl) ((G3.out _ hH.1).mono fun _ _ q => ⟨q.1, HK.out _ (up hH.1 q.2)⟩) (fun W' hH => ?_)
  simp only [Act.put, List.setIfInBounds_toArray, List.set_cons_zero, List.set_cons_succ]
  refine held_take 19 (some 65) (.bool true) rfl rfl (by kernel_rfl) (by kernel_rfl) (by kernel_rfl) (fun _ _ _ h => h) (by rfl) (fun W' hSW => (by go_simp)) hH ?_
  simp only [Act.put, List.setIfInBounds_toArray, List.set_cons_zero, List.set_cons_succ]
  refine held_take 20 (some 66) (.bool true) rfl rfl (by kernel_rfl) (by kernel_rfl) (by kernel_rfl) (fun _ _ _ h => h) (by rfl) (fun W' hSW => (by kernel_rfl)) hH ?_
  simp only [Act.put, List.setIfInBounds_toArray, List.set_cons_zero, List.set_cons_succ]
  refine held_take 21 (some 67) (.bool true) rfl rfl (by kernel_rfl) (by kernel_rfl) (by kernel_rfl) (fun _ _ _ h => h) (by rfl) (fun W' hSW => (by kernel_rfl)) hH ?_
  simp only [Act.put, List.setIfInBounds_toArray, List.set_cons_zero, List.set_cons_succ]
  refine held_take 22 (some 68) (.pointer (some ⟨g, 0, none⟩)) rfl rfl (by kernel_rfl) (by kernel_rfl) (by kernel_rfl) (fun _ _ _ h => h) (by rfl) (fun W' hSW => (by kernel_rfl)) hH ?_
  simp only [Act.put, List.setIfInBounds_toArray, List.set_cons_zero, List.set_cons_succ]
  refine held_take 24 (some 70) (.slice A2 N c2) rfl rfl (by kernel_rfl) (by kernel_rfl) (by kernel_rfl) (fun _ _ _ h => h) (by rfl) (fun W' hSW => (by kernel_rfl)) hH ?_
  simp only [Act.put, List.setIfInBounds_toArray, List.set_cons_zero, List.set_cons_succ]
  refine held_take 25 (some 71) (.int .i64 (N : Int)) rfl rfl (by kernel_rfl) (by kernel_rfl) (by kernel_rfl) (fun _ _ _ h => h) (by rfl) (fun W' hSW => (by kernel_rfl)) hH ?_
  simp only [Act.put, List.setIfInBounds_toArray, List.set_cons_zero, List.set_cons_succ]
  refine held_call (i := 23) (some 69) (.int .i64 (N : Int)) (by kernel_rfl) rfl rfl (by rfl) 23 #[.pointer (some ⟨g, 0, none⟩)] (by kernel_rfl) ((G4.out _ hH.1).mono fun _ _ q => ⟨q.1, q.2 ▸ hH⟩) (fun W' hH => ?_)
  simp only [Act.put, List.setIfInBounds_toArray, List.set_cons_zero, List.set_cons_succ]
  refine held_take 26 (some 72) (.bool true) rfl rfl (by kernel_rfl) (by kernel_rfl) (by kernel_rfl) (fun _ _ _ h => h) (by rfl) (fun W' hSW => (by go_simp)) hH ?_
  simp only [Act.put, List.setIfInBounds_toArray, List.set_cons_zero, List.set_cons_succ]
  refine held_take 27 (some 73) (.bool true) rfl rfl (by kernel_rfl) (by kernel_rfl) (by kernel_rfl) (fun _ _ _ h => h) (by rfl) (fun W' hSW => (by kernel_rfl)) hH ?_
  simp only [Act.put, List.setIfInBounds_toArray, List.set_cons_zero, List.set_cons_succ]
  refine held_take 28 (some 4) (.bool true) rfl rfl (by kernel_rfl) (by kernel_rfl) (by kernel_rfl) (fun _ _ _ h => h) (by rfl) (fun W' hSW => (by kernel_rfl)) hH ?_
  simp only [Act.put, List.setIfInBounds_toArray, List.set_cons_zero, List.set_cons_succ]
  refine wpAnyH_done (by kernel_rfl) ?_ _
  have hB := hH.1
  have HB2 := Lib.hid (up HPB.out hB)
  clear hB hH
  go_wp2
  go_ret
  exact ⟨rfl, HB2.out⟩
end Go.Proofs.YtekccgdlohofkaaDoor
