/-
What is proved here: a disk and its twin, each told other things, have nothing in common: the law DiskTwins's walk.
-/
import Derived.Test.YtibidljblkfciaaAll
set_option linter.unusedSimpArgs false
namespace Go.Proofs.Ytibidljblkfciaa
open Go.Word Go.RowKit

set_option maxRecDepth 100000 in
set_option maxHeartbeats 8000000 in
theorem twins_any (A0 : Option Addr) (l0 c0 : Nat) (ks0 : Nat → Int) (A1 : Option Addr) (l1 c1 : Nat) (ks1 : Nat → Int) (A2 : Option Addr) (l2 c2 : Nat) (ks2 : Nat → Int) (z : Int) (w : World) (hs0 : Nums w A0 l0 ks0) (hs1 : Nums w A1 l1 ks1) (hs2 : Nums w A2 l2 ks2) (hm0 : l0 ≤ c0 ∧ c0 ≤ maxLen) (hm1 : l1 ≤ c1 ∧ c1 ≤ maxLen) (hm2 : l2 ≤ c2 ∧ c2 ≤ maxLen) :
    Calls Try.prog 9 #[.slice A0 l0 c0, .slice A1 l1 c1, .slice A2 l2 c2, .int .i64 z] w fun e w' => e = .returned (.bool true) ∧ Below w.heap.size w w' := by
  have hl0 : l0 ≤ 9223372036854775807 := by unfold maxLen at hm0; omega
  have hl1 : l1 ≤ 9223372036854775807 := by unfold maxLen at hm1; omega
  have hl2 : l2 ≤ 9223372036854775807 := by unfold maxLen at hm2; omega
  have HS0 := Lib.hid hs0
  have HS1 := Lib.hid hs1
  have HS2 := Lib.hid hs2
  clear hs0 hs1 hs2 hm0 hm1 hm2
  by_cases h1 : 40 < l0
  · have t1 : decide (40 < l0) = true := decide_eq_true h1
    have t1' : decide ((40 : Int) < (l0 : Int)) = true := decide_eq_true (by omega)
    go_enter Try.func9, Try.ntmps9
    go_wp2_with (go_at_call 11; (with_reducible refine (alive_any _).mono ?_); rintro e w1 ⟨rfl, hb⟩; have H1 := Lib.hid hb; clear hb)
    go_ret
    exact ⟨rfl, H1.out⟩
  have t1 : decide (40 < l0) = false := decide_eq_false h1
  have t1' : decide ((40 : Int) < (l0 : Int)) = false := decide_eq_false (by omega)
  by_cases h2 : 40 < l1
  · have t2 : decide (40 < l1) = true := decide_eq_true h2
    have t2' : decide ((40 : Int) < (l1 : Int)) = true := decide_eq_true (by omega)
    go_enter Try.func9, Try.ntmps9
    go_wp2_with (go_at_call 11; (with_reducible refine (alive_any _).mono ?_); rintro e w1 ⟨rfl, hb⟩; have H1 := Lib.hid hb; clear hb)
    go_ret
    exact ⟨rfl, H1.out⟩
  have t2 : decide (40 < l1) = false := decide_eq_false h2
  have t2' : decide ((40 : Int) < (l1 : Int)) = false := decide_eq_false (by omega)
  by_cases h3 : 40 < l2
  · have t3 : decide (40 < l2) = true := decide_eq_true h3
    have t3' : decide ((40 : Int) < (l2 : Int)) = true := decide_eq_true (by omega)
    go_enter Try.func9, Try.ntmps9
    go_wp2_with (go_at_call 11; (with_reducible refine (alive_any _).mono ?_); rintro e w1 ⟨rfl, hb⟩; have H1 := Lib.hid hb; clear hb)
    go_ret
    exact ⟨rfl, H1.out⟩
  have t3 : decide (40 < l2) = false := decide_eq_false h3
  have t3' : decide ((40 : Int) < (l2 : Int)) = false := decide_eq_false (by omega)
  by_cases h4 : z < 1
  · have t4 : decide (z < 1) = true := decide_eq_true h4
    go_enter Try.func9, Try.ntmps9
    go_wp2_with (go_at_call 11; (with_reducible refine (alive_any _).mono ?_); rintro e w1 ⟨rfl, hb⟩; have H1 := Lib.hid hb; clear hb)
    go_ret
    exact ⟨rfl, H1.out⟩
  have t4 : decide (z < 1) = false := decide_eq_false h4
  by_cases h5 : 200 < z
  · have t5 : decide (200 < z) = true := decide_eq_true h5
    go_enter Try.func9, Try.ntmps9
    go_wp2_with (go_at_call 11; (with_reducible refine (alive_any _).mono ?_); rintro e w1 ⟨rfl, hb⟩; have H1 := Lib.hid hb; clear hb)
    go_ret
    exact ⟨rfl, H1.out⟩
  have t5 : decide (200 < z) = false := decide_eq_false h5
  have hz0 : 1 ≤ z := by omega
  have N6 := Lib.hid (fun W : World => dk_new 6 6 rfl W (by decide) (by decide))
  go_enter Try.func9, Try.ntmps9
  go_upto_region 5 with (first
    | (go_at_call 11; (with_reducible refine (alive_any _).mono ?_); rintro e w1 ⟨rfl, hb⟩; have H1 := Lib.hid hb; clear hb)
    | (go_at_call 18; (with_reducible refine (N6.out _).mono ?_); rintro e w2 ⟨g, fp, rfl, hd, hf, hb⟩; have HD := Lib.hid hd; have HF := Lib.hid hf; have H2 := Lib.hid hb; clear hd hf hb))
  have B2 := Lib.hid (up H1.out H2.out)
  have LO := Lib.hid (show ∀ i, fp i → w.heap.size ≤ i from fun i hi => Nat.le_trans H1.out.size (HF.out i hi))
  clear t1 t1' t2 t2' t3 t3' t4 t5 HF H1 H2
  have F1 := Lib.hid (fill_any (ws := []) A0 l0 c0 ks0 w2 (by omega) (by simp) (nums_below HS0.out B2.out) (fun b o h0 e hfb => nums_apart HS0.out h0 e (LO.out b hfb)) HD.out)
  go_upto_region 6 with (go_at_call 28; (with_reducible refine F1.out.mono ?_); rintro e w3 ⟨rfl, ⟨fp3, hs3, hd3⟩, hk3⟩; have HS3 := Lib.hid hs3; have HD3 := Lib.hid hd3; have HK3 := Lib.hid hk3; clear hs3 hd3 hk3)
  have B3 := Lib.hid (keeps_up HK3.out B2.out LO.out)
  have LO3 := Lib.hid (sub_low HS3.out B2.out.size LO.out)
  clear F1 HD HK3 HS3 LO B2
  go_upto_region 7 with (go_at_call 14; (with_reducible refine (dk_twin w3 (by rw [List.nil_append, filW_length]; omega) HD3.out).mono ?_); rintro e w4 ⟨g1, fe, rfl, hd, hf, hb⟩; have HE4 := Lib.hid hd; have HFE := Lib.hid hf; have H4 := Lib.hid hb; clear hd hf hb)
  have B4 := Lib.hid (up B3.out H4.out)
  have HD4 := Lib.hid (dk_below HD3.out H4.out)
  have AP1 := Lib.hid (show Apart fe fp3 from fun i h1 h2 => by have := HFE.out i h1; have := dk_all HD3.out i h2; omega)
  have LOE := Lib.hid (show ∀ i, fe i → w.heap.size ≤ i from fun i h => Nat.le_trans B3.out.size (HFE.out i h))
  clear HD3 H4 HFE B3
  go_upto_region 10 with (go_at_call 18; (with_reducible refine (N6.out _).mono ?_); rintro e w5 ⟨g2, fq, rfl, hd, hf, hb⟩; have HP5 := Lib.hid hd; have HFP := Lib.hid hf; have H5 := Lib.hid hb; clear hd hf hb)
  have B5 := Lib.hid (up B4.out H5.out)
  have HD5 := Lib.hid (dk_below HD4.out H5.out)
  have HE5 := Lib.hid (dk_below HE4.out H5.out)
  have AP2 := Lib.hid (show Apart fq fp3 from fun i h1 h2 => by have := HFP.out i h1; have := dk_all HD4.out i h2; omega)
  have AP3 := Lib.hid (show Apart fq fe from fun i h1 h2 => by have := HFP.out i h1; have := dk_all HE4.out i h2; omega)
  have LOP := Lib.hid (show ∀ i, fq i → w.heap.size ≤ i from fun i h => Nat.le_trans B4.out.size (HFP.out i h))
  clear HD4 HE4 H5 HFP B4 N6
  -- plain: ats, left
  have F2 := Lib.hid (fill_any (ws := []) A0 l0 c0 ks0 w5 (by omega) (by simp) (nums_below HS0.out B5.out) (fun b o h0 e hfb => nums_apart HS0.out h0 e (LOP.out b hfb)) HP5.out)
  go_upto_region 11 with (go_at_call 28; (with_reducible refine F2.out.mono ?_); rintro e w6 ⟨rfl, ⟨fq6, hs6, hd6⟩, hk6⟩; have HS6 := Lib.hid hs6; have HP6 := Lib.hid hd6; have HK6 := Lib.hid hk6; clear hs6 hd6 hk6)
  have B6 := Lib.hid (keeps_up HK6.out B5.out LOP.out)
  have LOP6 := Lib.hid (sub_low HS6.out B5.out.size LOP.out)
  have HD6 := Lib.hid (dk_frame HD5.out HK6.out (apart_symm AP2.out))
  have HE6 := Lib.hid (dk_frame HE5.out HK6.out (apart_symm AP3.out))
  have AP4 := Lib.hid (show Apart fq6 fp3 from apart_sub AP2.out HS6.out (dk_all HD5.out))
  have AP5 := Lib.hid (show Apart fq6 fe from apart_sub AP3.out HS6.out (dk_all HE5.out))
  clear F2 HP5 HD5 HE5 HK6 HS6 LOP AP2 AP3 B5
  have F3 := Lib.hid (fill_any (ws := [] ++ filW ks0 l0) A1 l1 c1 ks1 w6 (by omega) (by rw [List.nil_append, filW_length]; omega) (nums_below HS1.out B6.out) (fun b o h0 e hfb => nums_apart HS1.out h0 e (LOP6.out b hfb)) HP6.out)
  go_upto_region 12 with (go_at_call 28; (with_reducible refine F3.out.mono ?_); rintro e w7 ⟨rfl, ⟨fq7, hs7, hd7⟩, hk7⟩; have HS7 := Lib.hid hs7; have HP7 := Lib.hid hd7; have HK7 := Lib.hid hk7; clear hs7 hd7 hk7)
  have B7 := Lib.hid (keeps_up HK7.out B6.out LOP6.out)
  have HD7 := Lib.hid (dk_frame HD6.out HK7.out (apart_symm AP4.out))
  have HE7 := Lib.hid (dk_frame HE6.out HK7.out (apart_symm AP5.out))
  have AP6 := Lib.hid (show Apart fq7 fp3 from apart_sub AP4.out HS7.out (dk_all HD6.out))
  have AP7 := Lib.hid (show Apart fq7 fe from apart_sub AP5.out HS7.out (dk_all HE6.out))
  clear F3 HP6 HD6 HE6 HK7 HS7 LOP6 AP4 AP5 B6
  -- d: left
  have F4 := Lib.hid (fill_any (ws := [] ++ filW ks0 l0) A1 l1 c1 ks1 w7 (by omega) (by rw [List.nil_append, filW_length]; omega) (nums_below HS1.out B7.out) (fun b o h0 e hfb => nums_apart HS1.out h0 e (LO3.out b hfb)) HD7.out)
  go_upto_region 13 with (go_at_call 28; (with_reducible refine F4.out.mono ?_); rintro e w8 ⟨rfl, ⟨fp8, hs8, hd8⟩, hk8⟩; have HS8 := Lib.hid hs8; have HD8 := Lib.hid hd8; have HK8 := Lib.hid hk8; clear hs8 hd8 hk8)
  have B8 := Lib.hid (keeps_up HK8.out B7.out LO3.out)
  have HP8 := Lib.hid (dk_frame HP7.out HK8.out AP6.out)
  have HE8 := Lib.hid (dk_frame HE7.out HK8.out AP1.out)
  have AP8 := Lib.hid (show Apart fp8 fe from apart_sub (apart_symm AP1.out) HS8.out (dk_all HE7.out))
  clear F4 HD7 HP7 HE7 HK8 HS8 LO3 AP1 AP6 B7
  -- e: right
  have F5 := Lib.hid (fill_any (ws := [] ++ filW ks0 l0) A2 l2 c2 ks2 w8 (by omega) (by rw [List.nil_append, filW_length]; omega) (nums_below HS2.out B8.out) (fun b o h0 e hfb => nums_apart HS2.out h0 e (LOE.out b hfb)) HE8.out)
  go_upto_region 14 with (go_at_call 28; (with_reducible refine F5.out.mono ?_); rintro e w9 ⟨rfl, ⟨fe9, hs9, hd9⟩, hk9⟩; have HS9 := Lib.hid hs9; have HE9 := Lib.hid hd9; have HK9 := Lib.hid hk9; clear hs9 hd9 hk9)
  have B9 := Lib.hid (keeps_up HK9.out B8.out LOE.out)
  have LOE9 := Lib.hid (sub_low HS9.out B8.out.size LOE.out)
  have HP9 := Lib.hid (dk_frame HP8.out HK9.out AP7.out)
  have HD9 := Lib.hid (dk_frame HD8.out HK9.out AP8.out)
  have AQ1 := Lib.hid (show Apart fe9 fp8 from apart_sub (apart_symm AP8.out) HS9.out (dk_all HD8.out))
  have AQ2 := Lib.hid (show Apart fe9 fq7 from apart_sub (apart_symm AP7.out) HS9.out (dk_all HP8.out))
  clear F5 HE8 HD8 HP8 HK9 HS9 LOE AP7 AP8 B8
  go_upto_region 15 with (go_at_call 25; (with_reducible refine (dk_flush w9 (by decide) (by decide) HE9.out).mono ?_); rintro e w10 ⟨rfl, hd, hk⟩; have HEt := Lib.hid hd; have HK := Lib.hid hk; clear hd hk)
  obtain ⟨G, hG⟩ : ∃ G, now (fun _ => 0) ([] ++ filW ks0 l0 ++ filW ks2 l2) = G := ⟨_, rfl⟩
  have HE10 := Lib.hid (show DK w10 g1 6 G [] true (-1) fe9 by rw [← hG]; exact HEt.out)
  have B10 := Lib.hid (keeps_up HK.out B9.out LOE9.out)
  have HD10 := Lib.hid (dk_frame HD9.out HK.out (apart_symm AQ1.out))
  have HP10 := Lib.hid (dk_frame HP9.out HK.out (apart_symm AQ2.out))
  clear HE9 HD9 HP9 HK B9 hG HEt
  go_upto_region 16 with (go_at_call 19; (with_reducible refine (dk_fuse z w10 (by omega) HE10.out).mono ?_); rintro e w11 ⟨rfl, hd, hk⟩; have HE11 := Lib.hid hd; have HK := Lib.hid hk; clear hd hk)
  have B11 := Lib.hid (keeps_up HK.out B10.out LOE9.out)
  have HD11 := Lib.hid (dk_frame HD10.out HK.out (apart_symm AQ1.out))
  have HP11 := Lib.hid (dk_frame HP10.out HK.out (apart_symm AQ2.out))
  clear HE10 HD10 HP10 HK B10
  have bk := (Below.refl w11.heap.size w11).alloc (Nat.le_refl _) (.cells #[.int .i64 1, .int .i64 1] 3)
  have BK := Lib.hid bk
  clear bk
  have lk := lies_new w11 3 #[.int .i64 1, .int .i64 1]
  have CR := Lib.hid (dk_crash (w11.alloc (.cells #[.int .i64 1, .int .i64 1] 3)) (by decide) (some ⟨w11.heap.size, 0, none⟩) 2 2 (fun _ => 1) (fun i hi => ⟨w11.heap.size, 0, rfl, by simp, fun h => by have := dk_all HE11.out _ h; omega, by
    rw [Nat.zero_add, lies_cell lk]
    obtain rfl | rfl : i = 0 ∨ i = 1 := by omega
    · rfl
    · rfl⟩) (dk_below HE11.out BK.out))
  clear lk
  go_upto_region 17 with (go_at_call 26; (with_reducible refine CR.out.mono ?_); rintro e w12 ⟨rfl, hd, hk⟩; have HE12 := Lib.hid hd; have HK := Lib.hid hk; clear hd hk)
  have B12 := Lib.hid (keeps_up HK.out (up B11.out BK.out) LOE9.out)
  have HD12 := Lib.hid (dk_frame (dk_below HD11.out BK.out) HK.out (apart_symm AQ1.out))
  have HP12 := Lib.hid (dk_frame (dk_below HP11.out BK.out) HK.out (apart_symm AQ2.out))
  clear HE11 HD11 HP11 HK B11 BK CR
  go_upto_region 18 with (go_at_call 19; (with_reducible refine (dk_fuse 0 w12 (by omega) HE12.out).mono ?_); rintro e w13 ⟨rfl, hd, hk⟩; have HE13 := Lib.hid (show DK w13 g1 6 _ [] false 0 fe9 from hd); have HK := Lib.hid hk; clear hd hk)
  have B13 := Lib.hid (keeps_up HK.out B12.out LOE9.out)
  have HD13 := Lib.hid (dk_frame HD12.out HK.out (apart_symm AQ1.out))
  have HP13 := Lib.hid (dk_frame HP12.out HK.out (apart_symm AQ2.out))
  clear HE12 HD12 HP12 HK B12
  obtain ⟨m, hm⟩ : ∃ m, m = l0 + l1 := ⟨_, rfl⟩
  have hlen : ([] ++ filW ks0 l0 ++ filW ks1 l1).length = m := by rw [List.nil_append, List.length_append, filW_length, filW_length, hm]
  have tm1 : ((m : Int) == (l0 : Int) + (l1 : Int)) = true := by have : (m : Int) = (l0 : Int) + (l1 : Int) := by omega
                                                                 simpa using this
  have tm2 : decide ((m : Int) = (l0 : Int) + (l1 : Int)) = true := decide_eq_true (by omega)
  have S1 := Lib.hid (same_any w13 HD13.out HP13.out (fun j _ => rfl))
  have O1 := Lib.hid (fun (W : World) (hb : Below w13.heap.size w13 W) => dk_on W (dk_below HD13.out hb))
  have O2 := Lib.hid (fun (W : World) (hb : Below w13.heap.size w13 W) => dk_on W (dk_below HE13.out hb))
  have P1 := Lib.hid (fun (W : World) (hb : Below w13.heap.size w13 W) => by have := dk_pend W (by rw [hlen]; omega) (dk_below HD13.out hb); rw [hlen] at this; exact this)
  clear hm hlen HD13 HP13 HE13
  go_wp2_with (first
    | (go_at_call 29; (with_reducible refine S1.out.mono ?_); rintro e w14 ⟨rfl, hb⟩; have H14 := Lib.hid hb; clear hb)
    | (go_at_call 20; (with_reducible refine (O1.out _ H14.out).mono ?_); rintro e w' ⟨rfl, rfl⟩)
    | (go_at_call 20; (with_reducible refine (O2.out _ H14.out).mono ?_); rintro e w' ⟨rfl, rfl⟩)
    | (go_at_call 27; (with_reducible refine (P1.out _ H14.out).mono ?_); rintro e w15 ⟨A5, C5, rfl, _, hb⟩; have H15 := Lib.hid (up H14.out hb); clear hb))
  go_ret
  exact ⟨rfl, up B13.out H15.out⟩
end Go.Proofs.Ytibidljblkfciaa
