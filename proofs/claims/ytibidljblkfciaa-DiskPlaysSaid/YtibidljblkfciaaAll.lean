/-
What is proved here: two disks that hold the same read alike; a crash that keeps all is as a flush, one that keeps none as nothing written: the law DiskAll's walk.
-/
import Derived.Test.YtibidljblkfciaaFil
set_option linter.unusedSimpArgs false
namespace Go.Proofs.Ytibidljblkfciaa
open Go.Word Go.RowKit

set_option maxRecDepth 100000 in
set_option maxHeartbeats 2000000 in
theorem same_any {ga gb : Nat} {Fa Fb : Bytes} {wa wb : List (Nat × Bytes)} {lfa lfb : Int} {fpa fpb : Nat → Prop} (w : World) (ha : DK w ga 6 Fa wa true lfa fpa) (hb : DK w gb 6 Fb wb true lfb fpb) (he : ∀ j, j < 3072 → now Fa wa j = now Fb wb j) :
    Calls Try.prog 29 #[.pointer (some ⟨ga, 0, none⟩), .pointer (some ⟨gb, 0, none⟩)] w fun e w' => e = .returned (.bool true) ∧ Below w.heap.size w w' := by
  have HA := Lib.hid ha
  have HB := Lib.hid hb
  have HE := Lib.hid he
  clear ha hb he
  go_enter Try.func29, Try.ntmps29
  go_wp2
  go_loopw [5] (fun v wr => ∃ i : Nat, i ≤ 6 ∧ v = .int .i64 (i : Int) ∧ Below w.heap.size w wr) (fun v _ => 6 - (intOf v).toNat)
  case atStart => exact ⟨0, by omega, rfl, Below.refl _ _⟩
  case round =>
    obtain ⟨i, hi, rfl, hb⟩ := hrel
    have HBW := Lib.hid hb
    clear hb
    by_cases hlt : i < 6
    · have li : (i : Int) < 6 := by omega
      go_upto_region 5 with (go_at_call 21; (refine (dk_read _ i rfl wr hlt (dk_below HA.out HBW.out)).mono ?_); rintro e w1 ⟨r1, rfl, hr, hl, hb⟩; have HR1 := Lib.hid hr; have HL1 := Lib.hid hl; have H1 := Lib.hid hb; clear hr hl hb)
      have B1 := Lib.hid (up HBW.out H1.out)
      go_upto_region 6 with (go_at_call 21; (refine (dk_read _ i rfl w1 hlt (dk_below HB.out B1.out)).mono ?_); rintro e w2 ⟨r2, rfl, hr, hl, hb⟩; have HR2 := Lib.hid hr; have HL2 := Lib.hid hl; have H2 := Lib.hid hb; clear hr hl hb)
      have B2 := Lib.hid (up B1.out H2.out)
      have C1 := run_text ⟨r1, 0, none⟩ 512 512 _ w2 (src_row (lies_below HL1.out H2.out (lies_lt HL1.out)))
      have C2 := run_text ⟨r2, 0, none⟩ 512 512 _ w2 (src_row HL2.out)
      have e : text8 (fun j => now Fa wa (512 * i + j)) 512 = text8 (fun j => now Fb wb (512 * i + j)) 512 := text_congr (fun j hj => HE.out (512 * i + j) (by omega))
      rw [e] at C1
      generalize text8 (fun j => now Fb wb (512 * i + j)) 512 = T at C1 C2
      clear e HL1 HL2 H1 H2 B1
      go_wp2_with (go_at_call 24; (with_reducible refine (num_any _ _).mono ?_); rintro e w' ⟨rfl, rfl⟩)
      go_roundw
      case rel => exact ⟨i + 1, by omega, by go_num, B2.out⟩
      case measure => first | (simp [intOf]; done) | (simp [intOf]; omega)
    · have li : ¬ (i : Int) < 6 := by omega
      go_wp2
      go_ret
      exact ⟨rfl, HBW.out⟩
theorem kept_all (kp : Nat → Bool) : ∀ (ws : List (Nat × Bytes)) (i : Nat) (F : Bytes), (∀ j, i ≤ j → j < i + ws.length → kp j = true) → keptW kp i ws F = now F ws
  | [], _, _, _ => rfl
  | x :: r, i, F, h => by
    show keptW kp (i + 1) r (if kp i then put F (512 * x.1) x.2 else F) = now (put F (512 * x.1) x.2) r
    rw [h i (Nat.le_refl _) (by simp), if_pos rfl]
    exact kept_all kp r (i + 1) _ (fun j h1 h2 => h j (by omega) (by simp; omega))
theorem kept_none (kp : Nat → Bool) (hk : ∀ i, kp i = false) : ∀ (ws : List (Nat × Bytes)) (i : Nat) (F : Bytes), keptW kp i ws F = F
  | [], _, _ => rfl
  | x :: r, i, F => by
    show keptW kp (i + 1) r (if kp i then put F (512 * x.1) x.2 else F) = F
    rw [hk i, if_neg (by decide)]
    exact kept_none kp hk r (i + 1) F
theorem made_ints (n : Nat) (h : n ≤ 3000000) (W : World) : (Instr.makeSlice 31 (.int .i64 (n : Int)) (.int .i64 (n : Int))).run Try.prog W =
    .ok (.slice (some ⟨W.heap.size, 0, none⟩) n n) (W.alloc (.cells (madeCells #[.int .i64 0] n) 3)) := by
  obtain ⟨i, hi, hz0, hz1, hz2⟩ := info_parts int_info
  have := run_make (P := Try.prog) W 31 3 i (.int .i64 0) Try.underlying31 hi hz0 .i64 .i64 (n : Int) (n : Int) (by omega) (by omega) (by rw [hz2]; omega) (by omega)
  rw [this, hz1, Int.toNat_natCast, Nat.mul_one]
  rfl
theorem nums_apart {w : World} {A : Option Addr} {k : Nat} {ks : Nat → Int} {b o : Nat} (h : Nums w A k ks) (h0 : 0 < k) (e : A = some ⟨b, o, none⟩) (hb : w.heap.size ≤ b) : False := by
  obtain ⟨b', o', e', hb', _⟩ := h 0 h0
  rw [e'] at e
  injection e with e
  injection e with e _ _
  omega
theorem sub_low {fp fp' : Nat → Prop} {w : World} {m : Nat} (h : Sub w fp fp') (hm : m ≤ w.heap.size) (hf : ∀ i, fp i → m ≤ i) : ∀ i, fp' i → m ≤ i := fun i hi => by
  rcases h i hi with h | h
  · exact hf i h
  · omega
theorem keeps_up {fp : Nat → Prop} {w w1 w2 : World} (hk : Keeps fp w1 w2) (hb : Below w.heap.size w w1) (hf : ∀ i, fp i → w.heap.size ≤ i) : Below w.heap.size w w2 := hb.trans (below_keeps hk hb.size hf)

set_option maxRecDepth 100000 in
set_option maxHeartbeats 4000000 in
theorem alls_any (A0 : Option Addr) (l0 c0 : Nat) (ks0 : Nat → Int) (A1 : Option Addr) (l1 c1 : Nat) (ks1 : Nat → Int) (w : World) (hs0 : Nums w A0 l0 ks0) (hs1 : Nums w A1 l1 ks1) (hm0 : l0 ≤ c0 ∧ c0 ≤ maxLen) (hm1 : l1 ≤ c1 ∧ c1 ≤ maxLen) :
    Calls Try.prog 7 #[.slice A0 l0 c0, .slice A1 l1 c1] w fun e w' => e = .returned (.bool true) ∧ Below w.heap.size w w' := by
  have hl0 : l0 ≤ 9223372036854775807 := by unfold maxLen at hm0; omega
  have hl1 : l1 ≤ 9223372036854775807 := by unfold maxLen at hm1; omega
  have HS0 := Lib.hid hs0
  have HS1 := Lib.hid hs1
  clear hs0 hs1 hm0 hm1
  by_cases h1 : 60 < l0
  · have t1 : decide (60 < l0) = true := decide_eq_true h1
    have t1' : decide ((60 : Int) < (l0 : Int)) = true := decide_eq_true (by omega)
    go_enter Try.func7, Try.ntmps7
    go_wp2_with (go_at_call 11; (with_reducible refine (alive_any _).mono ?_); rintro e w1 ⟨rfl, hb⟩; have H1 := Lib.hid hb; clear hb)
    go_ret
    exact ⟨rfl, H1.out⟩
  have t1 : decide (60 < l0) = false := decide_eq_false h1
  have t1' : decide ((60 : Int) < (l0 : Int)) = false := decide_eq_false (by omega)
  by_cases h2 : 60 < l1
  · have t2 : decide (60 < l1) = true := decide_eq_true h2
    have t2' : decide ((60 : Int) < (l1 : Int)) = true := decide_eq_true (by omega)
    go_enter Try.func7, Try.ntmps7
    go_wp2_with (go_at_call 11; (with_reducible refine (alive_any _).mono ?_); rintro e w1 ⟨rfl, hb⟩; have H1 := Lib.hid hb; clear hb)
    go_ret
    exact ⟨rfl, H1.out⟩
  have t2 : decide (60 < l1) = false := decide_eq_false h2
  have t2' : decide ((60 : Int) < (l1 : Int)) = false := decide_eq_false (by omega)
  have N6 := Lib.hid (fun W : World => dk_new 6 6 rfl W (by decide) (by decide))
  go_enter Try.func7, Try.ntmps7
  go_upto_region 5 with (first
    | (go_at_call 11; (with_reducible refine (alive_any _).mono ?_); rintro e w1 ⟨rfl, hb⟩; have H1 := Lib.hid hb; clear hb)
    | (go_at_call 18; (with_reducible refine (N6.out _).mono ?_); rintro e w2 ⟨g, fp, rfl, hd, hf, hb⟩; have HD := Lib.hid hd; have HF := Lib.hid hf; have H2 := Lib.hid hb; clear hd hf hb))
  have B2 := Lib.hid (up H1.out H2.out)
  have LO := Lib.hid (show ∀ i, fp i → w.heap.size ≤ i from fun i hi => Nat.le_trans H1.out.size (HF.out i hi))
  clear t1 t1' t2 t2' N6 HF H1 H2
  -- the first row of writes
  have F1 := Lib.hid (fill_any (ws := []) A0 l0 c0 ks0 w2 (by omega) (by simp) (nums_below HS0.out B2.out) (fun b o h0 e hfb => nums_apart HS0.out h0 e (LO.out b hfb)) HD.out)
  go_upto_region 6 with (go_at_call 28; (with_reducible refine F1.out.mono ?_); rintro e w3 ⟨rfl, ⟨fp3, hs3, hd3⟩, hk3⟩; have HS3 := Lib.hid hs3; have HD3 := Lib.hid hd3; have HK3 := Lib.hid hk3; clear hs3 hd3 hk3)
  have B3 := Lib.hid (keeps_up HK3.out B2.out LO.out)
  have LO3 := Lib.hid (sub_low HS3.out B2.out.size LO.out)
  clear F1 HD HK3 HS3 LO
  go_upto_region 7 with (go_at_call 25; (with_reducible refine (dk_flush w3 (by decide) (by decide) HD3.out).mono ?_); rintro e w4 ⟨rfl, hd, hk⟩; have HD4 := Lib.hid (show DK w4 g 6 (now (fun _ => 0) ([] ++ filW ks0 l0)) [] true (-1) fp3 from hd); have HK4 := Lib.hid hk; clear hd hk)
  have B4 := Lib.hid (keeps_up HK4.out B3.out LO3.out)
  generalize now (fun _ => 0) ([] ++ filW ks0 l0) = G at HD4
  clear HD3 HK4 B2 B3
  go_upto_region 8 with (go_at_call 14; (with_reducible refine (dk_twin w4 (by decide) HD4.out).mono ?_); rintro e w5 ⟨g1, fw, rfl, hd, hf, hb⟩; have HW5 := Lib.hid hd; have HFW := Lib.hid hf; have H5 := Lib.hid hb; clear hd hf hb)
  have B5 := Lib.hid (up B4.out H5.out)
  have HD5 := Lib.hid (dk_below HD4.out H5.out)
  have AP1 := Lib.hid (show Apart fw fp3 from fun i h1 h2 => by have := HFW.out i h1; have := dk_all HD4.out i h2; omega)
  have LOW := Lib.hid (show ∀ i, fw i → w.heap.size ≤ i from fun i h => Nat.le_trans B4.out.size (HFW.out i h))
  clear HD4 H5 HFW
  -- the second row of writes
  have F2 := Lib.hid (fill_any (ws := []) A1 l1 c1 ks1 w5 (by omega) (by simp) (nums_below HS1.out B5.out) (fun b o h0 e hfb => nums_apart HS1.out h0 e (LO3.out b hfb)) HD5.out)
  go_upto_region 9 with (go_at_call 28; (with_reducible refine F2.out.mono ?_); rintro e w6 ⟨rfl, ⟨fp6, hs6, hd6⟩, hk6⟩; have HS6 := Lib.hid hs6; have HD6 := Lib.hid hd6; have HK6 := Lib.hid hk6; clear hs6 hd6 hk6)
  have B6 := Lib.hid (keeps_up HK6.out B5.out LO3.out)
  have LO6 := Lib.hid (sub_low HS6.out B5.out.size LO3.out)
  have HW6 := Lib.hid (dk_frame HW5.out HK6.out AP1.out)
  have AP2 := Lib.hid (show Apart fp6 fw from apart_sub (apart_symm AP1.out) HS6.out (dk_all HW5.out))
  clear F2 HD5 HK6 HS6 LO3 AP1 HW5 B5
  go_upto_region 10 with (go_at_call 14; (with_reducible refine (dk_twin w6 (by rw [List.nil_append, filW_length]; omega) HD6.out).mono ?_); rintro e w7 ⟨g2, fa, rfl, hd, hf, hb⟩; have HA7 := Lib.hid hd; have HFA := Lib.hid hf; have H7 := Lib.hid hb; clear hd hf hb)
  have B7 := Lib.hid (up B6.out H7.out)
  have HD7 := Lib.hid (dk_below HD6.out H7.out)
  have HW7 := Lib.hid (dk_below HW6.out H7.out)
  have AP3 := Lib.hid (show Apart fa fp6 from fun i h1 h2 => by have := HFA.out i h1; have := dk_all HD6.out i h2; omega)
  have AP4 := Lib.hid (show Apart fa fw from fun i h1 h2 => by have := HFA.out i h1; have := dk_all HW6.out i h2; omega)
  have LOA := Lib.hid (show ∀ i, fa i → w.heap.size ≤ i from fun i h => Nat.le_trans B6.out.size (HFA.out i h))
  clear HD6 HW6 H7 HFA B6
  go_upto_region 13 with (go_at_call 14; (with_reducible refine (dk_twin w7 (by rw [List.nil_append, filW_length]; omega) HD7.out).mono ?_); rintro e w8 ⟨g3, fn, rfl, hd, hf, hb⟩; have HN8 := Lib.hid hd; have HFN := Lib.hid hf; have H8 := Lib.hid hb; clear hd hf hb)
  have B8 := Lib.hid (up B7.out H8.out)
  have HD8 := Lib.hid (dk_below HD7.out H8.out)
  have HW8 := Lib.hid (dk_below HW7.out H8.out)
  have HA8 := Lib.hid (dk_below HA7.out H8.out)
  have AP5 := Lib.hid (show Apart fn fp6 from fun i h1 h2 => by have := HFN.out i h1; have := dk_all HD7.out i h2; omega)
  have AP6 := Lib.hid (show Apart fn fw from fun i h1 h2 => by have := HFN.out i h1; have := dk_all HW7.out i h2; omega)
  have AP7 := Lib.hid (show Apart fn fa from fun i h1 h2 => by have := HFN.out i h1; have := dk_all HA7.out i h2; omega)
  have LON := Lib.hid (show ∀ i, fn i → w.heap.size ≤ i from fun i h => Nat.le_trans B7.out.size (HFN.out i h))
  clear HD7 HW7 HA7 H8 HFN B7
  -- keep
  have hmk := fun W => made_ints l1 (by omega) W
  obtain ⟨kb, hkb⟩ : ∃ kb, w8.heap.size = kb := ⟨_, rfl⟩
  have HKB := Lib.hid hkb
  have r0 : Row (w8.alloc (.cells (madeCells #[.int .i64 0] l1) 3)) kb 3 l1 (fun _ => .int .i64 1) 0 := by rw [← hkb]; exact ⟨_, lies_new w8 3 _, by simp [madeCells], fun j hj => by omega⟩
  have b0 : Below kb w8 (w8.alloc (.cells (madeCells #[.int .i64 0] l1) 3)) := by rw [← hkb]; exact (Below.refl _ _).alloc (Nat.le_refl _) _
  have R0 := Lib.hid r0
  have BB0 := Lib.hid b0
  clear r0 b0
  go_upto_region 14 with (fail)
  clear hmk hkb
  go_wp2
  go_loopw [12] (fun v wr => ∃ i : Nat, i ≤ l1 ∧ v = .int .i64 (i : Int) ∧ Row wr kb 3 l1 (fun _ => .int .i64 1) i ∧ Below kb w8 wr) (fun v _ => l1 - (intOf v).toNat)
  case atStart => exact ⟨0, Nat.zero_le _, rfl, R0.out, BB0.out⟩
  case round =>
    clear R0 BB0
    obtain ⟨i, hi, rfl, hr, hb⟩ := hrel
    by_cases hlt : i < l1
    · have lk : decide (i < l1) = true := decide_eq_true hlt
      have lk' : (i : Int) < (l1 : Int) := by omega
      obtain ⟨v, d⟩ := row_some hr hlt
      have f := row_free hr i
      have HR := Lib.hid hr
      have HB := Lib.hid hb
      clear hr hb
      go_wp2
      go_roundw
      case rel => exact ⟨i + 1, by omega, by go_num, row_more HR.out hlt rfl, HB.out.setCell (p := ⟨kb, i, none⟩) (Nat.le_refl _) _⟩
      case measure => first | (simp [intOf]; done) | (simp [intOf]; omega)
    · have lk : decide (i < l1) = false := decide_eq_false hlt
      have lk' : ¬ (i : Int) < (l1 : Int) := by omega
      obtain rfl : i = l1 := by omega
      have HR := Lib.hid hr
      have hb' : Below w8.heap.size w8 wr := by rw [HKB.out]; exact hb
      have HB := Lib.hid hb'
      clear hr hb hb'
      have B9 := Lib.hid (up B8.out HB.out)
      have D9 := Lib.hid (dk_below HD8.out HB.out)
      have W9 := Lib.hid (dk_below HW8.out HB.out)
      have A9 := Lib.hid (dk_below HA8.out HB.out)
      have N9 := Lib.hid (dk_below HN8.out HB.out)
      have K9 := Lib.hid (show ¬ fa kb from fun h => by have := dk_all HA8.out kb h; have := HKB.out; omega)
      clear HD8 HW8 HA8 HN8 HB B8
      have CA := Lib.hid (dk_crash wr (by rw [List.nil_append, filW_length]; omega) (some ⟨kb, 0, none⟩) i i (fun _ => 1) (fun j hj => ⟨kb, 0, rfl, row_lt HR.out, K9.out, by rw [Nat.zero_add]; exact row_cell HR.out hj⟩) A9.out)
      go_upto_region 19 with (go_at_call 26; (with_reducible refine CA.out.mono ?_); rintro e w10 ⟨rfl, hd, hk⟩; have A10 := Lib.hid hd; have HK := Lib.hid hk; clear hd hk)
      have B10 := Lib.hid (keeps_up HK.out B9.out LOA.out)
      have D10 := Lib.hid (dk_frame D9.out HK.out (apart_symm AP3.out))
      have W10 := Lib.hid (dk_frame W9.out HK.out (apart_symm AP4.out))
      have N10 := Lib.hid (dk_frame N9.out HK.out AP7.out)
      clear CA D9 W9 A9 N9 HK B9 HR K9
      have CN := Lib.hid (dk_crash w10 (by rw [List.nil_append, filW_length]; omega) none 0 0 (fun _ => 0) (fun j hj => absurd hj (Nat.not_lt_zero _)) N10.out)
      go_upto_region 20 with (go_at_call 26; (with_reducible refine CN.out.mono ?_); rintro e w11 ⟨rfl, hd, hk⟩; have N11 := Lib.hid hd; have HK := Lib.hid hk; clear hd hk)
      have B11 := Lib.hid (keeps_up HK.out B10.out LON.out)
      have D11 := Lib.hid (dk_frame D10.out HK.out (apart_symm AP5.out))
      have W11 := Lib.hid (dk_frame W10.out HK.out (apart_symm AP6.out))
      have A11 := Lib.hid (dk_frame A10.out HK.out (apart_symm AP7.out))
      clear CN D10 W10 A10 N10 HK B10
      go_upto_region 21 with (go_at_call 25; (with_reducible refine (dk_flush w11 (by decide) (by decide) D11.out).mono ?_); rintro e w12 ⟨rfl, hd, hk⟩; have D12 := Lib.hid (show DK w12 g 6 (now G ([] ++ filW ks1 i)) [] true (-1) fp6 from hd); have HK := Lib.hid hk; clear hd hk)
      have B12 := Lib.hid (keeps_up HK.out B11.out LO6.out)
      have W12 := Lib.hid (dk_frame W11.out HK.out (apart_symm AP2.out))
      have A12 := Lib.hid (dk_frame A11.out HK.out AP3.out)
      have N12 := Lib.hid (dk_frame N11.out HK.out AP5.out)
      clear D11 W11 A11 N11 HK B11
      have S1 := Lib.hid (same_any w12 A12.out D12.out (fun j _ => by
        show keptW (keeps i fun _ => 1) 0 ([] ++ filW ks1 i) G j = now G ([] ++ filW ks1 i) j
        rw [kept_all _ _ _ _ (fun k h1 h2 => by rw [List.nil_append, filW_length] at h2; unfold keeps; simp; omega)]))
      have S2 := Lib.hid (fun (W : World) (hb : Below w12.heap.size w12 W) => same_any W (dk_below N12.out hb) (dk_below W12.out hb) (fun j _ => by
        show keptW (keeps 0 fun _ => 0) 0 ([] ++ filW ks1 i) G j = G j
        rw [kept_none _ (fun k => by unfold keeps; simp)]))
      have P1 := Lib.hid (fun (W : World) (hb : Below w12.heap.size w12 W) => dk_pend W (by decide) (dk_below D12.out hb))
      go_wp2_with (first
        | (go_at_call 29; (with_reducible refine S1.out.mono ?_); rintro e w13 ⟨rfl, hb⟩; have H13 := Lib.hid hb; clear hb)
        | (go_at_call 29; (with_reducible refine (S2.out _ H13.out).mono ?_); rintro e w14 ⟨rfl, hb⟩; have H14 := Lib.hid (up H13.out hb); clear hb)
        | (go_at_call 27; (with_reducible refine (P1.out _ H14.out).mono ?_); rintro e w15 ⟨A5, C5, rfl, _, hb⟩; have H15 := Lib.hid (up H14.out hb); clear hb))
      go_ret
      exact ⟨rfl, up B12.out H15.out⟩
end Go.Proofs.Ytibidljblkfciaa
