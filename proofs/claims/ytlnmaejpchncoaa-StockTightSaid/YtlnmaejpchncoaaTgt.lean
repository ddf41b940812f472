/-
What is proved here: the law StockTight's walk.
-/
import Derived.Test.YtlnmaejpchncoaaMny
set_option linter.unusedSimpArgs false
set_option linter.unusedVariables false
namespace Go.Stk
/-- the content that the law makes at i: b bytes -/
def blob (b i : Nat) : Bt := ((List.replicate b (0 : UInt8)).set 0 (UInt8.ofNat (i % 256))).set 1 (UInt8.ofNat (i / 256))
def blobs (b i : Nat) : List Bt := (List.range i).map (blob b)
theorem blob_len (b i : Nat) : (blob b i).length = b := by simp [blob]
theorem blobs_len (b i : Nat) : (blobs b i).length = i := by simp [blobs]
theorem blobs_snoc (b i : Nat) : blobs b (i + 1) = blobs b i ++ [blob b i] := by simp [blobs, List.range_succ]
theorem blobs_flat (b : Nat) : ∀ i, (blobs b i).flatten.length = i * b
  | 0 => by simp [blobs]
  | i + 1 => by
    rw [blobs_snoc, List.flatten_append, List.length_append, blobs_flat b i]
    simp [blob_len]
    rw [Nat.add_mul]
    omega
theorem low_eq {i j : Nat} (hi : i < 256) (hj : j < 256) (h : UInt8.ofNat i = UInt8.ofNat j) : i = j := by
  have := congrArg UInt8.toNat h
  simp at this
  omega
theorem blob_inj {b i j : Nat} (hb : 1 ≤ b) (hi : i ≤ 300) (hj : j ≤ 300) (h1 : b = 1 → i ≤ 255 ∧ j ≤ 255) (h : blob b i = blob b j) : i = j := by
  have h0 := congrArg (fun l => l[0]?) h
  have h2 := congrArg (fun l => l[1]?) h
  simp only [blob, List.getElem?_set] at h0 h2
  simp at h0 h2
  rw [if_pos (by omega), if_pos (by omega)] at h0
  injection h0 with h0
  have e0 := low_eq (Nat.mod_lt i (by decide)) (Nat.mod_lt j (by decide)) h0
  by_cases hb1 : b = 1
  · have := h1 hb1
    omega
  · rw [if_pos (by omega), if_pos (by omega)] at h2
    injection h2 with h2
    have e1 := low_eq (i := i / 256) (j := j / 256) (by omega) (by omega) h2
    omega
theorem blob_new {b i : Nat} (hb : 1 ≤ b) (hi : i ≤ 300) (h1 : b = 1 → i ≤ 255) : blob b i ∉ blobs b i := fun h => by
  unfold blobs at h
  obtain ⟨j, hj, e⟩ := List.mem_map.1 h
  have hj : j < i := by simpa using hj
  have := blob_inj hb (by omega) hi (fun e => ⟨by have := h1 e; omega, h1 e⟩) e
  omega
theorem add_blob {n b i q : Nat} (hq : q = n / b) (hb : 1 ≤ b) (hb2 : b ≤ 8192) (hi : i ≤ 300) (h1 : b = 1 → i ≤ 255) (hiq : i ≤ q) :
    addA (n : Int) (blobs b i) (blob b i) = if i < q then ((i : Int), 0, blobs b (i + 1)) else (0, 27, blobs b i) := by
  unfold addA
  rw [blob_len, blobs_flat, blobs_len, if_neg (by omega), if_neg (blob_new hb hi h1)]
  have hm : q * b ≤ n := by rw [hq]; exact Nat.div_mul_le_self n b
  have hn : n < (q + 1) * b := by
    rw [hq, Nat.mul_comm]
    exact Nat.lt_mul_div_succ n (by omega)
  by_cases h : i < q
  · have h2 : (i + 1) * b ≤ q * b := Nat.mul_le_mul_right _ h
    have h3 : (i + 1) * b = i * b + b := by rw [Nat.add_mul]; omega
    rw [if_pos h, if_neg (by omega), blobs_snoc]
  · obtain rfl : i = q := by omega
    have h3 : (i + 1) * b = i * b + b := by rw [Nat.add_mul]; omega
    rw [if_neg h, if_pos (by omega)]
end Go.Stk
namespace Go.Proofs.Ytlnmaejpchncoaa
open Go.Stk Go.RowKit Go.Word
attribute [local go_sem] guard_eq guard_ne st_eql st_neq
theorem wrap_in (z : Int) (h0 : 0 ≤ z) (h1 : z ≤ 1000000000) : wrap64 z = z := by unfold wrap64; omega
theorem yB_nat (k : Nat) (h : k < 256) : yB (UInt8.ofNat k) = .int .u8 (k : Int) := by
  unfold yB
  have : (UInt8.ofNat k).toNat = k := by simp; omega
  rw [this]
theorem blob_one (b i : Nat) (h : b = 1) : (madeCells #[.int .u8 0] b).setIfInBounds 0 (.int .u8 ((i : Int) % 256)) = ((blob b i).map yB).toArray := by
  have e : ((i : Int) % 256) = ((i % 256 : Nat) : Int) := by omega
  rw [e, ← yB_nat _ (Nat.mod_lt i (by decide)), made_zero]
  subst h
  rfl
theorem blob_two (b i : Nat) (h : 1 < b) (hi : i ≤ 300) : ((madeCells #[.int .u8 0] b).setIfInBounds 0 (.int .u8 ((i : Int) % 256))).setIfInBounds 1 (.int .u8 ((i : Int) / 256)) = ((blob b i).map yB).toArray := by
  have e : ((i : Int) % 256) = ((i % 256 : Nat) : Int) := by omega
  have e2 : ((i : Int) / 256) = ((i / 256 : Nat) : Int) := by omega
  rw [e, e2, ← yB_nat _ (Nat.mod_lt i (by decide)), ← yB_nat (i / 256) (by omega), made_zero]
  unfold blob
  rw [List.map_set, List.map_set, List.setIfInBounds_toArray, List.setIfInBounds_toArray]
set_option maxRecDepth 100000 in
set_option maxHeartbeats 8000000 in
theorem tight_law (lim k : Int) (w : World) : Calls Try.prog 7 #[.int .i64 lim, .int .i64 k] w fun e w' => e = .returned (.bool true) ∧ Below w.heap.size w w' := by
  go_enter Try.func7, Try.ntmps7
  go_upto_region 2 with (go_at_call 8; (with_reducible refine (alive_any _).mono ?_); rintro e w1 ⟨rfl, hb⟩; have B1 := Lib.hid hb; clear hb)
  by_cases c1 : lim < 0
  · go_wp2
    go_ret
    exact ⟨rfl, B1.out⟩
  by_cases c2 : 65536 < lim
  · go_wp2
    go_ret
    exact ⟨rfl, B1.out⟩
  by_cases c3 : k < 1
  · go_wp2
    go_ret
    exact ⟨rfl, B1.out⟩
  by_cases c4 : 8192 < k
  · go_wp2
    go_ret
    exact ⟨rfl, B1.out⟩
  obtain ⟨n, rfl⟩ : ∃ n : Nat, lim = n := ⟨lim.toNat, by omega⟩
  obtain ⟨b, rfl⟩ : ∃ b : Nat, k = b := ⟨k.toNat, by omega⟩
  have hd : wrap64 ((n : Int) / (b : Int)) = ((n / b : Nat) : Int) := by
    rw [← Int.natCast_ediv]
    exact wrap_in _ (Int.natCast_nonneg _) (Int.le_trans (Int.ofNat_le.2 (Nat.div_le_self n b)) (by omega))
  obtain ⟨q, hq⟩ : ∃ q, q = n / b := ⟨_, rfl⟩
  rw [← hq] at hd
  by_cases c5 : (300 : Int) < (q : Int)
  · go_wp2
    go_ret
    exact ⟨rfl, B1.out⟩
  have q300 : q ≤ 300 := by omega
  have QE := Lib.hid hq
  clear hq
  have NW := Lib.hid (new_any (n : Int) w1 (by omega) (by omega))
  go_upto_region 7 with (first
    | (go_at_call 10; (with_reducible refine NW.out.mono ?_); rintro e w2 ⟨rfl, hs, hb, hz⟩; have S2 := Lib.hid hs; have B2 := Lib.hid (B1.out.trans (hb.mono B1.out.size)); have Z1 := Lib.hid B1.out.size; clear hs hb hz)
    | (go_at_call 11; (with_reducible refine (num_any _ _).mono ?_); rintro e w1' ⟨rfl, rfl⟩))
  generalize w1.heap.size = g at *
  clear NW B1
  go_wp2
  go_loopw [8, 9, 10, 11] (fun v8 _ _ _ wr => ∃ (i : Nat) (P : Nat → Prop) (vB vE vM : Value), i ≤ q + 1 ∧ v8 = .int .i64 (i : Int) ∧ Stk wr P g (n : Int) (blobs b (min i q)) vB vE vM ∧ (∀ j, P j → w.heap.size ≤ j ∧ j < wr.heap.size) ∧ Below w.heap.size w wr) (fun v8 _ _ _ _ => q + 1 - (intOf v8).toNat)
  case atStart => exact ⟨0, fun j => j = g ∧ j < w2.heap.size, _, _, _, by omega, rfl, by rw [Nat.zero_min]; exact stk_cut S2.out, fun j hj => ⟨by have := Z1.out; have := hj.1; omega, hj.2⟩, B2.out⟩
  case round =>
    obtain ⟨i, P, vB, vE, vM, hi, rfl, hs, hp, hb⟩ := hrel
    have HS := Lib.hid hs
    have HP := Lib.hid hp
    have HB := Lib.hid hb
    clear hs hp hb
    by_cases hlt : i ≤ q
    · have li : (i : Int) ≤ (q : Int) := by omega
      have mkr := mk_bytes wr b (by omega)
      have LN := lies_new wr 5 (madeCells #[.int .u8 0] b)
      have d0 := lies_cell LN 0
      rw [made_at _ b 0 (by omega)] at d0
      have f0 := lies_free LN 0
      clear LN
      go_upto_region 12 with (fail)
      by_cases hb1 : 1 < b
      · have lb : (1 : Int) < (b : Int) := by omega
        have LN := lies_new wr 5 ((madeCells #[.int .u8 0] b).setIfInBounds 0 (.int .u8 ((i : Int) % 256)))
        have d1 := lies_cell LN 1
        rw [Array.getElem?_setIfInBounds, if_neg (by omega), made_at _ b 1 hb1] at d1
        have f1 := lies_free LN 1
        clear LN d0 f0
        have BT := Lib.hid (blob_two b i hb1 (by omega))
        have ONE : Hid (b = 1 → i ≤ 255) := Lib.hid (fun e => by omega)
        go_upto_region 16 with (fail)
        rw [BT.out]
        have mi : min i q = i := by omega
        rw [mi] at HS
        have b3 : Below wr.heap.size wr (wr.alloc (.cells ((blob b i).map yB).toArray 5)) := (Below.refl _ _).alloc (Nat.le_refl _) _
        have AD := add_any (some ⟨wr.heap.size, 0, none⟩) b (blob b i) _ (stk_below HS.out b3) (bytes_new wr (blob b i) (0, 0)) (fun a e => by injection e with e; subst e; exact ⟨fun h => Nat.lt_irrefl _ (HP.out _ h).2, by simp⟩) (by rw [blob_len]; omega) (by rw [blobs_len]; omega) (by
          rw [blobs_flat]
          have : i * b ≤ 300 * 8192 := Nat.mul_le_mul (by omega) (by omega)
          omega)
        rw [blob_len, add_blob QE.out (by omega) (by omega) (by omega) ONE.out hlt] at AD
        have HB3 := Lib.hid (HB.out.trans (b3.mono HB.out.size))
        have HP3 := Lib.hid (fun j hj => (HP.out j hj).1)
        clear b3 mi BT
        generalize wr.alloc (.cells ((blob b i).map yB).toArray 5) = Y at *
        by_cases hiq : i < q
        · rw [if_pos hiq] at AD
          have AD := Lib.hid AD
          have lq : (i : Int) < (q : Int) := by omega
          have lq2 : decide ((i : Int) < (q : Int)) = true := decide_eq_true lq
          have leq : ((i : Int) == (q : Int)) = false := by simp; omega
          go_upto_region 17 with (go_at_call 15; (with_reducible refine AD.out.mono ?_); rintro e w3 ⟨P3, vB3, vE3, vM3, rfl, hs, hsub, hk⟩; have S3 := Lib.hid hs; have SU3 := Lib.hid hsub; have K3 := Lib.hid (keeps_up hk HB3.out HP3.out); clear hs hsub hk)
          clear AD
          go_wp2_with (go_at_call 11; (with_reducible refine (num_any _ _).mono ?_); rintro e w1' ⟨rfl, rfl⟩)
          go_roundw
          case rel => exact ⟨i + 1, fun j => P3 j ∧ j < w3.heap.size, vB3, vE3, vM3, by omega, by go_num, by rw [show min (i + 1) q = i + 1 by omega]; exact stk_cut S3.out, fun j hj => ⟨sub_low SU3.out HB3.out.size HP3.out j hj.1, hj.2⟩, K3.out⟩
          case measure => first | (simp [intOf]; done) | (simp [intOf]; omega)
        · rw [if_neg hiq] at AD
          have AD := Lib.hid AD
          have lq : ¬ ((i : Int) < (q : Int)) := by omega
          have lq2 : decide ((i : Int) < (q : Int)) = false := decide_eq_false lq
          have leq : ((i : Int) == (q : Int)) = true := by simp; omega
          go_upto_region 17 with (go_at_call 15; (with_reducible refine AD.out.mono ?_); rintro e w3 ⟨P3, vB3, vE3, vM3, rfl, hs, hsub, hk⟩; have S3 := Lib.hid hs; have SU3 := Lib.hid hsub; have K3 := Lib.hid (keeps_up hk HB3.out HP3.out); clear hs hsub hk)
          clear AD
          go_wp2_with (go_at_call 11; (with_reducible refine (num_any _ _).mono ?_); rintro e w1' ⟨rfl, rfl⟩)
          go_roundw
          case rel => exact ⟨i + 1, fun j => P3 j ∧ j < w3.heap.size, vB3, vE3, vM3, by omega, by go_num, by rw [show min (i + 1) q = i by omega]; exact stk_cut S3.out, fun j hj => ⟨sub_low SU3.out HB3.out.size HP3.out j hj.1, hj.2⟩, K3.out⟩
          case measure => first | (simp [intOf]; done) | (simp [intOf]; omega)
      · have lb : ¬ ((1 : Int) < (b : Int)) := by omega
        by_cases h255 : 255 < i
        · have l5 : (255 : Int) < (i : Int) := by omega
          go_wp2
          go_ret
          exact ⟨rfl, HB.out.alloc HB.out.size _⟩
        have l5 : ¬ ((255 : Int) < (i : Int)) := by omega
        have BT := Lib.hid (blob_one b i (by omega))
        have ONE : Hid (b = 1 → i ≤ 255) := Lib.hid (fun e => by omega)
        clear d0 f0
        go_upto_region 16 with (fail)
        rw [BT.out]
        have mi : min i q = i := by omega
        rw [mi] at HS
        have b3 : Below wr.heap.size wr (wr.alloc (.cells ((blob b i).map yB).toArray 5)) := (Below.refl _ _).alloc (Nat.le_refl _) _
        have AD := add_any (some ⟨wr.heap.size, 0, none⟩) b (blob b i) _ (stk_below HS.out b3) (bytes_new wr (blob b i) (0, 0)) (fun a e => by injection e with e; subst e; exact ⟨fun h => Nat.lt_irrefl _ (HP.out _ h).2, by simp⟩) (by rw [blob_len]; omega) (by rw [blobs_len]; omega) (by
          rw [blobs_flat]
          have : i * b ≤ 300 * 8192 := Nat.mul_le_mul (by omega) (by omega)
          omega)
        rw [blob_len, add_blob QE.out (by omega) (by omega) (by omega) ONE.out hlt] at AD
        have HB3 := Lib.hid (HB.out.trans (b3.mono HB.out.size))
        have HP3 := Lib.hid (fun j hj => (HP.out j hj).1)
        clear b3 mi BT
        generalize wr.alloc (.cells ((blob b i).map yB).toArray 5) = Y at *
        by_cases hiq : i < q
        · rw [if_pos hiq] at AD
          have AD := Lib.hid AD
          have lq : (i : Int) < (q : Int) := by omega
          have lq2 : decide ((i : Int) < (q : Int)) = true := decide_eq_true lq
          have leq : ((i : Int) == (q : Int)) = false := by simp; omega
          go_upto_region 17 with (go_at_call 15; (with_reducible refine AD.out.mono ?_); rintro e w3 ⟨P3, vB3, vE3, vM3, rfl, hs, hsub, hk⟩; have S3 := Lib.hid hs; have SU3 := Lib.hid hsub; have K3 := Lib.hid (keeps_up hk HB3.out HP3.out); clear hs hsub hk)
          clear AD
          go_wp2_with (go_at_call 11; (with_reducible refine (num_any _ _).mono ?_); rintro e w1' ⟨rfl, rfl⟩)
          go_roundw
          case rel => exact ⟨i + 1, fun j => P3 j ∧ j < w3.heap.size, vB3, vE3, vM3, by omega, by go_num, by rw [show min (i + 1) q = i + 1 by omega]; exact stk_cut S3.out, fun j hj => ⟨sub_low SU3.out HB3.out.size HP3.out j hj.1, hj.2⟩, K3.out⟩
          case measure => first | (simp [intOf]; done) | (simp [intOf]; omega)
        · rw [if_neg hiq] at AD
          have AD := Lib.hid AD
          have lq : ¬ ((i : Int) < (q : Int)) := by omega
          have lq2 : decide ((i : Int) < (q : Int)) = false := decide_eq_false lq
          have leq : ((i : Int) == (q : Int)) = true := by simp; omega
          go_upto_region 17 with (go_at_call 15; (with_reducible refine AD.out.mono ?_); rintro e w3 ⟨P3, vB3, vE3, vM3, rfl, hs, hsub, hk⟩; have S3 := Lib.hid hs; have SU3 := Lib.hid hsub; have K3 := Lib.hid (keeps_up hk HB3.out HP3.out); clear hs hsub hk)
          clear AD
          go_wp2_with (go_at_call 11; (with_reducible refine (num_any _ _).mono ?_); rintro e w1' ⟨rfl, rfl⟩)
          go_roundw
          case rel => exact ⟨i + 1, fun j => P3 j ∧ j < w3.heap.size, vB3, vE3, vM3, by omega, by go_num, by rw [show min (i + 1) q = i by omega]; exact stk_cut S3.out, fun j hj => ⟨sub_low SU3.out HB3.out.size HP3.out j hj.1, hj.2⟩, K3.out⟩
          case measure => first | (simp [intOf]; done) | (simp [intOf]; omega)
    · obtain rfl : i = q + 1 := by omega
      have li : ¬ (((q + 1 : Nat) : Int) ≤ (q : Int)) := by omega
      have li2 : ¬ ((q : Int) + 1 ≤ (q : Int)) := by omega
      rw [show min (q + 1) q = q by omega] at HS
      have hmul : wrap64 ((q : Int) * (b : Int)) = ((q * b : Nat) : Int) := by
        rw [← Int.natCast_mul]
        have : q * b ≤ 300 * 8192 := Nat.mul_le_mul q300 (by omega)
        exact wrap_in _ (Int.natCast_nonneg _) (by omega)
      have SZ := fun k => size_any (wr.drewN k) (stk_same HS.out (fun _ _ _ => rfl))
      have LZ := fun k => len_any (wr.drewN k) (stk_same HS.out (fun _ _ _ => rfl))
      rw [blobs_flat] at SZ
      rw [blobs_len] at LZ
      generalize q * b = qb at *
      go_upto_region 19 with (fail)
      go_quiet ((first
        | (go_at_call 18; exact Calls.quiet_of_same ((SZ _).mono (fun e w' h => ⟨h.1, h.2.symm⟩)))
        | (go_at_call 17; exact Calls.quiet_of_same ((LZ _).mono (fun e w' h => ⟨h.1, h.2.symm⟩)))))
      go_wp2
      go_ret
      exact ⟨rfl, below_drewN HB.out _⟩
end Go.Proofs.Ytlnmaejpchncoaa
