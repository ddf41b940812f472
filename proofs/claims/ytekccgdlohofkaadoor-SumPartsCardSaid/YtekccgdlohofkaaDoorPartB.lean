/-
What is proved here: the law SumParts' walk.
-/
import Derived.Test.YtekccgdlohofkaaDoorPartA
set_option linter.unusedSimpArgs false
namespace Go.Proofs.YtekccgdlohofkaaDoor
open Go.Word Go.RowKit
theorem only_frozen {a w : World} {g : Nat} (h : a.grownBy w (some g)) {p : Addr} (hp : p.block < a.heap.size) (hne : p.block ≠ g) : w.frozen? p = a.frozen? p := by
  have := h.block p.block hp (fun e => by injection e; omega)
  unfold World.frozen?
  rw [this]
theorem own_ne {w w' : World} {base g : Nat} {v : Value} {b : List (BitVec 8)} (h : Own w base v b) (hg : w.grownBy w' (some g)) (hne : v.ownBlock ≠ some g) : Own w' base v b :=
  World.ownsRow.kept h hg (.inr hne)
theorem dig_ex (b : List (BitVec 8)) : ∃ E, Dig E b := ⟨_, rfl⟩
theorem own_cap {w : World} {base n c : Nat} {A : Option Addr} {b : List (BitVec 8)} (h : Own w base (.slice A n c) b) : A = none → c = 0 := by
  obtain ⟨_, _, e, _, n⟩ := own_form h
  obtain ⟨rfl, rfl, rfl⟩ := Value.slice.inj e
  exact n
attribute [local go_sem] y_xor255

set_option maxRecDepth 100000 in
set_option maxHeartbeats 4000000 in
theorem parts_any (PA : Option Addr) (P cp : Nat) (A : Nat → Option Addr) (L C : Nat → Nat) (X : Nat → List (BitVec 8)) (B : Option Addr) (l d : Nat) (y : List (BitVec 8)) (w : World)
    (hP : Parts w PA P A L C X) (hPm : P ≤ 2 ^ 47) (hy : y.length = l) (hd : l ≤ d) (hB : B = none → d = 0) (hT : Tabs w) (s2 : Byt w B y) :
    Calls Tryd.prog 5 #[.slice PA P cp, .slice B l d] w fun e w' => e = .returned (.bool true) ∧ Below w.heap.size w w' := by
  have HP := Lib.hid hP
  have HT := Lib.hid hT
  have S2 := Lib.hid s2
  have HY := Lib.hid hy
  have HB := Lib.hid hB
  have HD := Lib.hid hd
  have hPn : P ≤ 140737488355328 := hPm
  have hLm : ∀ r, r < P → L r ≤ 140737488355328 := hP.most
  have HL := Lib.hid hLm
  have hw2 := hT.1.1
  clear hP hT s2 hy hB hd hPm hLm
  go_enter Tryd.func5, Tryd.ntmps5
  go_upto_region 3 with (go_at_call 11; (with_reducible refine (alive_any _ HT.out).mono ?_); rintro e w1 ⟨rfl, hb⟩; have H1 := Lib.hid hb; clear hb)
  go_wp2
  go_loopw [6, 7] (fun vn vi wr => ∃ i n : Nat, i ≤ P ∧ vi = .int .i64 (i : Int) ∧ vn = .int .i64 (n : Int) ∧ n = tot L i ∧ n ≤ 140737488365328 ∧ wr = w1) (fun _ vi _ => P - (intOf vi).toNat)
  case atStart => exact ⟨0, 0, by omega, rfl, rfl, rfl, by omega, rfl⟩
  case round =>
    obtain ⟨i, n, hi, rfl, rfl, hn, hnm, rfl⟩ := hrel
    by_cases hgo : i < P ∧ n ≤ 5000
    · obtain ⟨hin, h5⟩ := hgo
      obtain ⟨ad, rfl, hc⟩ := HP.out.cell hin H1.out
      have hLi := HL.out i hin
      obtain ⟨q, hq⟩ : ∃ q, q = L i := ⟨_, rfl⟩
      rw [← hq] at hc hLi
      have t1 : (i : Int) < (P : Int) := by omega
      have t2 : (n : Int) ≤ 5000 := by omega
      have HN := Lib.hid hn
      have HQ := Lib.hid hq
      clear hn hq
      go_wp2
      go_roundw
      case rel => exact ⟨i + 1, n + q + 1, by omega, by go_num, by go_num, by rw [HN.out, HQ.out]; rfl, by omega, trivial⟩
      case measure => first | (simp [intOf]; done) | (simp [intOf]; omega)
    · by_cases h5 : 5000 < n
      · have t3 : ¬ (n : Int) ≤ 5000 := by omega
        have t4 : decide ((5000 : Int) < (n : Int)) = true := decide_eq_true (by omega)
        by_cases hin : i < P
        · have t1 : (i : Int) < (P : Int) := by omega
          go_wp2
          go_ret
          exact ⟨rfl, H1.out⟩
        · have t1 : ¬ (i : Int) < (P : Int) := by omega
          go_wp2
          go_ret
          exact ⟨rfl, H1.out⟩
      obtain rfl : i = P := by omega
      have t4 : decide ((5000 : Int) < (n : Int)) = false := decide_eq_false (by omega)
      by_cases ho : 5000 < l
      · have t5 : decide ((5000 : Int) < (l : Int)) = true := decide_eq_true (by omega)
        go_wp2
        go_ret
        exact ⟨rfl, H1.out⟩
      have t5 : decide ((5000 : Int) < (l : Int)) = false := decide_eq_false (by omega)
      by_cases hp : 40 < i
      · have t6 : decide ((40 : Int) < (i : Int)) = true := decide_eq_true (by omega)
        go_wp2
        go_ret
        exact ⟨rfl, H1.out⟩
      have t6 : decide ((40 : Int) < (i : Int)) = false := decide_eq_false (by omega)
      have htot : tot L i ≤ 5000 := by omega
      have HTOT := Lib.hid htot
      have hcl : ∀ j, j ≤ i → (cat X j).length ≤ 5000 := fun j hj => by
        have := cat_len j (fun r hr => HP.out.len r (by omega))
        have := tot_le (L := L) hj
        omega
      have HCL := Lib.hid hcl
      clear hn hnm hgo hi htot hcl HL
      go_upto_region 10 with (go_at_call 20; (with_reducible refine (new_at _).mono ?_); rintro e v1 ⟨gh, rfl, hg, hh, hb2, hz2⟩; have HG1 := Lib.hid hg; have HH1 := Lib.hid hh; have B1 := Lib.hid hb2; clear hg hh hb2)
      go_upto_region 13 with (go_at_call 20; (with_reducible refine (new_at _).mono ?_); rintro e v2 ⟨gg, rfl, hg, hh, hb2, hz3⟩; have HG2 := Lib.hid hg; have HH2 := Lib.hid hh; have B2 := Lib.hid hb2; clear hg hh hb2)
      have e1 := HG1.out
      have e2 := HG2.out
      have e3 := H1.out.size
      have e4 := B1.out.size
      have e5 := B2.out.size
      have q1 : w.heap.size ≤ gh := by omega
      have q2 : gh < gg := by omega
      have q3 : 2 ≤ gh := by omega
      have b2 := up (up H1.out B1.out) B2.out
      have HB2 := Lib.hid b2
      have hh1 := Lib.hid (hash_below HH1.out B2.out hz2)
      have F := Lib.hid (add_at gg B l d [] y v2 HY.out (tabs_below HT.out b2).1 HH2.out (src_of S2.out b2 (by omega)) (by omega) HD.out (by simp; omega))
      clear HG1 HG2 HH1 HH2 B1 B2 b2 e1 e2 e3 e4 H1 t4 t5 t6
      go_upto_region 14 with (go_at_call 21; (with_reducible refine F.out.mono ?_); rintro e v3 ⟨rfl, hh, hG⟩; have HH := Lib.hid (show Hash v3 gg y from has_hash hh); have HG := Lib.hid hG; clear hh hG)
      have h3 := hash_only hh1.out HG.out (by omega)
      have b3 := only_up HB2.out HG.out (by omega)
      have z3 := HG.out.size
      obtain ⟨bs, hbs⟩ : ∃ bs, bs = v3.heap.size := ⟨_, rfl⟩
      have y1 : gg < bs := by omega
      have y2 : w.heap.size ≤ bs := by omega
      have g3 := HH.out
      clear F hh1 HG HB2 HH hz2 hz3 z3 e5
      go_wp2
      go_loopw [10, 11] (fun va vi wx => ∃ (j N : Nat) (A' : Option Addr) (c' : Nat), j ≤ i ∧ vi = .int .i64 (j : Int) ∧ N = (cat X j).length ∧ va = .slice A' N c' ∧ Own wx bs (.slice A' N c') (cat X j) ∧ Hash wx gh (cat X j) ∧ Hash wx gg y ∧ Below w.heap.size w wx ∧ bs ≤ wx.heap.size) (fun _ vi _ => i - (intOf vi).toNat)
      case atStart => exact ⟨0, 0, none, 0, by omega, rfl, rfl, rfl, own_nil _ _, h3, g3, b3, by omega⟩
      case round =>
        clear h3 g3 b3 hbs
        obtain ⟨j, N, A', c', hj, rfl, hN, rfl, ho1, ho2, ho3, ho4, ho5⟩ := hrel
        have O1 := Lib.hid ho1
        have O2 := Lib.hid ho2
        have O3 := Lib.hid ho3
        have O4 := Lib.hid ho4
        have hNb : N ≤ 5000 := by rw [hN]; exact HCL.out j hj
        have HN := Lib.hid hN
        clear ho1 ho2 ho3 ho4 hN
        by_cases hlt : j < i
        · obtain ⟨ad, hPA, hc⟩ := HP.out.cell hlt O4.out
          subst hPA
          obtain ⟨q, hq⟩ : ∃ q, q = L j := ⟨_, rfl⟩
          obtain ⟨aj, haj⟩ : ∃ q, q = A j := ⟨_, rfl⟩
          obtain ⟨cj, hcj⟩ : ∃ q, q = C j := ⟨_, rfl⟩
          obtain ⟨xj, hxj⟩ : ∃ q, q = X j := ⟨_, rfl⟩
          have hlen := HP.out.len j hlt
          have hnon := HP.out.none j hlt
          have hby := HP.out.byt j hlt
          have hq5 : q ≤ 5000 := by have := tot_part (L := L) hlt; have := HTOT.out; omega
          rw [← hq, ← haj, ← hcj] at hc
          rw [← hq, ← hxj] at hlen
          rw [← haj, ← hcj] at hnon
          rw [← haj, ← hxj] at hby
          have hN2 : N + q ≤ 5000 := by
            have := HCL.out (j + 1) (by omega)
            have e : cat X (j + 1) = cat X j ++ X j := rfl
            rw [e, List.length_append, ← hxj, hlen, ← HN.out] at this
            exact this
          have KX := Lib.hid (show cat X (j + 1) = cat X j ++ xj by rw [hxj]; rfl)
          have KL := Lib.hid hlen
          have KN := Lib.hid hnon
          have KB := Lib.hid hby
          have KC := Lib.hid (show ∀ w', Below w.heap.size w w' → w'.cell? (ad.add j) = some (.slice aj q cj) from fun w' hb => by
            obtain ⟨ad2, e, h⟩ := HP.out.cell hlt hb
            injection e with e
            rw [← e, ← hq, ← haj, ← hcj] at h
            exact h)
          clear hq haj hcj hxj hlen hnon hby
          have t1 : (j : Int) < (i : Int) := by omega
          go_upto_region 19 with (go_at_call 12; (with_reducible refine (lent_any aj q cj xj _ KL.out KN.out (byt_below KB.out O4.out) (by omega)).mono ?_); rintro e u1 ⟨f, cf, rfl, hcf, hO, hb⟩; have U1 := Lib.hid hO; have U2 := Lib.hid hb; clear hO hb)
          clear hc
          obtain ⟨f', ef, hf1, hf2, hfc⟩ := own_some U1.out (by simp)
          injection ef with ef
          injection ef with ef _ _
          subst ef
          have P3 : Byt u1 (some ⟨f, 0, none⟩) (xj ++ [167#8]) := own_byt U1.out
          have hob : (Value.slice A' N c').ownBlock ≠ some f := fun e => by have := (World.ownsRow.lt O1.out f e).2; omega
          have HOB := Lib.hid hob
          clear hob
          have b1 := up O4.out U2.out
          have q5 := hash_lt O2.out
          have z1 := U2.out.size
          have q6 : gh ≠ f := by omega
          have F := Lib.hid (add_at gh (some ⟨f, 0, none⟩) q cf (cat X j) xj u1 KL.out (tabs_below HT.out b1).1 (hash_below O2.out U2.out (by omega)) (byt_src (byt_front P3) (by omega)) q3 (by omega) (by rw [← HN.out]; omega))
          have Hg1 := Lib.hid (hash_below O3.out U2.out (hash_lt O3.out))
          have Ho1 := Lib.hid (own_below O1.out U2.out)
          have HB1 := Lib.hid b1
          have HP3 := Lib.hid P3
          have HF := Lib.hid (show Open8 u1 f (q + 1) from ⟨xj ++ [167#8], by rw [List.length_append, KL.out]; rfl, hf2, hfc⟩)
          clear U1 U2 hfc P3 b1 O1 O2 O3 O4 q5
          go_upto_region 20 with (go_at_call 21; (with_reducible refine F.out.mono ?_); rintro e u2 ⟨rfl, hh, hG⟩; have HH := Lib.hid (show Hash u2 gh (cat X (j + 1)) from by rw [KX.out]; exact has_hash hh); have HG := Lib.hid hG; clear hh hG)
          have b2 := only_up HB1.out HG.out (by omega)
          have z2 := HG.out.size
          have Hg2 := Lib.hid (hash_only Hg1.out HG.out (by omega))
          have Ho2 := Lib.hid (own_only Ho1.out HG.out (.inl (by omega)))
          have c2 := KC.out _ b2
          have p2 : Byt u2 (some ⟨f, 0, none⟩) (xj ++ [167#8]) := fun h0 => by
            obtain ⟨a0, e0, l0, h0⟩ := HP3.out h0
            injection e0 with e0
            subst e0
            refine ⟨_, rfl, Nat.lt_of_lt_of_le l0 z2, fun m hm => ?_⟩
            rw [only_cell HG.out (by rw [add_block]; exact l0) (by rw [add_block]; exact q6.symm)]
            exact h0 m hm
          have f2 : Open8 u2 f (q + 1) := by
            obtain ⟨b0, k1, k2, k3⟩ := HF.out
            refine ⟨b0, k1, by omega, fun m hm => ?_⟩
            rw [only_cell HG.out (p := ⟨f, m, none⟩) k2 q6.symm]
            refine ⟨(k3 m hm).1, ?_⟩
            rw [only_frozen HG.out (p := ⟨f, m, none⟩) k2 q6.symm]
            exact (k3 m hm).2
          have F2 := Lib.hid (stays_any (some ⟨f, 0, none⟩) aj q cf cj xj u2 KL.out p2 hcf (byt_below KB.out b2) (by omega))
          have B2 := Lib.hid b2
          clear F HG HP3 HF HB1 Hg1 Ho1 p2 b2
          go_upto_region 22 with (go_at_call 15; (with_reducible refine F2.out.mono ?_); rintro e u3 ⟨rfl, rfl⟩)
          clear F2 c2
          go_wp2
          go_loopw [13] (fun v wx => ∃ m : Nat, m ≤ q ∧ v = .int .i64 (m : Int) ∧ Open8 wx f (q + 1) ∧ u2.grownBy wx (some f)) (fun v _ => q - (intOf v).toNat)
          case atStart => exact ⟨0, by omega, rfl, f2, only_refl _ _⟩
          case round =>
            clear f2
            obtain ⟨m, hm, rfl, k1, k2⟩ := hrel
            by_cases hmq : m < q
            · obtain ⟨b0, l1, l2, l3⟩ := k1
              have cm := (l3 m (by omega)).1
              have fm := (l3 m (by omega)).2
              obtain ⟨bv, hbv⟩ : ∃ bv, bv = b0.getD m 0 := ⟨_, rfl⟩
              rw [← hbv] at cm
              have t2 : (m : Int) < (q : Int) := by omega
              have K1 := Lib.hid (open8_set (m := m) (show Open8 wr f (q + 1) from ⟨b0, l1, l2, l3⟩) (by omega) (bv ^^^ 255#8))
              have K2 := Lib.hid k2
              clear l3 hbv l1 k2
              go_wp2_with (rw [store_ys]; go_simp)
              go_roundw
              case rel => exact ⟨m + 1, by omega, by go_num, K1.out, only_setCell K2.out _ _⟩
              case measure => first | (simp [intOf]; done) | (simp [intOf]; omega)
            · obtain rfl : m = q := by omega
              have s1 := hash_only HH.out k2 q6
              have s2 := hash_only Hg2.out k2 (by omega)
              have s3 := own_ne Ho2.out k2 HOB.out
              have s4 := only_up B2.out k2 (by omega)
              have s5 : bs ≤ wr.heap.size := by have := k2.size; omega
              have c2 := KC.out _ s4
              have s6 := byt_below KB.out s4
              have S1 := Lib.hid s1
              have S3 := Lib.hid s3
              have S4 := Lib.hid s4
              have S5 := Lib.hid s2
              have S6 := Lib.hid s6
              obtain ⟨M, hM⟩ : ∃ M, M = N + m := ⟨_, rfl⟩
              have hMb : M ≤ 5000 := by omega
              have HM := Lib.hid hM
              clear s1 s2 s3 s4 s6 k1 k2 HH Hg2 Ho2 B2 hM
              go_upto_region 27 with (refine wpList_app rfl (.tmp 92) (.tmp 96) rfl bs (.slice A' N c') (cat X j) rfl S3.out aj m cj xj rfl KL.out S6.out KN.out M (by rw [← HN.out]; exact HM.out) (by omega) s5 ?_; intro A2 c5 W o2 e2 l2 n2; have O2 := Lib.hid o2; have E2 := Lib.hid e2; clear o2 e2)
              clear c2
              have p1 : Own W bs (.slice A2 M c5) (cat X (j + 1)) := by rw [KX.out]; exact O2.out
              have p2 := hash_below S1.out E2.out (by omega)
              have p3 := hash_below S5.out E2.out (by omega)
              have p4 : Below w.heap.size w W := S4.out.trans (E2.out.mono (by omega))
              have p5 : bs ≤ W.heap.size := by have := E2.out.size; omega
              have p6 : (cat X (j + 1)).length = M := by rw [KX.out, List.length_append, KL.out, ← HN.out]; exact HM.out.symm
              have Q1 := Lib.hid p1
              have Q2 := Lib.hid p2
              have Q3 := Lib.hid p3
              have Q4 := Lib.hid p4
              have Q6 := Lib.hid p6
              have KN2 := Lib.hid n2
              obtain ⟨E, hE⟩ := dig_ex (cat X (j + 1))
              have KE := Lib.hid hE
              clear p1 p2 p3 p4 p6 O2 E2 S1 S3 S4 S5 S6 HOB hE l2 n2
              by_cases h3 : j % 3 = 0
              · have t7 : ((j : Int) % 3 == 0) = true := by have : (j : Int) % 3 = 0 := by omega
                                                            rw [this]; rfl
                have dn := dig_neq KE.out
                have G1 := Lib.hid (fun W' (h : Below W.heap.size W W') => dig_sum gh (cat X (j + 1)) KE.out W' (tabs_below HT.out (up Q4.out h)) (hash_below Q2.out h (by omega)) q3 (by rw [Q6.out]; omega))
                have G2 := Lib.hid (fun W' (h : Below W.heap.size W W') => dig_ref A2 M c5 (cat X (j + 1)) KE.out W' Q6.out (byt_below (own_byt Q1.out) h) KN2.out (by omega))
                have G3 := Lib.hid (fun W' (h : Below W.heap.size W W') => size_hash gh M (cat X (j + 1)) W' (hash_below Q2.out h (by omega)) Q6.out)
                clear h3
                go_wp2_with (first
                  | (go_at_call 22; (with_reducible refine (G1.out _ (Below.refl _ _)).mono ?_); rintro e v4 ⟨rfl, hb⟩; have V1 := Lib.hid hb; clear hb)
                  | (go_at_call 19; (with_reducible refine (G2.out _ V1.out).mono ?_); rintro e v5 ⟨rfl, hb⟩; have V2 := Lib.hid (up V1.out hb); clear hb)
                  | (go_at_call 23; (with_reducible refine (G3.out _ V2.out).mono ?_); rintro e v6 ⟨rfl, rfl⟩))
                go_roundw
                case rel => exact ⟨j + 1, M, A2, c5, by omega, by go_num, Q6.out.symm, rfl, own_below Q1.out V2.out, hash_below Q2.out V2.out (by omega), hash_below Q3.out V2.out (by omega), up Q4.out V2.out, Nat.le_trans p5 V2.out.size⟩
                case measure => first | (simp [intOf]; done) | (simp [intOf]; omega)
              · have t7 : ((j : Int) % 3 == 0) = false := by
                  have : ¬ (j : Int) % 3 = 0 := by omega
                  simpa using this
                clear h3
                go_wp2
                go_roundw
                case rel => exact ⟨j + 1, M, A2, c5, by omega, by go_num, Q6.out.symm, rfl, Q1.out, Q2.out, Q3.out, Q4.out, p5⟩
                case measure => first | (simp [intOf]; done) | (simp [intOf]; omega)
        · obtain rfl : j = i := by omega
          obtain ⟨E, hE⟩ := dig_ex (cat X j)
          obtain ⟨D, hD⟩ : ∃ D, Dig D y := ⟨_, rfl⟩
          have KE := Lib.hid hE
          have KD := Lib.hid hD
          have ee := dig_eql KE.out
          have de := dig_eql KD.out
          obtain ⟨W, hW⟩ : ∃ W, W = wr := ⟨_, rfl⟩
          subst hW
          have KN2 := Lib.hid (own_cap O1.out)
          have sb := byt_below S2.out O4.out
          have SB := Lib.hid sb
          have gl := hash_lt O3.out
          have G1 := Lib.hid (fun W' (h : Below W.heap.size W W') => dig_sum gh (cat X j) KE.out W' (tabs_below HT.out (up O4.out h)) (hash_below O2.out h (by omega)) q3 (by rw [← HN.out]; omega))
          have G2 := Lib.hid (fun W' (h : Below W.heap.size W W') => dig_ref A' N c' (cat X j) KE.out W' HN.out.symm (byt_below (own_byt O1.out) h) KN2.out (by omega))
          have G3 := Lib.hid (fun W' (h : Below W.heap.size W W') => size_hash gh N (cat X j) W' (hash_below O2.out h (by omega)) HN.out.symm)
          have G4 := Lib.hid (fun W' (h : Below W.heap.size W W') => dig_sum gg y KD.out W' (tabs_below HT.out (up O4.out h)) (hash_below O3.out h (by omega)) (by omega) (by rw [HY.out]; omega))
          have G5 := Lib.hid (fun W' (h : Below W.heap.size W W') => dig_ref B l d y KD.out W' HY.out (byt_below SB.out h) HB.out (by omega))
          have G6 := Lib.hid (fun W' (h : Below W.heap.size W W') => size_hash gg l y W' (hash_below O3.out h (by omega)) HY.out)
          clear hE hD sb gl hlt hj
          go_wp2_with (first
            | (go_at_call 22; (with_reducible refine (G1.out _ (Below.refl _ _)).mono ?_); rintro e v4 ⟨rfl, hb⟩; have V1 := Lib.hid hb; clear hb)
            | (go_at_call 19; (with_reducible refine (G2.out _ V1.out).mono ?_); rintro e v5 ⟨rfl, hb⟩; have V2 := Lib.hid (up V1.out hb); clear hb)
            | (go_at_call 23; (with_reducible refine (G3.out _ V2.out).mono ?_); rintro e v6 ⟨rfl, rfl⟩)
            | (go_at_call 22; (with_reducible refine (G4.out _ V2.out).mono ?_); rintro e v7 ⟨rfl, hb⟩; have V3 := Lib.hid (up V2.out hb); clear hb)
            | (go_at_call 19; (with_reducible refine (G5.out _ V3.out).mono ?_); rintro e v8 ⟨rfl, hb⟩; have V4 := Lib.hid (up V3.out hb); clear hb)
            | (go_at_call 23; (with_reducible refine (G6.out _ V4.out).mono ?_); rintro e v9 ⟨rfl, rfl⟩))
          go_ret
          exact ⟨rfl, up O4.out V4.out⟩
end Go.Proofs.YtekccgdlohofkaaDoor
