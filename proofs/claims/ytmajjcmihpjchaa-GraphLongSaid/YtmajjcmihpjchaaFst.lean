/-
What is proved here: package graph's firsts, over renames, by contracts.
-/
import Derived.Test.YtmajjcmihpjchaaAct
set_option linter.unusedSimpArgs false
set_option linter.unusedVariables false
namespace Go.Gra
open Go.Pth Go.Mat
/-- by each text the place of the first one -/
def fstTo (ks : List Bt) : Nat → Bt → Option Int
  | 0 => fun _ => none
  | i + 1 => if (fstTo ks i (ks.getD i [])).isSome then fstTo ks i else updF (fstTo ks i) (ks.getD i []) (some (i : Int))
end Go.Gra
namespace Go.Proofs.Ytmajjcmihpjchaa
open Go.Pth Go.Tre Go.RowKit Go.Word Go.Shelf Go.Mat Go.Gra
attribute [local go_sem] guard_eq guard_ne st_eql st_neq
theorem numM_mono {w : World} {b n n' : Nat} {F : Bt → Option Int} (h : NumM w b n F) (hn : n ≤ n') : NumM w b n' F := by
  obtain ⟨D, h1, h2⟩ := h
  exact ⟨D, h1.mono hn, h2⟩
set_option maxRecDepth 100000 in
set_option maxHeartbeats 4000000 in
theorem firsts_empties (A : Option Addr) (c : Nat) (ms : List Mv) (w : World) (h : ActsAt w A ms) (hn : ms.length ≤ 2000) (hk : ∀ x ∈ ms, x.1.length ≤ 100000) :
    Calls Try.prog 14 #[.slice A ms.length c, .func (.func 15) #[] #[]] w fun e w' => (∃ b, e = .returned (.map (some b)) ∧ NumM w' b ms.length (fstTo (ms.map (·.1)) ms.length) ∧ w.heap.size ≤ b) ∧ Below w.heap.size w w' := by
  have H := Lib.hid h
  have HK := Lib.hid hk
  obtain ⟨n, hne⟩ : ∃ n, n = ms.length := ⟨_, rfl⟩
  have NE := Lib.hid hne
  rw [← hne] at hn ⊢
  have hn2 := hn
  obtain ⟨ks, hks⟩ : ∃ ks, ks = ms.map (·.1) := ⟨_, rfl⟩
  have KS := Lib.hid hks
  rw [← hks]
  have M0 := Lib.hid (numM_made w)
  have HB0 := Lib.hid (show Below w.heap.size w (w.alloc (.map #[] 0)) from (Below.refl _ _).alloc (Nat.le_refl _) _)
  clear h hk hne hks
  have hmm := @run_makeMap Try.prog
  go_enter Try.func14, Try.ntmps14
  go_upto_region 2 with (fail)
  clear hmm
  generalize w.alloc (.map #[] 0) = X at *
  go_wp2
  go_loopw [14] (fun v14 wr => ∃ i : Nat, i ≤ n ∧ v14 = .int .i64 (i : Int) ∧ NumM wr w.heap.size i (fstTo ks i) ∧ Below w.heap.size w wr) (fun v14 _ => n - (intOf v14).toNat)
  case atStart => exact ⟨0, Nat.zero_le _, rfl, M0.out, HB0.out⟩
  case round =>
    obtain ⟨i, hi, rfl, hM, hb⟩ := hrel
    have HM := Lib.hid hM
    have HB := Lib.hid hb
    clear hM hb M0 HB0
    by_cases hlt : i < n
    · have li : (i : Int) < (n : Int) := by omega
      have lf : i < ms.length := by have := NE.out; omega
      obtain ⟨b, o, eA, hl, hr⟩ := actsAt_below H.out HB.out i lf
      subst eA
      have R1 := Lib.hid hr
      have KL := Lib.hid (HK.out ms[i] (List.getElem_mem lf))
      have KI := Lib.hid (show ks.getD i [] = ms[i].1 by rw [KS.out, List.getD_eq_getElem?_getD, List.getElem?_map, List.getElem?_eq_getElem lf]; rfl)
      have ST := Lib.hid (show fstTo ks (i + 1) = if (fstTo ks i (ks.getD i [])).isSome then fstTo ks i else updF (fstTo ks i) (ks.getD i []) (some (i : Int)) from rfl)
      rw [KI.out] at ST
      clear hr
      generalize ms[i] = m at *
      have KE := Lib.hid (fun W => empties_mv m W)
      unfold mvV mvC at *
      go_upto_region 5 with (fail)
      go_wp2_with (first
        | (refine wpList_load_mid rfl 26 _ rfl b (o + i * 5) rfl [.int .i64 3, St m.1, St m.2, .int .i64 0, .int .i64 0] _ R1.out Try.underlying26 rfl (by kernel_rfl) ?_)
        | (go_at_call 15; (with_reducible refine (KE.out wr).mono ?_); rintro e w1 ⟨⟨g, rfl, hg, hg1⟩, hb⟩; have H1 := Lib.hid (HB.out.trans (hb.mono HB.out.size)); have G1 := Lib.hid hg; have M1 := Lib.hid (numM_below HM.out hb); clear hb hg hg1))
      clear R1 KE HB HM H HK
      obtain ⟨cz, hlk, hcz⟩ := numM_look M1.out m.1 KL.out
      have LK := Lib.hid (fun W (hW : W = w1) => (show (Instr.lookup 47 (.map (some w.heap.size)) (St m.1) true).run Try.prog W = .ok (.tuple #[.int .i64 cz, .bool (fstTo ks i m.1).isSome]) W from by subst hW; exact hlk))
      clear hlk hcz
      go_loopw [24] (fun v24 wq => ∃ j : Nat, j ≤ 1 ∧ v24 = .int .i64 (j : Int) ∧ (j = 0 → wq = w1) ∧ (j = 1 → NumM wq w.heap.size (i + 1) (fstTo ks (i + 1)) ∧ Below w.heap.size w wq)) (fun v24 _ => 1 - (intOf v24).toNat)
      case atStart => exact ⟨0, Nat.zero_le _, rfl, (fun _ => rfl), (fun h => by cases h)⟩
      case round =>
        obtain ⟨j, hj, rfl, h0, h1⟩ := hrel
        rcases (show j = 0 ∨ j = 1 by omega) with rfl | rfl
        · have hw := h0 rfl
          have y0 := lies_cell (show Lies wr g 9 #[St m.1] by rw [hw]; exact G1.out) 0
          simp only [List.getElem?_toArray, List.getElem?_cons_zero] at y0
          have lk := LK.out wr hw
          have M2 := Lib.hid (show NumM wr w.heap.size i (fstTo ks i) by rw [hw]; exact M1.out)
          have H2 := Lib.hid (show Below w.heap.size w wr by rw [hw]; exact H1.out)
          clear h0 h1 hw G1 M1 H1
          cases hF : (fstTo ks i m.1).isSome with
          | true =>
            rw [hF] at lk ST
            have NX := Lib.hid (show NumM wr w.heap.size (i + 1) (fstTo ks (i + 1)) from by rw [ST.out, if_pos rfl]; exact numM_mono M2.out (Nat.le_succ _))
            clear ST hF
            go_wp2
            go_roundw
            case rel => exact ⟨1, by omega, rfl, (fun h => by cases h), fun _ => ⟨NX.out, H2.out⟩⟩
            case measure => first | (simp [intOf]; done) | (simp [intOf]; omega)
          | false =>
            rw [hF] at lk ST
            obtain ⟨w2, hup, hM2, hg2⟩ := numM_put M2.out m.1 KL.out (by omega) (i : Int) (wf_int (by omega) (by omega))
            have NX := Lib.hid (show NumM w2 w.heap.size (i + 1) (fstTo ks (i + 1)) from by rw [ST.out, if_neg (by decide)]; exact hM2)
            have H3 := Lib.hid (H2.out.grown hg2 H2.out.size (fun k e => by injection e with e; omega))
            clear ST hF hM2 hg2 M2 H2
            go_wp2
            go_roundw
            case rel => exact ⟨1, by omega, rfl, (fun h => by cases h), fun _ => ⟨NX.out, H3.out⟩⟩
            case measure => first | (simp [intOf]; done) | (simp [intOf]; omega)
        · obtain ⟨hN, hB⟩ := h1 rfl
          have NX := Lib.hid hN
          have H3 := Lib.hid hB
          clear h0 h1 hN hB
          go_wp2
          go_roundw
          case rel => exact ⟨i + 1, by omega, by go_num, NX.out, H3.out⟩
          case measure => first | (simp [intOf]; done) | (simp [intOf]; omega)
    · obtain rfl : i = n := by omega
      have li : ¬ (i : Int) < (i : Int) := by omega
      go_wp2
      go_ret
      exact ⟨⟨_, rfl, HM.out, Nat.le_refl _⟩, HB.out⟩
set_option maxRecDepth 100000 in
set_option maxHeartbeats 4000000 in
theorem firsts_fills (A : Option Addr) (c : Nat) (ms : List Mv) (w : World) (h : ActsAt w A ms) (hn : ms.length ≤ 2000) (hk : ∀ x ∈ ms, x.2.length ≤ 100000) :
    Calls Try.prog 14 #[.slice A ms.length c, .func (.func 16) #[] #[]] w fun e w' => (∃ b, e = .returned (.map (some b)) ∧ NumM w' b ms.length (fstTo (ms.map (·.2)) ms.length) ∧ w.heap.size ≤ b) ∧ Below w.heap.size w w' := by
  have H := Lib.hid h
  have HK := Lib.hid hk
  obtain ⟨n, hne⟩ : ∃ n, n = ms.length := ⟨_, rfl⟩
  have NE := Lib.hid hne
  rw [← hne] at hn ⊢
  have hn2 := hn
  obtain ⟨ks, hks⟩ : ∃ ks, ks = ms.map (·.2) := ⟨_, rfl⟩
  have KS := Lib.hid hks
  rw [← hks]
  have M0 := Lib.hid (numM_made w)
  have HB0 := Lib.hid (show Below w.heap.size w (w.alloc (.map #[] 0)) from (Below.refl _ _).alloc (Nat.le_refl _) _)
  clear h hk hne hks
  have hmm := @run_makeMap Try.prog
  go_enter Try.func14, Try.ntmps14
  go_upto_region 2 with (fail)
  clear hmm
  generalize w.alloc (.map #[] 0) = X at *
  go_wp2
  go_loopw [14] (fun v14 wr => ∃ i : Nat, i ≤ n ∧ v14 = .int .i64 (i : Int) ∧ NumM wr w.heap.size i (fstTo ks i) ∧ Below w.heap.size w wr) (fun v14 _ => n - (intOf v14).toNat)
  case atStart => exact ⟨0, Nat.zero_le _, rfl, M0.out, HB0.out⟩
  case round =>
    obtain ⟨i, hi, rfl, hM, hb⟩ := hrel
    have HM := Lib.hid hM
    have HB := Lib.hid hb
    clear hM hb M0 HB0
    by_cases hlt : i < n
    · have li : (i : Int) < (n : Int) := by omega
      have lf : i < ms.length := by have := NE.out; omega
      obtain ⟨b, o, eA, hl, hr⟩ := actsAt_below H.out HB.out i lf
      subst eA
      have R1 := Lib.hid hr
      have KL := Lib.hid (HK.out ms[i] (List.getElem_mem lf))
      have KI := Lib.hid (show ks.getD i [] = ms[i].2 by rw [KS.out, List.getD_eq_getElem?_getD, List.getElem?_map, List.getElem?_eq_getElem lf]; rfl)
      have ST := Lib.hid (show fstTo ks (i + 1) = if (fstTo ks i (ks.getD i [])).isSome then fstTo ks i else updF (fstTo ks i) (ks.getD i []) (some (i : Int)) from rfl)
      rw [KI.out] at ST
      clear hr
      generalize ms[i] = m at *
      have KE := Lib.hid (fun W => fills_mv m W)
      unfold mvV mvC at *
      go_upto_region 5 with (fail)
      go_wp2_with (first
        | (refine wpList_load_mid rfl 26 _ rfl b (o + i * 5) rfl [.int .i64 3, St m.1, St m.2, .int .i64 0, .int .i64 0] _ R1.out Try.underlying26 rfl (by kernel_rfl) ?_)
        | (go_at_call 16; (with_reducible refine (KE.out wr).mono ?_); rintro e w1 ⟨⟨g, rfl, hg, hg1⟩, hb⟩; have H1 := Lib.hid (HB.out.trans (hb.mono HB.out.size)); have G1 := Lib.hid hg; have M1 := Lib.hid (numM_below HM.out hb); clear hb hg hg1))
      clear R1 KE HB HM H HK
      obtain ⟨cz, hlk, hcz⟩ := numM_look M1.out m.2 KL.out
      have LK := Lib.hid (fun W (hW : W = w1) => (show (Instr.lookup 47 (.map (some w.heap.size)) (St m.2) true).run Try.prog W = .ok (.tuple #[.int .i64 cz, .bool (fstTo ks i m.2).isSome]) W from by subst hW; exact hlk))
      clear hlk hcz
      go_loopw [24] (fun v24 wq => ∃ j : Nat, j ≤ 1 ∧ v24 = .int .i64 (j : Int) ∧ (j = 0 → wq = w1) ∧ (j = 1 → NumM wq w.heap.size (i + 1) (fstTo ks (i + 1)) ∧ Below w.heap.size w wq)) (fun v24 _ => 1 - (intOf v24).toNat)
      case atStart => exact ⟨0, Nat.zero_le _, rfl, (fun _ => rfl), (fun h => by cases h)⟩
      case round =>
        obtain ⟨j, hj, rfl, h0, h1⟩ := hrel
        rcases (show j = 0 ∨ j = 1 by omega) with rfl | rfl
        · have hw := h0 rfl
          have y0 := lies_cell (show Lies wr g 9 #[St m.2] by rw [hw]; exact G1.out) 0
          simp only [List.getElem?_toArray, List.getElem?_cons_zero] at y0
          have lk := LK.out wr hw
          have M2 := Lib.hid (show NumM wr w.heap.size i (fstTo ks i) by rw [hw]; exact M1.out)
          have H2 := Lib.hid (show Below w.heap.size w wr by rw [hw]; exact H1.out)
          clear h0 h1 hw G1 M1 H1
          cases hF : (fstTo ks i m.2).isSome with
          | true =>
            rw [hF] at lk ST
            have NX := Lib.hid (show NumM wr w.heap.size (i + 1) (fstTo ks (i + 1)) from by rw [ST.out, if_pos rfl]; exact numM_mono M2.out (Nat.le_succ _))
            clear ST hF
            go_wp2
            go_roundw
            case rel => exact ⟨1, by omega, rfl, (fun h => by cases h), fun _ => ⟨NX.out, H2.out⟩⟩
            case measure => first | (simp [intOf]; done) | (simp [intOf]; omega)
          | false =>
            rw [hF] at lk ST
            obtain ⟨w2, hup, hM2, hg2⟩ := numM_put M2.out m.2 KL.out (by omega) (i : Int) (wf_int (by omega) (by omega))
            have NX := Lib.hid (show NumM w2 w.heap.size (i + 1) (fstTo ks (i + 1)) from by rw [ST.out, if_neg (by decide)]; exact hM2)
            have H3 := Lib.hid (H2.out.grown hg2 H2.out.size (fun k e => by injection e with e; omega))
            clear ST hF hM2 hg2 M2 H2
            go_wp2
            go_roundw
            case rel => exact ⟨1, by omega, rfl, (fun h => by cases h), fun _ => ⟨NX.out, H3.out⟩⟩
            case measure => first | (simp [intOf]; done) | (simp [intOf]; omega)
        · obtain ⟨hN, hB⟩ := h1 rfl
          have NX := Lib.hid hN
          have H3 := Lib.hid hB
          clear h0 h1 hN hB
          go_wp2
          go_roundw
          case rel => exact ⟨i + 1, by omega, by go_num, NX.out, H3.out⟩
          case measure => first | (simp [intOf]; done) | (simp [intOf]; omega)
    · obtain rfl : i = n := by omega
      have li : ¬ (i : Int) < (i : Int) := by omega
      go_wp2
      go_ret
      exact ⟨⟨_, rfl, HM.out, Nat.le_refl _⟩, HB.out⟩
set_option maxRecDepth 100000 in
set_option maxHeartbeats 4000000 in
theorem firsts_makes (A : Option Addr) (c : Nat) (ms : List Mv) (w : World) (h : ActsAt w A ms) (hn : ms.length ≤ 2000) :
    Calls Try.prog 14 #[.slice A ms.length c, .func (.func 17) #[] #[]] w fun e w' => (∃ b, e = .returned (.map (some b)) ∧ NumM w' b 0 (fun _ => none) ∧ w.heap.size ≤ b) ∧ Below w.heap.size w w' := by
  have H := Lib.hid h
  obtain ⟨n, hne⟩ : ∃ n, n = ms.length := ⟨_, rfl⟩
  have NE := Lib.hid hne
  rw [← hne] at hn ⊢
  have M0 := Lib.hid (numM_made w)
  have HB0 := Lib.hid (show Below w.heap.size w (w.alloc (.map #[] 0)) from (Below.refl _ _).alloc (Nat.le_refl _) _)
  clear h hne
  have hmm := @run_makeMap Try.prog
  go_enter Try.func14, Try.ntmps14
  go_upto_region 2 with (fail)
  clear hmm
  generalize w.alloc (.map #[] 0) = X at *
  go_wp2
  go_loopw [14] (fun v14 wr => ∃ i : Nat, i ≤ n ∧ v14 = .int .i64 (i : Int) ∧ NumM wr w.heap.size 0 (fun _ => none) ∧ Below w.heap.size w wr) (fun v14 _ => n - (intOf v14).toNat)
  case atStart => exact ⟨0, Nat.zero_le _, rfl, M0.out, HB0.out⟩
  case round =>
    obtain ⟨i, hi, rfl, hM, hb⟩ := hrel
    have HM := Lib.hid hM
    have HB := Lib.hid hb
    clear hM hb M0 HB0
    by_cases hlt : i < n
    · have li : (i : Int) < (n : Int) := by omega
      have lf : i < ms.length := by have := NE.out; omega
      obtain ⟨b, o, eA, hl, hr⟩ := actsAt_below H.out HB.out i lf
      subst eA
      have R1 := Lib.hid hr
      clear hr
      generalize ms[i] = m at *
      have KE := Lib.hid (fun W => makes_mv m W)
      unfold mvV mvC at *
      go_upto_region 5 with (fail)
      go_wp2_with (first
        | (refine wpList_load_mid rfl 26 _ rfl b (o + i * 5) rfl [.int .i64 3, St m.1, St m.2, .int .i64 0, .int .i64 0] _ R1.out Try.underlying26 rfl (by kernel_rfl) ?_)
        | (go_at_call 17; (with_reducible refine (KE.out wr).mono ?_); rintro e w1 ⟨rfl, hb⟩; have H1 := Lib.hid (HB.out.trans (hb.mono HB.out.size)); have M1 := Lib.hid (numM_below HM.out hb); clear hb))
      clear R1 KE HB HM H
      go_loopw [24] (fun v24 wq => v24 = .int .i64 0 ∧ wq = w1) (fun _ _ => 0)
      case atStart => exact ⟨rfl, rfl⟩
      case round =>
        obtain ⟨rfl, hw⟩ := hrel
        have NX := Lib.hid (show NumM wr w.heap.size 0 (fun _ => none) by rw [hw]; exact M1.out)
        have H3 := Lib.hid (show Below w.heap.size w wr by rw [hw]; exact H1.out)
        clear hw
        go_wp2
        go_roundw
        case rel => exact ⟨i + 1, by omega, by go_num, NX.out, H3.out⟩
        case measure => first | (simp [intOf]; done) | (simp [intOf]; omega)
    · obtain rfl : i = n := by omega
      have li : ¬ (i : Int) < (i : Int) := by omega
      go_wp2
      go_ret
      exact ⟨⟨_, rfl, HM.out, Nat.le_refl _⟩, HB.out⟩
end Go.Proofs.Ytmajjcmihpjchaa
