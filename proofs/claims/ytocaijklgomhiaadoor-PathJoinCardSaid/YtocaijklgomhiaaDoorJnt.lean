/-
What is proved here: the law PathJoin's walk, at no name and at more than six, and so at every list.
-/
import Derived.Test.YtocaijklgomhiaaDoorJns
set_option linter.unusedSimpArgs false
set_option linter.unusedVariables false
namespace Go.Proofs.YtocaijklgomhiaaDoor
open Go.Pth Go.RowKit Go.Word
attribute [local go_sem] guard_eq guard_ne st_eql st_neq len_st eql_empty eql_ts

set_option maxRecDepth 100000 in
set_option maxHeartbeats 16000000 in
theorem join_many (A : Option Addr) (C : Nat) (ns : List Bt) (w : World) (h10 : ns.length ≤ 10) (h7 : 7 ≤ ns.length) (hT : Ta w A ns) : Calls Tryd.prog 7 #[.slice A ns.length C] w fun e w' => e = .returned (.bool true) ∧ Below w.heap.size w w' := by
  have h10' : ¬ 10 < (ns.length : Int) := by omega
  have fa : (1 : Int) ≤ (ns.length : Int) := by omega
  have fb : decide ((ns.length : Int) ≤ 6) = false := decide_eq_false (by omega)
  have okf : ∀ i, okJ ns i = false := fun i => by unfold okJ; rw [decide_eq_false (by omega)]; rfl
  have HT := Lib.hid hT
  clear hT
  go_enter Tryd.func7, Tryd.ntmps7
  go_upto_region 5 with (go_at_call 10; (with_reducible refine (alive_any _).mono ?_); rintro e w1 ⟨rfl, hb⟩; have H1 := Lib.hid hb; clear hb)
  have hok0 : okJ ns 0 = false := okf 0
  go_wp2
  go_loopw [4, 5, 6, 7] (fun x o q y wr => ∃ i : Nat, i ≤ ns.length ∧ y = .int .i64 i ∧ x = St (preJ ns i) ∧ o = .bool (okJ ns i) ∧ q = .bool (keptJ ns i) ∧ Plain ns i ∧ Below w.heap.size w wr) (fun _ _ _ y _ => ns.length - (intOf y).toNat)
  case atStart => exact ⟨0, by omega, rfl, rfl, by rw [hok0], rfl, (fun x hx => by simp at hx), H1.out⟩
  case round =>
    obtain ⟨i, hil, rfl, rfl, rfl, rfl, hpl, hbw⟩ := hrel
    have HBW := Lib.hid hbw
    clear hok0
    by_cases hlt : i < ns.length
    · obtain ⟨a, rfl, hc⟩ := ta_below HT.out hbw i hlt
      have e0 : ns.getD i [] = ns[i] := by simp [List.getD_eq_getElem?_getD, hlt]
      rw [e0] at hc
      have li : (i : Int) < (ns.length : Int) := by omega
      have q2 : i + 1 ≤ ns.length := hlt
      have wi : wrap64 ((i : Int) + 1) = ((i + 1 : Nat) : Int) := by rw [wrap_in _ (by omega) (by omega)]; omega
      have hpn := plain_next ns i hlt hpl
      have hpl2 := preJ_len ns i (by omega) hpl
      have f0 := preJ_first ns i
      have f1 := fun h => preJ_next ns i h hlt
      obtain ⟨c, hni⟩ : ∃ c, ns[i] = c := ⟨_, rfl⟩
      rw [hni] at hc hpn f1
      by_cases h100 : 100 < c.length
      · have h100' : 100 < (c.length : Int) := by omega
        clear hpn hpl2 f0 f1 hpl hbw
        go_wp2
        go_ret
        exact ⟨rfl, HBW.out⟩
      · have h100' : ¬ 100 < (c.length : Int) := by omega
        have HPN := Lib.hid hpn
        have HF0 := Lib.hid f0
        have HF1 := Lib.hid f1
        have HPLi := Lib.hid hpl2
        have HNI := Lib.hid hni
        clear hpn f0 f1 hpl hbw hpl2 hni e0
        go_wp2
        go_loopw [8] (fun z wr' => ∃ k : Nat, k ≤ c.length ∧ z = .int .i64 k ∧ wr = wr' ∧ ∀ d ∈ c.take k, d ≠ 47) (fun z _ => c.length - (intOf z).toNat)
        case atStart => exact ⟨0, by omega, rfl, by trivial, (fun d hd => by simp at hd)⟩
        case round =>
          obtain ⟨k, hkl, rfl, rfl, hno⟩ := hrel
          by_cases hlk : k < c.length
          · have lk : (k : Int) < (c.length : Int) := by omega
            have hix := index_st c k hlk
            have k2 : k + 1 ≤ c.length := hlk
            have wk : wrap64 ((k : Int) + 1) = ((k + 1 : Nat) : Int) := by rw [wrap_in _ (by omega) (by omega)]; omega
            have hnx : c.take (k + 1) = c.take k ++ [c[k]] := List.take_succ_eq_append_getElem hlk
            by_cases h47 : c[k] = 47
            · rw [h47] at hix
              have e47 : ((47 : UInt8).toNat : Int) = 47 := by decide
              rw [e47] at hix
              clear hnx h47 hno
              go_wp2
              go_ret
              exact ⟨rfl, HBW.out⟩
            · have h47n : ((c[k].toNat : Int) == 47) = false := beq_eq_false_iff_ne.2 (fun e => h47 ((num_slash _).1 e))
              have HN := Lib.hid (show ∀ d ∈ c.take (k + 1), d ≠ 47 from fun d hd => by
                rw [hnx] at hd
                rcases List.mem_append.1 hd with hd | hd
                · exact hno d hd
                · rw [List.mem_singleton] at hd
                  rw [hd]; exact h47)
              clear hnx h47 hno
              generalize (c[k].toNat : Int) = cn at *
              go_wp2
              go_roundw
              case rel => exact ⟨k + 1, k2, by go_num, by trivial, HN.out⟩
              case measure => first | (simp [intOf]; done) | (simp [intOf]; omega)
          · have lk : ¬ (k : Int) < (c.length : Int) := by omega
            have hcl : ∀ d ∈ c, d ≠ 47 := by rw [List.take_of_length_le (by omega)] at hno; exact hno
            have HPL := Lib.hid (HPN.out hcl (by omega))
            have V1 := fun w => Lib.hid (by have := valid_any c w (by omega); rw [path_name c hcl] at this; exact this)
            have hni := HNI.out
            clear hno hcl
            by_cases h0 : i = 0
            · have l0 : ¬ 0 < (i : Int) := by omega
              have A2 : ∀ w, (binOp .add 9 (St (preJ ns i)) (St c)).run Tryd.prog w = .ok (St (preJ ns i ++ c)) w := fun w => add_ss2 _ _ (by have := HPLi.out; omega) (by omega) w
              have HQ := Lib.hid (show preJ ns (i + 1) = preJ ns i ++ c by rw [HF0.out h0 hlt, hni])
              generalize preJ ns i ++ c = qn at *
              clear h0
              cases hoj : okJ ns i with
              | true =>
                exact absurd hoj (by rw [okf]; decide)
              | false =>
                have HO := Lib.hid (show okJ ns (i + 1) = false by rw [ok_next ns i hlt, hoj]; rfl)
                clear hoj V1
                cases hkj : keptJ ns i with
                | true =>
                  have HKK := Lib.hid (show keptJ ns (i + 1) = true by rw [keptJ_next ns i hlt, hkj]; rfl)
                  clear hkj
                  go_wp2_with (fail)
                  go_roundw
                  case rel => exact ⟨i + 1, q2, by go_num, by rw [HQ.out], by rw [HO.out], by rw [HKK.out], HPL.out, HBW.out⟩
                  case measure => first | (simp [intOf]; done) | (simp [intOf]; omega)
                | false =>
                  have hkn : keptJ ns (i + 1) = keptN ns[i] := by rw [keptJ_next ns i hlt, hkj]; rfl
                  clear hkj
                  rw [hni] at hkn
                  by_cases h3 : c.length < 3
                  · have HKK := Lib.hid (hkn.trans (kept_short c h3))
                    have h3' : ¬ 3 ≤ (c.length : Int) := by omega
                    clear hkn h3
                    go_wp2_with (fail)
                    go_roundw
                    case rel => exact ⟨i + 1, q2, by go_num, by rw [HQ.out], by rw [HO.out], by rw [HKK.out], HPL.out, HBW.out⟩
                    case measure => first | (simp [intOf]; done) | (simp [intOf]; omega)
                  · have h3' : 3 ≤ (c.length : Int) := by omega
                    have sl : ∀ w, (Instr.slice 9 (St c) none (some (.int .i64 3)) none).run Tryd.prog w = .ok (St (c.take 3)) w := fun w => run_to c 3 (by omega) w
                    have hs := kept_take c (by omega)
                    have HKK := Lib.hid hkn
                    clear hkn h3
                    generalize c.take 3 = ct at *
                    generalize keptN c = kc at *
                    go_wp2_with (fail)
                    go_roundw
                    case rel => exact ⟨i + 1, q2, by go_num, by rw [HQ.out], by rw [HO.out], by rw [HKK.out], HPL.out, HBW.out⟩
                    case measure => first | (simp [intOf]; done) | (simp [intOf]; omega)
            · have l0 : 0 < (i : Int) := by omega
              have A1 : ∀ w, (binOp .add 9 (St (preJ ns i)) (.string { data := #[47] })).run Tryd.prog w = .ok (St (preJ ns i ++ [47])) w := fun w => add_st2 _ [47] _ rfl (by have := HPLi.out; omega) (by simp) w
              have A2 : ∀ w, (binOp .add 9 (St (preJ ns i ++ [47])) (St c)).run Tryd.prog w = .ok (St (preJ ns i ++ [47] ++ c)) w := fun w => add_ss2 _ _ (by have := HPLi.out; simp; omega) (by omega) w
              have HQ := Lib.hid (show preJ ns (i + 1) = preJ ns i ++ [47] ++ c from HF1.out (by omega))
              generalize preJ ns i ++ [47] ++ c = qn at *
              generalize preJ ns i ++ [47] = qs at *
              clear h0
              cases hoj : okJ ns i with
              | true =>
                exact absurd hoj (by rw [okf]; decide)
              | false =>
                have HO := Lib.hid (show okJ ns (i + 1) = false by rw [ok_next ns i hlt, hoj]; rfl)
                clear hoj V1
                cases hkj : keptJ ns i with
                | true =>
                  have HKK := Lib.hid (show keptJ ns (i + 1) = true by rw [keptJ_next ns i hlt, hkj]; rfl)
                  clear hkj
                  go_wp2_with (fail)
                  go_roundw
                  case rel => exact ⟨i + 1, q2, by go_num, by rw [HQ.out], by rw [HO.out], by rw [HKK.out], HPL.out, HBW.out⟩
                  case measure => first | (simp [intOf]; done) | (simp [intOf]; omega)
                | false =>
                  have hkn : keptJ ns (i + 1) = keptN ns[i] := by rw [keptJ_next ns i hlt, hkj]; rfl
                  clear hkj
                  rw [hni] at hkn
                  by_cases h3 : c.length < 3
                  · have HKK := Lib.hid (hkn.trans (kept_short c h3))
                    have h3' : ¬ 3 ≤ (c.length : Int) := by omega
                    clear hkn h3
                    go_wp2_with (fail)
                    go_roundw
                    case rel => exact ⟨i + 1, q2, by go_num, by rw [HQ.out], by rw [HO.out], by rw [HKK.out], HPL.out, HBW.out⟩
                    case measure => first | (simp [intOf]; done) | (simp [intOf]; omega)
                  · have h3' : 3 ≤ (c.length : Int) := by omega
                    have sl : ∀ w, (Instr.slice 9 (St c) none (some (.int .i64 3)) none).run Tryd.prog w = .ok (St (c.take 3)) w := fun w => run_to c 3 (by omega) w
                    have hs := kept_take c (by omega)
                    have HKK := Lib.hid hkn
                    clear hkn h3
                    generalize c.take 3 = ct at *
                    generalize keptN c = kc at *
                    go_wp2_with (fail)
                    go_roundw
                    case rel => exact ⟨i + 1, q2, by go_num, by rw [HQ.out], by rw [HO.out], by rw [HKK.out], HPL.out, HBW.out⟩
                    case measure => first | (simp [intOf]; done) | (simp [intOf]; omega)
    · obtain rfl : i = ns.length := by omega
      have li : ¬ (ns.length : Int) < (ns.length : Int) := by omega
      have hpl2 := preJ_len ns ns.length (by omega) hpl
      have V := Lib.hid (valid_any (preJ ns ns.length) wr (by omega))
      rw [okJ_path ns hpl] at V
      cases hoj : okJ ns ns.length with
      | false =>
        rw [hoj] at V
        clear hbw hoj hpl hpl2
        go_upto_region 24 with (go_at_call 13; (with_reducible refine V.out.mono ?_); rintro e w5 ⟨rfl, hb⟩; have H5 := Lib.hid (below_up HBW.out hb); clear hb)
        go_quiet (fail)
        go_wp2
        go_ret
        exact ⟨rfl, below_drewN H5.out _⟩
      | true =>
        exact absurd hoj (by rw [okf]; decide)

set_option maxRecDepth 100000 in
set_option maxHeartbeats 16000000 in
theorem join_none (A : Option Addr) (C : Nat) (ns : List Bt) (w : World) (h10 : ns.length ≤ 10) (h0 : ns.length = 0) (hT : Ta w A ns) : Calls Tryd.prog 7 #[.slice A ns.length C] w fun e w' => e = .returned (.bool true) ∧ Below w.heap.size w w' := by
  have h10' : ¬ 10 < (ns.length : Int) := by omega
  have fa : ¬ (1 : Int) ≤ (ns.length : Int) := by omega
  have okf : ∀ i, okJ ns i = false := fun i => by unfold okJ; rw [decide_eq_false (by omega)]; rfl
  have HZ := Lib.hid h0
  clear h0
  have HT := Lib.hid hT
  clear hT
  go_enter Tryd.func7, Tryd.ntmps7
  go_upto_region 5 with (go_at_call 10; (with_reducible refine (alive_any _).mono ?_); rintro e w1 ⟨rfl, hb⟩; have H1 := Lib.hid hb; clear hb)
  have hok0 : okJ ns 0 = false := okf 0
  go_wp2
  go_loopw [4, 5, 6, 7] (fun x o q y wr => ∃ i : Nat, i ≤ ns.length ∧ y = .int .i64 i ∧ x = St (preJ ns i) ∧ o = .bool (okJ ns i) ∧ q = .bool (keptJ ns i) ∧ Plain ns i ∧ Below w.heap.size w wr) (fun _ _ _ y _ => ns.length - (intOf y).toNat)
  case atStart => exact ⟨0, by omega, rfl, rfl, by rw [hok0], rfl, (fun x hx => by simp at hx), H1.out⟩
  case round =>
    obtain ⟨i, hil, rfl, rfl, rfl, rfl, hpl, hbw⟩ := hrel
    have HBW := Lib.hid hbw
    clear hok0
    by_cases hlt : i < ns.length
    · exact absurd hlt (by have := HZ.out; omega)
    · obtain rfl : i = ns.length := by omega
      have li : ¬ (ns.length : Int) < (ns.length : Int) := by omega
      have hpl2 := preJ_len ns ns.length (by omega) hpl
      have V := Lib.hid (valid_any (preJ ns ns.length) wr (by omega))
      rw [okJ_path ns hpl] at V
      cases hoj : okJ ns ns.length with
      | false =>
        rw [hoj] at V
        clear hbw hoj hpl hpl2
        go_upto_region 24 with (go_at_call 13; (with_reducible refine V.out.mono ?_); rintro e w5 ⟨rfl, hb⟩; have H5 := Lib.hid (below_up HBW.out hb); clear hb)
        go_quiet (fail)
        go_wp2
        go_ret
        exact ⟨rfl, below_drewN H5.out _⟩
      | true =>
        exact absurd hoj (by rw [okf]; decide)

set_option maxHeartbeats 4000000 in
theorem join_any (A : Option Addr) (C : Nat) (ns : List Bt) (w : World) (hT : Ta w A ns) : Calls Tryd.prog 7 #[.slice A ns.length C] w fun e w' => e = .returned (.bool true) ∧ Below w.heap.size w w' := by
  by_cases h10 : 10 < ns.length
  · have h10' : 10 < (ns.length : Int) := by omega
    go_enter Tryd.func7, Tryd.ntmps7
    go_wp2_with (go_at_call 10; (with_reducible refine (alive_any _).mono ?_); rintro e w1 ⟨rfl, hb⟩; have H1 := Lib.hid hb; clear hb)
    go_ret
    exact ⟨rfl, H1.out⟩
  · by_cases h0 : ns.length = 0
    · exact join_none A C ns w (by omega) h0 hT
    · by_cases h7 : 7 ≤ ns.length
      · exact join_many A C ns w (by omega) h7 hT
      · exact join_mid A C ns w (by omega) (by omega) (by omega) hT
end Go.Proofs.YtocaijklgomhiaaDoor
