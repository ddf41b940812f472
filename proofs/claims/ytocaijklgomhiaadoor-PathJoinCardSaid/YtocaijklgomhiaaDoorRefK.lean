/-
What is proved here: the document's own Parent, Base and Kept, by contracts.
-/
import Derived.Test.YtocaijklgomhiaaDoorRefV
set_option linter.unusedSimpArgs false
namespace Go.Proofs.YtocaijklgomhiaaDoor
open Go.Pth Go.RowKit Go.Word
attribute [local go_sem] guard_eq eql_dot eql_dots len_st eql_ts

set_option maxHeartbeats 1000000 in
theorem parent_ref (l : Bt) (w : World) (hl : l.length ≤ 100000) : Calls Tryd.prog 17 #[St l] w fun e w' => e = .returned (St (upP l)) ∧ Below w.heap.size w w' := by
  have S := Lib.hid (names_ref l w hl)
  by_cases h2 : (namesP l).length < 2
  · have hu : upP l = [] := by
      cases hp : isPath l with
      | false => simp [upP, hp]
      | true =>
        have hn : namesP l = parts l := by simp [namesP, hp]
        rw [hn] at h2
        rcases up_base l with ⟨e1, _, _⟩ | ⟨x, y, _, _, _, e4, _⟩
        · simp [upP, hp, e1]
        · rw [e4, List.length_append] at h2
          have := parts_pos x
          simp at h2
          omega
    rw [hu]
    have h2' : ((namesP l).length : Int) < 2 := by omega
    generalize namesP l = ns at *
    clear hu hl h2
    go_enter Tryd.func17, Tryd.ntmps17
    go_wp2_with (go_at_call 12; (with_reducible refine S.out.mono ?_); rintro e w1 ⟨A, C, rfl, ht, hb⟩; have H1 := Lib.hid hb; clear hb ht)
    go_ret
    exact ⟨rfl, H1.out⟩
  · have hp : isPath l = true := by
      cases hp : isPath l with
      | true => rfl
      | false => exact absurd (by simp [namesP, hp]) h2
    have hn : namesP l = parts l := by simp [namesP, hp]
    obtain ⟨x, y, e1, e2, _, e4, _⟩ : ∃ x y, l = x ++ 47 :: y ∧ up l = x ∧ base l = y ∧ parts l = parts x ++ [y] ∧ ∀ c ∈ y, c ≠ 47 := by
      rcases up_base l with ⟨_, _, e3⟩ | h
      · rw [hn, e3] at h2; simp at h2
      · exact h
    have hu : upP l = x := by simp [upP, hp, e2]
    rw [hu]
    have h2' : ¬ ((namesP l).length : Int) < 2 := by omega
    obtain ⟨m, hm⟩ : ∃ m, (namesP l).length = m + 1 := ⟨(namesP l).length - 1, by omega⟩
    have hy : (namesP l).getD m [] = y := by
      rw [hn, e4] at hm ⊢
      rw [List.length_append] at hm
      simp at hm
      simp [List.getD_eq_getElem?_getD, hm]
    have hm100 : m ≤ 6 := by have := names_six l; omega
    have hyl : y.length + x.length + 1 = l.length := by rw [e1]; simp; omega
    have sl : ∀ w, (Instr.slice 9 (St l) none (some (.int .i64 (x.length : Int))) none).run Tryd.prog w = .ok (St x) w := fun w => by
      rw [run_to l x.length (by omega), e1]
      simp
    have d1 : wrap64 (((namesP l).length : Int) - 1) = (m : Int) := by rw [wrap_in _ (by omega) (by omega)]; omega
    have d2 : wrap64 ((l.length : Int) - (y.length : Int)) = ((x.length + 1 : Nat) : Int) := by rw [wrap_in _ (by omega) (by omega)]; omega
    have d3 : wrap64 (((x.length + 1 : Nat) : Int) - 1) = (x.length : Int) := by rw [wrap_in _ (by omega) (by omega)]; omega
    have li : (m : Int) < ((namesP l).length : Int) := by omega
    have hmn : m < (namesP l).length := by omega
    have HY := Lib.hid hy
    generalize namesP l = ns at *
    generalize x.length + 1 = x1 at *
    clear hu hn hp hl h2 e1 e2 e4 hy
    go_enter Tryd.func17, Tryd.ntmps17
    go_wp2_with (go_at_call 12; (with_reducible refine S.out.mono ?_); rintro e w1 ⟨A, C, rfl, ht, hb⟩; have H1 := Lib.hid hb; obtain ⟨g, rfl, _, hc⟩ := ht m hmn; rw [HY.out] at hc; clear hb ht)
    go_ret
    exact ⟨rfl, H1.out⟩

set_option maxHeartbeats 1000000 in
theorem base_ref (l : Bt) (w : World) (hl : l.length ≤ 100000) : Calls Tryd.prog 19 #[St l] w fun e w' => e = .returned (St (baseP l)) ∧ Below w.heap.size w w' := by
  have S := Lib.hid (names_ref l w hl)
  cases hp : isPath l with
  | false =>
    have hu : baseP l = [] := by simp [baseP, hp]
    have hn : namesP l = [] := by simp [namesP, hp]
    rw [hu]
    rw [hn] at S
    clear hu hn hp hl
    go_enter Tryd.func19, Tryd.ntmps19
    go_wp2_with (go_at_call 12; (with_reducible refine S.out.mono ?_); rintro e w1 ⟨A, C, rfl, ht, hb⟩; have H1 := Lib.hid hb; clear hb ht)
    go_ret
    exact ⟨rfl, H1.out⟩
  | true =>
    have hn : namesP l = parts l := by simp [namesP, hp]
    have hu : baseP l = base l := by simp [baseP, hp]
    rw [hu]
    have hpos := parts_pos l
    rw [← hn] at hpos
    obtain ⟨m, hm⟩ : ∃ m, (namesP l).length = m + 1 := ⟨(namesP l).length - 1, by omega⟩
    have hy : (namesP l).getD m [] = base l := by
      rcases up_base l with ⟨_, e2, e3⟩ | ⟨x, y, _, _, e3, e4, _⟩
      · rw [hn, e3] at hm ⊢
        simp at hm
        subst hm
        rw [e2]; rfl
      · rw [hn, e4] at hm ⊢
        rw [List.length_append] at hm
        simp at hm
        rw [e3]
        simp [List.getD_eq_getElem?_getD, hm]
    have hm100 : m ≤ 6 := by have := names_six l; omega
    have d1 : wrap64 (((namesP l).length : Int) - 1) = (m : Int) := by rw [wrap_in _ (by omega) (by omega)]; omega
    have li : (m : Int) < ((namesP l).length : Int) := by omega
    have hmn : m < (namesP l).length := by omega
    have h0 : ((namesP l).length : Int) ≠ 0 := by omega
    have HY := Lib.hid hy
    generalize namesP l = ns at *
    generalize base l = y at *
    clear hu hn hp hl hy hpos
    go_enter Tryd.func19, Tryd.ntmps19
    go_wp2_with (go_at_call 12; (with_reducible refine S.out.mono ?_); rintro e w1 ⟨A, C, rfl, ht, hb⟩; have H1 := Lib.hid hb; obtain ⟨g, rfl, _, hc⟩ := ht m hmn; rw [HY.out] at hc; clear hb ht)
    go_ret
    exact ⟨rfl, H1.out⟩

theorem kept_short (x : Bt) (h : x.length < 3) : keptN x = false := by
  unfold keptN Lib.hasPrefix
  cases x with
  | nil => rfl
  | cons a r =>
    cases r with
    | nil => simp [List.isPrefixOf]
    | cons b r =>
      cases r with
      | nil => simp [List.isPrefixOf]
      | cons c r => simp at h; omega
theorem kept_take (x : Bt) (h : 3 ≤ x.length) : same (x.take 3) [46, 116, 115] = keptN x := by
  unfold same keptN Lib.hasPrefix
  match x, h with
  | a :: b :: c :: r, _ =>
    simp only [List.take_succ_cons, List.take_zero, List.isPrefixOf]
    rw [Bool.eq_iff_iff]
    simp only [decide_eq_true_eq, List.cons.injEq, and_true, Bool.and_eq_true, beq_iff_eq]
    constructor
    · rintro ⟨h1, h2, h3⟩
      exact ⟨h1.symm, h2.symm, h3.symm⟩
    · rintro ⟨h1, h2, h3⟩
      exact ⟨h1.symm, h2.symm, h3.symm⟩

set_option maxRecDepth 100000 in
set_option maxHeartbeats 4000000 in
theorem kept_ref (l : Bt) (w : World) (hl : l.length ≤ 100000) : Calls Tryd.prog 21 #[St l] w fun e w' => e = .returned (.bool (keptP l)) ∧ Below w.heap.size w w' := by
  have S := Lib.hid (names_ref l w hl)
  have h6 := names_six l
  have e0 : keptP l = (namesP l).any keptN := rfl
  rw [e0]
  generalize namesP l = ns at *
  clear e0 hl
  go_enter Tryd.func21, Tryd.ntmps21
  go_wp2_with (go_at_call 12; (with_reducible refine S.out.mono ?_); rintro e w1 ⟨A, C, rfl, ht, hb⟩; have H1 := Lib.hid hb; have HT := Lib.hid ht; clear hb ht)
  go_loopw [4] (fun x wr => ∃ i : Nat, i ≤ ns.length ∧ x = .int .i64 i ∧ w1 = wr ∧ (ns.take i).any keptN = false) (fun x _ => ns.length - (intOf x).toNat)
  case atStart => exact ⟨0, by omega, rfl, by trivial, rfl⟩
  case round =>
    obtain ⟨i, hil, rfl, rfl, hall⟩ := hrel
    by_cases hlt : i < ns.length
    · obtain ⟨g, rfl, _, hc⟩ := HT.out i hlt
      have e0 : ns.getD i [] = ns[i] := by simp [List.getD_eq_getElem?_getD, hlt]
      rw [e0] at hc
      have li : (i : Int) < (ns.length : Int) := by omega
      have hnx : (ns.take (i + 1)).any keptN = ((ns.take i).any keptN || keptN ns[i]) := by
        rw [List.take_succ_eq_append_getElem hlt, List.any_append]; simp
      have hbad : keptN ns[i] = true → ns.any keptN = true := fun h => by
        rw [List.any_eq_true]
        exact ⟨ns[i], List.getElem_mem hlt, h⟩
      have q2 : i + 1 ≤ ns.length := hlt
      generalize ns[i] = c at *
      by_cases h3 : c.length < 3
      · have hx := kept_short c h3
        rw [hall, hx] at hnx
        have HX := Lib.hid hnx
        have h3' : ¬ 3 ≤ (c.length : Int) := by omega
        clear hnx hbad hall hx e0
        go_wp2
        go_roundw
        case rel => exact ⟨i + 1, q2, by go_num, by trivial, HX.out⟩
        case measure => first | (simp [intOf]; done) | (simp [intOf]; omega)
      · have h3' : 3 ≤ (c.length : Int) := by omega
        have sl : ∀ w, (Instr.slice 9 (St c) none (some (.int .i64 3)) none).run Tryd.prog w = .ok (St (c.take 3)) w := fun w => run_to c 3 (by omega) w
        have hs := kept_take c (by omega)
        cases hx : keptN c with
        | true =>
          have HB := Lib.hid (hbad hx)
          rw [hx] at hs
          clear hnx hbad hall hx e0
          go_wp2
          go_ret
          exact ⟨by rw [HB.out]; rfl, H1.out⟩
        | false =>
          rw [hx] at hs
          rw [hall, hx] at hnx
          have HX := Lib.hid hnx
          clear hnx hbad hall hx e0
          go_wp2
          go_roundw
          case rel => exact ⟨i + 1, q2, by go_num, by trivial, HX.out⟩
          case measure => first | (simp [intOf]; done) | (simp [intOf]; omega)
    · have li : ¬ (i : Int) < (ns.length : Int) := by omega
      have HE := Lib.hid (show ns.any keptN = false by rw [List.take_of_length_le (by omega)] at hall; exact hall)
      clear hall
      go_wp2
      go_ret
      exact ⟨by rw [HE.out]; rfl, H1.out⟩
end Go.Proofs.YtocaijklgomhiaaDoor
