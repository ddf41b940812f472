/-
What is proved here: the document's own Parent, by a contract.
-/
import Derived.Test.YtdnagkgblmcojaaRefV
set_option linter.unusedSimpArgs false
namespace Go.Proofs.Ytdnagkgblmcojaa
open Go.Pth Go.RowKit Go.Word
attribute [local go_sem] guard_eq eql_dot eql_dots len_st eql_ts

set_option maxHeartbeats 1000000 in
theorem parent_ref (l : Bt) (w : World) (hl : l.length ≤ 100000) : Calls Try.prog 34 #[St l] w fun e w' => e = .returned (St (upP l)) ∧ Below w.heap.size w w' := by
  have S := Lib.hid (names_ref l w hl)
  by_cases h2 : (namesP l).length < 2
  · have hu : upP l = [] := by
      cases hp : isPath l with
      | false => simp [upP, hp]
      | true =>
        have hn : namesP l = parts l := by simp [namesP, hp]
        rw [hn] at h2
        rcases up_base l with ⟨e1, _, _⟩ | ⟨x, y, _, _, _, e4, _⟩
        · simp [upP, hp, e1]
        · rw [e4, List.length_append] at h2
          have := parts_pos x
          simp at h2
          omega
    rw [hu]
    have h2' : ((namesP l).length : Int) < 2 := by omega
    generalize namesP l = ns at *
    clear hu hl h2
    go_enter Try.func34, Try.ntmps34
    go_wp2_with (go_at_call 53; (with_reducible refine S.out.mono ?_); rintro e w1 ⟨A, C, rfl, ht, hb⟩; have H1 := Lib.hid hb; clear hb ht)
    go_ret
    exact ⟨rfl, H1.out⟩
  · have hp : isPath l = true := by
      cases hp : isPath l with
      | true => rfl
      | false => exact absurd (by simp [namesP, hp]) h2
    have hn : namesP l = parts l := by simp [namesP, hp]
    obtain ⟨x, y, e1, e2, _, e4, _⟩ : ∃ x y, l = x ++ 47 :: y ∧ up l = x ∧ base l = y ∧ parts l = parts x ++ [y] ∧ ∀ c ∈ y, c ≠ 47 := by
      rcases up_base l with ⟨_, _, e3⟩ | h
      · rw [hn, e3] at h2; simp at h2
      · exact h
    have hu : upP l = x := by simp [upP, hp, e2]
    rw [hu]
    have h2' : ¬ ((namesP l).length : Int) < 2 := by omega
    obtain ⟨m, hm⟩ : ∃ m, (namesP l).length = m + 1 := ⟨(namesP l).length - 1, by omega⟩
    have hy : (namesP l).getD m [] = y := by
      rw [hn, e4] at hm ⊢
      rw [List.length_append] at hm
      simp at hm
      simp [List.getD_eq_getElem?_getD, hm]
    have hm100 : m ≤ 6 := by have := names_six l; omega
    have hyl : y.length + x.length + 1 = l.length := by rw [e1]; simp; omega
    have sl : ∀ w, (Instr.slice 9 (St l) none (some (.int .i64 (x.length : Int))) none).run Try.prog w = .ok (St x) w := fun w => by
      rw [run_to l x.length (by omega), e1]
      simp
    have d1 : wrap64 (((namesP l).length : Int) - 1) = (m : Int) := by rw [wrap_in _ (by omega) (by omega)]; omega
    have d2 : wrap64 ((l.length : Int) - (y.length : Int)) = ((x.length + 1 : Nat) : Int) := by rw [wrap_in _ (by omega) (by omega)]; omega
    have d3 : wrap64 (((x.length + 1 : Nat) : Int) - 1) = (x.length : Int) := by rw [wrap_in _ (by omega) (by omega)]; omega
    have li : (m : Int) < ((namesP l).length : Int) := by omega
    have hmn : m < (namesP l).length := by omega
    have HY := Lib.hid hy
    generalize namesP l = ns at *
    generalize x.length + 1 = x1 at *
    clear hu hn hp hl h2 e1 e2 e4 hy
    go_enter Try.func34, Try.ntmps34
    go_wp2_with (go_at_call 53; (with_reducible refine S.out.mono ?_); rintro e w1 ⟨A, C, rfl, ht, hb⟩; have H1 := Lib.hid hb; obtain ⟨g, rfl, _, hc⟩ := ht m hmn; rw [HY.out] at hc; clear hb ht)
    go_ret
    exact ⟨rfl, H1.out⟩
end Go.Proofs.Ytdnagkgblmcojaa
