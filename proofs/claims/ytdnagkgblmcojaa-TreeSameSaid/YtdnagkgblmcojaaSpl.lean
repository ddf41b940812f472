/-
What is proved here: package path's split, Parent, Base and Temp, and the law's own look at what the document fixes, by contracts.
-/
import Derived.Test.YtdnagkgblmcojaaVal
import Derived.Test.YtdnagkgblmcojaaPure2
import Derived.Test.YtdnagkgblmcojaaShelf
import Derived.Deep.QuietTactic
import Derived.BigQuiet
import Derived.Deep.Cut
set_option linter.unusedSimpArgs false
namespace Go.Proofs.Ytdnagkgblmcojaa
open Go.Pth Go.RowKit Go.Word

theorem below_drewN {B : Nat} {a w : World} (h : Below B a w) (n : Nat) : Below B a (w.drewN n) := ⟨h.os, h.tape, h.output, h.size, h.block⟩
theorem last_any (l : Bt) (w : World) (hl : l.length ≤ 100000) : Calls Try.prog 65 #[St l, .int .u8 47] w fun e w' => e = .returned (.int .i64 (lastAt l)) ∧ w = w' :=
  (strings_LastIndexByte ⟨l.toArray⟩ 47 (by rw [size_st]; omega) w).mono fun _ _ h => ⟨h.1, h.2.symm⟩

set_option maxHeartbeats 1000000 in
theorem split_any (l : Bt) (w : World) (hl : l.length ≤ 100000) : Calls Try.prog 51 #[St l] w fun e w' => e = .returned (.tuple #[St (upP l), St (baseP l)]) ∧ Below w.heap.size w w' := by
  have V := Lib.hid (valid_any l w hl)
  cases hp : isPath l with
  | false =>
    have h1 : upP l = [] := by simp [upP, hp]
    have h2 : baseP l = [] := by simp [baseP, hp]
    rw [h1, h2]
    rw [hp] at V
    clear h1 h2
    go_enter Try.func51, Try.ntmps51
    go_wp2_with (go_at_call 39; (with_reducible refine V.out.mono ?_); rintro e w1 ⟨rfl, hb⟩; have H1 := Lib.hid hb; clear hb)
    go_ret2
    exact ⟨rfl, H1.out⟩
  | true =>
    have h1 : upP l = up l := by simp [upP, hp]
    have h2 : baseP l = base l := by simp [baseP, hp]
    rw [h1, h2]
    rw [hp] at V
    clear h1 h2
    have K := fun w => Lib.hid (last_any l w hl)
    rcases last_cases l with ⟨h1, h2⟩ | ⟨x, y, h1, h2, h3, h4⟩
    · have e1 : up l = [] := by unfold up; rw [h1]; rfl
      have e2 : base l = l := by unfold base; rw [h1]; rfl
      rw [e1, e2]
      rw [h1] at K
      have s1 : ∀ w, (Instr.slice 9 (St l) none (some (.int .i64 0)) none).run Try.prog w = .ok (St []) w := run_to l 0 (by omega)
      have s2 : ∀ w, (Instr.slice 9 (St l) (some (.int .i64 0)) none none).run Try.prog w = .ok (St l) w := run_from l 0 (by omega)
      have m1 : max (-1 : Int) 0 = 0 := by decide
      clear e1 e2 h1 h2
      go_enter Try.func51, Try.ntmps51
      go_upto_region 4 with (first
        | (go_at_call 39; (with_reducible refine V.out.mono ?_); rintro e w1 ⟨rfl, hb⟩; have H1 := Lib.hid hb; clear hb)
        | (go_at_call 65; (with_reducible refine (K _).out.mono ?_); rintro e w2 ⟨rfl, rfl⟩))
      go_quiet (fail)
      go_wp2
      go_ret2
      exact ⟨rfl, below_drewN H1.out _⟩
    · have e1 : up l = x := by
        unfold up
        rw [h2, if_neg (by omega), Int.toNat_natCast, h1]
        simp
      have e2 : base l = y := by
        unfold base
        rw [h2, show ((x.length : Int) + 1).toNat = x.length + 1 by omega, h1]
        simp
      have hx : x.length < l.length := by rw [h1]; simp
      have s1 : ∀ w, (Instr.slice 9 (St l) none (some (.int .i64 (x.length : Int))) none).run Try.prog w = .ok (St x) w := fun w => by
        rw [run_to l x.length (by omega), h1]
        simp
      have s2 : ∀ w, (Instr.slice 9 (St l) (some (.int .i64 ((x.length + 1 : Nat) : Int))) none none).run Try.prog w = .ok (St y) w := fun w => by
        rw [run_from l (x.length + 1) (by omega), h1]
        simp
      have w1 : IntKind.i64.wrap ((x.length : Int) + 1) = ((x.length + 1 : Nat) : Int) := by
        rw [IntKind.wrap_i64]; omega
      have m1 : max (x.length : Int) 0 = (x.length : Int) := by omega
      rw [e1, e2]
      rw [h2] at K
      generalize x.length = k at *
      generalize hk1 : k + 1 = k1 at *
      clear e1 e2 h1 h2 h3 h4
      go_enter Try.func51, Try.ntmps51
      go_upto_region 4 with (first
        | (go_at_call 39; (with_reducible refine V.out.mono ?_); rintro e w1 ⟨rfl, hb⟩; have H1 := Lib.hid hb; clear hb)
        | (go_at_call 65; (with_reducible refine (K _).out.mono ?_); rintro e w2 ⟨rfl, rfl⟩))
      go_quiet (fail)
      go_wp2
      go_ret2
      exact ⟨rfl, below_drewN H1.out _⟩
theorem parent_any (l : Bt) (w : World) (hl : l.length ≤ 100000) : Calls Try.prog 29 #[St l] w fun e w' => e = .returned (St (upP l)) ∧ Below w.heap.size w w' := by
  have V := Lib.hid (split_any l w hl)
  clear hl
  generalize upP l = u at *
  generalize baseP l = b at *
  go_enter Try.func29, Try.ntmps29
  go_wp2_with (go_at_call 51; (with_reducible refine V.out.mono ?_); rintro e w1 ⟨rfl, hb⟩; have H1 := Lib.hid hb; clear hb)
  go_ret
  exact ⟨rfl, H1.out⟩
end Go.Proofs.Ytdnagkgblmcojaa
