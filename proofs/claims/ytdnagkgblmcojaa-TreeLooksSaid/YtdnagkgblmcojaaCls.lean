/-
What is proved here: the two things that a path of a tree is asked for, by contracts.
-/
import Derived.Test.YtdnagkgblmcojaaOpx
import Derived.Test.YtdnagkgblmcojaaFnd
set_option linter.unusedSimpArgs false
namespace Go.Proofs.Ytdnagkgblmcojaa
open Go.Pth Go.Tre Go.RowKit Go.Word Go.Shelf
attribute [local go_sem] guard_eq guard_ne st_eql

theorem asksName_any (x : Bt) (f md q : Int) (C : Nat) (w : World) (hc : w.cell? ⟨C, 0, none⟩ = some (.int .i64 q)) :
    Calls Try.prog 27 #[.agg #[St x, .int .i64 f, .int .i64 md], .pointer (some ⟨C, 0, none⟩)] w fun e w' => e = .returned (.bool (decide (f = q ∧ f ≠ -1))) ∧ Below w.heap.size w w' := by
  have hB : Below w.heap.size w (w.alloc (.cells #[St x, .int .i64 f, .int .i64 md] 41)) := (Below.refl _ _).alloc (Nat.le_refl _) _
  have x1 : (w.alloc (.cells #[St x, .int .i64 f, .int .i64 md] 41)).cell? ⟨w.heap.size, 1, none⟩ = some (.int .i64 f) := lies_cell (lies_new w 41 _) 1
  have x2 := (hB.cell (p := ⟨C, 0, none⟩) (block_lt_of_cell hc)).trans hc
  have HB := Lib.hid hB
  clear hB hc
  by_cases h1 : f = q
  · subst h1
    by_cases h2 : f = -1
    · have hr : decide (f = f ∧ f ≠ -1) = false := decide_eq_false (fun h => h.2 h2)
      rw [hr]
      subst h2
      clear hr
      go_enter Try.func27, Try.ntmps27
      go_wp2
      go_ret
      exact ⟨rfl, HB.out⟩
    · have hr : decide (f = f ∧ f ≠ -1) = true := decide_eq_true ⟨rfl, h2⟩
      have hn : (f != -1) = true := by simpa using h2
      rw [hr]
      clear hr
      go_enter Try.func27, Try.ntmps27
      go_wp2
      go_ret
      exact ⟨rfl, HB.out⟩
  · have hr : decide (f = q ∧ f ≠ -1) = false := decide_eq_false (fun h => h1 h.1)
    have hn : (f == q) = false := by simpa using h1
    rw [hr]
    clear hr
    go_enter Try.func27, Try.ntmps27
    go_wp2
    go_ret
    exact ⟨rfl, HB.out⟩
set_option maxRecDepth 100000 in
set_option maxHeartbeats 4000000 in
theorem asksKid_any (x : Bt) (f md : Int) (q : Bt) (C : Nat) (w : World) (hx : x.length ≤ 100000) (hc : w.cell? ⟨C, 0, none⟩ = some (St q)) :
    Calls Try.prog 28 #[.agg #[St x, .int .i64 f, .int .i64 md], .pointer (some ⟨C, 0, none⟩)] w fun e w' => e = .returned (.bool (same (upP x) q)) ∧ Below w.heap.size w w' := by
  have hB : Below w.heap.size w (w.alloc (.cells #[St x, .int .i64 f, .int .i64 md] 41)) := (Below.refl _ _).alloc (Nat.le_refl _) _
  have x0 : (w.alloc (.cells #[St x, .int .i64 f, .int .i64 md] 41)).cell? ⟨w.heap.size, 0, none⟩ = some (St x) := lies_cell (lies_new w 41 _) 0
  have x1 := (hB.cell (p := ⟨C, 0, none⟩) (block_lt_of_cell hc)).trans hc
  have HB := Lib.hid hB
  have V := fun W => Lib.hid (parent_any x W hx)
  obtain ⟨u, hu⟩ : ∃ u, u = upP x := ⟨_, rfl⟩
  rw [← hu] at V ⊢
  obtain ⟨s, hs⟩ : ∃ s, s = same u q := ⟨_, rfl⟩
  rw [← hs]
  have HS : same u q = s := hs.symm
  clear hB hc hu hs hx
  go_enter Try.func28, Try.ntmps28
  go_upto_region 1 with (fail)
  generalize w.alloc (.cells #[St x, .int .i64 f, .int .i64 md] 41) = X at *
  refine wp_region_any (by kernel_rfl) ?_
  refine every_inv (own := ownAll _) (vals := fun j => match j with | 0 => .pointer (some ⟨w.heap.size, 0, none⟩) | 1 => St x | 2 => St u | 3 => St q | 4 => .bool s | 5 => .bool s | _ => undef) id (fun W => Below X.heap.size X W ∧ W.cell? ⟨w.heap.size, 0, none⟩ = some (St x) ∧ W.cell? ⟨C, 0, none⟩ = some (St q)) (acAll_of (by kernel_rfl)) (onAll_of (by kernel_rfl)) (dstAll_of (by kernel_rfl)) ?hop ?hend _ _ _ _ rfl (of_decide_eq_true (by kernel_rfl)) (tabd_start (fun i => rep_false _ i)) ⟨Below.drew (Below.refl _ X), x0, x1⟩
  case hop =>
    intro j oi a w0 listed hoi hdeps ht hI
    have hj : j < 6 := (Array.getElem?_eq_some_iff.1 hoi).1
    have cj : j = 0 ∨ j = 1 ∨ j = 2 ∨ j = 3 ∨ j = 4 ∨ j = 5 := by omega
    obtain rfl | rfl | rfl | rfl | rfl | rfl := cj
    all_goals obtain rfl := Option.some.inj hoi
    · have e2 : a.eval (.tmp 2) = .pointer (some ⟨w.heap.size, 0, none⟩) := (tabd_old ht (t := 2) (of_decide_eq_true (by kernel_rfl)) (by kernel_rfl)).trans rfl
      exact .inl ⟨rfl, fun K hk => wp_val (v := .pointer (some ⟨w.heap.size, 0, none⟩)) (by generalize a.eval = ρ at *; unfold execOp; simp only [e2, st_eql, HS]; go_simp) (hk _ hI)⟩
    · have d0 := hdeps ⟨0, .data⟩ (by simp) rfl
      have e4 : a.eval (.tmp 4) = .pointer (some ⟨w.heap.size, 0, none⟩) := tabd_at ht (t := 4) (of_decide_eq_true (by kernel_rfl)) (by kernel_rfl) d0
      exact .inl ⟨rfl, fun K hk => wp_val (v := St x) (by have h : w0.cell? ⟨w.heap.size, 0, none⟩ = some (St x) := hI.2.1; clear hI hoi hdeps ht; generalize a.eval = ρ at *; unfold execOp; simp only [e4]; go_simp) (hk _ hI)⟩
    · have d1 := hdeps ⟨1, .data⟩ (by simp) rfl
      have e5 : a.eval (.tmp 5) = St x := tabd_at ht (t := 5) (of_decide_eq_true (by kernel_rfl)) (by kernel_rfl) d1
      have ef42 : a.eval (.func 29) = .func (.func 29) #[] #[] := rfl
      exact .inl ⟨rfl, fun K hk => wp_callI (v := St u) (by generalize a.eval = ρ at *; unfold execOp; simp only [e5, ef42, st_eql, HS]; go_simp) (V w0 |>.out.mono (fun _ _ h => ⟨h.1, hI.1.trans (h.2.mono hI.1.size), (h.2.cell (p := ⟨w.heap.size, 0, none⟩) (block_lt_of_cell hI.2.1)).trans hI.2.1, (h.2.cell (p := ⟨C, 0, none⟩) (block_lt_of_cell hI.2.2)).trans hI.2.2⟩)) hk⟩
    · have e1 : a.eval (.tmp 1) = .pointer (some ⟨C, 0, none⟩) := (tabd_old ht (t := 1) (of_decide_eq_true (by kernel_rfl)) (by kernel_rfl)).trans rfl
      exact .inl ⟨rfl, fun K hk => wp_val (v := St q) (by have h : w0.cell? ⟨C, 0, none⟩ = some (St q) := hI.2.2; clear hI hoi hdeps ht; generalize a.eval = ρ at *; unfold execOp; simp only [e1]; go_simp) (hk _ hI)⟩
    · have d2 := hdeps ⟨2, .data⟩ (by simp) rfl
      have d3 := hdeps ⟨3, .data⟩ (by simp) rfl
      have e6 : a.eval (.tmp 6) = St u := tabd_at ht (t := 6) (of_decide_eq_true (by kernel_rfl)) (by kernel_rfl) d2
      have e7 : a.eval (.tmp 7) = St q := tabd_at ht (t := 7) (of_decide_eq_true (by kernel_rfl)) (by kernel_rfl) d3
      exact .inl ⟨rfl, fun K hk => wp_val (v := .bool s) (by generalize a.eval = ρ at *; unfold execOp; simp only [e6, e7, st_eql, HS]; go_simp) (hk _ hI)⟩
    · have d4 := hdeps ⟨4, .data⟩ (by simp) rfl
      have d2 := hdeps ⟨2, .chain⟩ (by simp) rfl
      have e8 : a.eval (.tmp 8) = .bool s := tabd_at ht (t := 8) (of_decide_eq_true (by kernel_rfl)) (by kernel_rfl) d4
      exact .inl ⟨rfl, fun K hk => wp_val (v := .bool s) (by generalize a.eval = ρ at *; unfold execOp; simp only [e8, st_eql, HS]; go_simp) (hk _ hI)⟩
  case hend =>
    intro a w0 listed hall ht hI
    rw [tabd_fill ht (fun t i ho => hall i (ownAll_lt ho))]
    change Exit.then _ _ Exit.normal { tmps := #[.agg #[St x, .int .i64 f, .int .i64 md], .pointer (some ⟨C, 0, none⟩), .pointer (some ⟨w.heap.size, 0, none⟩), .bool s, .pointer (some ⟨w.heap.size, 0, none⟩), St x, St u, St q, .bool s], defers := [] } w0
    clear hall ht
    go_wp2
    go_ret
    exact ⟨rfl, HB.out.trans (hI.1.mono HB.out.size)⟩
end Go.Proofs.Ytdnagkgblmcojaa
