/-
What is proved here: slices.AppendSeq and slices.Collect over the values of a list of numbers, by contracts.
-/
import Derived.Test.YtpddamloajpiiaaGreatDoorVlsM
import Derived.RangeFuncNested
import Derived.RangeFuncBox
import Derived.RangeFuncLeaves
import Derived.RangeFuncBound
import Derived.RangeFuncCalls
import Derived.Maps.AppendAt
import Derived.OwnWalkIn
set_option linter.unusedSimpArgs false
set_option linter.unusedVariables false
namespace Go.Proofs.YtpddamloajpiiaaGreatDoor
open Go.Cmp Go.RowKit
attribute [local go_sem] Oper.semAt_some
set_option maxRecDepth 100000 in
set_option maxHeartbeats 4000000 in
theorem aps_in (n : Nat) (hn : 3 ≤ n) (F : List Nat) (hF0 : F.length ≤ 100000) (Bs c : Nat) (A : Option Addr) (w : World) (hb : w.cell? ⟨Bs, 0, none⟩ = some (.slice A F.length c)) (hBs : Bs < w.heap.size) (hI : IntsAt w A (zs F)) :
    CallsIn .wide n Tryz.prog 80 #[.slice none 0 0, .func (.func 57) #[] #[.pointer (some ⟨Bs, 0, none⟩)]] w fun e W' => ∃ v, e = .returned v ∧ OwnI W' w.heap.size v (zs F) ∧ Below w.heap.size w W' := by
  have h1 : 1 ≤ n := by omega
  obtain ⟨i0, hi, hz0, hz1, hz2⟩ := info_parts int_info
  refine callsIn_of_wp_marks Tryz.func80 rfl trivial ?_ rfl
  simp only [Tryz.ntmps80, List.size_toArray, List.length_cons, List.length_nil, Nat.reduceAdd, Nat.reduceSub, Array.replicate_succ, Array.replicate_zero, List.push_toArray, List.append_toArray, List.nil_append, List.cons_append]
  gi_wp2
  have bO := Boxed.new w 33 (.slice none 0 0)
  have hB0 : Below w.heap.size w (w.alloc (.cells #[.slice none 0 0] 33)) := (Below.refl _ w).alloc (Nat.le_refl _) _
  have hQA : ∀ b o, A = some ⟨b, o, none⟩ → 0 < F.length → b < w.heap.size := fun b o e h => by
    obtain ⟨b', o', e', hl, _⟩ := hI 0 (by simpa using h)
    rw [e] at e'
    injection e' with e'
    injection e' with e1 e2
    omega
  refine wpIn_rangeFunc_ownF rfl h1 (gf := 57) (lb := #[.pointer (some ⟨Bs, 0, none⟩)]) rfl trivial (enters_of Tryz.func57 (by kernel_rfl) rfl)
    (vals_stops (n - 1) (by omega) F hF0 Bs c A (fun k => k < w.heap.size) (w.alloc (.cells #[.slice none 0 0] 33)) ((hB0.cell (p := ⟨Bs, 0, none⟩) hBs).trans hb) hBs (fun k hk => by simp; omega) (intsAt_below hI hB0) hQA) kq_t (kq_b (fun k hk => by simp; omega)) (Below.refl _ _) (fun _ => rfl)
    (fun (pre : List (Fin F.length)) W => (∃ v, Boxed W w.heap.size 33 v ∧ W.ownsRow w.heap.size 3 1 v pre.length (pre.map fun (x : Fin F.length) => Value.int .i64 (F[x.1] : Int)) ∧ True) ∧ Below w.heap.size w W)
    (fun _ _ _ => False)
    (OwnFrom.and (Own.from (holdsRow_own w.heap.size w.heap.size 33 3 1 (fun (pre : List (Fin F.length)) => pre.length) (fun (pre : List (Fin F.length)) => pre.map fun (x : Fin F.length) => Value.int .i64 (F[x.1] : Int)) (fun _ _ => True)) _) (ownFrom_below (Nat.le_refl _) (by simp)))
    (fun _ _ _ _ _ hs _ _ => hs)
    ⟨⟨_, bO, World.ownsRow_nil _ _ _ _, trivial⟩, hB0⟩
    (fun (x : Fin F.length) => { tmps := #[.slice none 0 0, .func (.func 57) #[] #[.pointer (some ⟨Bs, 0, none⟩)], .pointer (some ⟨w.heap.size, 0, none⟩), undef, .slice none 0 0, .int .i64 (F[x.1] : Int), .func (.func 57) #[] #[.pointer (some ⟨Bs, 0, none⟩)], .int .i64 (F[x.1] : Int), undef, undef, undef, undef, undef], defers := [] })
    ?assign ?body ?done ?stop
  case assign =>
    intro l x W K hK
    dsimp only [encV]
    gi_wp2
    exact hK
  case body =>
    rintro lp pre x W ⟨⟨v, hv1, hrow, _⟩, hB⟩ hlt
    have hc := hv1.cell
    generalize hfx : F[x.1] = fx at *
    gi_wp2_with (gi_at_builtin; refine wpListIn_append_own _ rfl _ _ 33 rfl w.heap.size 3 i0 (.int .i64 0) 1 8 Tryz.underlying33 hi hz0 hz1 hz2 rfl (by decide) _ _ _ rfl (hrow.alloc _) ⟨W.heap.size, 0, none⟩ 1 1 [.int .i64 (fx : Int)] rfl rfl (cell_one_new _ _ _) (fun y hy => by rw [List.mem_singleton] at hy; subst hy; rfl) (by unfold maxLen; omega) (by omega) (by have := hB.size; simp; omega) ?_; intro v' w1 hown' hgrow _; obtain ⟨g', cap', rfl⟩ := ownsRow_succ hown'; obtain ⟨hv1', hv2, hr2, hk2, hb2⟩ := Boxed.appended hv1 (by decide) hrow hB.size (Nat.le_refl _) hown' hgrow; have hc1' := hv1'.cell; have hf1 := hv1'.frozen)
    exact ⟨hk2, ⟨fun k hk => hb2.block k hk, hb2.size⟩, ⟨_, hv2, by simpa [hfx] using hr2, trivial⟩, hB.trans hb2⟩
  case done =>
    rintro D ys W hD rfl ⟨⟨v, hv1, hrow, _⟩, hB⟩ hK
    have hc := hv1.cell
    have hm : (fw F.length F.length).map (fun (x : Fin F.length) => Value.int .i64 (F[x.1] : Int)) = (zs F).map iV := by
      conv => rhs; rw [← fw_all F]
      simp [zs, iV]
    rw [hm] at hrow
    gi_wp2
    refine ⟨by simp, .inl ⟨_, _, rfl, run_takeDeferred hK, ?_⟩⟩
    exact ⟨_, results_tmp rfl _ _ _, v, rfl, by have h := ownsRow_putObj hrow (.deferred none) hK rfl; unfold OwnI; rw [zs_len]; rw [fw_len _ _ (Nat.le_refl _)] at h; exact h, hB.trans (belowK_b (w := w) (Nat.le_refl _) W D _ _ (by simp at hD; omega) hK rfl rfl)⟩
  case stop =>
    rintro D c pre W _ _ h _
    exact h.elim
theorem aps_any (F : List Nat) (hF0 : F.length ≤ 100000) (Bs c : Nat) (A : Option Addr) (w : World) (hb : w.cell? ⟨Bs, 0, none⟩ = some (.slice A F.length c)) (hBs : Bs < w.heap.size) (hI : IntsAt w A (zs F)) :
    Calls Tryz.prog 80 #[.slice none 0 0, .func (.func 57) #[] #[.pointer (some ⟨Bs, 0, none⟩)]] w fun e W' => ∃ v, e = .returned v ∧ OwnI W' w.heap.size v (zs F) ∧ Below w.heap.size w W' :=
  (callsIn_wide (n := 3)).1 (aps_in 3 (by omega) F hF0 Bs c A w hb hBs hI)
theorem col_any (F : List Nat) (hF0 : F.length ≤ 100000) (Bs c : Nat) (A : Option Addr) (w : World) (hb : w.cell? ⟨Bs, 0, none⟩ = some (.slice A F.length c)) (hBs : Bs < w.heap.size) (hI : IntsAt w A (zs F)) :
    Calls Tryz.prog 56 #[.func (.func 57) #[] #[.pointer (some ⟨Bs, 0, none⟩)]] w fun e W' => ∃ v, e = .returned v ∧ OwnI W' w.heap.size v (zs F) ∧ Below w.heap.size w W' := by
  have K := Lib.hid (aps_any F hF0 Bs c A w hb hBs hI)
  clear hb hI
  go_enter Tryz.func56, Tryz.ntmps56
  go_wp2_with (go_at_call 80; (with_reducible refine K.out.mono ?_); rintro e w' ⟨v, rfl, ho, hB⟩; have HO := Lib.hid ho; have HB := Lib.hid hB; clear ho hB)
  go_ret
  exact ⟨v, rfl, HO.out, HB.out⟩
end Go.Proofs.YtpddamloajpiiaaGreatDoor
