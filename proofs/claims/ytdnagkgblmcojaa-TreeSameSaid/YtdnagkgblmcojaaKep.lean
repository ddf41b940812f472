/-
What is proved here: path.Kept, by a contract.
-/
import Derived.Test.YtdnagkgblmcojaaNms
set_option linter.unusedSimpArgs false
namespace Go.Proofs.Ytdnagkgblmcojaa
open Go.Pth Go.RowKit Go.Word Go.Shelf
attribute [local go_sem] Oper.semAt_some run_range_st

theorem names_in (n : Nat) (l : Bt) (w : World) :
    CallsIn .wide n Try.prog 59 #[St l] w fun e w' => e = .returned (.func (.func 66) #[] #[.pointer (some ⟨w.heap.size, 0, none⟩)]) ∧ w' = w.alloc (.cells #[St l] 9) := by
  refine callsIn_of_wp Try.func59 rfl trivial ?_ rfl
  simp only [Try.ntmps59, List.size_toArray, List.length_cons, List.length_nil, Nat.reduceAdd, Nat.reduceSub, Array.replicate_succ, Array.replicate_zero, List.push_toArray, List.append_toArray, List.nil_append, List.cons_append]
  gi_wp2
  go_ret
  exact ⟨rfl, rfl⟩

def keptN (x : Bt) : Bool := Lib.hasPrefix x [46, 116, 115]
def keptP (l : Bt) : Bool := (namesP l).any keptN
theorem pre_any (x : Bt) (w : World) : Calls Try.prog 60 #[St x, .string { data := #[46, 116, 115] }] w fun e w' => e = .returned (.bool (keptN x)) ∧ w = w' :=
  (strings_HasPrefix ⟨x.toArray⟩ ⟨#[46, 116, 115]⟩ w).mono fun _ _ h => ⟨h.1, h.2.symm⟩

set_option maxRecDepth 100000 in
set_option maxHeartbeats 4000000 in
theorem kept_in (n : Nat) (hn : 4 ≤ n) (l : Bt) (hl : l.length ≤ 100000) (w : World) :
    CallsIn .wide n Try.prog 45 #[St l] w fun e W' => e = .returned (.bool (keptP l)) ∧ Below w.heap.size w W' := by
  have h1 : 1 ≤ n := by omega
  have hn1 : 1 ≤ n - 1 - 1 := by omega
  refine callsIn_of_wp_marks Try.func45 rfl trivial ?_ rfl
  simp only [Try.ntmps45, List.size_toArray, List.length_cons, List.length_nil, Nat.reduceAdd, Nat.reduceSub, Array.replicate_succ, Array.replicate_zero, List.push_toArray, List.append_toArray, List.nil_append, List.cons_append]
  gi_wp2_with (refine ⟨trivial, ?_⟩; gi_at_call 59; refine (names_in (n - 1) l _).mono ?_; rintro e w' ⟨rfl, rfl⟩)
  have bO := Boxed.new w 4 (.bool false)
  have bN := Boxed.new (w.alloc (.cells #[.bool false] 4)) 9 (St l)
  rw [World.size_alloc] at bN
  have hB0 : Below w.heap.size w ((w.alloc (.cells #[.bool false] 4)).alloc (.cells #[St l] 9)) := ((Below.refl _ w).alloc (Nat.le_refl _) _).alloc (by simp) _
  refine wpIn_rangeFunc_ownF rfl h1 (gf := 66) (lb := #[.pointer (some ⟨w.heap.size + 1, 0, none⟩)]) rfl trivial (enters_of Try.func66 (by kernel_rfl) rfl)
    (names_stops (n - 1) (by omega) l hl (w.heap.size + 1) _ (by simp) bN.cell) ks_t (ks_b (by simp)) (Below.refl _ _) (fun _ => rfl)
    (fun (pre : List Bt) W => (∃ v, Boxed W w.heap.size 4 v ∧ pre.any keptN = false ∧ True) ∧ Below w.heap.size w W)
    (fun c (pre : List Bt) W => (c = .ret ∧ pre.any keptN = true ∧ Boxed W w.heap.size 4 (.bool true)) ∧ Below w.heap.size w W)
    (OwnFrom.and (Own.from (fun s X Y row ⟨v, hv, h⟩ hg hr => ⟨v, boxed_own (β := Unit) w.heap.size 4 (fun _ => v) () X Y row hv hg hr, h⟩) _) (ownFrom_below (Nat.le_refl _) (by simp; omega)))
    (fun c => OwnFrom.and (Own.from (fun s X Y row ⟨h1, h2, hv⟩ hg hr => ⟨h1, h2, boxed_own (β := Unit) w.heap.size 4 (fun _ => .bool true) () X Y row hv hg hr⟩) _) (ownFrom_below (Nat.le_refl _) (by simp; omega)))
    ⟨⟨_, bO.alloc _, rfl, trivial⟩, hB0⟩
    (fun x => { tmps := #[St l, undef, .pointer (some ⟨w.heap.size, 0, none⟩), St x, St l, .func (.func 66) #[] #[.pointer (some ⟨w.heap.size + 1, 0, none⟩)], St x, undef, undef], defers := [] })
    ?assign ?body ?done ?stop
  case assign =>
    intro l x W K hK
    dsimp only [encS]
    gi_wp2
    exact hK
  case body =>
    rintro lp pre x W ⟨⟨v, hv1, hno, _⟩, hB⟩ hlt
    have hc := hv1.cell
    have hf := hv1.frozen
    have P := Lib.hid (pre_any x W)
    cases hx : keptN x with
    | false =>
      rw [hx] at P
      have ha : (pre ++ [x]).any keptN = false := by rw [List.any_append, hno]; simp [hx]
      gi_wp2_with (refine ⟨trivial, ?_⟩; gi_at_call 60; refine (CallsIn.inRound lp (callsIn_wide.2 P.out)).mono ?_; rintro e w' ⟨rfl, rfl⟩)
      exact ⟨.refl _, ⟨rfl, .refl _⟩, ⟨v, hv1, ha, trivial⟩, hB⟩
    | true =>
      rw [hx] at P
      have ha : (pre ++ [x]).any keptN = true := by rw [List.any_append]; simp [hx]
      gi_wp2_with (refine ⟨trivial, ?_⟩; gi_at_call 60; refine (CallsIn.inRound lp (callsIn_wide.2 P.out)).mono ?_; rintro e w' ⟨rfl, rfl⟩)
      exact ⟨KeepsOthers.setCell _ _ _, ⟨rfl, ha, hv1.set _⟩, hB.setCell (p := ⟨w.heap.size, 0, none⟩) (Nat.le_refl _) _⟩
  case done =>
    rintro D ys W hD rfl ⟨⟨v, hv1, hno, _⟩, hB⟩ hK
    have hc := hv1.cell
    have hf := hv1.frozen
    have hkp : keptP l = false := hno
    gi_wp2
    have hK' := (KeepsOthers.setCell W ⟨w.heap.size, 0, none⟩ (.bool false)).same D _ hK rfl
    refine ⟨by simp, .inl ⟨_, _, rfl, run_takeDeferred hK', ?_⟩⟩
    have hc5 := cell_kept (hv1.set (.bool false)).cell (grownBy_putObj' _ D (.deferred none)) (fun r e => by cases e; exact ⟨_, hK', rfl⟩)
    refine ⟨.bool false, ?_, by rw [hkp], (hB.setCell (p := ⟨w.heap.size, 0, none⟩) (Nat.le_refl _) _).trans (belowK_b (w := w) (Nat.le_refl _) _ D _ _ (by simp at hD; omega) hK' rfl rfl)⟩
    simp [results, Try.f45, go_sem, hc5]
  case stop =>
    rintro D c pre W hD ⟨t, hpre⟩ ⟨⟨rfl, ha, hv1⟩, hB⟩ hK
    have hkp : keptP l = true := by unfold keptP; rw [← hpre, List.any_append, ha, Bool.true_or]
    gi_wp2
    refine ⟨by simp, .inl ⟨_, _, rfl, run_takeDeferred hK, ?_⟩⟩
    have hc5 := cell_kept hv1.cell (grownBy_putObj' _ D (.deferred none)) (fun r e => by cases e; exact ⟨_, hK, rfl⟩)
    refine ⟨.bool true, ?_, by rw [hkp], hB.trans (belowK_b (w := w) (Nat.le_refl _) W D _ _ (by simp at hD; omega) hK rfl rfl)⟩
    simp [results, Try.f45, go_sem, hc5]

theorem kept_any (l : Bt) (hl : l.length ≤ 100000) (w : World) : Calls Try.prog 45 #[St l] w fun e w' => e = .returned (.bool (keptP l)) ∧ Below w.heap.size w w' :=
  (callsIn_wide (n := 4)).1 (kept_in 4 (by omega) l hl w)
end Go.Proofs.Ytdnagkgblmcojaa
