/-
What is proved here: the least of order's line is taken out, by a contract.
-/
import Derived.Test.YtnbjfmkckebfgaaGreatOln
set_option linter.unusedSimpArgs false
set_option linter.unusedVariables false
namespace Go.Proofs.YtnbjfmkckebfgaaGreat
open Go.Cmp Go.RowKit Go.Sort Go.Lib
theorem zs_erase (l : List Nat) (i : Nat) : (zs l).eraseIdx i = zs (l.eraseIdx i) := by
  unfold zs
  induction l generalizing i with
  | nil => rfl
  | cons a t ih =>
    cases i with
    | zero => rfl
    | succ i =>
      show (a : Int) :: (t.map _).eraseIdx i = (a : Int) :: (t.eraseIdx i).map _
      rw [ih]
theorem own_cell {w : World} {B : Nat} {v : Value} {l : List Nat} (h : OwnI w B v (zs l)) (h0 : 0 < l.length) : ∃ g C, v = .slice (some ⟨g, 0, none⟩) l.length C ∧ ∀ i, i < l.length → w.cell? ⟨g, i, none⟩ = some (.int .i64 (l.getD i 0 : Int)) := by
  obtain ⟨g, C, hv, _⟩ := World.ownsRow.form h (by rw [zs_len]; omega)
  rw [zs_len] at hv
  subst hv
  refine ⟨g, C, rfl, fun i hi => ?_⟩
  have h' : w.ownsRow B 3 1 (.slice (some ⟨g, 0, none⟩) l.length C) l.length ((zs l).map iV) := by
    have := h
    unfold OwnI at this
    rw [zs_len] at this
    exact this
  rw [h'.cellAt i (by omega)]
  unfold zs
  rw [List.getElem?_map, List.getElem?_map, List.getElem?_eq_getElem hi, List.getD_eq_getElem?_getD, List.getElem?_eq_getElem hi]
  rfl
set_option maxRecDepth 100000 in
set_option maxHeartbeats 4000000 in
theorem ltake_any (B g : Nat) (v : Value) (l : List Nat) (w : World) (h : LnM B g v l w) (h0 : 0 < l.length) (hl : l.length ≤ 100000000) :
    Calls Tryz.prog 16 #[.pointer (some ⟨g, 0, none⟩)] w fun e w' => e = .returned (.int .i64 (l.getD (fstP l) 0 : Int)) ∧ LnE B g v (l.eraseIdx (fstP l)) w w' := by
  obtain ⟨b, C, rfl, hcell⟩ := own_cell h.own h0
  have c0 := lies_cell h.box 0
  have c1 := lies_cell h.box 1
  have f0 := lies_free h.box 0
  simp only [List.getElem?_toArray, List.getElem?_cons_zero, List.getElem?_cons_succ] at c0 c1
  have HH := Lib.hid h
  have HC := Lib.hid hcell
  obtain ⟨n, hn⟩ : ∃ n, n = l.length := ⟨_, rfl⟩
  have HN := Lib.hid hn
  rw [← hn] at c0 h0 hl
  have HF := Lib.hid (fun k (hk : k ≤ n) => show fstK l k < n from by rw [hn]; exact fstK_lt l (by omega) k (by omega))
  clear h hcell hn
  go_enter Tryz.func16, Tryz.ntmps16
  go_upto_region 3 with (fail)
  go_loopw [12, 3] (fun v12 v3 wr => ∃ (i q : Nat), i ≤ n ∧ v12 = .int .i64 (i : Int) ∧ v3 = .int .i64 (fstK l i : Int) ∧ wr = w.drewN q) (fun v12 _ _ => n - (intOf v12).toNat)
  case atStart => exact ⟨0, 0, Nat.zero_le _, rfl, rfl, rfl⟩
  case round =>
    obtain ⟨i, q, hi, rfl, rfl, rfl⟩ := hrel
    by_cases hlt : i < n
    · have li : (i : Int) < (n : Int) := by omega
      have ci : (w.drewN q).cell? ⟨b, i, none⟩ = some (.int .i64 (l.getD i 0 : Int)) := HC.out i (by rw [← HN.out]; exact hlt)
      have hf := HF.out i hi
      have cf : (w.drewN q).cell? ⟨b, fstK l i, none⟩ = some (.int .i64 (l.getD (fstK l i) 0 : Int)) := HC.out _ (by rw [← HN.out]; exact hf)
      have d0 : (w.drewN q).cell? ⟨g, 0, none⟩ = some (.slice (some ⟨b, 0, none⟩) n C) := c0
      have d1 : (w.drewN q).cell? ⟨g, 1, none⟩ = some (.func (.func 14) #[] #[]) := c1
      have hs : fstK l (i + 1) = if l.getD i 0 < l.getD (fstK l i) 0 then i else fstK l i := rfl
      have HS := Lib.hid hs
      obtain ⟨x, hx⟩ : ∃ x, x = l.getD i 0 := ⟨_, rfl⟩
      obtain ⟨f, hff⟩ : ∃ f, f = fstK l i := ⟨_, rfl⟩
      rw [← hff] at cf hf HS ⊢
      obtain ⟨y, hy⟩ : ∃ y, y = l.getD f 0 := ⟨_, rfl⟩
      rw [← hx] at ci HS
      rw [← hy] at cf HS
      have fn : (f : Int) < (n : Int) := by omega
      clear hs hx hy hff
      obtain ⟨X, hX⟩ : ∃ X, X = w.drewN q := ⟨_, rfl⟩
      rw [← hX] at ci cf d0 d1 ⊢
      have HX := Lib.hid hX
      clear hX c0 c1 f0
      have KL := Lib.hid (fun W => cless_any (x : Int) (y : Int) W)
      by_cases hxy : x < y
      · have e1 : decide ((x : Int) < (y : Int)) = true := decide_eq_true (by omega)
        have e2 : decide (x < y) = true := decide_eq_true hxy
        rw [if_pos hxy] at HS
        go_upto_region 5 with (fail)
        go_quiet ((go_at_call 14; exact Calls.quiet_of_same (KL.out _)))
        go_wp2
        go_roundw
        case rel => exact ⟨i + 1, q + nq, by omega, by go_num, by first | (rw [HS.out]; done) | (rw [HS.out]), by rw [HX.out, World.drewN_drewN]⟩
        case measure => first | (simp [intOf]; done) | (simp [intOf]; omega)
      · have e1 : decide ((x : Int) < (y : Int)) = false := decide_eq_false (by omega)
        have e2 : decide (x < y) = false := decide_eq_false hxy
        rw [if_neg hxy] at HS
        go_upto_region 5 with (fail)
        go_quiet ((go_at_call 14; exact Calls.quiet_of_same (KL.out _)))
        go_wp2
        go_roundw
        case rel => exact ⟨i + 1, q + nq, by omega, by go_num, by first | (rw [HS.out]; done) | (rw [HS.out]), by rw [HX.out, World.drewN_drewN]⟩
        case measure => first | (simp [intOf]; done) | (simp [intOf]; omega)
    · obtain rfl : i = n := by omega
      have li : ¬ (i : Int) < (i : Int) := by omega
      have hf := HF.out i hi
      have cf : (w.drewN q).cell? ⟨b, fstK l i, none⟩ = some (.int .i64 (l.getD (fstK l i) 0 : Int)) := HC.out _ (by rw [← HN.out]; exact hf)
      have d0 : (w.drewN q).cell? ⟨g, 0, none⟩ = some (.slice (some ⟨b, 0, none⟩) i C) := c0
      have g0 : (w.drewN q).frozen? ⟨g, 0, none⟩ = false := f0
      have hfp : fstK l i = fstP l := by unfold fstP; rw [HN.out]
      have HFP := Lib.hid hfp
      obtain ⟨f, hff⟩ : ∃ f, f = fstK l i := ⟨_, rfl⟩
      rw [← hff] at cf hf HFP ⊢
      obtain ⟨y, hy⟩ : ∃ y, y = l.getD f 0 := ⟨_, rfl⟩
      rw [← hy] at cf
      have HY := Lib.hid hy
      have fn : (f : Int) < (i : Int) := by omega
      have KD := Lib.hid (show Calls Tryz.prog 41 #[.slice (some ⟨b, 0, none⟩) i C, .int .i64 (f : Int), .int .i64 ((f : Int) + 1)] (w.drewN q) (fun e w' => e = .returned (.slice (some ⟨b, 0, none⟩) (i - 1) C) ∧ OwnI w' B (.slice (some ⟨b, 0, none⟩) (i - 1) C) ((zs l).eraseIdx f) ∧ But (fun k => k = b) (w.drewN q) w') by
        have := delete_own B b C (zs l) f (w.drewN q) (by
          have h1 := HH.out.own
          rw [zs_len]
          exact own_but h1 ((But.refl (fun _ => False) w).drewN q) (fun _ _ => id)) (by rw [zs_len, ← HN.out]; exact hf)
        rw [zs_len, ← HN.out] at this
        exact this)
      clear hfp hff hy
      go_wp2_with (go_at_call 41; (with_reducible refine KD.out.mono ?_); rintro e w1 ⟨rfl, hO, hb⟩; have hgb : g ≠ b := (fun e => own_ne HH.out.own HH.out.box (by decide) (by rw [e]; rfl)); have L1 := hb.lies (lies_drewN HH.out.box q) hgb; have cz := lies_cell L1 0; have fz := lies_free L1 0; simp only [List.getElem?_toArray, List.getElem?_cons_zero] at cz; have HL1 := Lib.hid L1; have HO := Lib.hid hO; have HB := Lib.hid hb; have HGB := Lib.hid hgb; clear hO hb hgb L1)
      go_ret
      refine ⟨by rw [← HFP.out, ← HY.out]; rfl, .slice (some ⟨b, 0, none⟩) (i - 1) C, ⟨?_, ?_⟩, ?_, .inl rfl⟩
      · have hl := lies_set HL1.out 0 (.slice (some ⟨b, 0, none⟩) (i - 1) C)
        simpa using hl
      · rw [← HFP.out, ← zs_erase]
        exact own_but HO.out ((But.refl (· = g) w1).setCell (p := ⟨g, 0, none⟩) (fun _ => rfl) _) (fun k hk e => by injection hk with hk; have hk' : b = k := hk; exact HGB.out (e.symm.trans hk'.symm))
      · have h1 : But (fun k => k = g ∨ some k = (Value.slice (some ⟨b, 0, none⟩) i C).ownBlock) w w1 := (((But.refl _ w).drewN q).trans (HB.out.mono (fun k _ hk => .inr (by rw [hk]; rfl))))
        have h2 := h1.setCell (p := ⟨g, 0, none⟩) (fun _ => .inl rfl) (.slice (some ⟨b, 0, none⟩) (i - 1) C)
        rw [← HN.out]
        exact h2
end Go.Proofs.YtnbjfmkckebfgaaGreat
