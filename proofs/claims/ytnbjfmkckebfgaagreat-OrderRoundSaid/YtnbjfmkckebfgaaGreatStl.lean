/-
What is proved here: Round's closure, which tells a component of one number that doesn't need itself, by a contract.
-/
import Derived.Test.YtnbjfmkckebfgaaGreatChk
import Derived.Test.YtnbjfmkckebfgaaGreatDow
import Derived.BigQuiet
import Derived.Deep.QuietTactic
set_option linter.unusedSimpArgs false
set_option linter.unusedVariables false
namespace Go.Proofs.YtnbjfmkckebfgaaGreat
open Go.Cmp Go.RowKit
theorem has_at (l : List Int) (x : Int) (i : Nat) (hi : i < l.length) (h : x = l[i]) : l.contains x = true := by
  rw [List.contains_iff_mem]; rw [h]; exact List.getElem_mem hi
theorem has_not (l : List Int) (x : Int) (h : ∀ j (hj : j < l.length), x ≠ l[j]) : l.contains x = false := by
  rw [Bool.eq_false_iff]
  intro hc
  obtain ⟨j, hj, e⟩ := List.getElem_of_mem (List.contains_iff_mem.1 hc)
  exact h j hj e.symm
set_option maxRecDepth 100000 in
set_option maxHeartbeats 2000000 in
theorem index_any (A : Option Addr) (c : Nat) (l : List Int) (x : Int) (w : World) (hL : IntsAt w A l) (hn : l.length ≤ 1000000000) :
    Calls Tryz.prog 60 #[.slice A l.length c, .int .i64 x] w fun e w' => (∃ z, e = .returned (.int .i64 z) ∧ Fst (l.contains x) z) ∧ w' = w := by
  have HL := Lib.hid hL
  obtain ⟨n, hnn⟩ : ∃ n, n = l.length := ⟨_, rfl⟩
  have HN := Lib.hid hnn
  obtain ⟨rr, hrr⟩ : ∃ rr, rr = l.contains x := ⟨_, rfl⟩
  have HRR := Lib.hid hrr
  rw [← hnn] at hn ⊢
  rw [← hrr]
  clear hL hnn hrr
  go_enter Tryz.func60, Tryz.ntmps60
  go_wp2
  go_loopw [5, 8] (fun _ v8 wr => ∃ i : Nat, i ≤ n ∧ v8 = .int .i64 (i : Int) ∧ wr = w ∧ Hid (∀ j (hj : j < l.length), j < i → x ≠ l[j])) (fun _ v8 _ => n - (intOf v8).toNat)
  case atStart => exact ⟨0, Nat.zero_le _, rfl, rfl, fun j _ hj => absurd hj (Nat.not_lt_zero _)⟩
  case round =>
    obtain ⟨i, hi, rfl, rfl, hA⟩ := hrel
    by_cases hlt : i < n
    · have li : (i : Int) < (n : Int) := by omega
      have hiN : i < l.length := by rw [← HN.out]; exact hlt
      obtain ⟨b, o, eA, hbw, cc⟩ := HL.out i hiN
      subst eA
      obtain ⟨z, hz⟩ : ∃ z, z = l[i] := ⟨_, rfl⟩
      rw [← hz] at cc
      have HZ := Lib.hid hz
      clear hz
      unfold iV at cc
      by_cases hp : x = z
      · have hb : (x == z) = true := by simp [hp]
        have HP := Lib.hid hp
        clear hp
        go_wp2
        go_ret
        exact ⟨⟨_, rfl, .inr ⟨HRR.out.trans (has_at _ _ i hiN (by rw [← HZ.out]; exact HP.out)), i, rfl⟩⟩, rfl⟩
      · have hb : (x == z) = false := by simp [hp]
        have HP := Lib.hid hp
        clear hp
        go_wp2
        go_roundw
        case rel =>
          refine ⟨i + 1, by omega, by go_num, (by first | rfl | trivial), fun j hj hji => ?_⟩
          rcases Nat.lt_or_ge j i with h | h
          · exact hA j hj h
          · obtain rfl : j = i := by omega
            rw [← HZ.out]; exact HP.out
        case measure => first | (simp [intOf]; done) | (simp [intOf]; omega)
    · obtain rfl : i = n := by omega
      have li : ¬ (i : Int) < (i : Int) := by omega
      go_wp2
      go_ret
      exact ⟨⟨_, rfl, .inl ⟨HRR.out.trans (has_not _ _ (fun j hj => hA j hj (by rw [HN.out]; exact hj))), rfl⟩⟩, rfl⟩
set_option maxRecDepth 100000 in
theorem has_any (A : Option Addr) (c : Nat) (l : List Int) (x : Int) (w : World) (hL : IntsAt w A l) (hn : l.length ≤ 1000000000) :
    Calls Tryz.prog 37 #[.slice A l.length c, .int .i64 x] w fun e w' => e = .returned (.bool (l.contains x)) ∧ w' = w := by
  have K := Lib.hid (index_any A c l x w hL hn)
  obtain ⟨b, hb⟩ : ∃ b, b = l.contains x := ⟨_, rfl⟩
  rw [← hb] at K ⊢
  clear hL hb
  generalize l.length = n at *
  go_enter Tryz.func37, Tryz.ntmps37
  go_upto_region 1 with (fail)
  have K1 := K.out
  rcases Bool.eq_false_or_eq_true b with hb | hb
  · subst hb
    go_wp2_with (go_at_call 60; (with_reducible refine K1.mono ?_); rintro e w1 ⟨⟨z, rfl, hz⟩, rfl⟩; obtain ⟨k, rfl⟩ := fst_true hz; have k0 : (0 : Int) ≤ (k : Int) := by omega)
    go_ret
    exact ⟨by simp, rfl⟩
  · subst hb
    go_wp2_with (go_at_call 60; (with_reducible refine K1.mono ?_); rintro e w1 ⟨⟨z, rfl, hz⟩, rfl⟩; obtain rfl := fst_false hz)
    go_ret
    exact ⟨by simp, rfl⟩
/-- a component that does not go round -/
def stillP (G : Gr) (r : List Nat) : Bool := decide (r.length = 1) && !(zs (nx G (r.headD 0))).contains (r.headD 0 : Int)
set_option maxRecDepth 100000 in
set_option maxHeartbeats 2000000 in
theorem still_any (LA : Option Addr) (lc : Nat) (G : Gr) (hg : ∀ l ∈ G, l.length ≤ 1024) (BB : Nat) (A : Option Addr) (c : Nat) (r : List Nat) (hr : ∀ v ∈ r, v < G.length) (w : World) (hB : Lies w BB 24 #[.slice LA G.length lc]) (hL : LsAt w LA (zg G)) (hI : IntsAt w A (zs r)) :
    Calls Tryz.prog 36 #[.slice A r.length c, .pointer (some ⟨BB, 0, none⟩)] w fun e w' => e = .returned (.bool (stillP G r)) ∧ ∃ q, w' = w.drewN q := by
  have cb := lies_cell hB 0
  simp only [List.getElem?_toArray, List.getElem?_cons_zero] at cb
  unfold stillP
  by_cases h1 : r.length = 1
  · obtain ⟨x, rfl⟩ : ∃ x, r = [x] := by
      match r, h1 with
      | [x], _ => exact ⟨x, rfl⟩
    have hx := hr x (by simp)
    obtain ⟨b, o, eA, _, cx⟩ := hI 0 (by simp [zs])
    obtain ⟨bL, oL, AL, cL, eL, hbl, cl, hRst⟩ := ls_at hL hx
    subst eA eL
    simp only [zs, List.map_cons, List.map_nil, List.getElem_cons_zero, Nat.add_zero] at cx
    unfold iV at cx
    have hnx : (nx G x).length ≤ 1024 := by
      unfold nx
      rw [List.getD_eq_getElem?_getD, List.getElem?_eq_getElem hx]
      exact hg _ (List.getElem_mem hx)
    have KH := Lib.hid (fun (q : Nat) => has_any AL cL (zs (nx G x)) (x : Int) (w.drewN q) (intsAt_below hRst.1 (below_drewN (Below.refl _ w) q)) (by simp [zs]; omega))
    rw [zs_len] at KH
    have xi : (x : Int) < (G.length : Int) := by omega
    obtain ⟨n, hn⟩ : ∃ n, n = G.length := ⟨_, rfl⟩
    obtain ⟨m, hm⟩ : ∃ m, m = (nx G x).length := ⟨_, rfl⟩
    obtain ⟨hc, hhc⟩ : ∃ hc, hc = (zs (nx G x)).contains (x : Int) := ⟨_, rfl⟩
    rw [← hn] at cb xi
    rw [← hm] at KH cl hnx
    rw [← hhc] at KH
    have HC := Lib.hid hhc
    clear hB hL hI hr hRst hn hm hhc hx hg
    go_enter Tryz.func36, Tryz.ntmps36
    go_upto_region 1 with (fail)
    go_quiet ((go_at_call 37; exact Calls.quiet_of_same (KH.out _)))
    go_wp2
    go_ret
    exact ⟨by rw [HC.out]; simp, _, rfl⟩
  · have h2 : ((r.length : Int) == 1) = false := by simp; omega
    obtain ⟨n, hn⟩ : ∃ n, n = r.length := ⟨_, rfl⟩
    rw [← hn] at h1 h2 ⊢
    clear hB hL hI hr hn hg
    go_enter Tryz.func36, Tryz.ntmps36
    go_upto_region 1 with (fail)
    go_quiet (fail)
    go_wp2
    go_ret
    exact ⟨by simp [h1], _, rfl⟩
end Go.Proofs.YtnbjfmkckebfgaaGreat
