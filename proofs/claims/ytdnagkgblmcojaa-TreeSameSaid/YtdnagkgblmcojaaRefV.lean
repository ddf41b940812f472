/-
What is proved here: the document's own Valid, Names, Parent, Base and Kept, by contracts.
-/
import Derived.Test.YtdnagkgblmcojaaRefS
import Derived.Test.YtdnagkgblmcojaaKep
set_option linter.unusedSimpArgs false
namespace Go.Proofs.Ytdnagkgblmcojaa
open Go.Pth Go.RowKit Go.Word
theorem eql_ts (t : TypeId) (a : Bt) : binOp .eql t (St a) (.string { data := #[46, 116, 115] }) = pure (.bool (same a [46, 116, 115])) := st_eql t a [46, 116, 115]
attribute [local go_sem] guard_eq eql_dot eql_dots len_st eql_ts

/-- a list of texts lies at A, from block b on -/
def Tx (w : World) (b : Nat) (A : Option Addr) (ns : List Bt) : Prop := ∀ j, j < ns.length → ∃ g, A = some ⟨g, 0, none⟩ ∧ b ≤ g ∧ w.cell? ⟨g, j, none⟩ = some (St (ns.getD j []))
theorem tx_nil (w : World) (b : Nat) (A : Option Addr) : Tx w b A [] := fun j hj => by simp at hj
theorem tx_below {w w' : World} {b : Nat} {A : Option Addr} {ns : List Bt} (h : Tx w b A ns) (hb : Below w.heap.size w w') : Tx w' b A ns := fun j hj => by
  obtain ⟨g, e, hg, hc⟩ := h j hj
  refine ⟨g, e, hg, ?_⟩
  rw [hb.cell (p := ⟨g, j, none⟩) (block_lt_of_cell hc)]
  exact hc
theorem tx_mono {w : World} {b b' : Nat} {A : Option Addr} {ns : List Bt} (h : Tx w b A ns) (hb : b' ≤ b) : Tx w b' A ns := fun j hj => by
  obtain ⟨g, e, hg, hc⟩ := h j hj
  exact ⟨g, e, Nat.le_trans hb hg, hc⟩
theorem tx_own {w : World} {base : Nat} {v : Value} {ns : List Bt} (h : w.ownsRow base 9 1 v ns.length (ns.map St)) : ∃ A C, v = .slice A ns.length C ∧ Tx w base A ns := by
  rcases h.2 with ⟨e1, e2⟩ | ⟨g, cap, cur, e1, hbg, _⟩
  · refine ⟨none, 0, by rw [e2]; exact e1, fun j hj => by omega⟩
  · subst e1
    refine ⟨_, _, rfl, fun j hj => ⟨g, rfl, hbg, ?_⟩⟩
    rw [World.ownsRow.cellAt h j (by omega)]
    simp [List.getD_eq_getElem?_getD, hj]

theorem parts_sum (l : Bt) : l.length + 1 = ((parts l).map fun p => p.length + 1).sum := by
  induction l with
  | nil => simp [parts, cutAt]
  | cons c r ih =>
    by_cases h47 : c = 47
    · subst h47
      have e : parts (47 :: r) = [] :: parts r := by simp [parts, cutAt]
      rw [e, List.map_cons, List.sum_cons, ← ih]
      simp; omega
    · have e : parts (c :: r) = (c :: (cutAt r).1) :: (cutAt r).2 := by simp [parts, cutAt, h47]
      have e2 : parts r = (cutAt r).1 :: (cutAt r).2 := rfl
      rw [e2, List.map_cons, List.sum_cons] at ih
      rw [e, List.map_cons, List.sum_cons, List.length_cons, List.length_cons]
      omega
theorem sum_most (L : List Nat) (k : Nat) (h : ∀ x ∈ L, x ≤ k) : L.sum ≤ k * L.length := by
  induction L with
  | nil => simp
  | cons x r ih =>
    rw [List.sum_cons, List.length_cons, Nat.mul_succ]
    have := ih (fun y hy => h y (by simp [hy]))
    have := h x (by simp)
    omega
theorem path_len (l : Bt) (h : isPath l = true) : l.length ≤ 100 := by
  unfold isPath at h
  rw [Bool.and_eq_true, decide_eq_true_eq] at h
  have h1 := parts_sum l
  have h2 := sum_most ((parts l).map fun p => p.length + 1) 15 (fun x hx => by
    obtain ⟨p, hp, rfl⟩ := List.mem_map.1 hx
    have := List.all_eq_true.1 h.2 p hp
    unfold isName at this
    rw [Bool.and_eq_true, Bool.and_eq_true, decide_eq_true_eq] at this
    omega)
  rw [List.length_map] at h2
  omega

theorem split_tx (l : Bt) (w : World) (hl : l.length ≤ 100000) : Calls Try.prog 32 #[St l] w fun e w' => ∃ A C, e = .returned (.slice A (parts l).length C) ∧ Tx w' w.heap.size A (parts l) ∧ Below w.heap.size w w' :=
  (split_ref l w hl).mono fun e w' ⟨v, he, ho, hb⟩ => by
    obtain ⟨A, C, rfl, ht⟩ := tx_own ho
    exact ⟨A, C, he, ht, hb⟩

set_option maxRecDepth 100000 in
set_option maxHeartbeats 4000000 in
theorem valid_ref (l : Bt) (w : World) (hl : l.length ≤ 100000) : Calls Try.prog 14 #[St l] w fun e w' => e = .returned (.bool (isPath l)) ∧ Below w.heap.size w w' := by
  by_cases h1 : 100 < l.length
  · have hn : isPath l = false := by
      cases h : isPath l with
      | false => rfl
      | true => have := path_len l h; omega
    rw [hn]
    have h1' : 100 < (l.length : Int) := by omega
    clear hn h1 hl
    go_enter Try.func14, Try.ntmps14
    go_wp2
    go_ret
    exact ⟨rfl, Below.refl _ _⟩
  have h1' : ¬ 100 < (l.length : Int) := by omega
  have S := Lib.hid (split_tx l w hl)
  have hlen : ∀ p ∈ parts l, p.length ≤ 100000 := fun p hp => by have := cut_len l p hp; omega
  by_cases h6 : 6 < (parts l).length
  · have hn : isPath l = false := by
      unfold isPath
      rw [decide_eq_false (by omega)]
      rfl
    rw [hn]
    have h6' : 6 < ((parts l).length : Int) := by omega
    generalize parts l = ns at *
    clear hn h1 hl h6 hlen
    go_enter Try.func14, Try.ntmps14
    go_wp2_with (go_at_call 32; (with_reducible refine S.out.mono ?_); rintro e w1 ⟨A, C, rfl, ht, hb⟩; have H1 := Lib.hid hb; clear hb ht)
    go_ret
    exact ⟨rfl, H1.out⟩
  have h6' : ¬ 6 < ((parts l).length : Int) := by omega
  have hi : isPath l = (parts l).all isName := by
    unfold isPath
    rw [decide_eq_true (by omega)]
    rfl
  rw [hi]
  generalize parts l = ns at *
  clear hi h1 hl
  go_enter Try.func14, Try.ntmps14
  go_wp2_with (go_at_call 32; (with_reducible refine S.out.mono ?_); rintro e w1 ⟨A, C, rfl, ht, hb⟩; have H1 := Lib.hid hb; have HT := Lib.hid ht; clear hb ht)
  go_loopw [4] (fun x wr => ∃ i : Nat, i ≤ ns.length ∧ x = .int .i64 i ∧ w1 = wr ∧ (ns.take i).all isName = true) (fun x _ => ns.length - (intOf x).toNat)
  case atStart => exact ⟨0, by omega, rfl, by trivial, rfl⟩
  case round =>
    obtain ⟨i, hil, rfl, rfl, hall⟩ := hrel
    by_cases hlt : i < ns.length
    · obtain ⟨g, rfl, _, hc⟩ := HT.out i hlt
      have e0 : ns.getD i [] = ns[i] := by simp [List.getD_eq_getElem?_getD, hlt]
      rw [e0] at hc
      have li : (i : Int) < (ns.length : Int) := by omega
      have N := Lib.hid (name_any ns[i] w1 (hlen _ (List.getElem_mem hlt)))
      have hnx : (ns.take (i + 1)).all isName = ((ns.take i).all isName && isName ns[i]) := by
        rw [List.take_succ_eq_append_getElem hlt, List.all_append]; simp
      have hbad : isName ns[i] = false → ns.all isName = false := fun h => by
        rw [List.all_eq_false]
        exact ⟨ns[i], List.getElem_mem hlt, by rw [h]; decide⟩
      have q2 : i + 1 ≤ ns.length := hlt
      generalize ns[i] = c at *
      cases hx : isName c with
      | false =>
        have HB := Lib.hid (hbad hx)
        rw [hx] at N
        clear hnx hbad hall hx e0 hlen
        go_wp2_with (go_at_call 33; (with_reducible refine N.out.mono ?_); rintro e w2 ⟨rfl, rfl⟩)
        go_ret
        exact ⟨by rw [HB.out]; rfl, H1.out⟩
      | true =>
        rw [hall, hx] at hnx
        have HX := Lib.hid hnx
        rw [hx] at N
        clear hnx hbad hall hx e0 hlen
        go_wp2_with (go_at_call 33; (with_reducible refine N.out.mono ?_); rintro e w2 ⟨rfl, rfl⟩)
        go_roundw
        case rel => exact ⟨i + 1, q2, by go_num, by trivial, HX.out⟩
        case measure => first | (simp [intOf]; done) | (simp [intOf]; omega)
    · have li : ¬ (i : Int) < (ns.length : Int) := by omega
      have HE := Lib.hid (show ns.all isName = true by rw [List.take_of_length_le (by omega)] at hall; exact hall)
      clear hall hlen
      go_wp2
      go_ret
      exact ⟨by rw [HE.out]; rfl, H1.out⟩

theorem names_ref (l : Bt) (w : World) (hl : l.length ≤ 100000) : Calls Try.prog 53 #[St l] w fun e w' => ∃ A C, e = .returned (.slice A (namesP l).length C) ∧ Tx w' w.heap.size A (namesP l) ∧ Below w.heap.size w w' := by
  have V := Lib.hid (valid_ref l w hl)
  cases hp : isPath l with
  | false =>
    have hn : namesP l = [] := by simp [namesP, hp]
    rw [hp] at V
    rw [hn]
    clear hn hp hl
    go_enter Try.func53, Try.ntmps53
    go_wp2_with (go_at_call 14; (with_reducible refine V.out.mono ?_); rintro e w1 ⟨rfl, hb⟩; have H1 := Lib.hid hb; clear hb)
    go_ret
    exact ⟨none, 0, rfl, tx_nil _ _ _, H1.out⟩
  | true =>
    have hn : namesP l = parts l := by simp [namesP, hp]
    rw [hp] at V
    rw [hn]
    have S := fun w => Lib.hid (split_tx l w hl)
    generalize parts l = ns at *
    clear hn hp hl
    go_enter Try.func53, Try.ntmps53
    go_wp2_with (first
      | (go_at_call 14; (with_reducible refine V.out.mono ?_); rintro e w1 ⟨rfl, hb⟩; have H1 := Lib.hid hb; clear hb)
      | (go_at_call 32; (with_reducible refine (S _).out.mono ?_); rintro e w2 ⟨A, C, rfl, ht, hb⟩; have H2 := Lib.hid (H1.out.trans (hb.mono H1.out.size)); have HT := Lib.hid (tx_mono ht H1.out.size); clear hb ht))
    go_ret
    exact ⟨A, C, rfl, HT.out, H2.out⟩
end Go.Proofs.Ytdnagkgblmcojaa
