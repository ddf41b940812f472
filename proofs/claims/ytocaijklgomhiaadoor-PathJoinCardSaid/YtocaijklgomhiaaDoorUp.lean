/-
What is proved here: the law PathUp's walk.
-/
import Derived.Test.YtocaijklgomhiaaDoorUnd
import Derived.Test.YtocaijklgomhiaaDoorParts
import Derived.Deep.RegionHeld3
set_option linter.unusedSimpArgs false
namespace Go.Proofs.YtocaijklgomhiaaDoor
open Go.Pth Go.RowKit Go.Word
attribute [local go_sem] guard_eq guard_ne st_eql st_neq len_st eql_empty

/-- names put together -/
def joinN : List Bt → Bt
  | [] => []
  | a :: r => match r with
    | [] => a
    | _ :: _ => a ++ 47 :: joinN r
theorem join_app (x y : List Bt) (hx : x ≠ []) (hy : y ≠ []) : joinN (x ++ y) = joinN x ++ 47 :: joinN y := by
  induction x with
  | nil => exact absurd rfl hx
  | cons a r ih =>
    cases r with
    | nil =>
      cases y with
      | nil => exact absurd rfl hy
      | cons b s => rfl
    | cons b s =>
      have := ih (by simp)
      show a ++ 47 :: joinN ((b :: s) ++ y) = (a ++ 47 :: joinN (b :: s)) ++ 47 :: joinN y
      rw [this]
      simp
theorem join_cut (l : Bt) : joinN ((cutAt l).1 :: (cutAt l).2) = l := by
  induction l with
  | nil => rfl
  | cons c r ih =>
    by_cases h : c = 47
    · subst h
      simp only [cutAt, if_true]
      show [] ++ 47 :: joinN ((cutAt r).1 :: (cutAt r).2) = _
      rw [ih]
      rfl
    · simp only [cutAt, h, if_false]
      cases hr : (cutAt r).2 with
      | nil =>
        rw [hr] at ih
        show c :: (cutAt r).1 = c :: r
        have : (cutAt r).1 = r := ih
        rw [this]
      | cons b s =>
        rw [hr] at ih
        show (c :: (cutAt r).1) ++ 47 :: joinN (b :: s) = c :: r
        have : (cutAt r).1 ++ 47 :: joinN (b :: s) = r := ih
        rw [List.cons_append, this]
theorem join_parts (l : Bt) : joinN (parts l) = l := join_cut l
theorem take_ne (ns : List Bt) (i : Nat) (h1 : 1 ≤ i) (hi : i < ns.length) : ns.take i ≠ [] := by
  intro e
  have := congrArg List.length e
  rw [List.length_take_of_le (by omega)] at this
  simp at this
  omega
theorem drop_ne (ns : List Bt) (i : Nat) (hi : i < ns.length) : ns.drop i ≠ [] := by
  intro e
  have := congrArg List.length e
  rw [List.length_drop] at this
  simp at this
  omega
/-- the first so many names of a path are it, or a path above it -/
theorem pre_cases (l : Bt) (i : Nat) (h1 : 1 ≤ i) (hi : i < (parts l).length) : ∃ y, l = joinN ((parts l).take i) ++ 47 :: y := by
  refine ⟨joinN ((parts l).drop i), ?_⟩
  rw [← join_app _ _ (take_ne _ _ h1 hi) (drop_ne _ _ hi), List.take_append_drop, join_parts]
theorem pre_next (ns : List Bt) (i : Nat) (h1 : 1 ≤ i) (hi : i < ns.length) : joinN (ns.take (i + 1)) = joinN (ns.take i) ++ 47 :: ns[i] := by
  rw [List.take_succ_eq_append_getElem hi, join_app _ _ (take_ne _ _ h1 hi) (by simp)]
  rfl
theorem under_pre (p y : Bt) (h : isPath (p ++ 47 :: y) = true) : underP p (p ++ 47 :: y) = true := by
  unfold underP
  have hp := path_pre p y h
  have h1 : (p ++ 47 :: y).take p.length = p := by simp
  have h2 : (p ++ 47 :: y)[p.length]? = some 47 := by simp
  have h3 : p.length < (p ++ 47 :: y).length := by simp
  rw [h, hp, decide_eq_true h1, decide_eq_true h2, decide_eq_true h3]
  simp
theorem path_some (l : Bt) (h : isPath l = true) : l ≠ [] := by
  rintro rfl
  revert h
  decide
theorem under_self (l : Bt) (h : isPath l = true) : underP l l = false := by
  unfold underP
  have h1 : ¬ l.length < l.length := by omega
  rw [h, decide_eq_false (path_some l h), decide_eq_false h1]
  simp
theorem under_root (l : Bt) (h : isPath l = true) : underP [] l = true := by
  unfold underP
  rw [h]
  rfl

theorem last_name (l : Bt) (m : Nat) (hm : (parts l).length = m + 1) : (parts l).getD m [] = base l := by
  rcases up_base l with ⟨_, e2, e3⟩ | ⟨x, y, _, _, e3, e4, _⟩
  · rw [e3] at hm ⊢
    simp at hm
    subst hm
    rw [e2]; rfl
  · rw [e4] at hm ⊢
    rw [List.length_append] at hm
    simp at hm
    rw [e3]
    simp [List.getD_eq_getElem?_getD, hm]
theorem add_st2 (x y : Bt) (b : ByteArray) (hb : b = ⟨y.toArray⟩) (hx : x.length ≤ 100000) (hy : y.length ≤ 100000) (w : World) : (binOp .add 9 (St x) (.string b)).run Tryd.prog w = .ok (St (x ++ y)) w := by
  subst hb
  have h := run_string_add_lists (P := Tryd.prog) (w := w) x y (by omega) (by omega)
  unfold St
  rw [binOp_string_add]
  exact h
theorem add_ss2 (x y : Bt) (hx : x.length ≤ 100000) (hy : y.length ≤ 100000) (w : World) : (binOp .add 9 (St x) (St y)).run Tryd.prog w = .ok (St (x ++ y)) w := add_st2 x y _ rfl hx hy w
/-- the first so many names of a path, put together -/
def preN (l : Bt) (i : Nat) : Bt := joinN ((parts l).take i)
/-- what the loop puts together is a path; all but the last are above it -/
theorem pre_path (l : Bt) (hp : isPath l = true) (i : Nat) (h1 : 1 ≤ i) (hi : i ≤ (parts l).length) : isPath (preN l i) = true ∧ (preN l i).length ≤ l.length ∧ (i < (parts l).length → underP (preN l i) l = true) := by
  unfold preN
  by_cases hlt : i < (parts l).length
  · obtain ⟨y, hy⟩ := pre_cases l i h1 hlt
    generalize joinN ((parts l).take i) = q at *
    subst hy
    exact ⟨path_pre q y hp, by simp, fun _ => under_pre q y hp⟩
  · have e : (parts l).take i = parts l := List.take_of_length_le (by omega)
    rw [e, join_parts]
    exact ⟨hp, Nat.le_refl _, fun h => absurd h hlt⟩
theorem pre_len (l : Bt) (hp : isPath l = true) (i : Nat) (hi : i ≤ (parts l).length) : (preN l i).length ≤ l.length := by
  by_cases h : 1 ≤ i
  · exact (pre_path l hp i h hi).2.1
  · obtain rfl : i = 0 := by omega
    simp [preN, joinN]
theorem pre_first (l : Bt) (i : Nat) (h : i = 0) (hi : i < (parts l).length) : preN l (i + 1) = preN l i ++ (parts l)[i] := by
  subst h
  unfold preN
  rw [List.take_succ_eq_append_getElem hi]
  rfl
theorem pre_all (l : Bt) (i : Nat) (hi : (parts l).length ≤ i) : preN l i = l := by
  unfold preN
  rw [List.take_of_length_le hi, join_parts]

theorem held_up {W w' : World} {g m : Nat} {v : Value} (hc : W.cell? ⟨g, m, none⟩ = some v) (hb : Below W.heap.size W w') : Below W.heap.size W w' ∧ w'.cell? ⟨g, m, none⟩ = some v :=
  ⟨hb, (hb.cell (p := ⟨g, m, none⟩) (block_lt_of_cell hc)).trans hc⟩
set_option maxRecDepth 100000 in
set_option maxHeartbeats 4000000 in
theorem up_any (l : Bt) (w : World) : Calls Tryd.prog 6 #[St l] w fun e w' => e = .returned (.bool true) ∧ Below w.heap.size w w' := by
  by_cases h2 : 2000 < l.length
  · have h2' : 2000 < (l.length : Int) := by omega
    go_enter Tryd.func6, Tryd.ntmps6
    go_wp2_with (go_at_call 10; (with_reducible refine (alive_any _).mono ?_); rintro e w1 ⟨rfl, hb⟩; have H1 := Lib.hid hb; clear hb)
    go_ret
    exact ⟨rfl, H1.out⟩
  have h2' : ¬ 2000 < (l.length : Int) := by omega
  have hl : l.length ≤ 100000 := by omega
  have V := fun w => Lib.hid (valid_any l w hl)
  cases hp : isPath l with
  | false =>
    rw [hp] at V
    clear h2 hl hp
    go_enter Tryd.func6, Tryd.ntmps6
    go_wp2_with (first
      | (go_at_call 10; (with_reducible refine (alive_any _).mono ?_); rintro e w1 ⟨rfl, hb⟩; have H1 := Lib.hid hb; clear hb)
      | (go_at_call 13; (with_reducible refine (V _).out.mono ?_); rintro e w2 ⟨rfl, hb⟩; have H2 := Lib.hid (below_up H1.out hb); clear hb))
    go_ret
    exact ⟨rfl, H2.out⟩
  | true =>
    have hn : namesP l = parts l := by simp [namesP, hp]
    have hu : upP l = up l := by simp [upP, hp]
    have hb : baseP l = base l := by simp [baseP, hp]
    have L := fun w => Lib.hid (list_any l hl w)
    have P := fun w => Lib.hid (parent_any l w hl)
    have B := fun w => Lib.hid (base_any l w hl)
    have U1 := fun w => Lib.hid (under_any l l w hl)
    have U2 := fun w => Lib.hid (under_any [] l w hl)
    have hn6 := names_six l
    rw [hp] at V
    rw [hn] at L hn6
    rw [hu] at P
    rw [hb] at B
    rw [under_self l hp] at U1
    rw [under_root l hp] at U2
    have hpos := parts_pos l
    go_enter Tryd.func6, Tryd.ntmps6
    go_wp2_with (first
      | (go_at_call 10; (with_reducible refine (alive_any _).mono ?_); rintro e w1 ⟨rfl, hb⟩; have H1 := Lib.hid hb; clear hb)
      | (go_at_call 13; (with_reducible refine (V _).out.mono ?_); rintro e w2 ⟨rfl, hb⟩; have H2 := Lib.hid (below_up H1.out hb); clear hb)
      | (go_at_call 11; (with_reducible refine (L _).out.mono ?_); rintro e w3 ⟨A, C, rfl, ho, hb⟩; have H3 := Lib.hid (below_up H2.out hb); have T3 := Lib.hid (show Tx w3 w2.heap.size A (parts l) by obtain ⟨A0, C0, e0, t0⟩ := tx_own ho; injection e0 with e0 _ _; rw [e0]; exact t0); clear hb ho))
    go_loopw [5, 6] (fun x y wr => ∃ i : Nat, i ≤ (parts l).length ∧ y = .int .i64 i ∧ x = St (preN l i) ∧ Below w3.heap.size w3 wr) (fun _ y _ => (parts l).length - (intOf y).toNat)
    case atStart => exact ⟨0, by omega, rfl, rfl, Below.refl _ _⟩
    case round =>
      obtain ⟨i, hil, rfl, rfl, hbw⟩ := hrel
      have HBW := Lib.hid hbw
      by_cases hlt : i < (parts l).length
      · obtain ⟨g, rfl, _, hc⟩ := tx_below T3.out hbw i hlt
        have e0 : (parts l).getD i [] = (parts l)[i] := by simp [List.getD_eq_getElem?_getD, hlt]
        rw [e0] at hc
        have li : (i : Int) < ((parts l).length : Int) := by omega
        have q2 : i + 1 ≤ (parts l).length := hlt
        have wi : wrap64 ((i : Int) + 1) = ((i + 1 : Nat) : Int) := by rw [wrap_in _ (by omega) (by omega)]; omega
        obtain ⟨k1, k2, k3⟩ := pre_path l hp (i + 1) (by omega) q2
        have k0 := pre_len l hp i hil
        have W1 := fun w => Lib.hid (by have := valid_any (preN l (i + 1)) w (by omega); rw [k1] at this; exact this)
        have W2 := fun w (h : i + 1 < (parts l).length) => Lib.hid (by have := under_any (preN l (i + 1)) l w hl; rw [k3 h] at this; exact this)
        have hnl := cut_len l _ (List.getElem_mem hlt)
        have A0 : i = 0 → ∀ w, (binOp .add 9 (St (preN l i)) (St (parts l)[i])).run Tryd.prog w = .ok (St (preN l (i + 1))) w := fun h w => by
          rw [pre_first l i h hlt]; exact add_ss2 _ _ (by omega) (by omega) w
        have A1 : ∀ w, (binOp .add 9 (St (preN l i)) (.string { data := #[47] })).run Tryd.prog w = .ok (St (preN l i ++ [47])) w := fun w => add_st2 _ [47] _ rfl (by omega) (by simp) w
        have A2 : 1 ≤ i → ∀ w, (binOp .add 9 (St (preN l i ++ [47])) (St (parts l)[i])).run Tryd.prog w = .ok (St (preN l (i + 1))) w := fun h w => by
          have e1 : preN l (i + 1) = preN l i ++ [47] ++ (parts l)[i] := by
            unfold preN
            rw [pre_next _ _ h hlt]
            simp
          rw [e1]; exact add_ss2 _ _ (by simp; omega) (by omega) w
        generalize hni : (parts l)[i] = ni at *
        generalize preN l i ++ [47] = qs at *
        generalize hq2 : preN l (i + 1) = q' at *
        generalize preN l i = q at *
        have HQ := Lib.hid hq2
        clear k1 k2 k3 k0 hnl e0 hq2 hni hbw L P B U1 U2 V hn hu hb hp
        generalize hNN : (parts l).length = N at *
        by_cases h0 : i = 0
        · have A := A0 h0
          have l0 : ¬ 0 < (i : Int) := by omega
          clear A0 A1 A2 h0
          by_cases hN : i + 1 = N
          · have hN' : ((i + 1 : Nat) : Int) = (N : Int) := by omega
            clear W2 hN
            go_wp2_with (first
              | (go_at_call 13; (with_reducible refine (W1 _).out.mono ?_); rintro e w5 ⟨rfl, hb⟩; have H5 := Lib.hid (below_up HBW.out hb); clear hb))

            go_roundw
            case rel => exact ⟨i + 1, q2, by go_num, by rw [HQ.out], H5.out⟩
            case measure => first | (simp [intOf]; done) | (simp [intOf]; omega)
          · have X := fun w => W2 w (by omega)
            have hN' : ((i + 1 : Nat) : Int) ≠ (N : Int) := by omega
            clear W2
            go_wp2_with (first
              | (go_at_call 13; (with_reducible refine (W1 _).out.mono ?_); rintro e w5 ⟨rfl, hb⟩; have H5 := Lib.hid (below_up HBW.out hb); clear hb)
              | (go_at_call 22; (with_reducible refine (X _).out.mono ?_); rintro e w6 ⟨rfl, hb⟩; have H6 := Lib.hid (below_up H5.out hb); clear hb))
            go_roundw
            case rel => exact ⟨i + 1, q2, by go_num, by rw [HQ.out], H6.out⟩
            case measure => first | (simp [intOf]; done) | (simp [intOf]; omega)
        · have A := A2 (by omega)
          have l0 : 0 < (i : Int) := by omega
          clear A0 A2 h0
          by_cases hN : i + 1 = N
          · have hN' : ((i + 1 : Nat) : Int) = (N : Int) := by omega
            clear W2 hN
            go_wp2_with (first
              | (go_at_call 13; (with_reducible refine (W1 _).out.mono ?_); rintro e w5 ⟨rfl, hb⟩; have H5 := Lib.hid (below_up HBW.out hb); clear hb))

            go_roundw
            case rel => exact ⟨i + 1, q2, by go_num, by rw [HQ.out], H5.out⟩
            case measure => first | (simp [intOf]; done) | (simp [intOf]; omega)
          · have X := fun w => W2 w (by omega)
            have hN' : ((i + 1 : Nat) : Int) ≠ (N : Int) := by omega
            clear W2
            go_wp2_with (first
              | (go_at_call 13; (with_reducible refine (W1 _).out.mono ?_); rintro e w5 ⟨rfl, hb⟩; have H5 := Lib.hid (below_up HBW.out hb); clear hb)
              | (go_at_call 22; (with_reducible refine (X _).out.mono ?_); rintro e w6 ⟨rfl, hb⟩; have H6 := Lib.hid (below_up H5.out hb); clear hb))
            go_roundw
            case rel => exact ⟨i + 1, q2, by go_num, by rw [HQ.out], H6.out⟩
            case measure => first | (simp [intOf]; done) | (simp [intOf]; omega)
      · obtain ⟨m, hm⟩ : ∃ m, (parts l).length = m + 1 := ⟨(parts l).length - 1, by omega⟩
        obtain rfl : i = (parts l).length := by omega
        rw [pre_all l _ (Nat.le_refl _)]
        obtain ⟨g, rfl, _, hc⟩ := tx_below T3.out hbw m (by omega)
        rw [last_name l m hm] at hc
        have li : ¬ ((parts l).length : Int) < ((parts l).length : Int) := by omega
        have d0 : decide (((parts l).length : Int) < 1) = false := decide_eq_false (by omega)
        have d1 : wrap64 (((parts l).length : Int) - 1) = (m : Int) := by rw [wrap_in _ (by omega) (by omega)]; omega
        have d2 : IntKind.i64.wrap (((parts l).length : Int) - 1) = (m : Int) := by rw [IntKind.wrap_i64]; omega
        have d3 : (m : Int) < ((parts l).length : Int) := by omega
        have o1 : other l l = false := decide_eq_false (by simp)
        have o2 : other (base l) (base l) = false := decide_eq_false (by simp)
        have U2' := fun w => Lib.hid (show Calls Tryd.prog 22 #[.string { data := #[] }, St l] w (fun e w' => e = .returned (.bool true) ∧ Below w.heap.size w w') from (U2 w).out)
        have CC := Lib.hid hc
        have d4 : (0 : Int) ≤ (m : Int) := by omega
        have d5 : (m : Int) ≤ ((parts l).length : Int) := by omega
        clear hbw hc U2 V T3 hil hpos hn hn6
        generalize hN : (parts l).length = N at *
        have HM := Lib.hid hm
        have HN := Lib.hid hN
        clear hm hN
        go_upto_region 17 with (go_at_call 16; (with_reducible refine (P _).out.mono ?_); rintro e wp ⟨rfl, hb⟩; have HP := Lib.hid (below_up HBW.out hb); have HC := Lib.hid ((hb.cell (p := ⟨g, m, none⟩) (block_lt_of_cell CC.out)).trans CC.out); clear hb)
        go_region_held3 (fun w' => Below wp.heap.size wp w' ∧ w'.cell? ⟨g, m, none⟩ = some (St (base l)))
          (first
            | exact held_up HC.out (Below.drew (Below.refl _ _))
            | exact held_up HC.out ((‹Below wp.heap.size wp _ ∧ _›).1.trans (Below.mono (by assumption) (‹Below wp.heap.size wp _ ∧ _›).1.size))
            | assumption)
          (first
            | (go_at_call 22; (with_reducible refine (U1 _).out.mono ?_); rintro e w' ⟨rfl, hb⟩)
            | (go_at_call 22; (with_reducible refine (U2' _).out.mono ?_); rintro e w' ⟨rfl, hb⟩)
            | (go_at_call 18; (with_reducible refine (B _).out.mono ?_); rintro e w' ⟨rfl, hb⟩))
        have hB := (‹Below wp.heap.size wp _ ∧ _›).1
        have HB := Lib.hid (below_up H3.out (below_up HP.out hB))
        clear hB
        by_cases hup : up l = []
        · have hs : same (up l) [] = true := decide_eq_true hup
          have hN1 : N = 1 := by
            rw [← HN.out]
            rcases up_base l with ⟨_, _, e3⟩ | ⟨x, y, e1, e2, _, _, _⟩
            · rw [e3]; rfl
            · have hx : x = [] := e2.symm.trans hup
              rw [hx] at e1
              have := path_pre [] y (by rw [← e1]; exact hp)
              exact absurd this (by decide)
          have hN2 : ((N : Int) == 1) = true := by rw [hN1]; rfl
          clear hN1 hup
          go_wp2
          go_ret
          exact ⟨rfl, HB.out⟩
        · have hs : same (up l) [] = false := decide_eq_false hup
          obtain ⟨e1, hul⟩ : l = up l ++ [47] ++ base l ∧ underP (up l) l = true := by
            rcases up_base l with ⟨e1, _, _⟩ | ⟨x, y, e1, e2, e3, _, _⟩
            · exact absurd e1 hup
            · rw [e2, e3]
              refine ⟨by rw [e1]; simp, ?_⟩
              rw [e1]
              exact under_pre x y (by rw [← e1]; exact hp)
          have hlen : (up l).length ≤ 100000 ∧ (base l).length ≤ 100000 := by
            have := congrArg List.length e1
            simp at this
            omega
          have A1 : ∀ w, (binOp .add 9 (St (up l)) (.string { data := #[47] })).run Tryd.prog w = .ok (St (up l ++ [47])) w := fun w => add_st2 _ [47] _ rfl hlen.1 (by simp) w
          have A2 : ∀ w, (binOp .add 9 (St (up l ++ [47])) (St (base l))).run Tryd.prog w = .ok (St l) w := fun w => by
            rw [add_ss2 _ _ (by have := congrArg List.length e1; simp at this; simp; omega) hlen.2 w, ← e1]
          have U3 := fun w => Lib.hid (by have := under_any (up l) l w hl; rw [hul] at this; exact this)
          have sl : same l l = true := decide_eq_true rfl
          generalize up l ++ [47] = ux at *
          generalize up l = ul at *
          generalize base l = bl at *
          clear e1 hul hlen hup hl hp
          go_wp2_with (first
            | (go_at_call 18; (with_reducible refine (B _).out.mono ?_); rintro e w5 ⟨rfl, hb⟩; have H5 := Lib.hid (below_up HB.out hb); clear hb)
            | (go_at_call 22; (with_reducible refine (U3 _).out.mono ?_); rintro e w6 ⟨rfl, hb⟩; have H6 := Lib.hid (below_up H5.out hb); clear hb))
          go_ret
          exact ⟨rfl, H6.out⟩
end Go.Proofs.YtocaijklgomhiaaDoor
