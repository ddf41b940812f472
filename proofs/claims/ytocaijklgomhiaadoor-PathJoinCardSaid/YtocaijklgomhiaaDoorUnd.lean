/-
What is proved here: path.Under and the document's own Under, by contracts; the law PathUnder's walk.
-/
import Derived.Test.YtocaijklgomhiaaDoorRefK
set_option linter.unusedSimpArgs false
namespace Go.Proofs.YtocaijklgomhiaaDoor
open Go.Pth Go.RowKit Go.Word
theorem eql_empty (t : TypeId) (a : Bt) : binOp .eql t (St a) (.string { data := #[] }) = pure (.bool (same a [])) := st_eql t a []
attribute [local go_sem] guard_eq guard_ne st_eql len_st eql_empty

/-- is q a path below p -/
def underP (p q : Bt) : Bool := isPath q && (decide (p = []) || (isPath p && decide (p.length < q.length) && decide (q.take p.length = p) && decide (q[p.length]? = some 47)))
theorem path_pre (p y : Bt) (h : isPath (p ++ 47 :: y) = true) : isPath p = true := by
  unfold isPath at h ⊢
  rw [parts_app, List.length_append, List.all_append, Bool.and_eq_true, Bool.and_eq_true, decide_eq_true_eq] at h
  rw [h.2.1, decide_eq_true (by omega)]
  rfl
theorem under_cut (p q : Bt) (hq : isPath q = true) (hp : p ≠ []) : underP p q = (Lib.hasPrefix q p && Lib.hasPrefix (Lib.trimPrefix q p) [47]) := by
  unfold underP
  rw [hq, decide_eq_false hp]
  simp only [Bool.true_and, Bool.false_or]
  unfold Lib.trimPrefix
  cases hh : Lib.hasPrefix q p with
  | false =>
    have : ¬ q.take p.length = p := fun e => by
      have : p.isPrefixOf q = true := List.isPrefixOf_iff_prefix.2 (by rw [← e]; exact List.take_prefix _ _)
      unfold Lib.hasPrefix at hh
      rw [this] at hh
      cases hh
    rw [decide_eq_false this]
    simp
  | true =>
    obtain ⟨t, rfl⟩ : p <+: q := List.isPrefixOf_iff_prefix.1 hh
    have e1 : (p ++ t).take p.length = p := by simp
    have e2 : (p ++ t).drop p.length = t := by simp
    rw [if_pos rfl, decide_eq_true e1, e2]
    cases t with
    | nil => simp [Lib.hasPrefix]
    | cons c r =>
      have e3 : (p ++ c :: r)[p.length]? = some c := by simp
      have e4 : p.length < (p ++ c :: r).length := by simp
      rw [e3, decide_eq_true e4]
      by_cases hc : c = 47
      · subst hc
        rw [path_pre p r hq]
        simp [Lib.hasPrefix, List.isPrefixOf]
      · have : ¬ (47 = c) := fun e => hc e.symm
        simp [Lib.hasPrefix, List.isPrefixOf, hc, this]

theorem cutp_any (q p : Bt) (w : World) : Calls Tryd.prog 34 #[St q, St p] w fun e w' => e = .returned (.tuple #[St (Lib.trimPrefix q p), .bool (Lib.hasPrefix q p)]) ∧ w = w' :=
  (Tryd.strings_CutPrefix ⟨q.toArray⟩ ⟨p.toArray⟩ w).mono fun _ _ h => ⟨h.1, h.2.symm⟩
theorem slash_any (x : Bt) (w : World) : Calls Tryd.prog 33 #[St x, .string { data := #[47] }] w fun e w' => e = .returned (.bool (Lib.hasPrefix x [47])) ∧ w = w' :=
  (Tryd.strings_HasPrefix ⟨x.toArray⟩ ⟨#[47]⟩ w).mono fun _ _ h => ⟨h.1, h.2.symm⟩

set_option maxHeartbeats 1000000 in
theorem under_any (p q : Bt) (w : World) (hq : q.length ≤ 100000) : Calls Tryd.prog 22 #[St p, St q] w fun e w' => e = .returned (.bool (underP p q)) ∧ Below w.heap.size w w' := by
  have V := Lib.hid (valid_any q w hq)
  cases h : isPath q with
  | false =>
    have e : underP p q = false := by unfold underP; rw [h]; rfl
    rw [e]
    rw [h] at V
    clear e h hq
    go_enter Tryd.func22, Tryd.ntmps22
    go_wp2_with (go_at_call 13; (with_reducible refine V.out.mono ?_); rintro e w1 ⟨rfl, hb⟩; have H1 := Lib.hid hb; clear hb)
    go_ret
    exact ⟨rfl, H1.out⟩
  | true =>
    rw [h] at V
    by_cases hp : p = []
    · have e : underP p q = true := by unfold underP; rw [h, decide_eq_true hp]; rfl
      rw [e]
      have hs : same p [] = true := decide_eq_true hp
      clear e h hq hp
      go_enter Tryd.func22, Tryd.ntmps22
      go_wp2_with (go_at_call 13; (with_reducible refine V.out.mono ?_); rintro e w1 ⟨rfl, hb⟩; have H1 := Lib.hid hb; clear hb)
      go_ret
      exact ⟨rfl, H1.out⟩
    · rw [under_cut p q h hp]
      have hs : same p [] = false := decide_eq_false hp
      have C := fun w => Lib.hid (cutp_any q p w)
      have S := fun w => Lib.hid (slash_any (Lib.trimPrefix q p) w)
      generalize Lib.trimPrefix q p = t at *
      generalize Lib.hasPrefix t [47] = b2 at *
      clear h hq hp
      cases hb1 : Lib.hasPrefix q p with
      | false =>
        rw [hb1] at C
        clear hb1
        go_enter Tryd.func22, Tryd.ntmps22
        go_wp2_with (first
          | (go_at_call 13; (with_reducible refine V.out.mono ?_); rintro e w1 ⟨rfl, hb⟩; have H1 := Lib.hid hb; clear hb)
          | (go_at_call 34; (with_reducible refine (C _).out.mono ?_); rintro e w2 ⟨rfl, rfl⟩))
        go_ret
        exact ⟨rfl, H1.out⟩
      | true =>
        rw [hb1] at C
        clear hb1
        go_enter Tryd.func22, Tryd.ntmps22
        go_wp2_with (first
          | (go_at_call 13; (with_reducible refine V.out.mono ?_); rintro e w1 ⟨rfl, hb⟩; have H1 := Lib.hid hb; clear hb)
          | (go_at_call 34; (with_reducible refine (C _).out.mono ?_); rintro e w2 ⟨rfl, rfl⟩)
          | (go_at_call 33; (with_reducible refine (S _).out.mono ?_); rintro e w3 ⟨rfl, rfl⟩))
        go_ret
        exact ⟨rfl, H1.out⟩

set_option maxHeartbeats 2000000 in
theorem under_ref (p q : Bt) (w : World) (hp0 : p.length ≤ 100000) (hq : q.length ≤ 100000) : Calls Tryd.prog 23 #[St p, St q] w fun e w' => e = .returned (.bool (underP p q)) ∧ Below w.heap.size w w' := by
  have V := Lib.hid (valid_ref q w hq)
  cases h : isPath q with
  | false =>
    have e : underP p q = false := by unfold underP; rw [h]; rfl
    rw [e]
    rw [h] at V
    clear e h hq hp0
    go_enter Tryd.func23, Tryd.ntmps23
    go_wp2_with (go_at_call 14; (with_reducible refine V.out.mono ?_); rintro e w1 ⟨rfl, hb⟩; have H1 := Lib.hid hb; clear hb)
    go_ret
    exact ⟨rfl, H1.out⟩
  | true =>
    rw [h] at V
    by_cases hp : p = []
    · have e : underP p q = true := by unfold underP; rw [h, decide_eq_true hp]; rfl
      rw [e]
      have hs : same p [] = true := decide_eq_true hp
      clear e h hq hp hp0
      go_enter Tryd.func23, Tryd.ntmps23
      go_wp2_with (go_at_call 14; (with_reducible refine V.out.mono ?_); rintro e w1 ⟨rfl, hb⟩; have H1 := Lib.hid hb; clear hb)
      go_ret
      exact ⟨rfl, H1.out⟩
    have hs : same p [] = false := decide_eq_false hp
    have V2 := fun w => Lib.hid (valid_ref p w hp0)
    have e0 : underP p q = (isPath p && decide (p.length < q.length) && decide (q.take p.length = p) && decide (q[p.length]? = some 47)) := by
      unfold underP; rw [h, decide_eq_false hp]; rfl
    rw [e0]
    clear e0 h hp
    cases hpp : isPath p with
    | false =>
      rw [hpp] at V2
      clear hq hp0 hpp
      go_enter Tryd.func23, Tryd.ntmps23
      go_wp2_with (first
        | (go_at_call 14; (with_reducible refine V.out.mono ?_); rintro e w1 ⟨rfl, hb⟩; have H1 := Lib.hid hb; clear hb)
        | (go_at_call 14; (with_reducible refine (V2 _).out.mono ?_); rintro e w2 ⟨rfl, hb⟩; have H2 := Lib.hid (H1.out.trans (hb.mono H1.out.size)); clear hb))
      go_ret
      exact ⟨rfl, H2.out⟩
    | true =>
      rw [hpp] at V2
      clear hpp
      by_cases hlt : p.length < q.length
      · have li : (p.length : Int) < (q.length : Int) := by omega
        have sl := run_to q p.length (by omega)
        have ix := index_st q p.length hlt
        rw [decide_eq_true hlt, List.getElem?_eq_getElem hlt]
        generalize q[p.length] = c at *
        by_cases ht : q.take p.length = p
        · have hst : same (q.take p.length) p = true := decide_eq_true ht
          rw [decide_eq_true ht]
          clear ht
          generalize q.take p.length = tk at *
          by_cases hc : c = 47
          · have hcn : (c.toNat : Int) = 47 := by rw [hc]; decide
            rw [hcn] at ix
            subst hc
            clear hcn hq hp0 hlt
            go_enter Tryd.func23, Tryd.ntmps23
            go_wp2_with (first
              | (go_at_call 14; (with_reducible refine V.out.mono ?_); rintro e w1 ⟨rfl, hb⟩; have H1 := Lib.hid hb; clear hb)
              | (go_at_call 14; (with_reducible refine (V2 _).out.mono ?_); rintro e w2 ⟨rfl, hb⟩; have H2 := Lib.hid (H1.out.trans (hb.mono H1.out.size)); clear hb))
            go_ret
            exact ⟨rfl, H2.out⟩
          · have hcn : ((c.toNat : Int) == 47) = false := beq_eq_false_iff_ne.2 (fun e => hc ((num_slash c).1 e))
            have hcf : decide (some c = some 47) = false := decide_eq_false (fun e => hc (by injection e))
            rw [hcf]
            generalize (c.toNat : Int) = cn at *
            clear hq hp0 hlt hcf hc
            go_enter Tryd.func23, Tryd.ntmps23
            go_wp2_with (first
              | (go_at_call 14; (with_reducible refine V.out.mono ?_); rintro e w1 ⟨rfl, hb⟩; have H1 := Lib.hid hb; clear hb)
              | (go_at_call 14; (with_reducible refine (V2 _).out.mono ?_); rintro e w2 ⟨rfl, hb⟩; have H2 := Lib.hid (H1.out.trans (hb.mono H1.out.size)); clear hb))
            go_ret
            exact ⟨rfl, H2.out⟩
        · have hst : same (q.take p.length) p = false := decide_eq_false ht
          rw [decide_eq_false ht]
          clear ht
          generalize q.take p.length = tk at *
          clear hq hp0 hlt
          go_enter Tryd.func23, Tryd.ntmps23
          go_wp2_with (first
            | (go_at_call 14; (with_reducible refine V.out.mono ?_); rintro e w1 ⟨rfl, hb⟩; have H1 := Lib.hid hb; clear hb)
            | (go_at_call 14; (with_reducible refine (V2 _).out.mono ?_); rintro e w2 ⟨rfl, hb⟩; have H2 := Lib.hid (H1.out.trans (hb.mono H1.out.size)); clear hb))
          go_ret
          exact ⟨rfl, H2.out⟩
      · have li : ¬ (p.length : Int) < (q.length : Int) := by omega
        rw [decide_eq_false hlt]
        clear hq hp0 hlt
        go_enter Tryd.func23, Tryd.ntmps23
        go_wp2_with (first
          | (go_at_call 14; (with_reducible refine V.out.mono ?_); rintro e w1 ⟨rfl, hb⟩; have H1 := Lib.hid hb; clear hb)
          | (go_at_call 14; (with_reducible refine (V2 _).out.mono ?_); rintro e w2 ⟨rfl, hb⟩; have H2 := Lib.hid (H1.out.trans (hb.mono H1.out.size)); clear hb))
        go_ret
        exact ⟨rfl, H2.out⟩

theorem up_two {w w1 w2 : World} (h : Below w.heap.size w w1) (h2 : Below w1.heap.size w1 w2) : Below w.heap.size w w2 := h.trans (h2.mono h.size)
set_option maxHeartbeats 2000000 in
theorem unders_any (p q : Bt) (w : World) : Calls Tryd.prog 4 #[St p, St q] w fun e w' => e = .returned (.bool true) ∧ Below w.heap.size w w' := by
  by_cases hp : 2000 < p.length
  · have hp' : 2000 < (p.length : Int) := by omega
    go_enter Tryd.func4, Tryd.ntmps4
    go_wp2_with (go_at_call 10; (with_reducible refine (alive_any _).mono ?_); rintro e w1 ⟨rfl, hb⟩; have H1 := Lib.hid hb; clear hb)
    go_ret
    exact ⟨rfl, H1.out⟩
  have hp' : ¬ 2000 < (p.length : Int) := by omega
  by_cases hq : 2000 < q.length
  · have hq' : 2000 < (q.length : Int) := by omega
    go_enter Tryd.func4, Tryd.ntmps4
    go_wp2_with (go_at_call 10; (with_reducible refine (alive_any _).mono ?_); rintro e w1 ⟨rfl, hb⟩; have H1 := Lib.hid hb; clear hb)
    go_ret
    exact ⟨rfl, H1.out⟩
  have hq' : ¬ 2000 < (q.length : Int) := by omega
  have U1 := fun w => Lib.hid (under_any p q w (by omega))
  have U2 := fun w => Lib.hid (under_ref p q w (by omega) (by omega))
  have U3 := fun w => Lib.hid (under_any q p w (by omega))
  have U4 := fun w => Lib.hid (under_ref q p w (by omega) (by omega))
  generalize underP p q = x at *
  generalize underP q p = y at *
  clear hp hq
  go_enter Tryd.func4, Tryd.ntmps4
  go_wp2_with (first
    | (go_at_call 10; (with_reducible refine (alive_any _).mono ?_); rintro e w1 ⟨rfl, hb⟩; have H1 := Lib.hid hb; clear hb)
    | (go_at_call 22; (with_reducible refine (U1 _).out.mono ?_); rintro e w2 ⟨rfl, hb⟩; have H2 := Lib.hid (up_two H1.out hb); clear hb U1)
    | (go_at_call 23; (with_reducible refine (U2 _).out.mono ?_); rintro e w3 ⟨rfl, hb⟩; have H3 := Lib.hid (up_two H2.out hb); clear hb U2)
    | (go_at_call 22; (with_reducible refine (U3 _).out.mono ?_); rintro e w4 ⟨rfl, hb⟩; have H4 := Lib.hid (up_two H3.out hb); clear hb U3)
    | (go_at_call 23; (with_reducible refine (U4 _).out.mono ?_); rintro e w5 ⟨rfl, hb⟩; have H5 := Lib.hid (up_two H4.out hb); clear hb U4))
  go_ret
  exact ⟨by first | rfl | simp, H5.out⟩
end Go.Proofs.YtocaijklgomhiaaDoor
