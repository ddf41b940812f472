/-
What is proved here: path.Temp and the document's own Temp, by contracts; the law PathTemps's walk.
-/
import Derived.Test.YtocaijklgomhiaaDoorFrame
import Derived.Test.YtocaijklgomhiaaDoorKep
set_option linter.unusedSimpArgs false
namespace Go.Proofs.YtocaijklgomhiaaDoor
open Go.Pth Go.RowKit Go.Word

theorem below_grow (w : World) (n : Nat) (os : Array Obj) : Below w.heap.size w (Sort.grow (w.drewN n) os) := by
  refine ⟨rfl, rfl, rfl, ?_, fun k hk => ?_⟩
  · show w.heap.size ≤ (w.heap ++ os).size
    simp
  · show (w.heap ++ os)[k]? = w.heap[k]?
    rw [Array.getElem?_append_left hk]
theorem add_two (x y : Bt) (hx : x.length ≤ 100000) (hy : y.length ≤ 100000) (w : World) : (binOp .add 9 (St x) (St y)).run Tryd.prog w = .ok (St (x ++ y)) w := by
  have h := run_string_add_lists (P := Tryd.prog) (w := w) x y (by omega) (by omega)
  unfold St
  rw [binOp_string_add]
  exact h

/-! the digits of a number -/
theorem digit_is (n : Nat) (h : n < 10) : okb (UInt8.ofNat (48 + n)) = true ∧ UInt8.ofNat (48 + n) ≠ 47 := by
  have : ∀ i : Fin 10, okb (UInt8.ofNat (48 + i.val)) = true ∧ UInt8.ofNat (48 + i.val) ≠ 47 := by decide
  exact this ⟨n, h⟩
theorem digits_ok (n : Nat) : ∀ c ∈ Lib.decDigits n, okb c = true ∧ c ≠ 47 := by
  induction n using Nat.strongRecOn with
  | _ n ih =>
    intro c hc
    rw [Lib.decDigits] at hc
    split at hc
    · rename_i h
      rw [List.mem_singleton] at hc
      subst hc
      exact digit_is n h
    · rename_i h
      rcases List.mem_append.1 hc with hc | hc
      · exact ih (n / 10) (by omega) c hc
      · rw [List.mem_singleton] at hc
        subst hc
        exact digit_is (n % 10) (by omega)
theorem digits_len (k n : Nat) (h : n < 10 ^ (k + 1)) : (Lib.decDigits n).length ≤ k + 1 := by
  induction k generalizing n with
  | zero =>
    rw [Lib.decDigits, dif_pos (by omega)]
    simp
  | succ k ih =>
    rw [Lib.decDigits]
    split
    · simp
    · rw [List.length_append]
      have h1 := ih (n / 10) (by rw [Nat.pow_succ] at h; omega)
      simp only [List.length_cons, List.length_nil]
      omega
theorem temp_facts (n : Nat) (h : n ≤ 9999) : isPath ([46, 116, 115, 45] ++ Lib.decDigits n) = true ∧ keptP ([46, 116, 115, 45] ++ Lib.decDigits n) = true ∧ ([46, 116, 115, 45] ++ Lib.decDigits n).length ≤ 8 := by
  have hd := digits_ok n
  have hl := digits_len 3 n (by omega)
  generalize Lib.decDigits n = d at *
  have h47 : ∀ c ∈ ([46, 116, 115, 45] : Bt) ++ d, c ≠ 47 := fun c hc => by
    rcases List.mem_append.1 hc with hc | hc
    · exact (by decide : ∀ c ∈ ([46, 116, 115, 45] : Bt), c ≠ 47) c hc
    · exact (hd c hc).2
  have hok : (([46, 116, 115, 45] : Bt) ++ d).all okb = true := by
    rw [List.all_append]
    have h1 : ([46, 116, 115, 45] : Bt).all okb = true := by decide
    rw [h1, Bool.true_and, List.all_eq_true]
    exact fun c hc => (hd c hc).1
  have hp := parts_none _ h47
  have hn : isName (([46, 116, 115, 45] : Bt) ++ d) = true := by
    unfold isName
    rw [hok]
    have h1 : stands (([46, 116, 115, 45] : Bt) ++ d) = true := by simp [stands]
    rw [h1]
    simp
    omega
  have hpath : isPath (([46, 116, 115, 45] : Bt) ++ d) = true := by
    unfold isPath
    rw [hp]
    simp only [List.all_cons, List.all_nil, hn]
    rfl
  refine ⟨hpath, ?_, by simp; omega⟩
  unfold keptP namesP
  rw [if_pos hpath, hp]
  have : keptN (([46, 116, 115, 45] : Bt) ++ d) = true := by simp [keptN, Lib.hasPrefix, List.isPrefixOf]
  simp only [List.any_cons, List.any_nil, this]
  rfl

theorem temp_any (k : Int) (w : World) (hT : Pow w) : Calls Tryd.prog 24 #[.int .i64 k] w fun e w' => e = .returned (St (tempOf k)) ∧ Below w.heap.size w w' := by
  by_cases h0 : k < 0
  · have e : tempOf k = [] := if_neg (by omega)
    rw [e]
    go_enter Tryd.func24, Tryd.ntmps24
    go_wp2
    go_ret
    exact ⟨rfl, Below.refl _ _⟩
  by_cases h1 : 9999 < k
  · have e : tempOf k = [] := if_neg (by omega)
    rw [e]
    go_enter Tryd.func24, Tryd.ntmps24
    go_wp2
    go_ret
    exact ⟨rfl, Below.refl _ _⟩
  have e : tempOf k = [46, 116, 115, 45] ++ Lib.decDigits k.toNat := if_pos (by omega)
  rw [e]
  have K := Lib.hid (show Calls Tryd.prog 35 #[.int .i64 k] w (fun e w' => e = .returned (St (Lib.decDigits k.toNat)) ∧ Below w.heap.size w w') from
    (Tryd.strconv_Itoa k (by omega) (by omega) w hT).mono fun e w' ⟨he, n, os, hw⟩ => by
      have hi : Lib.itoa k = Lib.decDigits k.toNat := by unfold Lib.itoa; rw [if_neg h0]
      rw [hi] at he
      exact ⟨he, hw ▸ below_grow w n os⟩)
  have hl : (Lib.decDigits k.toNat).length ≤ 4 := digits_len 3 _ (by omega)
  have A := temp_add (Lib.decDigits k.toNat) (by omega)
  generalize Lib.decDigits k.toNat = d at *
  clear hT e
  go_enter Tryd.func24, Tryd.ntmps24
  go_wp2_with (go_at_call 35; (with_reducible refine K.out.mono ?_); rintro e w2 ⟨rfl, hb⟩; have H1 := Lib.hid hb; clear hb)
  go_ret
  exact ⟨rfl, H1.out⟩

theorem piece (n : Nat) (h : n < 10) (w : World) : (Instr.slice 9 (.string { data := #[48, 49, 50, 51, 52, 53, 54, 55, 56, 57] }) (some (.int .i64 n)) (some (.int .i64 ((n : Int) + 1))) none).run Tryd.prog w = .ok (St [UInt8.ofNat (48 + n)]) w := by
  have h1 := run_sub [48, 49, 50, 51, 52, 53, 54, 55, 56, 57] n (n + 1) (by omega) (by simp; omega) w
  have h2 : ∀ i : Fin 10, ((([48, 49, 50, 51, 52, 53, 54, 55, 56, 57] : Bt).drop i.val).take (i.val + 1 - i.val)) = [UInt8.ofNat (48 + i.val)] := by decide
  have h3 := h2 ⟨n, h⟩
  rw [h3] at h1
  exact h1
set_option maxHeartbeats 1000000 in
theorem decimal_any (n : Nat) : n ≤ 9999 → ∀ w, Calls Tryd.prog 36 #[.int .i64 n] w fun e w' => e = .returned (St (Lib.decDigits n)) ∧ w = w' := by
  induction n using Nat.strongRecOn with
  | _ n ih =>
    intro hn w
    have P := piece (n % 10) (by omega)
    have r1 : Int.tmod (n : Int) 10 = ((n % 10 : Nat) : Int) := by
      have := Int.tmod_eq_emod_of_nonneg (a := (n : Int)) (b := 10) (by omega)
      omega
    have r2 : wrap64 (((n % 10 : Nat) : Int) + 1) = ((n % 10 + 1 : Nat) : Int) := by rw [wrap_in _ (by omega) (by omega)]; omega
    by_cases h9 : n < 10
    · have e : Lib.decDigits n = [UInt8.ofNat (48 + n % 10)] := by rw [Lib.decDigits, dif_pos h9, Nat.mod_eq_of_lt h9]
      rw [e]
      clear ih
      generalize n % 10 = m at *
      have c9 : ¬ 9 < (n : Int) := by omega
      go_enter Tryd.func36, Tryd.ntmps36
      go_wp2_with (fail)
      go_ret
      exact ⟨rfl, rfl⟩
    · have e : Lib.decDigits n = Lib.decDigits (n / 10) ++ [UInt8.ofNat (48 + n % 10)] := by
        conv => lhs; rw [Lib.decDigits, dif_neg h9]
      rw [e]
      have K := fun w => Lib.hid (ih (n / 10) (by omega) (by omega) w)
      have hl : (Lib.decDigits (n / 10)).length ≤ 4 := digits_len 3 _ (by omega)
      have A := add_two (Lib.decDigits (n / 10)) [UInt8.ofNat (48 + n % 10)] (by omega) (by simp)
      generalize Lib.decDigits (n / 10) = d at *
      have q1 : Int.tdiv (n : Int) 10 = ((n / 10 : Nat) : Int) := by
        have := Int.tdiv_eq_ediv_of_nonneg (a := (n : Int)) (b := 10) (by omega)
        omega
      have c9 : 9 < (n : Int) := by omega
      have q2 : wrap64 ((n / 10 : Nat) : Int) = ((n / 10 : Nat) : Int) := wrap_in _ (by omega) (by omega)
      generalize n % 10 = m at *
      generalize n / 10 = m1 at *
      generalize UInt8.ofNat (48 + m) = bb at *
      clear ih
      go_enter Tryd.func36, Tryd.ntmps36
      go_wp2_with (go_at_call 36; (with_reducible refine (K _).out.mono ?_); rintro e w2 ⟨rfl, rfl⟩)
      go_ret
      exact ⟨rfl, rfl⟩

theorem reftemp_any (k : Int) (w : World) : Calls Tryd.prog 25 #[.int .i64 k] w fun e w' => e = .returned (St (tempOf k)) ∧ w = w' := by
  by_cases h0 : k < 0
  · have e : tempOf k = [] := if_neg (by omega)
    rw [e]
    go_enter Tryd.func25, Tryd.ntmps25
    go_wp2
    go_ret
    exact ⟨rfl, rfl⟩
  by_cases h1 : 9999 < k
  · have e : tempOf k = [] := if_neg (by omega)
    rw [e]
    go_enter Tryd.func25, Tryd.ntmps25
    go_wp2
    go_ret
    exact ⟨rfl, rfl⟩
  have e : tempOf k = [46, 116, 115, 45] ++ Lib.decDigits k.toNat := if_pos (by omega)
  rw [e]
  have K := decimal_any k.toNat (by omega)
  rw [Int.toNat_of_nonneg (by omega)] at K
  have hl : (Lib.decDigits k.toNat).length ≤ 4 := digits_len 3 _ (by omega)
  have A := temp_add (Lib.decDigits k.toNat) (by omega)
  generalize Lib.decDigits k.toNat = d at *
  have KK := fun w => Lib.hid (K w)
  clear e K
  go_enter Tryd.func25, Tryd.ntmps25
  go_wp2_with (go_at_call 36; (with_reducible refine (KK _).out.mono ?_); rintro e w2 ⟨rfl, rfl⟩)
  go_ret
  exact ⟨rfl, rfl⟩

theorem eql_nil (t : TypeId) (a : Bt) : binOp .eql t (St a) (.string { data := #[] }) = pure (.bool (same a [])) := st_eql t a []
attribute [local go_sem] guard_eq st_eql eql_nil

theorem journal_any (w : World) : Calls Tryd.prog 26 #[] w fun e w' => e = .returned (.string { data := #[46, 116, 115, 45, 106, 111, 117, 114, 110, 97, 108] }) ∧ w = w' := by
  go_enter Tryd.func26, Tryd.ntmps26
  go_wp2
  go_ret
  exact ⟨rfl, rfl⟩
set_option maxHeartbeats 2000000 in
theorem temps_any (k : Int) (w : World) (hT : Pow w) : Calls Tryd.prog 5 #[.int .i64 k] w fun e w' => e = .returned (.bool true) ∧ Below w.heap.size w w' := by
  have T := fun w (h : Pow w) => Lib.hid (temp_any k w h)
  have R := fun w => Lib.hid (reftemp_any k w)
  have hs : same (tempOf k) (tempOf k) = true := decide_eq_true rfl
  have HT := Lib.hid hT
  clear hT
  by_cases h : 0 ≤ k ∧ k ≤ 9999
  · have e : tempOf k = [46, 116, 115, 45] ++ Lib.decDigits k.toNat := if_pos h
    obtain ⟨h1, h2, h3⟩ := temp_facts k.toNat (by omega)
    rw [← e] at h1 h2 h3
    have hn : same (tempOf k) [] = false := decide_eq_false (by rw [e]; simp)
    have V := fun w => Lib.hid (by have := valid_any (tempOf k) w (by omega); rw [h1] at this; exact this)
    have P := fun w => Lib.hid (by have := kept_any (tempOf k) (by omega) w; rw [h2] at this; exact this)
    clear e h1 h2 h3 h
    generalize tempOf k = t at *
    go_enter Tryd.func5, Tryd.ntmps5
    go_wp2_with (first
      | (go_at_call 10; (with_reducible refine (alive_any _).mono ?_); rintro e w1 ⟨rfl, hb⟩; have H1 := Lib.hid hb; clear hb)
      | (go_at_call 24; (with_reducible refine (T _ (pow_below HT.out H1.out)).out.mono ?_); rintro e w2 ⟨rfl, hb⟩; have H2 := Lib.hid (H1.out.trans (hb.mono H1.out.size)); clear hb)
      | (go_at_call 26; (with_reducible refine (journal_any _).mono ?_); rintro e w9 ⟨rfl, rfl⟩)
      | (go_at_call 25; (with_reducible refine (R _).out.mono ?_); rintro e w3 ⟨rfl, rfl⟩)
      | (go_at_call 13; (with_reducible refine (V _).out.mono ?_); rintro e w4 ⟨rfl, hb⟩; have H4 := Lib.hid (H2.out.trans (hb.mono H2.out.size)); clear hb)
      | (go_at_call 20; (with_reducible refine (P _).out.mono ?_); rintro e w5 ⟨rfl, hb⟩; have H5 := Lib.hid (H4.out.trans (hb.mono H4.out.size)); clear hb))
    go_ret
    exact ⟨rfl, H5.out⟩
  · have e : tempOf k = [] := if_neg h
    have hn : same (tempOf k) [] = true := by rw [e]; decide
    clear e h
    generalize tempOf k = t at *
    go_enter Tryd.func5, Tryd.ntmps5
    go_wp2_with (first
      | (go_at_call 10; (with_reducible refine (alive_any _).mono ?_); rintro e w1 ⟨rfl, hb⟩; have H1 := Lib.hid hb; clear hb)
      | (go_at_call 24; (with_reducible refine (T _ (pow_below HT.out H1.out)).out.mono ?_); rintro e w2 ⟨rfl, hb⟩; have H2 := Lib.hid (H1.out.trans (hb.mono H1.out.size)); clear hb)
      | (go_at_call 26; (with_reducible refine (journal_any _).mono ?_); rintro e w9 ⟨rfl, rfl⟩)
      | (go_at_call 25; (with_reducible refine (R _).out.mono ?_); rintro e w3 ⟨rfl, rfl⟩))
    go_ret
    exact ⟨rfl, H2.out⟩
end Go.Proofs.YtocaijklgomhiaaDoor
