/-
What is proved here: the document's own look at one name, by a contract. the document's own split of a text at its slashes, by a contract. the document's own Valid, Names, Parent, Base and Kept, by contracts. the document's own Parent, by a contract.
-/
import Derived.Test.YtiglakhfkgeefaaKep
set_option linter.unusedSimpArgs false
namespace Go.Proofs.Ytiglakhfkgeefaa
open Go.Pth Go.RowKit Go.Word

theorem eql_st (t : TypeId) (a b : Bt) (v : ByteArray) (hv : v = ⟨b.toArray⟩) : binOp .eql t (St a) (.string v) = pure (.bool (same a b)) := by
  subst hv; exact st_eql t a b
theorem len_st (ty : TypeId) (l : Bt) (w : World) : (Builtin.len_ #[9] ty #[St l]).run Try.prog w = .ok (.int .i64 (l.length : Int)) w := by
  unfold St
  rw [run_len_string w 9 ty _ Try.underlying9, size_st]
  rfl
theorem index_st (l : Bt) (i : Nat) (h : i < l.length) (w : World) : (Instr.index 9 (St l) (.int .i64 i)).run Try.prog w = .ok (.int .u8 (l[i].toNat : Int)) w := by
  unfold St
  rw [run_index_string w 9 _ .i64 i Try.underlying9]
  have h1 : 0 ≤ (i : Int) ∧ (i : Int) < ((ByteArray.mk l.toArray).size : Int) := by rw [size_st]; omega
  rw [dif_pos h1]
  have := get_st l i h
  simp only [Int.toNat_natCast]
  rw [this]
theorem eql_dot (t : TypeId) (a : Bt) : binOp .eql t (St a) (.string { data := #[46] }) = pure (.bool (same a [46])) := st_eql t a [46]
theorem eql_dots (t : TypeId) (a : Bt) : binOp .eql t (St a) (.string { data := #[46, 46] }) = pure (.bool (same a [46, 46])) := st_eql t a [46, 46]
attribute [local go_sem] guard_eq eql_dot eql_dots len_st

theorem okb_iff (c : UInt8) : okb c = true ↔ (97 ≤ (c.toNat : Int) ∧ (c.toNat : Int) ≤ 122 ∨ 48 ≤ (c.toNat : Int) ∧ (c.toNat : Int) ≤ 57 ∨ (c.toNat : Int) = 46 ∨ (c.toNat : Int) = 95 ∨ (c.toNat : Int) = 45) := by
  unfold okb
  rw [decide_eq_true_eq]
  omega

set_option maxHeartbeats 2000000 in
theorem name_any (l : Bt) (w : World) (hl : l.length ≤ 100000) : Calls Try.prog 82 #[St l] w fun e w' => e = .returned (.bool (isName l)) ∧ w = w' := by
  by_cases h1 : l.length < 1
  · have hn : isName l = false := by
      have : l = [] := List.eq_nil_of_length_eq_zero (by omega)
      subst this; decide
    rw [hn]
    have h1' : (l.length : Int) < 1 := by omega
    clear hn h1 hl
    go_enter Try.func82, Try.ntmps82
    go_wp2
    go_ret
    exact ⟨rfl, rfl⟩
  have h1' : ¬ (l.length : Int) < 1 := by omega
  by_cases h2 : 14 < l.length
  · have hn : isName l = false := by
      have : ¬ l.length ≤ 14 := by omega
      simp [isName, this]
    rw [hn]
    have h2' : 14 < (l.length : Int) := by omega
    clear hn h1 h2 hl
    go_enter Try.func82, Try.ntmps82
    go_wp2
    go_ret
    exact ⟨rfl, rfl⟩
  have h2' : ¬ 14 < (l.length : Int) := by omega
  by_cases h3 : l = [46]
  · have hn : isName l = false := by subst h3; decide
    rw [hn]
    have h3' : same l [46] = true := decide_eq_true h3
    clear hn h1 h2 h3 hl
    go_enter Try.func82, Try.ntmps82
    go_wp2
    go_ret
    exact ⟨rfl, rfl⟩
  have h3' : same l [46] = false := decide_eq_false h3
  by_cases h4 : l = [46, 46]
  · have hn : isName l = false := by subst h4; decide
    rw [hn]
    have h4' : same l [46, 46] = true := decide_eq_true h4
    clear hn h1 h2 h3 h4 hl
    go_enter Try.func82, Try.ntmps82
    go_wp2
    go_ret
    exact ⟨rfl, rfl⟩
  have h4' : same l [46, 46] = false := decide_eq_false h4
  have hi : isName l = l.all okb := by
    have e1 : l ≠ [] := fun e => h1 (by rw [e]; decide)
    have e2 : l.length ≤ 14 := by omega
    simp [isName, stands, e1, e2, h3, h4]
  rw [hi]
  clear hi h1 h3 h4 hl
  go_enter Try.func82, Try.ntmps82
  go_wp2
  go_loopw [3] (fun x wr => ∃ i : Nat, i ≤ l.length ∧ x = .int .i64 i ∧ w = wr ∧ (l.take i).all okb = true) (fun x _ => l.length - (intOf x).toNat)
  case atStart => exact ⟨0, by omega, rfl, by trivial, rfl⟩
  case round =>
    obtain ⟨i, hil, rfl, rfl, hall⟩ := hrel
    by_cases hi : i < l.length
    · have hix := index_st l i hi
      have li : (i : Int) < (l.length : Int) := by omega
      have hok := okb_iff l[i]
      have hnx : (l.take (i + 1)).all okb = ((l.take i).all okb && okb l[i]) := by
        rw [List.take_succ_eq_append_getElem hi, List.all_append]; simp
      have hbad : okb l[i] = false → l.all okb = false := fun h => by
        rw [List.all_eq_false]
        exact ⟨l[i], List.getElem_mem hi, by rw [h]; decide⟩
      generalize l[i] = c at *
      cases hc : okb c with
      | true =>
        have hcc := hok.1 hc
        rw [hall, hc] at hnx
        have HX := Lib.hid hnx
        have q2 : i + 1 ≤ l.length := hi
        have q3 : l.length - (i + 1) < l.length - i := by omega
        clear hok hbad hc hnx
        generalize (c.toNat : Int) = b at *
        go_wp2
        all_goals first | (exfalso; omega) | (exfalso; rename_i h; simp at h; omega) | (exfalso; rename_i h _; simp at h; omega) | (exfalso; rename_i h _ _; simp at h; omega) | skip
        all_goals go_roundw
        all_goals first
          | exact ⟨i + 1, q2, by go_num, by trivial, HX.out⟩
          | (simp [intOf]; done)
          | (simp [intOf]; omega)
      | false =>
        have hcc : ¬ _ := fun h => by have := hok.2 h; rw [hc] at this; cases this
        have HB := Lib.hid (hbad hc)
        clear hok hbad hc hnx
        generalize (c.toNat : Int) = b at *
        go_wp2
        all_goals first | (exfalso; omega) | (exfalso; rename_i h; simp at h; omega) | (exfalso; rename_i h _; simp at h; omega) | (exfalso; rename_i h _ _; simp at h; omega) | skip
        all_goals go_ret
        all_goals exact ⟨by rw [HB.out]; rfl, rfl⟩
    · have li : ¬ (i : Int) < (l.length : Int) := by omega
      have e : l.all okb = true := by rw [List.take_of_length_le (by omega)] at hall; exact hall
      have HE := Lib.hid e
      clear e
      go_wp2
      go_ret
      exact ⟨by rw [HE.out]; rfl, rfl⟩
end Go.Proofs.Ytiglakhfkgeefaa
set_option linter.unusedSimpArgs false
namespace Go.Proofs.Ytiglakhfkgeefaa
open Go.Pth Go.RowKit Go.Word
attribute [local go_sem] guard_eq eql_dot eql_dots len_st

theorem str_info : (Try.prog.info? 9).map (fun i => (i.zero, i.size, i.bytes)) = some (some (.string ⟨#[]⟩), 1, 16) := by kernel_rfl
theorem cut_count (l : Bt) : (cutAt l).2.length ≤ l.length := by
  induction l with
  | nil => simp [cutAt]
  | cons c r ih =>
    by_cases h : c = 47
    · subst h; simp only [cutAt, if_true, List.length_cons]; omega
    · simp only [cutAt, h, if_false, List.length_cons]; omega
theorem parts_count (l : Bt) : (parts l).length ≤ l.length + 1 := by
  have := cut_count l
  simp [parts]; omega

theorem append_below {w wr w1 : World} {v : Value} {k : Nat} {xs : List Value} {tmp : Obj} (hrow : wr.ownsRow w.heap.size 9 1 v k xs) (hB : Below w.heap.size w wr) (hg : (wr.alloc tmp).grownBy w1 v.ownBlock) : Below w.heap.size w w1 :=
  (hB.alloc hB.size tmp).grown hg (by have := hB.size; simp; omega) (fun j ej => (World.ownsRow.lt hrow j ej).1)

set_option maxRecDepth 100000 in
set_option maxHeartbeats 4000000 in
theorem split_ref (l : Bt) (w : World) (hl : l.length ≤ 100000) : Calls Try.prog 69 #[St l] w fun e w' => ∃ v, e = .returned v ∧ w'.ownsRow w.heap.size 9 1 v (parts l).length ((parts l).map St) ∧ Below w.heap.size w w' := by
  obtain ⟨i0, hi, hz0, hz1, hz2⟩ := info_parts str_info
  have hcnt := parts_count l
  go_enter Try.func69, Try.ntmps69
  go_wp2
  go_loopw [3, 4, 5] (fun v x y wr => ∃ (i f : Nat) (done : List Bt), y = .int .i64 i ∧ x = .int .i64 f ∧ f ≤ i ∧ i ≤ l.length ∧ (∀ c ∈ (l.drop f).take (i - f), c ≠ 47) ∧ parts l = done ++ parts (l.drop f) ∧ wr.ownsRow w.heap.size 9 1 v done.length (done.map St) ∧ Below w.heap.size w wr) (fun _ _ y _ => l.length - (intOf y).toNat)
  case atStart => exact ⟨0, 0, [], rfl, rfl, by omega, by omega, fun c hc => by simp at hc, rfl, World.ownsRow_nil _ _ _ _, Below.refl _ _⟩
  case round =>
    obtain ⟨i, f, done, rfl, rfl, hfi, hil, hno, hpl, hrow, hB⟩ := hrel
    have hdl : done.length ≤ 100000 := by
      have := parts_pos (l.drop f)
      rw [hpl, List.length_append] at hcnt
      omega
    have HB := Lib.hid hB
    by_cases hlt : i < l.length
    · have hix := index_st l i hlt
      have li : (i : Int) < (l.length : Int) := by omega
      have q1 : f ≤ i + 1 := by omega
      have q2 : i + 1 ≤ l.length := hlt
      have q3 : l.length - (i + 1) < l.length - i := by omega
      have wi : wrap64 ((i : Int) + 1) = ((i + 1 : Nat) : Int) := by rw [wrap_in _ (by omega) (by omega)]; omega
      have hsl := run_sub l f i hfi hil
      have hnx : (l.drop f).take (i + 1 - f) = (l.drop f).take (i - f) ++ [l[i]] := by
        rw [show i + 1 - f = i - f + 1 by omega, List.take_succ_eq_append_getElem (by simp; omega)]
        simp only [List.getElem_drop, show f + (i - f) = i by omega]
      have hdr : l.drop f = (l.drop f).take (i - f) ++ l[i] :: l.drop (i + 1) := by
        conv => lhs; rw [← List.take_append_drop (i - f) (l.drop f)]
        rw [List.drop_drop, show f + (i - f) = i by omega, List.drop_eq_getElem_cons hlt]
      have HX := Lib.hid hnx
      have HD := Lib.hid hdr
      clear hnx hdr hB
      by_cases h47 : l[i] = 47
      · have h47n : (l[i].toNat : Int) = 47 := by rw [h47]; decide
        rw [h47n] at hix
        have hpp : parts (l.drop f) = (l.drop f).take (i - f) :: parts (l.drop (i + 1)) := by
          conv => lhs; rw [HD.out, h47]
          rw [parts_app, parts_none _ hno]
          rfl
        have hnl : parts l = done ++ [(l.drop f).take (i - f)] ++ parts (l.drop (i + 1)) := by rw [hpl, hpp]; simp
        generalize (l.drop f).take (i - f) = cur at *
        have HP := Lib.hid hnl
        clear hnl hpp hpl HD HX hno h47 h47n hcnt
        go_wp2_with (refine wpList_append_own _ rfl _ _ 56 rfl w.heap.size 9 i0 (.string ⟨#[]⟩) 1 16 Try.underlying56 hi hz0 hz1 hz2 rfl (by decide) _ _ _ rfl (hrow.alloc _) ⟨wr.heap.size, 0, none⟩ 1 1 [St cur] rfl rfl (cell_one_new _ _ _) (fun y hy => by rw [List.mem_singleton] at hy; subst hy; rfl) (by unfold maxLen; omega) (by omega) (by have := HB.out.size; simp; omega) ?_; intro v' w1 hown' hgrow _; have HB1 := Lib.hid (append_below hrow HB.out hgrow); have HO := Lib.hid hown'; clear hgrow hown')
        · rename_i h
          rcases h with h | h
          · exact absurd h (by simp [St])
          · exact absurd h (by simp [St])
        · go_roundw
          case rel => exact ⟨i + 1, i + 1, done ++ [cur], by go_num, by go_num, Nat.le_refl _, q2, fun c hc => by simp at hc, HP.out, by simpa using HO.out, HB1.out⟩
          case measure => first | (simp [intOf]; done) | (simp [intOf]; omega)
      · have h47n : (l[i].toNat : Int) ≠ 47 := fun e => h47 (UInt8.toNat_inj.1 (by show l[i].toNat = 47; omega))
        have hno2 : ∀ c ∈ (l.drop f).take (i + 1 - f), c ≠ 47 := fun c hc => by
          rw [HX.out] at hc
          rcases List.mem_append.1 hc with hc | hc
          · exact hno c hc
          · rw [List.mem_singleton] at hc
            rw [hc]; exact h47
        have HN := Lib.hid hno2
        have HP := Lib.hid hpl
        have HR := Lib.hid hrow
        clear hno2 hno HX HD h47 hpl hcnt hrow
        generalize l[i].toNat = c at *
        go_wp2
        go_roundw
        case rel => exact ⟨i + 1, f, done, by go_num, rfl, q1, q2, HN.out, HP.out, HR.out, HB.out⟩
        case measure => first | (simp [intOf]; done) | (simp [intOf]; omega)
    · obtain rfl : i = l.length := by omega
      have li : ¬ (l.length : Int) < (l.length : Int) := by omega
      have hsl := run_from l f (by omega)
      have e1 : (l.drop f).take (l.length - f) = l.drop f := List.take_of_length_le (by simp)
      rw [e1] at hno
      rw [parts_none _ hno] at hpl
      generalize l.drop f = cur at *
      have HP := Lib.hid hpl
      clear e1 hno hpl hcnt hB
      go_wp2_with (refine wpList_append_own _ rfl _ _ 56 rfl w.heap.size 9 i0 (.string ⟨#[]⟩) 1 16 Try.underlying56 hi hz0 hz1 hz2 rfl (by decide) _ _ _ rfl (hrow.alloc _) ⟨wr.heap.size, 0, none⟩ 1 1 [St cur] rfl rfl (cell_one_new _ _ _) (fun y hy => by rw [List.mem_singleton] at hy; subst hy; rfl) (by unfold maxLen; omega) (by omega) (by have := HB.out.size; simp; omega) ?_; intro v' w1 hown' hgrow _; have HB1 := Lib.hid (append_below hrow HB.out hgrow); have HO := Lib.hid hown'; clear hgrow hown')
      · rename_i h
        rcases h with h | h
        · exact absurd h (by simp [St])
        · exact absurd h (by simp [St])
      · go_ret
        refine ⟨_, rfl, ?_, HB1.out⟩
        rw [HP.out]
        simpa using HO.out
end Go.Proofs.Ytiglakhfkgeefaa
set_option linter.unusedSimpArgs false
namespace Go.Proofs.Ytiglakhfkgeefaa
open Go.Pth Go.RowKit Go.Word
theorem eql_ts (t : TypeId) (a : Bt) : binOp .eql t (St a) (.string { data := #[46, 116, 115] }) = pure (.bool (same a [46, 116, 115])) := st_eql t a [46, 116, 115]
attribute [local go_sem] guard_eq eql_dot eql_dots len_st eql_ts

/-- a list of texts lies at A, from block b on -/
def Tx (w : World) (b : Nat) (A : Option Addr) (ns : List Bt) : Prop := ∀ j, j < ns.length → ∃ g, A = some ⟨g, 0, none⟩ ∧ b ≤ g ∧ w.cell? ⟨g, j, none⟩ = some (St (ns.getD j []))
theorem tx_nil (w : World) (b : Nat) (A : Option Addr) : Tx w b A [] := fun j hj => by simp at hj
theorem tx_below {w w' : World} {b : Nat} {A : Option Addr} {ns : List Bt} (h : Tx w b A ns) (hb : Below w.heap.size w w') : Tx w' b A ns := fun j hj => by
  obtain ⟨g, e, hg, hc⟩ := h j hj
  refine ⟨g, e, hg, ?_⟩
  rw [hb.cell (p := ⟨g, j, none⟩) (block_lt_of_cell hc)]
  exact hc
theorem tx_mono {w : World} {b b' : Nat} {A : Option Addr} {ns : List Bt} (h : Tx w b A ns) (hb : b' ≤ b) : Tx w b' A ns := fun j hj => by
  obtain ⟨g, e, hg, hc⟩ := h j hj
  exact ⟨g, e, Nat.le_trans hb hg, hc⟩
theorem tx_own {w : World} {base : Nat} {v : Value} {ns : List Bt} (h : w.ownsRow base 9 1 v ns.length (ns.map St)) : ∃ A C, v = .slice A ns.length C ∧ Tx w base A ns := by
  rcases h.2 with ⟨e1, e2⟩ | ⟨g, cap, cur, e1, hbg, _⟩
  · refine ⟨none, 0, by rw [e2]; exact e1, fun j hj => by omega⟩
  · subst e1
    refine ⟨_, _, rfl, fun j hj => ⟨g, rfl, hbg, ?_⟩⟩
    rw [World.ownsRow.cellAt h j (by omega)]
    simp [List.getD_eq_getElem?_getD, hj]

theorem parts_sum (l : Bt) : l.length + 1 = ((parts l).map fun p => p.length + 1).sum := by
  induction l with
  | nil => simp [parts, cutAt]
  | cons c r ih =>
    by_cases h47 : c = 47
    · subst h47
      have e : parts (47 :: r) = [] :: parts r := by simp [parts, cutAt]
      rw [e, List.map_cons, List.sum_cons, ← ih]
      simp; omega
    · have e : parts (c :: r) = (c :: (cutAt r).1) :: (cutAt r).2 := by simp [parts, cutAt, h47]
      have e2 : parts r = (cutAt r).1 :: (cutAt r).2 := rfl
      rw [e2, List.map_cons, List.sum_cons] at ih
      rw [e, List.map_cons, List.sum_cons, List.length_cons, List.length_cons]
      omega
theorem sum_most (L : List Nat) (k : Nat) (h : ∀ x ∈ L, x ≤ k) : L.sum ≤ k * L.length := by
  induction L with
  | nil => simp
  | cons x r ih =>
    rw [List.sum_cons, List.length_cons, Nat.mul_succ]
    have := ih (fun y hy => h y (by simp [hy]))
    have := h x (by simp)
    omega
theorem path_len (l : Bt) (h : isPath l = true) : l.length ≤ 100 := by
  unfold isPath at h
  rw [Bool.and_eq_true, decide_eq_true_eq] at h
  have h1 := parts_sum l
  have h2 := sum_most ((parts l).map fun p => p.length + 1) 15 (fun x hx => by
    obtain ⟨p, hp, rfl⟩ := List.mem_map.1 hx
    have := List.all_eq_true.1 h.2 p hp
    unfold isName at this
    rw [Bool.and_eq_true, Bool.and_eq_true, decide_eq_true_eq] at this
    omega)
  rw [List.length_map] at h2
  omega

theorem split_tx (l : Bt) (w : World) (hl : l.length ≤ 100000) : Calls Try.prog 69 #[St l] w fun e w' => ∃ A C, e = .returned (.slice A (parts l).length C) ∧ Tx w' w.heap.size A (parts l) ∧ Below w.heap.size w w' :=
  (split_ref l w hl).mono fun e w' ⟨v, he, ho, hb⟩ => by
    obtain ⟨A, C, rfl, ht⟩ := tx_own ho
    exact ⟨A, C, he, ht, hb⟩

set_option maxRecDepth 100000 in
set_option maxHeartbeats 4000000 in
theorem valid_ref (l : Bt) (w : World) (hl : l.length ≤ 100000) : Calls Try.prog 66 #[St l] w fun e w' => e = .returned (.bool (isPath l)) ∧ Below w.heap.size w w' := by
  by_cases h1 : 100 < l.length
  · have hn : isPath l = false := by
      cases h : isPath l with
      | false => rfl
      | true => have := path_len l h; omega
    rw [hn]
    have h1' : 100 < (l.length : Int) := by omega
    clear hn h1 hl
    go_enter Try.func66, Try.ntmps66
    go_wp2
    go_ret
    exact ⟨rfl, Below.refl _ _⟩
  have h1' : ¬ 100 < (l.length : Int) := by omega
  have S := Lib.hid (split_tx l w hl)
  have hlen : ∀ p ∈ parts l, p.length ≤ 100000 := fun p hp => by have := cut_len l p hp; omega
  by_cases h6 : 6 < (parts l).length
  · have hn : isPath l = false := by
      unfold isPath
      rw [decide_eq_false (by omega)]
      rfl
    rw [hn]
    have h6' : 6 < ((parts l).length : Int) := by omega
    generalize parts l = ns at *
    clear hn h1 hl h6 hlen
    go_enter Try.func66, Try.ntmps66
    go_wp2_with (go_at_call 69; (with_reducible refine S.out.mono ?_); rintro e w1 ⟨A, C, rfl, ht, hb⟩; have H1 := Lib.hid hb; clear hb ht)
    go_ret
    exact ⟨rfl, H1.out⟩
  have h6' : ¬ 6 < ((parts l).length : Int) := by omega
  have hi : isPath l = (parts l).all isName := by
    unfold isPath
    rw [decide_eq_true (by omega)]
    rfl
  rw [hi]
  generalize parts l = ns at *
  clear hi h1 hl
  go_enter Try.func66, Try.ntmps66
  go_wp2_with (go_at_call 69; (with_reducible refine S.out.mono ?_); rintro e w1 ⟨A, C, rfl, ht, hb⟩; have H1 := Lib.hid hb; have HT := Lib.hid ht; clear hb ht)
  go_loopw [4] (fun x wr => ∃ i : Nat, i ≤ ns.length ∧ x = .int .i64 i ∧ w1 = wr ∧ (ns.take i).all isName = true) (fun x _ => ns.length - (intOf x).toNat)
  case atStart => exact ⟨0, by omega, rfl, by trivial, rfl⟩
  case round =>
    obtain ⟨i, hil, rfl, rfl, hall⟩ := hrel
    by_cases hlt : i < ns.length
    · obtain ⟨g, rfl, _, hc⟩ := HT.out i hlt
      have e0 : ns.getD i [] = ns[i] := by simp [List.getD_eq_getElem?_getD, hlt]
      rw [e0] at hc
      have li : (i : Int) < (ns.length : Int) := by omega
      have N := Lib.hid (name_any ns[i] w1 (hlen _ (List.getElem_mem hlt)))
      have hnx : (ns.take (i + 1)).all isName = ((ns.take i).all isName && isName ns[i]) := by
        rw [List.take_succ_eq_append_getElem hlt, List.all_append]; simp
      have hbad : isName ns[i] = false → ns.all isName = false := fun h => by
        rw [List.all_eq_false]
        exact ⟨ns[i], List.getElem_mem hlt, by rw [h]; decide⟩
      have q2 : i + 1 ≤ ns.length := hlt
      generalize ns[i] = c at *
      cases hx : isName c with
      | false =>
        have HB := Lib.hid (hbad hx)
        rw [hx] at N
        clear hnx hbad hall hx e0 hlen
        go_wp2_with (go_at_call 82; (with_reducible refine N.out.mono ?_); rintro e w2 ⟨rfl, rfl⟩)
        go_ret
        exact ⟨by rw [HB.out]; rfl, H1.out⟩
      | true =>
        rw [hall, hx] at hnx
        have HX := Lib.hid hnx
        rw [hx] at N
        clear hnx hbad hall hx e0 hlen
        go_wp2_with (go_at_call 82; (with_reducible refine N.out.mono ?_); rintro e w2 ⟨rfl, rfl⟩)
        go_roundw
        case rel => exact ⟨i + 1, q2, by go_num, by trivial, HX.out⟩
        case measure => first | (simp [intOf]; done) | (simp [intOf]; omega)
    · have li : ¬ (i : Int) < (ns.length : Int) := by omega
      have HE := Lib.hid (show ns.all isName = true by rw [List.take_of_length_le (by omega)] at hall; exact hall)
      clear hall hlen
      go_wp2
      go_ret
      exact ⟨by rw [HE.out]; rfl, H1.out⟩

theorem names_ref (l : Bt) (w : World) (hl : l.length ≤ 100000) : Calls Try.prog 56 #[St l] w fun e w' => ∃ A C, e = .returned (.slice A (namesP l).length C) ∧ Tx w' w.heap.size A (namesP l) ∧ Below w.heap.size w w' := by
  have V := Lib.hid (valid_ref l w hl)
  cases hp : isPath l with
  | false =>
    have hn : namesP l = [] := by simp [namesP, hp]
    rw [hp] at V
    rw [hn]
    clear hn hp hl
    go_enter Try.func56, Try.ntmps56
    go_wp2_with (go_at_call 66; (with_reducible refine V.out.mono ?_); rintro e w1 ⟨rfl, hb⟩; have H1 := Lib.hid hb; clear hb)
    go_ret
    exact ⟨none, 0, rfl, tx_nil _ _ _, H1.out⟩
  | true =>
    have hn : namesP l = parts l := by simp [namesP, hp]
    rw [hp] at V
    rw [hn]
    have S := fun w => Lib.hid (split_tx l w hl)
    generalize parts l = ns at *
    clear hn hp hl
    go_enter Try.func56, Try.ntmps56
    go_wp2_with (first
      | (go_at_call 66; (with_reducible refine V.out.mono ?_); rintro e w1 ⟨rfl, hb⟩; have H1 := Lib.hid hb; clear hb)
      | (go_at_call 69; (with_reducible refine (S _).out.mono ?_); rintro e w2 ⟨A, C, rfl, ht, hb⟩; have H2 := Lib.hid (H1.out.trans (hb.mono H1.out.size)); have HT := Lib.hid (tx_mono ht H1.out.size); clear hb ht))
    go_ret
    exact ⟨A, C, rfl, HT.out, H2.out⟩
end Go.Proofs.Ytiglakhfkgeefaa
set_option linter.unusedSimpArgs false
namespace Go.Proofs.Ytiglakhfkgeefaa
open Go.Pth Go.RowKit Go.Word
attribute [local go_sem] guard_eq eql_dot eql_dots len_st eql_ts

set_option maxHeartbeats 1000000 in
theorem parent_ref (l : Bt) (w : World) (hl : l.length ≤ 100000) : Calls Try.prog 67 #[St l] w fun e w' => e = .returned (St (upP l)) ∧ Below w.heap.size w w' := by
  have S := Lib.hid (names_ref l w hl)
  by_cases h2 : (namesP l).length < 2
  · have hu : upP l = [] := by
      cases hp : isPath l with
      | false => simp [upP, hp]
      | true =>
        have hn : namesP l = parts l := by simp [namesP, hp]
        rw [hn] at h2
        rcases up_base l with ⟨e1, _, _⟩ | ⟨x, y, _, _, _, e4, _⟩
        · simp [upP, hp, e1]
        · rw [e4, List.length_append] at h2
          have := parts_pos x
          simp at h2
          omega
    rw [hu]
    have h2' : ((namesP l).length : Int) < 2 := by omega
    generalize namesP l = ns at *
    clear hu hl h2
    go_enter Try.func67, Try.ntmps67
    go_wp2_with (go_at_call 56; (with_reducible refine S.out.mono ?_); rintro e w1 ⟨A, C, rfl, ht, hb⟩; have H1 := Lib.hid hb; clear hb ht)
    go_ret
    exact ⟨rfl, H1.out⟩
  · have hp : isPath l = true := by
      cases hp : isPath l with
      | true => rfl
      | false => exact absurd (by simp [namesP, hp]) h2
    have hn : namesP l = parts l := by simp [namesP, hp]
    obtain ⟨x, y, e1, e2, _, e4, _⟩ : ∃ x y, l = x ++ 47 :: y ∧ up l = x ∧ base l = y ∧ parts l = parts x ++ [y] ∧ ∀ c ∈ y, c ≠ 47 := by
      rcases up_base l with ⟨_, _, e3⟩ | h
      · rw [hn, e3] at h2; simp at h2
      · exact h
    have hu : upP l = x := by simp [upP, hp, e2]
    rw [hu]
    have h2' : ¬ ((namesP l).length : Int) < 2 := by omega
    obtain ⟨m, hm⟩ : ∃ m, (namesP l).length = m + 1 := ⟨(namesP l).length - 1, by omega⟩
    have hy : (namesP l).getD m [] = y := by
      rw [hn, e4] at hm ⊢
      rw [List.length_append] at hm
      simp at hm
      simp [List.getD_eq_getElem?_getD, hm]
    have hm100 : m ≤ 6 := by have := names_six l; omega
    have hyl : y.length + x.length + 1 = l.length := by rw [e1]; simp; omega
    have sl : ∀ w, (Instr.slice 9 (St l) none (some (.int .i64 (x.length : Int))) none).run Try.prog w = .ok (St x) w := fun w => by
      rw [run_to l x.length (by omega), e1]
      simp
    have d1 : wrap64 (((namesP l).length : Int) - 1) = (m : Int) := by rw [wrap_in _ (by omega) (by omega)]; omega
    have d2 : wrap64 ((l.length : Int) - (y.length : Int)) = ((x.length + 1 : Nat) : Int) := by rw [wrap_in _ (by omega) (by omega)]; omega
    have d3 : wrap64 (((x.length + 1 : Nat) : Int) - 1) = (x.length : Int) := by rw [wrap_in _ (by omega) (by omega)]; omega
    have li : (m : Int) < ((namesP l).length : Int) := by omega
    have hmn : m < (namesP l).length := by omega
    have HY := Lib.hid hy
    generalize namesP l = ns at *
    generalize x.length + 1 = x1 at *
    clear hu hn hp hl h2 e1 e2 e4 hy
    go_enter Try.func67, Try.ntmps67
    go_wp2_with (go_at_call 56; (with_reducible refine S.out.mono ?_); rintro e w1 ⟨A, C, rfl, ht, hb⟩; have H1 := Lib.hid hb; obtain ⟨g, rfl, _, hc⟩ := ht m hmn; rw [HY.out] at hc; clear hb ht)
    go_ret
    exact ⟨rfl, H1.out⟩
end Go.Proofs.Ytiglakhfkgeefaa
