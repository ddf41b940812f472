/-
What is proved here: the document's own look at one name, by a contract.
-/
import Derived.Test.YtdnagkgblmcojaaKep
set_option linter.unusedSimpArgs false
namespace Go.Proofs.Ytdnagkgblmcojaa
open Go.Pth Go.RowKit Go.Word

theorem eql_st (t : TypeId) (a b : Bt) (v : ByteArray) (hv : v = ⟨b.toArray⟩) : binOp .eql t (St a) (.string v) = pure (.bool (same a b)) := by
  subst hv; exact st_eql t a b
theorem len_st (ty : TypeId) (l : Bt) (w : World) : (Builtin.len_ #[9] ty #[St l]).run Try.prog w = .ok (.int .i64 (l.length : Int)) w := by
  unfold St
  rw [run_len_string w 9 ty _ Try.underlying9, size_st]
  rfl
theorem index_st (l : Bt) (i : Nat) (h : i < l.length) (w : World) : (Instr.index 9 (St l) (.int .i64 i)).run Try.prog w = .ok (.int .u8 (l[i].toNat : Int)) w := by
  unfold St
  rw [run_index_string w 9 _ .i64 i Try.underlying9]
  have h1 : 0 ≤ (i : Int) ∧ (i : Int) < ((ByteArray.mk l.toArray).size : Int) := by rw [size_st]; omega
  rw [dif_pos h1]
  have := get_st l i h
  simp only [Int.toNat_natCast]
  rw [this]
theorem eql_dot (t : TypeId) (a : Bt) : binOp .eql t (St a) (.string { data := #[46] }) = pure (.bool (same a [46])) := st_eql t a [46]
theorem eql_dots (t : TypeId) (a : Bt) : binOp .eql t (St a) (.string { data := #[46, 46] }) = pure (.bool (same a [46, 46])) := st_eql t a [46, 46]
attribute [local go_sem] guard_eq eql_dot eql_dots len_st

theorem okb_iff (c : UInt8) : okb c = true ↔ (97 ≤ (c.toNat : Int) ∧ (c.toNat : Int) ≤ 122 ∨ 48 ≤ (c.toNat : Int) ∧ (c.toNat : Int) ≤ 57 ∨ (c.toNat : Int) = 46 ∨ (c.toNat : Int) = 95 ∨ (c.toNat : Int) = 45) := by
  unfold okb
  rw [decide_eq_true_eq]
  omega

set_option maxHeartbeats 2000000 in
theorem name_any (l : Bt) (w : World) (hl : l.length ≤ 100000) : Calls Try.prog 33 #[St l] w fun e w' => e = .returned (.bool (isName l)) ∧ w = w' := by
  by_cases h1 : l.length < 1
  · have hn : isName l = false := by
      have : l = [] := List.eq_nil_of_length_eq_zero (by omega)
      subst this; decide
    rw [hn]
    have h1' : (l.length : Int) < 1 := by omega
    clear hn h1 hl
    go_enter Try.func33, Try.ntmps33
    go_wp2
    go_ret
    exact ⟨rfl, rfl⟩
  have h1' : ¬ (l.length : Int) < 1 := by omega
  by_cases h2 : 14 < l.length
  · have hn : isName l = false := by
      have : ¬ l.length ≤ 14 := by omega
      simp [isName, this]
    rw [hn]
    have h2' : 14 < (l.length : Int) := by omega
    clear hn h1 h2 hl
    go_enter Try.func33, Try.ntmps33
    go_wp2
    go_ret
    exact ⟨rfl, rfl⟩
  have h2' : ¬ 14 < (l.length : Int) := by omega
  by_cases h3 : l = [46]
  · have hn : isName l = false := by subst h3; decide
    rw [hn]
    have h3' : same l [46] = true := decide_eq_true h3
    clear hn h1 h2 h3 hl
    go_enter Try.func33, Try.ntmps33
    go_wp2
    go_ret
    exact ⟨rfl, rfl⟩
  have h3' : same l [46] = false := decide_eq_false h3
  by_cases h4 : l = [46, 46]
  · have hn : isName l = false := by subst h4; decide
    rw [hn]
    have h4' : same l [46, 46] = true := decide_eq_true h4
    clear hn h1 h2 h3 h4 hl
    go_enter Try.func33, Try.ntmps33
    go_wp2
    go_ret
    exact ⟨rfl, rfl⟩
  have h4' : same l [46, 46] = false := decide_eq_false h4
  have hi : isName l = l.all okb := by
    have e1 : l ≠ [] := fun e => h1 (by rw [e]; decide)
    have e2 : l.length ≤ 14 := by omega
    simp [isName, stands, e1, e2, h3, h4]
  rw [hi]
  clear hi h1 h3 h4 hl
  go_enter Try.func33, Try.ntmps33
  go_wp2
  go_loopw [3] (fun x wr => ∃ i : Nat, i ≤ l.length ∧ x = .int .i64 i ∧ w = wr ∧ (l.take i).all okb = true) (fun x _ => l.length - (intOf x).toNat)
  case atStart => exact ⟨0, by omega, rfl, by trivial, rfl⟩
  case round =>
    obtain ⟨i, hil, rfl, rfl, hall⟩ := hrel
    by_cases hi : i < l.length
    · have hix := index_st l i hi
      have li : (i : Int) < (l.length : Int) := by omega
      have hok := okb_iff l[i]
      have hnx : (l.take (i + 1)).all okb = ((l.take i).all okb && okb l[i]) := by
        rw [List.take_succ_eq_append_getElem hi, List.all_append]; simp
      have hbad : okb l[i] = false → l.all okb = false := fun h => by
        rw [List.all_eq_false]
        exact ⟨l[i], List.getElem_mem hi, by rw [h]; decide⟩
      generalize l[i] = c at *
      cases hc : okb c with
      | true =>
        have hcc := hok.1 hc
        rw [hall, hc] at hnx
        have HX := Lib.hid hnx
        have q2 : i + 1 ≤ l.length := hi
        have q3 : l.length - (i + 1) < l.length - i := by omega
        clear hok hbad hc hnx
        generalize (c.toNat : Int) = b at *
        go_wp2
        all_goals first | (exfalso; omega) | (exfalso; rename_i h; simp at h; omega) | (exfalso; rename_i h _; simp at h; omega) | (exfalso; rename_i h _ _; simp at h; omega) | skip
        all_goals go_roundw
        all_goals first
          | exact ⟨i + 1, q2, by go_num, by trivial, HX.out⟩
          | (simp [intOf]; done)
          | (simp [intOf]; omega)
      | false =>
        have hcc : ¬ _ := fun h => by have := hok.2 h; rw [hc] at this; cases this
        have HB := Lib.hid (hbad hc)
        clear hok hbad hc hnx
        generalize (c.toNat : Int) = b at *
        go_wp2
        all_goals first | (exfalso; omega) | (exfalso; rename_i h; simp at h; omega) | (exfalso; rename_i h _; simp at h; omega) | (exfalso; rename_i h _ _; simp at h; omega) | skip
        all_goals go_ret
        all_goals exact ⟨by rw [HB.out]; rfl, rfl⟩
    · have li : ¬ (i : Int) < (l.length : Int) := by omega
      have e : l.all okb = true := by rw [List.take_of_length_le (by omega)] at hall; exact hall
      have HE := Lib.hid e
      clear e
      go_wp2
      go_ret
      exact ⟨by rw [HE.out]; rfl, rfl⟩
end Go.Proofs.Ytdnagkgblmcojaa
