/-
What is proved here: the document's own split of a text at its slashes, by a contract.
-/
import Derived.Test.YtdnagkgblmcojaaRefN
import Derived.Test.YtdnagkgblmcojaaKep
set_option linter.unusedSimpArgs false
namespace Go.Proofs.Ytdnagkgblmcojaa
open Go.Pth Go.RowKit Go.Word
attribute [local go_sem] guard_eq eql_dot eql_dots len_st

theorem str_info : (Try.prog.info? 9).map (fun i => (i.zero, i.size, i.bytes)) = some (some (.string ⟨#[]⟩), 1, 16) := by kernel_rfl
theorem cut_count (l : Bt) : (cutAt l).2.length ≤ l.length := by
  induction l with
  | nil => simp [cutAt]
  | cons c r ih =>
    by_cases h : c = 47
    · subst h; simp only [cutAt, if_true, List.length_cons]; omega
    · simp only [cutAt, h, if_false, List.length_cons]; omega
theorem parts_count (l : Bt) : (parts l).length ≤ l.length + 1 := by
  have := cut_count l
  simp [parts]; omega

theorem append_below {w wr w1 : World} {v : Value} {k : Nat} {xs : List Value} {tmp : Obj} (hrow : wr.ownsRow w.heap.size 9 1 v k xs) (hB : Below w.heap.size w wr) (hg : (wr.alloc tmp).grownBy w1 v.ownBlock) : Below w.heap.size w w1 :=
  (hB.alloc hB.size tmp).grown hg (by have := hB.size; simp; omega) (fun j ej => (World.ownsRow.lt hrow j ej).1)

set_option maxRecDepth 100000 in
set_option maxHeartbeats 4000000 in
theorem split_ref (l : Bt) (w : World) (hl : l.length ≤ 100000) : Calls Try.prog 32 #[St l] w fun e w' => ∃ v, e = .returned v ∧ w'.ownsRow w.heap.size 9 1 v (parts l).length ((parts l).map St) ∧ Below w.heap.size w w' := by
  obtain ⟨i0, hi, hz0, hz1, hz2⟩ := info_parts str_info
  have hcnt := parts_count l
  go_enter Try.func32, Try.ntmps32
  go_wp2
  go_loopw [3, 4, 5] (fun v x y wr => ∃ (i f : Nat) (done : List Bt), y = .int .i64 i ∧ x = .int .i64 f ∧ f ≤ i ∧ i ≤ l.length ∧ (∀ c ∈ (l.drop f).take (i - f), c ≠ 47) ∧ parts l = done ++ parts (l.drop f) ∧ wr.ownsRow w.heap.size 9 1 v done.length (done.map St) ∧ Below w.heap.size w wr) (fun _ _ y _ => l.length - (intOf y).toNat)
  case atStart => exact ⟨0, 0, [], rfl, rfl, by omega, by omega, fun c hc => by simp at hc, rfl, World.ownsRow_nil _ _ _ _, Below.refl _ _⟩
  case round =>
    obtain ⟨i, f, done, rfl, rfl, hfi, hil, hno, hpl, hrow, hB⟩ := hrel
    have hdl : done.length ≤ 100000 := by
      have := parts_pos (l.drop f)
      rw [hpl, List.length_append] at hcnt
      omega
    have HB := Lib.hid hB
    by_cases hlt : i < l.length
    · have hix := index_st l i hlt
      have li : (i : Int) < (l.length : Int) := by omega
      have q1 : f ≤ i + 1 := by omega
      have q2 : i + 1 ≤ l.length := hlt
      have q3 : l.length - (i + 1) < l.length - i := by omega
      have wi : wrap64 ((i : Int) + 1) = ((i + 1 : Nat) : Int) := by rw [wrap_in _ (by omega) (by omega)]; omega
      have hsl := run_sub l f i hfi hil
      have hnx : (l.drop f).take (i + 1 - f) = (l.drop f).take (i - f) ++ [l[i]] := by
        rw [show i + 1 - f = i - f + 1 by omega, List.take_succ_eq_append_getElem (by simp; omega)]
        simp only [List.getElem_drop, show f + (i - f) = i by omega]
      have hdr : l.drop f = (l.drop f).take (i - f) ++ l[i] :: l.drop (i + 1) := by
        conv => lhs; rw [← List.take_append_drop (i - f) (l.drop f)]
        rw [List.drop_drop, show f + (i - f) = i by omega, List.drop_eq_getElem_cons hlt]
      have HX := Lib.hid hnx
      have HD := Lib.hid hdr
      clear hnx hdr hB
      by_cases h47 : l[i] = 47
      · have h47n : (l[i].toNat : Int) = 47 := by rw [h47]; decide
        rw [h47n] at hix
        have hpp : parts (l.drop f) = (l.drop f).take (i - f) :: parts (l.drop (i + 1)) := by
          conv => lhs; rw [HD.out, h47]
          rw [parts_app, parts_none _ hno]
          rfl
        have hnl : parts l = done ++ [(l.drop f).take (i - f)] ++ parts (l.drop (i + 1)) := by rw [hpl, hpp]; simp
        generalize (l.drop f).take (i - f) = cur at *
        have HP := Lib.hid hnl
        clear hnl hpp hpl HD HX hno h47 h47n hcnt
        go_wp2_with (refine wpList_append_own _ rfl _ _ 29 rfl w.heap.size 9 i0 (.string ⟨#[]⟩) 1 16 Try.underlying29 hi hz0 hz1 hz2 rfl (by decide) _ _ _ rfl (hrow.alloc _) ⟨wr.heap.size, 0, none⟩ 1 1 [St cur] rfl rfl (cell_one_new _ _ _) (fun y hy => by rw [List.mem_singleton] at hy; subst hy; rfl) (by unfold maxLen; omega) (by omega) (by have := HB.out.size; simp; omega) ?_; intro v' w1 hown' hgrow _; have HB1 := Lib.hid (append_below hrow HB.out hgrow); have HO := Lib.hid hown'; clear hgrow hown')
        · rename_i h
          rcases h with h | h
          · exact absurd h (by simp [St])
          · exact absurd h (by simp [St])
        · go_roundw
          case rel => exact ⟨i + 1, i + 1, done ++ [cur], by go_num, by go_num, Nat.le_refl _, q2, fun c hc => by simp at hc, HP.out, by simpa using HO.out, HB1.out⟩
          case measure => first | (simp [intOf]; done) | (simp [intOf]; omega)
      · have h47n : (l[i].toNat : Int) ≠ 47 := fun e => h47 (UInt8.toNat_inj.1 (by show l[i].toNat = 47; omega))
        have hno2 : ∀ c ∈ (l.drop f).take (i + 1 - f), c ≠ 47 := fun c hc => by
          rw [HX.out] at hc
          rcases List.mem_append.1 hc with hc | hc
          · exact hno c hc
          · rw [List.mem_singleton] at hc
            rw [hc]; exact h47
        have HN := Lib.hid hno2
        have HP := Lib.hid hpl
        have HR := Lib.hid hrow
        clear hno2 hno HX HD h47 hpl hcnt hrow
        generalize l[i].toNat = c at *
        go_wp2
        go_roundw
        case rel => exact ⟨i + 1, f, done, by go_num, rfl, q1, q2, HN.out, HP.out, HR.out, HB.out⟩
        case measure => first | (simp [intOf]; done) | (simp [intOf]; omega)
    · obtain rfl : i = l.length := by omega
      have li : ¬ (l.length : Int) < (l.length : Int) := by omega
      have hsl := run_from l f (by omega)
      have e1 : (l.drop f).take (l.length - f) = l.drop f := List.take_of_length_le (by simp)
      rw [e1] at hno
      rw [parts_none _ hno] at hpl
      generalize l.drop f = cur at *
      have HP := Lib.hid hpl
      clear e1 hno hpl hcnt hB
      go_wp2_with (refine wpList_append_own _ rfl _ _ 29 rfl w.heap.size 9 i0 (.string ⟨#[]⟩) 1 16 Try.underlying29 hi hz0 hz1 hz2 rfl (by decide) _ _ _ rfl (hrow.alloc _) ⟨wr.heap.size, 0, none⟩ 1 1 [St cur] rfl rfl (cell_one_new _ _ _) (fun y hy => by rw [List.mem_singleton] at hy; subst hy; rfl) (by unfold maxLen; omega) (by omega) (by have := HB.out.size; simp; omega) ?_; intro v' w1 hown' hgrow _; have HB1 := Lib.hid (append_below hrow HB.out hgrow); have HO := Lib.hid hown'; clear hgrow hown')
      · rename_i h
        rcases h with h | h
        · exact absurd h (by simp [St])
        · exact absurd h (by simp [St])
      · go_ret
        refine ⟨_, rfl, ?_, HB1.out⟩
        rw [HP.out]
        simpa using HO.out
end Go.Proofs.Ytdnagkgblmcojaa
