/-
What is proved here: the document's own Check, by a contract.
-/
import Derived.Test.YtlnmaejpchncoaaDoorKChk
set_option linter.unusedSimpArgs false
namespace Go.Proofs.YtlnmaejpchncoaaDoor.K
open Go.Stk Go.RowKit Go.Word
attribute [local go_sem] guard_eq guard_ne st_eql st_neq
set_option maxRecDepth 100000 in
set_option maxHeartbeats 4000000 in
theorem refcheck_any (A : Option Addr) (c : Nat) (ns : List Nat) (w : World) (h : LensAt w A ns) (hb : ∀ n ∈ ns, n ≤ 140737488355328) : Calls Tryd.prog 9 #[.slice A ns.length c] w fun e w' => e = .returned (.int .i64 (checkL ns)) ∧ w = w' := by
  obtain ⟨n, hn⟩ : ∃ n, n = ns.length := ⟨_, rfl⟩
  by_cases hlong : 65535 < ns.length
  · have e1 : checkL ns = 2 := by unfold checkL; rw [if_pos hlong]
    rw [e1]
    rw [← hn] at hlong ⊢
    have hl1 : (65535 : Int) < (n : Int) := by omega
    clear hn h e1 hb
    go_enter Tryd.func9, Tryd.ntmps9
    go_wp2
    go_ret
    exact ⟨rfl, rfl⟩
  have e1 : checkL ns = chkL 0 ns := by unfold checkL; rw [if_neg hlong]
  rw [e1]
  rw [← hn] at hlong ⊢
  have hl1 : ¬ ((65535 : Int) < (n : Int)) := by omega
  have H := Lib.hid h
  have HN := Lib.hid hn
  have HBD := Lib.hid hb
  obtain ⟨z, hz⟩ : ∃ z, z = chkL 0 ns := ⟨_, rfl⟩
  rw [← hz]
  have HZ := Lib.hid hz
  clear h hn e1 hb hz
  go_enter Tryd.func9, Tryd.ntmps9
  go_wp2
  go_loopw [3, 4] (fun v3 v11 wr => wr = w ∧ ∃ i a : Nat, i ≤ n ∧ a ≤ 65536 ∧ v3 = .int .i64 (a : Int) ∧ v11 = .int .i64 (i : Int) ∧ z = chkL a (ns.drop i)) (fun _ v11 _ => n - (intOf v11).toNat)
  case atStart => exact ⟨rfl, 0, 0, Nat.zero_le _, by omega, rfl, rfl, by simpa using HZ.out⟩
  case round =>
    obtain ⟨hw, i, a, hi, ha, rfl, rfl, hzz⟩ := hrel
    subst hw
    have HZZ := Lib.hid hzz
    clear hzz
    by_cases hlt : i < n
    · have li : (i : Int) < (n : Int) := by omega
      have lf : i < ns.length := by have := HN.out; omega
      obtain ⟨b, o, DA, dc, eA, hl, d1⟩ := H.out i lf
      subst eA
      have hm := HBD.out ns[i] (List.getElem_mem lf)
      have hcz : chkL a (ns.drop i) = if 8192 < ns[i] ∨ 65536 < a + ns[i] then 2 else chkL (a + ns[i]) (ns.drop (i + 1)) := by
        rw [← List.getElem_cons_drop lf]
        rfl
      rw [hcz] at HZZ
      generalize ns[i] = k at *
      by_cases hbad : 8192 < k ∨ 65536 < a + k
      · rw [if_pos hbad] at HZZ
        have hzv : z = 2 := HZZ.out
        subst hzv
        clear hcz HZZ
        by_cases hk : 8192 < k
        · have hk1 : (8192 : Int) < (k : Int) := by omega
          go_wp2
          go_ret
          exact ⟨rfl, rfl⟩
        · have hk1 : ¬ ((8192 : Int) < (k : Int)) := by omega
          have hk2 : (65536 : Int) < (a : Int) + (k : Int) := by omega
          go_wp2
          go_ret
          exact ⟨rfl, rfl⟩
      · rw [if_neg hbad] at HZZ
        have hk1 : ¬ ((8192 : Int) < (k : Int)) := by omega
        have hk2 : ¬ ((65536 : Int) < (a : Int) + (k : Int)) := by omega
        clear hcz
        go_wp2
        go_roundw
        case rel => exact ⟨trivial, i + 1, a + k, by omega, by omega, by go_num, by go_num, HZZ.out⟩
        case measure => first | (simp [intOf]; done) | (simp [intOf]; omega)
    · have hin : ¬ ((i : Int) < (n : Int)) := by omega
      have hz0 : z = 0 := by
        rw [HZZ.out, List.drop_of_length_le (by have := HN.out; omega)]
        rfl
      subst hz0
      go_wp2
      go_ret
      exact ⟨rfl, rfl⟩
end Go.Proofs.YtlnmaejpchncoaaDoor.K
