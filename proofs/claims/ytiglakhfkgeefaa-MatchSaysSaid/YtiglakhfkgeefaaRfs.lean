/-
What is proved here: the document's own Check and Find of a stock, by contracts.
-/
import Derived.Test.YtiglakhfkgeefaaAli
import Derived.Test.YtiglakhfkgeefaaOpp
import Derived.Deep.QuietTactic
import Derived.BigQuiet
set_option linter.unusedSimpArgs false
set_option linter.unusedVariables false
namespace Go.Stk
open Go.Pth
def find (cs : List Bt) (b : Bt) : Int := if b ∈ cs then (cs.idxOf b : Nat) else -1
theorem find_yes {cs : List Bt} {b : Bt} (h : b ∈ cs) : find cs b = (cs.idxOf b : Nat) := by unfold find; rw [if_pos h]
theorem find_no {cs : List Bt} {b : Bt} (h : b ∉ cs) : find cs b = -1 := by unfold find; rw [if_neg h]
theorem find_step {cs : List Bt} {b : Bt} {i : Nat} (h : i < cs.length) (hno : b ∉ cs.take i) (hy : cs[i] = b) : find cs b = (i : Int) := by
  have hin : b ∈ cs := hy ▸ List.getElem_mem h
  rw [find_yes hin]
  congr 1
  have e : cs = cs.take i ++ (cs[i] :: cs.drop (i + 1)) := by rw [List.getElem_cons_drop]; exact (List.take_append_drop i cs).symm
  rw [e, List.idxOf_append, if_neg hno, hy]
  simp
  omega
theorem not_in_succ {cs : List Bt} {b : Bt} {i : Nat} (h : i < cs.length) (hno : b ∉ cs.take i) (hy : cs[i] ≠ b) : b ∉ cs.take (i + 1) := by
  rw [List.take_succ_eq_append_getElem h]
  intro hm
  rcases List.mem_append.1 hm with h1 | h1
  · exact hno h1
  · exact hy (List.mem_singleton.1 h1).symm
end Go.Stk
namespace Go.Proofs.Ytiglakhfkgeefaa
open Go.Stk Go.Pth Go.Tre Go.RowKit Go.Word Go.Shelf
attribute [local go_sem] guard_eq guard_ne st_eql st_neq
set_option maxRecDepth 100000 in
set_option maxHeartbeats 4000000 in
theorem refscheck_any (A : Option Addr) (c : Nat) (ns : List Nat) (w : World) (h : LensAt w A ns) (hb : ∀ n ∈ ns, n ≤ 140737488355328) : Calls Try.prog 22 #[.slice A ns.length c] w fun e w' => e = .returned (.int .i64 (checkL ns)) ∧ w = w' := by
  obtain ⟨n, hn⟩ : ∃ n, n = ns.length := ⟨_, rfl⟩
  by_cases hlong : 65535 < ns.length
  · have e1 : checkL ns = 2 := by unfold checkL; rw [if_pos hlong]
    rw [e1]
    rw [← hn] at hlong ⊢
    have hl1 : (65535 : Int) < (n : Int) := by omega
    clear hn h e1 hb
    go_enter Try.func22, Try.ntmps22
    go_wp2
    go_ret
    exact ⟨rfl, rfl⟩
  have e1 : checkL ns = chkL 0 ns := by unfold checkL; rw [if_neg hlong]
  rw [e1]
  rw [← hn] at hlong ⊢
  have hl1 : ¬ ((65535 : Int) < (n : Int)) := by omega
  have H := Lib.hid h
  have HN := Lib.hid hn
  have HBD := Lib.hid hb
  obtain ⟨z, hz⟩ : ∃ z, z = chkL 0 ns := ⟨_, rfl⟩
  rw [← hz]
  have HZ := Lib.hid hz
  clear h hn e1 hb hz
  go_enter Try.func22, Try.ntmps22
  go_wp2
  go_loopw [3, 4] (fun v3 v11 wr => wr = w ∧ ∃ i a : Nat, i ≤ n ∧ a ≤ 65536 ∧ v3 = .int .i64 (a : Int) ∧ v11 = .int .i64 (i : Int) ∧ z = chkL a (ns.drop i)) (fun _ v11 _ => n - (intOf v11).toNat)
  case atStart => exact ⟨rfl, 0, 0, Nat.zero_le _, by omega, rfl, rfl, by simpa using HZ.out⟩
  case round =>
    obtain ⟨hw, i, a, hi, ha, rfl, rfl, hzz⟩ := hrel
    subst hw
    have HZZ := Lib.hid hzz
    clear hzz
    by_cases hlt : i < n
    · have li : (i : Int) < (n : Int) := by omega
      have lf : i < ns.length := by have := HN.out; omega
      obtain ⟨b, o, DA, dc, eA, hl, d1⟩ := H.out i lf
      subst eA
      have hm := HBD.out ns[i] (List.getElem_mem lf)
      have hcz : chkL a (ns.drop i) = if 8192 < ns[i] ∨ 65536 < a + ns[i] then 2 else chkL (a + ns[i]) (ns.drop (i + 1)) := by
        rw [← List.getElem_cons_drop lf]
        rfl
      rw [hcz] at HZZ
      generalize ns[i] = k at *
      by_cases hbad : 8192 < k ∨ 65536 < a + k
      · rw [if_pos hbad] at HZZ
        have hzv : z = 2 := HZZ.out
        subst hzv
        clear hcz HZZ
        by_cases hk : 8192 < k
        · have hk1 : (8192 : Int) < (k : Int) := by omega
          go_wp2
          go_ret
          exact ⟨rfl, rfl⟩
        · have hk1 : ¬ ((8192 : Int) < (k : Int)) := by omega
          have hk2 : (65536 : Int) < (a : Int) + (k : Int) := by omega
          go_wp2
          go_ret
          exact ⟨rfl, rfl⟩
      · rw [if_neg hbad] at HZZ
        have hk1 : ¬ ((8192 : Int) < (k : Int)) := by omega
        have hk2 : ¬ ((65536 : Int) < (a : Int) + (k : Int)) := by omega
        clear hcz
        go_wp2
        go_roundw
        case rel => exact ⟨trivial, i + 1, a + k, by omega, by omega, by go_num, by go_num, HZZ.out⟩
        case measure => first | (simp [intOf]; done) | (simp [intOf]; omega)
    · have hin : ¬ ((i : Int) < (n : Int)) := by omega
      have hz0 : z = 0 := by
        rw [HZZ.out, List.drop_of_length_le (by have := HN.out; omega)]
        rfl
      subst hz0
      go_wp2
      go_ret
      exact ⟨rfl, rfl⟩
set_option maxRecDepth 100000 in
set_option maxHeartbeats 4000000 in
theorem reffind_any (A DA : Option Addr) (c dc : Nat) (cs : List Bt) (b : Bt) (w : World) (hA : ListQ w A cs) (hb : BytesAt w DA b) (hn : cs.length ≤ 1000000) :
    Calls Try.prog 23 #[.slice A cs.length c, .slice DA b.length dc] w fun e w' => e = .returned (.int .i64 (find cs b)) ∧ ∃ m, w' = w.drewN m := by
  have HA := Lib.hid hA
  have HB := Lib.hid hb
  obtain ⟨n, hne⟩ : ∃ n, n = cs.length := ⟨_, rfl⟩
  have NN := Lib.hid hne
  obtain ⟨k, hke⟩ : ∃ k, k = b.length := ⟨_, rfl⟩
  have KE := Lib.hid hke
  obtain ⟨z, hz⟩ : ∃ z, z = find cs b := ⟨_, rfl⟩
  have ZE := Lib.hid hz
  rw [← hne] at hn ⊢
  rw [← hke, ← hz]
  clear hA hb hne hke hz
  go_enter Try.func23, Try.ntmps23
  go_wp2
  go_loopw [5] (fun v5 wr => ∃ i : Nat, i ≤ n ∧ v5 = .int .i64 (i : Int) ∧ b ∉ cs.take i ∧ ∃ m, wr = w.drewN m) (fun v5 _ => n - (intOf v5).toNat)
  case atStart => exact ⟨0, Nat.zero_le _, rfl, by simp, 0, rfl⟩
  case round =>
    obtain ⟨i, hi, rfl, hno, m0, hw0⟩ := hrel
    have hbw : Below w.heap.size w wr := hw0 ▸ below_drewN (Below.refl _ _) _
    have HQ := Lib.hid hw0
    clear hw0
    have NO := Lib.hid hno
    have HW := Lib.hid hbw
    clear hno hbw
    by_cases hlt : i < n
    · have li : (i : Int) < (n : Int) := by omega
      have lf : i < cs.length := by have := NN.out; omega
      obtain ⟨g, o', EA, ec, eA, hbl, d0, hby⟩ := HA.out i lf
      subst eA
      have d1 := (HW.out.cell (p := ⟨g, o' + i, none⟩) hbl).trans d0
      have cv1 := fun q => run_text47 EA cs[i] ec (wr.drewN q) (bytesAt_below hby (below_drewN HW.out q))
      have cv2 := fun q => run_text47 DA b dc (wr.drewN q) (bytesAt_below HB.out (below_drewN HW.out q))
      rw [← KE.out] at cv2
      have STEP := Lib.hid (show cs[i] = b → z = (i : Int) from fun e => ZE.out.trans (find_step lf NO.out e))
      have MORE := Lib.hid (show cs[i] ≠ b → b ∉ cs.take (i + 1) from fun e => not_in_succ lf NO.out e)
      generalize hx : cs[i] = x at *
      clear hx d0 hby
      generalize x.length = xl at *
      by_cases he : x = b
      · have se : same x b = true := decide_eq_true he
        obtain rfl := STEP.out he
        clear he STEP MORE
        go_upto_region 4 with (fail)
        go_quiet (fail)
        go_wp2
        go_ret
        exact ⟨rfl, m0 + nq, by rw [HQ.out, World.drewN_drewN]⟩
      · have se : same x b = false := decide_eq_false he
        have MO := Lib.hid (MORE.out he)
        clear he
        go_upto_region 4 with (fail)
        go_quiet (fail)
        go_wp2
        go_roundw
        case rel => exact ⟨i + 1, by omega, by go_num, MO.out, m0 + nq, by rw [HQ.out, World.drewN_drewN]⟩
        case measure => first | (simp [intOf]; done) | (simp [intOf]; omega)
    · obtain rfl : i = n := by omega
      have li : ¬ ((i : Int) < (i : Int)) := by omega
      obtain rfl : z = -1 := by
        have h5 := NO.out
        rw [List.take_of_length_le (by have := NN.out; omega)] at h5
        rw [ZE.out, find_no h5]
      go_wp2
      go_ret
      exact ⟨rfl, m0, HQ.out⟩
end Go.Proofs.Ytiglakhfkgeefaa
