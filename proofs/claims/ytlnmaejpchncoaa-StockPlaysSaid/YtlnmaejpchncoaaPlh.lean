/-
What is proved here: what StockPlays leans on: much, the document's own Find, sameAll, by contracts.
-/
import Derived.Test.YtlnmaejpchncoaaFnd
set_option linter.unusedSimpArgs false
set_option linter.unusedVariables false
namespace Go.Stk
def totO (os : List Opr) : Nat := (os.map fun o => 1 + o.data.length).sum
theorem totO_snoc (ls : List Opr) (i : Nat) (h : i < ls.length) : totO (ls.take (i + 1)) = totO (ls.take i) + (1 + ls[i].data.length) := by
  unfold totO
  rw [List.take_succ_eq_append_getElem h, List.map_append, List.sum_append]
  simp
theorem totO_le (ls : List Opr) : ∀ i, totO (ls.take i) ≤ totO ls := fun i => by
  unfold totO
  conv => rhs; rw [← List.take_append_drop i ls]
  rw [List.map_append, List.sum_append]
  omega
theorem find_step {cs : List Bt} {b : Bt} {i : Nat} (h : i < cs.length) (hno : b ∉ cs.take i) (hy : cs[i] = b) : find cs b = (i : Int) := by
  have hin : b ∈ cs := hy ▸ List.getElem_mem h
  rw [find_yes hin]
  congr 1
  have e : cs = cs.take i ++ (cs[i] :: cs.drop (i + 1)) := by rw [List.getElem_cons_drop]; exact (List.take_append_drop i cs).symm
  rw [e, List.idxOf_append, if_neg hno, hy]
  simp
  omega
theorem not_in_succ {cs : List Bt} {b : Bt} {i : Nat} (h : i < cs.length) (hno : b ∉ cs.take i) (hy : cs[i] ≠ b) : b ∉ cs.take (i + 1) := by
  rw [List.take_succ_eq_append_getElem h]
  intro hm
  rcases List.mem_append.1 hm with h1 | h1
  · exact hno h1
  · exact hy (List.mem_singleton.1 h1).symm
end Go.Stk
namespace Go.Proofs.Ytlnmaejpchncoaa
open Go.Stk Go.RowKit Go.Word
attribute [local go_sem] guard_eq guard_ne st_eql st_neq
/-- what much tells: where it is no, the calls are few and short -/
def MuchP (os : List Opr) (e : Ending) : Prop := ∃ b, e = .returned (.bool b) ∧ (b = false → totO os ≤ 70000 ∧ os.length ≤ 200)
theorem much_yes (os : List Opr) : MuchP os (.returned (.bool true)) := ⟨true, rfl, fun h => by cases h⟩
theorem much_no {os : List Opr} (h : totO os ≤ 70000 ∧ os.length ≤ 200) : MuchP os (.returned (.bool false)) := ⟨false, rfl, fun _ => h⟩
set_option maxRecDepth 100000 in
set_option maxHeartbeats 4000000 in
theorem much_any (A : Option Addr) (c : Nat) (os : List Opr) (w : World) (ho : OpsAt w A os) (h1 : os.length ≤ 140737488355328) (h2 : ∀ x ∈ os, x.data.length ≤ 140737488355328) :
    Calls Try.prog 9 #[.slice A os.length c] w fun e w' => MuchP os e ∧ w = w' := by
  have HO := Lib.hid ho
  have H2 := Lib.hid h2
  obtain ⟨n, hn⟩ : ∃ n, n = os.length := ⟨_, rfl⟩
  have NN := Lib.hid hn
  rw [← hn] at h1 ⊢
  clear ho h2 hn
  go_enter Try.func9, Try.ntmps9
  go_wp2
  go_loopw [3, 4] (fun v3 v4 wr => wr = w ∧ ∃ i k : Nat, i ≤ n ∧ k ≤ 150000000000000 ∧ v3 = .int .i64 (k : Int) ∧ v4 = .int .i64 (i : Int) ∧ k = totO (os.take i)) (fun _ v4 _ => n - (intOf v4).toNat)
  case atStart => exact ⟨rfl, 0, 0, Nat.zero_le _, Nat.zero_le _, rfl, rfl, by simp [totO]⟩
  case round =>
    obtain ⟨hw, i, k, hi, hk, rfl, rfl, hkk⟩ := hrel
    have hw := hw.symm
    subst hw
    have KK := Lib.hid hkk
    clear hkk
    by_cases hgo : i < n ∧ k ≤ 70000
    · have li : (i : Int) < (n : Int) := by omega
      have lk : (k : Int) ≤ 70000 := by omega
      have lf : i < os.length := by have := NN.out; omega
      obtain ⟨b, o', DA, dc, eA, hlt, _, _, d1, _⟩ := HO.out i lf
      subst eA
      have hx := H2.out os[i] (List.getElem_mem lf)
      have TS := Lib.hid (totO_snoc os i lf)
      generalize os[i].data.length = x at *
      go_wp2
      go_roundw
      case rel => exact ⟨trivial, i + 1, k + 1 + x, by omega, by omega, by go_num, by go_num, by rw [TS.out, ← KK.out]; omega⟩
      case measure => first | (simp [intOf]; done) | (simp [intOf]; omega)
    · by_cases hin : i < n
      · have li : (i : Int) < (n : Int) := by omega
        have lk : ¬ ((k : Int) ≤ 70000) := by omega
        have lk2 : (70000 : Int) < (k : Int) := by omega
        go_wp2
        go_ret
        exact ⟨much_yes os, rfl⟩
      · obtain rfl : i = n := by omega
        have li : ¬ ((i : Int) < (i : Int)) := by omega
        by_cases hk7 : (70000 : Int) < (k : Int)
        · go_wp2
          go_ret
          exact ⟨much_yes os, rfl⟩
        by_cases hi2 : (200 : Int) < (i : Int)
        · go_wp2
          go_ret
          exact ⟨much_yes os, rfl⟩
        · have FA : Hid (totO os ≤ 70000 ∧ os.length ≤ 200) := Lib.hid ⟨by
            have h5 := KK.out
            rw [List.take_of_length_le (by have := NN.out; omega)] at h5
            omega, by have := NN.out; omega⟩
          go_wp2
          go_ret
          exact ⟨much_no FA.out, rfl⟩
set_option maxRecDepth 100000 in
set_option maxHeartbeats 4000000 in
theorem reffind_any (A DA : Option Addr) (c dc : Nat) (cs : List Bt) (b : Bt) (w : World) (hA : ListAt w A cs) (hb : BytesAt w DA b) (hn : cs.length ≤ 1000000) :
    Calls Try.prog 14 #[.slice A cs.length c, .slice DA b.length dc] w fun e w' => e = .returned (.int .i64 (find cs b)) ∧ ∃ m, w' = w.drewN m := by
  have HA := Lib.hid hA
  have HB := Lib.hid hb
  obtain ⟨n, hne⟩ : ∃ n, n = cs.length := ⟨_, rfl⟩
  have NN := Lib.hid hne
  obtain ⟨k, hke⟩ : ∃ k, k = b.length := ⟨_, rfl⟩
  have KE := Lib.hid hke
  obtain ⟨z, hz⟩ : ∃ z, z = find cs b := ⟨_, rfl⟩
  have ZE := Lib.hid hz
  rw [← hne] at hn ⊢
  rw [← hke, ← hz]
  clear hA hb hne hke hz
  go_enter Try.func14, Try.ntmps14
  go_wp2
  go_loopw [5] (fun v5 wr => ∃ i : Nat, i ≤ n ∧ v5 = .int .i64 (i : Int) ∧ b ∉ cs.take i ∧ ∃ m, wr = w.drewN m) (fun v5 _ => n - (intOf v5).toNat)
  case atStart => exact ⟨0, Nat.zero_le _, rfl, by simp, 0, rfl⟩
  case round =>
    obtain ⟨i, hi, rfl, hno, m0, hw0⟩ := hrel
    have hbw : Below w.heap.size w wr := hw0 ▸ below_drewN (Below.refl _ _) _
    have HQ := Lib.hid hw0
    clear hw0
    have NO := Lib.hid hno
    have HW := Lib.hid hbw
    clear hno hbw
    by_cases hlt : i < n
    · have li : (i : Int) < (n : Int) := by omega
      have lf : i < cs.length := by have := NN.out; omega
      obtain ⟨g, o', EA, ec, eA, hbl, d0, hby⟩ := HA.out i lf
      subst eA
      have d1 := (HW.out.cell (p := ⟨g, o' + i, none⟩) hbl).trans d0
      have cv1 := fun q => run_text EA cs[i] ec (wr.drewN q) (bytesAt_below hby (below_drewN HW.out q))
      have cv2 := fun q => run_text DA b dc (wr.drewN q) (bytesAt_below HB.out (below_drewN HW.out q))
      rw [← KE.out] at cv2
      have STEP := Lib.hid (show cs[i] = b → z = (i : Int) from fun e => ZE.out.trans (find_step lf NO.out e))
      have MORE := Lib.hid (show cs[i] ≠ b → b ∉ cs.take (i + 1) from fun e => not_in_succ lf NO.out e)
      generalize hx : cs[i] = x at *
      clear hx d0 hby
      generalize x.length = xl at *
      by_cases he : x = b
      · have se : same x b = true := decide_eq_true he
        obtain rfl := STEP.out he
        clear he STEP MORE
        go_upto_region 4 with (fail)
        go_quiet (fail)
        go_wp2
        go_ret
        exact ⟨rfl, m0 + nq, by rw [HQ.out, World.drewN_drewN]⟩
      · have se : same x b = false := decide_eq_false he
        have MO := Lib.hid (MORE.out he)
        clear he
        go_upto_region 4 with (fail)
        go_quiet (fail)
        go_wp2
        go_roundw
        case rel => exact ⟨i + 1, by omega, by go_num, MO.out, m0 + nq, by rw [HQ.out, World.drewN_drewN]⟩
        case measure => first | (simp [intOf]; done) | (simp [intOf]; omega)
    · obtain rfl : i = n := by omega
      have li : ¬ ((i : Int) < (i : Int)) := by omega
      obtain rfl : z = -1 := by
        have h5 := NO.out
        rw [List.take_of_length_le (by have := NN.out; omega)] at h5
        rw [ZE.out, find_no h5]
      go_wp2
      go_ret
      exact ⟨rfl, m0, HQ.out⟩
set_option maxRecDepth 100000 in
set_option maxHeartbeats 4000000 in
theorem sameall_any (A B : Option Addr) (c d : Nat) (cs : List Bt) (w : World) (hA : ListAt w A cs) (hB : ListAt w B cs) (hn : cs.length ≤ 1000000) :
    Calls Try.prog 19 #[.slice A cs.length c, .slice B cs.length d] w fun e w' => e = .returned (.bool true) ∧ ∃ m, w' = w.drewN m := by
  have HA := Lib.hid hA
  have HB := Lib.hid hB
  obtain ⟨n, hne⟩ : ∃ n, n = cs.length := ⟨_, rfl⟩
  have NN := Lib.hid hne
  rw [← hne] at hn ⊢
  clear hA hB hne
  go_enter Try.func19, Try.ntmps19
  go_wp2
  go_loopw [5] (fun v5 wr => ∃ i : Nat, i ≤ n ∧ v5 = .int .i64 (i : Int) ∧ ∃ m, wr = w.drewN m) (fun v5 _ => n - (intOf v5).toNat)
  case atStart => exact ⟨0, Nat.zero_le _, rfl, 0, rfl⟩
  case round =>
    obtain ⟨i, hi, rfl, m0, hw0⟩ := hrel
    have hbw : Below w.heap.size w wr := hw0 ▸ below_drewN (Below.refl _ _) _
    have HQ := Lib.hid hw0
    clear hw0
    have HW := Lib.hid hbw
    clear hbw
    by_cases hlt : i < n
    · have li : (i : Int) < (n : Int) := by omega
      have lf : i < cs.length := by have := NN.out; omega
      obtain ⟨g, o', EA, ec, eA, hbl, d0, hby⟩ := HA.out i lf
      obtain ⟨g2, o2, EB, ed, eB, hbl2, d02, hby2⟩ := HB.out i lf
      subst eA eB
      have d1 := (HW.out.cell (p := ⟨g, o' + i, none⟩) hbl).trans d0
      have d2 := (HW.out.cell (p := ⟨g2, o2 + i, none⟩) hbl2).trans d02
      have cv1 := fun q => run_text EA cs[i] ec (wr.drewN q) (bytesAt_below hby (below_drewN HW.out q))
      have cv2 := fun q => run_text EB cs[i] ed (wr.drewN q) (bytesAt_below hby2 (below_drewN HW.out q))
      generalize hx : cs[i] = x at *
      clear hx d0 hby d02 hby2
      have se : other x x = false := decide_eq_false (by simp)
      generalize x.length = xl at *
      go_upto_region 6 with (fail)
      go_quiet (fail)
      go_wp2
      go_roundw
      case rel => exact ⟨i + 1, by omega, by go_num, m0 + nq, by rw [HQ.out, World.drewN_drewN]⟩
      case measure => first | (simp [intOf]; done) | (simp [intOf]; omega)
    · obtain rfl : i = n := by omega
      have li : ¬ ((i : Int) < (i : Int)) := by omega
      go_wp2
      go_ret
      exact ⟨rfl, m0, HQ.out⟩
end Go.Proofs.Ytlnmaejpchncoaa
