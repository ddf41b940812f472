/-
What is proved here: Stay of lent contents, by a contract.
-/
import Derived.Test.YtlnmaejpchncoaaDoorKLn
import Derived.Deep.QuietTactic
import Derived.BigQuiet
import Derived.Deep.SlicePairs
set_option linter.unusedSimpArgs false
set_option linter.unusedVariables false
namespace Go.Proofs.YtlnmaejpchncoaaDoor.K
open Go.Stk Go.RowKit Go.Word
attribute [local go_sem] guard_eq guard_ne st_eql st_neq
theorem lentF_parts {w : World} {B : Nat} {A : Option Addr} {C : Nat} {ls : List Bt} (h : LentF w B A C ls) : ∃ g, A = some ⟨g, 0, none⟩ ∧ B ≤ g ∧ g < w.heap.size ∧ ls.length + 1 ≤ C ∧ (∃ G, w.cell? ⟨g, ls.length, none⟩ = some (.slice (some ⟨G, 0, none⟩) 1 1) ∧ w.cell? ⟨G, 0, none⟩ = some (.int .u8 113)) ∧
    ∀ i (h : i < ls.length), ∃ gi ci, w.cell? ⟨g, i, none⟩ = some (.slice (some ⟨gi, 0, none⟩) ls[i].length ci) ∧ ls[i].length + 1 ≤ ci ∧ BytesAt w (some ⟨gi, 0, none⟩) (ls[i] ++ [167]) := by
  obtain ⟨xs, G, hr, hG, hx, he⟩ := h
  have hA : ∃ g, A = some ⟨g, 0, none⟩ := by
    rcases hr.2 with ⟨_, h0⟩ | ⟨g, cap, cur, e, _⟩
    · omega
    · injection e with e
      exact ⟨g, e⟩
  obtain ⟨g, rfl⟩ := hA
  have hlt := hr.lt g rfl
  refine ⟨g, rfl, hlt.1, hlt.2, row_cap hr, ⟨G, ?_, hG⟩, fun i hi => ?_⟩
  · rw [hr.cellAt _ (by omega), List.getElem?_append_right (by omega), hx]
    simp
  · obtain ⟨x, e1, A1, C1, e2, h2⟩ := he i hi
    have hA1 : ∃ g, A1 = some ⟨g, 0, none⟩ := by
      rcases h2.2 with ⟨_, h0⟩ | ⟨g, cap, cur, e, _⟩
      · omega
      · injection e with e
        exact ⟨g, e⟩
    obtain ⟨gi, rfl⟩ := hA1
    have hb := own_bytes (l := ls[i] ++ [167]) (by unfold OwnB; rw [List.length_append]; exact h2)
    refine ⟨gi, C1, ?_, row_cap h2, hb.2.1⟩
    rw [hr.cellAt _ (by omega), List.getElem?_append_left (by omega), e1, e2]
set_option maxRecDepth 100000 in
set_option maxHeartbeats 4000000 in
theorem stay_any (B : Nat) (A LA : Option Addr) (C lc : Nat) (ls : List Bt) (w : World) (hF : LentF w B A C ls) (hL : ListAt w LA ls) (hn : ls.length ≤ 1000000) (hb : ∀ x ∈ ls, x.length ≤ 100000) :
    Calls Tryd.prog 8 #[.slice A ls.length C, .slice LA ls.length lc] w fun e w' => e = .returned (.bool true) ∧ ∃ m, w' = w.drewN m := by
  obtain ⟨g, rfl, _, hgl, hC, ⟨G, cG, cG2⟩, he⟩ := lentF_parts hF
  have HE := Lib.hid he
  have HL := Lib.hid hL
  have HB := Lib.hid hb
  obtain ⟨n, hne⟩ : ∃ n, n = ls.length := ⟨_, rfl⟩
  have NE := Lib.hid hne
  rw [← hne] at hn hC cG ⊢
  clear hF he hL hb hne
  have hcl := fun W => cutl_to (some ⟨g, 0, none⟩) n C (n + 1) hC W
  have hcl : ∀ W : World, (Instr.slice 22 (.slice (some ⟨g, 0, none⟩) n C) none (some (.int .i64 ((n : Int) + 1))) none).run Tryd.prog W = .ok (.slice (some ⟨g, 0, none⟩) (n + 1) C) W := hcl
  have r1 : ((1 : Int) != 1) = false := by decide
  have r113 : ((113 : Int) != 113) = false := by decide
  have r167 : ((167 : Int) != 167) = false := by decide
  have ln : (n : Int) < (n : Int) + 1 := by omega
  go_enter Tryd.func8, Tryd.ntmps8
  go_upto_region 4 with (fail)
  clear hcl cG cG2
  go_wp2
  go_loopw [6, 7] (fun v6 _ wr => ∃ i : Nat, i ≤ n ∧ v6 = .int .i64 (i : Int) ∧ ∃ m, wr = w.drewN m) (fun v6 _ _ => n - (intOf v6).toNat)
  case atStart => exact ⟨0, Nat.zero_le _, rfl, 0, rfl⟩
  case round =>
    obtain ⟨i, hi, rfl, m0, hw0⟩ := hrel
    have hbw : Below w.heap.size w wr := hw0 ▸ below_drewN (Below.refl _ _) _
    have HQ := Lib.hid hw0
    have HW := Lib.hid hbw
    clear hw0 hbw
    by_cases hlt : i < n
    · have li : (i : Int) < (n : Int) := by omega
      have lf : i < ls.length := by have := NE.out; omega
      obtain ⟨gi, ci, c1, hci, hby⟩ := HE.out i lf
      obtain ⟨b, o, DA, dc, eA, hbl, d0, hdy⟩ := HL.out i lf
      subst eA
      have d1 := (HW.out.cell (p := ⟨g, i, none⟩) hgl).trans c1
      have d2 := (HW.out.cell (p := ⟨b, o + i, none⟩) hbl).trans d0
      have hxl := HB.out ls[i] (List.getElem_mem lf)
      have hb1 : BytesAt w (some ⟨gi, 0, none⟩) ls[i] := fun j hj => by
        obtain ⟨b', o', e, h1, h2⟩ := hby j (by rw [List.length_append]; omega)
        exact ⟨b', o', e, h1, by rw [h2, List.getElem_append_left hj]⟩
      obtain ⟨b', o', e', hgl', k0⟩ := hby ls[i].length (by rw [List.length_append]; simp)
      injection e' with e'
      injection e' with a1 a2 _
      subst a1 a2
      have ek : (ls[i] ++ [167])[ls[i].length]'(by rw [List.length_append]; simp) = 167 := by simp
      rw [ek, Nat.zero_add] at k0
      have k1 := (HW.out.cell (p := ⟨gi, ls[i].length, none⟩) hgl').trans k0
      have k1 : wr.cell? ⟨gi, ls[i].length, none⟩ = some (.int .u8 167) := k1
      have cv1 := fun q => run_text (some ⟨gi, 0, none⟩) ls[i] ci (wr.drewN q) (bytesAt_below hb1 (below_drewN HW.out q))
      have cv2 := fun q => run_text DA ls[i] dc (wr.drewN q) (bytesAt_below hdy (below_drewN HW.out q))
      generalize hx : ls[i] = x at *
      clear hx d0 hby hdy hb1 k0 c1 ek
      have se : other x x = false := decide_eq_false (by simp)
      generalize x.length = k at *
      have hcb : ∀ W : World, (Instr.slice 24 (.slice (some ⟨gi, 0, none⟩) k ci) none (some (.int .i64 ((k : Int) + 1))) none).run Tryd.prog W = .ok (.slice (some ⟨gi, 0, none⟩) (k + 1) ci) W := fun W => cutb_to (some ⟨gi, 0, none⟩) k ci (k + 1) hci W
      have lk : (k : Int) < (k : Int) + 1 := by omega
      go_upto_region 8 with (fail)
      go_quiet (fail)
      go_wp2
      go_roundw
      case rel => exact ⟨i + 1, by omega, by go_num, m0 + nq, by rw [HQ.out, World.drewN_drewN]⟩
      case measure => first | (simp [intOf]; done) | (simp [intOf]; omega)
    · obtain rfl : i = n := by omega
      have li : ¬ ((i : Int) < (i : Int)) := by omega
      go_wp2
      go_ret
      exact ⟨rfl, m0, HQ.out⟩
end Go.Proofs.YtlnmaejpchncoaaDoor.K
