/-
What is proved here: the document's own disk: Flush of it, by a contract.
-/
import Derived.Test.YtibidljblkfciaaRkd
set_option linter.unusedSimpArgs false
namespace Go.Proofs.Ytibidljblkfciaa
open Go.Word Go.RowKit

theorem size78 : (Try.prog.info? 78).map (·.size) = some 512 := by kernel_rfl
theorem index75 {ρ : Operand → Value} {oi : Oper} {w : World} {b i N C : Nat} (x y : Operand) (ho : oi.op = .indexAddr 75 x y) (hx : ρ x = .slice (some ⟨b, 0, none⟩) N C) (hy : ρ y = .int .i64 (i : Int)) (hi : i < N) : (execOp ρ oi).run Try.prog w = .ok (.value (.pointer (some ⟨b, i * 513, none⟩))) w := by
  have t : (i : Int) < (N : Int) := by omega
  unfold execOp
  simp only [ho, hx, hy]
  go_simp
theorem index74 {ρ : Operand → Value} {oi : Oper} {w : World} {b i N C : Nat} (x y : Operand) (ho : oi.op = .indexAddr 74 x y) (hx : ρ x = .slice (some ⟨b, 0, none⟩) N C) (hy : ρ y = .int .i64 (i : Int)) (hi : i < N) : (execOp ρ oi).run Try.prog w = .ok (.value (.pointer (some ⟨b, i * 512, none⟩))) w := by
  have t : (i : Int) < (N : Int) := by omega
  unfold execOp
  simp only [ho, hx, hy]
  go_simp
theorem field840o {ρ : Operand → Value} {oi : Oper} {w : World} {b o : Nat} (x : Operand) (ho : oi.op = .fieldAddr 84 x 0) (hx : ρ x = .pointer (some ⟨b, o, none⟩)) : (execOp ρ oi).run Try.prog w = .ok (.value (.pointer (some ⟨b, o, none⟩))) w := by
  unfold execOp
  simp only [ho, hx]
  go_simp
theorem field841o {ρ : Operand → Value} {oi : Oper} {w : World} {b o : Nat} (x : Operand) (ho : oi.op = .fieldAddr 84 x 1) (hx : ρ x = .pointer (some ⟨b, o, none⟩)) : (execOp ρ oi).run Try.prog w = .ok (.value (.pointer (some ⟨b, o + 1, none⟩))) w := by
  unfold execOp
  simp only [ho, hx]
  go_simp
theorem load78 {ρ : Operand → Value} {oi : Oper} {w : World} {b o : Nat} {q : Bytes} (x : Operand) (ho : oi.op = .load 78 x) (hx : ρ x = .pointer (some ⟨b, o, none⟩)) (hc : w.rangeAt b o (yRow q 512).toList) : (execOp ρ oi).run Try.prog w = .ok (.value (.agg (yRow q 512))) w := by
  unfold execOp
  simp only [ho, hx, Instr.loadAt, Instr.sureAddr, Sem.run_bind, Sem.run_pure, Result.andThen_ok, run_loadVar_mid w b o 78 _ _ hc Try.underlying78 rfl (by rw [Array.length_toList, yRow_size]; exact size78), Array.toArray_toList]
theorem store78 {ρ : Operand → Value} {oi : Oper} {w : World} {b o : Nat} {q : Bytes} (x y : Operand) (ho : oi.op = .store 78 x y) (hx : ρ x = .pointer (some ⟨b, o, none⟩)) (hy : ρ y = .agg (yRow q 512)) (ht : w.there b o 512) : (execOp ρ oi).run Try.prog w = .ok .skip (w.setCells b o (yRow q 512).toList) := by
  have ht' : w.there b o (yRow q 512).size := by rw [yRow_size]; exact ht
  unfold execOp
  simp only [ho, hx, hy, Instr.storeAt, Instr.sureAddr, Sem.run_bind, Sem.run_pure, Result.andThen_ok, run_storeVar_mid w b o 78 _ ht' (by rw [yRow_size]; exact size78) (yRow_one _ _)]
theorem spl_put (f q : Bytes) (p K : Nat) (h : p + 512 ≤ K) : spl (yRow f K) p (yRow q 512).toList = yRow (put f p q) K := by
  have hl : (yRow q 512).toList.length = 512 := by rw [Array.length_toList, yRow_size]
  refine Array.ext_getElem? fun j => ?_
  by_cases h1 : p ≤ j ∧ j < p + 512
  · obtain ⟨k, rfl⟩ : ∃ k, j = p + k := ⟨j - p, by omega⟩
    rw [spl_in _ _ _ _ (by rw [hl]; omega) (by rw [hl, yRow_size]; omega), Array.getElem?_toList, yRow_at _ (by omega), yRow_at _ (by omega)]
    unfold put
    rw [if_pos h1, show p + k - p = k by omega]
  · rw [spl_out _ _ _ _ (by rw [hl]; omega)]
    by_cases h2 : j < K
    · rw [yRow_at _ h2, yRow_at _ h2]
      unfold put
      rw [if_neg h1]
    · rw [Array.getElem?_eq_none (by rw [yRow_size]; omega), Array.getElem?_eq_none (by rw [yRow_size]; omega)]
theorem rdk_fast {w w' : World} {r FB C0 : Nat} {rv : Value} {n : Nat} {F F' : Bytes} {ws : List (Nat × Bytes)} {on : Bool} {lf : Int} (h : Rdk w r FB C0 rv n F ws on lf) (hg : w.grownBy w' (some FB)) (hl : Lies w' FB 78 (yRow F' (512 * C0))) : Rdk w' r FB C0 rv n F' ws on lf where
  self := (hg.block r (lies_lt h.self) (fun e => h.apart (by injection e with e; exact e.symm))).trans h.self
  fast := hl
  held := World.ownsRow.kept h.held hg (.inr (rdk_own h).2)
  most := h.most
  ats := h.ats
  apart := h.apart
theorem now_snoc (F : Bytes) (ws : List (Nat × Bytes)) (x : Nat × Bytes) : now F (ws ++ [x]) = put (now F ws) (512 * x.1) x.2 := by unfold now; rw [List.foldl_append]; rfl

set_option maxRecDepth 100000 in
set_option maxHeartbeats 8000000 in
theorem rflush_any {r FB C0 : Nat} {rv : Value} {n : Nat} {F : Bytes} {ws : List (Nat × Bytes)} {lf : Int} (w : World) (hN : ws.length ≤ 70000) (h1 : -1 ≤ lf) (h2 : lf ≤ 9223372036854775807) (h0 : lf ≠ 0) (h : Rdk w r FB C0 rv n F ws true lf) :
    Calls Try.prog 36 #[.pointer (some ⟨r, 0, none⟩)] w fun e w' => e = .returned (.int .i64 0) ∧ Rdk w' r FB C0 (.slice none 0 0) n (now F ws) [] (stepOn true lf) (stepLf lf) ∧ Keeps (fun i => i = r ∨ i = FB) w w' := by
  obtain ⟨A, C, rfl, hA⟩ := rdk_form h
  obtain ⟨N, hNe⟩ : ∃ N, N = ws.length := ⟨_, rfl⟩
  rw [← hNe] at hA hN
  have d3 : w.cell? ⟨r, 3, none⟩ = some (.bool false) := lies_cell h.self 3
  have HH := Lib.hid (show Rdk w r FB C0 (.slice A N C) n F ws true lf by rw [hNe]; exact h)
  have HA := Lib.hid hA
  have HNE := Lib.hid hNe
  clear h hNe hA
  go_enter Try.func36, Try.ntmps36
  go_wp2
  go_loopw [3] (fun v wr => ∃ i : Nat, i ≤ N ∧ v = .int .i64 (i : Int) ∧ Rdk wr r FB C0 (.slice A N C) n (now F (ws.take i)) ws true lf ∧ w.grownBy wr (some FB)) (fun v _ => N - (intOf v).toNat)
  case atStart => exact ⟨0, Nat.zero_le _, rfl, by simpa [now] using HH.out, World.grownBy.refl _ _⟩
  case round =>
    clear d3
    obtain ⟨i, hi, rfl, hR, hG⟩ := hrel
    have d1 : wr.cell? ⟨r, 1, none⟩ = some (.slice A N C) := lies_cell hR.self 1
    have HR := Lib.hid hR
    have HG := Lib.hid hG
    clear hR hG
    by_cases hlt : i < N
    · have li : (i : Int) < (N : Int) := by omega
      have lk : decide (i < N) = true := decide_eq_true hlt
      obtain ⟨hbk, rfl⟩ := HA.out (by omega)
      have hiw : i < ws.length := by have := HNE.out; omega
      have hiN := hlt
      have hheld : wr.ownsRow 0 84 513 (.slice (some ⟨hbk, 0, none⟩) N C) N (ws.flatMap wrow) := by have := HR.out.held; rw [← HNE.out] at this; exact this
      have e0 : wr.drew.cell? ⟨r, 0, none⟩ = some (.slice (some ⟨FB, 0, none⟩) n C0) := lies_cell HR.out.self 0
      have e1 : wr.drew.cell? ⟨r, 1, none⟩ = some (.slice (some ⟨hbk, 0, none⟩) N C) := d1
      have e2 : wr.drew.cell? ⟨hbk, i * 513, none⟩ = some (.int .i64 (ws[i].1 : Int)) := by
        have := World.ownsRow.cellAt hheld (i * 513 + 0) (by omega)
        rw [wflat_at ws i 0 hiw (by omega)] at this
        exact this
      have e3 : wr.drew.rangeAt hbk (i * 513 + 1) (yRow ws[i].2 512).toList := held_mid hheld HNE.out.symm hiw
      have hat := HR.out.ats ws[i] (List.getElem_mem _)
      have hC0 := HR.out.most.2.2
      have hfast := HR.out.fast
      obtain ⟨at_, hat_⟩ : ∃ a, a = ws[i].1 := ⟨_, rfl⟩
      obtain ⟨q, hq_⟩ : ∃ q, q = ws[i].2 := ⟨_, rfl⟩
      have HT := Lib.hid (show ws.take (i + 1) = ws.take i ++ [(at_, q)] by rw [List.take_succ_eq_append_getElem hiw, hat_, hq_])
      rw [← hat_] at e2 hat
      rw [← hq_] at e3
      clear hat_ hq_ hheld
      obtain ⟨X2, hX2⟩ : ∃ X2, X2 = wr.drew.setCells FB (at_ * 512) (yRow q 512).toList := ⟨_, rfl⟩
      have g2 : wr.grownBy X2 (some FB) := by rw [hX2]; exact only_setCells _ _ _ (only_drew (World.grownBy.refl wr _))
      have l2 : Lies X2 FB 78 (yRow (now F (ws.take (i + 1))) (512 * C0)) := by
        rw [hX2, HT.out, now_snoc, show 512 * at_ = at_ * 512 by omega, ← spl_put _ _ _ _ (by omega)]
        exact lies_spl _ _ _ _ (lies_drew hfast)
      have R2 := Lib.hid (rdk_fast HR.out g2 l2)
      have G2 := Lib.hid (show w.grownBy X2 (some FB) from ⟨g2.os.trans HG.out.os, g2.tape.trans HG.out.tape, g2.output.trans HG.out.output, Nat.le_trans HG.out.size g2.size, fun k hk hne => (g2.block k (Nat.lt_of_lt_of_le hk HG.out.size) hne).trans (HG.out.block k hk hne)⟩)
      clear g2 l2
      have LI := Lib.hid li
      have LK := Lib.hid lk
      go_wp2
      obtain ⟨Wf, hWf⟩ : ∃ Wf : Array Bool → World, Wf = fun listed => cond (listed.getD 21 false) X2 wr.drew := ⟨_, rfl⟩
      have hne : ∀ (listed : Array Bool) (i : Nat), i ≠ 21 → Wf (listed.setIfInBounds i true) = Wf listed := fun listed i h21 => by
        rw [hWf]
        show cond ((listed.setIfInBounds i true).getD 21 false) _ _ = _
        rw [getD_set_ne false h21]
      refine wp_region_any (by kernel_rfl) ?_
      have hstart : Wf (Array.replicate 22 false) = wr.drew := by rw [hWf]; rfl
      change wpAny _ _ _ _ _ _ _ (World.drew wr)
      rw [← hstart]
      refine every (own := ownAll _) (vals := fun j => match j with | 0 => .pointer (some ⟨r, 0, none⟩) | 1 => .pointer (some ⟨r, 0, none⟩) | 2 => .pointer (some ⟨r, 0, none⟩) | 3 => .slice (some ⟨FB, 0, none⟩) n C0 | 4 => .pointer (some ⟨r, 0, none⟩) | 5 => .pointer (some ⟨r, 0, none⟩) | 6 => .pointer (some ⟨r, 1, none⟩) | 7 => .slice (some ⟨hbk, 0, none⟩) N C | 8 => .int .i64 (i : Int) | 9 => .pointer (some ⟨hbk, i * 513, none⟩) | 10 => .pointer (some ⟨hbk, i * 513, none⟩) | 11 => .int .i64 (at_ : Int) | 12 => .pointer (some ⟨r, 0, none⟩) | 13 => .pointer (some ⟨r, 0, none⟩) | 14 => .pointer (some ⟨r, 1, none⟩) | 15 => .slice (some ⟨hbk, 0, none⟩) N C | 16 => .int .i64 (i : Int) | 17 => .pointer (some ⟨hbk, i * 513, none⟩) | 18 => .pointer (some ⟨hbk, i * 513 + 1, none⟩) | 19 => .agg (yRow q 512) | 20 => .pointer (some ⟨FB, at_ * 512, none⟩) | _ => undef) id Wf (acAll_of (by kernel_rfl)) (onAll_of (by kernel_rfl)) (dstAll_of (by kernel_rfl)) ?hop ?hend _ _ _ rfl (shut_none _) (of_decide_eq_true (by kernel_rfl)) (tabd_start (fun i => rep_false2 _ i))
      case hop =>
        intro j oi a listed hoi hun hsz hcl hdeps ht
        have hi22 : j < 22 := (Array.getElem?_eq_some_iff.1 hoi).1
        have n21 : ∀ k, k ≠ 21 → listed.getD k false = false → (k = 3 ∨ k = 7 ∨ k = 11 ∨ k = 15 ∨ k = 19 → listed.getD 21 false = false) := fun k _ hk hor => by
          cases h : listed.getD 21 false with
          | false => rfl
          | true =>
            have h20 := hcl 21 _ rfl h ⟨20, .data⟩ (by simp) rfl
            have h19 := hcl 21 _ rfl h ⟨19, .data⟩ (by simp) rfl
            have h3 := hcl 20 _ rfl h20 ⟨3, .data⟩ (by simp) rfl
            have h11 := hcl 20 _ rfl h20 ⟨11, .data⟩ (by simp) rfl
            have h10 := hcl 11 _ rfl h11 ⟨10, .data⟩ (by simp) rfl
            have h9 := hcl 10 _ rfl h10 ⟨9, .data⟩ (by simp) rfl
            have h7 := hcl 9 _ rfl h9 ⟨7, .data⟩ (by simp) rfl
            have h18 := hcl 19 _ rfl h19 ⟨18, .data⟩ (by simp) rfl
            have h17 := hcl 18 _ rfl h18 ⟨17, .data⟩ (by simp) rfl
            have h15 := hcl 17 _ rfl h17 ⟨15, .data⟩ (by simp) rfl
            rcases hor with rfl | rfl | rfl | rfl | rfl
            · rw [hk] at h3; cases h3
            · rw [hk] at h7; cases h7
            · rw [hk] at h11; cases h11
            · rw [hk] at h15; cases h15
            · rw [hk] at h19; cases h19
        have eX : listed.getD 21 false = false → Wf listed = wr.drew := fun h => by rw [hWf]; show cond (listed.getD 21 false) _ _ = _; rw [h]; rfl
        have hc0 : listed.getD 21 false = false → (Wf listed).cell? ⟨r, 0, none⟩ = some (.slice (some ⟨FB, 0, none⟩) n C0) := fun h => by rw [eX h]; exact e0
        have hc1 : listed.getD 21 false = false → (Wf listed).cell? ⟨r, 1, none⟩ = some (.slice (some ⟨hbk, 0, none⟩) N C) := fun h => by rw [eX h]; exact e1
        have hc2 : listed.getD 21 false = false → (Wf listed).cell? ⟨hbk, i * 513, none⟩ = some (.int .i64 (at_ : Int)) := fun h => by rw [eX h]; exact e2
        have hc3 : listed.getD 21 false = false → (Wf listed).rangeAt hbk (i * 513 + 1) (yRow q 512).toList := fun h => by rw [eX h]; exact e3
        have c22 : j = 0 ∨ j = 1 ∨ j = 2 ∨ j = 3 ∨ j = 4 ∨ j = 5 ∨ j = 6 ∨ j = 7 ∨ j = 8 ∨ j = 9 ∨ j = 10 ∨ j = 11 ∨ j = 12 ∨ j = 13 ∨ j = 14 ∨ j = 15 ∨ j = 16 ∨ j = 17 ∨ j = 18 ∨ j = 19 ∨ j = 20 ∨ j = 21 := by omega
        obtain rfl | rfl | rfl | rfl | rfl | rfl | rfl | rfl | rfl | rfl | rfl | rfl | rfl | rfl | rfl | rfl | rfl | rfl | rfl | rfl | rfl | rfl := c22
        all_goals obtain rfl := Option.some.inj hoi
        · exact ⟨rfl, fun K hk => wp_valueW (move_op (.tmp 0) rfl ((tabd_old ht (t := 0) (of_decide_eq_true (by kernel_rfl)) (by kernel_rfl)).trans rfl)) (hne _ _ (by decide)) hk⟩
        · have d1 := hdeps ⟨0, .data⟩ (by simp) rfl
          exact ⟨rfl, fun K hk => wp_valueW (nil_op (.tmp 17) rfl (tabd_at ht (t := 17) (of_decide_eq_true (by kernel_rfl)) (by kernel_rfl) d1)) (hne _ _ (by decide)) hk⟩
        · have d1 := hdeps ⟨1, .data⟩ (by simp) rfl
          exact ⟨rfl, fun K hk => wp_valueW (field770 (.tmp 18) rfl (tabd_at ht (t := 18) (of_decide_eq_true (by kernel_rfl)) (by kernel_rfl) d1)) (hne _ _ (by decide)) hk⟩
        · have d1 := hdeps ⟨2, .data⟩ (by simp) rfl
          exact ⟨rfl, fun K hk => wp_valueW (load74 (.tmp 19) rfl (tabd_at ht (t := 19) (of_decide_eq_true (by kernel_rfl)) (by kernel_rfl) d1) (hc0 (n21 3 (by decide) hun (by simp)))) (hne _ _ (by decide)) hk⟩
        · exact ⟨rfl, fun K hk => wp_valueW (move_op (.tmp 0) rfl ((tabd_old ht (t := 0) (of_decide_eq_true (by kernel_rfl)) (by kernel_rfl)).trans rfl)) (hne _ _ (by decide)) hk⟩
        · have d1 := hdeps ⟨4, .data⟩ (by simp) rfl
          exact ⟨rfl, fun K hk => wp_valueW (nil_op (.tmp 21) rfl (tabd_at ht (t := 21) (of_decide_eq_true (by kernel_rfl)) (by kernel_rfl) d1)) (hne _ _ (by decide)) hk⟩
        · have d1 := hdeps ⟨5, .data⟩ (by simp) rfl
          exact ⟨rfl, fun K hk => wp_valueW (field771 (.tmp 22) rfl (tabd_at ht (t := 22) (of_decide_eq_true (by kernel_rfl)) (by kernel_rfl) d1)) (hne _ _ (by decide)) hk⟩
        · have d1 := hdeps ⟨6, .data⟩ (by simp) rfl
          exact ⟨rfl, fun K hk => wp_valueW (load75 (.tmp 23) rfl (tabd_at ht (t := 23) (of_decide_eq_true (by kernel_rfl)) (by kernel_rfl) d1) (hc1 (n21 7 (by decide) hun (by simp)))) (hne _ _ (by decide)) hk⟩
        · exact ⟨rfl, fun K hk => wp_valueW (move_op (.tmp 3) rfl ((tabd_old ht (t := 3) (of_decide_eq_true (by kernel_rfl)) (by kernel_rfl)).trans rfl)) (hne _ _ (by decide)) hk⟩
        · have d1 := hdeps ⟨7, .data⟩ (by simp) rfl
          have d2 := hdeps ⟨8, .data⟩ (by simp) rfl
          exact ⟨rfl, fun K hk => wp_valueW (index75 (.tmp 24) (.tmp 25) rfl (tabd_at ht (t := 24) (of_decide_eq_true (by kernel_rfl)) (by kernel_rfl) d1) (tabd_at ht (t := 25) (of_decide_eq_true (by kernel_rfl)) (by kernel_rfl) d2) hiN) (hne _ _ (by decide)) hk⟩
        · have d1 := hdeps ⟨9, .data⟩ (by simp) rfl
          exact ⟨rfl, fun K hk => wp_valueW (field840o (.tmp 26) rfl (tabd_at ht (t := 26) (of_decide_eq_true (by kernel_rfl)) (by kernel_rfl) d1)) (hne _ _ (by decide)) hk⟩
        · have d1 := hdeps ⟨10, .data⟩ (by simp) rfl
          exact ⟨rfl, fun K hk => wp_valueW (load3o (.tmp 27) rfl (tabd_at ht (t := 27) (of_decide_eq_true (by kernel_rfl)) (by kernel_rfl) d1) (hc2 (n21 11 (by decide) hun (by simp)))) (hne _ _ (by decide)) hk⟩
        · exact ⟨rfl, fun K hk => wp_valueW (move_op (.tmp 0) rfl ((tabd_old ht (t := 0) (of_decide_eq_true (by kernel_rfl)) (by kernel_rfl)).trans rfl)) (hne _ _ (by decide)) hk⟩
        · have d1 := hdeps ⟨12, .data⟩ (by simp) rfl
          exact ⟨rfl, fun K hk => wp_valueW (nil_op (.tmp 29) rfl (tabd_at ht (t := 29) (of_decide_eq_true (by kernel_rfl)) (by kernel_rfl) d1)) (hne _ _ (by decide)) hk⟩
        · have d1 := hdeps ⟨13, .data⟩ (by simp) rfl
          exact ⟨rfl, fun K hk => wp_valueW (field771 (.tmp 30) rfl (tabd_at ht (t := 30) (of_decide_eq_true (by kernel_rfl)) (by kernel_rfl) d1)) (hne _ _ (by decide)) hk⟩
        · have d1 := hdeps ⟨14, .data⟩ (by simp) rfl
          exact ⟨rfl, fun K hk => wp_valueW (load75 (.tmp 31) rfl (tabd_at ht (t := 31) (of_decide_eq_true (by kernel_rfl)) (by kernel_rfl) d1) (hc1 (n21 15 (by decide) hun (by simp)))) (hne _ _ (by decide)) hk⟩
        · exact ⟨rfl, fun K hk => wp_valueW (move_op (.tmp 3) rfl ((tabd_old ht (t := 3) (of_decide_eq_true (by kernel_rfl)) (by kernel_rfl)).trans rfl)) (hne _ _ (by decide)) hk⟩
        · have d1 := hdeps ⟨15, .data⟩ (by simp) rfl
          have d2 := hdeps ⟨16, .data⟩ (by simp) rfl
          exact ⟨rfl, fun K hk => wp_valueW (index75 (.tmp 32) (.tmp 33) rfl (tabd_at ht (t := 32) (of_decide_eq_true (by kernel_rfl)) (by kernel_rfl) d1) (tabd_at ht (t := 33) (of_decide_eq_true (by kernel_rfl)) (by kernel_rfl) d2) hiN) (hne _ _ (by decide)) hk⟩
        · have d1 := hdeps ⟨17, .data⟩ (by simp) rfl
          exact ⟨rfl, fun K hk => wp_valueW (field841o (.tmp 34) rfl (tabd_at ht (t := 34) (of_decide_eq_true (by kernel_rfl)) (by kernel_rfl) d1)) (hne _ _ (by decide)) hk⟩
        · have d1 := hdeps ⟨18, .data⟩ (by simp) rfl
          exact ⟨rfl, fun K hk => wp_valueW (load78 (.tmp 35) rfl (tabd_at ht (t := 35) (of_decide_eq_true (by kernel_rfl)) (by kernel_rfl) d1) (hc3 (n21 19 (by decide) hun (by simp)))) (hne _ _ (by decide)) hk⟩
        · have d1 := hdeps ⟨3, .data⟩ (by simp) rfl
          have d2 := hdeps ⟨11, .data⟩ (by simp) rfl
          exact ⟨rfl, fun K hk => wp_valueW (index74 (.tmp 20) (.tmp 28) rfl (tabd_at ht (t := 20) (of_decide_eq_true (by kernel_rfl)) (by kernel_rfl) d1) (tabd_at ht (t := 28) (of_decide_eq_true (by kernel_rfl)) (by kernel_rfl) d2) hat) (hne _ _ (by decide)) hk⟩
        · have d1 := hdeps ⟨20, .data⟩ (by simp) rfl
          have d2 := hdeps ⟨19, .data⟩ (by simp) rfl
          have eW : Wf listed = wr.drew := by rw [hWf]; show cond (listed.getD 21 false) _ _ = _; rw [hun]; rfl
          have eW2 : Wf (listed.setIfInBounds 21 true) = X2 := by rw [hWf]; show cond ((listed.setIfInBounds 21 true).getD 21 false) _ _ = _; rw [getD_here (by rw [hsz]; exact hi22)]; rfl
          refine ⟨rfl, fun K hk => ?_⟩
          rw [eW2] at hk
          rw [eW]
          exact (show Oper.wp _ _ _ _ _ _ from by unfold Oper.wp; rw [store78 (.tmp 37) (.tmp 36) rfl (tabd_at ht (t := 37) (of_decide_eq_true (by kernel_rfl)) (by kernel_rfl) d1) (tabd_at ht (t := 36) (of_decide_eq_true (by kernel_rfl)) (by kernel_rfl) d2) (there_of (lies_drew hfast) (by rw [yRow_size]; omega)), ← hX2]; exact hk)

      case hend =>
        intro a listed hall ht
        have eW : Wf listed = X2 := by rw [hWf]; show cond (listed.getD 21 false) _ _ = _; rw [hall 21 (of_decide_eq_true (by kernel_rfl))]; rfl
        rw [eW, tabd_fill ht (fun t i ho => hall i (ownAll_lt ho))]
        change Exit.inBlock _ _ Exit.normal { tmps := #[.pointer (some ⟨r, 0, none⟩), undef, .int .i64 0, .int .i64 (i : Int), .pointer (some ⟨r, 0, none⟩), .pointer (some ⟨r, 0, none⟩), .pointer (some ⟨r, 3, none⟩), .bool false, .int .i64 (i : Int), .pointer (some ⟨r, 0, none⟩), .pointer (some ⟨r, 0, none⟩), .pointer (some ⟨r, 1, none⟩), .slice (some ⟨hbk, 0, none⟩) N C, .int .i64 (N : Int), .bool true, u15, u16, .pointer (some ⟨r, 0, none⟩), .pointer (some ⟨r, 0, none⟩), .pointer (some ⟨r, 0, none⟩), .slice (some ⟨FB, 0, none⟩) n C0, .pointer (some ⟨r, 0, none⟩), .pointer (some ⟨r, 0, none⟩), .pointer (some ⟨r, 1, none⟩), .slice (some ⟨hbk, 0, none⟩) N C, .int .i64 (i : Int), .pointer (some ⟨hbk, i * 513, none⟩), .pointer (some ⟨hbk, i * 513, none⟩), .int .i64 (at_ : Int), .pointer (some ⟨r, 0, none⟩), .pointer (some ⟨r, 0, none⟩), .pointer (some ⟨r, 1, none⟩), .slice (some ⟨hbk, 0, none⟩) N C, .int .i64 (i : Int), .pointer (some ⟨hbk, i * 513, none⟩), .pointer (some ⟨hbk, i * 513 + 1, none⟩), .agg (yRow q 512), .pointer (some ⟨FB, at_ * 512, none⟩), undef, undef, undef, undef, undef], defers := [] } X2
        clear hWf hne hstart hall ht eW e0 e1 e2 e3 hX2
        go_wp2
        go_roundw
        case rel => exact ⟨i + 1, by omega, by go_num, R2.out, G2.out⟩
        case measure => first | (simp [intOf]; done) | (simp [intOf]; omega)
    · have li : ¬ (i : Int) < (N : Int) := by omega
      have lk : decide (i < N) = false := decide_eq_false hlt
      obtain rfl : i = N := by omega
      have hself := HR.out.self
      have f1 := lies_free hself 1
      have L2 := Lib.hid (lies_set hself 1 (.slice none 0 0))
      have lf1 := HR.out.fast
      have et : ws.take i = ws := List.take_of_length_le (by have := HNE.out; omega)
      rw [et] at lf1
      have LF := Lib.hid lf1
      have AP := Lib.hid HR.out.apart
      have MO := Lib.hid HR.out.most
      clear hself lf1 et
      go_wp2_with (go_at_call 44; (with_reducible refine (rstep_any r FB C0 n (.slice none 0 0) lf (!true) _ h1 h2 h0 L2.out).mono ?_); rintro e w7 ⟨rfl, hl7, hg7⟩; have L7 := Lib.hid hl7; have G7 := Lib.hid hg7; clear hl7 hg7)
      go_ret
      have g2 : wr.grownBy w7 (some r) := ⟨G7.out.os, G7.out.tape, G7.out.output, by have := G7.out.size; simpa [World.setCell] using this, fun k hk hne => (G7.out.block k (by simpa [World.setCell] using hk) hne).trans (Below.heap_setCell wr ⟨r, 1, none⟩ _ k (fun e => hne (by rw [e])))⟩
      refine ⟨rfl, { self := L7.out, fast := (g2.block FB (lies_lt LF.out) (fun e => AP.out (by injection e))).trans LF.out, held := ⟨rfl, .inl ⟨rfl, rfl⟩⟩, most := MO.out, ats := (fun x hx => by cases hx), apart := AP.out }, ⟨g2.os.trans HG.out.os, g2.tape.trans HG.out.tape, g2.output.trans HG.out.output, Nat.le_trans HG.out.size g2.size, fun k hk hn => (g2.block k (Nat.lt_of_lt_of_le hk HG.out.size) (fun e => hn (.inl (by injection e)))).trans (HG.out.block k hk (fun e => hn (.inr (by injection e))))⟩⟩
end Go.Proofs.Ytibidljblkfciaa
