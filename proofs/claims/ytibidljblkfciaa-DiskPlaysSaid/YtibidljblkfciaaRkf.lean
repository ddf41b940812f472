/-
What is proved here: the document's own disk: Crash of it, by a contract.
-/
import Derived.Test.YtibidljblkfciaaRke
set_option linter.unusedSimpArgs false
namespace Go.Proofs.Ytibidljblkfciaa
open Go.Word Go.RowKit

theorem keptW_snoc (kp : Nat → Bool) (x : Nat × Bytes) : ∀ (r : List (Nat × Bytes)) (i : Nat) (f : Bytes), keptW kp i (r ++ [x]) f = if kp (i + r.length) then put (keptW kp i r f) (512 * x.1) x.2 else keptW kp i r f
  | [], i, f => by simp [keptW]
  | y :: r, i, f => by
    have := keptW_snoc kp x r (i + 1) (if kp i then put f (512 * y.1) y.2 else f)
    simp only [List.cons_append, keptW, List.length_cons]
    rw [this, show i + 1 + r.length = i + (r.length + 1) by omega]
theorem keptW_stop (kl : Nat) (ks : Nat → Int) (ws : List (Nat × Bytes)) (F : Bytes) (i : Nat) (hk : kl ≤ i) : ∀ m, i ≤ m → m ≤ ws.length → keptW (keeps kl ks) 0 (ws.take m) F = keptW (keeps kl ks) 0 (ws.take i) F := by
  intro m hm
  induction m with
  | zero => intro _; obtain rfl : i = 0 := by omega
            rfl
  | succ m ih =>
    intro hl
    by_cases e : i = m + 1
    · rw [e]
    · rw [List.take_succ_eq_append_getElem (by omega), keptW_snoc, if_neg (by unfold keeps; simp; omega)]
      exact ih (by omega) (by omega)

set_option maxRecDepth 100000 in
set_option maxHeartbeats 8000000 in
theorem rcrash_any {r FB C0 : Nat} {rv : Value} {n : Nat} {F : Bytes} {ws : List (Nat × Bytes)} {on : Bool} {lf : Int} (w : World) (hN : ws.length ≤ 70000) (KA : Option Addr) (kl kc : Nat) (ks : Nat → Int) (hkm : kl ≤ 9223372036854775807) (hks : ∀ j, j < kl → ∃ b o, KA = some ⟨b, o, none⟩ ∧ b < w.heap.size ∧ b ≠ FB ∧ w.cell? ⟨b, o + j, none⟩ = some (.int .i64 (ks j))) (h : Rdk w r FB C0 rv n F ws on lf) :
    Calls Try.prog 38 #[.pointer (some ⟨r, 0, none⟩), .slice KA kl kc] w fun e w' => e = .returned (.tuple #[]) ∧ Rdk w' r FB C0 (.slice none 0 0) n (keptW (keeps kl ks) 0 ws F) [] true (-1) ∧ Keeps (fun i => i = r ∨ i = FB) w w' := by
  obtain ⟨A, C, rfl, hA⟩ := rdk_form h
  obtain ⟨N, hNe⟩ : ∃ N, N = ws.length := ⟨_, rfl⟩
  rw [← hNe] at hA hN
  have HH := Lib.hid (show Rdk w r FB C0 (.slice A N C) n F ws on lf by rw [hNe]; exact h)
  have HA := Lib.hid hA
  have HNE := Lib.hid hNe
  have HKS := Lib.hid hks
  clear h hNe hA hks
  go_enter Try.func38, Try.ntmps38
  go_wp2
  go_loopw [4] (fun v wr => ∃ i : Nat, i ≤ N ∧ i ≤ kl ∧ v = .int .i64 (i : Int) ∧ Rdk wr r FB C0 (.slice A N C) n (keptW (keeps kl ks) 0 (ws.take i) F) ws on lf ∧ w.grownBy wr (some FB)) (fun v _ => N - (intOf v).toNat)
  case atStart => exact ⟨0, Nat.zero_le _, Nat.zero_le _, rfl, by simpa [keptW] using HH.out, World.grownBy.refl _ _⟩
  case round =>
    obtain ⟨i, hi, hik, rfl, hR, hG⟩ := hrel
    have d1 : wr.cell? ⟨r, 1, none⟩ = some (.slice A N C) := lies_cell hR.self 1
    have HR := Lib.hid hR
    have HG := Lib.hid hG
    clear hR hG
    by_cases hgo : i < N ∧ i < kl
    · obtain ⟨hlt, hlk⟩ := hgo
      have li : (i : Int) < (N : Int) := by omega
      have lk : decide (i < N) = true := decide_eq_true hlt
      have li2 : (i : Int) < (kl : Int) := by omega
      have lk2 : decide (i < kl) = true := decide_eq_true hlk
      obtain ⟨hbk, rfl⟩ := HA.out (by omega)
      obtain ⟨bk, ok, eKA, hbkl, hbkF, hkc⟩ := HKS.out i hlk
      subst eKA
      have ck : wr.cell? ⟨bk, ok + i, none⟩ = some (.int .i64 (ks i)) := (World.cell?_of_block (HG.out.block bk hbkl (fun e => hbkF (by injection e)))).trans hkc
      clear hkc
      have hiw : i < ws.length := by have := HNE.out; omega
      have hiN := hlt
      have hheld : wr.ownsRow 0 84 513 (.slice (some ⟨hbk, 0, none⟩) N C) N (ws.flatMap wrow) := by have := HR.out.held; rw [← HNE.out] at this; exact this
      have hmin : min i ws.length = i := by omega
      by_cases hkp : 0 < ks i
      · have tk : decide (0 < ks i) = true := decide_eq_true hkp
        have e0 : wr.drew.cell? ⟨r, 0, none⟩ = some (.slice (some ⟨FB, 0, none⟩) n C0) := lies_cell HR.out.self 0
        have e1 : wr.drew.cell? ⟨r, 1, none⟩ = some (.slice (some ⟨hbk, 0, none⟩) N C) := d1
        have e2 : wr.drew.cell? ⟨hbk, i * 513, none⟩ = some (.int .i64 (ws[i].1 : Int)) := by
          have := World.ownsRow.cellAt hheld (i * 513 + 0) (by omega)
          rw [wflat_at ws i 0 hiw (by omega)] at this
          exact this
        have e3 : wr.drew.rangeAt hbk (i * 513 + 1) (yRow ws[i].2 512).toList := held_mid hheld HNE.out.symm hiw
        have hat := HR.out.ats ws[i] (List.getElem_mem _)
        have hC0 := HR.out.most.2.2
        have hfast := HR.out.fast
        have HT := Lib.hid (show keptW (keeps kl ks) 0 (ws.take (i + 1)) F = put (keptW (keeps kl ks) 0 (ws.take i) F) (512 * ws[i].1) ws[i].2 by
          rw [List.take_succ_eq_append_getElem hiw, keptW_snoc, if_pos (by unfold keeps; simp [hmin, hlk, hkp])])
        obtain ⟨at_, hat_⟩ : ∃ a, a = ws[i].1 := ⟨_, rfl⟩
        obtain ⟨q, hq_⟩ : ∃ q, q = ws[i].2 := ⟨_, rfl⟩
        rw [← hat_, ← hq_] at HT
        rw [← hat_] at e2 hat
        rw [← hq_] at e3
        clear hat_ hq_ hheld hmin
        obtain ⟨X2, hX2⟩ : ∃ X2, X2 = wr.drew.setCells FB (at_ * 512) (yRow q 512).toList := ⟨_, rfl⟩
        have g2 : wr.grownBy X2 (some FB) := by rw [hX2]; exact only_setCells _ _ _ (only_drew (World.grownBy.refl wr _))
        have l2 : Lies X2 FB 78 (yRow (keptW (keeps kl ks) 0 (ws.take (i + 1)) F) (512 * C0)) := by
          rw [hX2, HT.out, show 512 * at_ = at_ * 512 by omega, ← spl_put _ _ _ _ (by omega)]
          exact lies_spl _ _ _ _ (lies_drew hfast)
        have R2 := Lib.hid (rdk_fast HR.out g2 l2)
        have G2 := Lib.hid (show w.grownBy X2 (some FB) from ⟨g2.os.trans HG.out.os, g2.tape.trans HG.out.tape, g2.output.trans HG.out.output, Nat.le_trans HG.out.size g2.size, fun k hk hne => (g2.block k (Nat.lt_of_lt_of_le hk HG.out.size) hne).trans (HG.out.block k hk hne)⟩)
        clear g2 l2
        go_wp2
        obtain ⟨Wf, hWf⟩ : ∃ Wf : Array Bool → World, Wf = fun listed => cond (listed.getD 21 false) X2 wr.drew := ⟨_, rfl⟩
        have hne : ∀ (listed : Array Bool) (i : Nat), i ≠ 21 → Wf (listed.setIfInBounds i true) = Wf listed := fun listed i h21 => by
          rw [hWf]
          show cond ((listed.setIfInBounds i true).getD 21 false) _ _ = _
          rw [getD_set_ne false h21]
        refine wp_region_any (by kernel_rfl) ?_
        have hstart : Wf (Array.replicate 22 false) = wr.drew := by rw [hWf]; rfl
        change wpAny _ _ _ _ _ _ _ (World.drew wr)
        rw [← hstart]
        refine every (own := ownAll _) (vals := fun j => match j with | 0 => .pointer (some ⟨r, 0, none⟩) | 1 => .pointer (some ⟨r, 0, none⟩) | 2 => .pointer (some ⟨r, 0, none⟩) | 3 => .slice (some ⟨FB, 0, none⟩) n C0 | 4 => .pointer (some ⟨r, 0, none⟩) | 5 => .pointer (some ⟨r, 0, none⟩) | 6 => .pointer (some ⟨r, 1, none⟩) | 7 => .slice (some ⟨hbk, 0, none⟩) N C | 8 => .int .i64 (i : Int) | 9 => .pointer (some ⟨hbk, i * 513, none⟩) | 10 => .pointer (some ⟨hbk, i * 513, none⟩) | 11 => .int .i64 (at_ : Int) | 12 => .pointer (some ⟨r, 0, none⟩) | 13 => .pointer (some ⟨r, 0, none⟩) | 14 => .pointer (some ⟨r, 1, none⟩) | 15 => .slice (some ⟨hbk, 0, none⟩) N C | 16 => .int .i64 (i : Int) | 17 => .pointer (some ⟨hbk, i * 513, none⟩) | 18 => .pointer (some ⟨hbk, i * 513 + 1, none⟩) | 19 => .agg (yRow q 512) | 20 => .pointer (some ⟨FB, at_ * 512, none⟩) | _ => undef) id Wf (acAll_of (by kernel_rfl)) (onAll_of (by kernel_rfl)) (dstAll_of (by kernel_rfl)) ?hop ?hend _ _ _ rfl (shut_none _) (of_decide_eq_true (by kernel_rfl)) (tabd_start (fun i => rep_false2 _ i))
        case hop =>
          intro j oi a listed hoi hun hsz hcl hdeps ht
          have hi22 : j < 22 := (Array.getElem?_eq_some_iff.1 hoi).1
          have n21 : ∀ k, k ≠ 21 → listed.getD k false = false → (k = 3 ∨ k = 7 ∨ k = 11 ∨ k = 15 ∨ k = 19 → listed.getD 21 false = false) := fun k _ hk hor => by
            cases h : listed.getD 21 false with
            | false => rfl
            | true =>
              have h20 := hcl 21 _ rfl h ⟨20, .data⟩ (by simp) rfl
              have h19 := hcl 21 _ rfl h ⟨19, .data⟩ (by simp) rfl
              have h3 := hcl 20 _ rfl h20 ⟨3, .data⟩ (by simp) rfl
              have h11 := hcl 20 _ rfl h20 ⟨11, .data⟩ (by simp) rfl
              have h10 := hcl 11 _ rfl h11 ⟨10, .data⟩ (by simp) rfl
              have h9 := hcl 10 _ rfl h10 ⟨9, .data⟩ (by simp) rfl
              have h7 := hcl 9 _ rfl h9 ⟨7, .data⟩ (by simp) rfl
              have h18 := hcl 19 _ rfl h19 ⟨18, .data⟩ (by simp) rfl
              have h17 := hcl 18 _ rfl h18 ⟨17, .data⟩ (by simp) rfl
              have h15 := hcl 17 _ rfl h17 ⟨15, .data⟩ (by simp) rfl
              rcases hor with rfl | rfl | rfl | rfl | rfl
              · rw [hk] at h3; cases h3
              · rw [hk] at h7; cases h7
              · rw [hk] at h11; cases h11
              · rw [hk] at h15; cases h15
              · rw [hk] at h19; cases h19
          have eX : listed.getD 21 false = false → Wf listed = wr.drew := fun h => by rw [hWf]; show cond (listed.getD 21 false) _ _ = _; rw [h]; rfl
          have hc0 : listed.getD 21 false = false → (Wf listed).cell? ⟨r, 0, none⟩ = some (.slice (some ⟨FB, 0, none⟩) n C0) := fun h => by rw [eX h]; exact e0
          have hc1 : listed.getD 21 false = false → (Wf listed).cell? ⟨r, 1, none⟩ = some (.slice (some ⟨hbk, 0, none⟩) N C) := fun h => by rw [eX h]; exact e1
          have hc2 : listed.getD 21 false = false → (Wf listed).cell? ⟨hbk, i * 513, none⟩ = some (.int .i64 (at_ : Int)) := fun h => by rw [eX h]; exact e2
          have hc3 : listed.getD 21 false = false → (Wf listed).rangeAt hbk (i * 513 + 1) (yRow q 512).toList := fun h => by rw [eX h]; exact e3
          have c22 : j = 0 ∨ j = 1 ∨ j = 2 ∨ j = 3 ∨ j = 4 ∨ j = 5 ∨ j = 6 ∨ j = 7 ∨ j = 8 ∨ j = 9 ∨ j = 10 ∨ j = 11 ∨ j = 12 ∨ j = 13 ∨ j = 14 ∨ j = 15 ∨ j = 16 ∨ j = 17 ∨ j = 18 ∨ j = 19 ∨ j = 20 ∨ j = 21 := by omega
          obtain rfl | rfl | rfl | rfl | rfl | rfl | rfl | rfl | rfl | rfl | rfl | rfl | rfl | rfl | rfl | rfl | rfl | rfl | rfl | rfl | rfl | rfl := c22
          all_goals obtain rfl := Option.some.inj hoi
          · exact ⟨rfl, fun K hk => wp_valueW (move_op (.tmp 0) rfl ((tabd_old ht (t := 0) (of_decide_eq_true (by kernel_rfl)) (by kernel_rfl)).trans rfl)) (hne _ _ (by decide)) hk⟩
          · have d1 := hdeps ⟨0, .data⟩ (by simp) rfl
            exact ⟨rfl, fun K hk => wp_valueW (nil_op (.tmp 25) rfl (tabd_at ht (t := 25) (of_decide_eq_true (by kernel_rfl)) (by kernel_rfl) d1)) (hne _ _ (by decide)) hk⟩
          · have d1 := hdeps ⟨1, .data⟩ (by simp) rfl
            exact ⟨rfl, fun K hk => wp_valueW (field770 (.tmp 26) rfl (tabd_at ht (t := 26) (of_decide_eq_true (by kernel_rfl)) (by kernel_rfl) d1)) (hne _ _ (by decide)) hk⟩
          · have d1 := hdeps ⟨2, .data⟩ (by simp) rfl
            exact ⟨rfl, fun K hk => wp_valueW (load74 (.tmp 27) rfl (tabd_at ht (t := 27) (of_decide_eq_true (by kernel_rfl)) (by kernel_rfl) d1) (hc0 (n21 3 (by decide) hun (by simp)))) (hne _ _ (by decide)) hk⟩
          · exact ⟨rfl, fun K hk => wp_valueW (move_op (.tmp 0) rfl ((tabd_old ht (t := 0) (of_decide_eq_true (by kernel_rfl)) (by kernel_rfl)).trans rfl)) (hne _ _ (by decide)) hk⟩
          · have d1 := hdeps ⟨4, .data⟩ (by simp) rfl
            exact ⟨rfl, fun K hk => wp_valueW (nil_op (.tmp 29) rfl (tabd_at ht (t := 29) (of_decide_eq_true (by kernel_rfl)) (by kernel_rfl) d1)) (hne _ _ (by decide)) hk⟩
          · have d1 := hdeps ⟨5, .data⟩ (by simp) rfl
            exact ⟨rfl, fun K hk => wp_valueW (field771 (.tmp 30) rfl (tabd_at ht (t := 30) (of_decide_eq_true (by kernel_rfl)) (by kernel_rfl) d1)) (hne _ _ (by decide)) hk⟩
          · have d1 := hdeps ⟨6, .data⟩ (by simp) rfl
            exact ⟨rfl, fun K hk => wp_valueW (load75 (.tmp 31) rfl (tabd_at ht (t := 31) (of_decide_eq_true (by kernel_rfl)) (by kernel_rfl) d1) (hc1 (n21 7 (by decide) hun (by simp)))) (hne _ _ (by decide)) hk⟩
          · exact ⟨rfl, fun K hk => wp_valueW (move_op (.tmp 4) rfl ((tabd_old ht (t := 4) (of_decide_eq_true (by kernel_rfl)) (by kernel_rfl)).trans rfl)) (hne _ _ (by decide)) hk⟩
          · have d1 := hdeps ⟨7, .data⟩ (by simp) rfl
            have d2 := hdeps ⟨8, .data⟩ (by simp) rfl
            exact ⟨rfl, fun K hk => wp_valueW (index75 (.tmp 32) (.tmp 33) rfl (tabd_at ht (t := 32) (of_decide_eq_true (by kernel_rfl)) (by kernel_rfl) d1) (tabd_at ht (t := 33) (of_decide_eq_true (by kernel_rfl)) (by kernel_rfl) d2) hiN) (hne _ _ (by decide)) hk⟩
          · have d1 := hdeps ⟨9, .data⟩ (by simp) rfl
            exact ⟨rfl, fun K hk => wp_valueW (field840o (.tmp 34) rfl (tabd_at ht (t := 34) (of_decide_eq_true (by kernel_rfl)) (by kernel_rfl) d1)) (hne _ _ (by decide)) hk⟩
          · have d1 := hdeps ⟨10, .data⟩ (by simp) rfl
            exact ⟨rfl, fun K hk => wp_valueW (load3o (.tmp 35) rfl (tabd_at ht (t := 35) (of_decide_eq_true (by kernel_rfl)) (by kernel_rfl) d1) (hc2 (n21 11 (by decide) hun (by simp)))) (hne _ _ (by decide)) hk⟩
          · exact ⟨rfl, fun K hk => wp_valueW (move_op (.tmp 0) rfl ((tabd_old ht (t := 0) (of_decide_eq_true (by kernel_rfl)) (by kernel_rfl)).trans rfl)) (hne _ _ (by decide)) hk⟩
          · have d1 := hdeps ⟨12, .data⟩ (by simp) rfl
            exact ⟨rfl, fun K hk => wp_valueW (nil_op (.tmp 37) rfl (tabd_at ht (t := 37) (of_decide_eq_true (by kernel_rfl)) (by kernel_rfl) d1)) (hne _ _ (by decide)) hk⟩
          · have d1 := hdeps ⟨13, .data⟩ (by simp) rfl
            exact ⟨rfl, fun K hk => wp_valueW (field771 (.tmp 38) rfl (tabd_at ht (t := 38) (of_decide_eq_true (by kernel_rfl)) (by kernel_rfl) d1)) (hne _ _ (by decide)) hk⟩
          · have d1 := hdeps ⟨14, .data⟩ (by simp) rfl
            exact ⟨rfl, fun K hk => wp_valueW (load75 (.tmp 39) rfl (tabd_at ht (t := 39) (of_decide_eq_true (by kernel_rfl)) (by kernel_rfl) d1) (hc1 (n21 15 (by decide) hun (by simp)))) (hne _ _ (by decide)) hk⟩
          · exact ⟨rfl, fun K hk => wp_valueW (move_op (.tmp 4) rfl ((tabd_old ht (t := 4) (of_decide_eq_true (by kernel_rfl)) (by kernel_rfl)).trans rfl)) (hne _ _ (by decide)) hk⟩
          · have d1 := hdeps ⟨15, .data⟩ (by simp) rfl
            have d2 := hdeps ⟨16, .data⟩ (by simp) rfl
            exact ⟨rfl, fun K hk => wp_valueW (index75 (.tmp 40) (.tmp 41) rfl (tabd_at ht (t := 40) (of_decide_eq_true (by kernel_rfl)) (by kernel_rfl) d1) (tabd_at ht (t := 41) (of_decide_eq_true (by kernel_rfl)) (by kernel_rfl) d2) hiN) (hne _ _ (by decide)) hk⟩
          · have d1 := hdeps ⟨17, .data⟩ (by simp) rfl
            exact ⟨rfl, fun K hk => wp_valueW (field841o (.tmp 42) rfl (tabd_at ht (t := 42) (of_decide_eq_true (by kernel_rfl)) (by kernel_rfl) d1)) (hne _ _ (by decide)) hk⟩
          · have d1 := hdeps ⟨18, .data⟩ (by simp) rfl
            exact ⟨rfl, fun K hk => wp_valueW (load78 (.tmp 43) rfl (tabd_at ht (t := 43) (of_decide_eq_true (by kernel_rfl)) (by kernel_rfl) d1) (hc3 (n21 19 (by decide) hun (by simp)))) (hne _ _ (by decide)) hk⟩
          · have d1 := hdeps ⟨3, .data⟩ (by simp) rfl
            have d2 := hdeps ⟨11, .data⟩ (by simp) rfl
            exact ⟨rfl, fun K hk => wp_valueW (index74 (.tmp 28) (.tmp 36) rfl (tabd_at ht (t := 28) (of_decide_eq_true (by kernel_rfl)) (by kernel_rfl) d1) (tabd_at ht (t := 36) (of_decide_eq_true (by kernel_rfl)) (by kernel_rfl) d2) hat) (hne _ _ (by decide)) hk⟩
          · have d1 := hdeps ⟨20, .data⟩ (by simp) rfl
            have d2 := hdeps ⟨19, .data⟩ (by simp) rfl
            have eW : Wf listed = wr.drew := by rw [hWf]; show cond (listed.getD 21 false) _ _ = _; rw [hun]; rfl
            have eW2 : Wf (listed.setIfInBounds 21 true) = X2 := by rw [hWf]; show cond ((listed.setIfInBounds 21 true).getD 21 false) _ _ = _; rw [getD_here (by rw [hsz]; exact hi22)]; rfl
            refine ⟨rfl, fun K hk => ?_⟩
            rw [eW2] at hk
            rw [eW]
            exact (show Oper.wp _ _ _ _ _ _ from by unfold Oper.wp; rw [store78 (.tmp 45) (.tmp 44) rfl (tabd_at ht (t := 45) (of_decide_eq_true (by kernel_rfl)) (by kernel_rfl) d1) (tabd_at ht (t := 44) (of_decide_eq_true (by kernel_rfl)) (by kernel_rfl) d2) (there_of (lies_drew hfast) (by rw [yRow_size]; omega)), ← hX2]; exact hk)

        case hend =>
          intro a listed hall ht
          have eW : Wf listed = X2 := by rw [hWf]; show cond (listed.getD 21 false) _ _ = _; rw [hall 21 (of_decide_eq_true (by kernel_rfl))]; rfl
          rw [eW, tabd_fill ht (fun t i ho => hall i (ownAll_lt ho))]
          change Exit.inBlock _ _ Exit.normal { tmps := #[.pointer (some ⟨r, 0, none⟩), .slice (some ⟨bk, ok, none⟩) kl kc, undef, undef, .int .i64 (i : Int), .int .i64 (i : Int), .pointer (some ⟨r, 0, none⟩), .pointer (some ⟨r, 0, none⟩), .pointer (some ⟨r, 1, none⟩), .slice (some ⟨hbk, 0, none⟩) N C, .int .i64 (N : Int), .bool true, .bool true, .int .i64 (i : Int), .slice (some ⟨bk, ok, none⟩) kl kc, .int .i64 (kl : Int), .bool true, .bool true, u18, u19, .slice (some ⟨bk, ok, none⟩) kl kc, .int .i64 (i : Int), .pointer (some ⟨bk, ok + i, none⟩), .int .i64 (ks i), .bool true, .pointer (some ⟨r, 0, none⟩), .pointer (some ⟨r, 0, none⟩), .pointer (some ⟨r, 0, none⟩), .slice (some ⟨FB, 0, none⟩) n C0, .pointer (some ⟨r, 0, none⟩), .pointer (some ⟨r, 0, none⟩), .pointer (some ⟨r, 1, none⟩), .slice (some ⟨hbk, 0, none⟩) N C, .int .i64 (i : Int), .pointer (some ⟨hbk, i * 513, none⟩), .pointer (some ⟨hbk, i * 513, none⟩), .int .i64 (at_ : Int), .pointer (some ⟨r, 0, none⟩), .pointer (some ⟨r, 0, none⟩), .pointer (some ⟨r, 1, none⟩), .slice (some ⟨hbk, 0, none⟩) N C, .int .i64 (i : Int), .pointer (some ⟨hbk, i * 513, none⟩), .pointer (some ⟨hbk, i * 513 + 1, none⟩), .agg (yRow q 512), .pointer (some ⟨FB, at_ * 512, none⟩), undef, undef, undef, undef, undef, undef, undef, undef, undef], defers := [] } X2
          clear hWf hne hstart hall ht eW e0 e1 e2 e3 hX2
          go_wp2
          go_roundw
          case rel => exact ⟨i + 1, by omega, by omega, by go_num, R2.out, G2.out⟩
          case measure => first | (simp [intOf]; done) | (simp [intOf]; omega)
      · have tk : decide (0 < ks i) = false := decide_eq_false hkp
        have R2 := Lib.hid (show Rdk wr r FB C0 (.slice (some ⟨hbk, 0, none⟩) N C) n (keptW (keeps kl ks) 0 (ws.take (i + 1)) F) ws on lf by
          rw [List.take_succ_eq_append_getElem hiw, keptW_snoc, if_neg (by unfold keeps; simp [hmin]; intro _; omega)]
          exact HR.out)
        clear hheld hmin
        go_wp2
        go_roundw
        case rel => exact ⟨i + 1, by omega, by omega, by go_num, R2.out, HG.out⟩
        case measure => first | (simp [intOf]; done) | (simp [intOf]; omega)
    · have et : keptW (keeps kl ks) 0 (ws.take i) F = keptW (keeps kl ks) 0 ws F := by
        have hNw := HNE.out
        by_cases e : i = N
        · rw [List.take_of_length_le (by omega)]
        · have := keptW_stop kl ks ws F i (by omega) ws.length (by omega) (Nat.le_refl _)
          rw [List.take_length] at this
          exact this.symm
      have hself := HR.out.self
      have f1 := lies_free hself 1
      have f2 := lies_free hself 2
      have f3 := lies_free hself 3
      have d2 : wr.cell? ⟨r, 2, none⟩ = some (.int .i64 lf) := lies_cell hself 2
      have d3 : wr.cell? ⟨r, 3, none⟩ = some (.bool (!on)) := lies_cell hself 3
      have L2 := Lib.hid (lies_set (lies_set (lies_set hself 1 (.slice none 0 0)) 3 (.bool false)) 2 (.int .i64 (-1)))
      have lf1 := HR.out.fast
      rw [et] at lf1
      have LF := Lib.hid lf1
      have AP := Lib.hid HR.out.apart
      have MO := Lib.hid HR.out.most
      generalize (!on) = nb at *
      clear hself lf1 et
      by_cases hlt : i < N
      · have li : (i : Int) < (N : Int) := by omega
        have lk : decide (i < N) = true := decide_eq_true hlt
        have li2 : ¬ (i : Int) < (kl : Int) := by omega
        have lk2 : decide (i < kl) = false := decide_eq_false (by omega)
        clear hgo
        go_wp2
        go_end0
        have g2 : wr.grownBy (((wr.setCell ⟨r, 1, none⟩ (.slice none 0 0)).setCell ⟨r, 3, none⟩ (.bool false)).setCell ⟨r, 2, none⟩ (.int .i64 (-1))) (some r) := only_setCell (only_setCell (only_setCell (World.grownBy.refl wr _) 1 _) 3 _) 2 _
        exact ⟨rfl, { self := L2.out, fast := (g2.block FB (lies_lt LF.out) (fun e => AP.out (by injection e))).trans LF.out, held := ⟨rfl, .inl ⟨rfl, rfl⟩⟩, most := MO.out, ats := (fun x hx => by cases hx), apart := AP.out }, ⟨g2.os.trans HG.out.os, g2.tape.trans HG.out.tape, g2.output.trans HG.out.output, Nat.le_trans HG.out.size g2.size, fun k hk hn => (g2.block k (Nat.lt_of_lt_of_le hk HG.out.size) (fun e => hn (.inl (by injection e)))).trans (HG.out.block k hk (fun e => hn (.inr (by injection e))))⟩⟩
      · have li : ¬ (i : Int) < (N : Int) := by omega
        have lk : decide (i < N) = false := decide_eq_false hlt
        clear hgo
        go_wp2
        go_end0
        have g2 : wr.grownBy (((wr.setCell ⟨r, 1, none⟩ (.slice none 0 0)).setCell ⟨r, 3, none⟩ (.bool false)).setCell ⟨r, 2, none⟩ (.int .i64 (-1))) (some r) := only_setCell (only_setCell (only_setCell (World.grownBy.refl wr _) 1 _) 3 _) 2 _
        exact ⟨rfl, { self := L2.out, fast := (g2.block FB (lies_lt LF.out) (fun e => AP.out (by injection e))).trans LF.out, held := ⟨rfl, .inl ⟨rfl, rfl⟩⟩, most := MO.out, ats := (fun x hx => by cases hx), apart := AP.out }, ⟨g2.os.trans HG.out.os, g2.tape.trans HG.out.tape, g2.output.trans HG.out.output, Nat.le_trans HG.out.size g2.size, fun k hk hn => (g2.block k (Nat.lt_of_lt_of_le hk HG.out.size) (fun e => hn (.inl (by injection e)))).trans (HG.out.block k hk (fun e => hn (.inr (by injection e))))⟩⟩
end Go.Proofs.Ytibidljblkfciaa
