/-
What is proved here: All, by a contract.
-/
import Derived.Test.YtlnmaejpchncoaaGat
import Derived.Test.YtlnmaejpchncoaaTools2
import Derived.Laws.Tables
import Derived.Deep.Onto
set_option linter.unusedSimpArgs false
set_option linter.unusedVariables false
namespace Go.Proofs.Ytlnmaejpchncoaa
open Go.Stk Go.RowKit Go.Word
attribute [local go_sem] guard_eq guard_ne st_eql st_neq
theorem len_cell (g : Nat) (E : Option Addr) (L d : Nat) (w : World) (h : w.cell? ⟨g, 2, none⟩ = some (.slice E L d)) : Calls Try.prog 17 #[.pointer (some ⟨g, 0, none⟩)] w fun e w' => e = .returned (.int .i64 (L : Nat)) ∧ w = w' := by
  go_enter Try.func17, Try.ntmps17
  go_wp2
  go_ret
  exact ⟨rfl, rfl⟩
section
variable {P : Nat → Prop} {g : Nat} {lim : Int} {cs : List Bt} {vB vE vM : Value}
set_option maxRecDepth 100000 in
set_option maxHeartbeats 8000000 in
theorem all_any (w : World) (h : Stk w P g lim cs vB vE vM) (hL : cs.length ≤ 100000) (hf : cs.flatten.length ≤ 10000000) :
    Calls Try.prog 16 #[.pointer (some ⟨g, 0, none⟩)] w fun e w' => (∃ GA A2, e = .returned (.slice (some ⟨GA, 0, none⟩) cs.length cs.length) ∧ w'.ownsRow w.heap.size 31 1 (.slice (some ⟨GA, 0, none⟩) cs.length cs.length) cs.length (cutRow A2 cs cs.length) ∧ ∃ C2, OwnB w' w.heap.size (.slice A2 cs.flatten.length C2) cs.flatten) ∧ Below w.heap.size w w' := by
  obtain ⟨A, c, E, d, rfl, rfl, hcut, hb⟩ := cut_of_stk h
  have hz : A = none → c = 0 := (own_bytes h.bytes).2.2.2
  have HE := Lib.hid (show ∀ b, E = some ⟨b, 0, none⟩ → b < w.heap.size from fun b e => (h.ends.lt b (by rw [e]; rfl)).2)
  have HEN := Lib.hid hcut.en
  have HBD := Lib.hid hb
  have HZ := Lib.hid hz
  have gl := lies_lt h.cell
  obtain ⟨L, hLe⟩ : ∃ L, L = cs.length := ⟨_, rfl⟩
  obtain ⟨n, hn⟩ : ∃ n, n = cs.flatten.length := ⟨_, rfl⟩
  have LL := Lib.hid hLe
  have NN := Lib.hid hn
  have hcell := hcut.b1
  have hcell2 := hcut.b2
  rw [← hn] at hcell hf ⊢
  rw [← hLe] at hcell2 hL ⊢
  have HC := Lib.hid (show ∀ W, Below w.heap.size w W → W.cell? ⟨g, 1, none⟩ = some (.slice A n c) ∧ W.cell? ⟨g, 2, none⟩ = some (.slice E L d) from fun W hb => ⟨(hb.cell (p := ⟨g, 1, none⟩) gl).trans hcell, (hb.cell (p := ⟨g, 2, none⟩) gl).trans hcell2⟩)
  have KG : Hid (∀ (k : Nat) (u : Value) (W W' : World), Below W.heap.size W W' → ((fun (j_ : Nat) (v : Value) (W : World) => match j_ with | 0 => v = (.pointer (some ⟨g, 0, none⟩)) | 1 => v = (.pointer (some ⟨g, 0, none⟩)) | 2 => v = (.pointer (some ⟨g, 1, none⟩)) | 3 => v = (.slice A n c) | 4 => OwnB W w.heap.size v cs.flatten | 5 => v = (.pointer (some ⟨g, 0, none⟩)) | 6 => v = (.pointer (some ⟨g, 0, none⟩)) | 7 => v = (.pointer (some ⟨g, 2, none⟩)) | 8 => v = (.slice E L d) | 9 => ∃ u : Value, v = .agg #[.int .i64 0, u, .slice E L d, .map none] ∧ OwnB W w.heap.size u cs.flatten | 10 => ∃ T : Nat, v = .pointer (some ⟨T, 0, none⟩) ∧ Lies W T 51 #[.int .i64 0, .slice none 0 0, .slice none 0 0, .map none] ∧ w.heap.size ≤ T | _ => True) : Nat → Value → World → Prop) k u W → ((fun (j_ : Nat) (v : Value) (W : World) => match j_ with | 0 => v = (.pointer (some ⟨g, 0, none⟩)) | 1 => v = (.pointer (some ⟨g, 0, none⟩)) | 2 => v = (.pointer (some ⟨g, 1, none⟩)) | 3 => v = (.slice A n c) | 4 => OwnB W w.heap.size v cs.flatten | 5 => v = (.pointer (some ⟨g, 0, none⟩)) | 6 => v = (.pointer (some ⟨g, 0, none⟩)) | 7 => v = (.pointer (some ⟨g, 2, none⟩)) | 8 => v = (.slice E L d) | 9 => ∃ u : Value, v = .agg #[.int .i64 0, u, .slice E L d, .map none] ∧ OwnB W w.heap.size u cs.flatten | 10 => ∃ T : Nat, v = .pointer (some ⟨T, 0, none⟩) ∧ Lies W T 51 #[.int .i64 0, .slice none 0 0, .slice none 0 0, .map none] ∧ w.heap.size ≤ T | _ => True) : Nat → Value → World → Prop) k u W') := Lib.hid (fun k u W W' hb h => by
    match k, h with
    | 0, h => exact h
    | 1, h => exact h
    | 2, h => exact h
    | 3, h => exact h
    | 4, h => exact ownB_below h hb
    | 5, h => exact h
    | 6, h => exact h
    | 7, h => exact h
    | 8, h => exact h
    | 9, ⟨u, e, h⟩ => exact ⟨u, e, ownB_below h hb⟩
    | 10, ⟨T, e, h1, h2⟩ => exact ⟨T, e, lies_below h1 hb (lies_lt h1), h2⟩
    | _ + 11, _ => exact trivial)
  clear hcut hb hz hcell hcell2 gl hLe hn h
  go_enter Try.func16, Try.ntmps16
  go_upto_region 3 with (fail)
  refine wp_region_any (by kernel_rfl) ?_
  refine every_facts (own := ownAll _) id 11 ((fun (j_ : Nat) (v : Value) (W : World) => match j_ with | 0 => v = (.pointer (some ⟨g, 0, none⟩)) | 1 => v = (.pointer (some ⟨g, 0, none⟩)) | 2 => v = (.pointer (some ⟨g, 1, none⟩)) | 3 => v = (.slice A n c) | 4 => OwnB W w.heap.size v cs.flatten | 5 => v = (.pointer (some ⟨g, 0, none⟩)) | 6 => v = (.pointer (some ⟨g, 0, none⟩)) | 7 => v = (.pointer (some ⟨g, 2, none⟩)) | 8 => v = (.slice E L d) | 9 => ∃ u : Value, v = .agg #[.int .i64 0, u, .slice E L d, .map none] ∧ OwnB W w.heap.size u cs.flatten | 10 => ∃ T : Nat, v = .pointer (some ⟨T, 0, none⟩) ∧ Lies W T 51 #[.int .i64 0, .slice none 0 0, .slice none 0 0, .map none] ∧ w.heap.size ≤ T | _ => True) : Nat → Value → World → Prop) (fun W => Below w.heap.size w W) (acAll_of (by kernel_rfl)) (onAll_of (by kernel_rfl)) (dstAll_of (by kernel_rfl)) ?hop ?hall ?hl ?hend _ _ _ _ (fun _ => undef) rfl (shut_none _) (fun _ => rep_false _ _) (of_decide_eq_true (by kernel_rfl)) (tabd_start (fun i => rep_false _ i)) (fun k hk => by rw [rep_false] at hk; cases hk) (Below.refl _ w).drew
  case hop =>
    intro j oi a w0 listed vals hoi hjl hdeps ht hF hI
    have hj : j < 12 := (Array.getElem?_eq_some_iff.1 hoi).1
    have cj : j = 0 ∨ j = 1 ∨ j = 2 ∨ j = 3 ∨ j = 4 ∨ j = 5 ∨ j = 6 ∨ j = 7 ∨ j = 8 ∨ j = 9 ∨ j = 10 := by omega
    obtain rfl | rfl | rfl | rfl | rfl | rfl | rfl | rfl | rfl | rfl | rfl := cj
    all_goals obtain rfl := Option.some.inj hoi
    · have e0 : a.eval (.tmp 0) = (.pointer (some ⟨g, 0, none⟩)) := (tabd_old ht (t := 0) (of_decide_eq_true (by kernel_rfl)) (by kernel_rfl)).trans rfl
      exact .inl ⟨rfl, fun K hk => wp_val (v := (.pointer (some ⟨g, 0, none⟩))) (by clear hk hI hoi hdeps ht hF; generalize a.eval = ρ at *; unfold execOp; simp only [e0]; go_simp) (hk _ _ rfl (fun _ _ _ h => h) hI)⟩
    · have d0 := hdeps ⟨0, .data⟩ (by simp) rfl
      have e6 : a.eval (.tmp 6) = (.pointer (some ⟨g, 0, none⟩)) := (tabd_at ht (t := 6) (of_decide_eq_true (by kernel_rfl)) (by kernel_rfl) d0).trans (hF 0 d0)
      exact .inl ⟨rfl, fun K hk => wp_val (v := (.pointer (some ⟨g, 0, none⟩))) (by clear hk hI hoi hdeps ht hF; generalize a.eval = ρ at *; unfold execOp; simp only [e6]; go_simp) (hk _ _ rfl (fun _ _ _ h => h) hI)⟩
    · have d1 := hdeps ⟨1, .data⟩ (by simp) rfl
      have e7 : a.eval (.tmp 7) = (.pointer (some ⟨g, 0, none⟩)) := (tabd_at ht (t := 7) (of_decide_eq_true (by kernel_rfl)) (by kernel_rfl) d1).trans (hF 1 d1)
      exact .inl ⟨rfl, fun K hk => wp_val (v := (.pointer (some ⟨g, 1, none⟩))) (by clear hk hI hoi hdeps ht hF; generalize a.eval = ρ at *; unfold execOp; simp only [e7]; go_simp) (hk _ _ rfl (fun _ _ _ h => h) hI)⟩
    · have d2 := hdeps ⟨2, .data⟩ (by simp) rfl
      have e8 : a.eval (.tmp 8) = (.pointer (some ⟨g, 1, none⟩)) := (tabd_at ht (t := 8) (of_decide_eq_true (by kernel_rfl)) (by kernel_rfl) d2).trans (hF 2 d2)
      exact .inl ⟨rfl, fun K hk => wp_val (v := (.slice A n c)) (by have hc := (HC.out w0 hI).1; clear hk hI hoi hdeps ht hF; generalize a.eval = ρ at *; unfold execOp; simp only [e8]; go_simp) (hk _ _ rfl (fun _ _ _ h => h) hI)⟩
    · have d3 := hdeps ⟨3, .data⟩ (by simp) rfl
      have e9 : a.eval (.tmp 9) = (.slice A n c) := (tabd_at ht (t := 9) (of_decide_eq_true (by kernel_rfl)) (by kernel_rfl) d3).trans (hF 3 d3)
      have ef21 : a.eval (.func 21) = .func (.func 21) #[] #[] := rfl
      refine .inl ⟨rfl, fun K hk => ?_⟩
      have hbc := bclone_any A c cs.flatten w0 (bytesAt_below HBD.out hI) (by have := NN.out; omega) HZ.out
      rw [← NN.out] at hbc
      refine wp_enter (by clear hk hI hoi hdeps ht hF hbc; generalize a.eval = ρ at *; unfold execOp; simp only [e9, ef21]; go_simp) hbc ?_
      rintro e w2 ⟨⟨v, rfl, ho, _⟩, hb⟩
      exact ⟨v, rfl, hk v w2 (World.ownsRow.mono ho hI.size) (fun k u _ h => KG.out k u w0 w2 hb h) (hI.trans (hb.mono hI.size))⟩
    · have e0 : a.eval (.tmp 0) = (.pointer (some ⟨g, 0, none⟩)) := (tabd_old ht (t := 0) (of_decide_eq_true (by kernel_rfl)) (by kernel_rfl)).trans rfl
      exact .inl ⟨rfl, fun K hk => wp_val (v := (.pointer (some ⟨g, 0, none⟩))) (by clear hk hI hoi hdeps ht hF; generalize a.eval = ρ at *; unfold execOp; simp only [e0]; go_simp) (hk _ _ rfl (fun _ _ _ h => h) hI)⟩
    · have d5 := hdeps ⟨5, .data⟩ (by simp) rfl
      have e11 : a.eval (.tmp 11) = (.pointer (some ⟨g, 0, none⟩)) := (tabd_at ht (t := 11) (of_decide_eq_true (by kernel_rfl)) (by kernel_rfl) d5).trans (hF 5 d5)
      exact .inl ⟨rfl, fun K hk => wp_val (v := (.pointer (some ⟨g, 0, none⟩))) (by clear hk hI hoi hdeps ht hF; generalize a.eval = ρ at *; unfold execOp; simp only [e11]; go_simp) (hk _ _ rfl (fun _ _ _ h => h) hI)⟩
    · have d6 := hdeps ⟨6, .data⟩ (by simp) rfl
      have e12 : a.eval (.tmp 12) = (.pointer (some ⟨g, 0, none⟩)) := (tabd_at ht (t := 12) (of_decide_eq_true (by kernel_rfl)) (by kernel_rfl) d6).trans (hF 6 d6)
      exact .inl ⟨rfl, fun K hk => wp_val (v := (.pointer (some ⟨g, 2, none⟩))) (by clear hk hI hoi hdeps ht hF; generalize a.eval = ρ at *; unfold execOp; simp only [e12]; go_simp) (hk _ _ rfl (fun _ _ _ h => h) hI)⟩
    · have d7 := hdeps ⟨7, .data⟩ (by simp) rfl
      have e13 : a.eval (.tmp 13) = (.pointer (some ⟨g, 2, none⟩)) := (tabd_at ht (t := 13) (of_decide_eq_true (by kernel_rfl)) (by kernel_rfl) d7).trans (hF 7 d7)
      exact .inl ⟨rfl, fun K hk => wp_val (v := (.slice E L d)) (by have hc := (HC.out w0 hI).2; clear hk hI hoi hdeps ht hF; generalize a.eval = ρ at *; unfold execOp; simp only [e13]; go_simp) (hk _ _ rfl (fun _ _ _ h => h) hI)⟩
    · have d4 := hdeps ⟨4, .data⟩ (by simp) rfl
      have d8 := hdeps ⟨8, .data⟩ (by simp) rfl
      have f4 := hF 4 d4
      have e10 : a.eval (.tmp 10) = vals 4 := tabd_at ht (t := 10) (of_decide_eq_true (by kernel_rfl)) (by kernel_rfl) d4
      have e14 : a.eval (.tmp 14) = (.slice E L d) := (tabd_at ht (t := 14) (of_decide_eq_true (by kernel_rfl)) (by kernel_rfl) d8).trans (hF 8 d8)
      refine .inl ⟨rfl, fun K hk => ?_⟩
      exact wp_val (v := .agg #[.int .i64 0, vals 4, .slice E L d, .map none]) (by
        obtain ⟨A2, C2, o2⟩ := own_slice f4
        clear hk hI hoi hdeps ht hF f4
        generalize a.eval = ρ at *
        rw [o2] at e10 ⊢
        unfold execOp
        simp only [e10, e14]
        go_simp) (hk _ _ ⟨_, rfl, f4⟩ (fun _ _ _ h => h) hI)
    · refine .inl ⟨rfl, fun K hk => ?_⟩
      refine wp_valT (v := .pointer (some ⟨w0.heap.size, 0, none⟩)) (w' := w0.alloc (.cells #[.int .i64 0, .slice none 0 0, .slice none 0 0, .map none] 51)) (by
        clear hk hI hoi hdeps ht hF
        generalize a.eval = ρ at *
        unfold execOp
        go_simp) ?_
      exact hk _ _ ⟨_, rfl, lies_new _ _ _, hI.size⟩ (fun k u _ h => KG.out k u w0 _ ((Below.refl _ _).alloc (Nat.le_refl _) _) h) (hI.alloc hI.size _)
  case hend => intro a w0 listed vals _ _ _ _ h; exact absurd h (by decide)
  case hall =>
    intro listed hcl h i hi hne
    have hi : i < 12 := hi
    have ci : i = 0 ∨ i = 1 ∨ i = 2 ∨ i = 3 ∨ i = 4 ∨ i = 5 ∨ i = 6 ∨ i = 7 ∨ i = 8 ∨ i = 9 ∨ i = 10 := by omega
    obtain rfl | rfl | rfl | rfl | rfl | rfl | rfl | rfl | rfl | rfl | rfl := ci
    · exact h _ rfl ⟨0, .phase⟩ (by simp) rfl
    · exact h _ rfl ⟨1, .phase⟩ (by simp) rfl
    · exact h _ rfl ⟨2, .phase⟩ (by simp) rfl
    · exact h _ rfl ⟨3, .phase⟩ (by simp) rfl
    · exact h _ rfl ⟨4, .chain⟩ (by simp) rfl
    · exact h _ rfl ⟨5, .phase⟩ (by simp) rfl
    · exact h _ rfl ⟨6, .phase⟩ (by simp) rfl
    · exact h _ rfl ⟨7, .phase⟩ (by simp) rfl
    · exact h _ rfl ⟨8, .phase⟩ (by simp) rfl
    · exact h _ rfl ⟨9, .data⟩ (by simp) rfl
    · exact h _ rfl ⟨10, .data⟩ (by simp) rfl
  case hl =>
    intro a w0 listed vals ol hoi hall hdeps hun ht hF0 hI
    obtain rfl := Option.some.inj hoi
    have hF : ∀ k, listed.getD k false = true → k < 12 → k ≠ 11 → _ := fun k _ hk hne => hF0 k hk hne
    have e3 : a.eval (.tmp 3) = vals 10 := tabd_at ht (t := 3) (of_decide_eq_true (by kernel_rfl)) (by kernel_rfl) (hall 10 (by decide) (by decide))
    have e15 : a.eval (.tmp 15) = vals 9 := tabd_at ht (t := 15) (of_decide_eq_true (by kernel_rfl)) (by kernel_rfl) (hall 9 (by decide) (by decide))
    have g0 : vals 0 = (.pointer (some ⟨g, 0, none⟩)) := hF0 0 (by decide) (by decide)
    have g1 : vals 1 = (.pointer (some ⟨g, 0, none⟩)) := hF0 1 (by decide) (by decide)
    have g2 : vals 2 = (.pointer (some ⟨g, 1, none⟩)) := hF0 2 (by decide) (by decide)
    have g3 : vals 3 = (.slice A n c) := hF0 3 (by decide) (by decide)
    have g4 := hF0 4 (by decide) (by decide)
    have g5 : vals 5 = (.pointer (some ⟨g, 0, none⟩)) := hF0 5 (by decide) (by decide)
    have g6 : vals 6 = (.pointer (some ⟨g, 0, none⟩)) := hF0 6 (by decide) (by decide)
    have g7 : vals 7 = (.pointer (some ⟨g, 2, none⟩)) := hF0 7 (by decide) (by decide)
    have g8 : vals 8 = (.slice E L d) := hF0 8 (by decide) (by decide)
    have g9 := hF0 9 (by decide) (by decide)
    have g10 := hF0 10 (by decide) (by decide)
    clear hF
    obtain ⟨T, e7, l7, hT⟩ := g10
    obtain ⟨u, e6, q6⟩ := g9
    obtain ⟨A2, C2, o2⟩ := own_slice q6
    refine ⟨rfl, fun K hk => wp_store_row 51 _ _ rfl T #[.int .i64 0, u, .slice E L d, .map none] (e3.trans e7) (e15.trans e6) 51 _ l7 (by kernel_rfl) rfl (by rw [o2]; simp [Value.oneCell']) (hk _ _ ?_)⟩
    have ha := tabd_fill ht (fun t i ho => hall i (ownAll_lt ho) (fun e => by subst e; have h9 : (none : Option Nat) = some t := ownAll_spec ho; cases h9))
    subst ha
    change Exit.then _ _ Exit.normal { tmps := #[(.pointer (some ⟨g, 0, none⟩)), undef, (.slice none 0 0), vals 10, (.pointer (some ⟨g, 0, none⟩)), (.bool false), vals 0, vals 1, vals 2, vals 3, vals 4, vals 5, vals 6, vals 7, vals 8, vals 9, undef, undef, undef], defers := [] } _
    simp only [g0, g1, g2, g3, g5, g6, g7, g8]
    clear ht hall hdeps hun hF0
    rw [e7, e6]
    generalize vals 4 = y4
    have lt := lies_setRow l7 #[.int .i64 0, u, .slice E L d, .map none]
    have bt := below_setRow hI hT #[.int .i64 0, u, .slice E L d, .map none]
    have qt : OwnB (w0.setRow T #[.int .i64 0, u, .slice E L d, .map none]) w.heap.size u cs.flatten := q6.kept (grown_setRow w0 T _) (own_other q6 (fun r e => by injection e with e; subst e; exact ⟨_, 51, l7, by decide⟩))
    generalize w0.setRow T #[.int .i64 0, u, .slice E L d, .map none] = W1 at *
    rw [o2] at qt lt ⊢
    have qb := own_bytes qt
    rw [← NN.out] at qt lt qb ⊢
    have hcut : Cut W1 T cs A2 C2 E d := ⟨by rw [NN.out] at lt; exact lies_cell lt 1, by rw [NN.out] at qb; exact qb.2.2.1, by have := lies_cell lt 2; have h2 := LL.out; subst h2; exact this, fun j hj => by
      obtain ⟨b, e, hc⟩ := HEN.out j hj
      exact ⟨b, e, (bt.cell (p := ⟨b, j, none⟩) (HE.out b e)).trans hc⟩⟩
    have LC := Lib.hid (len_cell T E L d W1 (lies_cell lt 2))
    have GA := Lib.hid (gather_any T cs A2 C2 E d W1 hcut (lies_lt lt) (fun b e => Nat.lt_of_lt_of_le (HE.out b e) bt.size) (by have := LL.out; omega))
    rw [← LL.out] at GA
    have BT := Lib.hid bt
    have QT := Lib.hid qt
    have HT := Lib.hid hT
    clear l7 e7 e6 q6 e3 e15 o2 g4 g0 g1 g2 g3 g5 g6 g7 g8 hI KG lt bt qt qb hcut hT
    go_wp2_with (first
      | (go_at_call 17; (with_reducible refine LC.out.mono ?_); rintro e w1' ⟨rfl, rfl⟩)
      | (go_at_call 24; (with_reducible refine GA.out.mono ?_); rintro e w3 ⟨rfl, ho, hb⟩; have HO := Lib.hid ho; have HB := Lib.hid hb; clear ho hb))
    go_ret
    exact ⟨⟨W1.heap.size, A2, rfl, World.ownsRow.mono HO.out BT.out.size, C2, ownB_below QT.out HB.out⟩, BT.out.trans (HB.out.mono BT.out.size)⟩
end
end Go.Proofs.Ytlnmaejpchncoaa
