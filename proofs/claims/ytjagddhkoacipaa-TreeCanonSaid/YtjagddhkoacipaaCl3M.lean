/-
What is proved here: Clone, by a contract.
-/
import Derived.Test.YtjagddhkoacipaaMa11
import Derived.Test.YtjagddhkoacipaaEfsM
import Derived.Test.YtjagddhkoacipaaMa12
import Derived.StillTailTactics
set_option linter.unusedSimpArgs false
set_option linter.unusedVariables false
namespace Go.Proofs.Ytjagddhkoacipaa
open Go.Pth Go.Tre Go.RowKit Go.Word Go.Shelf

theorem wp_enter {P : Program} {Q : Exit → Act → World → Prop} {a : Act} {w : World} {K : Act → World → Prop} {oi : Oper} {f : FuncId} {args : Array Value} {post : Ending → World → Prop} (hr : (execOp a.eval oi).run P w = .ok (.enter f args) w) (hc : Calls P f args w post) (h : ∀ e w2, post e w2 → ∃ v, e = .returned v ∧ K (a.put oi.dst v) w2) : Oper.wp P oi a w K Q := by
  unfold Oper.wp
  rw [hr]
  refine hc.mono ?_
  intro e w2 hp
  obtain ⟨v, rfl, hk⟩ := h e w2 hp
  exact hk
theorem lies_range {w : World} {g : Nat} {t : TypeId} {x y : Value} (h : Lies w g t #[x, y]) : w.rangeAt g 0 [x, y] := fun j u hj => by
  match j, hj with
  | 0, hj => injection hj with hj; subst hj; exact lies_cell h 0
  | 1, hj => injection hj with hj; subst hj; exact lies_cell h 1
set_option maxRecDepth 100000 in
set_option maxHeartbeats 8000000 in
theorem clone_any (NA FA : Option Addr) (nc fc : Nat) (ns : List Nd) (fs : List Fl) (w : World) (hN : NodesAt w NA ns) (hF : FilesAt w FA fs) (h1 : ns.length ≤ 1000) (h2 : fs.length ≤ 1000) (h3 : ∀ x ∈ fs, x.data.length ≤ 1000000) :
    Calls Try.prog 41 #[.agg #[.slice NA ns.length nc, .slice FA fs.length fc]] w fun e w' => ∃ vN vF D, e = .returned (.agg #[vN, vF]) ∧ CopyAt w' w.heap.size vN vF D ns fs ∧ Below w.heap.size w w' := by
  have L := lies_alloc (lies_new w 25 #[.slice NA ns.length nc, .slice FA fs.length fc]) (.cells #[.slice none 0 0, .slice none 0 0] 25)
  have hB : Below w.heap.size w ((w.alloc (.cells #[.slice NA ns.length nc, .slice FA fs.length fc] 25)).alloc (.cells #[.slice none 0 0, .slice none 0 0] 25)) := ((Below.refl _ _).alloc (Nat.le_refl _) _).alloc (by simp) _
  have L2 := lies_new (w.alloc (.cells #[.slice NA ns.length nc, .slice FA fs.length fc] 25)) 25 #[.slice none 0 0, .slice none 0 0]
  rw [World.size_alloc] at L2
  have HN := Lib.hid (nodesAt_below hN hB)
  have HF := Lib.hid (filesAt_below hF hB)
  have H3 := Lib.hid h3
  clear hN hF h3
  have x0 := lies_cell L 0
  have x1 := lies_cell L 1
  simp only [List.getElem?_toArray, List.getElem?_cons_zero, List.getElem?_cons_succ] at x0 x1
  have HB := Lib.hid hB
  have LX := Lib.hid L
  have LR := Lib.hid L2
  clear L L2 hB
  generalize hne : ns.length = n at *
  generalize hme : fs.length = m at *
  have NE := Lib.hid hne
  have ME := Lib.hid hme
  clear hne hme
  go_enter Try.func41, Try.ntmps41
  go_upto_region 1 with (fail)
  generalize (w.alloc (.cells #[.slice NA n nc, .slice FA m fc] 25)).alloc (.cells #[.slice none 0 0, .slice none 0 0] 25) = X at *
  have HI2 := Lib.hid (info_parts file_info2)
  obtain ⟨D0, hD0, hS0⟩ := files_row HF.out
  have HS := Lib.hid hS0
  have HD := Lib.hid hD0
  have HO := Lib.hid (show ∀ i, i < fs.length → (D0 i).oneCell' = true from fun i hi => by obtain ⟨DA, dc, e, _⟩ := hD0 i hi; rw [e]; rfl)
  clear hD0 hS0
  have KF : ∀ (k : Nat) (u : Value) (W W' : World), W.grownBy W' none → ((fun (j : Nat) (v : Value) (W : World) => match j with | 0 => v = .pointer (some ⟨w.heap.size, 0, none⟩) | 1 => v = .slice NA n nc | 2 => W.ownsRow X.heap.size 54 3 v n (ncells ns) | 3 => v = .pointer (some ⟨w.heap.size, 1, none⟩) | 4 => v = .slice FA m fc | 5 => W.ownsRow X.heap.size 57 2 v m (fcells D0 fs) | 6 => (∃ vN vF, v = .agg #[vN, vF] ∧ W.ownsRow X.heap.size 54 3 vN n (ncells ns) ∧ W.ownsRow X.heap.size 57 2 vF m (fcells D0 fs)) | 7 => (∃ T, v = .pointer (some ⟨T, 0, none⟩) ∧ Lies W T 25 #[.slice none 0 0, .slice none 0 0] ∧ X.heap.size ≤ T) | _ => True) : Nat → Value → World → Prop) k u W → ((fun (j : Nat) (v : Value) (W : World) => match j with | 0 => v = .pointer (some ⟨w.heap.size, 0, none⟩) | 1 => v = .slice NA n nc | 2 => W.ownsRow X.heap.size 54 3 v n (ncells ns) | 3 => v = .pointer (some ⟨w.heap.size, 1, none⟩) | 4 => v = .slice FA m fc | 5 => W.ownsRow X.heap.size 57 2 v m (fcells D0 fs) | 6 => (∃ vN vF, v = .agg #[vN, vF] ∧ W.ownsRow X.heap.size 54 3 vN n (ncells ns) ∧ W.ownsRow X.heap.size 57 2 vF m (fcells D0 fs)) | 7 => (∃ T, v = .pointer (some ⟨T, 0, none⟩) ∧ Lies W T 25 #[.slice none 0 0, .slice none 0 0] ∧ X.heap.size ≤ T) | _ => True) : Nat → Value → World → Prop) k u W' := fun k u W W' hg h => by
    have nb : ∀ x : Value, x.ownBlock = none ∨ x.ownBlock ≠ none := fun x => by cases x.ownBlock <;> simp
    match k, h with
    | 0, h => exact h
    | 1, h => exact h
    | 2, h => exact World.ownsRow.kept h hg (nb u)
    | 3, h => exact h
    | 4, h => exact h
    | 5, h => exact World.ownsRow.kept h hg (nb u)
    | 6, ⟨vN, vF, e, h1, h2⟩ => exact ⟨vN, vF, e, World.ownsRow.kept h1 hg (nb vN), World.ownsRow.kept h2 hg (nb vF)⟩
    | 7, ⟨T, e, h1, h2⟩ => exact ⟨T, e, (hg.block T (lies_lt h1) (by simp)).trans h1, h2⟩
    | _ + 8, _ => exact trivial
  have KFH := Lib.hid KF
  refine wp_region_any (by kernel_rfl) ?_
  refine every_facts (own := ownAll _) id 8 ((fun (j : Nat) (v : Value) (W : World) => match j with | 0 => v = .pointer (some ⟨w.heap.size, 0, none⟩) | 1 => v = .slice NA n nc | 2 => W.ownsRow X.heap.size 54 3 v n (ncells ns) | 3 => v = .pointer (some ⟨w.heap.size, 1, none⟩) | 4 => v = .slice FA m fc | 5 => W.ownsRow X.heap.size 57 2 v m (fcells D0 fs) | 6 => (∃ vN vF, v = .agg #[vN, vF] ∧ W.ownsRow X.heap.size 54 3 vN n (ncells ns) ∧ W.ownsRow X.heap.size 57 2 vF m (fcells D0 fs)) | 7 => (∃ T, v = .pointer (some ⟨T, 0, none⟩) ∧ Lies W T 25 #[.slice none 0 0, .slice none 0 0] ∧ X.heap.size ≤ T) | _ => True) : Nat → Value → World → Prop) (fun W => Below X.heap.size X W) (acAll_of (by kernel_rfl)) (onAll_of (by kernel_rfl)) (dstAll_of (by kernel_rfl)) ?hop ?hall ?hl ?hend _ _ _ _ (fun _ => undef) rfl (shut_none _) (fun _ => rep_false _ _) (of_decide_eq_true (by kernel_rfl)) (tabd_start (fun i => rep_false _ i)) (fun k hk => by rw [rep_false] at hk; cases hk) (Below.refl _ X).drew
  case hop =>
    intro j oi a w0 listed vals hoi hjl hdeps ht hF hI
    have hj : j < 9 := (Array.getElem?_eq_some_iff.1 hoi).1
    have cj : j = 0 ∨ j = 1 ∨ j = 2 ∨ j = 3 ∨ j = 4 ∨ j = 5 ∨ j = 6 ∨ j = 7 := by omega
    obtain rfl | rfl | rfl | rfl | rfl | rfl | rfl | rfl := cj
    all_goals obtain rfl := Option.some.inj hoi
    · have e1 : a.eval (.tmp 1) = .pointer (some ⟨w.heap.size, 0, none⟩) := (tabd_old ht (t := 1) (of_decide_eq_true (by kernel_rfl)) (by kernel_rfl)).trans rfl
      exact .inl ⟨rfl, fun K hk => wp_val (v := .pointer (some ⟨w.heap.size, 0, none⟩)) (by clear hk hI hoi hdeps ht hF; generalize a.eval = ρ at *; unfold execOp; simp only [e1]; go_simp) (hk _ _ rfl (fun _ _ _ h => h) hI)⟩
    · have d0 := hdeps ⟨0, .data⟩ (by simp) rfl
      have e6 : a.eval (.tmp 6) = .pointer (some ⟨w.heap.size, 0, none⟩) := (tabd_at ht (t := 6) (of_decide_eq_true (by kernel_rfl)) (by kernel_rfl) d0).trans (hF 0 d0)
      exact .inl ⟨rfl, fun K hk => wp_val (v := .slice NA n nc) (by have hc := hI.cell (p := ⟨w.heap.size, 0, none⟩) (lies_lt LX.out); rw [x0] at hc; clear hk hI hoi hdeps ht hF; generalize a.eval = ρ at *; unfold execOp; simp only [e6]; go_simp) (hk _ _ rfl (fun _ _ _ h => h) hI)⟩
    · have d1 := hdeps ⟨1, .data⟩ (by simp) rfl
      have e7 : a.eval (.tmp 7) = .slice NA n nc := (tabd_at ht (t := 7) (of_decide_eq_true (by kernel_rfl)) (by kernel_rfl) d1).trans (hF 1 d1)
      refine .inl ⟨rfl, fun K hk => ?_⟩
      obtain ⟨v, w1, hr, ho, hg⟩ := run_app_nodes w0 22 NA nc ns (nodesAt_below HN.out hI) (by have := NE.out; omega)
      rw [NE.out] at hr ho
      exact wp_valT (v := v) (app_op _ _ rfl rfl e7 hr) (hk v w1 (World.ownsRow.mono ho hI.size) (fun k u _ h => KF k u w0 w1 hg h) (hI.grown hg hI.size (fun k e => by cases e)))
    · have e1 : a.eval (.tmp 1) = .pointer (some ⟨w.heap.size, 0, none⟩) := (tabd_old ht (t := 1) (of_decide_eq_true (by kernel_rfl)) (by kernel_rfl)).trans rfl
      exact .inl ⟨rfl, fun K hk => wp_val (v := .pointer (some ⟨w.heap.size, 1, none⟩)) (by clear hk hI hoi hdeps ht hF; generalize a.eval = ρ at *; unfold execOp; simp only [e1]; go_simp) (hk _ _ rfl (fun _ _ _ h => h) hI)⟩
    · have d3 := hdeps ⟨3, .data⟩ (by simp) rfl
      have e9 : a.eval (.tmp 9) = .pointer (some ⟨w.heap.size, 1, none⟩) := (tabd_at ht (t := 9) (of_decide_eq_true (by kernel_rfl)) (by kernel_rfl) d3).trans (hF 3 d3)
      exact .inl ⟨rfl, fun K hk => wp_val (v := .slice FA m fc) (by have hc := hI.cell (p := ⟨w.heap.size, 1, none⟩) (lies_lt LX.out); rw [x1] at hc; clear hk hI hoi hdeps ht hF; generalize a.eval = ρ at *; unfold execOp; simp only [e9]; go_simp) (hk _ _ rfl (fun _ _ _ h => h) hI)⟩
    · have d4 := hdeps ⟨4, .data⟩ (by simp) rfl
      have d2 := hdeps ⟨2, .chain⟩ (by simp) rfl
      have e10 : a.eval (.tmp 10) = .slice FA m fc := (tabd_at ht (t := 10) (of_decide_eq_true (by kernel_rfl)) (by kernel_rfl) d4).trans (hF 4 d4)
      refine .inl ⟨rfl, fun K hk => ?_⟩
      obtain ⟨v, w1, hr, ho, hg⟩ := run_app_files w0 23 FA fc D0 fs (filesAt_below HF.out hI) (fun ad ha j u hj => by
        subst ha
        have h1 := HS.out ad rfl j u hj
        by_cases h0 : 0 < fs.length
        · obtain ⟨b, o, _, _, e, h2, _⟩ := HF.out 0 h0
          injection e with e
          subst e
          rw [Addr.add_mid] at h1 ⊢
          exact (hI.cell (p := ⟨b, o + j, none⟩) h2).trans h1
        · have h3 : (fcells D0 fs).length = 0 := by rw [fcells_len]; omega
          have := (List.getElem?_eq_some_iff.1 hj).1
          omega) HO.out (by have := ME.out; omega)
      rw [ME.out] at hr ho
      exact wp_valT (v := v) (app_op _ _ rfl rfl e10 hr) (hk v w1 (World.ownsRow.mono ho hI.size) (fun k u _ h => KF k u w0 w1 hg h) (hI.grown hg hI.size (fun k e => by cases e)))
    · have d2 := hdeps ⟨2, .data⟩ (by simp) rfl
      have d5 := hdeps ⟨5, .data⟩ (by simp) rfl
      have f2 := hF 2 d2
      have e8 : a.eval (.tmp 8) = vals 2 := tabd_at ht (t := 8) (of_decide_eq_true (by kernel_rfl)) (by kernel_rfl) d2
      have f5 := hF 5 d5
      have e11 : a.eval (.tmp 11) = vals 5 := tabd_at ht (t := 11) (of_decide_eq_true (by kernel_rfl)) (by kernel_rfl) d5
      refine .inl ⟨rfl, fun K hk => ?_⟩
      exact wp_val (v := .agg #[vals 2, vals 5]) (by
        have o2 := own_slice f2
        have o5 := own_slice f5
        obtain ⟨A2, C2, o2⟩ := o2
        obtain ⟨A5, C5, o5⟩ := o5
        clear hk hI hoi hdeps ht hF f2 f5
        generalize a.eval = ρ at *
        rw [o2] at e8 ⊢
        rw [o5] at e11 ⊢
        unfold execOp
        simp only [e8, e11]
        go_simp) (hk _ _ ⟨_, _, rfl, f2, f5⟩ (fun _ _ _ h => h) hI)
    · refine .inl ⟨rfl, fun K hk => ?_⟩
      have hal : (w0.alloc (.cells #[.slice none 0 0, .slice none 0 0] 25)) = w0.alloc (.cells #[.slice none 0 0, .slice none 0 0] 25) := rfl
      refine wp_valT (v := .pointer (some ⟨w0.heap.size, 0, none⟩)) (w' := w0.alloc (.cells #[.slice none 0 0, .slice none 0 0] 25)) (by
        clear hk hI hoi hdeps ht hF
        generalize a.eval = ρ at *
        unfold execOp
        go_simp) ?_
      exact hk _ _ ⟨_, rfl, lies_new _ _ _, hI.size⟩ (fun k u _ h => KF k u w0 _ (World.grownBy_alloc w0 _ none) h) (hI.alloc hI.size _)
  case hend => intro a w0 listed vals _ _ _ _ h; exact absurd h (by decide)
  case hall =>
    intro listed hcl h i hi hne
    have hi : i < 9 := hi
    have ci : i = 0 ∨ i = 1 ∨ i = 2 ∨ i = 3 ∨ i = 4 ∨ i = 5 ∨ i = 6 ∨ i = 7 := by omega
    obtain rfl | rfl | rfl | rfl | rfl | rfl | rfl | rfl := ci
    · exact h _ rfl ⟨0, .phase⟩ (by simp) rfl
    · exact h _ rfl ⟨1, .phase⟩ (by simp) rfl
    · exact h _ rfl ⟨2, .phase⟩ (by simp) rfl
    · exact h _ rfl ⟨3, .phase⟩ (by simp) rfl
    · exact h _ rfl ⟨4, .phase⟩ (by simp) rfl
    · exact h _ rfl ⟨5, .chain⟩ (by simp) rfl
    · exact h _ rfl ⟨6, .data⟩ (by simp) rfl
    · exact h _ rfl ⟨7, .data⟩ (by simp) rfl
  case hl =>
    intro a w0 listed vals ol hoi hall hdeps hun ht hF0 hI
    obtain rfl := Option.some.inj hoi
    have hF : ∀ k, listed.getD k false = true → k < 9 → k ≠ 8 → _ := fun k _ hk hne => hF0 k hk hne
    have e3 : a.eval (.tmp 3) = vals 7 := tabd_at ht (t := 3) (of_decide_eq_true (by kernel_rfl)) (by kernel_rfl) (hall 7 (by decide) (by decide))
    have e12 : a.eval (.tmp 12) = vals 6 := tabd_at ht (t := 12) (of_decide_eq_true (by kernel_rfl)) (by kernel_rfl) (hall 6 (by decide) (by decide))
    have g0 : vals 0 = .pointer (some ⟨w.heap.size, 0, none⟩) := hF0 0 (by decide) (by decide)
    have g1 : vals 1 = .slice NA n nc := hF0 1 (by decide) (by decide)
    have g2 := hF0 2 (by decide) (by decide)
    have g3 : vals 3 = .pointer (some ⟨w.heap.size, 1, none⟩) := hF0 3 (by decide) (by decide)
    have g4 : vals 4 = .slice FA m fc := hF0 4 (by decide) (by decide)
    have g5 := hF0 5 (by decide) (by decide)
    have g6 := hF0 6 (by decide) (by decide)
    have g7 := hF0 7 (by decide) (by decide)
    clear hF
    obtain ⟨T, e7, l7, hT⟩ := g7
    obtain ⟨vN, vF, e6, n6, q6⟩ := g6
    obtain ⟨A2, C2, o2⟩ := own_slice n6
    obtain ⟨A5, C5, o5⟩ := own_slice q6
    refine ⟨rfl, fun K hk => wp_store_row 25 _ _ rfl T #[vN, vF] (e3.trans e7) (e12.trans e6) 25 _ l7 (by kernel_rfl) rfl (by rw [o2, o5]; simp [Value.oneCell']) (hk _ _ ?_)⟩
    have ha := tabd_fill ht (fun t i ho => hall i (ownAll_lt ho) (fun e => by subst e; have h9 : (none : Option Nat) = some t := ownAll_spec ho; cases h9))
    subst ha
    change Exit.then _ _ Exit.normal { tmps := #[.agg #[.slice NA n nc, .slice FA m fc], .pointer (some ⟨w.heap.size, 0, none⟩), .pointer (some ⟨w.heap.size + 1, 0, none⟩), vals 7, undef, undef, vals 0, vals 1, vals 2, vals 3, vals 4, vals 5, vals 6, undef, undef, undef, undef, undef, undef, undef, undef, undef, undef, undef, undef, undef, undef, undef, undef, undef, undef], defers := [] } _
    simp only [g0, g1, g3, g4]
    clear ht hall hdeps hun hF0
    rw [e7, e6]
    generalize vals 2 = y2
    generalize vals 5 = y5
    have c0 := clone_first (ns := ns) (fs := fs) (D := D0) (by rw [NE.out]; exact n6.kept (grown_setRow w0 T #[vN, vF]) (own_other n6 (fun r e => by injection e with e; subst e; exact ⟨_, 25, l7, by decide⟩))) (by rw [ME.out]; exact q6.kept (grown_setRow w0 T #[vN, vF]) (own_other q6 (fun r e => by injection e with e; subst e; exact ⟨_, 25, l7, by decide⟩)))
    have C0 := Lib.hid c0
    have L0 := Lib.hid (lies_setRow l7 #[vN, vF])
    have B0 := Lib.hid (below_setRow hI hT #[vN, vF])
    have ZT := Lib.hid hT
    clear c0 l7 hI hT n6 q6 e6 e7 e3 e12 g2 g5
    rw [o5] at C0 L0 B0 ⊢
    clear o5 KFH HS HO KF
    have oN : vN.oneCell' = true := by rw [o2]; rfl
    have ON := Lib.hid oN
    clear oN o2
    generalize w0.setRow T #[vN, .slice A5 m C5] = W1 at *
    clear g0 g1 g3 g4
    have t1 := lies_cell L0.out 1
    simp only [List.getElem?_toArray, List.getElem?_cons_zero, List.getElem?_cons_succ] at t1
    go_wp2
    go_loopw [16] (fun v16 wr => ∃ j : Nat, j ≤ m ∧ v16 = .int .i64 (j : Int) ∧ (∃ D, CloneAt wr X.heap.size vN (.slice A5 m C5) D0 D ns fs j) ∧ Lies wr T 25 #[vN, .slice A5 m C5] ∧ Below X.heap.size X wr) (fun v16 _ => m - (intOf v16).toNat)
    case atStart => exact ⟨0, Nat.zero_le _, rfl, ⟨D0, C0.out⟩, L0.out, B0.out⟩
    case round =>
      obtain ⟨j, hj, rfl, ⟨D, hC⟩, hL, hB⟩ := hrel
      have HBJ := Lib.hid hB
      have HCJ := Lib.hid hC
      have HLJ := Lib.hid hL
      clear hB hC hL t1 C0 L0 B0
      by_cases hlt : j < m
      · have lj : (j : Int) < (m : Int) := by omega
        have lf : j < fs.length := by have := ME.out; omega
        have cf := HCJ.out.files
        rw [ME.out] at cf
        obtain ⟨g, rfl⟩ := own_at cf (by omega)
        have f0 := (cf.cellAt (j * 2) (by omega)).trans (fcells_at (fun i => if i < j then D i else D0 i) fs j lf).1
        have f1 := (cf.cellAt (j * 2 + 1) (by omega)).trans (fcells_at (fun i => if i < j then D i else D0 i) fs j lf).2
        obtain ⟨DA, dc, eD, hbD⟩ := HD.out j lf
        have f1 : wr.cell? ⟨g, j * 2 + 1, none⟩ = some (.slice DA fs[j].data.length dc) := by
          rw [f1]
          show some (if j < j then D j else D0 j) = _
          rw [if_neg (by omega), eD]
        have dl := H3.out fs[j] (List.getElem_mem lf)
        have HX := Lib.hid (show ∀ (v : Value) (W W1 : World) (hb : Below W.heap.size W W1), CloneAt W X.heap.size vN (.slice (some ⟨g, 0, none⟩) m C5) D0 D ns fs j → X.heap.size ≤ W.heap.size → OwnB W1 W.heap.size v fs[j].data → CloneAt (W1.setCell ⟨g, j * 2 + 1, none⟩ v) X.heap.size vN (.slice (some ⟨g, 0, none⟩) m C5) D0 (fun i => if i = j then v else D i) ns fs (j + 1) from fun v W W1 hb hc hs ho => by
          rw [← ME.out] at hc ⊢
          exact clone_step hc lf hs hb ho)
        obtain ⟨hgX, csg, hgg⟩ := own_heap cf g rfl
        have GX := Lib.hid hgX
        have GG := Lib.hid (show Lies wr g 57 csg from hgg)
        have CSZ : Hid (∃ z, csg[j * 2 + 1]? = some z) := Lib.hid ⟨_, (lies_cell (show Lies wr g 57 csg from hgg) (j * 2 + 1)).symm.trans f1⟩
        clear cf eD hgX hgg
        generalize fs[j] = x at *
        obtain ⟨md, d⟩ := x
        have HX : Hid (∀ (v : Value) (W W1 : World) (hb : Below W.heap.size W W1), CloneAt W X.heap.size vN (.slice (some ⟨g, 0, none⟩) m C5) D0 D ns fs j → X.heap.size ≤ W.heap.size → OwnB W1 W.heap.size v d → CloneAt (W1.setCell ⟨g, j * 2 + 1, none⟩ v) X.heap.size vN (.slice (some ⟨g, 0, none⟩) m C5) D0 (fun i => if i = j then v else D i) ns fs (j + 1)) := HX
        have f1 : wr.cell? ⟨g, j * 2 + 1, none⟩ = some (.slice DA d.length dc) := f1
        have DLE := Lib.hid (show d.length ≤ 1000000 from dl)
        have HBD := Lib.hid (show BytesAt X DA d from hbD)
        have LM := Lib.hid (file_range f0 f1)
        clear f0 f1 dl hbD
        have LN := Lib.hid (lies_new wr 57 #[.int .i64 0, .slice none 0 0])
        have ES := Lib.hid (setRow_alloc wr 57 #[.int .i64 0, .slice none 0 0] #[.int .i64 md, .slice DA d.length dc])
        generalize hdl : d.length = l at *
        have DL := Lib.hid hdl
        clear hdl
        go_upto_region 5 with (first
          | (refine wpList_load_mid rfl 57 _ rfl g (j * 2) rfl [.int .i64 md, .slice DA l dc] _ LM.out Try.underlying57 rfl (by kernel_rfl) ?_)
          | (refine wpList_store_row rfl 57 _ _ rfl wr.heap.size #[.int .i64 md, .slice DA l dc] rfl rfl 57 _ LN.out (by kernel_rfl) rfl (by simp [Value.oneCell']) ?_; rw [ES.out]))
        have LY := Lib.hid (lies_new wr 57 #[.int .i64 md, .slice DA l dc])
        have bY : Below wr.heap.size wr (wr.alloc (.cells #[.int .i64 md, .slice DA l dc] 57)) := (Below.refl _ _).alloc (Nat.le_refl _) _
        have CY := Lib.hid (clone_below HCJ.out bY)
        have TY := Lib.hid (lies_alloc HLJ.out (.cells #[.int .i64 md, .slice DA l dc] 57))
        have GY := Lib.hid (lies_alloc GG.out (.cells #[.int .i64 md, .slice DA l dc] 57))
        have BY := Lib.hid (HBJ.out.alloc HBJ.out.size (.cells #[.int .i64 md, .slice DA l dc] 57))
        clear LM LN ES bY HCJ HLJ GG
        generalize wr.alloc (.cells #[.int .i64 md, .slice DA l dc] 57) = Y at *
        generalize wr.heap.size = S5 at *
        have KG : ∀ (k : Nat) (u : Value) (W W' : World), k ≠ 5 → Below W.heap.size W W' → ((fun (j_ : Nat) (v : Value) (W : World) => match j_ with | 0 => v = .pointer (some ⟨T, 1, none⟩) | 1 => v = .slice (some ⟨g, 0, none⟩) m C5 | 2 => v = .int .i64 (j : Int) | 3 => v = .pointer (some ⟨S5, 1, none⟩) | 4 => v = .slice DA l dc | 5 => OwnB W Y.heap.size v d | 6 => v = .pointer (some ⟨g, j * 2, none⟩) | 7 => v = .pointer (some ⟨g, j * 2 + 1, none⟩) | _ => True) : Nat → Value → World → Prop) k u W → ((fun (j_ : Nat) (v : Value) (W : World) => match j_ with | 0 => v = .pointer (some ⟨T, 1, none⟩) | 1 => v = .slice (some ⟨g, 0, none⟩) m C5 | 2 => v = .int .i64 (j : Int) | 3 => v = .pointer (some ⟨S5, 1, none⟩) | 4 => v = .slice DA l dc | 5 => OwnB W Y.heap.size v d | 6 => v = .pointer (some ⟨g, j * 2, none⟩) | 7 => v = .pointer (some ⟨g, j * 2 + 1, none⟩) | _ => True) : Nat → Value → World → Prop) k u W' := fun k u W W' hne hb h => by
          match k, h with
          | 0, h => exact h
          | 1, h => exact h
          | 2, h => exact h
          | 3, h => exact h
          | 4, h => exact h
          | 5, h => exact absurd rfl hne
          | 6, h => exact h
          | 7, h => exact h
          | _ + 8, _ => exact trivial
        refine wp_region_any (by kernel_rfl) ?_
        refine every_facts (own := ownAll _) id 8 ((fun (j_ : Nat) (v : Value) (W : World) => match j_ with | 0 => v = .pointer (some ⟨T, 1, none⟩) | 1 => v = .slice (some ⟨g, 0, none⟩) m C5 | 2 => v = .int .i64 (j : Int) | 3 => v = .pointer (some ⟨S5, 1, none⟩) | 4 => v = .slice DA l dc | 5 => OwnB W Y.heap.size v d | 6 => v = .pointer (some ⟨g, j * 2, none⟩) | 7 => v = .pointer (some ⟨g, j * 2 + 1, none⟩) | _ => True) : Nat → Value → World → Prop) (fun W => Below Y.heap.size Y W) (acAll_of (by kernel_rfl)) (onAll_of (by kernel_rfl)) (dstAll_of (by kernel_rfl)) ?hop ?hall ?hl ?hend _ _ _ _ (fun _ => undef) rfl (shut_none _) (fun _ => rep_false _ _) (of_decide_eq_true (by kernel_rfl)) (tabd_start (fun i => rep_false _ i)) (fun k hk => by rw [rep_false] at hk; cases hk) (Below.refl _ Y).drew
        case hop =>
          intro j oi a w0 listed vals hoi hjl hdeps ht hF hI
          have hj : j < 9 := (Array.getElem?_eq_some_iff.1 hoi).1
          have cj : j = 0 ∨ j = 1 ∨ j = 2 ∨ j = 3 ∨ j = 4 ∨ j = 5 ∨ j = 6 ∨ j = 7 := by omega
          obtain rfl | rfl | rfl | rfl | rfl | rfl | rfl | rfl := cj
          all_goals obtain rfl := Option.some.inj hoi
          · have e3 : a.eval (.tmp 3) = .pointer (some ⟨T, 0, none⟩) := (tabd_old ht (t := 3) (of_decide_eq_true (by kernel_rfl)) (by kernel_rfl)).trans rfl
            exact .inl ⟨rfl, fun K hk => wp_val (v := .pointer (some ⟨T, 1, none⟩)) (by clear hk hI hoi hdeps ht hF; generalize a.eval = ρ at *; unfold execOp; simp only [e3]; go_simp) (hk _ _ rfl (fun _ _ _ h => h) hI)⟩
          · have d0 := hdeps ⟨0, .data⟩ (by simp) rfl
            have e21 : a.eval (.tmp 21) = .pointer (some ⟨T, 1, none⟩) := (tabd_at ht (t := 21) (of_decide_eq_true (by kernel_rfl)) (by kernel_rfl) d0).trans (hF 0 d0)
            exact .inl ⟨rfl, fun K hk => wp_val (v := .slice (some ⟨g, 0, none⟩) m C5) (by have hc := hI.cell (p := ⟨T, 1, none⟩) (lies_lt TY.out); rw [lies_cell TY.out 1] at hc; simp only [List.getElem?_toArray, List.getElem?_cons_zero, List.getElem?_cons_succ] at hc; clear hk hI hoi hdeps ht hF; generalize a.eval = ρ at *; unfold execOp; simp only [e21]; go_simp) (hk _ _ rfl (fun _ _ _ h => h) hI)⟩
          · have e4 : a.eval (.tmp 4) = .int .i64 (j : Int) := (tabd_old ht (t := 4) (of_decide_eq_true (by kernel_rfl)) (by kernel_rfl)).trans rfl
            exact .inl ⟨rfl, fun K hk => wp_val (v := .int .i64 (j : Int)) (by clear hk hI hoi hdeps ht hF; generalize a.eval = ρ at *; unfold execOp; simp only [e4]; go_simp) (hk _ _ rfl (fun _ _ _ h => h) hI)⟩
          · have e5 : a.eval (.tmp 5) = .pointer (some ⟨S5, 0, none⟩) := (tabd_old ht (t := 5) (of_decide_eq_true (by kernel_rfl)) (by kernel_rfl)).trans rfl
            exact .inl ⟨rfl, fun K hk => wp_val (v := .pointer (some ⟨S5, 1, none⟩)) (by clear hk hI hoi hdeps ht hF; generalize a.eval = ρ at *; unfold execOp; simp only [e5]; go_simp) (hk _ _ rfl (fun _ _ _ h => h) hI)⟩
          · have d3 := hdeps ⟨3, .data⟩ (by simp) rfl
            have e24 : a.eval (.tmp 24) = .pointer (some ⟨S5, 1, none⟩) := (tabd_at ht (t := 24) (of_decide_eq_true (by kernel_rfl)) (by kernel_rfl) d3).trans (hF 3 d3)
            exact .inl ⟨rfl, fun K hk => wp_val (v := .slice DA l dc) (by have hc := hI.cell (p := ⟨S5, 1, none⟩) (lies_lt LY.out); rw [lies_cell LY.out 1] at hc; simp only [List.getElem?_toArray, List.getElem?_cons_zero, List.getElem?_cons_succ] at hc; clear hk hI hoi hdeps ht hF; generalize a.eval = ρ at *; unfold execOp; simp only [e24]; go_simp) (hk _ _ rfl (fun _ _ _ h => h) hI)⟩
          · have d4 := hdeps ⟨4, .data⟩ (by simp) rfl
            have e25 : a.eval (.tmp 25) = .slice DA l dc := (tabd_at ht (t := 25) (of_decide_eq_true (by kernel_rfl)) (by kernel_rfl) d4).trans (hF 4 d4)
            have ef47 : a.eval (.func 64) = .func (.func 64) #[] #[] := rfl
            refine .inl ⟨rfl, fun K hk => ?_⟩
            have hbc := bclone_any DA dc d w0 (bytesAt_below HBD.out (BY.out.trans (hI.mono BY.out.size))) (by rw [DL.out]; exact DLE.out)
            rw [DL.out] at hbc
            refine wp_enter (by clear hk hI hoi hdeps ht hF hbc; generalize a.eval = ρ at *; unfold execOp; simp only [e25, ef47]; go_simp) hbc ?_
            rintro e w2 ⟨⟨v, rfl, ho⟩, hb⟩
            exact ⟨v, rfl, hk v w2 (World.ownsRow.mono ho hI.size) (fun k u hne h => KG k u w0 w2 hne hb h) (hI.trans (hb.mono hI.size))⟩
          · have d1 := hdeps ⟨1, .data⟩ (by simp) rfl
            have d2 := hdeps ⟨2, .data⟩ (by simp) rfl
            have e22 : a.eval (.tmp 22) = .slice (some ⟨g, 0, none⟩) m C5 := (tabd_at ht (t := 22) (of_decide_eq_true (by kernel_rfl)) (by kernel_rfl) d1).trans (hF 1 d1)
            have e23 : a.eval (.tmp 23) = .int .i64 (j : Int) := (tabd_at ht (t := 23) (of_decide_eq_true (by kernel_rfl)) (by kernel_rfl) d2).trans (hF 2 d2)
            exact .inl ⟨rfl, fun K hk => wp_val (v := .pointer (some ⟨g, j * 2, none⟩)) (by clear hk hI hoi hdeps ht hF; generalize a.eval = ρ at *; unfold execOp; simp only [e22, e23]; go_simp) (hk _ _ rfl (fun _ _ _ h => h) hI)⟩
          · have d6 := hdeps ⟨6, .data⟩ (by simp) rfl
            have e27 : a.eval (.tmp 27) = .pointer (some ⟨g, j * 2, none⟩) := (tabd_at ht (t := 27) (of_decide_eq_true (by kernel_rfl)) (by kernel_rfl) d6).trans (hF 6 d6)
            exact .inl ⟨rfl, fun K hk => wp_val (v := .pointer (some ⟨g, j * 2 + 1, none⟩)) (by clear hk hI hoi hdeps ht hF; generalize a.eval = ρ at *; unfold execOp; simp only [e27]; go_simp) (hk _ _ rfl (fun _ _ _ h => h) hI)⟩
        case hend => intro a w0 listed vals _ _ _ _ h; exact absurd h (by decide)
        case hall =>
          intro listed hcl h i hi hne
          have hi : i < 9 := hi
          have ci : i = 0 ∨ i = 1 ∨ i = 2 ∨ i = 3 ∨ i = 4 ∨ i = 5 ∨ i = 6 ∨ i = 7 := by omega
          obtain rfl | rfl | rfl | rfl | rfl | rfl | rfl | rfl := ci
          · exact h _ rfl ⟨0, .phase⟩ (by simp) rfl
          · exact h _ rfl ⟨1, .phase⟩ (by simp) rfl
          · exact h _ rfl ⟨2, .phase⟩ (by simp) rfl
          · exact h _ rfl ⟨3, .phase⟩ (by simp) rfl
          · exact h _ rfl ⟨4, .phase⟩ (by simp) rfl
          · exact h _ rfl ⟨5, .data⟩ (by simp) rfl
          · exact hcl 7 _ rfl (h _ rfl ⟨7, .data⟩ (by simp) rfl) ⟨6, .data⟩ (by simp) rfl
          · exact h _ rfl ⟨7, .data⟩ (by simp) rfl
        case hl =>
          intro a w0 listed vals ol hoi hall hdeps hun ht hF0 hI
          obtain rfl := Option.some.inj hoi
          have hF : ∀ k, listed.getD k false = true → k < 9 → k ≠ 8 → _ := fun k _ hk hne => hF0 k hk hne
          have e26 : a.eval (.tmp 26) = vals 5 := tabd_at ht (t := 26) (of_decide_eq_true (by kernel_rfl)) (by kernel_rfl) (hall 5 (by decide) (by decide))
          have e28 : a.eval (.tmp 28) = .pointer (some ⟨g, j * 2 + 1, none⟩) := (tabd_at ht (t := 28) (of_decide_eq_true (by kernel_rfl)) (by kernel_rfl) (hall 7 (by decide) (by decide))).trans (hF0 7 (by decide) (by decide))
          have g0 : vals 0 = .pointer (some ⟨T, 1, none⟩) := hF0 0 (by decide) (by decide)
          have g1 : vals 1 = .slice (some ⟨g, 0, none⟩) m C5 := hF0 1 (by decide) (by decide)
          have g2 : vals 2 = .int .i64 (j : Int) := hF0 2 (by decide) (by decide)
          have g3 : vals 3 = .pointer (some ⟨S5, 1, none⟩) := hF0 3 (by decide) (by decide)
          have g4 : vals 4 = .slice DA l dc := hF0 4 (by decide) (by decide)
          have g5 := hF0 5 (by decide) (by decide)
          have g6 : vals 6 = .pointer (some ⟨g, j * 2, none⟩) := hF0 6 (by decide) (by decide)
          have g7 : vals 7 = .pointer (some ⟨g, j * 2 + 1, none⟩) := hF0 7 (by decide) (by decide)
          clear hF
          obtain ⟨Av, Cv, ov⟩ := own_slice g5
          have gW : w0.heap[g]? = some (.cells csg 57 (0, 0)) := (hI.block g (lies_lt GY.out)).trans GY.out
          have hcell := cell_of_row w0 g (j * 2 + 1) csg 57 (0, 0) gW
          have hfr := frozen_of_row w0 g (j * 2 + 1) csg 57 gW
          refine ⟨rfl, fun K hk => wp_skipT (w' := w0.setCell ⟨g, j * 2 + 1, none⟩ (vals 5)) ?_ (hk _ _ ?_)⟩
          · rw [ov] at e26 ⊢
            obtain ⟨z, hz⟩ := CSZ.out
            rw [hz] at hcell
            clear hk hI ht hF0 hall hdeps hun g5 ov hz gW
            generalize a.eval = ρ at *
            unfold execOp
            simp only [e28, e26]
            go_simp
          have ha := tabd_fill ht (fun t i ho => hall i (ownAll_lt ho) (fun e => by subst e; have h9 : (none : Option Nat) = some t := ownAll_spec ho; cases h9))
          subst ha
          change Exit.inBlock _ (Exit.then _ _) Exit.normal { tmps := #[.agg #[.slice NA n nc, .slice FA m fc], .pointer (some ⟨w.heap.size, 0, none⟩), .pointer (some ⟨w.heap.size + 1, 0, none⟩), .pointer (some ⟨T, 0, none⟩), .int .i64 (j : Int), .pointer (some ⟨S5, 0, none⟩), .pointer (some ⟨w.heap.size, 0, none⟩), .slice NA n nc, y2, .pointer (some ⟨w.heap.size, 1, none⟩), .slice FA m fc, y5, .agg #[vN, .slice (some ⟨g, 0, none⟩) m C5], .pointer (some ⟨T, 1, none⟩), .slice (some ⟨g, 0, none⟩) m C5, .int .i64 (m : Int), .int .i64 (j : Int), .bool true, .int .i64 (j : Int), .pointer (some ⟨g, j * 2, none⟩), .agg #[.int .i64 md, .slice DA l dc], vals 0, vals 1, vals 2, vals 3, vals 4, vals 5, vals 6, vals 7, u29, undef], defers := [] } _
          simp only [g0, g1, g2, g3, g4, g6, g7]
          clear ht hall hdeps hun hF0
          generalize vals 5 = y26 at *
          have C6 := Lib.hid (HX.out y26 Y w0 hI CY.out (Nat.le_trans (BY.out.size) (Nat.le_refl _)) g5)
          have T6 := Lib.hid (lies_far (p := ⟨g, j * 2 + 1, none⟩) (lies_below TY.out hI (lies_lt TY.out)) (fun e => by
            have e : T = g := e
            subst e
            have h3 := (show Y.heap[T]? = _ from TY.out).symm.trans (show Y.heap[T]? = _ from GY.out)
            injection h3 with h3
            injection h3 with _ h4 _
            exact absurd h4 (by decide)) y26)
          have B6 := Lib.hid (below_setCell (BY.out.trans (hI.mono BY.out.size)) (p := ⟨g, j * 2 + 1, none⟩) GX.out y26)
          clear hI g5 g0 g1 g2 g3 g4 g6 g7 ov gW hcell hfr KG HX CY TY LY GY
          generalize w0.setCell ⟨g, j * 2 + 1, none⟩ y26 = W6 at *
          go_wp2
          go_roundw
          case rel => exact ⟨j + 1, by omega, by go_num, ⟨_, C6.out⟩, T6.out, B6.out⟩
          case measure => first | (simp [intOf]; done) | (simp [intOf]; omega)
      · have lj : ¬ (j : Int) < (m : Int) := by omega
        have cl := clone_last HCJ.out (by have := ME.out; omega)
        have LRJ := Lib.hid (lies_below LR.out HBJ.out (lies_lt LR.out))
        have LT2 := Lib.hid (lies_range HLJ.out)
        have kf := copy_mono (copy_kept cl (grown_setRow wr (w.heap.size + 1) #[vN, .slice A5 m C5]) (fun r e => by injection e with e; subst e; exact ⟨_, 25, LRJ.out, by decide, by decide, by decide⟩)) HB.out.size
        have CF := Lib.hid kf
        clear cl kf
        have oN := ON.out
        have oF : (Value.slice A5 m C5).oneCell' = true := rfl
        go_wp2_with (first
          | (refine wpList_load_mid rfl 25 _ rfl T 0 rfl [vN, .slice A5 m C5] _ LT2.out Try.underlying25 rfl (by kernel_rfl) ?_)
          | (refine wpList_store_row rfl 25 _ _ rfl (w.heap.size + 1) #[vN, .slice A5 m C5] rfl rfl 25 _ LRJ.out (by kernel_rfl) rfl (by simp [oN, oF]) ?_))
        have bz := below_setRow (HB.out.trans (HBJ.out.mono HB.out.size)) (g := w.heap.size + 1) (by omega) #[vN, .slice A5 m C5]
        have BZ := Lib.hid bz
        clear bz
        refine bodyPost_ret (results_cell_row rfl _ _ (w.heap.size + 1) 25 #[vN, .slice A5 m C5] (0, 0) _ rfl (lies_setRow LRJ.out #[vN, .slice A5 m C5]) Try.underlying25 rfl (by kernel_rfl)) rfl ?_
        exact ⟨_, _, rfl, ⟨_, CF.out⟩, BZ.out⟩
end Go.Proofs.Ytjagddhkoacipaa
