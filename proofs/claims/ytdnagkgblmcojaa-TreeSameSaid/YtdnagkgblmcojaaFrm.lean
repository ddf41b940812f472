/-
What is proved here: the document's own Form, by a contract.
-/
import Derived.Test.YtdnagkgblmcojaaFon
import Derived.Test.YtdnagkgblmcojaaRefK
import Derived.Test.YtdnagkgblmcojaaIns
set_option linter.unusedSimpArgs false
namespace Go.Proofs.Ytdnagkgblmcojaa
open Go.Pth Go.Tre Go.RowKit Go.Word Go.Shelf

theorem st_geq (t : TypeId) (a b : Bt) : binOp .geq t (St a) (St b) = pure (.bool (!Op.bytesLess a b)) := by
  unfold St
  rw [binOp_string_geq, ByteArray.toList_mk, ByteArray.toList_mk]
attribute [local go_sem] guard_eq guard_ne st_geq neq_nil
def prevAt (ns : List Nd) (i : Nat) : Bt := if i = 0 then [] else (ns.getD (i - 1) ⟨[], 0, 0⟩).path
theorem walkF_step (m : Nat) (Q : Bt → Bool) (ns : List Nd) (l : Bt) (k : Int) (i : Nat) (h : i < ns.length) : walkF m Q l k (ns.drop i) = (match nodeF m Q l k ns[i] with | none => none | some k' => walkF m Q ns[i].path k' (ns.drop (i + 1))) := by
  rw [List.drop_eq_getElem_cons h]
  rfl
theorem prev_succ (ns : List Nd) (i : Nat) (h : i < ns.length) : prevAt ns (i + 1) = ns[i].path := by
  unfold prevAt
  rw [if_neg (by omega), Nat.add_sub_cancel, List.getD_eq_getElem?_getD, List.getElem?_eq_getElem h]
  rfl
set_option maxRecDepth 100000 in
set_option maxHeartbeats 8000000 in
theorem form_ref (NA FA : Option Addr) (nc fc : Nat) (ns : List Nd) (fs : List Fl) (w : World) (hN : NodesAt w NA ns) (hF : FilesAt w FA fs) (hp : ∀ x ∈ ns, x.path.length ≤ 100000) (h1 : ns.length ≤ 1000000) (h2 : fs.length ≤ 1000000) :
    Calls Try.prog 31 #[.agg #[.slice NA ns.length nc, .slice FA fs.length fc]] w fun e w' => e = .returned (.bool (ends fs.length (walkF fs.length (findB ns) [] 0 ns) && !anyWrong fs)) ∧ Below w.heap.size w w' := by
  obtain ⟨n, hne⟩ : ∃ n, n = ns.length := ⟨_, rfl⟩
  obtain ⟨m, hme⟩ : ∃ m, m = fs.length := ⟨_, rfl⟩
  rw [← hne] at h1 ⊢
  rw [← hme] at h2 ⊢
  have NE := Lib.hid hne
  have ME := Lib.hid hme
  obtain ⟨r, hr⟩ : ∃ r, r = (ends m (walkF m (findB ns) [] 0 ns) && !anyWrong fs) := ⟨_, rfl⟩
  rw [← hr]
  have RE := Lib.hid hr
  have HP := Lib.hid hp
  have L := lies_new w 25 #[.slice NA n nc, .slice FA m fc]
  have hB : Below w.heap.size w (w.alloc (.cells #[.slice NA n nc, .slice FA m fc] 25)) := (Below.refl _ _).alloc (Nat.le_refl _) _
  have HN := Lib.hid (nodesAt_below hN hB)
  have HF := Lib.hid (filesAt_below hF hB)
  have HB := Lib.hid hB
  have LX := Lib.hid L
  clear hne hme hr hp hB hN hF L
  have BAD := Lib.hid (show walkF m (findB ns) [] 0 ns = none → r = false from fun h => by rw [RE.out, h]; rfl)
  go_enter Try.func31, Try.ntmps31
  go_wp2
  generalize w.alloc (.cells #[.slice NA n nc, .slice FA m fc] 25) = X at *
  go_loopw [3, 4] (fun v3 v4 wr => ∃ (i : Nat) (k : Int), i ≤ n ∧ v4 = .int .i64 (i : Int) ∧ v3 = .int .i64 k ∧ 0 ≤ k ∧ k ≤ i ∧ walkF m (findB ns) [] 0 ns = walkF m (findB ns) (prevAt ns i) k (ns.drop i) ∧ Below X.heap.size X wr) (fun _ v4 _ => n - (intOf v4).toNat)
  case atStart => exact ⟨0, 0, Nat.zero_le _, rfl, rfl, by omega, by omega, rfl, Below.refl _ _⟩
  case round =>
    obtain ⟨i, k, hi, rfl, rfl, hk0, hki, hw, hb⟩ := hrel
    have c0 := (hb.cell (p := ⟨w.heap.size, 0, none⟩) (lies_lt LX.out)).trans (lies_cell LX.out 0)
    have c1 := (hb.cell (p := ⟨w.heap.size, 1, none⟩) (lies_lt LX.out)).trans (lies_cell LX.out 1)
    simp only [List.getElem?_toArray, List.getElem?_cons_zero, List.getElem?_cons_succ] at c0 c1
    have HBW := Lib.hid hb
    have HW := Lib.hid hw
    clear hb hw
    by_cases hlt : i < n
    · have li : (i : Int) < (n : Int) := by omega
      have lf : i < ns.length := by have := NE.out; omega
      obtain ⟨b, o, eA, hl, d1, d2, d3⟩ := HN.out i lf
      subst eA
      have hpl := HP.out ns[i] (List.getElem_mem _)
      have d1 := (HBW.out.cell (p := ⟨b, o + i * 3, none⟩) hl).trans d1
      have d2 := (HBW.out.cell (p := ⟨b, o + i * 3 + 1, none⟩) hl).trans d2
      have d3 := (HBW.out.cell (p := ⟨b, o + i * 3 + 2, none⟩) hl).trans d3
      have ST := Lib.hid (HW.out.trans (walkF_step m (findB ns) ns (prevAt ns i) k i lf))
      have PS := Lib.hid (prev_succ ns i lf)
      generalize ns[i] = x at *
      obtain ⟨p, f, md⟩ := x
      have LM := Lib.hid (node_range (p := p) d1 d2 d3)
      have LN := Lib.hid (lies_new wr 41 #[.string { data := #[] }, .int .i64 0, .int .i64 0])
      have ES := Lib.hid (setRow_alloc wr 41 #[.string { data := #[] }, .int .i64 0, .int .i64 0] #[St p, .int .i64 f, .int .i64 md])
      have HPL := Lib.hid (show p.length ≤ 100000 from hpl)
      have LB := Lib.hid (lies_new wr 41 #[St p, .int .i64 f, .int .i64 md])
      have b0 := lies_cell LB.out 0
      simp only [List.getElem?_toArray, List.getElem?_cons_zero] at b0
      have BX := Lib.hid (show Below X.heap.size X (wr.alloc (.cells #[St p, .int .i64 f, .int .i64 md] 41)) from HBW.out.alloc HBW.out.size _)
      have V := Lib.hid (valid_ref p (wr.alloc (.cells #[St p, .int .i64 f, .int .i64 md] 41)) HPL.out)
      obtain ⟨vb, hvb⟩ : ∃ vb, vb = isPath p := ⟨_, rfl⟩
      rw [← hvb] at V
      have VB := Lib.hid hvb
      clear d1 d2 d3 hpl hvb
      go_upto_region 7 with (first
        | (refine wpList_load_mid rfl 41 _ rfl b (o + i * 3) rfl [St p, .int .i64 f, .int .i64 md] _ LM.out Try.underlying41 rfl (by kernel_rfl) ?_)
        | (refine wpList_store_row rfl 41 _ _ rfl wr.heap.size #[St p, .int .i64 f, .int .i64 md] rfl rfl 41 _ LN.out (by kernel_rfl) rfl (by simp [Value.oneCell', St]) ?_; rw [ES.out])
        | (go_at_call 14; (with_reducible refine V.out.mono ?_); rintro e w1 ⟨rfl, hb⟩; have c2 := (hb.cell (p := ⟨w.heap.size, 0, none⟩) (Nat.lt_of_lt_of_le (lies_lt LX.out) BX.out.size)).trans ((BX.out.cell (p := ⟨w.heap.size, 0, none⟩) (lies_lt LX.out)).trans (lies_cell LX.out 0)); have LB1 := Lib.hid (lies_below LB.out hb (lies_lt LB.out)); have B1 := Lib.hid (BX.out.trans (hb.mono BX.out.size)); clear hb))
      cases vb with
      | false =>
        have HR := Lib.hid (BAD.out (by rw [ST.out]; unfold nodeF; rw [if_pos (.inr VB.out.symm)]))
        go_quiet (fail)
        go_wp2
        go_ret
        rw [HR.out]
        exact ⟨rfl, HB.out.trans ((below_drewN B1.out _).mono HB.out.size)⟩
      | true =>
        obtain ⟨up, hupe⟩ : ∃ up, up = upP p := ⟨_, rfl⟩
        have UP := Lib.hid hupe
        have PR := fun W => (show Hid (Calls Try.prog 34 #[St p] W fun e w' => e = .returned (St up) ∧ Below W.heap.size W w') by rw [hupe]; exact Lib.hid (parent_ref p W HPL.out))
        have FR := fun W (hW : Below X.heap.size X W) => Lib.hid (find_ref (some ⟨b, o, none⟩) FA nc fc ns m up W (by have := NE.out; omega) (nodesAt_below HN.out hW))
        rw [← NE.out] at FR
        obtain ⟨F, hFe⟩ : ∃ F, F = findI ns up := ⟨_, rfl⟩
        rw [← hFe] at FR
        have FE := Lib.hid hFe
        clear hupe hFe
        by_cases h0 : i = 0
        · have l0 : ¬ (0 : Int) < (i : Int) := by omega
          have l0n : decide (0 < i) = false := decide_eq_false (by omega)
          have NL := Lib.hid (show ¬ (leB p (prevAt ns i) = true ∨ isPath p = false) by
            rw [h0, ← VB.out]
            rintro (h | h)
            · have hpe : p = [] := by
                have h' : leB p [] = true := h
                unfold leB at h'
                cases p with
                | nil => rfl
                | cons a t => simp [Op.bytesLess] at h'
              have := VB.out
              rw [hpe] at this
              revert this
              decide
            · cases h)
          clear h0
          go_quiet (fail)
          have B2 := Lib.hid (below_drewN B1.out nq)
          have LB2 : Hid (Lies (w1.drewN nq) wr.heap.size 41 #[St p, .int .i64 f, .int .i64 md]) := Lib.hid LB1.out
          have m0 := lies_cell LB2.out 0
          simp only [List.getElem?_toArray, List.getElem?_cons_zero] at m0
          by_cases hu : up = []
          · have ou : other up [] = false := decide_eq_false (by simp [hu])
            have UPOK := Lib.hid (show ¬ (¬ upP p = [] ∧ findB ns (upP p) = false) by rw [← UP.out]; exact fun h => h.1 hu)
            clear hu
            by_cases hf : f = -1
            · subst hf
              obtain ⟨mo, hmo⟩ : ∃ mo, mo = okMode md := ⟨_, rfl⟩
              have MR := fun W => Lib.hid (show Calls Try.prog 52 #[.int .i64 md] W fun e w' => e = .returned (.bool mo) ∧ W = w' by rw [hmo]; exact mode_ref md W)
              have MO := Lib.hid hmo
              clear hmo
              cases mo with
              | false =>
                have HR := Lib.hid (BAD.out (by rw [ST.out]; unfold nodeF; rw [if_neg NL.out, if_neg UPOK.out, if_pos rfl, if_neg (by rw [← MO.out]; decide)]))
                go_wp2_with (first | (go_at_call 34; (with_reducible refine (PR _).out.mono ?_); rintro e w3 ⟨rfl, hb⟩; have LB3 := Lib.hid (lies_below LB2.out hb (lies_lt LB2.out)); have B3 := Lib.hid (B2.out.trans (hb.mono B2.out.size)); clear hb; have e0 := (B3.out.cell (p := ⟨w.heap.size, 0, none⟩) (lies_lt LX.out)).trans (lies_cell LX.out 0); have e1 := (B3.out.cell (p := ⟨w.heap.size, 1, none⟩) (lies_lt LX.out)).trans (lies_cell LX.out 1); have n0 := lies_cell LB3.out 0; have n1 := lies_cell LB3.out 1; have n2 := lies_cell LB3.out 2; simp only [List.getElem?_toArray, List.getElem?_cons_zero, List.getElem?_cons_succ] at e0 e1 n0 n1 n2) | (go_at_call 52; (with_reducible refine (MR _).out.mono ?_); rintro e w5 ⟨rfl, rfl⟩))
                go_ret
                rw [HR.out]
                exact ⟨rfl, HB.out.trans (B3.out.mono HB.out.size)⟩
              | true =>
                have NX := Lib.hid (show walkF m (findB ns) [] 0 ns = walkF m (findB ns) (prevAt ns (i + 1)) k (ns.drop (i + 1)) by rw [ST.out, PS.out]; unfold nodeF; rw [if_neg NL.out, if_neg UPOK.out, if_pos rfl, if_pos MO.out.symm])
                go_wp2_with (first | (go_at_call 34; (with_reducible refine (PR _).out.mono ?_); rintro e w3 ⟨rfl, hb⟩; have LB3 := Lib.hid (lies_below LB2.out hb (lies_lt LB2.out)); have B3 := Lib.hid (B2.out.trans (hb.mono B2.out.size)); clear hb; have e0 := (B3.out.cell (p := ⟨w.heap.size, 0, none⟩) (lies_lt LX.out)).trans (lies_cell LX.out 0); have e1 := (B3.out.cell (p := ⟨w.heap.size, 1, none⟩) (lies_lt LX.out)).trans (lies_cell LX.out 1); have n0 := lies_cell LB3.out 0; have n1 := lies_cell LB3.out 1; have n2 := lies_cell LB3.out 2; simp only [List.getElem?_toArray, List.getElem?_cons_zero, List.getElem?_cons_succ] at e0 e1 n0 n1 n2) | (go_at_call 52; (with_reducible refine (MR _).out.mono ?_); rintro e w5 ⟨rfl, rfl⟩))
                go_roundw
                case rel => exact ⟨i + 1, k, by omega, by go_num, rfl, by omega, by omega, NX.out, B3.out⟩
                case measure => first | (simp [intOf]; done) | (simp [intOf]; omega)
            · have BD := Lib.hid (show ¬ (nameB ⟨p, f, md⟩ = true ∧ f ≤ k ∧ f < m) → r = false from fun h => BAD.out (by rw [ST.out]; unfold nodeF; rw [if_neg NL.out, if_neg UPOK.out, if_neg hf, if_neg h]))
              have hfb : (f == -1) = false := by simpa using hf
              by_cases g1 : md = 0
              · by_cases g2 : f < 0
                · have HR := Lib.hid (BD.out (fun h => by have := of_decide_eq_true h.1; have := this.1; simp only at this; omega))
                  go_wp2_with (first | (go_at_call 34; (with_reducible refine (PR _).out.mono ?_); rintro e w3 ⟨rfl, hb⟩; have LB3 := Lib.hid (lies_below LB2.out hb (lies_lt LB2.out)); have B3 := Lib.hid (B2.out.trans (hb.mono B2.out.size)); clear hb; have e0 := (B3.out.cell (p := ⟨w.heap.size, 0, none⟩) (lies_lt LX.out)).trans (lies_cell LX.out 0); have e1 := (B3.out.cell (p := ⟨w.heap.size, 1, none⟩) (lies_lt LX.out)).trans (lies_cell LX.out 1); have n0 := lies_cell LB3.out 0; have n1 := lies_cell LB3.out 1; have n2 := lies_cell LB3.out 2; simp only [List.getElem?_toArray, List.getElem?_cons_zero, List.getElem?_cons_succ] at e0 e1 n0 n1 n2))
                  go_ret
                  rw [HR.out]
                  exact ⟨rfl, HB.out.trans (B3.out.mono HB.out.size)⟩
                · by_cases g3 : k < f
                  · have HR := Lib.hid (BD.out (fun h => by have := h.2.1; omega))
                    go_wp2_with (first | (go_at_call 34; (with_reducible refine (PR _).out.mono ?_); rintro e w3 ⟨rfl, hb⟩; have LB3 := Lib.hid (lies_below LB2.out hb (lies_lt LB2.out)); have B3 := Lib.hid (B2.out.trans (hb.mono B2.out.size)); clear hb; have e0 := (B3.out.cell (p := ⟨w.heap.size, 0, none⟩) (lies_lt LX.out)).trans (lies_cell LX.out 0); have e1 := (B3.out.cell (p := ⟨w.heap.size, 1, none⟩) (lies_lt LX.out)).trans (lies_cell LX.out 1); have n0 := lies_cell LB3.out 0; have n1 := lies_cell LB3.out 1; have n2 := lies_cell LB3.out 2; simp only [List.getElem?_toArray, List.getElem?_cons_zero, List.getElem?_cons_succ] at e0 e1 n0 n1 n2))
                    go_ret
                    rw [HR.out]
                    exact ⟨rfl, HB.out.trans (B3.out.mono HB.out.size)⟩
                  · by_cases g4 : (m : Int) ≤ f
                    · have HR := Lib.hid (BD.out (fun h => by have := h.2.2; omega))
                      go_wp2_with (first | (go_at_call 34; (with_reducible refine (PR _).out.mono ?_); rintro e w3 ⟨rfl, hb⟩; have LB3 := Lib.hid (lies_below LB2.out hb (lies_lt LB2.out)); have B3 := Lib.hid (B2.out.trans (hb.mono B2.out.size)); clear hb; have e0 := (B3.out.cell (p := ⟨w.heap.size, 0, none⟩) (lies_lt LX.out)).trans (lies_cell LX.out 0); have e1 := (B3.out.cell (p := ⟨w.heap.size, 1, none⟩) (lies_lt LX.out)).trans (lies_cell LX.out 1); have n0 := lies_cell LB3.out 0; have n1 := lies_cell LB3.out 1; have n2 := lies_cell LB3.out 2; simp only [List.getElem?_toArray, List.getElem?_cons_zero, List.getElem?_cons_succ] at e0 e1 n0 n1 n2))
                      go_ret
                      rw [HR.out]
                      exact ⟨rfl, HB.out.trans (B3.out.mono HB.out.size)⟩
                    · have NX := Lib.hid (show walkF m (findB ns) [] 0 ns = walkF m (findB ns) (prevAt ns (i + 1)) (max k (f + 1)) (ns.drop (i + 1)) by
                        rw [ST.out, PS.out]; unfold nodeF; rw [if_neg NL.out, if_neg UPOK.out, if_neg hf, if_pos ⟨decide_eq_true ⟨by show 0 ≤ f; omega, g1⟩, by show f ≤ k; omega, by show f < m; omega⟩])
                      by_cases g5 : f = k
                      · subst g5
                        have NX2 := Lib.hid (show walkF m (findB ns) [] 0 ns = walkF m (findB ns) (prevAt ns (i + 1)) (f + 1) (ns.drop (i + 1)) by rw [NX.out, show max f (f + 1) = f + 1 by omega])
                        have wf1 : wrap64 (f + 1) = f + 1 := wrap_in _ (by omega) (by omega)
                        go_wp2_with (first | (go_at_call 34; (with_reducible refine (PR _).out.mono ?_); rintro e w3 ⟨rfl, hb⟩; have LB3 := Lib.hid (lies_below LB2.out hb (lies_lt LB2.out)); have B3 := Lib.hid (B2.out.trans (hb.mono B2.out.size)); clear hb; have e0 := (B3.out.cell (p := ⟨w.heap.size, 0, none⟩) (lies_lt LX.out)).trans (lies_cell LX.out 0); have e1 := (B3.out.cell (p := ⟨w.heap.size, 1, none⟩) (lies_lt LX.out)).trans (lies_cell LX.out 1); have n0 := lies_cell LB3.out 0; have n1 := lies_cell LB3.out 1; have n2 := lies_cell LB3.out 2; simp only [List.getElem?_toArray, List.getElem?_cons_zero, List.getElem?_cons_succ] at e0 e1 n0 n1 n2))
                        go_roundw
                        case rel => exact ⟨i + 1, f + 1, by omega, by go_num, by first | rfl | go_num, by omega, by omega, NX2.out, B3.out⟩
                        case measure => first | (simp [intOf]; done) | (simp [intOf]; omega)
                      · exfalso; omega
              · have HR := Lib.hid (BD.out (fun h => by have := of_decide_eq_true h.1; exact g1 this.2))
                have g1b : (md == 0) = false := by simpa using g1
                have g1n : (md != 0) = true := by simpa using g1
                go_wp2_with (first | (go_at_call 34; (with_reducible refine (PR _).out.mono ?_); rintro e w3 ⟨rfl, hb⟩; have LB3 := Lib.hid (lies_below LB2.out hb (lies_lt LB2.out)); have B3 := Lib.hid (B2.out.trans (hb.mono B2.out.size)); clear hb; have e0 := (B3.out.cell (p := ⟨w.heap.size, 0, none⟩) (lies_lt LX.out)).trans (lies_cell LX.out 0); have e1 := (B3.out.cell (p := ⟨w.heap.size, 1, none⟩) (lies_lt LX.out)).trans (lies_cell LX.out 1); have n0 := lies_cell LB3.out 0; have n1 := lies_cell LB3.out 1; have n2 := lies_cell LB3.out 2; simp only [List.getElem?_toArray, List.getElem?_cons_zero, List.getElem?_cons_succ] at e0 e1 n0 n1 n2))
                go_ret
                rw [HR.out]
                exact ⟨rfl, HB.out.trans (B3.out.mono HB.out.size)⟩
          · have ou : other up [] = true := decide_eq_true hu
            by_cases hF : F < 0
            · have HR := Lib.hid (BAD.out (by rw [ST.out]; unfold nodeF; rw [if_neg NL.out, if_pos ⟨by rw [← UP.out]; exact hu, by rw [← UP.out]; unfold findB; rw [← FE.out, decide_eq_false (by omega), Bool.false_and]⟩]))
              clear hu
              go_wp2_with (first | (go_at_call 34; (with_reducible refine (PR _).out.mono ?_); rintro e w3 ⟨rfl, hb⟩; have LB3 := Lib.hid (lies_below LB2.out hb (lies_lt LB2.out)); have B3 := Lib.hid (B2.out.trans (hb.mono B2.out.size)); clear hb; have e0 := (B3.out.cell (p := ⟨w.heap.size, 0, none⟩) (lies_lt LX.out)).trans (lies_cell LX.out 0); have e1 := (B3.out.cell (p := ⟨w.heap.size, 1, none⟩) (lies_lt LX.out)).trans (lies_cell LX.out 1); have n0 := lies_cell LB3.out 0; have n1 := lies_cell LB3.out 1; have n2 := lies_cell LB3.out 2; simp only [List.getElem?_toArray, List.getElem?_cons_zero, List.getElem?_cons_succ] at e0 e1 n0 n1 n2) | (go_at_call 16; (with_reducible refine (FR _ B3.out).out.mono ?_); rintro e w4 ⟨rfl, hb⟩; have LB4 := Lib.hid (lies_below LB3.out hb (lies_lt LB3.out)); have B4 := Lib.hid (B3.out.trans (hb.mono B3.out.size)); clear hb; have g0 := (B4.out.cell (p := ⟨w.heap.size, 0, none⟩) (lies_lt LX.out)).trans (lies_cell LX.out 0); have g1 := (B4.out.cell (p := ⟨w.heap.size, 1, none⟩) (lies_lt LX.out)).trans (lies_cell LX.out 1); have q0 := lies_cell LB4.out 0; have q1 := lies_cell LB4.out 1; have q2 := lies_cell LB4.out 2; simp only [List.getElem?_toArray, List.getElem?_cons_zero, List.getElem?_cons_succ] at g0 g1 q0 q1 q2))
              go_ret
              rw [HR.out]
              exact ⟨rfl, HB.out.trans (B4.out.mono HB.out.size)⟩
            · obtain ⟨Z, hZ⟩ : ∃ Z : Nat, F = (Z : Int) := ⟨F.toNat, by omega⟩
              subst hZ
              have zl : Z < ns.length := by have := FE.out; unfold findI at this; split at this <;> omega
              have zl1 : (Z : Int) < (n : Int) := by have := NE.out; omega
              obtain ⟨b', o', eA', hl', f1, f2, f3⟩ := HN.out Z zl
              injection eA' with eA'
              injection eA' with eb eo _
              subst eb eo
              have ZL := Lib.hid hl'
              have ZC := Lib.hid f2
              obtain ⟨fz, hfz⟩ : ∃ fz, fz = ns[Z].file := ⟨_, rfl⟩
              rw [← hfz] at ZC
              have FB := Lib.hid (show findB ns (upP p) = decide (fz = -1) by
                rw [← UP.out, hfz]
                unfold findB
                rw [← FE.out, decide_eq_true (by omega), Bool.true_and, Int.toNat_natCast, List.getD_eq_getElem?_getD, List.getElem?_eq_getElem zl]
                rfl)
              clear hl' f1 f2 f3 hfz zl
              by_cases hfz : fz = -1
              · subst hfz
                have UPOK := Lib.hid (show ¬ (¬ upP p = [] ∧ findB ns (upP p) = false) from fun h => by rw [FB.out] at h; exact absurd h.2 (by decide))
                clear hu
                by_cases hf : f = -1
                · subst hf
                  obtain ⟨mo, hmo⟩ : ∃ mo, mo = okMode md := ⟨_, rfl⟩
                  have MR := fun W => Lib.hid (show Calls Try.prog 52 #[.int .i64 md] W fun e w' => e = .returned (.bool mo) ∧ W = w' by rw [hmo]; exact mode_ref md W)
                  have MO := Lib.hid hmo
                  clear hmo
                  cases mo with
                  | false =>
                    have HR := Lib.hid (BAD.out (by rw [ST.out]; unfold nodeF; rw [if_neg NL.out, if_neg UPOK.out, if_pos rfl, if_neg (by rw [← MO.out]; decide)]))
                    go_wp2_with (first | (go_at_call 34; (with_reducible refine (PR _).out.mono ?_); rintro e w3 ⟨rfl, hb⟩; have LB3 := Lib.hid (lies_below LB2.out hb (lies_lt LB2.out)); have B3 := Lib.hid (B2.out.trans (hb.mono B2.out.size)); clear hb; have e0 := (B3.out.cell (p := ⟨w.heap.size, 0, none⟩) (lies_lt LX.out)).trans (lies_cell LX.out 0); have e1 := (B3.out.cell (p := ⟨w.heap.size, 1, none⟩) (lies_lt LX.out)).trans (lies_cell LX.out 1); have n0 := lies_cell LB3.out 0; have n1 := lies_cell LB3.out 1; have n2 := lies_cell LB3.out 2; simp only [List.getElem?_toArray, List.getElem?_cons_zero, List.getElem?_cons_succ] at e0 e1 n0 n1 n2) | (go_at_call 16; (with_reducible refine (FR _ B3.out).out.mono ?_); rintro e w4 ⟨rfl, hb⟩; have LB4 := Lib.hid (lies_below LB3.out hb (lies_lt LB3.out)); have B4 := Lib.hid (B3.out.trans (hb.mono B3.out.size)); clear hb; have g0 := (B4.out.cell (p := ⟨w.heap.size, 0, none⟩) (lies_lt LX.out)).trans (lies_cell LX.out 0); have g1 := (B4.out.cell (p := ⟨w.heap.size, 1, none⟩) (lies_lt LX.out)).trans (lies_cell LX.out 1); have q0 := lies_cell LB4.out 0; have q1 := lies_cell LB4.out 1; have q2 := lies_cell LB4.out 2; simp only [List.getElem?_toArray, List.getElem?_cons_zero, List.getElem?_cons_succ] at g0 g1 q0 q1 q2; have z1 := (B4.out.cell (p := ⟨b, o + Z * 3 + 1, none⟩) ZL.out).trans ZC.out) | (go_at_call 52; (with_reducible refine (MR _).out.mono ?_); rintro e w5 ⟨rfl, rfl⟩))
                    go_ret
                    rw [HR.out]
                    exact ⟨rfl, HB.out.trans (B4.out.mono HB.out.size)⟩
                  | true =>
                    have NX := Lib.hid (show walkF m (findB ns) [] 0 ns = walkF m (findB ns) (prevAt ns (i + 1)) k (ns.drop (i + 1)) by rw [ST.out, PS.out]; unfold nodeF; rw [if_neg NL.out, if_neg UPOK.out, if_pos rfl, if_pos MO.out.symm])
                    go_wp2_with (first | (go_at_call 34; (with_reducible refine (PR _).out.mono ?_); rintro e w3 ⟨rfl, hb⟩; have LB3 := Lib.hid (lies_below LB2.out hb (lies_lt LB2.out)); have B3 := Lib.hid (B2.out.trans (hb.mono B2.out.size)); clear hb; have e0 := (B3.out.cell (p := ⟨w.heap.size, 0, none⟩) (lies_lt LX.out)).trans (lies_cell LX.out 0); have e1 := (B3.out.cell (p := ⟨w.heap.size, 1, none⟩) (lies_lt LX.out)).trans (lies_cell LX.out 1); have n0 := lies_cell LB3.out 0; have n1 := lies_cell LB3.out 1; have n2 := lies_cell LB3.out 2; simp only [List.getElem?_toArray, List.getElem?_cons_zero, List.getElem?_cons_succ] at e0 e1 n0 n1 n2) | (go_at_call 16; (with_reducible refine (FR _ B3.out).out.mono ?_); rintro e w4 ⟨rfl, hb⟩; have LB4 := Lib.hid (lies_below LB3.out hb (lies_lt LB3.out)); have B4 := Lib.hid (B3.out.trans (hb.mono B3.out.size)); clear hb; have g0 := (B4.out.cell (p := ⟨w.heap.size, 0, none⟩) (lies_lt LX.out)).trans (lies_cell LX.out 0); have g1 := (B4.out.cell (p := ⟨w.heap.size, 1, none⟩) (lies_lt LX.out)).trans (lies_cell LX.out 1); have q0 := lies_cell LB4.out 0; have q1 := lies_cell LB4.out 1; have q2 := lies_cell LB4.out 2; simp only [List.getElem?_toArray, List.getElem?_cons_zero, List.getElem?_cons_succ] at g0 g1 q0 q1 q2; have z1 := (B4.out.cell (p := ⟨b, o + Z * 3 + 1, none⟩) ZL.out).trans ZC.out) | (go_at_call 52; (with_reducible refine (MR _).out.mono ?_); rintro e w5 ⟨rfl, rfl⟩))
                    go_roundw
                    case rel => exact ⟨i + 1, k, by omega, by go_num, rfl, by omega, by omega, NX.out, B4.out⟩
                    case measure => first | (simp [intOf]; done) | (simp [intOf]; omega)
                · have BD := Lib.hid (show ¬ (nameB ⟨p, f, md⟩ = true ∧ f ≤ k ∧ f < m) → r = false from fun h => BAD.out (by rw [ST.out]; unfold nodeF; rw [if_neg NL.out, if_neg UPOK.out, if_neg hf, if_neg h]))
                  have hfb : (f == -1) = false := by simpa using hf
                  by_cases g1 : md = 0
                  · by_cases g2 : f < 0
                    · have HR := Lib.hid (BD.out (fun h => by have := of_decide_eq_true h.1; have := this.1; simp only at this; omega))
                      go_wp2_with (first | (go_at_call 34; (with_reducible refine (PR _).out.mono ?_); rintro e w3 ⟨rfl, hb⟩; have LB3 := Lib.hid (lies_below LB2.out hb (lies_lt LB2.out)); have B3 := Lib.hid (B2.out.trans (hb.mono B2.out.size)); clear hb; have e0 := (B3.out.cell (p := ⟨w.heap.size, 0, none⟩) (lies_lt LX.out)).trans (lies_cell LX.out 0); have e1 := (B3.out.cell (p := ⟨w.heap.size, 1, none⟩) (lies_lt LX.out)).trans (lies_cell LX.out 1); have n0 := lies_cell LB3.out 0; have n1 := lies_cell LB3.out 1; have n2 := lies_cell LB3.out 2; simp only [List.getElem?_toArray, List.getElem?_cons_zero, List.getElem?_cons_succ] at e0 e1 n0 n1 n2) | (go_at_call 16; (with_reducible refine (FR _ B3.out).out.mono ?_); rintro e w4 ⟨rfl, hb⟩; have LB4 := Lib.hid (lies_below LB3.out hb (lies_lt LB3.out)); have B4 := Lib.hid (B3.out.trans (hb.mono B3.out.size)); clear hb; have g0 := (B4.out.cell (p := ⟨w.heap.size, 0, none⟩) (lies_lt LX.out)).trans (lies_cell LX.out 0); have g1 := (B4.out.cell (p := ⟨w.heap.size, 1, none⟩) (lies_lt LX.out)).trans (lies_cell LX.out 1); have q0 := lies_cell LB4.out 0; have q1 := lies_cell LB4.out 1; have q2 := lies_cell LB4.out 2; simp only [List.getElem?_toArray, List.getElem?_cons_zero, List.getElem?_cons_succ] at g0 g1 q0 q1 q2; have z1 := (B4.out.cell (p := ⟨b, o + Z * 3 + 1, none⟩) ZL.out).trans ZC.out))
                      go_ret
                      rw [HR.out]
                      exact ⟨rfl, HB.out.trans (B4.out.mono HB.out.size)⟩
                    · by_cases g3 : k < f
                      · have HR := Lib.hid (BD.out (fun h => by have := h.2.1; omega))
                        go_wp2_with (first | (go_at_call 34; (with_reducible refine (PR _).out.mono ?_); rintro e w3 ⟨rfl, hb⟩; have LB3 := Lib.hid (lies_below LB2.out hb (lies_lt LB2.out)); have B3 := Lib.hid (B2.out.trans (hb.mono B2.out.size)); clear hb; have e0 := (B3.out.cell (p := ⟨w.heap.size, 0, none⟩) (lies_lt LX.out)).trans (lies_cell LX.out 0); have e1 := (B3.out.cell (p := ⟨w.heap.size, 1, none⟩) (lies_lt LX.out)).trans (lies_cell LX.out 1); have n0 := lies_cell LB3.out 0; have n1 := lies_cell LB3.out 1; have n2 := lies_cell LB3.out 2; simp only [List.getElem?_toArray, List.getElem?_cons_zero, List.getElem?_cons_succ] at e0 e1 n0 n1 n2) | (go_at_call 16; (with_reducible refine (FR _ B3.out).out.mono ?_); rintro e w4 ⟨rfl, hb⟩; have LB4 := Lib.hid (lies_below LB3.out hb (lies_lt LB3.out)); have B4 := Lib.hid (B3.out.trans (hb.mono B3.out.size)); clear hb; have g0 := (B4.out.cell (p := ⟨w.heap.size, 0, none⟩) (lies_lt LX.out)).trans (lies_cell LX.out 0); have g1 := (B4.out.cell (p := ⟨w.heap.size, 1, none⟩) (lies_lt LX.out)).trans (lies_cell LX.out 1); have q0 := lies_cell LB4.out 0; have q1 := lies_cell LB4.out 1; have q2 := lies_cell LB4.out 2; simp only [List.getElem?_toArray, List.getElem?_cons_zero, List.getElem?_cons_succ] at g0 g1 q0 q1 q2; have z1 := (B4.out.cell (p := ⟨b, o + Z * 3 + 1, none⟩) ZL.out).trans ZC.out))
                        go_ret
                        rw [HR.out]
                        exact ⟨rfl, HB.out.trans (B4.out.mono HB.out.size)⟩
                      · by_cases g4 : (m : Int) ≤ f
                        · have HR := Lib.hid (BD.out (fun h => by have := h.2.2; omega))
                          go_wp2_with (first | (go_at_call 34; (with_reducible refine (PR _).out.mono ?_); rintro e w3 ⟨rfl, hb⟩; have LB3 := Lib.hid (lies_below LB2.out hb (lies_lt LB2.out)); have B3 := Lib.hid (B2.out.trans (hb.mono B2.out.size)); clear hb; have e0 := (B3.out.cell (p := ⟨w.heap.size, 0, none⟩) (lies_lt LX.out)).trans (lies_cell LX.out 0); have e1 := (B3.out.cell (p := ⟨w.heap.size, 1, none⟩) (lies_lt LX.out)).trans (lies_cell LX.out 1); have n0 := lies_cell LB3.out 0; have n1 := lies_cell LB3.out 1; have n2 := lies_cell LB3.out 2; simp only [List.getElem?_toArray, List.getElem?_cons_zero, List.getElem?_cons_succ] at e0 e1 n0 n1 n2) | (go_at_call 16; (with_reducible refine (FR _ B3.out).out.mono ?_); rintro e w4 ⟨rfl, hb⟩; have LB4 := Lib.hid (lies_below LB3.out hb (lies_lt LB3.out)); have B4 := Lib.hid (B3.out.trans (hb.mono B3.out.size)); clear hb; have g0 := (B4.out.cell (p := ⟨w.heap.size, 0, none⟩) (lies_lt LX.out)).trans (lies_cell LX.out 0); have g1 := (B4.out.cell (p := ⟨w.heap.size, 1, none⟩) (lies_lt LX.out)).trans (lies_cell LX.out 1); have q0 := lies_cell LB4.out 0; have q1 := lies_cell LB4.out 1; have q2 := lies_cell LB4.out 2; simp only [List.getElem?_toArray, List.getElem?_cons_zero, List.getElem?_cons_succ] at g0 g1 q0 q1 q2; have z1 := (B4.out.cell (p := ⟨b, o + Z * 3 + 1, none⟩) ZL.out).trans ZC.out))
                          go_ret
                          rw [HR.out]
                          exact ⟨rfl, HB.out.trans (B4.out.mono HB.out.size)⟩
                        · have NX := Lib.hid (show walkF m (findB ns) [] 0 ns = walkF m (findB ns) (prevAt ns (i + 1)) (max k (f + 1)) (ns.drop (i + 1)) by
                            rw [ST.out, PS.out]; unfold nodeF; rw [if_neg NL.out, if_neg UPOK.out, if_neg hf, if_pos ⟨decide_eq_true ⟨by show 0 ≤ f; omega, g1⟩, by show f ≤ k; omega, by show f < m; omega⟩])
                          by_cases g5 : f = k
                          · subst g5
                            have NX2 := Lib.hid (show walkF m (findB ns) [] 0 ns = walkF m (findB ns) (prevAt ns (i + 1)) (f + 1) (ns.drop (i + 1)) by rw [NX.out, show max f (f + 1) = f + 1 by omega])
                            have wf1 : wrap64 (f + 1) = f + 1 := wrap_in _ (by omega) (by omega)
                            go_wp2_with (first | (go_at_call 34; (with_reducible refine (PR _).out.mono ?_); rintro e w3 ⟨rfl, hb⟩; have LB3 := Lib.hid (lies_below LB2.out hb (lies_lt LB2.out)); have B3 := Lib.hid (B2.out.trans (hb.mono B2.out.size)); clear hb; have e0 := (B3.out.cell (p := ⟨w.heap.size, 0, none⟩) (lies_lt LX.out)).trans (lies_cell LX.out 0); have e1 := (B3.out.cell (p := ⟨w.heap.size, 1, none⟩) (lies_lt LX.out)).trans (lies_cell LX.out 1); have n0 := lies_cell LB3.out 0; have n1 := lies_cell LB3.out 1; have n2 := lies_cell LB3.out 2; simp only [List.getElem?_toArray, List.getElem?_cons_zero, List.getElem?_cons_succ] at e0 e1 n0 n1 n2) | (go_at_call 16; (with_reducible refine (FR _ B3.out).out.mono ?_); rintro e w4 ⟨rfl, hb⟩; have LB4 := Lib.hid (lies_below LB3.out hb (lies_lt LB3.out)); have B4 := Lib.hid (B3.out.trans (hb.mono B3.out.size)); clear hb; have g0 := (B4.out.cell (p := ⟨w.heap.size, 0, none⟩) (lies_lt LX.out)).trans (lies_cell LX.out 0); have g1 := (B4.out.cell (p := ⟨w.heap.size, 1, none⟩) (lies_lt LX.out)).trans (lies_cell LX.out 1); have q0 := lies_cell LB4.out 0; have q1 := lies_cell LB4.out 1; have q2 := lies_cell LB4.out 2; simp only [List.getElem?_toArray, List.getElem?_cons_zero, List.getElem?_cons_succ] at g0 g1 q0 q1 q2; have z1 := (B4.out.cell (p := ⟨b, o + Z * 3 + 1, none⟩) ZL.out).trans ZC.out))
                            go_roundw
                            case rel => exact ⟨i + 1, f + 1, by omega, by go_num, by first | rfl | go_num, by omega, by omega, NX2.out, B4.out⟩
                            case measure => first | (simp [intOf]; done) | (simp [intOf]; omega)
                          · exfalso; omega
                  · have HR := Lib.hid (BD.out (fun h => by have := of_decide_eq_true h.1; exact g1 this.2))
                    have g1b : (md == 0) = false := by simpa using g1
                    have g1n : (md != 0) = true := by simpa using g1
                    go_wp2_with (first | (go_at_call 34; (with_reducible refine (PR _).out.mono ?_); rintro e w3 ⟨rfl, hb⟩; have LB3 := Lib.hid (lies_below LB2.out hb (lies_lt LB2.out)); have B3 := Lib.hid (B2.out.trans (hb.mono B2.out.size)); clear hb; have e0 := (B3.out.cell (p := ⟨w.heap.size, 0, none⟩) (lies_lt LX.out)).trans (lies_cell LX.out 0); have e1 := (B3.out.cell (p := ⟨w.heap.size, 1, none⟩) (lies_lt LX.out)).trans (lies_cell LX.out 1); have n0 := lies_cell LB3.out 0; have n1 := lies_cell LB3.out 1; have n2 := lies_cell LB3.out 2; simp only [List.getElem?_toArray, List.getElem?_cons_zero, List.getElem?_cons_succ] at e0 e1 n0 n1 n2) | (go_at_call 16; (with_reducible refine (FR _ B3.out).out.mono ?_); rintro e w4 ⟨rfl, hb⟩; have LB4 := Lib.hid (lies_below LB3.out hb (lies_lt LB3.out)); have B4 := Lib.hid (B3.out.trans (hb.mono B3.out.size)); clear hb; have g0 := (B4.out.cell (p := ⟨w.heap.size, 0, none⟩) (lies_lt LX.out)).trans (lies_cell LX.out 0); have g1 := (B4.out.cell (p := ⟨w.heap.size, 1, none⟩) (lies_lt LX.out)).trans (lies_cell LX.out 1); have q0 := lies_cell LB4.out 0; have q1 := lies_cell LB4.out 1; have q2 := lies_cell LB4.out 2; simp only [List.getElem?_toArray, List.getElem?_cons_zero, List.getElem?_cons_succ] at g0 g1 q0 q1 q2; have z1 := (B4.out.cell (p := ⟨b, o + Z * 3 + 1, none⟩) ZL.out).trans ZC.out))
                    go_ret
                    rw [HR.out]
                    exact ⟨rfl, HB.out.trans (B4.out.mono HB.out.size)⟩
              · have hfzb : (fz == -1) = false := by simpa using hfz
                have hfzn : (fz != -1) = true := by simpa using hfz
                have HR := Lib.hid (BAD.out (by rw [ST.out]; unfold nodeF; rw [if_neg NL.out, if_pos ⟨by rw [← UP.out]; exact hu, by rw [FB.out]; exact decide_eq_false hfz⟩]))
                clear hu
                go_wp2_with (first | (go_at_call 34; (with_reducible refine (PR _).out.mono ?_); rintro e w3 ⟨rfl, hb⟩; have LB3 := Lib.hid (lies_below LB2.out hb (lies_lt LB2.out)); have B3 := Lib.hid (B2.out.trans (hb.mono B2.out.size)); clear hb; have e0 := (B3.out.cell (p := ⟨w.heap.size, 0, none⟩) (lies_lt LX.out)).trans (lies_cell LX.out 0); have e1 := (B3.out.cell (p := ⟨w.heap.size, 1, none⟩) (lies_lt LX.out)).trans (lies_cell LX.out 1); have n0 := lies_cell LB3.out 0; have n1 := lies_cell LB3.out 1; have n2 := lies_cell LB3.out 2; simp only [List.getElem?_toArray, List.getElem?_cons_zero, List.getElem?_cons_succ] at e0 e1 n0 n1 n2) | (go_at_call 16; (with_reducible refine (FR _ B3.out).out.mono ?_); rintro e w4 ⟨rfl, hb⟩; have LB4 := Lib.hid (lies_below LB3.out hb (lies_lt LB3.out)); have B4 := Lib.hid (B3.out.trans (hb.mono B3.out.size)); clear hb; have g0 := (B4.out.cell (p := ⟨w.heap.size, 0, none⟩) (lies_lt LX.out)).trans (lies_cell LX.out 0); have g1 := (B4.out.cell (p := ⟨w.heap.size, 1, none⟩) (lies_lt LX.out)).trans (lies_cell LX.out 1); have q0 := lies_cell LB4.out 0; have q1 := lies_cell LB4.out 1; have q2 := lies_cell LB4.out 2; simp only [List.getElem?_toArray, List.getElem?_cons_zero, List.getElem?_cons_succ] at g0 g1 q0 q1 q2; have z1 := (B4.out.cell (p := ⟨b, o + Z * 3 + 1, none⟩) ZL.out).trans ZC.out))
                go_ret
                rw [HR.out]
                exact ⟨rfl, HB.out.trans (B4.out.mono HB.out.size)⟩
        · have l0 : (0 : Int) < (i : Int) := by omega
          have l0n : 0 < i := by omega
          obtain ⟨j, hj⟩ : ∃ j, j = i - 1 := ⟨_, rfl⟩
          have wj2 : wrap64 ((i : Int) - 1) = (j : Int) := by rw [wrap_in _ (by omega) (by omega)]; omega
          have wj : IntKind.i64.wrap ((i : Int) - 1) = (j : Int) := by rw [IntWalk.i64_in _ (by omega)]; omega
          have jl : j < ns.length := by have := NE.out; omega
          have jl1 : (j : Int) < (n : Int) := by have := NE.out; omega
          have jl2 : (0 : Int) ≤ (j : Int) := by omega
          obtain ⟨b', o', eA', hl', f1, f2, f3⟩ := HN.out j jl
          injection eA' with eA'
          injection eA' with eb eo _
          subst eb eo
          have mm0 := lies_cell LB1.out 0
          simp only [List.getElem?_toArray, List.getElem?_cons_zero] at mm0
          have pj := (B1.out.cell (p := ⟨b, o + j * 3, none⟩) hl').trans f1
          obtain ⟨q, hq⟩ : ∃ q, q = ns[j].path := ⟨_, rfl⟩
          have PV := Lib.hid (show prevAt ns i = q by unfold prevAt; rw [if_neg h0, ← hj, List.getD_eq_getElem?_getD, List.getElem?_eq_getElem jl, hq]; rfl)
          rw [← hq] at pj
          clear hl' f1 f2 f3 hq h0 hj jl
          cases hle : Op.bytesLess q p with
          | false =>
            have HR := Lib.hid (BAD.out (by rw [ST.out]; unfold nodeF; rw [if_pos (.inl (by
              rw [PV.out]
              cases e : leB p q with
              | true => rfl
              | false => exact absurd ((leB_false _ _).1 e) (by rw [hle]; decide)))]))
            go_quiet (fail)
            go_wp2
            go_ret
            rw [HR.out]
            exact ⟨rfl, HB.out.trans ((below_drewN B1.out _).mono HB.out.size)⟩
          | true =>
            have NL := Lib.hid (show ¬ (leB p (prevAt ns i) = true ∨ isPath p = false) by
              rw [PV.out, ← VB.out, (leB_false _ _).2 hle]
              decide)
            go_quiet (fail)
            have B2 := Lib.hid (below_drewN B1.out nq)
            have LB2 : Hid (Lies (w1.drewN nq) wr.heap.size 41 #[St p, .int .i64 f, .int .i64 md]) := Lib.hid LB1.out
            have m0 := lies_cell LB2.out 0
            simp only [List.getElem?_toArray, List.getElem?_cons_zero] at m0
            by_cases hu : up = []
            · have ou : other up [] = false := decide_eq_false (by simp [hu])
              have UPOK := Lib.hid (show ¬ (¬ upP p = [] ∧ findB ns (upP p) = false) by rw [← UP.out]; exact fun h => h.1 hu)
              clear hu
              by_cases hf : f = -1
              · subst hf
                obtain ⟨mo, hmo⟩ : ∃ mo, mo = okMode md := ⟨_, rfl⟩
                have MR := fun W => Lib.hid (show Calls Try.prog 52 #[.int .i64 md] W fun e w' => e = .returned (.bool mo) ∧ W = w' by rw [hmo]; exact mode_ref md W)
                have MO := Lib.hid hmo
                clear hmo
                cases mo with
                | false =>
                  have HR := Lib.hid (BAD.out (by rw [ST.out]; unfold nodeF; rw [if_neg NL.out, if_neg UPOK.out, if_pos rfl, if_neg (by rw [← MO.out]; decide)]))
                  go_wp2_with (first | (go_at_call 34; (with_reducible refine (PR _).out.mono ?_); rintro e w3 ⟨rfl, hb⟩; have LB3 := Lib.hid (lies_below LB2.out hb (lies_lt LB2.out)); have B3 := Lib.hid (B2.out.trans (hb.mono B2.out.size)); clear hb; have e0 := (B3.out.cell (p := ⟨w.heap.size, 0, none⟩) (lies_lt LX.out)).trans (lies_cell LX.out 0); have e1 := (B3.out.cell (p := ⟨w.heap.size, 1, none⟩) (lies_lt LX.out)).trans (lies_cell LX.out 1); have n0 := lies_cell LB3.out 0; have n1 := lies_cell LB3.out 1; have n2 := lies_cell LB3.out 2; simp only [List.getElem?_toArray, List.getElem?_cons_zero, List.getElem?_cons_succ] at e0 e1 n0 n1 n2) | (go_at_call 52; (with_reducible refine (MR _).out.mono ?_); rintro e w5 ⟨rfl, rfl⟩))
                  go_ret
                  rw [HR.out]
                  exact ⟨rfl, HB.out.trans (B3.out.mono HB.out.size)⟩
                | true =>
                  have NX := Lib.hid (show walkF m (findB ns) [] 0 ns = walkF m (findB ns) (prevAt ns (i + 1)) k (ns.drop (i + 1)) by rw [ST.out, PS.out]; unfold nodeF; rw [if_neg NL.out, if_neg UPOK.out, if_pos rfl, if_pos MO.out.symm])
                  go_wp2_with (first | (go_at_call 34; (with_reducible refine (PR _).out.mono ?_); rintro e w3 ⟨rfl, hb⟩; have LB3 := Lib.hid (lies_below LB2.out hb (lies_lt LB2.out)); have B3 := Lib.hid (B2.out.trans (hb.mono B2.out.size)); clear hb; have e0 := (B3.out.cell (p := ⟨w.heap.size, 0, none⟩) (lies_lt LX.out)).trans (lies_cell LX.out 0); have e1 := (B3.out.cell (p := ⟨w.heap.size, 1, none⟩) (lies_lt LX.out)).trans (lies_cell LX.out 1); have n0 := lies_cell LB3.out 0; have n1 := lies_cell LB3.out 1; have n2 := lies_cell LB3.out 2; simp only [List.getElem?_toArray, List.getElem?_cons_zero, List.getElem?_cons_succ] at e0 e1 n0 n1 n2) | (go_at_call 52; (with_reducible refine (MR _).out.mono ?_); rintro e w5 ⟨rfl, rfl⟩))
                  go_roundw
                  case rel => exact ⟨i + 1, k, by omega, by go_num, rfl, by omega, by omega, NX.out, B3.out⟩
                  case measure => first | (simp [intOf]; done) | (simp [intOf]; omega)
              · have BD := Lib.hid (show ¬ (nameB ⟨p, f, md⟩ = true ∧ f ≤ k ∧ f < m) → r = false from fun h => BAD.out (by rw [ST.out]; unfold nodeF; rw [if_neg NL.out, if_neg UPOK.out, if_neg hf, if_neg h]))
                have hfb : (f == -1) = false := by simpa using hf
                by_cases g1 : md = 0
                · by_cases g2 : f < 0
                  · have HR := Lib.hid (BD.out (fun h => by have := of_decide_eq_true h.1; have := this.1; simp only at this; omega))
                    go_wp2_with (first | (go_at_call 34; (with_reducible refine (PR _).out.mono ?_); rintro e w3 ⟨rfl, hb⟩; have LB3 := Lib.hid (lies_below LB2.out hb (lies_lt LB2.out)); have B3 := Lib.hid (B2.out.trans (hb.mono B2.out.size)); clear hb; have e0 := (B3.out.cell (p := ⟨w.heap.size, 0, none⟩) (lies_lt LX.out)).trans (lies_cell LX.out 0); have e1 := (B3.out.cell (p := ⟨w.heap.size, 1, none⟩) (lies_lt LX.out)).trans (lies_cell LX.out 1); have n0 := lies_cell LB3.out 0; have n1 := lies_cell LB3.out 1; have n2 := lies_cell LB3.out 2; simp only [List.getElem?_toArray, List.getElem?_cons_zero, List.getElem?_cons_succ] at e0 e1 n0 n1 n2))
                    go_ret
                    rw [HR.out]
                    exact ⟨rfl, HB.out.trans (B3.out.mono HB.out.size)⟩
                  · by_cases g3 : k < f
                    · have HR := Lib.hid (BD.out (fun h => by have := h.2.1; omega))
                      go_wp2_with (first | (go_at_call 34; (with_reducible refine (PR _).out.mono ?_); rintro e w3 ⟨rfl, hb⟩; have LB3 := Lib.hid (lies_below LB2.out hb (lies_lt LB2.out)); have B3 := Lib.hid (B2.out.trans (hb.mono B2.out.size)); clear hb; have e0 := (B3.out.cell (p := ⟨w.heap.size, 0, none⟩) (lies_lt LX.out)).trans (lies_cell LX.out 0); have e1 := (B3.out.cell (p := ⟨w.heap.size, 1, none⟩) (lies_lt LX.out)).trans (lies_cell LX.out 1); have n0 := lies_cell LB3.out 0; have n1 := lies_cell LB3.out 1; have n2 := lies_cell LB3.out 2; simp only [List.getElem?_toArray, List.getElem?_cons_zero, List.getElem?_cons_succ] at e0 e1 n0 n1 n2))
                      go_ret
                      rw [HR.out]
                      exact ⟨rfl, HB.out.trans (B3.out.mono HB.out.size)⟩
                    · by_cases g4 : (m : Int) ≤ f
                      · have HR := Lib.hid (BD.out (fun h => by have := h.2.2; omega))
                        go_wp2_with (first | (go_at_call 34; (with_reducible refine (PR _).out.mono ?_); rintro e w3 ⟨rfl, hb⟩; have LB3 := Lib.hid (lies_below LB2.out hb (lies_lt LB2.out)); have B3 := Lib.hid (B2.out.trans (hb.mono B2.out.size)); clear hb; have e0 := (B3.out.cell (p := ⟨w.heap.size, 0, none⟩) (lies_lt LX.out)).trans (lies_cell LX.out 0); have e1 := (B3.out.cell (p := ⟨w.heap.size, 1, none⟩) (lies_lt LX.out)).trans (lies_cell LX.out 1); have n0 := lies_cell LB3.out 0; have n1 := lies_cell LB3.out 1; have n2 := lies_cell LB3.out 2; simp only [List.getElem?_toArray, List.getElem?_cons_zero, List.getElem?_cons_succ] at e0 e1 n0 n1 n2))
                        go_ret
                        rw [HR.out]
                        exact ⟨rfl, HB.out.trans (B3.out.mono HB.out.size)⟩
                      · have NX := Lib.hid (show walkF m (findB ns) [] 0 ns = walkF m (findB ns) (prevAt ns (i + 1)) (max k (f + 1)) (ns.drop (i + 1)) by
                          rw [ST.out, PS.out]; unfold nodeF; rw [if_neg NL.out, if_neg UPOK.out, if_neg hf, if_pos ⟨decide_eq_true ⟨by show 0 ≤ f; omega, g1⟩, by show f ≤ k; omega, by show f < m; omega⟩])
                        by_cases g5 : f = k
                        · subst g5
                          have NX2 := Lib.hid (show walkF m (findB ns) [] 0 ns = walkF m (findB ns) (prevAt ns (i + 1)) (f + 1) (ns.drop (i + 1)) by rw [NX.out, show max f (f + 1) = f + 1 by omega])
                          have wf1 : wrap64 (f + 1) = f + 1 := wrap_in _ (by omega) (by omega)
                          go_wp2_with (first | (go_at_call 34; (with_reducible refine (PR _).out.mono ?_); rintro e w3 ⟨rfl, hb⟩; have LB3 := Lib.hid (lies_below LB2.out hb (lies_lt LB2.out)); have B3 := Lib.hid (B2.out.trans (hb.mono B2.out.size)); clear hb; have e0 := (B3.out.cell (p := ⟨w.heap.size, 0, none⟩) (lies_lt LX.out)).trans (lies_cell LX.out 0); have e1 := (B3.out.cell (p := ⟨w.heap.size, 1, none⟩) (lies_lt LX.out)).trans (lies_cell LX.out 1); have n0 := lies_cell LB3.out 0; have n1 := lies_cell LB3.out 1; have n2 := lies_cell LB3.out 2; simp only [List.getElem?_toArray, List.getElem?_cons_zero, List.getElem?_cons_succ] at e0 e1 n0 n1 n2))
                          go_roundw
                          case rel => exact ⟨i + 1, f + 1, by omega, by go_num, by first | rfl | go_num, by omega, by omega, NX2.out, B3.out⟩
                          case measure => first | (simp [intOf]; done) | (simp [intOf]; omega)
                        · have NX2 := Lib.hid (show walkF m (findB ns) [] 0 ns = walkF m (findB ns) (prevAt ns (i + 1)) k (ns.drop (i + 1)) by rw [NX.out, show max k (f + 1) = k by omega])
                          have g5b : (f == k) = false := by simpa using g5
                          go_wp2_with (first | (go_at_call 34; (with_reducible refine (PR _).out.mono ?_); rintro e w3 ⟨rfl, hb⟩; have LB3 := Lib.hid (lies_below LB2.out hb (lies_lt LB2.out)); have B3 := Lib.hid (B2.out.trans (hb.mono B2.out.size)); clear hb; have e0 := (B3.out.cell (p := ⟨w.heap.size, 0, none⟩) (lies_lt LX.out)).trans (lies_cell LX.out 0); have e1 := (B3.out.cell (p := ⟨w.heap.size, 1, none⟩) (lies_lt LX.out)).trans (lies_cell LX.out 1); have n0 := lies_cell LB3.out 0; have n1 := lies_cell LB3.out 1; have n2 := lies_cell LB3.out 2; simp only [List.getElem?_toArray, List.getElem?_cons_zero, List.getElem?_cons_succ] at e0 e1 n0 n1 n2))
                          go_roundw
                          case rel => exact ⟨i + 1, k, by omega, by go_num, rfl, by omega, by omega, NX2.out, B3.out⟩
                          case measure => first | (simp [intOf]; done) | (simp [intOf]; omega)
                · have HR := Lib.hid (BD.out (fun h => by have := of_decide_eq_true h.1; exact g1 this.2))
                  have g1b : (md == 0) = false := by simpa using g1
                  have g1n : (md != 0) = true := by simpa using g1
                  go_wp2_with (first | (go_at_call 34; (with_reducible refine (PR _).out.mono ?_); rintro e w3 ⟨rfl, hb⟩; have LB3 := Lib.hid (lies_below LB2.out hb (lies_lt LB2.out)); have B3 := Lib.hid (B2.out.trans (hb.mono B2.out.size)); clear hb; have e0 := (B3.out.cell (p := ⟨w.heap.size, 0, none⟩) (lies_lt LX.out)).trans (lies_cell LX.out 0); have e1 := (B3.out.cell (p := ⟨w.heap.size, 1, none⟩) (lies_lt LX.out)).trans (lies_cell LX.out 1); have n0 := lies_cell LB3.out 0; have n1 := lies_cell LB3.out 1; have n2 := lies_cell LB3.out 2; simp only [List.getElem?_toArray, List.getElem?_cons_zero, List.getElem?_cons_succ] at e0 e1 n0 n1 n2))
                  go_ret
                  rw [HR.out]
                  exact ⟨rfl, HB.out.trans (B3.out.mono HB.out.size)⟩
            · have ou : other up [] = true := decide_eq_true hu
              by_cases hF : F < 0
              · have HR := Lib.hid (BAD.out (by rw [ST.out]; unfold nodeF; rw [if_neg NL.out, if_pos ⟨by rw [← UP.out]; exact hu, by rw [← UP.out]; unfold findB; rw [← FE.out, decide_eq_false (by omega), Bool.false_and]⟩]))
                clear hu
                go_wp2_with (first | (go_at_call 34; (with_reducible refine (PR _).out.mono ?_); rintro e w3 ⟨rfl, hb⟩; have LB3 := Lib.hid (lies_below LB2.out hb (lies_lt LB2.out)); have B3 := Lib.hid (B2.out.trans (hb.mono B2.out.size)); clear hb; have e0 := (B3.out.cell (p := ⟨w.heap.size, 0, none⟩) (lies_lt LX.out)).trans (lies_cell LX.out 0); have e1 := (B3.out.cell (p := ⟨w.heap.size, 1, none⟩) (lies_lt LX.out)).trans (lies_cell LX.out 1); have n0 := lies_cell LB3.out 0; have n1 := lies_cell LB3.out 1; have n2 := lies_cell LB3.out 2; simp only [List.getElem?_toArray, List.getElem?_cons_zero, List.getElem?_cons_succ] at e0 e1 n0 n1 n2) | (go_at_call 16; (with_reducible refine (FR _ B3.out).out.mono ?_); rintro e w4 ⟨rfl, hb⟩; have LB4 := Lib.hid (lies_below LB3.out hb (lies_lt LB3.out)); have B4 := Lib.hid (B3.out.trans (hb.mono B3.out.size)); clear hb; have g0 := (B4.out.cell (p := ⟨w.heap.size, 0, none⟩) (lies_lt LX.out)).trans (lies_cell LX.out 0); have g1 := (B4.out.cell (p := ⟨w.heap.size, 1, none⟩) (lies_lt LX.out)).trans (lies_cell LX.out 1); have q0 := lies_cell LB4.out 0; have q1 := lies_cell LB4.out 1; have q2 := lies_cell LB4.out 2; simp only [List.getElem?_toArray, List.getElem?_cons_zero, List.getElem?_cons_succ] at g0 g1 q0 q1 q2))
                go_ret
                rw [HR.out]
                exact ⟨rfl, HB.out.trans (B4.out.mono HB.out.size)⟩
              · obtain ⟨Z, hZ⟩ : ∃ Z : Nat, F = (Z : Int) := ⟨F.toNat, by omega⟩
                subst hZ
                have zl : Z < ns.length := by have := FE.out; unfold findI at this; split at this <;> omega
                have zl1 : (Z : Int) < (n : Int) := by have := NE.out; omega
                obtain ⟨b', o', eA', hl', f1, f2, f3⟩ := HN.out Z zl
                injection eA' with eA'
                injection eA' with eb eo _
                subst eb eo
                have ZL := Lib.hid hl'
                have ZC := Lib.hid f2
                obtain ⟨fz, hfz⟩ : ∃ fz, fz = ns[Z].file := ⟨_, rfl⟩
                rw [← hfz] at ZC
                have FB := Lib.hid (show findB ns (upP p) = decide (fz = -1) by
                  rw [← UP.out, hfz]
                  unfold findB
                  rw [← FE.out, decide_eq_true (by omega), Bool.true_and, Int.toNat_natCast, List.getD_eq_getElem?_getD, List.getElem?_eq_getElem zl]
                  rfl)
                clear hl' f1 f2 f3 hfz zl
                by_cases hfz : fz = -1
                · subst hfz
                  have UPOK := Lib.hid (show ¬ (¬ upP p = [] ∧ findB ns (upP p) = false) from fun h => by rw [FB.out] at h; exact absurd h.2 (by decide))
                  clear hu
                  by_cases hf : f = -1
                  · subst hf
                    obtain ⟨mo, hmo⟩ : ∃ mo, mo = okMode md := ⟨_, rfl⟩
                    have MR := fun W => Lib.hid (show Calls Try.prog 52 #[.int .i64 md] W fun e w' => e = .returned (.bool mo) ∧ W = w' by rw [hmo]; exact mode_ref md W)
                    have MO := Lib.hid hmo
                    clear hmo
                    cases mo with
                    | false =>
                      have HR := Lib.hid (BAD.out (by rw [ST.out]; unfold nodeF; rw [if_neg NL.out, if_neg UPOK.out, if_pos rfl, if_neg (by rw [← MO.out]; decide)]))
                      go_wp2_with (first | (go_at_call 34; (with_reducible refine (PR _).out.mono ?_); rintro e w3 ⟨rfl, hb⟩; have LB3 := Lib.hid (lies_below LB2.out hb (lies_lt LB2.out)); have B3 := Lib.hid (B2.out.trans (hb.mono B2.out.size)); clear hb; have e0 := (B3.out.cell (p := ⟨w.heap.size, 0, none⟩) (lies_lt LX.out)).trans (lies_cell LX.out 0); have e1 := (B3.out.cell (p := ⟨w.heap.size, 1, none⟩) (lies_lt LX.out)).trans (lies_cell LX.out 1); have n0 := lies_cell LB3.out 0; have n1 := lies_cell LB3.out 1; have n2 := lies_cell LB3.out 2; simp only [List.getElem?_toArray, List.getElem?_cons_zero, List.getElem?_cons_succ] at e0 e1 n0 n1 n2) | (go_at_call 16; (with_reducible refine (FR _ B3.out).out.mono ?_); rintro e w4 ⟨rfl, hb⟩; have LB4 := Lib.hid (lies_below LB3.out hb (lies_lt LB3.out)); have B4 := Lib.hid (B3.out.trans (hb.mono B3.out.size)); clear hb; have g0 := (B4.out.cell (p := ⟨w.heap.size, 0, none⟩) (lies_lt LX.out)).trans (lies_cell LX.out 0); have g1 := (B4.out.cell (p := ⟨w.heap.size, 1, none⟩) (lies_lt LX.out)).trans (lies_cell LX.out 1); have q0 := lies_cell LB4.out 0; have q1 := lies_cell LB4.out 1; have q2 := lies_cell LB4.out 2; simp only [List.getElem?_toArray, List.getElem?_cons_zero, List.getElem?_cons_succ] at g0 g1 q0 q1 q2; have z1 := (B4.out.cell (p := ⟨b, o + Z * 3 + 1, none⟩) ZL.out).trans ZC.out) | (go_at_call 52; (with_reducible refine (MR _).out.mono ?_); rintro e w5 ⟨rfl, rfl⟩))
                      go_ret
                      rw [HR.out]
                      exact ⟨rfl, HB.out.trans (B4.out.mono HB.out.size)⟩
                    | true =>
                      have NX := Lib.hid (show walkF m (findB ns) [] 0 ns = walkF m (findB ns) (prevAt ns (i + 1)) k (ns.drop (i + 1)) by rw [ST.out, PS.out]; unfold nodeF; rw [if_neg NL.out, if_neg UPOK.out, if_pos rfl, if_pos MO.out.symm])
                      go_wp2_with (first | (go_at_call 34; (with_reducible refine (PR _).out.mono ?_); rintro e w3 ⟨rfl, hb⟩; have LB3 := Lib.hid (lies_below LB2.out hb (lies_lt LB2.out)); have B3 := Lib.hid (B2.out.trans (hb.mono B2.out.size)); clear hb; have e0 := (B3.out.cell (p := ⟨w.heap.size, 0, none⟩) (lies_lt LX.out)).trans (lies_cell LX.out 0); have e1 := (B3.out.cell (p := ⟨w.heap.size, 1, none⟩) (lies_lt LX.out)).trans (lies_cell LX.out 1); have n0 := lies_cell LB3.out 0; have n1 := lies_cell LB3.out 1; have n2 := lies_cell LB3.out 2; simp only [List.getElem?_toArray, List.getElem?_cons_zero, List.getElem?_cons_succ] at e0 e1 n0 n1 n2) | (go_at_call 16; (with_reducible refine (FR _ B3.out).out.mono ?_); rintro e w4 ⟨rfl, hb⟩; have LB4 := Lib.hid (lies_below LB3.out hb (lies_lt LB3.out)); have B4 := Lib.hid (B3.out.trans (hb.mono B3.out.size)); clear hb; have g0 := (B4.out.cell (p := ⟨w.heap.size, 0, none⟩) (lies_lt LX.out)).trans (lies_cell LX.out 0); have g1 := (B4.out.cell (p := ⟨w.heap.size, 1, none⟩) (lies_lt LX.out)).trans (lies_cell LX.out 1); have q0 := lies_cell LB4.out 0; have q1 := lies_cell LB4.out 1; have q2 := lies_cell LB4.out 2; simp only [List.getElem?_toArray, List.getElem?_cons_zero, List.getElem?_cons_succ] at g0 g1 q0 q1 q2; have z1 := (B4.out.cell (p := ⟨b, o + Z * 3 + 1, none⟩) ZL.out).trans ZC.out) | (go_at_call 52; (with_reducible refine (MR _).out.mono ?_); rintro e w5 ⟨rfl, rfl⟩))
                      go_roundw
                      case rel => exact ⟨i + 1, k, by omega, by go_num, rfl, by omega, by omega, NX.out, B4.out⟩
                      case measure => first | (simp [intOf]; done) | (simp [intOf]; omega)
                  · have BD := Lib.hid (show ¬ (nameB ⟨p, f, md⟩ = true ∧ f ≤ k ∧ f < m) → r = false from fun h => BAD.out (by rw [ST.out]; unfold nodeF; rw [if_neg NL.out, if_neg UPOK.out, if_neg hf, if_neg h]))
                    have hfb : (f == -1) = false := by simpa using hf
                    by_cases g1 : md = 0
                    · by_cases g2 : f < 0
                      · have HR := Lib.hid (BD.out (fun h => by have := of_decide_eq_true h.1; have := this.1; simp only at this; omega))
                        go_wp2_with (first | (go_at_call 34; (with_reducible refine (PR _).out.mono ?_); rintro e w3 ⟨rfl, hb⟩; have LB3 := Lib.hid (lies_below LB2.out hb (lies_lt LB2.out)); have B3 := Lib.hid (B2.out.trans (hb.mono B2.out.size)); clear hb; have e0 := (B3.out.cell (p := ⟨w.heap.size, 0, none⟩) (lies_lt LX.out)).trans (lies_cell LX.out 0); have e1 := (B3.out.cell (p := ⟨w.heap.size, 1, none⟩) (lies_lt LX.out)).trans (lies_cell LX.out 1); have n0 := lies_cell LB3.out 0; have n1 := lies_cell LB3.out 1; have n2 := lies_cell LB3.out 2; simp only [List.getElem?_toArray, List.getElem?_cons_zero, List.getElem?_cons_succ] at e0 e1 n0 n1 n2) | (go_at_call 16; (with_reducible refine (FR _ B3.out).out.mono ?_); rintro e w4 ⟨rfl, hb⟩; have LB4 := Lib.hid (lies_below LB3.out hb (lies_lt LB3.out)); have B4 := Lib.hid (B3.out.trans (hb.mono B3.out.size)); clear hb; have g0 := (B4.out.cell (p := ⟨w.heap.size, 0, none⟩) (lies_lt LX.out)).trans (lies_cell LX.out 0); have g1 := (B4.out.cell (p := ⟨w.heap.size, 1, none⟩) (lies_lt LX.out)).trans (lies_cell LX.out 1); have q0 := lies_cell LB4.out 0; have q1 := lies_cell LB4.out 1; have q2 := lies_cell LB4.out 2; simp only [List.getElem?_toArray, List.getElem?_cons_zero, List.getElem?_cons_succ] at g0 g1 q0 q1 q2; have z1 := (B4.out.cell (p := ⟨b, o + Z * 3 + 1, none⟩) ZL.out).trans ZC.out))
                        go_ret
                        rw [HR.out]
                        exact ⟨rfl, HB.out.trans (B4.out.mono HB.out.size)⟩
                      · by_cases g3 : k < f
                        · have HR := Lib.hid (BD.out (fun h => by have := h.2.1; omega))
                          go_wp2_with (first | (go_at_call 34; (with_reducible refine (PR _).out.mono ?_); rintro e w3 ⟨rfl, hb⟩; have LB3 := Lib.hid (lies_below LB2.out hb (lies_lt LB2.out)); have B3 := Lib.hid (B2.out.trans (hb.mono B2.out.size)); clear hb; have e0 := (B3.out.cell (p := ⟨w.heap.size, 0, none⟩) (lies_lt LX.out)).trans (lies_cell LX.out 0); have e1 := (B3.out.cell (p := ⟨w.heap.size, 1, none⟩) (lies_lt LX.out)).trans (lies_cell LX.out 1); have n0 := lies_cell LB3.out 0; have n1 := lies_cell LB3.out 1; have n2 := lies_cell LB3.out 2; simp only [List.getElem?_toArray, List.getElem?_cons_zero, List.getElem?_cons_succ] at e0 e1 n0 n1 n2) | (go_at_call 16; (with_reducible refine (FR _ B3.out).out.mono ?_); rintro e w4 ⟨rfl, hb⟩; have LB4 := Lib.hid (lies_below LB3.out hb (lies_lt LB3.out)); have B4 := Lib.hid (B3.out.trans (hb.mono B3.out.size)); clear hb; have g0 := (B4.out.cell (p := ⟨w.heap.size, 0, none⟩) (lies_lt LX.out)).trans (lies_cell LX.out 0); have g1 := (B4.out.cell (p := ⟨w.heap.size, 1, none⟩) (lies_lt LX.out)).trans (lies_cell LX.out 1); have q0 := lies_cell LB4.out 0; have q1 := lies_cell LB4.out 1; have q2 := lies_cell LB4.out 2; simp only [List.getElem?_toArray, List.getElem?_cons_zero, List.getElem?_cons_succ] at g0 g1 q0 q1 q2; have z1 := (B4.out.cell (p := ⟨b, o + Z * 3 + 1, none⟩) ZL.out).trans ZC.out))
                          go_ret
                          rw [HR.out]
                          exact ⟨rfl, HB.out.trans (B4.out.mono HB.out.size)⟩
                        · by_cases g4 : (m : Int) ≤ f
                          · have HR := Lib.hid (BD.out (fun h => by have := h.2.2; omega))
                            go_wp2_with (first | (go_at_call 34; (with_reducible refine (PR _).out.mono ?_); rintro e w3 ⟨rfl, hb⟩; have LB3 := Lib.hid (lies_below LB2.out hb (lies_lt LB2.out)); have B3 := Lib.hid (B2.out.trans (hb.mono B2.out.size)); clear hb; have e0 := (B3.out.cell (p := ⟨w.heap.size, 0, none⟩) (lies_lt LX.out)).trans (lies_cell LX.out 0); have e1 := (B3.out.cell (p := ⟨w.heap.size, 1, none⟩) (lies_lt LX.out)).trans (lies_cell LX.out 1); have n0 := lies_cell LB3.out 0; have n1 := lies_cell LB3.out 1; have n2 := lies_cell LB3.out 2; simp only [List.getElem?_toArray, List.getElem?_cons_zero, List.getElem?_cons_succ] at e0 e1 n0 n1 n2) | (go_at_call 16; (with_reducible refine (FR _ B3.out).out.mono ?_); rintro e w4 ⟨rfl, hb⟩; have LB4 := Lib.hid (lies_below LB3.out hb (lies_lt LB3.out)); have B4 := Lib.hid (B3.out.trans (hb.mono B3.out.size)); clear hb; have g0 := (B4.out.cell (p := ⟨w.heap.size, 0, none⟩) (lies_lt LX.out)).trans (lies_cell LX.out 0); have g1 := (B4.out.cell (p := ⟨w.heap.size, 1, none⟩) (lies_lt LX.out)).trans (lies_cell LX.out 1); have q0 := lies_cell LB4.out 0; have q1 := lies_cell LB4.out 1; have q2 := lies_cell LB4.out 2; simp only [List.getElem?_toArray, List.getElem?_cons_zero, List.getElem?_cons_succ] at g0 g1 q0 q1 q2; have z1 := (B4.out.cell (p := ⟨b, o + Z * 3 + 1, none⟩) ZL.out).trans ZC.out))
                            go_ret
                            rw [HR.out]
                            exact ⟨rfl, HB.out.trans (B4.out.mono HB.out.size)⟩
                          · have NX := Lib.hid (show walkF m (findB ns) [] 0 ns = walkF m (findB ns) (prevAt ns (i + 1)) (max k (f + 1)) (ns.drop (i + 1)) by
                              rw [ST.out, PS.out]; unfold nodeF; rw [if_neg NL.out, if_neg UPOK.out, if_neg hf, if_pos ⟨decide_eq_true ⟨by show 0 ≤ f; omega, g1⟩, by show f ≤ k; omega, by show f < m; omega⟩])
                            by_cases g5 : f = k
                            · subst g5
                              have NX2 := Lib.hid (show walkF m (findB ns) [] 0 ns = walkF m (findB ns) (prevAt ns (i + 1)) (f + 1) (ns.drop (i + 1)) by rw [NX.out, show max f (f + 1) = f + 1 by omega])
                              have wf1 : wrap64 (f + 1) = f + 1 := wrap_in _ (by omega) (by omega)
                              go_wp2_with (first | (go_at_call 34; (with_reducible refine (PR _).out.mono ?_); rintro e w3 ⟨rfl, hb⟩; have LB3 := Lib.hid (lies_below LB2.out hb (lies_lt LB2.out)); have B3 := Lib.hid (B2.out.trans (hb.mono B2.out.size)); clear hb; have e0 := (B3.out.cell (p := ⟨w.heap.size, 0, none⟩) (lies_lt LX.out)).trans (lies_cell LX.out 0); have e1 := (B3.out.cell (p := ⟨w.heap.size, 1, none⟩) (lies_lt LX.out)).trans (lies_cell LX.out 1); have n0 := lies_cell LB3.out 0; have n1 := lies_cell LB3.out 1; have n2 := lies_cell LB3.out 2; simp only [List.getElem?_toArray, List.getElem?_cons_zero, List.getElem?_cons_succ] at e0 e1 n0 n1 n2) | (go_at_call 16; (with_reducible refine (FR _ B3.out).out.mono ?_); rintro e w4 ⟨rfl, hb⟩; have LB4 := Lib.hid (lies_below LB3.out hb (lies_lt LB3.out)); have B4 := Lib.hid (B3.out.trans (hb.mono B3.out.size)); clear hb; have g0 := (B4.out.cell (p := ⟨w.heap.size, 0, none⟩) (lies_lt LX.out)).trans (lies_cell LX.out 0); have g1 := (B4.out.cell (p := ⟨w.heap.size, 1, none⟩) (lies_lt LX.out)).trans (lies_cell LX.out 1); have q0 := lies_cell LB4.out 0; have q1 := lies_cell LB4.out 1; have q2 := lies_cell LB4.out 2; simp only [List.getElem?_toArray, List.getElem?_cons_zero, List.getElem?_cons_succ] at g0 g1 q0 q1 q2; have z1 := (B4.out.cell (p := ⟨b, o + Z * 3 + 1, none⟩) ZL.out).trans ZC.out))
                              go_roundw
                              case rel => exact ⟨i + 1, f + 1, by omega, by go_num, by first | rfl | go_num, by omega, by omega, NX2.out, B4.out⟩
                              case measure => first | (simp [intOf]; done) | (simp [intOf]; omega)
                            · have NX2 := Lib.hid (show walkF m (findB ns) [] 0 ns = walkF m (findB ns) (prevAt ns (i + 1)) k (ns.drop (i + 1)) by rw [NX.out, show max k (f + 1) = k by omega])
                              have g5b : (f == k) = false := by simpa using g5
                              go_wp2_with (first | (go_at_call 34; (with_reducible refine (PR _).out.mono ?_); rintro e w3 ⟨rfl, hb⟩; have LB3 := Lib.hid (lies_below LB2.out hb (lies_lt LB2.out)); have B3 := Lib.hid (B2.out.trans (hb.mono B2.out.size)); clear hb; have e0 := (B3.out.cell (p := ⟨w.heap.size, 0, none⟩) (lies_lt LX.out)).trans (lies_cell LX.out 0); have e1 := (B3.out.cell (p := ⟨w.heap.size, 1, none⟩) (lies_lt LX.out)).trans (lies_cell LX.out 1); have n0 := lies_cell LB3.out 0; have n1 := lies_cell LB3.out 1; have n2 := lies_cell LB3.out 2; simp only [List.getElem?_toArray, List.getElem?_cons_zero, List.getElem?_cons_succ] at e0 e1 n0 n1 n2) | (go_at_call 16; (with_reducible refine (FR _ B3.out).out.mono ?_); rintro e w4 ⟨rfl, hb⟩; have LB4 := Lib.hid (lies_below LB3.out hb (lies_lt LB3.out)); have B4 := Lib.hid (B3.out.trans (hb.mono B3.out.size)); clear hb; have g0 := (B4.out.cell (p := ⟨w.heap.size, 0, none⟩) (lies_lt LX.out)).trans (lies_cell LX.out 0); have g1 := (B4.out.cell (p := ⟨w.heap.size, 1, none⟩) (lies_lt LX.out)).trans (lies_cell LX.out 1); have q0 := lies_cell LB4.out 0; have q1 := lies_cell LB4.out 1; have q2 := lies_cell LB4.out 2; simp only [List.getElem?_toArray, List.getElem?_cons_zero, List.getElem?_cons_succ] at g0 g1 q0 q1 q2; have z1 := (B4.out.cell (p := ⟨b, o + Z * 3 + 1, none⟩) ZL.out).trans ZC.out))
                              go_roundw
                              case rel => exact ⟨i + 1, k, by omega, by go_num, rfl, by omega, by omega, NX2.out, B4.out⟩
                              case measure => first | (simp [intOf]; done) | (simp [intOf]; omega)
                    · have HR := Lib.hid (BD.out (fun h => by have := of_decide_eq_true h.1; exact g1 this.2))
                      have g1b : (md == 0) = false := by simpa using g1
                      have g1n : (md != 0) = true := by simpa using g1
                      go_wp2_with (first | (go_at_call 34; (with_reducible refine (PR _).out.mono ?_); rintro e w3 ⟨rfl, hb⟩; have LB3 := Lib.hid (lies_below LB2.out hb (lies_lt LB2.out)); have B3 := Lib.hid (B2.out.trans (hb.mono B2.out.size)); clear hb; have e0 := (B3.out.cell (p := ⟨w.heap.size, 0, none⟩) (lies_lt LX.out)).trans (lies_cell LX.out 0); have e1 := (B3.out.cell (p := ⟨w.heap.size, 1, none⟩) (lies_lt LX.out)).trans (lies_cell LX.out 1); have n0 := lies_cell LB3.out 0; have n1 := lies_cell LB3.out 1; have n2 := lies_cell LB3.out 2; simp only [List.getElem?_toArray, List.getElem?_cons_zero, List.getElem?_cons_succ] at e0 e1 n0 n1 n2) | (go_at_call 16; (with_reducible refine (FR _ B3.out).out.mono ?_); rintro e w4 ⟨rfl, hb⟩; have LB4 := Lib.hid (lies_below LB3.out hb (lies_lt LB3.out)); have B4 := Lib.hid (B3.out.trans (hb.mono B3.out.size)); clear hb; have g0 := (B4.out.cell (p := ⟨w.heap.size, 0, none⟩) (lies_lt LX.out)).trans (lies_cell LX.out 0); have g1 := (B4.out.cell (p := ⟨w.heap.size, 1, none⟩) (lies_lt LX.out)).trans (lies_cell LX.out 1); have q0 := lies_cell LB4.out 0; have q1 := lies_cell LB4.out 1; have q2 := lies_cell LB4.out 2; simp only [List.getElem?_toArray, List.getElem?_cons_zero, List.getElem?_cons_succ] at g0 g1 q0 q1 q2; have z1 := (B4.out.cell (p := ⟨b, o + Z * 3 + 1, none⟩) ZL.out).trans ZC.out))
                      go_ret
                      rw [HR.out]
                      exact ⟨rfl, HB.out.trans (B4.out.mono HB.out.size)⟩
                · have hfzb : (fz == -1) = false := by simpa using hfz
                  have hfzn : (fz != -1) = true := by simpa using hfz
                  have HR := Lib.hid (BAD.out (by rw [ST.out]; unfold nodeF; rw [if_neg NL.out, if_pos ⟨by rw [← UP.out]; exact hu, by rw [FB.out]; exact decide_eq_false hfz⟩]))
                  clear hu
                  go_wp2_with (first | (go_at_call 34; (with_reducible refine (PR _).out.mono ?_); rintro e w3 ⟨rfl, hb⟩; have LB3 := Lib.hid (lies_below LB2.out hb (lies_lt LB2.out)); have B3 := Lib.hid (B2.out.trans (hb.mono B2.out.size)); clear hb; have e0 := (B3.out.cell (p := ⟨w.heap.size, 0, none⟩) (lies_lt LX.out)).trans (lies_cell LX.out 0); have e1 := (B3.out.cell (p := ⟨w.heap.size, 1, none⟩) (lies_lt LX.out)).trans (lies_cell LX.out 1); have n0 := lies_cell LB3.out 0; have n1 := lies_cell LB3.out 1; have n2 := lies_cell LB3.out 2; simp only [List.getElem?_toArray, List.getElem?_cons_zero, List.getElem?_cons_succ] at e0 e1 n0 n1 n2) | (go_at_call 16; (with_reducible refine (FR _ B3.out).out.mono ?_); rintro e w4 ⟨rfl, hb⟩; have LB4 := Lib.hid (lies_below LB3.out hb (lies_lt LB3.out)); have B4 := Lib.hid (B3.out.trans (hb.mono B3.out.size)); clear hb; have g0 := (B4.out.cell (p := ⟨w.heap.size, 0, none⟩) (lies_lt LX.out)).trans (lies_cell LX.out 0); have g1 := (B4.out.cell (p := ⟨w.heap.size, 1, none⟩) (lies_lt LX.out)).trans (lies_cell LX.out 1); have q0 := lies_cell LB4.out 0; have q1 := lies_cell LB4.out 1; have q2 := lies_cell LB4.out 2; simp only [List.getElem?_toArray, List.getElem?_cons_zero, List.getElem?_cons_succ] at g0 g1 q0 q1 q2; have z1 := (B4.out.cell (p := ⟨b, o + Z * 3 + 1, none⟩) ZL.out).trans ZC.out))
                  go_ret
                  rw [HR.out]
                  exact ⟨rfl, HB.out.trans (B4.out.mono HB.out.size)⟩
    · have li : ¬ (i : Int) < (n : Int) := by omega
      have WK := Lib.hid (show walkF m (findB ns) [] 0 ns = some k by
        rw [HW.out, List.drop_eq_nil_of_le (by have := NE.out; omega)]
        rfl)
      have RK := Lib.hid (show r = (decide (k = (m : Int)) && !anyWrong fs) by rw [RE.out, WK.out]; rfl)
      go_wp2
      go_loopw [9] (fun v8 wr' => ∃ j : Nat, j ≤ m ∧ v8 = .int .i64 (j : Int) ∧ (∀ x ∈ fs.take j, okMode x.mode = true) ∧ wr' = wr) (fun v8 _ => m - (intOf v8).toNat)
      case atStart => exact ⟨0, Nat.zero_le _, rfl, by simp, rfl⟩
      case round =>
        obtain ⟨j, hj, rfl, hno, rfl⟩ := hrel
        have NO := Lib.hid hno
        clear hno
        by_cases hlt2 : j < m
        · have li2 : (j : Int) < (m : Int) := by omega
          have lf : j < fs.length := by have := ME.out; omega
          obtain ⟨b, o, DA, dc, eA, hl, d1, d2, d3⟩ := HF.out j lf
          subst eA
          have d1 := (HBW.out.cell (p := ⟨b, o + j * 2, none⟩) hl).trans d1
          have TK := Lib.hid (show okMode fs[j].mode = true → ∀ x ∈ fs.take (j + 1), okMode x.mode = true from fun hq => by
            rw [List.take_succ_eq_append_getElem lf]
            intro x hx
            rcases List.mem_append.1 hx with h | h
            · exact NO.out x h
            · rw [List.mem_singleton] at h; subst h; exact hq)
          have TW := Lib.hid (show okMode fs[j].mode = false → anyWrong fs = true from fun hq => List.any_eq_true.2 ⟨fs[j], List.getElem_mem lf, by rw [hq]; rfl⟩)
          clear d2 d3
          generalize fs[j].mode = md at *
          obtain ⟨mo, hmo⟩ : ∃ mo, mo = okMode md := ⟨_, rfl⟩
          have MR := fun W => Lib.hid (show Calls Try.prog 52 #[.int .i64 md] W fun e w' => e = .returned (.bool mo) ∧ W = w' by rw [hmo]; exact mode_ref md W)
          have MO := Lib.hid hmo
          clear hmo
          cases mo with
          | false =>
            have HR := Lib.hid (show r = false by rw [RK.out, TW.out MO.out.symm]; simp)
            go_wp2_with (go_at_call 52; (with_reducible refine (MR _).out.mono ?_); rintro e w5 ⟨rfl, rfl⟩)
            go_ret
            rw [HR.out]
            exact ⟨rfl, HB.out.trans (HBW.out.mono HB.out.size)⟩
          | true =>
            have T2 := Lib.hid (TK.out MO.out.symm)
            go_wp2_with (go_at_call 52; (with_reducible refine (MR _).out.mono ?_); rintro e w5 ⟨rfl, rfl⟩)
            go_roundw
            case rel => exact ⟨j + 1, by omega, by go_num, T2.out, trivial⟩
            case measure => first | (simp [intOf]; done) | (simp [intOf]; omega)
        · have li2 : ¬ (j : Int) < (m : Int) := by omega
          have AW := Lib.hid (show anyWrong fs = false by
            have h := NO.out
            rw [List.take_of_length_le (by have := ME.out; omega)] at h
            unfold anyWrong
            rw [List.any_eq_false]
            intro x hx
            rw [h x hx]
            decide)
          by_cases hk : k = (m : Int)
          · have HR := Lib.hid (show r = true by rw [RK.out, AW.out, decide_eq_true hk]; rfl)
            subst hk
            go_wp2
            go_ret
            rw [HR.out]
            exact ⟨rfl, HB.out.trans (HBW.out.mono HB.out.size)⟩
          · have HR := Lib.hid (show r = false by rw [RK.out, decide_eq_false hk]; rfl)
            have hkb : (k == (m : Int)) = false := by simpa using hk
            go_wp2
            go_ret
            rw [HR.out]
            exact ⟨rfl, HB.out.trans (HBW.out.mono HB.out.size)⟩
end Go.Proofs.Ytdnagkgblmcojaa
