/-
What is proved here: the law that a file whose names and bytes are the same in both trees is kept as itself, by a contract.
-/
import Derived.Test.YtiglakhfkgeefaaMok
import Derived.Test.YtiglakhfkgeefaaCpm
import Derived.Test.YtiglakhfkgeefaaRft
import Derived.Test.YtiglakhfkgeefaaPar
import Derived.Test.YtiglakhfkgeefaaEqb
import Derived.Deep.QuietTactic
import Derived.BigQuiet
import Derived.StillTailTactics
set_option linter.unusedSimpArgs false
set_option linter.unusedVariables false
namespace Go.Proofs.Ytiglakhfkgeefaa
open Go.Pth Go.Tre Go.RowKit Go.Word Go.Shelf Go.Mat
attribute [local go_sem] guard_eq guard_ne st_eql st_neq
theorem findI_cases (ns : List Nd) (p : Bt) : findI ns p = -1 ∨ ∃ i, ∃ h : i < ns.length, findI ns p = (i : Int) ∧ ns[i].path = p := by
  unfold findI
  by_cases h : ns.findIdx (fun x => same x.path p) < ns.length
  · refine .inr ⟨_, h, if_pos h, ?_⟩
    have := List.findIdx_getElem (w := h)
    unfold same at this ⊢
    exact of_decide_eq_true this
  · exact .inl (if_neg h)
set_option maxRecDepth 100000 in
set_option maxHeartbeats 16000000 in
theorem stays_law (NA FA MA GA LA : Option Addr) (nc fc mc gc lc : Nat) (ns ms : List Nd) (fs gs : List Fl) (ls : List Bt) (w : World) (hN : NodesAt w NA ns) (hF : FilesAt w FA fs) (hM : NodesAt w MA ms) (hG : FilesAt w GA gs) (hL : ListQ w LA ls)
    (h1 : Fits ns fs) (h2 : Fits ms gs) (h3 : FitsL ls) :
    Calls Try.prog 6 #[.agg #[.slice NA ns.length nc, .slice FA fs.length fc, .slice MA ms.length mc, .slice GA gs.length gc, .slice LA ls.length lc]] w fun e w' => e = .returned (.bool true) ∧ Below w.heap.size w w' := by
  have KM := Lib.hid (fun (W : World) (h : Below w.heap.size w W) => much_any NA FA MA GA LA nc fc mc gc lc ns ms fs gs ls W (nodesAt_below hN h) (filesAt_below hF h) (nodesAt_below hM h) (filesAt_below hG h) (listQ_below hL h) h1 h2 h3)
  have KO := Lib.hid (fun (W : World) (h : Below w.heap.size w W) (hs : Small ns fs) (ht : Small ms gs) (hl : SmallL ls) => match_ok NA FA MA GA LA nc fc mc gc lc ns ms fs gs ls W (nodesAt_below hN h) (filesAt_below hF h) (nodesAt_below hM h) (filesAt_below hG h) (listQ_below hL h) hs ht (by have := hl.1; omega) (fun x hx => by have := hl.2 x hx; omega))
  have KX := Lib.hid (fun (W : World) (h : Below w.heap.size w W) (hs : Small ns fs) (ht : Small ms gs) (hl : SmallL ls) => match_no NA FA MA GA LA nc fc mc gc lc ns ms fs gs ls W (nodesAt_below hN h) (filesAt_below hF h) (nodesAt_below hM h) (filesAt_below hG h) (listQ_below hL h) hs ht (by have := hl.1; omega) (fun x hx => by have := hl.2 x hx; omega))
  have KN1 := Lib.hid (fun (W : World) (h : Below w.heap.size w W) (hs : Small ns fs) (q : Int) => namesf_ref NA FA nc fc ns fs.length q W hs.1 (nodesAt_below hN h))
  have KN2 := Lib.hid (fun (W : World) (h : Below w.heap.size w W) (ht : Small ms gs) (q : Int) => namesf_ref MA GA mc gc ms gs.length q W ht.1 (nodesAt_below hM h))
  have KF1 := Lib.hid (fun (W : World) (h : Below w.heap.size w W) (hs : Small ns fs) (p : Bt) => find_ref NA FA nc fc ns fs.length p W (by have := hs.1; omega) (nodesAt_below hN h))
  have HNs := Lib.hid (fun (W : World) (h : Below w.heap.size w W) => nodesAt_below hN h)
  have HFs := Lib.hid (fun (W : World) (h : Below w.heap.size w W) => filesAt_below hF h)
  have HGs := Lib.hid (fun (W : World) (h : Below w.heap.size w W) => filesAt_below hG h)
  have KL := Lib.hid (fun (W : World) (h : Below w.heap.size w W) => listQ_below hL h)
  generalize hn : ns.length = n at *
  generalize hm : fs.length = m at *
  generalize hn2 : ms.length = n2 at *
  generalize hm2 : gs.length = m2 at *
  generalize hk : ls.length = k at *
  have NE := Lib.hid hn
  have ME := Lib.hid hm
  have NE2 := Lib.hid hn2
  have ME2 := Lib.hid hm2
  have LE := Lib.hid hk
  clear hN hF hM hG hL h1 h2 h3 hn hm hn2 hm2 hk
  have B0 := Lib.hid (show Below w.heap.size w (w.alloc (.cells #[.slice NA n nc, .slice FA m fc, .slice MA n2 mc, .slice GA m2 gc, .slice LA k lc] 28)) from (Below.refl _ _).alloc (Nat.le_refl _) _)
  have LX := Lib.hid (lies_new w 28 #[.slice NA n nc, .slice FA m fc, .slice MA n2 mc, .slice GA m2 gc, .slice LA k lc])
  go_enter Try.func6, Try.ntmps6
  go_upto_region 1 with (fail)
  generalize w.alloc (.cells #[.slice NA n nc, .slice FA m fc, .slice MA n2 mc, .slice GA m2 gc, .slice LA k lc] 28) = X at *
  have R5 : ∀ W, Lies W w.heap.size 28 #[.slice NA n nc, .slice FA m fc, .slice MA n2 mc, .slice GA m2 gc, .slice LA k lc] → Hid (W.rangeAt w.heap.size 0 [.slice NA n nc, .slice FA m fc, .slice MA n2 mc, .slice GA m2 gc, .slice LA k lc]) := fun W h => Lib.hid (five_range h)
  go_upto_region 2 with (go_at_call 9; (with_reducible refine (alive_any _).mono ?_); rintro e w1 ⟨rfl, hb⟩; have B1 := Lib.hid (B0.out.trans (hb.mono B0.out.size)); have L1 := Lib.hid (lies_below LX.out hb (lies_lt LX.out)); have Q1 := R5 _ L1.out; clear hb)
  go_upto_region 3 with (first
    | (refine wpList_load_mid rfl 28 _ rfl w.heap.size 0 rfl [.slice NA n nc, .slice FA m fc, .slice MA n2 mc, .slice GA m2 gc, .slice LA k lc] _ Q1.out Try.underlying28 rfl (by kernel_rfl) ?_)
    | (go_at_call 10; (with_reducible refine (KM.out _ B1.out).mono ?_); rintro e w2 ⟨⟨b, rfl, hs⟩, hb⟩; have B2 := Lib.hid (B1.out.trans (hb.mono B1.out.size)); have L2 := Lib.hid (lies_below L1.out hb (lies_lt L1.out)); have SB := Lib.hid hs; clear hb hs Q1))
  cases b with
  | true =>
    go_wp2
    go_ret
    exact ⟨rfl, B2.out⟩
  | false =>
    have S1 := Lib.hid (SB.out rfl)
    have P2 := Lib.hid (pair_range L2.out)
    have c4 := lies_cell L2.out 4
    simp only [List.getElem?_toArray, List.getElem?_cons_zero, List.getElem?_cons_succ] at c4
    clear SB KM
    by_cases he : errM ns fs ms gs ls ≠ 0
    · have HE := Lib.hid he
      clear he
      go_upto_region 6 with (first
        | (refine wpList_load_mid rfl 25 _ rfl w.heap.size 0 rfl [.slice NA n nc, .slice FA m fc] _ P2.out.1 Try.underlying25 rfl (by kernel_rfl) ?_)
        | (refine wpList_load_mid rfl 25 _ rfl w.heap.size 2 rfl [.slice MA n2 mc, .slice GA m2 gc] _ P2.out.2.1 Try.underlying25 rfl (by kernel_rfl) ?_)
        | (go_at_call 13; (with_reducible refine (KX.out _ B2.out S1.out.1 S1.out.2.1 S1.out.2.2 HE.out).mono ?_); rintro e w3 ⟨⟨E, rfl, hE, _⟩, hb⟩; have B3 := Lib.hid (B2.out.trans (hb.mono B2.out.size)); clear hb))
      have hE1 : (E != 0) = true := by simpa using hE
      have hE2 : (E == 0) = false := by simpa using hE
      go_wp2_with (go_at_call 18; (with_reducible refine (num_any _ _).mono ?_); rintro e w4 ⟨rfl, rfl⟩)
      go_ret
      exact ⟨rfl, B3.out⟩
    · have HE := Lib.hid (Decidable.not_not.1 he)
      clear he
      go_upto_region 6 with (first
        | (refine wpList_load_mid rfl 25 _ rfl w.heap.size 0 rfl [.slice NA n nc, .slice FA m fc] _ P2.out.1 Try.underlying25 rfl (by kernel_rfl) ?_)
        | (refine wpList_load_mid rfl 25 _ rfl w.heap.size 2 rfl [.slice MA n2 mc, .slice GA m2 gc] _ P2.out.2.1 Try.underlying25 rfl (by kernel_rfl) ?_)
        | (go_at_call 13; (with_reducible refine (KO.out _ B2.out S1.out.1 S1.out.2.1 S1.out.2.2 HE.out).mono ?_); rintro e w3 ⟨⟨gl, rfl, hgl⟩, hb⟩; have B3 := Lib.hid (B2.out.trans (hb.mono B2.out.size)); have L3 := Lib.hid (lies_below L2.out hb (lies_lt L2.out)); have GL := Lib.hid hgl; clear hb hgl c4 P2))
      go_wp2_with (go_at_call 18; (with_reducible refine (num_any _ _).mono ?_); rintro e w4 ⟨rfl, rfl⟩)
      have nB : n ≤ 300 := by have := S1.out.1.1; have := NE.out; omega
      have mB : m ≤ 300 := by have := S1.out.1.2.1; have := ME.out; omega
      have m2B : m2 ≤ 300 := by have := S1.out.2.1.2.1; have := ME2.out; omega
      obtain ⟨ea, eb, _, _⟩ := errM_zero.1 HE.out
      have LO1 := Lib.hid (check_loose ea)
      have LO2 := Lib.hid (check_loose eb)
      clear ea eb
      go_loopw [7] (fun v7 wr => ∃ f : Nat, f ≤ m2 ∧ v7 = .int .i64 (f : Int) ∧ Below w3.heap.size w3 wr) (fun v7 _ => m2 - (intOf v7).toNat)
      case atStart => exact ⟨0, Nat.zero_le _, rfl, Below.refl _ _⟩
      case round =>
        obtain ⟨f, hf, rfl, hb⟩ := hrel
        have HB := Lib.hid hb
        have L4 := Lib.hid (lies_below L3.out hb (lies_lt L3.out))
        have c3 := lies_cell L4.out 3
        simp only [List.getElem?_toArray, List.getElem?_cons_zero, List.getElem?_cons_succ] at c3
        have BW := Lib.hid (B3.out.trans (hb.mono B3.out.size))
        have P4 := Lib.hid (pair_range L4.out)
        clear hb
        by_cases hlt : f < m2
        · have li : (f : Int) < (m2 : Int) := by omega
          have lf : f < gs.length := by have := ME2.out; omega
          have hne : namesF ms (f : Int) ≠ [] := fun e => by
            obtain ⟨x, hx, hxf⟩ := loose_named LO2.out f lf
            have : x.path ∈ namesF ms (f : Int) := List.mem_map.2 ⟨x, List.mem_filter.2 ⟨hx, by simp; omega⟩, rfl⟩
            rw [e] at this
            cases this
          have hlen := namesF_count ms (f : Int)
          have hlen2 : (namesF ms (f : Int)).length ≤ 300 := by have := S1.out.2.1.1; omega
          obtain ⟨nt, hnt⟩ : ∃ nt, nt = namesF ms (f : Int) := ⟨_, rfl⟩
          have NT := Lib.hid hnt
          have K2 := Lib.hid (KN2.out wr BW.out S1.out.2.1 (f : Int))
          rw [← hnt] at K2 hne hlen2
          clear hlen hnt
          go_upto_region 12 with (first
            | (refine wpList_load_mid rfl 25 _ rfl w.heap.size 2 rfl [.slice MA n2 mc, .slice GA m2 gc] _ P4.out.2.1 Try.underlying25 rfl (by kernel_rfl) ?_)
            | (go_at_call 25; (with_reducible refine K2.out.mono ?_); rintro e w5 ⟨v, rfl, hrow, hb⟩; have B5 := Lib.hid (HB.out.trans (hb.mono HB.out.size)); have L5 := Lib.hid (lies_below L4.out hb (lies_lt L4.out)); have R5 := Lib.hid hrow; clear hb hrow))
          obtain ⟨A8, C8, rfl⟩ := own_slice R5.out
          have hn0 : 0 < nt.length := List.length_pos_iff.2 hne
          obtain ⟨g8, rfl⟩ := own_at R5.out hn0
          have ln0 : (0 : Int) < (nt.length : Int) := by omega
          have hp0 : w5.cell? ⟨g8, 0, none⟩ = some (St (nt.getD 0 [])) := by
            rw [R5.out.cellAt 0 (by omega), List.getElem?_map, List.getElem?_eq_getElem hn0]
            simp [List.getD_eq_getElem?_getD, List.getElem?_eq_getElem hn0]
          obtain ⟨p0, hp⟩ : ∃ p0, p0 = nt.getD 0 [] := ⟨_, rfl⟩
          have HP := Lib.hid hp
          rw [← hp] at hp0
          clear hp
          have y0 := lies_cell L5.out 0
          have y1 := lies_cell L5.out 1
          simp only [List.getElem?_toArray, List.getElem?_cons_zero, List.getElem?_cons_succ] at y0 y1
          go_still_tail 5, (by kernel_rfl)
          change wpList _ _ _ _ _ w5.drew
          have B6 := Lib.hid (show Below w3.heap.size w3 w5.drew from B5.out.drew)
          have L6 := Lib.hid (lies_drew L5.out)
          have R6 := Lib.hid (show w5.drew.ownsRow wr.heap.size 9 1 (.slice (some ⟨g8, 0, none⟩) nt.length C8) nt.length (nt.map St) from ownsRow_below R5.out (Below.refl _ _).drew)
          have ZR := Lib.hid (show w3.heap.size ≤ wr.heap.size from HB.out.size)
          clear B5 L5 R5 hp0 y0 y1 K2 hne hn0 ln0
          generalize w5.drew = X6 at *
          have F1 := Lib.hid (KF1.out X6 (B3.out.trans (B6.out.mono B3.out.size)) S1.out.1 p0)
          obtain ⟨kk, hkk⟩ : ∃ kk, kk = findI ns p0 := ⟨_, rfl⟩
          have KK := Lib.hid hkk
          rw [← hkk] at F1
          clear hkk
          go_upto_region 13 with (go_at_call 26; (with_reducible refine F1.out.mono ?_); rintro e w7 ⟨rfl, hb⟩; have B7 := Lib.hid (B6.out.trans (hb.mono B6.out.size)); have L7 := Lib.hid (lies_below L6.out hb (lies_lt L6.out)); have R7 := Lib.hid (ownsRow_below R6.out hb); clear hb)
          have x0 := lies_cell L7.out 0
          have x1 := lies_cell L7.out 1
          simp only [List.getElem?_toArray, List.getElem?_cons_zero, List.getElem?_cons_succ] at x0 x1
          clear B6 L6 R6 F1
          rcases findI_cases ns p0 with hc | ⟨i, hi, hc, hpi⟩
          · have hk0 : kk = -1 := by rw [KK.out]; exact hc
            subst hk0
            go_wp2
            go_roundw
            case rel => exact ⟨f + 1, by omega, by go_num, B7.out⟩
            case measure => first | (simp [intOf]; done) | (simp [intOf]; omega)
          · have hk0 : kk = (i : Int) := by rw [KK.out]; exact hc
            subst hk0
            have HPI := Lib.hid hpi
            have hin : i < n := by have := NE.out; omega
            have hin2 : (i : Int) < (n : Int) := by omega
            obtain ⟨b, o, eA, hl, d1, d2, d3⟩ := HNs.out w7 (B3.out.trans (B7.out.mono B3.out.size)) i hi
            have FX := Lib.hid (loose_files LO1.out ns[i] (List.getElem_mem hi))
            have FE := Lib.hid (show ns[i].file = ns[i].file from rfl)
            have MEM := Lib.hid (show ∃ x ∈ ns, x.path = p0 ∧ x.file = ns[i].file from ⟨ns[i], List.getElem_mem hi, hpi, rfl⟩)
            clear hpi d1 d3 FE
            generalize ns[i].file = fi at *
            subst eA
            by_cases hfi : fi = -1
            · subst hfi
              go_wp2
              go_roundw
              case rel => exact ⟨f + 1, by omega, by go_num, B7.out⟩
              case measure => first | (simp [intOf]; done) | (simp [intOf]; omega)
            · obtain ⟨gi, rfl⟩ : ∃ gi : Nat, fi = gi := ⟨fi.toNat, by rcases FX.out with h | h <;> omega⟩
              have fb : ((gi : Int) == -1) = false := by first | (simp; done) | (simp; omega)
              have fb2 : ((gi : Int) != -1) = true := by first | (simp; done) | (simp; omega)
              have lgi : gi < fs.length := by rcases FX.out with h | h <;> omega
              have lgm : gi < m := by have := ME.out; omega
              have lgm2 : (gi : Int) < (m : Int) := by omega
              clear FX hfi
              have P7 := Lib.hid (pair_range L7.out)
              have K1 := Lib.hid (KN1.out w7 (B3.out.trans (B7.out.mono B3.out.size)) S1.out.1 (gi : Int))
              obtain ⟨no, hno⟩ : ∃ no, no = namesF ns (gi : Int) := ⟨_, rfl⟩
              have NO := Lib.hid hno
              have noB : no.length ≤ 300 := by have := namesF_count ns (gi : Int); have := S1.out.1.1; rw [hno]; omega
              rw [← hno] at K1
              clear hno
              go_upto_region 16 with (first
                | (refine wpList_load_mid rfl 25 _ rfl w.heap.size 0 rfl [.slice (some ⟨b, o, none⟩) n nc, .slice FA m fc] _ P7.out.1 Try.underlying25 rfl (by kernel_rfl) ?_)
                | (go_at_call 25; (with_reducible refine K1.out.mono ?_); rintro e w8 ⟨v, rfl, hrow, hb⟩; have B8 := Lib.hid (B7.out.trans (hb.mono B7.out.size)); have L8 := Lib.hid (lies_below L7.out hb (lies_lt L7.out)); have R8 := Lib.hid hrow; have Q8 := Lib.hid (ownsRow_below R7.out hb); clear hb hrow))
              obtain ⟨A11, C11, rfl⟩ := own_slice R8.out
              obtain ⟨FA7, fo7, DA, dc, eF, hlF, dF1, dF2, hbyF⟩ := HFs.out w8 (B3.out.trans (B8.out.mono B3.out.size)) gi lgi
              obtain ⟨GA7, go7, DB, dd, eG, hlG, dG1, dG2, hbyG⟩ := HGs.out w8 (B3.out.trans (B8.out.mono B3.out.size)) f lf
              subst eF eG
              have cv1 := fun q => run_text47 DA fs[gi].data dc (w8.drewN q) (bytesAt_below hbyF (below_drewN (Below.refl _ _) q))
              have cv2 := fun q => run_text47 DB gs[f].data dd (w8.drewN q) (bytesAt_below hbyG (below_drewN (Below.refl _ _) q))
              have DD := Lib.hid (show fs[gi].data = fs[gi].data ∧ gs[f].data = gs[f].data from ⟨rfl, rfl⟩)
              have SM := Lib.hid (fun (h1 : no = nt) (h2 : fs[gi].data = gs[f].data) => stays_match ns ms fs gs ls LO1.out LO2.out (by have := ME2.out; omega) (by have := ME.out; omega) (fun x hx => by have := S1.out.2.1.2.2.2 x hx; omega) (fun x hx => by have := S1.out.1.2.2.2 x hx; omega) f gi lf lgi (by rw [← namesF_M, ← namesF_M, ← NO.out, ← NT.out, h1]) h2)
              clear dF1 dG1 hbyF hbyG DD
              generalize fs[gi].data = da at *
              generalize gs[f].data = db at *
              have x0 := lies_cell L8.out 0
              have x1 := lies_cell L8.out 1
              have x3 := lies_cell L8.out 3
              simp only [List.getElem?_toArray, List.getElem?_cons_zero, List.getElem?_cons_succ] at x0 x1 x3
              by_cases hlen : no.length = nt.length
              · have le1 : ((no.length : Int) == (nt.length : Int)) = true := by simp; omega
                obtain ⟨sb, hsb⟩ : ∃ sb, same da db = sb := ⟨_, rfl⟩
                have SB := Lib.hid hsb
                go_quiet (fail)
                have B9 := Lib.hid (below_drewN B8.out nq)
                have L9 := Lib.hid (show Lies (w8.drewN nq) w.heap.size 28 _ from L8.out)
                have R9 := Lib.hid (ownsRow_below R8.out (below_drewN (Below.refl _ _) nq))
                have Q9 := Lib.hid (ownsRow_below Q8.out (below_drewN (Below.refl _ _) nq))
                clear B8 L8 R8 Q8 R7 B7 L7 P7 K1 cv1 cv2 hsb x0 x1 x3 dF2 dG2 hlF hlG
                generalize w8.drewN nq = X9 at *
                go_wp2
                go_loopw [12, 13] (fun v12 v13 wr => ∃ (j : Nat) (bb : Bool), j ≤ no.length ∧ v13 = .int .i64 (j : Int) ∧ v12 = .bool bb ∧ (bb = true → da = db ∧ ∀ x, x < j → no.getD x [] = nt.getD x []) ∧ Below X9.heap.size X9 wr) (fun _ v13 _ => no.length - (intOf v13).toNat)
                case atStart => exact ⟨0, sb, Nat.zero_le _, rfl, rfl, fun h => ⟨by have := SB.out; rw [h] at this; exact of_decide_eq_true this, fun x hx => absurd hx (Nat.not_lt_zero _)⟩, Below.refl _ _⟩
                case round =>
                  obtain ⟨j, bb, hj, rfl, rfl, hbb, hb⟩ := hrel
                  have BB := Lib.hid hbb
                  have BJ := Lib.hid (show Below w3.heap.size w3 wr from B9.out.trans (hb.mono B9.out.size))
                  have HJ := Lib.hid hb
                  have LJ := Lib.hid (lies_below L9.out hb (lies_lt L9.out))
                  have r1 := ownsRow_below R9.out hb
                  have r2 := ownsRow_below Q9.out hb
                  clear hbb hb
                  cases bb with
                  | false =>
                    by_cases hlt3 : j < no.length
                    · have li3 : (j : Int) < (no.length : Int) := by omega
                      clear r1 r2
                      go_wp2
                      go_roundw
                      case rel => exact ⟨f + 1, by omega, by go_num, BJ.out⟩
                      case measure => first | (simp [intOf]; done) | (simp [intOf]; omega)
                    · have li3 : ¬ (j : Int) < (no.length : Int) := by omega
                      clear r1 r2
                      go_wp2
                      go_roundw
                      case rel => exact ⟨f + 1, by omega, by go_num, BJ.out⟩
                      case measure => first | (simp [intOf]; done) | (simp [intOf]; omega)
                  | true =>
                    by_cases hlt3 : j < no.length
                    · have li3 : (j : Int) < (no.length : Int) := by omega
                      have li4 : (j : Int) < (nt.length : Int) := by omega
                      obtain ⟨g11, rfl⟩ := own_at r1 (by omega)
                      have q1 : wr.cell? ⟨g11, j, none⟩ = some (St (no.getD j [])) := by
                        rw [r1.cellAt j (by omega), List.getElem?_map, List.getElem?_eq_getElem hlt3]
                        simp [List.getD_eq_getElem?_getD, List.getElem?_eq_getElem hlt3]
                      have q2 : wr.cell? ⟨g8, j, none⟩ = some (St (nt.getD j [])) := by
                        rw [r2.cellAt j (by omega), List.getElem?_map, List.getElem?_eq_getElem (by omega)]
                        simp [List.getD_eq_getElem?_getD, List.getElem?_eq_getElem (show j < nt.length by omega)]
                      obtain ⟨s2, hs2⟩ : ∃ s2, same (no.getD j []) (nt.getD j []) = s2 := ⟨_, rfl⟩
                      have S2 := Lib.hid hs2
                      have NX := Lib.hid (show s2 = true → da = db ∧ ∀ x, x < j + 1 → no.getD x [] = nt.getD x [] from fun h => by
                        obtain ⟨h1, h2⟩ := BB.out (by first | rfl | trivial)
                        refine ⟨h1, fun x hx => ?_⟩
                        by_cases e : x = j
                        · subst e
                          have := S2.out
                          rw [h] at this
                          exact of_decide_eq_true this
                        · exact h2 x (by omega))
                      clear r1 r2 BB S2
                      generalize no.getD j [] = a1 at *
                      generalize nt.getD j [] = a2 at *
                      go_upto_region 20 with (fail)
                      go_quiet (fail)
                      go_wp2
                      go_roundw
                      case rel => exact ⟨j + 1, s2, by omega, by go_num, rfl, NX.out, below_drewN HJ.out _⟩
                      case measure => first | (simp [intOf]; done) | (simp [intOf]; omega)
                    · have li3 : ¬ (j : Int) < (no.length : Int) := by omega
                      have hjn : j = no.length := by omega
                      obtain ⟨h1, h2⟩ := BB.out (by first | rfl | trivial)
                      have hnn : no = nt := by
                        apply List.ext_getElem hlen
                        intro x hx1 hx2
                        have := h2 x (by omega)
                        simpa [List.getD_eq_getElem?_getD, List.getElem?_eq_getElem hx1, List.getElem?_eq_getElem hx2] using this
                      have hm := SM.out hnn h1
                      have hfl : f < (matchL ns fs ms gs ls).1.length := by rw [matchL_len]; exact lf
                      have hrg := srcR_at (srcR_below GL.out (Nat.le_refl _) BJ.out) f hfl
                      rw [List.getD_eq_getElem?_getD, List.getElem?_eq_getElem hfl, Option.getD_some] at hm
                      rw [hm] at hrg
                      have c0 := hrg 0 _ rfl
                      have c1 := hrg 1 _ rfl
                      have c2 := hrg 2 _ rfl
                      simp only [Nat.add_zero] at c0 c1 c2
                      clear hrg hm hfl hnn h1 h2 r1 r2 BB
                      go_wp2
                      go_roundw
                      case rel => exact ⟨f + 1, by omega, by go_num, BJ.out⟩
                      case measure => first | (simp [intOf]; done) | (simp [intOf]; omega)
              · have le1 : ((no.length : Int) == (nt.length : Int)) = false := by simp; omega
                go_quiet (fail)
                have B9 := Lib.hid (below_drewN B8.out nq)
                have L9 := Lib.hid (show Lies (w8.drewN nq) w.heap.size 28 _ from L8.out)
                clear B8 L8 R8 Q8 R7 B7 L7 P7 K1 cv1 cv2 x0 x1 x3 dF2 dG2 hlF hlG SM
                generalize w8.drewN nq = X9 at *
                go_wp2
                go_loopw [12, 13] (fun v12 v13 wr => v13 = .int .i64 0 ∧ v12 = .bool false ∧ wr = X9) (fun _ v13 _ => 0)
                case atStart => exact ⟨rfl, rfl, rfl⟩
                case round =>
                  obtain ⟨rfl, rfl, rfl⟩ := hrel
                  by_cases hlt3 : 0 < no.length
                  · have li3 : (0 : Int) < (no.length : Int) := by omega
                    go_wp2
                    go_roundw
                    case rel => exact ⟨f + 1, by omega, by go_num, B9.out⟩
                    case measure => first | (simp [intOf]; done) | (simp [intOf]; omega)
                  · have li3 : ¬ (0 : Int) < (no.length : Int) := by omega
                    have l0 : (no.length : Int) = 0 := by omega
                    go_wp2
                    go_roundw
                    case rel => exact ⟨f + 1, by omega, by go_num, B9.out⟩
                    case measure => first | (simp [intOf]; done) | (simp [intOf]; omega)
        · have hfm : f = m2 := by omega
          subst hfm
          have li : ¬ (f : Int) < (f : Int) := by omega
          go_wp2
          go_ret
          exact ⟨rfl, BW.out⟩
end Go.Proofs.Ytiglakhfkgeefaa
