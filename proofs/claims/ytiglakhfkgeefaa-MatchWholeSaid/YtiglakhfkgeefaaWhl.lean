/-
What is proved here: the law of what is kept, copied and new, by a contract.
-/
import Derived.Test.YtiglakhfkgeefaaMok
import Derived.Test.YtiglakhfkgeefaaCpm
import Derived.Test.YtiglakhfkgeefaaFrs
import Derived.Test.YtiglakhfkgeefaaRfs
import Derived.Test.YtiglakhfkgeefaaWhu
import Derived.Test.YtiglakhfkgeefaaPar
import Derived.Test.YtiglakhfkgeefaaEqb
import Derived.Deep.QuietTactic
import Derived.BigQuiet
import Derived.StillTailTactics
set_option linter.unusedSimpArgs false
set_option linter.unusedVariables false
namespace Go.Proofs.Ytiglakhfkgeefaa
open Go.Pth Go.Tre Go.RowKit Go.Word Go.Shelf Go.Mat
attribute [local go_sem] guard_eq guard_ne st_eql st_neq
theorem err_cases {sn tn : List Nd} {sf tf : List Fl} {ls : List Bt} (h1 : pairE sn sf tn tf = 0) (h2 : Stk.checkL (ls.map List.length) = 0) : errM sn sf tn tf ls = if z3 ∈ (matchL sn sf tn tf ls).1 then 32 else 0 := by
  obtain ⟨a, b⟩ := pairE_zero.1 h1
  unfold errM
  simp only [a, b, h2, if_true, ne_eq, not_true_eq_false, if_false]
theorem fresh_len (sf tf : List Fl) : (freshL sf tf).length ≤ tf.length := by
  have := frP_len (setP (txL (sf.map Fl.data))) (txL (tf.map Fl.data))
  have e : (txL (tf.map Fl.data)).length = tf.length := by unfold txL; rw [txTo_len, List.length_map]
  unfold freshL
  omega
theorem miss_of {sds tds ls : List Bt} {L : List Sr} {F : List Bt} (h : Whole sds tds ls L F) (hz : z3 ∈ L) : ∃ d ∈ F, d ∉ ls := by
  obtain ⟨j, hj, e⟩ := List.getElem_of_mem hz
  have hj2 : j < tds.length := by rw [← h.len]; exact hj
  have e1 : L.getD j z3 = z3 := by rw [List.getD_eq_getElem?_getD, List.getElem?_eq_getElem hj, Option.getD_some, e]
  rcases h.each j hj2 with ⟨_, h2, h3⟩ | ⟨g, h2, _⟩ | ⟨a, h2, _⟩ | ⟨r, h2, _⟩
  · exact ⟨_, (h.fresh _).2 ⟨h3, mem_getD.2 ⟨j, hj2, rfl⟩⟩, h2⟩
  · rw [e1] at h2; have := congrArg (fun y : Sr => y.1) h2; simp [z3] at this
  · rw [e1] at h2; have := congrArg (fun y : Sr => y.1) h2; simp [z3] at this
  · rw [e1] at h2; have := congrArg (fun y : Sr => y.1) h2; simp [z3] at this
theorem miss_no {sds tds ls : List Bt} {L : List Sr} {F : List Bt} (h : Whole sds tds ls L F) (hz : z3 ∉ L) : ¬ ∃ d ∈ F, d ∉ ls := by
  rintro ⟨d, hd, hdl⟩
  obtain ⟨h1, h2⟩ := (h.fresh d).1 hd
  obtain ⟨j, hj, e⟩ := mem_getD.1 h2
  have key : ∀ j, j < tds.length → tds.getD j [] = d → Kd (L.getD j z3) → False := fun j hj e hk => by
    rcases h.each j hj with ⟨q, _⟩ | ⟨g, _, q2, q3⟩ | ⟨a, q, _⟩ | ⟨r, _, q2, q3, _⟩
    · exact hz (getD_mem_z3 (by rw [h.len]; exact hj) q)
    · exact h1 (mem_getD.2 ⟨g, q2, by rw [q3, e]⟩)
    · rw [q] at hk; rcases hk with hk | hk <;> simp at hk
    · exact hdl (mem_getD.2 ⟨r, q2, by rw [q3, e]⟩)
  rcases h.each j hj with ⟨q, _⟩ | ⟨g, q, _⟩ | ⟨a, _, q2, _, q4, q5⟩ | ⟨r, q, _⟩
  · exact hz (getD_mem_z3 (by rw [h.len]; exact hj) q)
  · exact key j hj e (by rw [q]; exact .inl rfl)
  · exact key a q2 (by rw [q4, e]) q5
  · exact key j hj e (by rw [q]; exact .inr rfl)
set_option maxRecDepth 100000 in
set_option maxHeartbeats 16000000 in
theorem whole_law (NA FA MA GA LA : Option Addr) (nc fc mc gc lc : Nat) (ns ms : List Nd) (fs gs : List Fl) (ls : List Bt) (w : World) (hN : NodesAt w NA ns) (hF : FilesAt w FA fs) (hM : NodesAt w MA ms) (hG : FilesAt w GA gs) (hL : ListQ w LA ls)
    (h1 : Fits ns fs) (h2 : Fits ms gs) (h3 : FitsL ls) :
    Calls Try.prog 4 #[.agg #[.slice NA ns.length nc, .slice FA fs.length fc, .slice MA ms.length mc, .slice GA gs.length gc, .slice LA ls.length lc]] w fun e w' => e = .returned (.bool true) ∧ Below w.heap.size w w' := by
  have KM := Lib.hid (fun (W : World) (h : Below w.heap.size w W) => much_any NA FA MA GA LA nc fc mc gc lc ns ms fs gs ls W (nodesAt_below hN h) (filesAt_below hF h) (nodesAt_below hM h) (filesAt_below hG h) (listQ_below hL h) h1 h2 h3)
  have KO := Lib.hid (fun (W : World) (h : Below w.heap.size w W) (hs : Small ns fs) (ht : Small ms gs) (hl : SmallL ls) => match_ok NA FA MA GA LA nc fc mc gc lc ns ms fs gs ls W (nodesAt_below hN h) (filesAt_below hF h) (nodesAt_below hM h) (filesAt_below hG h) (listQ_below hL h) hs ht (by have := hl.1; omega) (fun x hx => by have := hl.2 x hx; omega))
  have KX := Lib.hid (fun (W : World) (h : Below w.heap.size w W) (hs : Small ns fs) (ht : Small ms gs) (hl : SmallL ls) => match_no NA FA MA GA LA nc fc mc gc lc ns ms fs gs ls W (nodesAt_below hN h) (filesAt_below hF h) (nodesAt_below hM h) (filesAt_below hG h) (listQ_below hL h) hs ht (by have := hl.1; omega) (fun x hx => by have := hl.2 x hx; omega))
  have FO := Lib.hid (fun (W : World) (h : Below w.heap.size w W) (hs : Small ns fs) (ht : Small ms gs) => fresh_ok NA FA MA GA nc fc mc gc ns ms fs gs W (nodesAt_below hN h) (filesAt_below hF h) (nodesAt_below hM h) (filesAt_below hG h) hs ht)
  have FX := Lib.hid (fun (W : World) (h : Below w.heap.size w W) (hs : Small ns fs) (ht : Small ms gs) => fresh_no NA FA MA GA nc fc mc gc ns ms fs gs W (nodesAt_below hN h) (filesAt_below hF h) (nodesAt_below hM h) (filesAt_below hG h) hs ht)
  have HNs := Lib.hid (fun (W : World) (h : Below w.heap.size w W) => nodesAt_below hN h)
  have HFs := Lib.hid (fun (W : World) (h : Below w.heap.size w W) => filesAt_below hF h)
  have HGs := Lib.hid (fun (W : World) (h : Below w.heap.size w W) => filesAt_below hG h)
  have KC := Lib.hid (fun (W : World) (h : Below w.heap.size w W) => refscheck_any LA lc (ls.map List.length) W (lensAt_of (listQ_below hL h)) (by intro m hm; obtain ⟨x, hx, rfl⟩ := List.mem_map.1 hm; exact h3.2 x hx))
  rw [List.length_map] at KC
  have KL := Lib.hid (fun (W : World) (h : Below w.heap.size w W) => listQ_below hL h)
  generalize hn : ns.length = n at *
  generalize hm : fs.length = m at *
  generalize hn2 : ms.length = n2 at *
  generalize hm2 : gs.length = m2 at *
  generalize hk : ls.length = k at *
  have NE := Lib.hid hn
  have ME := Lib.hid hm
  have NE2 := Lib.hid hn2
  have ME2 := Lib.hid hm2
  have LE := Lib.hid hk
  clear hN hF hM hG hL h1 h2 h3 hn hm hn2 hm2 hk
  have B0 := Lib.hid (show Below w.heap.size w (w.alloc (.cells #[.slice NA n nc, .slice FA m fc, .slice MA n2 mc, .slice GA m2 gc, .slice LA k lc] 28)) from (Below.refl _ _).alloc (Nat.le_refl _) _)
  have LX := Lib.hid (lies_new w 28 #[.slice NA n nc, .slice FA m fc, .slice MA n2 mc, .slice GA m2 gc, .slice LA k lc])
  go_enter Try.func4, Try.ntmps4
  go_upto_region 1 with (fail)
  generalize w.alloc (.cells #[.slice NA n nc, .slice FA m fc, .slice MA n2 mc, .slice GA m2 gc, .slice LA k lc] 28) = X at *
  have R5 : ∀ W, Lies W w.heap.size 28 #[.slice NA n nc, .slice FA m fc, .slice MA n2 mc, .slice GA m2 gc, .slice LA k lc] → Hid (W.rangeAt w.heap.size 0 [.slice NA n nc, .slice FA m fc, .slice MA n2 mc, .slice GA m2 gc, .slice LA k lc]) := fun W h => Lib.hid (five_range h)
  go_upto_region 2 with (go_at_call 9; (with_reducible refine (alive_any _).mono ?_); rintro e w1 ⟨rfl, hb⟩; have B1 := Lib.hid (B0.out.trans (hb.mono B0.out.size)); have L1 := Lib.hid (lies_below LX.out hb (lies_lt LX.out)); have Q1 := R5 _ L1.out; clear hb)
  go_upto_region 3 with (first
    | (refine wpList_load_mid rfl 28 _ rfl w.heap.size 0 rfl [.slice NA n nc, .slice FA m fc, .slice MA n2 mc, .slice GA m2 gc, .slice LA k lc] _ Q1.out Try.underlying28 rfl (by kernel_rfl) ?_)
    | (go_at_call 10; (with_reducible refine (KM.out _ B1.out).mono ?_); rintro e w2 ⟨⟨b, rfl, hs⟩, hb⟩; have B2 := Lib.hid (B1.out.trans (hb.mono B1.out.size)); have L2 := Lib.hid (lies_below L1.out hb (lies_lt L1.out)); have SB := Lib.hid hs; clear hb hs Q1))
  cases b with
  | true =>
    go_wp2
    go_ret
    exact ⟨rfl, B2.out⟩
  | false =>
    have S1 := Lib.hid (SB.out rfl)
    have P2 := Lib.hid (pair_range L2.out)
    clear SB KM
    by_cases hp : pairE ns fs ms gs ≠ 0
    · have he : errM ns fs ms gs ls ≠ 0 := fun e => hp (by obtain ⟨a, b, _, _⟩ := errM_zero.1 e; exact pairE_zero.2 ⟨a, b⟩)
      have HE := Lib.hid he
      have HP := Lib.hid hp
      obtain ⟨E1, hE1⟩ : ∃ E1, E1 = pairE ns fs ms gs := ⟨_, rfl⟩
      have hE2 : (E1 != 0) = true := by rw [hE1]; simpa using hp
      have hE3 : (E1 == 0) = false := by rw [hE1]; simpa using hp
      have F1 := Lib.hid (FX.out w2 B2.out S1.out.1 S1.out.2.1 HP.out)
      rw [← hE1] at F1
      clear he hp hE1 HP
      go_upto_region 6 with (first
        | (refine wpList_load_mid rfl 25 _ rfl w.heap.size 0 rfl [.slice NA n nc, .slice FA m fc] _ P2.out.1 Try.underlying25 rfl (by kernel_rfl) ?_)
        | (refine wpList_load_mid rfl 25 _ rfl w.heap.size 2 rfl [.slice MA n2 mc, .slice GA m2 gc] _ P2.out.2.1 Try.underlying25 rfl (by kernel_rfl) ?_)
        | (go_at_call 14; (with_reducible refine F1.out.mono ?_); rintro e w3 ⟨rfl, hb⟩; have B3 := Lib.hid (B2.out.trans (hb.mono B2.out.size)); have L3 := Lib.hid (lies_below L2.out hb (lies_lt L2.out)); clear hb))
      have P3 := Lib.hid (pair_range L3.out)
      have c4 := lies_cell L3.out 4
      simp only [List.getElem?_toArray, List.getElem?_cons_zero, List.getElem?_cons_succ] at c4
      go_upto_region 7 with (first
        | (refine wpList_load_mid rfl 25 _ rfl w.heap.size 0 rfl [.slice NA n nc, .slice FA m fc] _ P3.out.1 Try.underlying25 rfl (by kernel_rfl) ?_)
        | (refine wpList_load_mid rfl 25 _ rfl w.heap.size 2 rfl [.slice MA n2 mc, .slice GA m2 gc] _ P3.out.2.1 Try.underlying25 rfl (by kernel_rfl) ?_)
        | (go_at_call 13; (with_reducible refine (KX.out _ B3.out S1.out.1 S1.out.2.1 S1.out.2.2 HE.out).mono ?_); rintro e w4 ⟨⟨E, rfl, hE, _⟩, hb⟩; have B4 := Lib.hid (B3.out.trans (hb.mono B3.out.size)); clear hb))
      go_wp2_with (go_at_call 18; (with_reducible refine (num_any _ _).mono ?_); rintro e w5 ⟨rfl, rfl⟩)
      go_ret
      exact ⟨rfl, B4.out⟩
    have hp0 : pairE ns fs ms gs = 0 := Decidable.not_not.1 hp
    have HP := Lib.hid hp0
    clear hp
    have F1 := Lib.hid (FO.out w2 B2.out S1.out.1 S1.out.2.1 HP.out)
    obtain ⟨fr, hfr⟩ : ∃ fr, fr = freshL fs gs := ⟨_, rfl⟩
    have FRE := Lib.hid hfr
    rw [← hfr] at F1
    clear hp0 hfr
    go_upto_region 6 with (first
      | (refine wpList_load_mid rfl 25 _ rfl w.heap.size 0 rfl [.slice NA n nc, .slice FA m fc] _ P2.out.1 Try.underlying25 rfl (by kernel_rfl) ?_)
      | (refine wpList_load_mid rfl 25 _ rfl w.heap.size 2 rfl [.slice MA n2 mc, .slice GA m2 gc] _ P2.out.2.1 Try.underlying25 rfl (by kernel_rfl) ?_)
      | (go_at_call 14; (with_reducible refine F1.out.mono ?_); rintro e w3 ⟨⟨FrA, FrC, FrD, rfl, hfr⟩, hb⟩; have B3 := Lib.hid (B2.out.trans (hb.mono B2.out.size)); have L3 := Lib.hid (lies_below L2.out hb (lies_lt L2.out)); have FR3 := Lib.hid hfr; clear hb hfr))
    have P3 := Lib.hid (pair_range L3.out)
    have c4 := lies_cell L3.out 4
    simp only [List.getElem?_toArray, List.getElem?_cons_zero, List.getElem?_cons_succ] at c4
    have QL3 := Lib.hid (show ListQ w3 FrA fr from by
      obtain ⟨C, cc, e, hq⟩ := frRow_listQ FR3.out
      injection e with e1 e2 e3
      rw [e1]
      exact hq)
    clear F1 FR3
    by_cases hck : Stk.checkL (ls.map List.length) ≠ 0
    · have he : errM ns fs ms gs ls ≠ 0 := fun e => hck (errM_zero.1 e).2.2.1
      have HE := Lib.hid he
      obtain ⟨E2, hE2⟩ : ∃ E2, E2 = Stk.checkL (ls.map List.length) := ⟨_, rfl⟩
      have hE3 : (E2 != 0) = true := by rw [hE2]; simpa using hck
      rw [← hE2] at KC
      clear he hck hE2
      go_upto_region 7 with (first
        | (refine wpList_load_mid rfl 25 _ rfl w.heap.size 0 rfl [.slice NA n nc, .slice FA m fc] _ P3.out.1 Try.underlying25 rfl (by kernel_rfl) ?_)
        | (refine wpList_load_mid rfl 25 _ rfl w.heap.size 2 rfl [.slice MA n2 mc, .slice GA m2 gc] _ P3.out.2.1 Try.underlying25 rfl (by kernel_rfl) ?_)
        | (go_at_call 13; (with_reducible refine (KX.out _ B3.out S1.out.1 S1.out.2.1 S1.out.2.2 HE.out).mono ?_); rintro e w4 ⟨⟨E, rfl, hE, _⟩, hb⟩; have B4 := Lib.hid (B3.out.trans (hb.mono B3.out.size)); have L4 := Lib.hid (lies_below L3.out hb (lies_lt L3.out)); clear hb))
      have c5 := lies_cell L4.out 4
      simp only [List.getElem?_toArray, List.getElem?_cons_zero, List.getElem?_cons_succ] at c5
      have KC4 := Lib.hid (KC.out w4 B4.out)
      go_wp2_with (first
        | (go_at_call 18; (with_reducible refine (num_any _ _).mono ?_); rintro e w5 ⟨rfl, rfl⟩)
        | (go_at_call 22; (with_reducible refine KC4.out.mono ?_); rintro e w5 ⟨rfl, rfl⟩))
      go_ret
      exact ⟨rfl, B4.out⟩
    have hck0 : Stk.checkL (ls.map List.length) = 0 := Decidable.not_not.1 hck
    rw [hck0] at KC
    have HM := Lib.hid (err_cases HP.out hck0)
    clear hck hck0
    have WH := Lib.hid (whole_match ns ms fs gs ls (by have := S1.out.2.1.2.1; omega) (by have := S1.out.1.2.1; omega) (fun x hx => by have := S1.out.2.1.2.2.2 x hx; omega) (fun x hx => by have := S1.out.1.2.2.2 x hx; omega) (by have := S1.out.2.2.1; omega))
    rw [← FRE.out] at WH
    have frB : fr.length ≤ 300 := by have h1 := fresh_len fs gs; have h2 := S1.out.2.1.2.1; have h3 := FRE.out; rw [h3]; omega
    by_cases hz : z3 ∈ (matchL ns fs ms gs ls).1
    · have e32 : errM ns fs ms gs ls = 32 := by rw [HM.out, if_pos hz]
      have HE := Lib.hid (show errM ns fs ms gs ls ≠ 0 by rw [e32]; decide)
      have E32 := Lib.hid e32
      have ME3 := Lib.hid (miss_of WH.out hz)
      clear e32 hz
      go_upto_region 7 with (first
        | (refine wpList_load_mid rfl 25 _ rfl w.heap.size 0 rfl [.slice NA n nc, .slice FA m fc] _ P3.out.1 Try.underlying25 rfl (by kernel_rfl) ?_)
        | (refine wpList_load_mid rfl 25 _ rfl w.heap.size 2 rfl [.slice MA n2 mc, .slice GA m2 gc] _ P3.out.2.1 Try.underlying25 rfl (by kernel_rfl) ?_)
        | (go_at_call 13; (with_reducible refine (KX.out _ B3.out S1.out.1 S1.out.2.1 S1.out.2.2 HE.out).mono ?_); rintro e w4 ⟨⟨E, rfl, _, hE⟩, hb⟩; have HEE := Lib.hid hE; have B4 := Lib.hid (B3.out.trans (hb.mono B3.out.size)); have L4 := Lib.hid (lies_below L3.out hb (lies_lt L3.out)); have BB4 := Lib.hid hb; clear hb hE))
      have hE32 : E = 32 := by rw [HEE.out]; exact E32.out
      subst hE32
      have c5 := lies_cell L4.out 4
      simp only [List.getElem?_toArray, List.getElem?_cons_zero, List.getElem?_cons_succ] at c5
      have KC4 := Lib.hid (KC.out w4 B4.out)
      have QL4 := Lib.hid (listQ_below QL3.out BB4.out)
      have LS4 := Lib.hid (KL.out w4 B4.out)
      have lsB : k ≤ 1000000 := by have := S1.out.2.2.1; have := LE.out; omega
      go_wp2_with (first
        | (go_at_call 18; (with_reducible refine (num_any _ _).mono ?_); rintro e w5 ⟨rfl, rfl⟩)
        | (go_at_call 22; (with_reducible refine KC4.out.mono ?_); rintro e w5 ⟨rfl, rfl⟩))
      go_loopw [9, 10] (fun v9 v10 wr => ∃ (i : Nat) (lk : Bool), i ≤ fr.length ∧ v10 = .int .i64 (i : Int) ∧ v9 = .bool lk ∧ (lk = true ↔ ∃ d ∈ fr.take i, d ∉ ls) ∧ Below w4.heap.size w4 wr) (fun _ v10 _ => fr.length - (intOf v10).toNat)
      case atStart => exact ⟨0, false, Nat.zero_le _, rfl, rfl, by simp, Below.refl _ _⟩
      case round =>
        obtain ⟨i, lk, hi, rfl, rfl, hlk, hb⟩ := hrel
        have HB := Lib.hid hb
        have LK := Lib.hid hlk
        have c6 := lies_cell (lies_below L4.out hb (lies_lt L4.out)) 4
        simp only [List.getElem?_toArray, List.getElem?_cons_zero, List.getElem?_cons_succ] at c6
        clear hb hlk
        by_cases hlt : i < fr.length
        · have li : (i : Int) < (fr.length : Int) := by omega
          have ST := Lib.hid (List.take_succ_eq_append_getElem hlt)
          cases lk with
          | true =>
            have NX := Lib.hid (show ∃ d ∈ fr.take (i + 1), d ∉ ls from by
              obtain ⟨d, h1, h2⟩ := LK.out.1 (by first | rfl | trivial)
              exact ⟨d, by rw [ST.out]; exact List.mem_append_left _ h1, h2⟩)
            go_upto_region 13 with (fail)
            go_quiet (fail)
            go_wp2
            go_roundw
            case rel => exact ⟨i + 1, true, by omega, by go_num, rfl, ⟨fun _ => NX.out, fun _ => rfl⟩, below_drewN HB.out _⟩
            case measure => first | (simp [intOf]; done) | (simp [intOf]; omega)
          | false =>
            obtain ⟨b, o, DA, dc, eA, hl, d1, hby⟩ := QL4.out i hlt
            have d2 := (HB.out.cell (p := ⟨b, o + i, none⟩) hl).trans d1
            have RF := fun q => reffind_any LA DA lc dc ls fr[i] (wr.drewN q) (listQ_below LS4.out (below_drewN HB.out q)) (bytesAt_below hby (below_drewN HB.out q)) (by have := LE.out; omega)
            rw [LE.out] at RF
            have NO := Lib.hid (show ¬ ∃ d ∈ fr.take i, d ∉ ls from fun h => by have := LK.out.2 h; cases this)
            have NX := Lib.hid (show (fr[i] ∉ ls ↔ ∃ d ∈ fr.take (i + 1), d ∉ ls) from by
              rw [ST.out]
              constructor
              · intro h; exact ⟨fr[i], List.mem_append_right _ (List.mem_singleton.2 rfl), h⟩
              · rintro ⟨d, h1, h2⟩
                rcases List.mem_append.1 h1 with h1 | h1
                · exact absurd ⟨d, h1, h2⟩ NO.out
                · rw [List.mem_singleton] at h1; subst h1; exact h2)
            have RQ := fun q => Lib.hid (RF q)
            subst eA
            clear d1 hby RF hl
            generalize fr[i] = dd at *
            generalize dd.length = dl at *
            obtain ⟨z, hz⟩ : ∃ z, z = Stk.find ls dd := ⟨_, rfl⟩
            have ZE := Lib.hid hz
            rw [← hz] at RQ
            clear hz
            by_cases hm : dd ∈ ls
            · have hz0 : ¬ z < 0 := by rw [ZE.out, Stk.find_yes hm]; omega
              have NX2 := Lib.hid (show ¬ ∃ d ∈ fr.take (i + 1), d ∉ ls from fun h => NX.out.2 h hm)
              clear hm NX
              go_upto_region 13 with (fail)
              go_quiet ((go_at_call 23; exact Calls.quiet_of (RQ _).out))
              clear RQ
              go_wp2
              go_roundw
              case rel => exact ⟨i + 1, false, by omega, by go_num, rfl, ⟨fun h => (by cases h), fun h => absurd h NX2.out⟩, below_drewN HB.out _⟩
              case measure => first | (simp [intOf]; done) | (simp [intOf]; omega)
            · have hz0 : z < 0 := by rw [ZE.out, Stk.find_no hm]; omega
              have NX2 := Lib.hid (NX.out.1 hm)
              clear hm NX
              go_upto_region 13 with (fail)
              go_quiet ((go_at_call 23; exact Calls.quiet_of (RQ _).out))
              clear RQ
              go_wp2
              go_roundw
              case rel => exact ⟨i + 1, true, by omega, by go_num, rfl, ⟨fun _ => NX2.out, fun _ => rfl⟩, below_drewN HB.out _⟩
              case measure => first | (simp [intOf]; done) | (simp [intOf]; omega)
        · have hif : i = fr.length := by omega
          have li : ¬ (i : Int) < (fr.length : Int) := by omega
          have LL := Lib.hid (show lk = true ↔ ∃ d ∈ fr, d ∉ ls from by
            have := LK.out
            rwa [hif, List.take_length] at this)
          clear LK
          have hl1 : lk = true := LL.out.2 ME3.out
          subst hl1
          go_wp2_with (go_at_call 18; (with_reducible refine (num_any _ _).mono ?_); rintro e w6 ⟨rfl, rfl⟩)
          go_ret
          exact ⟨rfl, B4.out.trans (HB.out.mono B4.out.size)⟩
    · have e0 : errM ns fs ms gs ls = 0 := by rw [HM.out, if_neg hz]
      have HE := Lib.hid e0
      have ME3 := Lib.hid (miss_no WH.out hz)
      have NZ := Lib.hid hz
      clear e0 hz
      go_upto_region 7 with (first
        | (refine wpList_load_mid rfl 25 _ rfl w.heap.size 0 rfl [.slice NA n nc, .slice FA m fc] _ P3.out.1 Try.underlying25 rfl (by kernel_rfl) ?_)
        | (refine wpList_load_mid rfl 25 _ rfl w.heap.size 2 rfl [.slice MA n2 mc, .slice GA m2 gc] _ P3.out.2.1 Try.underlying25 rfl (by kernel_rfl) ?_)
        | (go_at_call 13; (with_reducible refine (KO.out _ B3.out S1.out.1 S1.out.2.1 S1.out.2.2 HE.out).mono ?_); rintro e w4 ⟨⟨gl, rfl, hgl⟩, hb⟩; have GL := Lib.hid hgl; have B4 := Lib.hid (B3.out.trans (hb.mono B3.out.size)); have L4 := Lib.hid (lies_below L3.out hb (lies_lt L3.out)); have BB4 := Lib.hid hb; clear hb hgl))
      have c5 := lies_cell L4.out 4
      simp only [List.getElem?_toArray, List.getElem?_cons_zero, List.getElem?_cons_succ] at c5
      have KC4 := Lib.hid (KC.out w4 B4.out)
      have QL4 := Lib.hid (listQ_below QL3.out BB4.out)
      have LS4 := Lib.hid (KL.out w4 B4.out)
      have lsB : k ≤ 1000000 := by have := S1.out.2.2.1; have := LE.out; omega
      go_wp2_with (first
        | (go_at_call 18; (with_reducible refine (num_any _ _).mono ?_); rintro e w5 ⟨rfl, rfl⟩)
        | (go_at_call 22; (with_reducible refine KC4.out.mono ?_); rintro e w5 ⟨rfl, rfl⟩))
      go_loopw [9, 10] (fun v9 v10 wr => ∃ (i : Nat) (lk : Bool), i ≤ fr.length ∧ v10 = .int .i64 (i : Int) ∧ v9 = .bool lk ∧ (lk = true ↔ ∃ d ∈ fr.take i, d ∉ ls) ∧ Below w4.heap.size w4 wr) (fun _ v10 _ => fr.length - (intOf v10).toNat)
      case atStart => exact ⟨0, false, Nat.zero_le _, rfl, rfl, by simp, Below.refl _ _⟩
      case round =>
        obtain ⟨i, lk, hi, rfl, rfl, hlk, hb⟩ := hrel
        have HB := Lib.hid hb
        have LK := Lib.hid hlk
        have c6 := lies_cell (lies_below L4.out hb (lies_lt L4.out)) 4
        simp only [List.getElem?_toArray, List.getElem?_cons_zero, List.getElem?_cons_succ] at c6
        clear hb hlk
        by_cases hlt : i < fr.length
        · have li : (i : Int) < (fr.length : Int) := by omega
          have ST := Lib.hid (List.take_succ_eq_append_getElem hlt)
          cases lk with
          | true =>
            have NX := Lib.hid (show ∃ d ∈ fr.take (i + 1), d ∉ ls from by
              obtain ⟨d, h1, h2⟩ := LK.out.1 (by first | rfl | trivial)
              exact ⟨d, by rw [ST.out]; exact List.mem_append_left _ h1, h2⟩)
            go_upto_region 13 with (fail)
            go_quiet (fail)
            go_wp2
            go_roundw
            case rel => exact ⟨i + 1, true, by omega, by go_num, rfl, ⟨fun _ => NX.out, fun _ => rfl⟩, below_drewN HB.out _⟩
            case measure => first | (simp [intOf]; done) | (simp [intOf]; omega)
          | false =>
            obtain ⟨b, o, DA, dc, eA, hl, d1, hby⟩ := QL4.out i hlt
            have d2 := (HB.out.cell (p := ⟨b, o + i, none⟩) hl).trans d1
            have RF := fun q => reffind_any LA DA lc dc ls fr[i] (wr.drewN q) (listQ_below LS4.out (below_drewN HB.out q)) (bytesAt_below hby (below_drewN HB.out q)) (by have := LE.out; omega)
            rw [LE.out] at RF
            have NO := Lib.hid (show ¬ ∃ d ∈ fr.take i, d ∉ ls from fun h => by have := LK.out.2 h; cases this)
            have NX := Lib.hid (show (fr[i] ∉ ls ↔ ∃ d ∈ fr.take (i + 1), d ∉ ls) from by
              rw [ST.out]
              constructor
              · intro h; exact ⟨fr[i], List.mem_append_right _ (List.mem_singleton.2 rfl), h⟩
              · rintro ⟨d, h1, h2⟩
                rcases List.mem_append.1 h1 with h1 | h1
                · exact absurd ⟨d, h1, h2⟩ NO.out
                · rw [List.mem_singleton] at h1; subst h1; exact h2)
            have RQ := fun q => Lib.hid (RF q)
            subst eA
            clear d1 hby RF hl
            generalize fr[i] = dd at *
            generalize dd.length = dl at *
            obtain ⟨z, hz⟩ : ∃ z, z = Stk.find ls dd := ⟨_, rfl⟩
            have ZE := Lib.hid hz
            rw [← hz] at RQ
            clear hz
            by_cases hm : dd ∈ ls
            · have hz0 : ¬ z < 0 := by rw [ZE.out, Stk.find_yes hm]; omega
              have NX2 := Lib.hid (show ¬ ∃ d ∈ fr.take (i + 1), d ∉ ls from fun h => NX.out.2 h hm)
              clear hm NX
              go_upto_region 13 with (fail)
              go_quiet ((go_at_call 23; exact Calls.quiet_of (RQ _).out))
              clear RQ
              go_wp2
              go_roundw
              case rel => exact ⟨i + 1, false, by omega, by go_num, rfl, ⟨fun h => (by cases h), fun h => absurd h NX2.out⟩, below_drewN HB.out _⟩
              case measure => first | (simp [intOf]; done) | (simp [intOf]; omega)
            · have hz0 : z < 0 := by rw [ZE.out, Stk.find_no hm]; omega
              have NX2 := Lib.hid (NX.out.1 hm)
              clear hm NX
              go_upto_region 13 with (fail)
              go_quiet ((go_at_call 23; exact Calls.quiet_of (RQ _).out))
              clear RQ
              go_wp2
              go_roundw
              case rel => exact ⟨i + 1, true, by omega, by go_num, rfl, ⟨fun _ => NX2.out, fun _ => rfl⟩, below_drewN HB.out _⟩
              case measure => first | (simp [intOf]; done) | (simp [intOf]; omega)
        · have hif : i = fr.length := by omega
          have li : ¬ (i : Int) < (fr.length : Int) := by omega
          have LL := Lib.hid (show lk = true ↔ ∃ d ∈ fr, d ∉ ls from by
            have := LK.out
            rwa [hif, List.take_length] at this)
          clear LK
          have hl1 : lk = false := by
            cases lk with
            | false => rfl
            | true => exact absurd (LL.out.1 rfl) ME3.out
          subst hl1
          go_upto_region 16 with (go_at_call 18; (with_reducible refine (num_any _ _).mono ?_); rintro e w6 ⟨rfl, rfl⟩)
          generalize wr = X9 at *
          have BX := Lib.hid (show Below w.heap.size w X9 from B4.out.trans (HB.out.mono B4.out.size))
          have L9 := Lib.hid (lies_below L4.out HB.out (lies_lt L4.out))
          have c9 := lies_cell L9.out 1
          simp only [List.getElem?_toArray, List.getElem?_cons_zero, List.getElem?_cons_succ] at c9
          have mB : m ≤ 300 := by have := S1.out.1.2.1; have := ME.out; omega
          have m2B : m2 ≤ 300 := by have := S1.out.2.1.2.1; have := ME2.out; omega
          have MD := made_bools X9 m (by omega)
          have UL := lies_new X9 4 (madeCells #[.bool false] m)
          have BU := Lib.hid ((Below.refl X9.heap.size X9).alloc (Nat.le_refl _) (.cells (madeCells #[.bool false] m) 4))
          have U0 := Lib.hid (show (madeCells #[.bool false] m).size = m ∧ ∀ g, g < m → (madeCells #[.bool false] m)[g]? = some (.bool false) from ⟨size_madeCells _ _, fun g hg => by simp [madeCells, hg, Nat.mod_one]⟩)
          obtain ⟨U, hU⟩ : ∃ U, U = X9.heap.size := ⟨_, rfl⟩
          rw [← hU] at MD UL BU
          have UE := Lib.hid hU
          have GL9 := srcR_below GL.out (Nat.le_refl _) HB.out
          obtain ⟨L, hL⟩ : ∃ L, L = (matchL ns fs ms gs ls).1 := ⟨_, rfl⟩
          rw [← hL] at GL9 WH NZ
          have GL9 := Lib.hid GL9
          replace UL := Lib.hid UL
          clear hU hL GL KC KO KX FO HM QL3 QL4 LS4 KC4 ME3 LL c5 c6
          go_wp2
          generalize X9.alloc (.cells (madeCells #[.bool false] m) 4) = XU at *
          generalize madeCells #[.bool false] m = us0 at *
          clear MD c9
          go_loopw [12, 13] (fun v12 v13 wr => ∃ (i : Nat) (us : Array Value), i ≤ m2 ∧ v13 = .int .i64 (i : Int) ∧ v12 = .int .i64 ((cnt3 (L.take i) : Nat) : Int) ∧ Lies wr U 4 us ∧ us.size = m ∧ (∀ g, g < m → us[g]? = some (.bool (decide (∃ j, j < i ∧ L.getD j z3 = ((1, (g : Int), 0) : Sr))))) ∧ Below U X9 wr) (fun _ v13 _ => m2 - (intOf v13).toNat)
          case atStart => exact ⟨0, us0, Nat.zero_le _, rfl, rfl, UL.out, U0.out.1, fun g hg => by rw [U0.out.2 g hg]; simp, BU.out⟩
          case round =>
            obtain ⟨i, us, hi, rfl, rfl, hul, husz, hus, hb⟩ := hrel
            have HBU := Lib.hid (show Below X9.heap.size X9 wr by rw [← UE.out]; exact hb)
            have HUL := Lib.hid hul
            have HUS := Lib.hid hus
            have LW := Lib.hid (lies_below L9.out HBU.out (lies_lt L9.out))
            have y1 := lies_cell LW.out 1
            have y3 := lies_cell LW.out 3
            have y4 := lies_cell LW.out 4
            simp only [List.getElem?_toArray, List.getElem?_cons_zero, List.getElem?_cons_succ] at y1 y3 y4
            have BW := Lib.hid (BX.out.trans (HBU.out.mono BX.out.size))
            have cle : cnt3 (L.take i) ≤ 300 := by
              have h1 : cnt3 (L.take i) ≤ (L.take i).length := List.countP_le_length
              rw [List.length_take] at h1
              omega
            clear hul hus hb
            by_cases hlt : i < m2
            · have li : (i : Int) < (m2 : Int) := by omega
              have lf : i < gs.length := by have := ME2.out; omega
              have lL : i < L.length := by rw [WH.out.len, List.length_map]; exact lf
              have hiT : i < (gs.map Fl.data).length := by rw [List.length_map]; exact lf
              obtain ⟨GA7, go7, DB, dd, eG, hlG, dG1, dG2, hbyG⟩ := HGs.out wr BW.out i lf
              have CVT := Lib.hid (fun (a : Nat) (ha : a < gs.length) => run_text47 (Classical.choose (Classical.choose_spec (Classical.choose_spec (HGs.out wr BW.out a ha)))) gs[a].data (Classical.choose (Classical.choose_spec (Classical.choose_spec (Classical.choose_spec (HGs.out wr BW.out a ha))))) wr (Classical.choose_spec (Classical.choose_spec (Classical.choose_spec (Classical.choose_spec (HGs.out wr BW.out a ha))))).2.2.2.2)
              clear CVT
              have cv2 := run_text47 DB gs[i].data dd wr hbyG
              have SR := Lib.hid (fun (a : Nat) (ha : a < L.length) => srcR_at (srcR_below GL9.out (Nat.le_refl _) HBU.out) a ha)
              have r0 := SR.out i lL
              have DE : (gs.map Fl.data).getD i [] = gs[i].data := by simp [List.getD_eq_getElem?_getD, lf]
              have DEH := Lib.hid DE
              have EL : L.getD i z3 = L[i] := by rw [List.getD_eq_getElem?_getD, List.getElem?_eq_getElem lL, Option.getD_some]
              have TK := Lib.hid (show L.take (i + 1) = L.take i ++ [L.getD i z3] by rw [EL]; exact List.take_succ_eq_append_getElem lL)
              rw [← EL] at r0
              have EACH := Lib.hid (WH.out.each i hiT)
              have ONCE := Lib.hid (fun j (hj : j < i) g (h1 : L.getD i z3 = ((1, g, 0) : Sr)) (h2 : L.getD j z3 = ((1, g, 0) : Sr)) => (show False from by
                have := WH.out.once i j hiT (by omega) g h1 h2
                omega))
              rw [DE] at EACH
              have NZI := Lib.hid (show L.getD i z3 ≠ z3 from fun e => NZ.out (getD_mem_z3 lL e))
              have cG := fun (a : Nat) (ha : a < gs.length) => HGs.out wr BW.out a ha
              have cF := fun (a : Nat) (ha : a < fs.length) => HFs.out wr BW.out a ha
              subst eG
              clear dG1 hbyG DE EL
              generalize hSr : L.getD i z3 = sr at *
              have SRE := Lib.hid hSr
              clear hSr
              generalize hdd : gs[i].data = d at *
              have DD := Lib.hid hdd
              clear hdd
              rcases EACH.out with ⟨q, _⟩ | ⟨g, q, q2, q3⟩ | ⟨a, q, q2, q3, q4, q5⟩ | ⟨r, q, q2, q3, q4⟩
              · exact absurd q NZI.out
              · subst q
                have lgf : g < fs.length := by simpa using q2
                have lgm : g < m := by have := ME.out; omega
                have E1 : fs[g].data = d := by
                  have := q3
                  simpa [List.getD_eq_getElem?_getD, lgf] using this
                obtain ⟨FA7, fo7, DA, dc, eF, hlF, dF1, dF2, hbyF⟩ := cF g lgf
                have cv1 := run_text47 DA fs[g].data dc wr hbyF
                rw [E1] at dF2 cv1
                subst eF
                have x0 := r0 0 _ rfl
                have x1 := r0 1 _ rfl
                have x2 := r0 2 _ rfl
                simp only [Nat.add_zero] at x0 x1 x2
                have nu : ¬ ∃ j, j < i ∧ L.getD j z3 = ((1, (g : Int), 0) : Sr) := fun ⟨j, h1, h2⟩ => ONCE.out j h1 g rfl h2
                have u0 : wr.cell? ⟨U, g, none⟩ = some (.bool false) := by
                  rw [lies_cell HUL.out g, HUS.out g lgm, decide_eq_false nu]
                have uz := lies_free HUL.out g
                have g1 : ¬ ((g : Int) < 0) := by omega
                have g2 : ¬ ((m : Int) ≤ (g : Int)) := by omega
                have g3 : (g : Int) < (m : Int) := by omega
                have no : other d d = false := decide_eq_false (by simp)
                have C1 := Lib.hid (show cnt3 (L.take (i + 1)) = cnt3 (L.take i) by rw [TK.out]; unfold cnt3; rw [List.countP_append]; simp)
                have US2 := Lib.hid (show ∀ g', g' < m → (us.setIfInBounds g (.bool true))[g']? = some (.bool (decide (∃ j, j < i + 1 ∧ L.getD j z3 = ((1, (g' : Int), 0) : Sr)))) from fun g' hg' => by
                  by_cases e : g' = g
                  · subst e
                    rw [Array.getElem?_setIfInBounds_self_of_lt (by omega), decide_eq_true ⟨i, by omega, SRE.out⟩]
                  · rw [Array.getElem?_setIfInBounds_ne (Ne.symm e), HUS.out g' hg']
                    congr 2
                    apply decide_eq_decide.2
                    constructor
                    · rintro ⟨j, h1, h2⟩; exact ⟨j, by omega, h2⟩
                    · rintro ⟨j, h1, h2⟩
                      by_cases ej : j = i
                      · subst ej
                        rw [SRE.out] at h2
                        injection h2 with _ h2
                        injection h2 with h2 _
                        omega
                      · exact ⟨j, by omega, h2⟩)
                have UZ2 := Lib.hid (show (us.setIfInBounds g (.bool true)).size = m by simp [husz])
                have UL2 := Lib.hid (lies_set HUL.out g (.bool true))
                have UB2 := Lib.hid (show Below U X9 (wr.setCell ⟨U, g, none⟩ (.bool true)) from below_setCell (p := ⟨U, g, none⟩) (by rw [UE.out]; exact HBU.out) (Nat.le_refl _) _)
                clear cG cF EACH nu q2 q3 dF1 hbyF hlF hlG r0 E1
                go_wp2
                go_roundw
                case rel => exact ⟨i + 1, _, by omega, by go_num, by rw [C1.out], UL2.out, UZ2.out, US2.out, UB2.out⟩
                case measure => first | (simp [intOf]; done) | (simp [intOf]; omega)
              · subst q
                have laf : a < gs.length := by simpa using q2
                have lam : a < m2 := by have := ME2.out; omega
                have laL : a < L.length := by rw [WH.out.len, List.length_map]; exact laf
                have E1 : gs[a].data = d := by
                  have := q4
                  simp only [List.getD_eq_getElem?_getD, List.getElem?_map, List.getElem?_eq_getElem laf, Option.map_some, Option.getD_some] at this
                  rw [this]
                obtain ⟨GA8, go8, DC, de, eG2, hlG2, dG3, dG4, hbyG2⟩ := cG a laf
                have cv1 := run_text47 DC gs[a].data de wr hbyG2
                rw [E1] at dG4 cv1
                injection eG2 with eG2
                injection eG2 with e1 e2 _
                subst e1 e2
                have x0 := r0 0 _ rfl
                have x1 := r0 1 _ rfl
                have x2 := r0 2 _ rfl
                simp only [Nat.add_zero] at x0 x1 x2
                have ra := SR.out a laL 0 _ rfl
                simp only [Nat.add_zero] at ra
                obtain ⟨ka, hka⟩ : ∃ ka, ka = L[a].1 := ⟨_, rfl⟩
                have kne : (ka == 2) = false := by
                  have EA : L.getD a z3 = L[a] := by rw [List.getD_eq_getElem?_getD, List.getElem?_eq_getElem laL, Option.getD_some]
                  rw [EA] at q5
                  rw [hka]
                  rcases q5 with h | h <;> rw [h] <;> rfl
                rw [← hka] at ra
                have g1 : ¬ ((a : Int) < 0) := by omega
                have g2 : ¬ ((m2 : Int) ≤ (a : Int)) := by omega
                have g3 : (a : Int) < (m2 : Int) := by omega
                have g4 : ((a : Int) == (i : Int)) = false := by simp only [beq_eq_false_iff_ne]; omega
                have no : other d d = false := decide_eq_false (by simp)
                have C1 := Lib.hid (show cnt3 (L.take (i + 1)) = cnt3 (L.take i) by rw [TK.out]; unfold cnt3; rw [List.countP_append]; simp)
                have US2 := Lib.hid (show ∀ g', g' < m → us[g']? = some (.bool (decide (∃ j, j < i + 1 ∧ L.getD j z3 = ((1, (g' : Int), 0) : Sr)))) from fun g' hg' => by
                  rw [HUS.out g' hg']
                  congr 2
                  apply decide_eq_decide.2
                  constructor
                  · rintro ⟨j, h1, h2⟩; exact ⟨j, by omega, h2⟩
                  · rintro ⟨j, h1, h2⟩
                    by_cases ej : j = i
                    · subst ej
                      rw [SRE.out] at h2
                      injection h2 with h2 _
                      cases h2
                    · exact ⟨j, by omega, h2⟩)
                have UB2 := Lib.hid (show Below U X9 wr by rw [UE.out]; exact HBU.out)
                clear cG cF EACH q2 q3 q4 q5 dG3 hbyG2 hlG2 hlG r0 E1 hka
                go_wp2
                go_roundw
                case rel => exact ⟨i + 1, us, by omega, by go_num, by rw [C1.out], HUL.out, husz, US2.out, UB2.out⟩
                case measure => first | (simp [intOf]; done) | (simp [intOf]; omega)
              · subst q
                have lrk : r < k := by have := LE.out; omega
                have E1 : ls[r] = d := by
                  have := q3
                  rw [List.getD_eq_getElem?_getD, List.getElem?_eq_getElem q2, Option.getD_some] at this
                  exact this
                obtain ⟨LA7, lo7, DC, de, eL, hlL, dL1, hbyL⟩ := KL.out wr BW.out r q2
                have cv3 := fun q => run_text47 DC ls[r] de (wr.drewN q) (bytesAt_below hbyL (below_drewN (Below.refl _ _) q))
                rw [E1] at dL1 cv3
                subst eL
                have x0 := r0 0 _ rfl
                have x1 := r0 1 _ rfl
                have x2 := r0 2 _ rfl
                simp only [Nat.add_zero] at x0 x1 x2
                have g1 : ¬ ((r : Int) < 0) := by omega
                have g2 : ¬ ((k : Int) ≤ (r : Int)) := by omega
                have g3 : (r : Int) < (k : Int) := by omega
                have no : other d d = false := decide_eq_false (by simp)
                have C1 := Lib.hid (show cnt3 (L.take (i + 1)) = cnt3 (L.take i) + 1 by rw [TK.out]; unfold cnt3; rw [List.countP_append]; simp)
                have US2 := Lib.hid (show ∀ g', g' < m → us[g']? = some (.bool (decide (∃ j, j < i + 1 ∧ L.getD j z3 = ((1, (g' : Int), 0) : Sr)))) from fun g' hg' => by
                  rw [HUS.out g' hg']
                  congr 2
                  apply decide_eq_decide.2
                  constructor
                  · rintro ⟨j, h1, h2⟩; exact ⟨j, by omega, h2⟩
                  · rintro ⟨j, h1, h2⟩
                    by_cases ej : j = i
                    · subst ej
                      rw [SRE.out] at h2
                      injection h2 with h2 _
                      cases h2
                    · exact ⟨j, by omega, h2⟩)
                have DNI := Lib.hid (show ∀ (j : Nat) (h : j < fs.length), same fs[j].data d = false from fun j h => decide_eq_false (fun e => q4 (by rw [← e]; exact List.mem_map_of_mem (List.getElem_mem h))))
                clear cG cF EACH q2 q3 q4 hlG hlL hbyL r0 E1
                go_upto_region 34 with (fail)
                go_quiet (fail)
                have B10 := Lib.hid (below_drewN HBU.out nq)
                have UL10 := Lib.hid (show Lies (wr.drewN nq) U 4 us from HUL.out)
                have L10 := Lib.hid (show Lies (wr.drewN nq) w.heap.size 28 #[.slice NA n nc, .slice FA m fc, .slice MA n2 mc, .slice (some ⟨GA7, go7, none⟩) m2 gc, .slice (some ⟨LA7, lo7, none⟩) k lc] from LW.out)
                have y1' : (wr.drewN nq).cell? ⟨w.heap.size, 1, none⟩ = some (.slice FA m fc) := y1
                have BW10 := Lib.hid (below_drewN BW.out nq)
                clear cv3 HBU HUL LW y1 y3 y4 BW SR cv2 dG2 dL1 x0 x1 x2
                generalize wr.drewN nq = X10 at *
                have wa : wrap64 (((cnt3 (L.take i) : Nat) : Int) + 1) = ((cnt3 (L.take i) : Nat) : Int) + 1 := wrap_big _ (by omega)
                obtain ⟨cc, hcc⟩ : ∃ cc, cc = cnt3 (L.take i) := ⟨_, rfl⟩
                have CCE := Lib.hid hcc
                rw [← hcc] at wa cle
                rw [← hcc]
                clear hcc
                go_wp2
                go_loopw [17] (fun v17 wr => ∃ j : Nat, j ≤ m ∧ v17 = .int .i64 (j : Int) ∧ wr = X10) (fun v17 _ => m - (intOf v17).toNat)
                case atStart => exact ⟨0, Nat.zero_le _, rfl, rfl⟩
                case round =>
                  obtain ⟨j, hj, rfl, rfl⟩ := hrel
                  by_cases hlt3 : j < m
                  · have li3 : (j : Int) < (m : Int) := by omega
                    have ljf : j < fs.length := by have := ME.out; omega
                    obtain ⟨FA8, fo8, DF, df, eF, hlF, dF1, dF2, hbyF⟩ := HFs.out wr BW10.out j ljf
                    have cv4 := run_text47 DF fs[j].data df wr hbyF
                    have sj := DNI.out j ljf
                    subst eF
                    clear dF1 hbyF hlF
                    generalize fs[j].data = fd at *
                    go_wp2
                    go_roundw
                    case rel => exact ⟨j + 1, by omega, by go_num, trivial⟩
                    case measure => first | (simp [intOf]; done) | (simp [intOf]; omega)
                  · have li3 : ¬ (j : Int) < (m : Int) := by omega
                    have CN := Lib.hid (show (cc : Int) + 1 = ((cnt3 (L.take (i + 1)) : Nat) : Int) by rw [C1.out, ← CCE.out]; omega)
                    have UB2 := Lib.hid (show Below U X9 wr by rw [UE.out]; exact B10.out)
                    go_wp2
                    go_roundw
                    case rel => exact ⟨i + 1, us, by omega, by go_num, by rw [← CN.out], UL10.out, husz, US2.out, UB2.out⟩
                    case measure => first | (simp [intOf]; done) | (simp [intOf]; omega)
            · have hif : i = m2 := by omega
              subst hif
              have li : ¬ (i : Int) < (i : Int) := by omega
              have hc : cnt3 (L.take i) = fr.length := by
                rw [List.take_of_length_le (by rw [WH.out.len, List.length_map]; have := ME2.out; omega)]
                exact WH.out.cnt NZ.out
              have hc2 : ((cnt3 (L.take i) : Nat) : Int) = (fr.length : Int) := by rw [hc]
              rw [hc2]
              have hc3 : ((fr.length : Int) == (fr.length : Int)) = true := by simp
              go_wp2
              go_ret
              exact ⟨rfl, BW.out⟩
end Go.Proofs.Ytiglakhfkgeefaa
