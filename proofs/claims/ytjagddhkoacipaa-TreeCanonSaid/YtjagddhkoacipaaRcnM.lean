/-
What is proved here: the document's own Canon, by a contract.
-/
import Derived.Test.YtjagddhkoacipaaRc1M
import Derived.Test.YtjagddhkoacipaaRc3M
import Derived.StillTailTactics
import Derived.Test.YtjagddhkoacipaaSt4M
import Derived.Test.YtjagddhkoacipaaMa7
import Derived.Test.YtjagddhkoacipaaMa8
import Derived.Laws.ResultCell
set_option linter.unusedSimpArgs false
set_option linter.unusedVariables false
namespace Go.Proofs.Ytjagddhkoacipaa
open Go.Pth Go.Tre Go.RowKit Go.Word Go.Shelf
attribute [local go_sem] guard_eq guard_ne st_eql st_neq st_lss2
set_option maxRecDepth 100000 in
set_option maxHeartbeats 8000000 in
theorem refcanon_any (NA FA : Option Addr) (nc fc : Nat) (ns : List Nd) (fs : List Fl) (w : World) (hN : NodesAt w NA ns) (hF : FilesAt w FA fs) (hp : ∀ x ∈ ns, x.path.length ≤ 100000)
    (FORM : ∀ (A1 A2 : Option Addr) (c1 c2 : Nat) (us : List Nd) (gs : List Fl) (W : World), NodesAt W A1 us → FilesAt W A2 gs → (∀ x ∈ us, x.path.length ≤ 100000) → us.length ≤ 1000000 → gs.length ≤ 1000000 → Calls Try.prog 45 #[.agg #[.slice A1 us.length c1, .slice A2 gs.length c2]] W fun e w' => e = .returned (.bool (looseB us gs)) ∧ Below W.heap.size W w') :
    Calls Try.prog 17 #[.agg #[.slice NA ns.length nc, .slice FA fs.length fc]] w fun e w' => (∃ vN vF D, e = .returned (.tuple #[.agg #[vN, vF], .int .i64 (canonE ns fs)]) ∧ (canonE ns fs = 0 → CopyAt w' w.heap.size vN vF D (canonN ns fs) (canonF ns fs)) ∧ (canonE ns fs ≠ 0 → vN = .slice none 0 0 ∧ vF = .slice none 0 0)) ∧ Below w.heap.size w w' := by
  have L := lies_alloc (lies_new w 25 #[.slice NA ns.length nc, .slice FA fs.length fc]) (.cells #[.slice none 0 0, .slice none 0 0] 25)
  have hB : Below w.heap.size w ((w.alloc (.cells #[.slice NA ns.length nc, .slice FA fs.length fc] 25)).alloc (.cells #[.slice none 0 0, .slice none 0 0] 25)) := ((Below.refl _ _).alloc (Nat.le_refl _) _).alloc (by simp) _
  have L2 := lies_new (w.alloc (.cells #[.slice NA ns.length nc, .slice FA fs.length fc] 25)) 25 #[.slice none 0 0, .slice none 0 0]
  rw [World.size_alloc] at L2
  have HN := Lib.hid (nodesAt_below hN hB)
  have HF := Lib.hid (filesAt_below hF hB)
  have HP := Lib.hid hp
  have HFORM := Lib.hid FORM
  clear hN hF hp FORM
  have x0 := lies_cell L 0
  have x1 := lies_cell L 1
  simp only [List.getElem?_toArray, List.getElem?_cons_zero, List.getElem?_cons_succ] at x0 x1
  have HB := Lib.hid hB
  have LX := Lib.hid L
  have LR := Lib.hid L2
  clear L L2 hB
  obtain ⟨n, hne⟩ : ∃ n, n = ns.length := ⟨_, rfl⟩
  obtain ⟨m, hme⟩ : ∃ m, m = fs.length := ⟨_, rfl⟩
  rw [← hne, ← hme] at x0 x1 LX HB HN HF LR
  rw [← hne, ← hme]
  have NE := Lib.hid hne
  have ME := Lib.hid hme
  clear hne hme
  obtain ⟨z, hz0⟩ : ∃ z, z = canonE ns fs := ⟨_, rfl⟩
  rw [← hz0]
  have HZ := Lib.hid hz0
  clear hz0
  go_enter Try.func17, Try.ntmps17
  go_upto_region 1 with (fail)
  generalize (w.alloc (.cells #[.slice NA n nc, .slice FA m fc] 25)).alloc (.cells #[.slice none 0 0, .slice none 0 0] 25) = X at *
  have KT := fun (W : World) (hb : Below X.heap.size X W) => Lib.hid (big_ref NA FA nc fc n fs W (filesAt_below HF.out hb))
  rw [← ME.out] at KT
  have after : ∀ W, Below X.heap.size X W → Hid (W.cell? ⟨w.heap.size, 0, none⟩ = some (.slice NA n nc) ∧ W.cell? ⟨w.heap.size, 1, none⟩ = some (.slice FA m fc)) := fun W hb =>
    Lib.hid ⟨(hb.cell (p := ⟨w.heap.size, 0, none⟩) (lies_lt LX.out)).trans x0, (hb.cell (p := ⟨w.heap.size, 1, none⟩) (lies_lt LX.out)).trans x1⟩
  by_cases ht : tooB n fs = true
  · have hE : canonE ns fs = 31 := by unfold canonE; rw [← NE.out, if_pos ht]
    obtain rfl : z = 31 := HZ.out.trans hE
    rw [ht] at KT
    clear ht hE after HZ
    go_upto_region 2 with (go_at_call 44; (with_reducible refine (KT _ (Below.refl _ _)).out.mono ?_); rintro e w1 ⟨rfl, hb⟩; have B1 := Lib.hid hb; clear hb)
    have LR1 := Lib.hid (lies_below LR.out B1.out (lies_lt LR.out))
    have BZ := Lib.hid (below_setRow (HB.out.trans (B1.out.mono HB.out.size)) (g := w.heap.size + 1) (by omega) #[.slice none 0 0, .slice none 0 0])
    clear x0 x1 KT
    go_wp2_with (refine wpList_store_row rfl 25 _ _ rfl (w.heap.size + 1) #[.slice none 0 0, .slice none 0 0] rfl rfl 25 _ LR1.out (by kernel_rfl) rfl (by simp [Value.oneCell']) ?_)
    refine bodyPost_ret (results_row_tmp2 rfl _ _ (w.heap.size + 1) 25 #[.slice none 0 0, .slice none 0 0] (0, 0) _ rfl (.int .i64 31) rfl (lies_setRow LR1.out _) Try.underlying25 rfl (by kernel_rfl)) rfl ?_
    exact ⟨⟨_, _, fun _ => undef, rfl, fun h => absurd h (by decide), fun _ => ⟨rfl, rfl⟩⟩, BZ.out⟩
  · have ht : tooB n fs = false := by simpa using ht
    rw [ht] at KT
    have hb3 := tooB_no2 ht
    have TB := Lib.hid (show tooB ns.length fs = false by rw [← NE.out]; exact ht)
    have HS := Lib.hid hb3
    have hn6 := hb3.1
    clear ht hb3
    go_upto_region 4 with (go_at_call 44; (with_reducible refine (KT _ (Below.refl _ _)).out.mono ?_); rintro e w1 ⟨rfl, hb⟩; have B1 := Lib.hid hb; clear hb; obtain ⟨y0, y1⟩ := (after _ B1.out).out)
    clear KT y0 y1
    have LT := Lib.hid (lies_new w1 25 #[.slice none 0 0, .slice none 0 0])
    have BT := Lib.hid (B1.out.alloc B1.out.size (.cells #[.slice none 0 0, .slice none 0 0] 25))
    have ZT0 := B1.out.size
    go_upto_region 5 with (fail)
    generalize w1.alloc (.cells #[.slice none 0 0, .slice none 0 0] 25) = W2 at *
    obtain ⟨T, hT⟩ : ∃ T, T = w1.heap.size := ⟨_, rfl⟩
    rw [← hT] at LT ZT0
    rw [← hT]
    have ZT := Lib.hid ZT0
    clear hT ZT0 B1
    go_wp2
    go_loopw [6] (fun v6 wr => ∃ i : Nat, i ≤ n ∧ v6 = .int .i64 (i : Int) ∧ (∃ A C, Lies wr T 25 #[.slice A i C, .slice none 0 0] ∧ wr.ownsRow X.heap.size 54 3 (.slice A i C) i (ncells (sortI (ns.take i)))) ∧ Below X.heap.size X wr) (fun v6 _ => n - (intOf v6).toNat)
    case atStart => exact ⟨0, Nat.zero_le _, rfl, ⟨none, 0, LT.out, World.ownsRow_nil _ _ _ _⟩, BT.out⟩
    case round =>
      obtain ⟨i, hi, rfl, ⟨A, C, hL, hO⟩, hb⟩ := hrel
      have HL := Lib.hid hL
      have HO := Lib.hid hO
      have HW := Lib.hid hb
      clear hL hO hb LT BT
      obtain ⟨q0, q1⟩ := (after _ HW.out).out
      have t0 := lies_cell HL.out 0
      have t1 := lies_cell HL.out 1
      simp only [List.getElem?_toArray, List.getElem?_cons_zero, List.getElem?_cons_succ] at t0 t1
      by_cases hlt : i < n
      · have li : (i : Int) < (n : Int) := by omega
        have lf : i < ns.length := by have := NE.out; omega
        obtain ⟨b, o, eA, hl, d1, d2, d3⟩ := HN.out i lf
        subst eA
        have d1 := (HW.out.cell (p := ⟨b, o + i * 3, none⟩) hl).trans d1
        have d2 := (HW.out.cell (p := ⟨b, o + i * 3 + 1, none⟩) hl).trans d2
        have d3 := (HW.out.cell (p := ⟨b, o + i * 3 + 2, none⟩) hl).trans d3
        have SI := Lib.hid (sortI_take ns i lf)
        have lu : (sortI (ns.take i)).length = i := by rw [sortI_len, List.length_take]; omega
        generalize ns[i] = x at *
        obtain ⟨p, f, md⟩ := x
        have LM := Lib.hid (node_range (p := p) d1 d2 d3)
        have LN := Lib.hid (lies_new wr 54 #[.string { data := #[] }, .int .i64 0, .int .i64 0])
        have ES := Lib.hid (setRow_alloc wr 54 #[.string { data := #[] }, .int .i64 0, .int .i64 0] #[St p, .int .i64 f, .int .i64 md])
        clear d1 d2 d3
        go_upto_region 9 with (first
          | (refine wpList_load_mid rfl 54 _ rfl b (o + i * 3) rfl [St p, .int .i64 f, .int .i64 md] _ LM.out Try.underlying54 rfl (by kernel_rfl) ?_)
          | (refine wpList_store_row rfl 54 _ _ rfl wr.heap.size #[St p, .int .i64 f, .int .i64 md] rfl rfl 54 _ LN.out (by kernel_rfl) rfl (by simp [Value.oneCell', St]) ?_; rw [ES.out]))
        have LG := Lib.hid (lies_new wr 54 #[St p, .int .i64 f, .int .i64 md])
        have LTX := Lib.hid (lies_alloc HL.out (.cells #[St p, .int .i64 f, .int .i64 md] 54))
        have OX := Lib.hid (HO.out.alloc (.cells #[St p, .int .i64 f, .int .i64 md] 54))
        have WX := Lib.hid (HW.out.alloc HW.out.size (.cells #[St p, .int .i64 f, .int .i64 md] 54))
        generalize wr.alloc (.cells #[St p, .int .i64 f, .int .i64 md] 54) = wx at *
        obtain ⟨G, hG⟩ : ∃ G, G = wr.heap.size := ⟨_, rfl⟩
        rw [← hG] at LG
        rw [← hG]
        generalize hus : sortI (ns.take i) = u at *
        have HU := Lib.hid hus
        have LU := Lib.hid lu
        clear hG q0 q1 t0 t1 LM LN ES HL HO HW hus lu
        have t0 := lies_cell LTX.out 0
        have g0 := lies_cell LG.out 0
        simp only [List.getElem?_toArray, List.getElem?_cons_zero, List.getElem?_cons_succ] at t0 g0
        go_wp2
        go_loopw [8] (fun v8 ww => ∃ k : Nat, k ≤ i ∧ v8 = .int .i64 (k : Int) ∧ (∀ j (h : j < u.length), j < k → Op.bytesLess u[j].path p = true) ∧ ∃ q, ww = wx.drewN q) (fun v8 _ => i - (intOf v8).toNat)
        case atStart => exact ⟨0, Nat.zero_le _, rfl, fun j _ h => absurd h (by omega), 0, rfl⟩
        case round =>
          obtain ⟨k, hk, rfl, hless, q, rfl⟩ := hrel
          have HLS := Lib.hid hless
          clear hless
          have t0 : (wx.drewN q).cell? ⟨T, 0, none⟩ = some (.slice A i C) := t0
          have g0 : (wx.drewN q).cell? ⟨G, 0, none⟩ = some (St p) := g0
          obtain ⟨Y, hY⟩ : ∃ Y, Y = wx.drewN q := ⟨_, rfl⟩
          rw [← hY] at t0 g0 ⊢
          have HY := Lib.hid hY
          clear hY
          by_cases hki : k < i
          · have lk : (k : Int) < (i : Int) := by omega
            obtain ⟨g, rfl⟩ := own_at OX.out (by omega)
            have lku : k < u.length := by have := LU.out; omega
            have u0 := (OX.out.cellAt (k * 3) (by omega)).trans (ncells_at u k lku).1
            have u0 : Y.cell? ⟨g, k * 3, none⟩ = some (St u[k].path) := by rw [HY.out]; exact u0
            have HLK := Lib.hid (show Op.bytesLess u[k].path p = true → ∀ j (h : j < u.length), j < k + 1 → Op.bytesLess u[j].path p = true from fun h1 j h hj => by
              by_cases e : j = k
              · subst e; exact h1
              · exact HLS.out j h (by omega))
            have HLE := Lib.hid (show Op.bytesLess u[k].path p = false → ∀ h : k < u.length, Op.bytesLess u[k].path p = false from fun h1 _ => h1)
            by_cases hb : Op.bytesLess u[k].path p = true
            · have HN2 := HLK.out hb
              have HN3 := Lib.hid HN2
              clear HN2 HLK HLE
              generalize u[k].path = up at *
              have hb : Op.bytesLess up p = true := hb
              go_upto_region 10 with (fail)
              go_quiet (fail)
              go_wp2
              exact ⟨⟨k + 1, by omega, by go_num, HN3.out, _, by rw [HY.out, World.drewN_drewN]⟩, by first | (simp [intOf]; done) | (simp [intOf]; omega)⟩
            · have hb : Op.bytesLess u[k].path p = false := by simpa using hb
              have HE := Lib.hid (HLE.out hb)
              clear HLK HLE
              generalize u[k].path = up at *
              have hb : Op.bytesLess up p = false := hb
              go_upto_region 10 with (fail)
              go_quiet (fail)
              obtain ⟨Z, hZ⟩ : ∃ Z, Z = Y.drewN nq := ⟨_, rfl⟩
              rw [← hZ]
              have OZ : Z.ownsRow X.heap.size 54 3 (.slice (some ⟨g, 0, none⟩) i C) i (ncells u) := by rw [hZ, HY.out]; exact OX.out
              have LTZ : Lies Z T 25 #[.slice (some ⟨g, 0, none⟩) i C, .slice none 0 0] := by rw [hZ, HY.out]; exact LTX.out
              have LGZ : Lies Z G 54 #[St p, .int .i64 f, .int .i64 md] := by rw [hZ, HY.out]; exact LG.out
              have WZ : Below X.heap.size X Z := by rw [hZ, HY.out]; exact below_drewN (below_drewN WX.out _) _
              clear hZ
              have t0 : Z.cell? ⟨T, 0, none⟩ = some (.slice (some ⟨g, 0, none⟩) i C) := lies_cell LTZ 0
              have iw := ins_worlds Z X.heap.size ((some ⟨g, 0, none⟩)) C u ⟨p, f, md⟩ k (by have := LU.out; omega) (by rw [LU.out]; exact OZ) WZ.size (by have := LU.out; omega)
              rw [LU.out] at iw
              obtain ⟨DR, hDR⟩ : ∃ DR : Option Addr, DR = (if C = k then ((some ⟨g, 0, none⟩) : Option Addr) else Option.map (fun x => x.add (k * 3)) ((some ⟨g, 0, none⟩) : Option Addr)) := ⟨_, rfl⟩
              have cfr := fun W => cut_from ((some ⟨g, 0, none⟩)) i C k hk W
              rw [← hDR] at iw
              simp only [← hDR] at cfr
              clear hDR
              obtain ⟨AR, CR, W1, r1, g1, A3, C3, Z3, r3, g3, b3, b4, A4, C4, Z4, r4, g4, o4⟩ := iw
              have R1 := Lib.hid r1
              have R3 := Lib.hid r3
              have R4 := Lib.hid r4
              have CF := Lib.hid cfr
              have CT := Lib.hid (fun W => cut_to ((some ⟨g, 0, none⟩)) i C k (by
                rcases OZ.2 with ⟨e1, e2⟩ | ⟨g_, cap, cur_, e1, _, _, hc, _⟩
                · omega
                · injection e1 with _ _ e3
                  omega) W)
              have lt1 : Lies W1 T 25 #[.slice (some ⟨g, 0, none⟩) i C, .slice none 0 0] := (g1.block T (lies_lt LTZ) (by simp)).trans LTZ
              have lg1 : Lies W1 G 54 #[St p, .int .i64 f, .int .i64 md] := (g1.block G (lies_lt LGZ) (by simp)).trans LGZ
              have lt2 : Lies (W1.drew.alloc (.cells #[St p, .int .i64 f, .int .i64 md] 54)) T 25 #[.slice (some ⟨g, 0, none⟩) i C, .slice none 0 0] := lies_alloc (lies_drew lt1) _
              have lt3 : Lies Z3 T 25 #[.slice (some ⟨g, 0, none⟩) i C, .slice none 0 0] := (g3.block T (lies_lt lt2) (fun e => by
                obtain ⟨_, cs, h⟩ := b3 T e.symm
                rw [show _ = _ from lt2] at h
                injection h with h
                injection h with _ h _
                cases h)).trans lt2
              have lt4 : Lies Z4 T 25 #[.slice (some ⟨g, 0, none⟩) i C, .slice none 0 0] := (g4.block T (lies_lt lt3) (fun e => by
                obtain ⟨_, cs, h⟩ := b4 T e.symm
                rw [show _ = _ from lt3] at h
                injection h with h
                injection h with _ h _
                cases h)).trans lt3
              have w1 : Below X.heap.size X W1 := WZ.grown g1 WZ.size (fun k e => by cases e)
              have w2 : Below X.heap.size X (W1.drew.alloc (.cells #[St p, .int .i64 f, .int .i64 md] 54)) := w1.drew.alloc w1.size _
              have w3 : Below X.heap.size X Z3 := w2.grown g3 w2.size (fun k e => (b3 k e).1)
              have w4 : Below X.heap.size X Z4 := w3.grown g4 w3.size (fun k e => (b4 k e).1)
              have ZTT := ZT.out
              have w5 : Below X.heap.size X (Z4.setCell ⟨T, 0, none⟩ (.slice A4 (i + 1) C4)) := below_setCell w4 ZTT _
              have l5 : Lies (Z4.setCell ⟨T, 0, none⟩ (.slice A4 (i + 1) C4)) T 25 #[.slice A4 (i + 1) C4, .slice none 0 0] := lies_set lt4 0 _
              have o5 := World.ownsRow.kept o4 (grown_setCell Z4 T 0 (.slice A4 (i + 1) C4)) (own_other o4 (fun r e => by injection e with e; subst e; exact ⟨_, 25, lt4, by decide⟩))
              have INS := ins_at ⟨p, f, md⟩ u k (by have := LU.out; omega) HLS.out HE.out
              have OZ5 := Lib.hid (show (Z4.setCell ⟨T, 0, none⟩ (.slice A4 (i + 1) C4)).ownsRow X.heap.size 54 3 (.slice A4 (i + 1) C4) (i + 1) (ncells (sortI (ns.take (i + 1)))) by rw [SI.out, INS]; exact o5)
              have LZ5 := Lib.hid l5
              have BZ5 := Lib.hid w5
              have LZ4 := Lib.hid lt4
              have ct := lies_cell lt1 0
              simp only [List.getElem?_toArray, List.getElem?_cons_zero, List.getElem?_cons_succ] at ct
              have FT := Lib.hid (fun (l : Array Bool) (hu : l.getD 10 false = false) => st4_all (i := 5) (j := 6) (k := 8) (m := 10) (A := W1.drew) (B := W1.drew.alloc (.cells #[St p, .int .i64 f, .int .i64 md] 54)) (C := Z3) (D := Z4) (E := Z4.setCell ⟨T, 0, none⟩ (.slice A4 (i + 1) C4)) (l := l) (fun W => W.cell? ⟨T, 0, none⟩ = some (.slice (some ⟨g, 0, none⟩) i C)) (lies_cell (lies_drew lt1) 0) (lies_cell lt2 0) (lies_cell lt3 0) (lies_cell lt4 0) (fun h => by rw [hu] at h; cases h))
              have rg1 := node_range (o := 0) (lies_cell (lies_drew lg1) 0) (lies_cell (lies_drew lg1) 1) (lies_cell (lies_drew lg1) 2)
              have FG := Lib.hid (fun (l : Array Bool) (h5 : ¬ l.getD 5 false = true) (h6 : l.getD 6 false = true → l.getD 5 false = true) (h8 : l.getD 8 false = true → l.getD 5 false = true) (h10 : l.getD 10 false = true → l.getD 5 false = true) => show (St4 5 6 8 10 (W1.drew) (W1.drew.alloc (.cells #[St p, .int .i64 f, .int .i64 md] 54)) (Z3) (Z4) (Z4.setCell ⟨T, 0, none⟩ (.slice A4 (i + 1) C4)) l).rangeAt G 0 [St p, .int .i64 f, .int .i64 md] by
                unfold St4
                rw [if_neg (fun h => h5 (h10 h)), if_neg (fun h => h5 (h8 h)), if_neg (fun h => h5 (h6 h)), if_neg h5]
                exact rg1)
              obtain ⟨i1, hj, hj0, hj1, hj2⟩ := info_parts node_info3
              clear cfr OZ LTZ LGZ WZ r1 r3 r4 g1 g3 g4 b3 b4 o4 lt1 lg1 lt2 lt3 lt4 w1 w2 w3 w4 w5 l5 o5 INS rg1 HLS SI ZTT
              have hcut := CF.out
              go_upto_region 13 with (refine wpList_app_run rfl _ _ rfl rfl rfl R1.out ?_)
              clear hcut t0 ct g0
              refine wp_region_any (by kernel_rfl) ?_
              refine every_at (own := ownAll _) (vals := fun k_ => match k_ with | 0 => .pointer (some ⟨T, 0, none⟩) | 1 => .slice (some ⟨g, 0, none⟩) i C | 2 => .int .i64 (k : Int) | 3 => .slice (some ⟨g, 0, none⟩) k C | 4 => .agg #[St p, .int .i64 f, .int .i64 md] | 5 => .slice (some ⟨W1.heap.size, 0, none⟩) 1 1 | 6 => .slice A3 (k + 1) C3 | 7 => .slice AR (i - k) CR | 8 => .slice A4 (i + 1) C4 | 9 => .pointer (some ⟨T, 0, none⟩) | 10 => undef | _ => undef) id (fun l W => W = (St4 5 6 8 10 (W1.drew) (W1.drew.alloc (.cells #[St p, .int .i64 f, .int .i64 md] 54)) (Z3) (Z4) (Z4.setCell ⟨T, 0, none⟩ (.slice A4 (i + 1) C4))) l) (acAll_of (by kernel_rfl)) (onAll_of (by kernel_rfl)) (dstAll_of (by kernel_rfl)) ?hop ?hend _ _ _ _ rfl (shut_none _) (of_decide_eq_true (by kernel_rfl)) (tabd_start (fun i => rep_false _ i)) rfl
              case hop =>
                intro x oi a w0 listed hoi hun hsz hcl hdeps ht hI
                have hx : x < 11 := (Array.getElem?_eq_some_iff.1 hoi).1
                have cx : x = 0 ∨ x = 1 ∨ x = 2 ∨ x = 3 ∨ x = 4 ∨ x = 5 ∨ x = 6 ∨ x = 7 ∨ x = 8 ∨ x = 9 ∨ x = 10 := by omega
                have sz : listed.size = 11 := hsz
                have uj : listed.getD 6 false = true → listed.getD 5 false = true := fun h => hcl 6 _ rfl (h) ⟨5, .data⟩ (by simp) rfl
                have uk : listed.getD 8 false = true → listed.getD 6 false = true := fun h => hcl 8 _ rfl (h) ⟨6, .data⟩ (by simp) rfl
                have um : listed.getD 10 false = true → listed.getD 8 false = true := fun h => hcl 10 _ rfl (h) ⟨8, .data⟩ (by simp) rfl
                have ul1 : listed.getD 10 false = true → listed.getD 1 false = true := fun h => hcl 10 _ rfl (h) ⟨1, .phase⟩ (by simp) rfl
                have up6 : listed.getD 5 false = true → listed.getD 5 false = true := fun h => h
                have up8 : listed.getD 6 false = true → listed.getD 6 false = true := fun h => h
                have up10 : listed.getD 8 false = true → listed.getD 8 false = true := fun h => h
                have u54 : listed.getD 5 false = true → listed.getD 4 false = true := fun h => hcl 5 _ rfl h ⟨4, .data⟩ (by simp) rfl
                have u64 : ∀ j, j = 6 ∨ j = 8 ∨ j = 10 → listed.getD j false = true → listed.getD 5 false = true := fun j hj h => by
                  rcases hj with rfl | rfl | rfl
                  · exact uj h
                  · exact uj (uk h)
                  · exact uj (uk (um h))
                clear hcl
                obtain rfl | rfl | rfl | rfl | rfl | rfl | rfl | rfl | rfl | rfl | rfl := cx
                all_goals obtain rfl := Option.some.inj hoi
                · have e5 : a.eval (.tmp 5) = .pointer (some ⟨T, 0, none⟩) := (tabd_old ht (t := 5) (of_decide_eq_true (by kernel_rfl)) (by kernel_rfl)).trans rfl
                  exact .inl ⟨rfl, fun K hk => wp_val (v := .pointer (some ⟨T, 0, none⟩)) (by generalize a.eval = ρ at *; unfold execOp; simp only [e5]; go_simp) (hk _ (hI.trans (st4_keep (by decide) (by decide) (by decide) (by decide)).symm))⟩
                · have d0 := hdeps ⟨0, .data⟩ (by simp) rfl
                  have e54 : a.eval (.tmp 54) = .pointer (some ⟨T, 0, none⟩) := tabd_at ht (t := 54) (of_decide_eq_true (by kernel_rfl)) (by kernel_rfl) d0
                  have h : w0.cell? ⟨T, 0, none⟩ = some (.slice (some ⟨g, 0, none⟩) i C) := by rw [hI]; exact FT.out listed (no_of ul1 (by simp [hun]))
                  exact .inl ⟨rfl, fun K hk => wp_val (v := .slice (some ⟨g, 0, none⟩) i C) (by clear hk hI hoi hdeps ht; generalize a.eval = ρ at *; unfold execOp; simp only [e54]; go_simp) (hk _ (hI.trans (st4_keep (by decide) (by decide) (by decide) (by decide)).symm))⟩
                · have e8 : a.eval (.tmp 8) = .int .i64 (k : Int) := (tabd_old ht (t := 8) (of_decide_eq_true (by kernel_rfl)) (by kernel_rfl)).trans rfl
                  exact .inl ⟨rfl, fun K hk => wp_val (v := .int .i64 (k : Int)) (by generalize a.eval = ρ at *; unfold execOp; simp only [e8]; go_simp) (hk _ (hI.trans (st4_keep (by decide) (by decide) (by decide) (by decide)).symm))⟩
                · have d1 := hdeps ⟨1, .data⟩ (by simp) rfl
                  have d2 := hdeps ⟨2, .data⟩ (by simp) rfl
                  have e55 : a.eval (.tmp 55) = .slice (some ⟨g, 0, none⟩) i C := tabd_at ht (t := 55) (of_decide_eq_true (by kernel_rfl)) (by kernel_rfl) d1
                  have e56 : a.eval (.tmp 56) = .int .i64 (k : Int) := tabd_at ht (t := 56) (of_decide_eq_true (by kernel_rfl)) (by kernel_rfl) d2
                  exact .inl ⟨rfl, fun K hk => wp_val (v := .slice (some ⟨g, 0, none⟩) k C) (by have h := CT.out w0; clear hk hI hoi hdeps ht; generalize a.eval = ρ at *; unfold execOp; simp only [e55, e56]; go_simp) (hk _ (hI.trans (st4_keep (by decide) (by decide) (by decide) (by decide)).symm))⟩
                · have e7 : a.eval (.tmp 7) = .pointer (some ⟨G, 0, none⟩) := (tabd_old ht (t := 7) (of_decide_eq_true (by kernel_rfl)) (by kernel_rfl)).trans rfl
                  exact .inl ⟨rfl, fun K hk => wp_val (v := .agg #[St p, .int .i64 f, .int .i64 md]) (load_op 54 _ rfl G (0) e7 [St p, .int .i64 f, .int .i64 md] _ (by rw [hI]; exact FG.out listed (fun h => by rw [u54 h] at hun; cases hun) (u64 6 (by simp)) (u64 8 (by simp)) (u64 10 (by simp))) Try.underlying54 rfl (by kernel_rfl)) (hk _ (hI.trans (st4_keep (by decide) (by decide) (by decide) (by decide)).symm))⟩
                · have d4 := hdeps ⟨4, .data⟩ (by simp) rfl
                  have e58 : a.eval (.tmp 58) = .agg #[St p, .int .i64 f, .int .i64 md] := tabd_at ht (t := 58) (of_decide_eq_true (by kernel_rfl)) (by kernel_rfl) d4
                  have hst : (St4 5 6 8 10 (W1.drew) (W1.drew.alloc (.cells #[St p, .int .i64 f, .int .i64 md] 54)) (Z3) (Z4) (Z4.setCell ⟨T, 0, none⟩ (.slice A4 (i + 1) C4))) listed = W1.drew ∧ (St4 5 6 8 10 (W1.drew) (W1.drew.alloc (.cells #[St p, .int .i64 f, .int .i64 md] 54)) (Z3) (Z4) (Z4.setCell ⟨T, 0, none⟩ (.slice A4 (i + 1) C4))) (listed.setIfInBounds 5 true) = W1.drew.alloc (.cells #[St p, .int .i64 f, .int .i64 md] 54) := st4_0 (by decide) (by decide) (by decide) uj uk um (by omega) hun
                  have hw : W1.drew = w0 := (hI.trans hst.1).symm
                  subst hw
                  exact .inl ⟨rfl, fun K hk => wp_buildSlice 22 54 1 _ rfl #[St p, .int .i64 f, .int .i64 md] i1 _ Try.underlying22 hj hj0 (by rw [hj1]; decide) (by rw [hj1]; decide) (by rw [hj1]; simp only [List.map_toArray, List.map_cons, List.map_nil, e58]; kernel_rfl) (hk _ hst.2.symm)⟩
                · have d3 := hdeps ⟨3, .data⟩ (by simp) rfl
                  have d5 := hdeps ⟨5, .data⟩ (by simp) rfl
                  have e57 : a.eval (.tmp 57) = .slice (some ⟨g, 0, none⟩) k C := tabd_at ht (t := 57) (of_decide_eq_true (by kernel_rfl)) (by kernel_rfl) d3
                  have e59 : a.eval (.tmp 59) = .slice (some ⟨W1.heap.size, 0, none⟩) 1 1 := tabd_at ht (t := 59) (of_decide_eq_true (by kernel_rfl)) (by kernel_rfl) d5
                  have hst : (St4 5 6 8 10 (W1.drew) (W1.drew.alloc (.cells #[St p, .int .i64 f, .int .i64 md] 54)) (Z3) (Z4) (Z4.setCell ⟨T, 0, none⟩ (.slice A4 (i + 1) C4))) listed = W1.drew.alloc (.cells #[St p, .int .i64 f, .int .i64 md] 54) ∧ (St4 5 6 8 10 (W1.drew) (W1.drew.alloc (.cells #[St p, .int .i64 f, .int .i64 md] 54)) (Z3) (Z4) (Z4.setCell ⟨T, 0, none⟩ (.slice A4 (i + 1) C4))) (listed.setIfInBounds 6 true) = Z3 := st4_1 (by decide) (by decide) (by decide) uk um (by omega) hun (up6 d5)
                  have hw : W1.drew.alloc (.cells #[St p, .int .i64 f, .int .i64 md] 54) = w0 := (hI.trans hst.1).symm
                  subst hw
                  exact .inl ⟨rfl, fun K hk => wp_valT (v := .slice A3 (k + 1) C3) (w' := Z3) (app_op _ _ rfl e57 e59 R3.out) (hk _ hst.2.symm)⟩
                · have e9 : a.eval (.tmp 9) = .slice AR (i - k) CR := (tabd_old ht (t := 9) (of_decide_eq_true (by kernel_rfl)) (by kernel_rfl)).trans rfl
                  exact .inl ⟨rfl, fun K hk => wp_val (v := .slice AR (i - k) CR) (by generalize a.eval = ρ at *; unfold execOp; simp only [e9]; go_simp) (hk _ (hI.trans (st4_keep (by decide) (by decide) (by decide) (by decide)).symm))⟩
                · have d6 := hdeps ⟨6, .data⟩ (by simp) rfl
                  have d7 := hdeps ⟨7, .data⟩ (by simp) rfl
                  have e60 : a.eval (.tmp 60) = .slice A3 (k + 1) C3 := tabd_at ht (t := 60) (of_decide_eq_true (by kernel_rfl)) (by kernel_rfl) d6
                  have e61 : a.eval (.tmp 61) = .slice AR (i - k) CR := tabd_at ht (t := 61) (of_decide_eq_true (by kernel_rfl)) (by kernel_rfl) d7
                  have hst : (St4 5 6 8 10 (W1.drew) (W1.drew.alloc (.cells #[St p, .int .i64 f, .int .i64 md] 54)) (Z3) (Z4) (Z4.setCell ⟨T, 0, none⟩ (.slice A4 (i + 1) C4))) listed = Z3 ∧ (St4 5 6 8 10 (W1.drew) (W1.drew.alloc (.cells #[St p, .int .i64 f, .int .i64 md] 54)) (Z3) (Z4) (Z4.setCell ⟨T, 0, none⟩ (.slice A4 (i + 1) C4))) (listed.setIfInBounds 8 true) = Z4 := st4_2 (by decide) (by decide) um (by omega) hun (up8 d6)
                  have hw : Z3 = w0 := (hI.trans hst.1).symm
                  subst hw
                  exact .inl ⟨rfl, fun K hk => wp_valT (v := .slice A4 (i + 1) C4) (w' := Z4) (app_op _ _ rfl e60 e61 R4.out) (hk _ hst.2.symm)⟩
                · have e5 : a.eval (.tmp 5) = .pointer (some ⟨T, 0, none⟩) := (tabd_old ht (t := 5) (of_decide_eq_true (by kernel_rfl)) (by kernel_rfl)).trans rfl
                  exact .inl ⟨rfl, fun K hk => wp_val (v := .pointer (some ⟨T, 0, none⟩)) (by generalize a.eval = ρ at *; unfold execOp; simp only [e5]; go_simp) (hk _ (hI.trans (st4_keep (by decide) (by decide) (by decide) (by decide)).symm))⟩
                · have d9 := hdeps ⟨9, .data⟩ (by simp) rfl
                  have d8 := hdeps ⟨8, .data⟩ (by simp) rfl
                  have e62 : a.eval (.tmp 62) = .slice A4 (i + 1) C4 := tabd_at ht (t := 62) (of_decide_eq_true (by kernel_rfl)) (by kernel_rfl) d8
                  have e63 : a.eval (.tmp 63) = .pointer (some ⟨T, 0, none⟩) := tabd_at ht (t := 63) (of_decide_eq_true (by kernel_rfl)) (by kernel_rfl) d9
                  have hst : (St4 5 6 8 10 (W1.drew) (W1.drew.alloc (.cells #[St p, .int .i64 f, .int .i64 md] 54)) (Z3) (Z4) (Z4.setCell ⟨T, 0, none⟩ (.slice A4 (i + 1) C4))) listed = Z4 ∧ (St4 5 6 8 10 (W1.drew) (W1.drew.alloc (.cells #[St p, .int .i64 f, .int .i64 md] 54)) (Z3) (Z4) (Z4.setCell ⟨T, 0, none⟩ (.slice A4 (i + 1) C4))) (listed.setIfInBounds 10 true) = Z4.setCell ⟨T, 0, none⟩ (.slice A4 (i + 1) C4) := st4_3 (by decide) (by omega) hun (up10 d8)
                  have hw : Z4 = w0 := (hI.trans hst.1).symm
                  subst hw
                  exact .inl ⟨rfl, fun K hk => wp_skipT (w' := Z4.setCell ⟨T, 0, none⟩ (.slice A4 (i + 1) C4)) (by have h1 := lies_cell LZ4.out 0; have h2 := lies_free LZ4.out 0; simp only [List.getElem?_toArray, List.getElem?_cons_zero, List.getElem?_cons_succ] at h1; clear hk hst hI ht hoi hdeps; generalize a.eval = ρ at *; unfold execOp; simp only [e62, e63]; go_simp) (hk _ hst.2.symm)⟩
              case hend =>
                intro a w0 listed hall ht hI
                rw [tabd_fill ht (fun t i ho => hall i (ownAll_lt ho))]
                have hw : w0 = _ := hI.trans (st4_end (hall 10 (of_decide_eq_true (by kernel_rfl))))
                change Exit.inBlock _ (Exit.then _ _) Exit.normal { tmps := (.agg #[.slice (some ⟨b, o, none⟩) n nc, .slice FA m fc] :: .pointer (some ⟨w.heap.size, 0, none⟩) :: .pointer (some ⟨w.heap.size + 1, 0, none⟩) :: .int .i64 0 :: .bool false :: .pointer (some ⟨T, 0, none⟩) :: .int .i64 (i : Int) :: .pointer (some ⟨G, 0, none⟩) :: .int .i64 (k : Int) :: .slice AR (i - k) CR :: undef :: undef :: undef :: undef :: undef :: .agg #[.slice (some ⟨b, o, none⟩) n nc, .slice FA m fc] :: .bool false :: .bool false :: undef :: .int .i64 (i : Int) :: .pointer (some ⟨w.heap.size, 0, none⟩) :: .slice (some ⟨b, o, none⟩) n nc :: .int .i64 (n : Int) :: .bool true :: u24 :: u25 :: .pointer (some ⟨w.heap.size, 0, none⟩) :: .slice (some ⟨b, o, none⟩) n nc :: .int .i64 (i : Int) :: .pointer (some ⟨b, o + i * 3, none⟩) :: .agg #[St p, .int .i64 f, .int .i64 md] :: .int .i64 (k : Int) :: .pointer (some ⟨T, 0, none⟩) :: .slice (some ⟨g, 0, none⟩) i C :: .int .i64 (i : Int) :: .bool true :: .bool true :: .pointer (some ⟨T, 0, none⟩) :: .slice (some ⟨g, 0, none⟩) i C :: .int .i64 (k : Int) :: .pointer (some ⟨g, k * 3, none⟩) :: .pointer (some ⟨g, k * 3, none⟩) :: St up :: .pointer (some ⟨G, 0, none⟩) :: St p :: .bool false :: .bool false :: u47 :: u48 :: .pointer (some ⟨T, 0, none⟩) :: .slice (some ⟨g, 0, none⟩) i C :: .int .i64 (k : Int) :: .slice DR (i - k) (C - k) :: .slice AR (i - k) CR :: .pointer (some ⟨T, 0, none⟩) :: .slice (some ⟨g, 0, none⟩) i C :: .int .i64 (k : Int) :: .slice (some ⟨g, 0, none⟩) k C :: .agg #[St p, .int .i64 f, .int .i64 md] :: .slice (some ⟨W1.heap.size, 0, none⟩) 1 1 :: .slice A3 (k + 1) C3 :: .slice AR (i - k) CR :: .slice A4 (i + 1) C4 :: .pointer (some ⟨T, 0, none⟩) :: undef :: undef :: undef :: undef :: undef :: undef :: undef :: undef :: undef :: undef :: undef :: undef :: undef :: undef :: undef :: undef :: undef :: undef :: undef :: undef :: undef :: undef :: undef :: undef :: undef :: undef :: undef :: undef :: undef :: undef :: undef :: undef :: undef :: undef :: undef :: undef :: undef :: undef :: undef :: undef :: undef :: undef :: undef :: undef :: undef :: undef :: undef :: undef :: undef :: undef :: undef :: undef :: undef :: undef :: undef :: undef :: undef :: undef :: undef :: undef :: undef :: undef :: undef :: undef :: undef :: undef :: undef :: undef :: undef :: undef :: undef :: undef :: undef :: undef :: undef :: undef :: undef :: undef :: undef :: undef :: undef :: undef :: undef :: []).toArray, defers := [] } w0
                clear hall ht hI
                subst hw
                have L5 := LZ5.out
                have O5 := OZ5.out
                have B5 := BZ5.out
                go_wp2
                go_roundw
                case rel => exact ⟨i + 1, by omega, by go_num, ⟨A4, C4, L5, O5⟩, B5⟩
                case measure => first | (simp [intOf]; done) | (simp [intOf]; omega)
          · have lk : ¬ (k : Int) < (i : Int) := by omega
            have HE := Lib.hid (show ∀ h : k < u.length, Op.bytesLess u[k].path p = false from fun h => by have := LU.out; omega)
            go_upto_region 10 with (fail)
            go_quiet (fail)
            obtain ⟨Z, hZ⟩ : ∃ Z, Z = Y.drewN nq := ⟨_, rfl⟩
            rw [← hZ]
            have OZ : Z.ownsRow X.heap.size 54 3 (.slice A i C) i (ncells u) := by rw [hZ, HY.out]; exact OX.out
            have LTZ : Lies Z T 25 #[.slice A i C, .slice none 0 0] := by rw [hZ, HY.out]; exact LTX.out
            have LGZ : Lies Z G 54 #[St p, .int .i64 f, .int .i64 md] := by rw [hZ, HY.out]; exact LG.out
            have WZ : Below X.heap.size X Z := by rw [hZ, HY.out]; exact below_drewN (below_drewN WX.out _) _
            clear hZ
            have t0 : Z.cell? ⟨T, 0, none⟩ = some (.slice A i C) := lies_cell LTZ 0
            have iw := ins_worlds Z X.heap.size (A) C u ⟨p, f, md⟩ k (by have := LU.out; omega) (by rw [LU.out]; exact OZ) WZ.size (by have := LU.out; omega)
            rw [LU.out] at iw
            obtain ⟨DR, hDR⟩ : ∃ DR : Option Addr, DR = (if C = k then (A : Option Addr) else Option.map (fun x => x.add (k * 3)) (A : Option Addr)) := ⟨_, rfl⟩
            have cfr := fun W => cut_from (A) i C k hk W
            rw [← hDR] at iw
            simp only [← hDR] at cfr
            clear hDR
            obtain ⟨AR, CR, W1, r1, g1, A3, C3, Z3, r3, g3, b3, b4, A4, C4, Z4, r4, g4, o4⟩ := iw
            have R1 := Lib.hid r1
            have R3 := Lib.hid r3
            have R4 := Lib.hid r4
            have CF := Lib.hid cfr
            have CT := Lib.hid (fun W => cut_to (A) i C k (by
              rcases OZ.2 with ⟨e1, e2⟩ | ⟨g_, cap, cur_, e1, _, _, hc, _⟩
              · omega
              · injection e1 with _ _ e3
                omega) W)
            have lt1 : Lies W1 T 25 #[.slice A i C, .slice none 0 0] := (g1.block T (lies_lt LTZ) (by simp)).trans LTZ
            have lg1 : Lies W1 G 54 #[St p, .int .i64 f, .int .i64 md] := (g1.block G (lies_lt LGZ) (by simp)).trans LGZ
            have lt2 : Lies (W1.drew.alloc (.cells #[St p, .int .i64 f, .int .i64 md] 54)) T 25 #[.slice A i C, .slice none 0 0] := lies_alloc (lies_drew lt1) _
            have lt3 : Lies Z3 T 25 #[.slice A i C, .slice none 0 0] := (g3.block T (lies_lt lt2) (fun e => by
              obtain ⟨_, cs, h⟩ := b3 T e.symm
              rw [show _ = _ from lt2] at h
              injection h with h
              injection h with _ h _
              cases h)).trans lt2
            have lt4 : Lies Z4 T 25 #[.slice A i C, .slice none 0 0] := (g4.block T (lies_lt lt3) (fun e => by
              obtain ⟨_, cs, h⟩ := b4 T e.symm
              rw [show _ = _ from lt3] at h
              injection h with h
              injection h with _ h _
              cases h)).trans lt3
            have w1 : Below X.heap.size X W1 := WZ.grown g1 WZ.size (fun k e => by cases e)
            have w2 : Below X.heap.size X (W1.drew.alloc (.cells #[St p, .int .i64 f, .int .i64 md] 54)) := w1.drew.alloc w1.size _
            have w3 : Below X.heap.size X Z3 := w2.grown g3 w2.size (fun k e => (b3 k e).1)
            have w4 : Below X.heap.size X Z4 := w3.grown g4 w3.size (fun k e => (b4 k e).1)
            have ZTT := ZT.out
            have w5 : Below X.heap.size X (Z4.setCell ⟨T, 0, none⟩ (.slice A4 (i + 1) C4)) := below_setCell w4 ZTT _
            have l5 : Lies (Z4.setCell ⟨T, 0, none⟩ (.slice A4 (i + 1) C4)) T 25 #[.slice A4 (i + 1) C4, .slice none 0 0] := lies_set lt4 0 _
            have o5 := World.ownsRow.kept o4 (grown_setCell Z4 T 0 (.slice A4 (i + 1) C4)) (own_other o4 (fun r e => by injection e with e; subst e; exact ⟨_, 25, lt4, by decide⟩))
            have INS := ins_at ⟨p, f, md⟩ u k (by have := LU.out; omega) HLS.out HE.out
            have OZ5 := Lib.hid (show (Z4.setCell ⟨T, 0, none⟩ (.slice A4 (i + 1) C4)).ownsRow X.heap.size 54 3 (.slice A4 (i + 1) C4) (i + 1) (ncells (sortI (ns.take (i + 1)))) by rw [SI.out, INS]; exact o5)
            have LZ5 := Lib.hid l5
            have BZ5 := Lib.hid w5
            have LZ4 := Lib.hid lt4
            have ct := lies_cell lt1 0
            simp only [List.getElem?_toArray, List.getElem?_cons_zero, List.getElem?_cons_succ] at ct
            have FT := Lib.hid (fun (l : Array Bool) (hu : l.getD 10 false = false) => st4_all (i := 5) (j := 6) (k := 8) (m := 10) (A := W1.drew) (B := W1.drew.alloc (.cells #[St p, .int .i64 f, .int .i64 md] 54)) (C := Z3) (D := Z4) (E := Z4.setCell ⟨T, 0, none⟩ (.slice A4 (i + 1) C4)) (l := l) (fun W => W.cell? ⟨T, 0, none⟩ = some (.slice A i C)) (lies_cell (lies_drew lt1) 0) (lies_cell lt2 0) (lies_cell lt3 0) (lies_cell lt4 0) (fun h => by rw [hu] at h; cases h))
            have rg1 := node_range (o := 0) (lies_cell (lies_drew lg1) 0) (lies_cell (lies_drew lg1) 1) (lies_cell (lies_drew lg1) 2)
            have FG := Lib.hid (fun (l : Array Bool) (h5 : ¬ l.getD 5 false = true) (h6 : l.getD 6 false = true → l.getD 5 false = true) (h8 : l.getD 8 false = true → l.getD 5 false = true) (h10 : l.getD 10 false = true → l.getD 5 false = true) => show (St4 5 6 8 10 (W1.drew) (W1.drew.alloc (.cells #[St p, .int .i64 f, .int .i64 md] 54)) (Z3) (Z4) (Z4.setCell ⟨T, 0, none⟩ (.slice A4 (i + 1) C4)) l).rangeAt G 0 [St p, .int .i64 f, .int .i64 md] by
              unfold St4
              rw [if_neg (fun h => h5 (h10 h)), if_neg (fun h => h5 (h8 h)), if_neg (fun h => h5 (h6 h)), if_neg h5]
              exact rg1)
            obtain ⟨i1, hj, hj0, hj1, hj2⟩ := info_parts node_info3
            clear cfr OZ LTZ LGZ WZ r1 r3 r4 g1 g3 g4 b3 b4 o4 lt1 lg1 lt2 lt3 lt4 w1 w2 w3 w4 w5 l5 o5 INS rg1 HLS SI ZTT
            have hcut := CF.out
            go_upto_region 13 with (refine wpList_app_run rfl _ _ rfl rfl rfl R1.out ?_)
            clear hcut t0 ct g0
            refine wp_region_any (by kernel_rfl) ?_
            refine every_at (own := ownAll _) (vals := fun k_ => match k_ with | 0 => .pointer (some ⟨T, 0, none⟩) | 1 => .slice A i C | 2 => .int .i64 (k : Int) | 3 => .slice A k C | 4 => .agg #[St p, .int .i64 f, .int .i64 md] | 5 => .slice (some ⟨W1.heap.size, 0, none⟩) 1 1 | 6 => .slice A3 (k + 1) C3 | 7 => .slice AR (i - k) CR | 8 => .slice A4 (i + 1) C4 | 9 => .pointer (some ⟨T, 0, none⟩) | 10 => undef | _ => undef) id (fun l W => W = (St4 5 6 8 10 (W1.drew) (W1.drew.alloc (.cells #[St p, .int .i64 f, .int .i64 md] 54)) (Z3) (Z4) (Z4.setCell ⟨T, 0, none⟩ (.slice A4 (i + 1) C4))) l) (acAll_of (by kernel_rfl)) (onAll_of (by kernel_rfl)) (dstAll_of (by kernel_rfl)) ?hop ?hend _ _ _ _ rfl (shut_none _) (of_decide_eq_true (by kernel_rfl)) (tabd_start (fun i => rep_false _ i)) rfl
            case hop =>
              intro x oi a w0 listed hoi hun hsz hcl hdeps ht hI
              have hx : x < 11 := (Array.getElem?_eq_some_iff.1 hoi).1
              have cx : x = 0 ∨ x = 1 ∨ x = 2 ∨ x = 3 ∨ x = 4 ∨ x = 5 ∨ x = 6 ∨ x = 7 ∨ x = 8 ∨ x = 9 ∨ x = 10 := by omega
              have sz : listed.size = 11 := hsz
              have uj : listed.getD 6 false = true → listed.getD 5 false = true := fun h => hcl 6 _ rfl (h) ⟨5, .data⟩ (by simp) rfl
              have uk : listed.getD 8 false = true → listed.getD 6 false = true := fun h => hcl 8 _ rfl (h) ⟨6, .data⟩ (by simp) rfl
              have um : listed.getD 10 false = true → listed.getD 8 false = true := fun h => hcl 10 _ rfl (h) ⟨8, .data⟩ (by simp) rfl
              have ul1 : listed.getD 10 false = true → listed.getD 1 false = true := fun h => hcl 10 _ rfl (h) ⟨1, .phase⟩ (by simp) rfl
              have up6 : listed.getD 5 false = true → listed.getD 5 false = true := fun h => h
              have up8 : listed.getD 6 false = true → listed.getD 6 false = true := fun h => h
              have up10 : listed.getD 8 false = true → listed.getD 8 false = true := fun h => h
              have u54 : listed.getD 5 false = true → listed.getD 4 false = true := fun h => hcl 5 _ rfl h ⟨4, .data⟩ (by simp) rfl
              have u64 : ∀ j, j = 6 ∨ j = 8 ∨ j = 10 → listed.getD j false = true → listed.getD 5 false = true := fun j hj h => by
                rcases hj with rfl | rfl | rfl
                · exact uj h
                · exact uj (uk h)
                · exact uj (uk (um h))
              clear hcl
              obtain rfl | rfl | rfl | rfl | rfl | rfl | rfl | rfl | rfl | rfl | rfl := cx
              all_goals obtain rfl := Option.some.inj hoi
              · have e5 : a.eval (.tmp 5) = .pointer (some ⟨T, 0, none⟩) := (tabd_old ht (t := 5) (of_decide_eq_true (by kernel_rfl)) (by kernel_rfl)).trans rfl
                exact .inl ⟨rfl, fun K hk => wp_val (v := .pointer (some ⟨T, 0, none⟩)) (by generalize a.eval = ρ at *; unfold execOp; simp only [e5]; go_simp) (hk _ (hI.trans (st4_keep (by decide) (by decide) (by decide) (by decide)).symm))⟩
              · have d0 := hdeps ⟨0, .data⟩ (by simp) rfl
                have e54 : a.eval (.tmp 54) = .pointer (some ⟨T, 0, none⟩) := tabd_at ht (t := 54) (of_decide_eq_true (by kernel_rfl)) (by kernel_rfl) d0
                have h : w0.cell? ⟨T, 0, none⟩ = some (.slice A i C) := by rw [hI]; exact FT.out listed (no_of ul1 (by simp [hun]))
                exact .inl ⟨rfl, fun K hk => wp_val (v := .slice A i C) (by clear hk hI hoi hdeps ht; generalize a.eval = ρ at *; unfold execOp; simp only [e54]; go_simp) (hk _ (hI.trans (st4_keep (by decide) (by decide) (by decide) (by decide)).symm))⟩
              · have e8 : a.eval (.tmp 8) = .int .i64 (k : Int) := (tabd_old ht (t := 8) (of_decide_eq_true (by kernel_rfl)) (by kernel_rfl)).trans rfl
                exact .inl ⟨rfl, fun K hk => wp_val (v := .int .i64 (k : Int)) (by generalize a.eval = ρ at *; unfold execOp; simp only [e8]; go_simp) (hk _ (hI.trans (st4_keep (by decide) (by decide) (by decide) (by decide)).symm))⟩
              · have d1 := hdeps ⟨1, .data⟩ (by simp) rfl
                have d2 := hdeps ⟨2, .data⟩ (by simp) rfl
                have e55 : a.eval (.tmp 55) = .slice A i C := tabd_at ht (t := 55) (of_decide_eq_true (by kernel_rfl)) (by kernel_rfl) d1
                have e56 : a.eval (.tmp 56) = .int .i64 (k : Int) := tabd_at ht (t := 56) (of_decide_eq_true (by kernel_rfl)) (by kernel_rfl) d2
                exact .inl ⟨rfl, fun K hk => wp_val (v := .slice A k C) (by have h := CT.out w0; clear hk hI hoi hdeps ht; generalize a.eval = ρ at *; unfold execOp; simp only [e55, e56]; go_simp) (hk _ (hI.trans (st4_keep (by decide) (by decide) (by decide) (by decide)).symm))⟩
              · have e7 : a.eval (.tmp 7) = .pointer (some ⟨G, 0, none⟩) := (tabd_old ht (t := 7) (of_decide_eq_true (by kernel_rfl)) (by kernel_rfl)).trans rfl
                exact .inl ⟨rfl, fun K hk => wp_val (v := .agg #[St p, .int .i64 f, .int .i64 md]) (load_op 54 _ rfl G (0) e7 [St p, .int .i64 f, .int .i64 md] _ (by rw [hI]; exact FG.out listed (fun h => by rw [u54 h] at hun; cases hun) (u64 6 (by simp)) (u64 8 (by simp)) (u64 10 (by simp))) Try.underlying54 rfl (by kernel_rfl)) (hk _ (hI.trans (st4_keep (by decide) (by decide) (by decide) (by decide)).symm))⟩
              · have d4 := hdeps ⟨4, .data⟩ (by simp) rfl
                have e58 : a.eval (.tmp 58) = .agg #[St p, .int .i64 f, .int .i64 md] := tabd_at ht (t := 58) (of_decide_eq_true (by kernel_rfl)) (by kernel_rfl) d4
                have hst : (St4 5 6 8 10 (W1.drew) (W1.drew.alloc (.cells #[St p, .int .i64 f, .int .i64 md] 54)) (Z3) (Z4) (Z4.setCell ⟨T, 0, none⟩ (.slice A4 (i + 1) C4))) listed = W1.drew ∧ (St4 5 6 8 10 (W1.drew) (W1.drew.alloc (.cells #[St p, .int .i64 f, .int .i64 md] 54)) (Z3) (Z4) (Z4.setCell ⟨T, 0, none⟩ (.slice A4 (i + 1) C4))) (listed.setIfInBounds 5 true) = W1.drew.alloc (.cells #[St p, .int .i64 f, .int .i64 md] 54) := st4_0 (by decide) (by decide) (by decide) uj uk um (by omega) hun
                have hw : W1.drew = w0 := (hI.trans hst.1).symm
                subst hw
                exact .inl ⟨rfl, fun K hk => wp_buildSlice 22 54 1 _ rfl #[St p, .int .i64 f, .int .i64 md] i1 _ Try.underlying22 hj hj0 (by rw [hj1]; decide) (by rw [hj1]; decide) (by rw [hj1]; simp only [List.map_toArray, List.map_cons, List.map_nil, e58]; kernel_rfl) (hk _ hst.2.symm)⟩
              · have d3 := hdeps ⟨3, .data⟩ (by simp) rfl
                have d5 := hdeps ⟨5, .data⟩ (by simp) rfl
                have e57 : a.eval (.tmp 57) = .slice A k C := tabd_at ht (t := 57) (of_decide_eq_true (by kernel_rfl)) (by kernel_rfl) d3
                have e59 : a.eval (.tmp 59) = .slice (some ⟨W1.heap.size, 0, none⟩) 1 1 := tabd_at ht (t := 59) (of_decide_eq_true (by kernel_rfl)) (by kernel_rfl) d5
                have hst : (St4 5 6 8 10 (W1.drew) (W1.drew.alloc (.cells #[St p, .int .i64 f, .int .i64 md] 54)) (Z3) (Z4) (Z4.setCell ⟨T, 0, none⟩ (.slice A4 (i + 1) C4))) listed = W1.drew.alloc (.cells #[St p, .int .i64 f, .int .i64 md] 54) ∧ (St4 5 6 8 10 (W1.drew) (W1.drew.alloc (.cells #[St p, .int .i64 f, .int .i64 md] 54)) (Z3) (Z4) (Z4.setCell ⟨T, 0, none⟩ (.slice A4 (i + 1) C4))) (listed.setIfInBounds 6 true) = Z3 := st4_1 (by decide) (by decide) (by decide) uk um (by omega) hun (up6 d5)
                have hw : W1.drew.alloc (.cells #[St p, .int .i64 f, .int .i64 md] 54) = w0 := (hI.trans hst.1).symm
                subst hw
                exact .inl ⟨rfl, fun K hk => wp_valT (v := .slice A3 (k + 1) C3) (w' := Z3) (app_op _ _ rfl e57 e59 R3.out) (hk _ hst.2.symm)⟩
              · have e9 : a.eval (.tmp 9) = .slice AR (i - k) CR := (tabd_old ht (t := 9) (of_decide_eq_true (by kernel_rfl)) (by kernel_rfl)).trans rfl
                exact .inl ⟨rfl, fun K hk => wp_val (v := .slice AR (i - k) CR) (by generalize a.eval = ρ at *; unfold execOp; simp only [e9]; go_simp) (hk _ (hI.trans (st4_keep (by decide) (by decide) (by decide) (by decide)).symm))⟩
              · have d6 := hdeps ⟨6, .data⟩ (by simp) rfl
                have d7 := hdeps ⟨7, .data⟩ (by simp) rfl
                have e60 : a.eval (.tmp 60) = .slice A3 (k + 1) C3 := tabd_at ht (t := 60) (of_decide_eq_true (by kernel_rfl)) (by kernel_rfl) d6
                have e61 : a.eval (.tmp 61) = .slice AR (i - k) CR := tabd_at ht (t := 61) (of_decide_eq_true (by kernel_rfl)) (by kernel_rfl) d7
                have hst : (St4 5 6 8 10 (W1.drew) (W1.drew.alloc (.cells #[St p, .int .i64 f, .int .i64 md] 54)) (Z3) (Z4) (Z4.setCell ⟨T, 0, none⟩ (.slice A4 (i + 1) C4))) listed = Z3 ∧ (St4 5 6 8 10 (W1.drew) (W1.drew.alloc (.cells #[St p, .int .i64 f, .int .i64 md] 54)) (Z3) (Z4) (Z4.setCell ⟨T, 0, none⟩ (.slice A4 (i + 1) C4))) (listed.setIfInBounds 8 true) = Z4 := st4_2 (by decide) (by decide) um (by omega) hun (up8 d6)
                have hw : Z3 = w0 := (hI.trans hst.1).symm
                subst hw
                exact .inl ⟨rfl, fun K hk => wp_valT (v := .slice A4 (i + 1) C4) (w' := Z4) (app_op _ _ rfl e60 e61 R4.out) (hk _ hst.2.symm)⟩
              · have e5 : a.eval (.tmp 5) = .pointer (some ⟨T, 0, none⟩) := (tabd_old ht (t := 5) (of_decide_eq_true (by kernel_rfl)) (by kernel_rfl)).trans rfl
                exact .inl ⟨rfl, fun K hk => wp_val (v := .pointer (some ⟨T, 0, none⟩)) (by generalize a.eval = ρ at *; unfold execOp; simp only [e5]; go_simp) (hk _ (hI.trans (st4_keep (by decide) (by decide) (by decide) (by decide)).symm))⟩
              · have d9 := hdeps ⟨9, .data⟩ (by simp) rfl
                have d8 := hdeps ⟨8, .data⟩ (by simp) rfl
                have e62 : a.eval (.tmp 62) = .slice A4 (i + 1) C4 := tabd_at ht (t := 62) (of_decide_eq_true (by kernel_rfl)) (by kernel_rfl) d8
                have e63 : a.eval (.tmp 63) = .pointer (some ⟨T, 0, none⟩) := tabd_at ht (t := 63) (of_decide_eq_true (by kernel_rfl)) (by kernel_rfl) d9
                have hst : (St4 5 6 8 10 (W1.drew) (W1.drew.alloc (.cells #[St p, .int .i64 f, .int .i64 md] 54)) (Z3) (Z4) (Z4.setCell ⟨T, 0, none⟩ (.slice A4 (i + 1) C4))) listed = Z4 ∧ (St4 5 6 8 10 (W1.drew) (W1.drew.alloc (.cells #[St p, .int .i64 f, .int .i64 md] 54)) (Z3) (Z4) (Z4.setCell ⟨T, 0, none⟩ (.slice A4 (i + 1) C4))) (listed.setIfInBounds 10 true) = Z4.setCell ⟨T, 0, none⟩ (.slice A4 (i + 1) C4) := st4_3 (by decide) (by omega) hun (up10 d8)
                have hw : Z4 = w0 := (hI.trans hst.1).symm
                subst hw
                exact .inl ⟨rfl, fun K hk => wp_skipT (w' := Z4.setCell ⟨T, 0, none⟩ (.slice A4 (i + 1) C4)) (by have h1 := lies_cell LZ4.out 0; have h2 := lies_free LZ4.out 0; simp only [List.getElem?_toArray, List.getElem?_cons_zero, List.getElem?_cons_succ] at h1; clear hk hst hI ht hoi hdeps; generalize a.eval = ρ at *; unfold execOp; simp only [e62, e63]; go_simp) (hk _ hst.2.symm)⟩
            case hend =>
              intro a w0 listed hall ht hI
              rw [tabd_fill ht (fun t i ho => hall i (ownAll_lt ho))]
              have hw : w0 = _ := hI.trans (st4_end (hall 10 (of_decide_eq_true (by kernel_rfl))))
              change Exit.inBlock _ (Exit.then _ _) Exit.normal { tmps := (.agg #[.slice (some ⟨b, o, none⟩) n nc, .slice FA m fc] :: .pointer (some ⟨w.heap.size, 0, none⟩) :: .pointer (some ⟨w.heap.size + 1, 0, none⟩) :: .int .i64 0 :: .bool false :: .pointer (some ⟨T, 0, none⟩) :: .int .i64 (i : Int) :: .pointer (some ⟨G, 0, none⟩) :: .int .i64 (k : Int) :: .slice AR (i - k) CR :: undef :: undef :: undef :: undef :: undef :: .agg #[.slice (some ⟨b, o, none⟩) n nc, .slice FA m fc] :: .bool false :: .bool false :: undef :: .int .i64 (i : Int) :: .pointer (some ⟨w.heap.size, 0, none⟩) :: .slice (some ⟨b, o, none⟩) n nc :: .int .i64 (n : Int) :: .bool true :: u24 :: u25 :: .pointer (some ⟨w.heap.size, 0, none⟩) :: .slice (some ⟨b, o, none⟩) n nc :: .int .i64 (i : Int) :: .pointer (some ⟨b, o + i * 3, none⟩) :: .agg #[St p, .int .i64 f, .int .i64 md] :: .int .i64 (k : Int) :: .pointer (some ⟨T, 0, none⟩) :: .slice A i C :: .int .i64 (i : Int) :: .bool false :: .bool false :: undef :: undef :: undef :: undef :: undef :: undef :: undef :: undef :: undef :: .bool false :: u47 :: u48 :: .pointer (some ⟨T, 0, none⟩) :: .slice A i C :: .int .i64 (k : Int) :: .slice DR (i - k) (C - k) :: .slice AR (i - k) CR :: .pointer (some ⟨T, 0, none⟩) :: .slice A i C :: .int .i64 (k : Int) :: .slice A k C :: .agg #[St p, .int .i64 f, .int .i64 md] :: .slice (some ⟨W1.heap.size, 0, none⟩) 1 1 :: .slice A3 (k + 1) C3 :: .slice AR (i - k) CR :: .slice A4 (i + 1) C4 :: .pointer (some ⟨T, 0, none⟩) :: undef :: undef :: undef :: undef :: undef :: undef :: undef :: undef :: undef :: undef :: undef :: undef :: undef :: undef :: undef :: undef :: undef :: undef :: undef :: undef :: undef :: undef :: undef :: undef :: undef :: undef :: undef :: undef :: undef :: undef :: undef :: undef :: undef :: undef :: undef :: undef :: undef :: undef :: undef :: undef :: undef :: undef :: undef :: undef :: undef :: undef :: undef :: undef :: undef :: undef :: undef :: undef :: undef :: undef :: undef :: undef :: undef :: undef :: undef :: undef :: undef :: undef :: undef :: undef :: undef :: undef :: undef :: undef :: undef :: undef :: undef :: undef :: undef :: undef :: undef :: undef :: undef :: undef :: undef :: undef :: undef :: undef :: undef :: []).toArray, defers := [] } w0
              clear hall ht hI
              subst hw
              have L5 := LZ5.out
              have O5 := OZ5.out
              have B5 := BZ5.out
              go_wp2
              go_roundw
              case rel => exact ⟨i + 1, by omega, by go_num, ⟨A4, C4, L5, O5⟩, B5⟩
              case measure => first | (simp [intOf]; done) | (simp [intOf]; omega)
      · have li : ¬ (i : Int) < (n : Int) := by omega
        have hin : n = i := by omega
        subst hin
        have OS : sortI (ns.take n) = sortI ns := by rw [List.take_of_length_le (by have := NE.out; omega)]
        have HO2 := HO.out
        rw [OS] at HO2
        have ml : (sortI ns).length = n := by rw [sortI_len, ← NE.out]
        have HM0 := sortI_perm ns
        have hEN := canon_end (ns := ns) (fs := fs) TB.out
        have CN0 : canonN ns fs = setN fs.length (sortI ns) := rfl
        have CF0 : canonF ns fs = setF (sortI ns) fs := rfl
        have CBAD := Lib.hid (fun (x : Nd) (hx : x ∈ sortI ns) (h1 : x.file ≠ -1) (h2 : hasF fs.length x = false) => canon_30 (canon_bad x ((sortI_perm ns).subset hx) h1 h2) TB.out)
        generalize sortI ns = ms at *
        have NMS := Lib.hid ml.symm
        have HPM := Lib.hid HM0
        have HEN := Lib.hid hEN
        have HCN := Lib.hid CN0
        have HCF := Lib.hid CF0
        have CA : CopyAt wr X.heap.size (.slice A n C) (.slice none 0 0) (fun _ => undef) ms [] := ⟨by rw [ml]; exact HO2, World.ownsRow_nil _ _ _ _, fun i hi => by simp at hi, fun i k _ hk => by simp at hk⟩
        obtain ⟨RT, hRT⟩ : ∃ RT, RT = wr.heap.size := ⟨_, rfl⟩
        have hmk := made_ints m (by have := HS.out.2.1; have := ME.out; omega) wr
        have RA := Lib.hid (made_row m (by have := HS.out.2.1; have := ME.out; omega) wr X.heap.size HW.out.size)
        have CA2 := Lib.hid (copy_kept CA (World.grownBy_alloc wr (.cells (madeCells #[.int .i64 0] m) 3) none) (fun r e => by cases e))
        have LA2 := Lib.hid (lies_alloc HL.out (.cells (madeCells #[.int .i64 0] m) 3))
        have WA2 := Lib.hid (HW.out.alloc HW.out.size (.cells (madeCells #[.int .i64 0] m) 3))
        rw [← hRT] at RA
        have hm6 : m ≤ 256 := by have := HS.out.2.1; have := ME.out; omega
        clear OS HO HO2 ml HM0 hEN CN0 CF0 CA HL HW li hlt hi t0 t1
        go_upto_region 15 with (fail)
        rw [← hRT]
        clear hmk hRT q0 q1
        generalize wr.alloc (.cells (madeCells #[.int .i64 0] m) 3) = wa at *
        go_wp2
        go_loopw [11] (fun v11 wr => ∃ i : Nat, i ≤ m ∧ v11 = .int .i64 (i : Int) ∧ CopyAt wr X.heap.size (.slice A n C) (.slice none 0 0) (fun _ => undef) ms [] ∧ wr.ownsRow X.heap.size 3 1 (.slice (some ⟨RT, 0, none⟩) m m) m (toZ m i) ∧ Lies wr T 25 #[.slice A n C, .slice none 0 0] ∧ Below X.heap.size X wr) (fun v11 _ => m - (intOf v11).toNat)
        case atStart => exact ⟨0, Nat.zero_le _, rfl, CA2.out, RA.out, LA2.out, WA2.out⟩
        case round =>
          obtain ⟨i, hi, rfl, hC, hR, hL, hb⟩ := hrel
          have CC := Lib.hid hC
          have RR := Lib.hid hR
          have LL := Lib.hid hL
          have WW := Lib.hid hb
          clear hC hR hL hb CA2 RA LA2 WA2
          by_cases hlt : i < m
          · have li : (i : Int) < (m : Int) := by omega
            have r0 : wr.cell? ⟨RT, i, none⟩ = some (.int .i64 0) := (RR.out.cellAt i (by omega)).trans (by simp [toZ, hlt])
            have r1 := RR.out.frozenAt i
            have NX := Lib.hid (ref_lay CC.out RR.out LL.out hlt)
            have RTB := (own_heap RR.out RT rfl).1
            have WX2 := Lib.hid (below_setCell WW.out (p := ⟨RT, i, none⟩) RTB (.int .i64 (-1)))
            clear RTB
            go_wp2
            go_roundw
            case rel => exact ⟨i + 1, by omega, by go_num, NX.out.1, NX.out.2.1, NX.out.2.2, WX2.out⟩
            case measure => first | (simp [intOf]; done) | (simp [intOf]; omega)
          · have li : ¬ (i : Int) < (m : Int) := by omega
            have him : m = i := by omega
            subst him
            have R2 := RR.out
            rw [toZ_last] at R2
            have R3 := Lib.hid R2
            clear R2 RR li hlt hi
            obtain ⟨q0, q1⟩ := (after _ WW.out).out
            have t0 := lies_cell LL.out 0
            simp only [List.getElem?_toArray, List.getElem?_cons_zero, List.getElem?_cons_succ] at t0
            go_wp2
            go_loopw [12] (fun v12 wr => ∃ j : Nat, j ≤ n ∧ v12 = .int .i64 (j : Int) ∧ (∃ vF D, CopyAt wr X.heap.size (.slice A n C) vF D (cur m ms j) (setF (ms.take j) fs) ∧ wr.ownsRow X.heap.size 3 1 (.slice (some ⟨RT, 0, none⟩) m m) m (toL m (ordF m (ms.take j))) ∧ Lies wr T 25 #[.slice A n C, vF]) ∧ Below X.heap.size X wr) (fun v12 _ => n - (intOf v12).toNat)
            case atStart => exact ⟨0, Nat.zero_le _, rfl, ⟨_, _, by rw [cur_first]; exact CC.out, by simpa [ordF] using R3.out, LL.out⟩, WW.out⟩
            case round =>
              obtain ⟨j, hj, rfl, ⟨vF, D, hC, hR, hL⟩, hb⟩ := hrel
              have CE := Lib.hid hC
              have RE := Lib.hid hR
              have LE := Lib.hid hL
              have WE := Lib.hid hb
              clear hC hR hL hb CC R3 LL WW q0 q1 t0
              obtain ⟨q0, q1⟩ := (after _ WE.out).out
              have t0 := lies_cell LE.out 0
              have t1 := lies_cell LE.out 1
              simp only [List.getElem?_toArray, List.getElem?_cons_zero, List.getElem?_cons_succ] at t0 t1
              by_cases hlt : j < n
              · have li : (j : Int) < (n : Int) := by omega
                have lms : j < ms.length := by have := NMS.out; omega
                have hl0 : (cur m ms j).length = n := by rw [cur_len]; exact NMS.out.symm
                have cn := CE.out.nodes
                rw [hl0] at cn
                obtain ⟨g, rfl⟩ := own_at cn (by omega)
                have u1 := (cn.cellAt (j * 3 + 1) (by omega)).trans (ncells_at (cur m ms j) j (by omega)).2.1
                rw [cur_get lms] at u1
                have u2 := cn.frozenAt (j * 3 + 1)
                have CB := Lib.hid (CBAD.out ms[j] (List.getElem_mem lms))
                have HNO := Lib.hid (fun (h : hasF m ms[j] = false) => And.intro (cur_no (m := m) lms h) (ord_no (m := m) lms h))
                obtain ⟨xf, hxf⟩ : ∃ xf, xf = ms[j].file := ⟨_, rfl⟩
                rw [← hxf] at u1
                have XF := Lib.hid hxf
                have CNR := Lib.hid cn
                clear hxf cn
                by_cases h1 : xf = -1
                · have hx1 : (xf == -1) = true := by simpa using h1
                  have hx2 : ms[j].file = -1 := by rw [← XF.out]; exact h1
                  have hno : hasF m ms[j] = false := decide_eq_false (by omega)
                  have E1 := Lib.hid (HNO.out hno)
                  have C1 := Lib.hid (show CopyAt wr X.heap.size (.slice (some ⟨g, 0, none⟩) n C) vF D (cur m ms (j + 1)) (setF (ms.take (j + 1)) fs) by
                    have h := E1.out.2
                    rw [ME.out] at h
                    rw [E1.out.1, setF_eq, h, ← setF_eq]
                    exact CE.out)
                  have R1 := Lib.hid (show wr.ownsRow X.heap.size 3 1 (.slice (some ⟨RT, 0, none⟩) m m) m (toL m (ordF m (ms.take (j + 1)))) by rw [E1.out.2]; exact RE.out)
                  subst h1
                  clear hx1 hx2
                  go_wp2
                  go_roundw
                  case rel => exact ⟨j + 1, by omega, by go_num, ⟨_, _, C1.out, R1.out, LE.out⟩, WE.out⟩
                  case measure => first | (simp [intOf]; done) | (simp [intOf]; omega)
                · have hx1 : (xf == -1) = false := by simpa using h1
                  have hx1i : ¬ xf = -1 := h1
                  by_cases h2 : hasF m ms[j] = true
                  · have h2d := of_decide_eq_true h2
                    rw [← XF.out] at h2d
                    obtain ⟨f, rfl⟩ : ∃ f : Nat, xf = f := ⟨xf.toNat, by omega⟩
                    have hfm : f < m := by omega
                    have lf1 : ¬ (f : Int) < 0 := by omega
                    have lf2 : ¬ (m : Int) ≤ (f : Int) := by omega
                    have b1 : ((f : Int) ≥ (m : Int)) = False := by simp; omega
                    have r0 := (RE.out.cellAt f (by omega)).trans (toL_at m (ordF m (ms.take j)) f hfm)
                    go_upto_region 24 with (fail)
                    by_cases h3 : (f : Int) ∈ ordF m (ms.take j)
                    · obtain ⟨q, hq0⟩ : ∃ q, q = (ordF m (ms.take j)).idxOf (f : Int) := ⟨_, rfl⟩
                      rw [toI_yes h3, ← hq0] at r0
                      have hold := ord_old (m := m) lms (by rw [← XF.out]; exact h3)
                      have hq : q = (ordF m (ms.take (j + 1))).idxOf ms[j].file := by rw [hold, ← XF.out]; exact hq0
                      have WN := Lib.hid (below_setCell WE.out (p := ⟨g, j * 3 + 1, none⟩) (own_heap CNR.out g rfl).1 (.int .i64 (q : Int)))
                      have lq : ¬ (q : Int) < 0 := by omega
                      have SS := Lib.hid (setF_eq (ms.take (j + 1)) fs)
                      have HOLD := Lib.hid hold
                      have CX := Lib.hid (show CopyAt wr X.heap.size (.slice (some ⟨g, 0, none⟩) n C) vF D (cur m ms j) (setF (ms.take (j + 1)) fs) by
                        have h := hold
                        rw [ME.out] at h
                        rw [setF_eq, h, ← setF_eq]
                        exact CE.out)
                      have RX := Lib.hid (show wr.ownsRow X.heap.size 3 1 (.slice (some ⟨RT, 0, none⟩) m m) m (toL m (ordF m (ms.take (j + 1)))) by rw [hold]; exact RE.out)
                      have HQ := Lib.hid hq
                      have GB := Lib.hid (own_heap CNR.out g rfl).1
                      have LX2 := LE
                      have WX2 := WE
                      clear hq hold hq0
                      go_upto_region 29 with (fail)
                      clear t0
                      have CZ := Lib.hid (ref_step (q := q) (copy_drew CX.out) (show wr.drew.ownsRow X.heap.size 3 1 (.slice (some ⟨RT, 0, none⟩) m m) m _ from RX.out) (lies_drew LX2.out) NMS.out lms h2 HQ.out)
                      have WN := Lib.hid (below_setCell WX2.out.drew (p := ⟨g, j * 3 + 1, none⟩) GB.out (.int .i64 (q : Int)))
                      have r0 : wr.drew.cell? ⟨RT, f, none⟩ = some (.int .i64 (q : Int)) := r0
                      have u1 : wr.drew.cell? ⟨g, j * 3 + 1, none⟩ = some (.int .i64 (f : Int)) := u1
                      have u2 : wr.drew.frozen? ⟨g, j * 3 + 1, none⟩ = false := u2
                      have t0 : wr.drew.cell? ⟨T, 0, none⟩ = some (.slice (some ⟨g, 0, none⟩) n C) := lies_cell LX2.out 0
                      go_still_tail 9, (by kernel_rfl)
                      change wpList _ _ _ _ _ wr.drew
                      generalize wr.drew = wd at *
                      go_wp2
                      go_roundw
                      case rel => exact ⟨j + 1, by omega, by go_num, ⟨_, _, CZ.out.1, CZ.out.2.1, CZ.out.2.2⟩, WN.out⟩
                      case measure => first | (simp [intOf]; done) | (simp [intOf]; omega)
                    · rw [toI_no h3] at r0
                      have hnew := ord_new (m := m) lms h2 (by rw [← XF.out]; exact h3)
                      rw [← XF.out] at hnew
                      have cf := CE.out.files
                      obtain ⟨A2, C2, e2⟩ := own_slice cf
                      obtain ⟨L, hL⟩ : ∃ L, L = (setF (ms.take j) fs).length := ⟨_, rfl⟩
                      have hLo : L = (ordF m (ms.take j)).length := by rw [hL, setF_size, ← ME.out]
                      rw [← hL] at e2
                      subst e2
                      have L256 : L ≤ 256 := by rw [hLo]; exact Nat.le_trans (ordF_len m _) hm6
                      have v1 := RE.out.frozenAt f
                      have lneg : ((-1 : Int) < 0) = True := by simp
                      have lff : f < fs.length := by have := ME.out; omega
                      obtain ⟨b, o, DA, dc, eA, hl, d1, d2, d3⟩ := HF.out f lff
                      subst eA
                      have dl := HS.out.2.2 fs[f] (List.getElem_mem _)
                      have SF := Lib.hid (show setF (ms.take (j + 1)) fs = setF (ms.take j) fs ++ [fs[f]] by
                        have h := setF_new (ms := ms) (fs := fs) (j := j) lms (by rw [← ME.out]; exact h2) (by rw [← ME.out, ← XF.out]; exact h3)
                        rw [h, ← XF.out]
                        simp [List.getD_eq_getElem?_getD, List.getElem?_eq_getElem lff])
                      generalize fs[f] = x at *
                      obtain ⟨md, d⟩ := x
                      have dl : d.length ≤ 8192 := dl
                      have d1 : X.cell? ⟨b, o + f * 2, none⟩ = some (.int .i64 md) := d1
                      have d2 : X.cell? ⟨b, o + f * 2 + 1, none⟩ = some (.slice DA d.length dc) := d2
                      have d3 : BytesAt X DA d := d3
                      have NT := ref_to (ordF m (ms.take j)) CE.out RE.out LE.out hfm h3
                      rw [← hLo] at NT
                      have RTB := (own_heap RE.out RT rfl).1
                      have wx0 := below_setCell WE.out (p := ⟨RT, f, none⟩) RTB (.int .i64 (L : Int))
                      have WT := Lib.hid wx0
                      have NTH := Lib.hid NT
                      have D1 := Lib.hid d1
                      have D2 := Lib.hid d2
                      have D3 := Lib.hid d3
                      have HLO := Lib.hid hLo
                      have HLS := Lib.hid hL
                      have HNEW := Lib.hid hnew
                      clear RTB wx0 NT d1 d2 d3 hLo hL hnew cf
                      go_upto_region 28 with (fail)
                      clear t0 t1 r0 u1 u2 q0 q1 v1
                      generalize wr.setCell ⟨RT, f, none⟩ (.int .i64 (L : Int)) = wx at *
                      obtain ⟨Ad, Cd, Z1, hr1, Ag, Cg, Z3, hr3, l1, l2, l3, l4, ⟨D', c4⟩, b1, b2, b3, b4, rows⟩ := file_worlds DA dc d md NTH.out.1 NTH.out.2.2 WT.out.size ZT.out (bytesAt_below D3.out WT.out) (by omega) (by rw [← HLS.out]; omega)
                      rw [← HLS.out] at hr3 l4 c4 b4 rows
                      rw [← SF.out] at c4
                      have rr := rows _ _ _ NTH.out.2.1
                      rw [← HNEW.out] at rr
                      have bb : ∀ W', Below X.heap.size wx W' → Below X.heap.size X W' := fun W' h => WT.out.trans h
                      have BA := Lib.hid (fun (l : Array Bool) => st4_all (i := 14) (j := 16) (k := 17) (m := 19) (l := l) (Below X.heap.size X) WT.out.drew (bb _ b1) (bb _ b2) (bb _ b3) (fun _ => bb _ b4))
                      have F3 := Lib.hid (fun (l : Array Bool) (_ : l.getD 19 false = false) => ((BA.out l).cell (p := ⟨w.heap.size, 1, none⟩) (lies_lt LX.out)).trans x1)
                      have FC1 := Lib.hid (fun (l : Array Bool) (_ : l.getD 19 false = false) => ((BA.out l).cell (p := ⟨b, o + f * 2, none⟩) hl).trans D1.out)
                      have FC2 := Lib.hid (fun (l : Array Bool) (_ : l.getD 19 false = false) => ((BA.out l).cell (p := ⟨b, o + f * 2 + 1, none⟩) hl).trans D2.out)
                      have FY := Lib.hid (fun (l : Array Bool) (hu : l.getD 19 false = false) => st4_all (i := 14) (j := 16) (k := 17) (m := 19) (A := wx.drew) (B := Z1) (C := Z1.alloc (.cells #[.int .i64 md, .slice Ad d.length Cd] 57)) (D := Z3) (E := Z3.setCell ⟨T, 1, none⟩ (.slice Ag (L + 1) Cg)) (l := l) (fun W => W.cell? ⟨T, 1, none⟩ = some (.slice A2 L C2)) (lies_cell (lies_drew NTH.out.2.2) 1) (lies_cell l1 1) (lies_cell l2 1) (lies_cell l3 1) (fun h => by rw [hu] at h; cases h))
                      have HR1 := Lib.hid hr1
                      have HR3 := Lib.hid hr3
                      have L3 := Lib.hid l3
                      have L4 := Lib.hid l4
                      have CX := Lib.hid c4
                      have RX := Lib.hid rr
                      have WX2 := Lib.hid (bb _ b4)
                      have GB := Lib.hid (own_heap CNR.out g rfl).1
                      have HQ := Lib.hid (show L = (ordF m (ms.take (j + 1))).idxOf ms[j].file by rw [HNEW.out, ← XF.out, idx_snoc h3]; exact HLO.out)
                      obtain ⟨i1, hj1_, hj0, hj1, hj2⟩ := info_parts file_info2
                      clear hr1 hr3 l1 l2 l3 l4 c4 b1 b2 b3 b4 rows rr bb BA hl D1 D2 D3 SF NTH WT CE RE LE WE
                      refine wp_region_any (by kernel_rfl) ?_
                      refine every_at (own := ownAll _) (vals := fun k_ => match k_ with | 0 => .pointer (some ⟨T, 1, none⟩) | 1 => .slice A2 L C2 | 2 => .pointer (some ⟨w.heap.size, 1, none⟩) | 3 => .slice (some ⟨b, o, none⟩) m fc | 4 => .int .i64 (f : Int) | 5 => .pointer (some ⟨b, o + f * 2, none⟩) | 6 => .pointer (some ⟨b, o + f * 2, none⟩) | 7 => .int .i64 md | 8 => .pointer (some ⟨w.heap.size, 1, none⟩) | 9 => .slice (some ⟨b, o, none⟩) m fc | 10 => .int .i64 (f : Int) | 11 => .pointer (some ⟨b, o + f * 2, none⟩) | 12 => .pointer (some ⟨b, o + f * 2 + 1, none⟩) | 13 => .slice DA d.length dc | 14 => .slice Ad d.length Cd | 15 => .agg #[.int .i64 md, .slice Ad d.length Cd] | 16 => .slice (some ⟨Z1.heap.size, 0, none⟩) 1 1 | 17 => .slice Ag (L + 1) Cg | 18 => .pointer (some ⟨T, 1, none⟩) | 19 => undef | _ => undef) id (fun l W => W = (St4 14 16 17 19 (wx.drew) (Z1) (Z1.alloc (.cells #[.int .i64 md, .slice Ad d.length Cd] 57)) (Z3) (Z3.setCell ⟨T, 1, none⟩ (.slice Ag (L + 1) Cg))) l) (acAll_of (by kernel_rfl)) (onAll_of (by kernel_rfl)) (dstAll_of (by kernel_rfl)) ?hop ?hend _ _ _ _ rfl (shut_none _) (of_decide_eq_true (by kernel_rfl)) (tabd_start (fun i => rep_false _ i)) rfl
                      case hop =>
                        intro x oi a w0 listed hoi hun hsz hcl hdeps ht hI
                        have hx : x < 20 := (Array.getElem?_eq_some_iff.1 hoi).1
                        have cx : x = 0 ∨ x = 1 ∨ x = 2 ∨ x = 3 ∨ x = 4 ∨ x = 5 ∨ x = 6 ∨ x = 7 ∨ x = 8 ∨ x = 9 ∨ x = 10 ∨ x = 11 ∨ x = 12 ∨ x = 13 ∨ x = 14 ∨ x = 15 ∨ x = 16 ∨ x = 17 ∨ x = 18 ∨ x = 19 := by omega
                        have sz : listed.size = 20 := hsz
                        have uj : listed.getD 16 false = true → listed.getD 14 false = true := fun h => hcl 15 _ rfl (hcl 16 _ rfl (h) ⟨15, .data⟩ (by simp) rfl) ⟨14, .data⟩ (by simp) rfl
                        have uk : listed.getD 17 false = true → listed.getD 16 false = true := fun h => hcl 17 _ rfl (h) ⟨16, .data⟩ (by simp) rfl
                        have um : listed.getD 19 false = true → listed.getD 17 false = true := fun h => hcl 19 _ rfl (h) ⟨17, .data⟩ (by simp) rfl
                        have ul1 : listed.getD 19 false = true → listed.getD 1 false = true := fun h => hcl 19 _ rfl (h) ⟨1, .phase⟩ (by simp) rfl
                        have ul3 : listed.getD 19 false = true → listed.getD 3 false = true := fun h => hcl 19 _ rfl (h) ⟨3, .phase⟩ (by simp) rfl
                        have ul7 : listed.getD 19 false = true → listed.getD 7 false = true := fun h => hcl 19 _ rfl (h) ⟨7, .phase⟩ (by simp) rfl
                        have ul9 : listed.getD 19 false = true → listed.getD 9 false = true := fun h => hcl 19 _ rfl (h) ⟨9, .phase⟩ (by simp) rfl
                        have ul13 : listed.getD 19 false = true → listed.getD 13 false = true := fun h => hcl 19 _ rfl (h) ⟨13, .phase⟩ (by simp) rfl
                        have up16 : listed.getD 15 false = true → listed.getD 14 false = true := fun h => hcl 15 _ rfl (h) ⟨14, .data⟩ (by simp) rfl
                        have up17 : listed.getD 16 false = true → listed.getD 16 false = true := fun h => h
                        have up19 : listed.getD 17 false = true → listed.getD 17 false = true := fun h => h
                        clear hcl
                        obtain rfl | rfl | rfl | rfl | rfl | rfl | rfl | rfl | rfl | rfl | rfl | rfl | rfl | rfl | rfl | rfl | rfl | rfl | rfl | rfl := cx
                        all_goals obtain rfl := Option.some.inj hoi
                        · have e5 : a.eval (.tmp 5) = .pointer (some ⟨T, 0, none⟩) := (tabd_old ht (t := 5) (of_decide_eq_true (by kernel_rfl)) (by kernel_rfl)).trans rfl
                          exact .inl ⟨rfl, fun K hk => wp_val (v := .pointer (some ⟨T, 1, none⟩)) (by generalize a.eval = ρ at *; unfold execOp; simp only [e5]; go_simp) (hk _ (hI.trans (st4_keep (by decide) (by decide) (by decide) (by decide)).symm))⟩
                        · have d0 := hdeps ⟨0, .data⟩ (by simp) rfl
                          have e113 : a.eval (.tmp 113) = .pointer (some ⟨T, 1, none⟩) := tabd_at ht (t := 113) (of_decide_eq_true (by kernel_rfl)) (by kernel_rfl) d0
                          have h : w0.cell? ⟨T, 1, none⟩ = some (.slice A2 L C2) := by rw [hI]; exact FY.out listed (no_of ul1 (by simp [hun]))
                          exact .inl ⟨rfl, fun K hk => wp_val (v := .slice A2 L C2) (by clear hk hI hoi hdeps ht; generalize a.eval = ρ at *; unfold execOp; simp only [e113]; go_simp) (hk _ (hI.trans (st4_keep (by decide) (by decide) (by decide) (by decide)).symm))⟩
                        · have e1 : a.eval (.tmp 1) = .pointer (some ⟨w.heap.size, 0, none⟩) := (tabd_old ht (t := 1) (of_decide_eq_true (by kernel_rfl)) (by kernel_rfl)).trans rfl
                          exact .inl ⟨rfl, fun K hk => wp_val (v := .pointer (some ⟨w.heap.size, 1, none⟩)) (by generalize a.eval = ρ at *; unfold execOp; simp only [e1]; go_simp) (hk _ (hI.trans (st4_keep (by decide) (by decide) (by decide) (by decide)).symm))⟩
                        · have d2 := hdeps ⟨2, .data⟩ (by simp) rfl
                          have e115 : a.eval (.tmp 115) = .pointer (some ⟨w.heap.size, 1, none⟩) := tabd_at ht (t := 115) (of_decide_eq_true (by kernel_rfl)) (by kernel_rfl) d2
                          have h : w0.cell? ⟨w.heap.size, 1, none⟩ = some (.slice (some ⟨b, o, none⟩) m fc) := by rw [hI]; exact F3.out listed (no_of ul3 (by simp [hun]))
                          exact .inl ⟨rfl, fun K hk => wp_val (v := .slice (some ⟨b, o, none⟩) m fc) (by clear hk hI hoi hdeps ht; generalize a.eval = ρ at *; unfold execOp; simp only [e115]; go_simp) (hk _ (hI.trans (st4_keep (by decide) (by decide) (by decide) (by decide)).symm))⟩
                        · have e13 : a.eval (.tmp 13) = .int .i64 (f : Int) := (tabd_old ht (t := 13) (of_decide_eq_true (by kernel_rfl)) (by kernel_rfl)).trans rfl
                          exact .inl ⟨rfl, fun K hk => wp_val (v := .int .i64 (f : Int)) (by generalize a.eval = ρ at *; unfold execOp; simp only [e13]; go_simp) (hk _ (hI.trans (st4_keep (by decide) (by decide) (by decide) (by decide)).symm))⟩
                        · have d3 := hdeps ⟨3, .data⟩ (by simp) rfl
                          have d4 := hdeps ⟨4, .data⟩ (by simp) rfl
                          have e116 : a.eval (.tmp 116) = .slice (some ⟨b, o, none⟩) m fc := tabd_at ht (t := 116) (of_decide_eq_true (by kernel_rfl)) (by kernel_rfl) d3
                          have e117 : a.eval (.tmp 117) = .int .i64 (f : Int) := tabd_at ht (t := 117) (of_decide_eq_true (by kernel_rfl)) (by kernel_rfl) d4
                          exact .inl ⟨rfl, fun K hk => wp_val (v := .pointer (some ⟨b, o + f * 2, none⟩)) (by generalize a.eval = ρ at *; unfold execOp; simp only [e116, e117]; go_simp) (hk _ (hI.trans (st4_keep (by decide) (by decide) (by decide) (by decide)).symm))⟩
                        · have d5 := hdeps ⟨5, .data⟩ (by simp) rfl
                          have e118 : a.eval (.tmp 118) = .pointer (some ⟨b, o + f * 2, none⟩) := tabd_at ht (t := 118) (of_decide_eq_true (by kernel_rfl)) (by kernel_rfl) d5
                          exact .inl ⟨rfl, fun K hk => wp_val (v := .pointer (some ⟨b, o + f * 2, none⟩)) (by generalize a.eval = ρ at *; unfold execOp; simp only [e118]; go_simp) (hk _ (hI.trans (st4_keep (by decide) (by decide) (by decide) (by decide)).symm))⟩
                        · have d6 := hdeps ⟨6, .data⟩ (by simp) rfl
                          have e119 : a.eval (.tmp 119) = .pointer (some ⟨b, o + f * 2, none⟩) := tabd_at ht (t := 119) (of_decide_eq_true (by kernel_rfl)) (by kernel_rfl) d6
                          have h : w0.cell? ⟨b, o + f * 2, none⟩ = some (.int .i64 md) := by rw [hI]; exact FC1.out listed (no_of ul7 (by simp [hun]))
                          exact .inl ⟨rfl, fun K hk => wp_val (v := .int .i64 md) (by clear hk hI hoi hdeps ht; generalize a.eval = ρ at *; unfold execOp; simp only [e119]; go_simp) (hk _ (hI.trans (st4_keep (by decide) (by decide) (by decide) (by decide)).symm))⟩
                        · have e1 : a.eval (.tmp 1) = .pointer (some ⟨w.heap.size, 0, none⟩) := (tabd_old ht (t := 1) (of_decide_eq_true (by kernel_rfl)) (by kernel_rfl)).trans rfl
                          exact .inl ⟨rfl, fun K hk => wp_val (v := .pointer (some ⟨w.heap.size, 1, none⟩)) (by generalize a.eval = ρ at *; unfold execOp; simp only [e1]; go_simp) (hk _ (hI.trans (st4_keep (by decide) (by decide) (by decide) (by decide)).symm))⟩
                        · have d8 := hdeps ⟨8, .data⟩ (by simp) rfl
                          have e121 : a.eval (.tmp 121) = .pointer (some ⟨w.heap.size, 1, none⟩) := tabd_at ht (t := 121) (of_decide_eq_true (by kernel_rfl)) (by kernel_rfl) d8
                          have h : w0.cell? ⟨w.heap.size, 1, none⟩ = some (.slice (some ⟨b, o, none⟩) m fc) := by rw [hI]; exact F3.out listed (no_of ul9 (by simp [hun]))
                          exact .inl ⟨rfl, fun K hk => wp_val (v := .slice (some ⟨b, o, none⟩) m fc) (by clear hk hI hoi hdeps ht; generalize a.eval = ρ at *; unfold execOp; simp only [e121]; go_simp) (hk _ (hI.trans (st4_keep (by decide) (by decide) (by decide) (by decide)).symm))⟩
                        · have e13 : a.eval (.tmp 13) = .int .i64 (f : Int) := (tabd_old ht (t := 13) (of_decide_eq_true (by kernel_rfl)) (by kernel_rfl)).trans rfl
                          exact .inl ⟨rfl, fun K hk => wp_val (v := .int .i64 (f : Int)) (by generalize a.eval = ρ at *; unfold execOp; simp only [e13]; go_simp) (hk _ (hI.trans (st4_keep (by decide) (by decide) (by decide) (by decide)).symm))⟩
                        · have d9 := hdeps ⟨9, .data⟩ (by simp) rfl
                          have d10 := hdeps ⟨10, .data⟩ (by simp) rfl
                          have e122 : a.eval (.tmp 122) = .slice (some ⟨b, o, none⟩) m fc := tabd_at ht (t := 122) (of_decide_eq_true (by kernel_rfl)) (by kernel_rfl) d9
                          have e123 : a.eval (.tmp 123) = .int .i64 (f : Int) := tabd_at ht (t := 123) (of_decide_eq_true (by kernel_rfl)) (by kernel_rfl) d10
                          exact .inl ⟨rfl, fun K hk => wp_val (v := .pointer (some ⟨b, o + f * 2, none⟩)) (by generalize a.eval = ρ at *; unfold execOp; simp only [e122, e123]; go_simp) (hk _ (hI.trans (st4_keep (by decide) (by decide) (by decide) (by decide)).symm))⟩
                        · have d11 := hdeps ⟨11, .data⟩ (by simp) rfl
                          have e124 : a.eval (.tmp 124) = .pointer (some ⟨b, o + f * 2, none⟩) := tabd_at ht (t := 124) (of_decide_eq_true (by kernel_rfl)) (by kernel_rfl) d11
                          exact .inl ⟨rfl, fun K hk => wp_val (v := .pointer (some ⟨b, o + f * 2 + 1, none⟩)) (by generalize a.eval = ρ at *; unfold execOp; simp only [e124]; go_simp) (hk _ (hI.trans (st4_keep (by decide) (by decide) (by decide) (by decide)).symm))⟩
                        · have d12 := hdeps ⟨12, .data⟩ (by simp) rfl
                          have e125 : a.eval (.tmp 125) = .pointer (some ⟨b, o + f * 2 + 1, none⟩) := tabd_at ht (t := 125) (of_decide_eq_true (by kernel_rfl)) (by kernel_rfl) d12
                          have h : w0.cell? ⟨b, o + f * 2 + 1, none⟩ = some (.slice DA d.length dc) := by rw [hI]; exact FC2.out listed (no_of ul13 (by simp [hun]))
                          exact .inl ⟨rfl, fun K hk => wp_val (v := .slice DA d.length dc) (by clear hk hI hoi hdeps ht; generalize a.eval = ρ at *; unfold execOp; simp only [e125]; go_simp) (hk _ (hI.trans (st4_keep (by decide) (by decide) (by decide) (by decide)).symm))⟩
                        · have d13 := hdeps ⟨13, .data⟩ (by simp) rfl
                          have e126 : a.eval (.tmp 126) = .slice DA d.length dc := tabd_at ht (t := 126) (of_decide_eq_true (by kernel_rfl)) (by kernel_rfl) d13
                          have hst : (St4 14 16 17 19 (wx.drew) (Z1) (Z1.alloc (.cells #[.int .i64 md, .slice Ad d.length Cd] 57)) (Z3) (Z3.setCell ⟨T, 1, none⟩ (.slice Ag (L + 1) Cg))) listed = wx.drew ∧ (St4 14 16 17 19 (wx.drew) (Z1) (Z1.alloc (.cells #[.int .i64 md, .slice Ad d.length Cd] 57)) (Z3) (Z3.setCell ⟨T, 1, none⟩ (.slice Ag (L + 1) Cg))) (listed.setIfInBounds 14 true) = Z1 := st4_0 (by decide) (by decide) (by decide) uj uk um (by omega) hun
                          have hw : wx.drew = w0 := (hI.trans hst.1).symm
                          subst hw
                          exact .inl ⟨rfl, fun K hk => wp_valT (v := .slice Ad d.length Cd) (w' := Z1) (app_op _ _ rfl rfl e126 HR1.out) (hk _ hst.2.symm)⟩
                        · have d7 := hdeps ⟨7, .data⟩ (by simp) rfl
                          have d14 := hdeps ⟨14, .data⟩ (by simp) rfl
                          have e120 : a.eval (.tmp 120) = .int .i64 md := tabd_at ht (t := 120) (of_decide_eq_true (by kernel_rfl)) (by kernel_rfl) d7
                          have e127 : a.eval (.tmp 127) = .slice Ad d.length Cd := tabd_at ht (t := 127) (of_decide_eq_true (by kernel_rfl)) (by kernel_rfl) d14
                          exact .inl ⟨rfl, fun K hk => wp_val (v := .agg #[.int .i64 md, .slice Ad d.length Cd]) (by generalize a.eval = ρ at *; unfold execOp; simp only [e120, e127]; go_simp) (hk _ (hI.trans (st4_keep (by decide) (by decide) (by decide) (by decide)).symm))⟩
                        · have d15 := hdeps ⟨15, .data⟩ (by simp) rfl
                          have e128 : a.eval (.tmp 128) = .agg #[.int .i64 md, .slice Ad d.length Cd] := tabd_at ht (t := 128) (of_decide_eq_true (by kernel_rfl)) (by kernel_rfl) d15
                          have hst : (St4 14 16 17 19 (wx.drew) (Z1) (Z1.alloc (.cells #[.int .i64 md, .slice Ad d.length Cd] 57)) (Z3) (Z3.setCell ⟨T, 1, none⟩ (.slice Ag (L + 1) Cg))) listed = Z1 ∧ (St4 14 16 17 19 (wx.drew) (Z1) (Z1.alloc (.cells #[.int .i64 md, .slice Ad d.length Cd] 57)) (Z3) (Z3.setCell ⟨T, 1, none⟩ (.slice Ag (L + 1) Cg))) (listed.setIfInBounds 16 true) = Z1.alloc (.cells #[.int .i64 md, .slice Ad d.length Cd] 57) := st4_1 (by decide) (by decide) (by decide) uk um (by omega) hun (up16 d15)
                          have hw : Z1 = w0 := (hI.trans hst.1).symm
                          subst hw
                          exact .inl ⟨rfl, fun K hk => wp_buildSlice 23 57 1 _ rfl #[.int .i64 md, .slice Ad d.length Cd] i1 _ Try.underlying23 hj1_ hj0 (by rw [hj1]; decide) (by rw [hj1]; decide) (by rw [hj1]; simp only [List.map_toArray, List.map_cons, List.map_nil, e128]; kernel_rfl) (hk _ hst.2.symm)⟩
                        · have d1 := hdeps ⟨1, .data⟩ (by simp) rfl
                          have d16 := hdeps ⟨16, .data⟩ (by simp) rfl
                          have d14 := hdeps ⟨14, .chain⟩ (by simp) rfl
                          have e114 : a.eval (.tmp 114) = .slice A2 L C2 := tabd_at ht (t := 114) (of_decide_eq_true (by kernel_rfl)) (by kernel_rfl) d1
                          have e129 : a.eval (.tmp 129) = .slice (some ⟨Z1.heap.size, 0, none⟩) 1 1 := tabd_at ht (t := 129) (of_decide_eq_true (by kernel_rfl)) (by kernel_rfl) d16
                          have hst : (St4 14 16 17 19 (wx.drew) (Z1) (Z1.alloc (.cells #[.int .i64 md, .slice Ad d.length Cd] 57)) (Z3) (Z3.setCell ⟨T, 1, none⟩ (.slice Ag (L + 1) Cg))) listed = Z1.alloc (.cells #[.int .i64 md, .slice Ad d.length Cd] 57) ∧ (St4 14 16 17 19 (wx.drew) (Z1) (Z1.alloc (.cells #[.int .i64 md, .slice Ad d.length Cd] 57)) (Z3) (Z3.setCell ⟨T, 1, none⟩ (.slice Ag (L + 1) Cg))) (listed.setIfInBounds 17 true) = Z3 := st4_2 (by decide) (by decide) um (by omega) hun (up17 d16)
                          have hw : Z1.alloc (.cells #[.int .i64 md, .slice Ad d.length Cd] 57) = w0 := (hI.trans hst.1).symm
                          subst hw
                          exact .inl ⟨rfl, fun K hk => wp_valT (v := .slice Ag (L + 1) Cg) (w' := Z3) (app_op _ _ rfl e114 e129 HR3.out) (hk _ hst.2.symm)⟩
                        · have e5 : a.eval (.tmp 5) = .pointer (some ⟨T, 0, none⟩) := (tabd_old ht (t := 5) (of_decide_eq_true (by kernel_rfl)) (by kernel_rfl)).trans rfl
                          exact .inl ⟨rfl, fun K hk => wp_val (v := .pointer (some ⟨T, 1, none⟩)) (by generalize a.eval = ρ at *; unfold execOp; simp only [e5]; go_simp) (hk _ (hI.trans (st4_keep (by decide) (by decide) (by decide) (by decide)).symm))⟩
                        · have d18 := hdeps ⟨18, .data⟩ (by simp) rfl
                          have d17 := hdeps ⟨17, .data⟩ (by simp) rfl
                          have e130 : a.eval (.tmp 130) = .slice Ag (L + 1) Cg := tabd_at ht (t := 130) (of_decide_eq_true (by kernel_rfl)) (by kernel_rfl) d17
                          have e131 : a.eval (.tmp 131) = .pointer (some ⟨T, 1, none⟩) := tabd_at ht (t := 131) (of_decide_eq_true (by kernel_rfl)) (by kernel_rfl) d18
                          have hst : (St4 14 16 17 19 (wx.drew) (Z1) (Z1.alloc (.cells #[.int .i64 md, .slice Ad d.length Cd] 57)) (Z3) (Z3.setCell ⟨T, 1, none⟩ (.slice Ag (L + 1) Cg))) listed = Z3 ∧ (St4 14 16 17 19 (wx.drew) (Z1) (Z1.alloc (.cells #[.int .i64 md, .slice Ad d.length Cd] 57)) (Z3) (Z3.setCell ⟨T, 1, none⟩ (.slice Ag (L + 1) Cg))) (listed.setIfInBounds 19 true) = Z3.setCell ⟨T, 1, none⟩ (.slice Ag (L + 1) Cg) := st4_3 (by decide) (by omega) hun (up19 d17)
                          have hw : Z3 = w0 := (hI.trans hst.1).symm
                          subst hw
                          exact .inl ⟨rfl, fun K hk => wp_skipT (w' := Z3.setCell ⟨T, 1, none⟩ (.slice Ag (L + 1) Cg)) (by have h1 := lies_cell L3.out 1; have h2 := lies_free L3.out 1; simp only [List.getElem?_toArray, List.getElem?_cons_zero, List.getElem?_cons_succ] at h1; clear hk hst hI ht hoi hdeps; generalize a.eval = ρ at *; unfold execOp; simp only [e130, e131]; go_simp) (hk _ hst.2.symm)⟩
                      case hend =>
                        intro a w0 listed hall ht hI
                        rw [tabd_fill ht (fun t i ho => hall i (ownAll_lt ho))]
                        have hw : w0 = _ := hI.trans (st4_end (hall 19 (of_decide_eq_true (by kernel_rfl))))
                        change Exit.then _ _ Exit.normal { tmps := (.agg #[.slice NA n nc, .slice (some ⟨b, o, none⟩) m fc] :: .pointer (some ⟨w.heap.size, 0, none⟩) :: .pointer (some ⟨w.heap.size + 1, 0, none⟩) :: u3 :: .bool false :: .pointer (some ⟨T, 0, none⟩) :: .int .i64 (n : Int) :: u7 :: u8 :: u9 :: .slice (some ⟨RT, 0, none⟩) m m :: .int .i64 (m : Int) :: .int .i64 (j : Int) :: .int .i64 (f : Int) :: undef :: .agg #[.slice NA n nc, .slice (some ⟨b, o, none⟩) m fc] :: .bool false :: .bool false :: undef :: .int .i64 (n : Int) :: .pointer (some ⟨w.heap.size, 0, none⟩) :: .slice NA n nc :: .int .i64 (n : Int) :: .bool false :: u24 :: u25 :: u26 :: u27 :: u28 :: u29 :: u30 :: u31 :: u32 :: u33 :: u34 :: u35 :: u36 :: u37 :: u38 :: u39 :: u40 :: u41 :: u42 :: u43 :: u44 :: u45 :: u46 :: u47 :: u48 :: u49 :: u50 :: u51 :: u52 :: u53 :: u54 :: u55 :: u56 :: u57 :: u58 :: u59 :: u60 :: u61 :: u62 :: u63 :: .pointer (some ⟨w.heap.size, 1, none⟩) :: .slice (some ⟨b, o, none⟩) m fc :: .int .i64 (m : Int) :: .slice (some ⟨RT, 0, none⟩) m m :: .int .i64 (m : Int) :: .slice (some ⟨RT, 0, none⟩) m m :: .int .i64 (m : Int) :: .bool false :: u72 :: u73 :: u74 :: u75 :: u76 :: .int .i64 (j : Int) :: .pointer (some ⟨T, 0, none⟩) :: .slice (some ⟨g, 0, none⟩) n C :: .int .i64 (n : Int) :: .bool true :: u82 :: u83 :: .pointer (some ⟨T, 0, none⟩) :: .slice (some ⟨g, 0, none⟩) n C :: .int .i64 (j : Int) :: .pointer (some ⟨g, j * 3, none⟩) :: .pointer (some ⟨g, j * 3 + 1, none⟩) :: .int .i64 (f : Int) :: .int .i64 (f : Int) :: .bool false :: .int .i64 (f : Int) :: .bool false :: .bool false :: .int .i64 (f : Int) :: .pointer (some ⟨w.heap.size, 1, none⟩) :: .slice (some ⟨b, o, none⟩) m fc :: .int .i64 (m : Int) :: .bool false :: .bool false :: u101 :: .slice (some ⟨RT, 0, none⟩) m m :: .int .i64 (f : Int) :: .pointer (some ⟨RT, f, none⟩) :: .int .i64 (-1) :: .bool true :: .slice (some ⟨RT, 0, none⟩) m m :: .int .i64 (f : Int) :: .pointer (some ⟨T, 1, none⟩) :: .slice A2 L C2 :: .int .i64 (L : Int) :: .pointer (some ⟨RT, f, none⟩) :: .pointer (some ⟨T, 1, none⟩) :: .slice A2 L C2 :: .pointer (some ⟨w.heap.size, 1, none⟩) :: .slice (some ⟨b, o, none⟩) m fc :: .int .i64 (f : Int) :: .pointer (some ⟨b, o + f * 2, none⟩) :: .pointer (some ⟨b, o + f * 2, none⟩) :: .int .i64 md :: .pointer (some ⟨w.heap.size, 1, none⟩) :: .slice (some ⟨b, o, none⟩) m fc :: .int .i64 (f : Int) :: .pointer (some ⟨b, o + f * 2, none⟩) :: .pointer (some ⟨b, o + f * 2 + 1, none⟩) :: .slice DA d.length dc :: .slice Ad d.length Cd :: .agg #[.int .i64 md, .slice Ad d.length Cd] :: .slice (some ⟨Z1.heap.size, 0, none⟩) 1 1 :: .slice Ag (L + 1) Cg :: .pointer (some ⟨T, 1, none⟩) :: u132 :: u133 :: u134 :: u135 :: u136 :: u137 :: u138 :: u139 :: u140 :: undef :: undef :: undef :: undef :: undef :: undef :: []).toArray, defers := [] } w0
                        clear hall ht hI
                        subst hw
                        clear FY F3 FC1 FC2 HR1 HR3 L3 hj1_ hj0 hj1 hj2 x0 x1 CB HNO CBAD
                        have r0 := (RX.out.cellAt f (by omega)).trans (toL_at m _ f hfm)
                        rw [toI_yes (by rw [HNEW.out]; simp), show (ordF m (ms.take (j + 1))).idxOf (f : Int) = L by rw [HQ.out, ← XF.out]] at r0
                        have hl3 : (cur m ms j).length = n := by rw [cur_len]; exact NMS.out.symm
                        have cn2 := CX.out.nodes
                        rw [hl3] at cn2
                        have u1 := (cn2.cellAt (j * 3 + 1) (by omega)).trans (ncells_at (cur m ms j) j (by omega)).2.1
                        rw [cur_get lms, ← XF.out] at u1
                        have u2 := cn2.frozenAt (j * 3 + 1)
                        have LX2 := L4
                        clear hl3 cn2
                        obtain ⟨we, hwe⟩ : ∃ we, we = Z3.setCell ⟨T, 1, none⟩ (.slice Ag (L + 1) Cg) := ⟨_, rfl⟩
                        rw [← hwe] at r0 u1 u2 LX2 CX RX WX2 L4 ⊢
                        obtain ⟨q, hqL⟩ : ∃ q, q = L := ⟨_, rfl⟩
                        rw [← hqL] at r0 HQ
                        clear hwe hqL
                        go_upto_region 29 with (fail)
                        have CZ := Lib.hid (ref_step (q := q) (copy_drew CX.out) (show we.drew.ownsRow X.heap.size 3 1 (.slice (some ⟨RT, 0, none⟩) m m) m _ from RX.out) (lies_drew LX2.out) NMS.out lms h2 HQ.out)
                        have WN := Lib.hid (below_setCell WX2.out.drew (p := ⟨g, j * 3 + 1, none⟩) GB.out (.int .i64 (q : Int)))
                        have r0 : we.drew.cell? ⟨RT, f, none⟩ = some (.int .i64 (q : Int)) := r0
                        have u1 : we.drew.cell? ⟨g, j * 3 + 1, none⟩ = some (.int .i64 (f : Int)) := u1
                        have u2 : we.drew.frozen? ⟨g, j * 3 + 1, none⟩ = false := u2
                        have t0 : we.drew.cell? ⟨T, 0, none⟩ = some (.slice (some ⟨g, 0, none⟩) n C) := lies_cell LX2.out 0
                        go_still_tail 9, (by kernel_rfl)
                        change wpList _ _ _ _ _ we.drew
                        generalize we.drew = wd at *
                        go_wp2
                        go_roundw
                        case rel => exact ⟨j + 1, by omega, by go_num, ⟨_, _, CZ.out.1, CZ.out.2.1, CZ.out.2.2⟩, WN.out⟩
                        case measure => first | (simp [intOf]; done) | (simp [intOf]; omega)
                  · have h2 : hasF m ms[j] = false := by simpa using h2
                    have h2d := of_decide_eq_false h2
                    rw [← XF.out] at h2d
                    have hz : canonE ns fs = 30 := CB.out (by rw [← XF.out]; exact hx1i) (by rw [← ME.out]; exact h2)
                    obtain rfl : z = 30 := HZ.out.trans hz
                    have LRW := Lib.hid (lies_below LR.out WE.out (lies_lt LR.out))
                    have BZ := Lib.hid (below_setRow (HB.out.trans (WE.out.mono HB.out.size)) (g := w.heap.size + 1) (by omega) #[.slice none 0 0, .slice none 0 0])
                    clear hz
                    by_cases h4 : xf < 0
                    · go_wp2_with (refine wpList_store_row rfl 25 _ _ rfl (w.heap.size + 1) #[.slice none 0 0, .slice none 0 0] rfl rfl 25 _ LRW.out (by kernel_rfl) rfl (by simp [Value.oneCell']) ?_)
                      refine bodyPost_ret (results_row_tmp2 rfl _ _ (w.heap.size + 1) 25 #[.slice none 0 0, .slice none 0 0] (0, 0) _ rfl (.int .i64 30) rfl (lies_setRow LRW.out _) Try.underlying25 rfl (by kernel_rfl)) rfl ?_
                      first | exact ⟨⟨_, _, fun _ => undef, rfl, fun h => absurd h (by decide), fun _ => ⟨rfl, rfl⟩⟩, BZ.out⟩ | exact ⟨rfl, BZ.out⟩ | exact ⟨⟨rfl, rfl⟩, BZ.out⟩
                    · have h5 : (m : Int) ≤ xf := by omega
                      have b1 : (xf ≥ (m : Int)) = True := by simp; omega
                      go_wp2_with (refine wpList_store_row rfl 25 _ _ rfl (w.heap.size + 1) #[.slice none 0 0, .slice none 0 0] rfl rfl 25 _ LRW.out (by kernel_rfl) rfl (by simp [Value.oneCell']) ?_)
                      refine bodyPost_ret (results_row_tmp2 rfl _ _ (w.heap.size + 1) 25 #[.slice none 0 0, .slice none 0 0] (0, 0) _ rfl (.int .i64 30) rfl (lies_setRow LRW.out _) Try.underlying25 rfl (by kernel_rfl)) rfl ?_
                      first | exact ⟨⟨_, _, fun _ => undef, rfl, fun h => absurd h (by decide), fun _ => ⟨rfl, rfl⟩⟩, BZ.out⟩ | exact ⟨rfl, BZ.out⟩ | exact ⟨⟨rfl, rfl⟩, BZ.out⟩
              · have li : ¬ (j : Int) < (n : Int) := by omega
                have hjn : n = j := by omega
                subst hjn
                have CL := CE.out
                rw [cur_last m ms n (by have := NMS.out; omega), List.take_of_length_le (by have := NMS.out; omega)] at CL
                have lenN : (setN m ms).length = n := by rw [setN_len]; exact NMS.out.symm
                have PTH : ∀ x ∈ setN m ms, x.path.length ≤ 100000 := fun x hx => by
                  obtain ⟨y, hy, e⟩ := setN_path2 hx
                  rw [← e]
                  exact HP.out y (HPM.out.subset hy)
                obtain ⟨A4, C4, e4, hN4⟩ := copy_nodes CL
                obtain ⟨A5, C5, e5, hF4⟩ := copy_files CL
                obtain ⟨L, hL⟩ : ∃ L, L = (setF ms fs).length := ⟨_, rfl⟩
                have L256 : L ≤ 256 := by rw [hL, setF_size, ← ME.out]; exact Nat.le_trans (ordF_len m _) hm6
                rw [lenN] at e4
                obtain ⟨rfl, rfl⟩ : A = A4 ∧ C = C4 := by injection e4 with h1 h2 h3; exact ⟨h1, h3⟩
                rw [← hL] at e5
                subst e5
                have KF0 := HFORM.out A A5 C C5 (setN m ms) (setF ms fs) wr hN4 hF4 PTH (by omega) (by omega)
                rw [lenN, ← hL] at KF0
                have KF := Lib.hid KF0
                have EN := Lib.hid HEN.out
                have CLH := Lib.hid CL
                have R4 := Lib.hid (lies_range LE.out)
                clear CL lenN PTH hN4 hF4 hL KF0 e4
                obtain ⟨bq, hbq⟩ : ∃ bq, bq = looseB (setN m ms) (setF ms fs) := ⟨_, rfl⟩
                rw [← hbq] at KF
                have HBQ := Lib.hid hbq
                clear hbq
                go_upto_region 31 with (first
                  | (refine wpList_load_mid rfl 25 _ rfl T 0 rfl [.slice A n C, .slice A5 L C5] _ R4.out Try.underlying25 rfl (by kernel_rfl) ?_)
                  | (go_at_call 45; (with_reducible refine KF.out.mono ?_); rintro e w5 ⟨rfl, hb⟩; have B5 := Lib.hid (WE.out.trans (hb.mono WE.out.size)); have L5 := Lib.hid (lies_below LE.out hb (lies_lt LE.out)); have C5h := Lib.hid (copy_below CLH.out hb); clear hb))
                have R5 := Lib.hid (lies_range L5.out)
                have LR5 := Lib.hid (lies_below LR.out B5.out (lies_lt LR.out))
                clear t0 t1 q0 q1 R4 KF
                cases bq with
                | true =>
                  have hz : canonE ns fs = 0 := by rw [EN.out, HCN.out, HCF.out, ← ME.out, ← HBQ.out]; rfl
                  obtain rfl : z = 0 := HZ.out.trans hz
                  have CZ := C5h.out
                  rw [show setN m ms = canonN ns fs by rw [HCN.out, ME.out], ← HCF.out] at CZ
                  have CF := Lib.hid (copy_mono (copy_kept CZ (grown_setRow w5 (w.heap.size + 1) #[.slice A n C, .slice A5 L C5]) (fun r e => by injection e with e; subst e; exact ⟨_, 25, LR5.out, by decide, by decide, by decide⟩)) HB.out.size)
                  have BZ := Lib.hid (below_setRow (HB.out.trans (B5.out.mono HB.out.size)) (g := w.heap.size + 1) (by omega) #[.slice A n C, .slice A5 L C5])
                  clear CZ hz EN C5h
                  go_wp2_with (first
                    | (refine wpList_load_mid rfl 25 _ rfl T 0 rfl [.slice A n C, .slice A5 L C5] _ R5.out Try.underlying25 rfl (by kernel_rfl) ?_)
                    | (refine wpList_store_row rfl 25 _ _ rfl (w.heap.size + 1) #[.slice A n C, .slice A5 L C5] rfl rfl 25 _ LR5.out (by kernel_rfl) rfl (by simp [Value.oneCell']) ?_))
                  refine bodyPost_ret (results_row_tmp2 rfl _ _ (w.heap.size + 1) 25 #[.slice A n C, .slice A5 L C5] (0, 0) _ rfl (.int .i64 0) rfl (lies_setRow LR5.out _) Try.underlying25 rfl (by kernel_rfl)) rfl ?_
                  first | exact ⟨⟨_, _, D, rfl, fun _ => CF.out, fun h => absurd rfl h⟩, BZ.out⟩ | exact ⟨⟨_, _, rfl, _, CF.out⟩, BZ.out⟩
                | false =>
                  have hz : canonE ns fs = 30 := by rw [EN.out, HCN.out, HCF.out, ← ME.out, ← HBQ.out]; rfl
                  obtain rfl : z = 30 := HZ.out.trans hz
                  have BZ := Lib.hid (below_setRow (HB.out.trans (B5.out.mono HB.out.size)) (g := w.heap.size + 1) (by omega) #[.slice none 0 0, .slice none 0 0])
                  clear hz EN C5h
                  go_wp2_with (refine wpList_store_row rfl 25 _ _ rfl (w.heap.size + 1) #[.slice none 0 0, .slice none 0 0] rfl rfl 25 _ LR5.out (by kernel_rfl) rfl (by simp [Value.oneCell']) ?_)
                  refine bodyPost_ret (results_row_tmp2 rfl _ _ (w.heap.size + 1) 25 #[.slice none 0 0, .slice none 0 0] (0, 0) _ rfl (.int .i64 30) rfl (lies_setRow LR5.out _) Try.underlying25 rfl (by kernel_rfl)) rfl ?_
                  first | exact ⟨⟨_, _, fun _ => undef, rfl, fun h => absurd h (by decide), fun _ => ⟨rfl, rfl⟩⟩, BZ.out⟩ | exact ⟨rfl, BZ.out⟩ | exact ⟨⟨rfl, rfl⟩, BZ.out⟩
end Go.Proofs.Ytjagddhkoacipaa
