/-
What is proved here: the law TreeUnnamed, by a contract.
-/
import Derived.Test.YtaanihmbnjjhcaaUn1M
set_option linter.unusedSimpArgs false
set_option linter.unusedVariables false
namespace Go.Proofs.Ytaanihmbnjjhcaa
open Go.Pth Go.Tre Go.RowKit Go.Word Go.Shelf
attribute [local go_sem] guard_eq guard_ne st_eql st_neq
set_option maxRecDepth 100000 in
set_option maxHeartbeats 16000000 in
theorem unnamed_law (NA FA : Option Addr) (nc fc : Nat) (ns : List Nd) (fs : List Fl) (more : Int) (w : World) (hN : NodesAt w NA ns) (hF : FilesAt w FA fs)
    (h1 : ns.length ≤ 140737488355328) (h2 : fs.length ≤ 140737488355328) (h3 : ∀ x ∈ ns, x.path.length ≤ 140737488355328) (h4 : ∀ x ∈ fs, x.data.length ≤ 140737488355328) :
    Calls Try.prog 7 #[.agg #[.slice NA ns.length nc, .slice FA fs.length fc], .int .i64 more] w fun e w' => e = .returned (.bool true) ∧ Below w.heap.size w w' := by
  have L := lies_new w 25 #[.slice NA ns.length nc, .slice FA fs.length fc]
  have hB : Below w.heap.size w (w.alloc (.cells #[.slice NA ns.length nc, .slice FA fs.length fc] 25)) := (Below.refl _ _).alloc (Nat.le_refl _) _
  have KB := fun (W : World) (hb : Below w.heap.size w W) => Lib.hid (big_any NA FA nc fc ns fs W (nodesAt_below hN hb) (filesAt_below hF hb) h1 h2 h3 h4)
  have sp : Small ns fs → ∀ x ∈ ns, x.path.length ≤ 100000 := fun hs x hx => Nat.le_trans (hs.2.2.1 x hx) (by decide)
  have KL := fun (W : World) (hb : Below w.heap.size w W) (hs : Small ns fs) => Lib.hid (loose_any NA FA nc fc ns fs W (nodesAt_below hN hb) (filesAt_below hF hb) (sp hs))
  have KC := fun (W : World) (hb : Below w.heap.size w W) (hs : Small ns fs) => Lib.hid (copy_any NA FA nc fc ns fs W (nodesAt_below hN hb) (filesAt_below hF hb) hs.1 hs.2.1 hs.2.2.2)
  have KS := fun (W : World) (MA GA : Option Addr) (mc gc : Nat) (ms : List Nd) (gs : List Fl) (hb : Below w.heap.size w W) (hM : NodesAt W MA ms) (hG : FilesAt W GA gs) (hs : ∀ x ∈ ms, x.path.length ≤ 100000) => Lib.hid (same_any MA GA NA FA mc gc nc fc ms ns gs fs W hM hG (nodesAt_below hN hb) (filesAt_below hF hb) hs)
  have HN := Lib.hid (nodesAt_below hN hB)
  have HF := Lib.hid (filesAt_below hF hB)
  clear h1 h2 h3 h4 sp
  have x0 := lies_cell L 0
  have x1 := lies_cell L 1
  simp only [List.getElem?_toArray, List.getElem?_cons_zero, List.getElem?_cons_succ] at x0 x1
  have LX := Lib.hid L
  have HB := Lib.hid hB
  clear L hB hN hF
  generalize hne : ns.length = n at *
  generalize hme : fs.length = m at *
  have NE := Lib.hid hne.symm
  have ME := Lib.hid hme.symm
  clear hne hme
  have after : ∀ W, Below (w.alloc (.cells #[.slice NA n nc, .slice FA m fc] 25)).heap.size (w.alloc (.cells #[.slice NA n nc, .slice FA m fc] 25)) W →
      Hid (W.cell? ⟨w.heap.size, 0, none⟩ = some (.slice NA n nc) ∧ W.cell? ⟨w.heap.size, 1, none⟩ = some (.slice FA m fc)) := fun W hb =>
    Lib.hid ⟨(hb.cell (p := ⟨w.heap.size, 0, none⟩) (lies_lt LX.out)).trans x0, (hb.cell (p := ⟨w.heap.size, 1, none⟩) (lies_lt LX.out)).trans x1⟩
  go_enter Try.func7, Try.ntmps7
  go_upto_region 1 with (fail)
  generalize w.alloc (.cells #[.slice NA n nc, .slice FA m fc] 25) = X at *
  have up : ∀ W, Below X.heap.size X W → Below w.heap.size w W := fun W hb => HB.out.trans (hb.mono HB.out.size)
  go_upto_region 3 with (first
    | (go_at_call 8; (with_reducible refine (alive_any _).mono ?_); rintro e w1 ⟨rfl, hb⟩; obtain ⟨p0, p1⟩ := (after _ hb).out; have B1 := Lib.hid hb; clear hb)
    | (go_at_call 9; (with_reducible refine (KB _ (up _ B1.out)).out.mono ?_); rintro e w2 ⟨⟨b1, rfl, hs1⟩, hb⟩; have S1 := Lib.hid hs1; have B2 := Lib.hid (B1.out.trans (hb.mono B1.out.size)); clear hb hs1; obtain ⟨q0, q1⟩ := (after _ B2.out).out))
  cases b1 with
  | true =>
    go_wp2
    go_ret
    exact ⟨rfl, up _ B2.out⟩
  | false =>
    have SS := Lib.hid (S1.out rfl)
    clear S1 p0 p1 x0 x1 KB
    by_cases hm0 : more < 0
    · go_wp2
      go_ret
      exact ⟨rfl, up _ B2.out⟩
    by_cases hm5 : 5 < more
    · go_wp2
      go_ret
      exact ⟨rfl, up _ B2.out⟩
    by_cases hm2 : 200 < (m : Int)
    · go_wp2
      go_ret
      exact ⟨rfl, up _ B2.out⟩
    by_cases hz : looseE ns fs = 0
    · have LO := Lib.hid hz
      rw [hz] at KL
      have h256 : n ≤ 256 ∧ m ≤ 256 := by have := loose_small hz; have := NE.out; have := ME.out; omega
      have hn6 := h256.1
      have hm6 : m ≤ 200 := by omega
      clear hz h256
      obtain ⟨r, rfl⟩ : ∃ r : Nat, more = r := ⟨more.toNat, by omega⟩
      have hr5 : r ≤ 5 := by omega
      go_upto_region 5 with (first
        | (go_at_call 17; (with_reducible refine (KL _ (up _ B2.out) SS.out).out.mono ?_); rintro e w3 ⟨rfl, hb⟩; have B3 := Lib.hid (B2.out.trans (hb.mono B2.out.size)); clear hb; obtain ⟨r0, r1⟩ := (after _ B3.out).out)
        | (go_at_call 13; (with_reducible refine (num_any _ _).mono ?_); rintro e w3' ⟨rfl, rfl⟩))
      go_upto_region 6 with (go_at_call 21; (with_reducible refine (KC _ (up _ B3.out) SS.out).out.mono ?_); rintro e w4 ⟨vN, vF, D, rfl, hC, hb⟩; have B4 := Lib.hid (B3.out.trans (hb.mono B3.out.size)); have ZBT := Lib.hid hb.size; obtain ⟨A1, C1, rfl⟩ := own_slice hC.nodes; obtain ⟨A2, C2, rfl⟩ := own_slice hC.files; rw [← NE.out, ← ME.out]; have C4 := Lib.hid hC; clear hb hC; obtain ⟨s0, s1⟩ := (after _ B4.out).out)
      have LT := Lib.hid (lies_new w4 25 #[.slice A1 n C1, .slice A2 m C2])
      have B5 := Lib.hid (B4.out.alloc B4.out.size (.cells #[.slice A1 n C1, .slice A2 m C2] 25))
      have CC := Lib.hid (copy_kept C4.out (World.grownBy_alloc w4 (.cells #[.slice A1 n C1, .slice A2 m C2] 25) none) (fun r e => by cases e))
      have ZB := Lib.hid B3.out.size
      have ZW := Lib.hid (show w3.heap.size ≤ (w4.alloc (.cells #[.slice A1 n C1, .slice A2 m C2] 25)).heap.size from Nat.le_trans ZBT.out (by simp))
      clear r0 r1 s0 s1 C4
      rw [← NE.out, ← ME.out] at CC
      generalize w4.alloc (.cells #[.slice A1 n C1, .slice A2 m C2] 25) = W5 at *
      generalize w4.heap.size = T at *
      generalize w3.heap.size = BB at *
      go_wp2
      go_loopw [8] (fun v8 wr => ∃ i : Nat, i ≤ r ∧ v8 = .int .i64 (i : Int) ∧ (∃ A3 C3 D3, Lies wr T 25 #[.slice A1 n C1, .slice A3 (fs ++ moreF i).length C3] ∧ CopyAt wr BB (.slice A1 n C1) (.slice A3 (fs ++ moreF i).length C3) D3 ns (fs ++ moreF i)) ∧ Below X.heap.size X wr ∧ BB ≤ wr.heap.size) (fun v8 _ => r - (intOf v8).toNat)
      case atStart =>
        refine ⟨0, Nat.zero_le _, rfl, ⟨A2, C2, D, ?_, ?_⟩, B5.out, ZW.out⟩
        · have := LT.out
          rw [ME.out] at this
          simpa [moreF] using this
        · have := CC.out
          rw [ME.out] at this
          simpa [moreF] using this
      case round =>
        obtain ⟨i, hi, rfl, ⟨A3, C3, D3, hL, hC⟩, hB, hZ⟩ := hrel
        have HLJ := Lib.hid hL
        have HCJ := Lib.hid hC
        have HBJ := Lib.hid hB
        have HZJ := Lib.hid hZ
        clear hL hC hB hZ LT CC B5 ZW q0 q1
        obtain ⟨q0, q1⟩ := (after _ HBJ.out).out
        by_cases hlt : i < r
        · have li : (i : Int) < (r : Int) := by omega
          obtain ⟨lq, hlq⟩ : ∃ lq, lq = (fs ++ moreF i).length := ⟨_, rfl⟩
          have lqs : lq ≤ 1000 := by rw [hlq, List.length_append, moreF_len]; have := ME.out; omega
          obtain ⟨A4, C4, Z, D4, hr, hc, hl, hl3, hb⟩ := copy_one (UInt8.ofNat i) HCJ.out HLJ.out HZJ.out ZBT.out (by rw [← hlq]; exact lqs)
          have hcn : ((UInt8.ofNat i).toNat : Int) = (i : Int) := by rw [UInt8.toNat_ofNat']; omega
          have e1 : fs ++ moreF (i + 1) = fs ++ moreF i ++ [⟨-5, [UInt8.ofNat i]⟩] := by rw [moreF_succ, List.append_assoc]
          have e2 : (fs ++ moreF (i + 1)).length = lq + 1 := by rw [e1, List.length_append, ← hlq]; rfl
          rw [← hlq] at hr hc hl hl3 hb HLJ
          rw [hcn] at hr
          rw [← e1] at hc
          have E2 := Lib.hid e2
          have HR := Lib.hid hr
          have HCC := Lib.hid hc
          have HLL := Lib.hid hl
          have BX6 := Lib.hid (HBJ.out.trans (hb.mono ZB.out))
          have ZZ6 := Lib.hid (Nat.le_trans HZJ.out (hb.size))
          have hw : (i : Int) % 256 = (i : Int) := by omega
          have hw2 : IntKind.u8.wrap (i : Int) = (i : Int) := by simp only [IntKind.wrap, IntKind.bits, IntKind.signed]; simp; omega
          have z0 := lies_cell hl3 0
          have z1 := lies_cell hl3 1
          have t0 := lies_cell HLJ.out 0
          have t1 := lies_cell HLJ.out 1
          have vz := lies_free hl3 1
          simp only [List.getElem?_toArray, List.getElem?_cons_zero, List.getElem?_cons_succ] at z0 z1 t0 t1
          clear hr hc hl hl3 hb hcn e1 e2 HCJ
          clear hlq
          go_wp2_with (refine wpList_app_run rfl _ _ rfl rfl rfl HR.out ?_)
          go_roundw
          case rel => exact ⟨i + 1, by omega, by go_num, ⟨A4, C4, D4, by rw [E2.out]; exact HLL.out, by rw [E2.out]; exact HCC.out⟩, BX6.out, ZZ6.out⟩
          case measure => first | (simp [intOf]; done) | (simp [intOf]; omega)
        · have hir : i = r := by omega
          subst hir
          have li : ¬ (i : Int) < (i : Int) := by omega
          have t0 := lies_cell HLJ.out 0
          have t1 := lies_cell HLJ.out 1
          simp only [List.getElem?_toArray, List.getElem?_cons_zero, List.getElem?_cons_succ] at t0 t1
          obtain ⟨lq, hlq⟩ : ∃ lq, lq = (fs ++ moreF i).length := ⟨_, rfl⟩
          have lq1 : lq = m + i := by rw [hlq, List.length_append, moreF_len, ← ME.out]
          have sml : ∀ y ∈ fs ++ moreF i, y.data.length ≤ 8192 := fun y hy => by
            rcases List.mem_append.1 hy with h | h
            · exact (loose_small LO.out).2.2 y h
            · exact moreF_small i y h
          have TB := Lib.hid (tooB_of (n := ns.length) (fs := fs ++ moreF i) (by have := NE.out; omega) (by rw [← hlq]; omega) sml)
          have PS : ∀ y ∈ ns, y.path.length ≤ 100000 := fun y hy => Nat.le_trans (SS.out.2.2.1 y hy) (by decide)
          obtain ⟨NA3, nc3, e3, hN3⟩ := copy_nodes HCJ.out
          obtain ⟨FA3, fc3, e4, hF3⟩ := copy_files HCJ.out
          obtain ⟨rfl, rfl⟩ : A1 = NA3 ∧ C1 = nc3 := by injection e3 with h1 h2 h3; exact ⟨h1, h3⟩
          obtain ⟨rfl, rfl⟩ : A3 = FA3 ∧ C3 = fc3 := by injection e4 with h1 h2 h3; exact ⟨h1, h3⟩
          clear e3 e4
          have K1 := canon_any A1 A3 C1 C3 ns (fs ++ moreF i) wr hN3 hF3 PS
          rw [canon_more_code (moreF i) LO.out TB.out, (canon_more (moreF i) LO.out).1, (canon_more (moreF i) LO.out).2, ← NE.out, ← hlq] at K1
          have KK1 := Lib.hid K1
          have HPS := Lib.hid PS
          rw [← hlq] at HLJ t1
          have LQ := Lib.hid hlq
          have LQ1 := Lib.hid lq1
          clear K1 PS hN3 hF3 sml hlq lq1
          have hli : ¬ (i : Int) < (i : Int) := by omega
          go_upto_region 11 with (go_at_call 11; (with_reducible refine KK1.out.mono ?_); rintro e w6 ⟨⟨vN6, vF6, D6, rfl, hc6, _⟩, hb⟩; have C6 := Lib.hid (hc6 rfl); have Z6 := Lib.hid hb; clear hb hc6; obtain ⟨A6, E6, rfl⟩ := own_slice C6.out.nodes; obtain ⟨A7, E7, rfl⟩ := own_slice C6.out.files; rw [← NE.out, ← ME.out])
          have b7 : Below w6.heap.size w6 (w6.alloc (.cells #[.slice A6 n E6, .slice A7 m E7] 25)) := (Below.refl _ _).alloc (Nat.le_refl _) _
          have L7 := Lib.hid (lies_new w6 25 #[.slice A6 n E6, .slice A7 m E7])
          have C7 := Lib.hid (copy_below C6.out b7)
          have B7 := Lib.hid (HBJ.out.trans ((Z6.out.trans (b7.mono Z6.out.size)).mono HBJ.out.size))
          have ZJ7 := Lib.hid (Z6.out.trans (b7.mono Z6.out.size))
          rw [← NE.out, ← ME.out] at C7
          clear C6 Z6 b7 q0 q1 t0 t1
          generalize w6.alloc (.cells #[.slice A6 n E6, .slice A7 m E7] 25) = W7 at *
          generalize w6.heap.size = T7 at *
          obtain ⟨q0, q1⟩ := (after _ B7.out).out
          have z0 := lies_cell L7.out 0
          have z1 := lies_cell L7.out 1
          have L7J := Lib.hid (lies_below HLJ.out ZJ7.out (lies_lt HLJ.out))
          have t0 := lies_cell L7J.out 0
          have t1 := lies_cell L7J.out 1
          simp only [List.getElem?_toArray, List.getElem?_cons_zero, List.getElem?_cons_succ] at z0 z1 t0 t1
          obtain ⟨NA7, nc7, e7, hN7⟩ := copy_nodes C7.out
          obtain ⟨FA7, fc7, e8, hF7⟩ := copy_files C7.out
          obtain ⟨rfl, rfl⟩ : A6 = NA7 ∧ E6 = nc7 := by injection e7 with h1 h2 h3; exact ⟨h1, h3⟩
          obtain ⟨rfl, rfl⟩ : A7 = FA7 ∧ E7 = fc7 := by injection e8 with h1 h2 h3; exact ⟨h1, h3⟩
          clear e7 e8
          have KSS := KS W7 A6 A7 E6 E7 ns fs (up _ B7.out) hN7 hF7 HPS.out
          rw [show sameT ns fs ns fs = true from by unfold sameT; simp [LO.out], ← NE.out, ← ME.out] at KSS
          have C8 := Lib.hid (copy_below HCJ.out ZJ7.out)
          clear hN7 hF7 KS KK1 C7
          go_upto_region 13 with (first
            | (go_at_call 13; (with_reducible refine (num_any _ _).mono ?_); rintro e w3' ⟨rfl, rfl⟩)
            | (go_at_call 18; (with_reducible refine KSS.out.mono ?_); rintro e w8 ⟨rfl, hb⟩; have Z8 := Lib.hid hb; clear hb))
          have B8 := Lib.hid (B7.out.trans (Z8.out.mono B7.out.size))
          have C9 := Lib.hid (copy_below C8.out Z8.out)
          have L9 := Lib.hid (lies_below L7J.out Z8.out (lies_lt L7J.out))
          have ZB8 := Lib.hid (Nat.le_trans HZJ.out (Nat.le_trans ZJ7.out.size Z8.out.size))
          clear q0 q1 z0 z1 t0 t1 C8 L7J
          obtain ⟨q0, q1⟩ := (after _ B8.out).out
          have t0 := lies_cell L9.out 0
          have t1 := lies_cell L9.out 1
          simp only [List.getElem?_toArray, List.getElem?_cons_zero, List.getElem?_cons_succ] at t0 t1
          by_cases h255 : 255 ≤ (n : Int)
          · go_wp2
            go_ret
            exact ⟨rfl, up _ B8.out⟩
          · obtain ⟨A4, C4, Z, hr, hc, hl, hl3, hb⟩ := node_one ⟨[122, 122, 45, 110, 111, 110, 101], (lq : Int), 0⟩ (by have := C9.out; rw [← LQ.out] at this; exact this) L9.out ZB8.out ZBT.out (by have := NE.out; omega)
            rw [← NE.out] at hr hc hl hb
            have HR := Lib.hid hr
            have B10 := Lib.hid (B8.out.trans (hb.mono ZB.out))
            have fz := lies_free hl3 0
            have c0 := lies_cell hl3 0
            have d0 := lies_cell hl 0
            have d1 := lies_cell hl 1
            simp only [List.getElem?_toArray, List.getElem?_cons_zero, List.getElem?_cons_succ] at c0 d0 d1
            obtain ⟨NA9, nc9, e7, hN9⟩ := copy_nodes hc
            obtain ⟨FA9, fc9, e8, hF9⟩ := copy_files hc
            have e10 : (ns ++ [(⟨[122, 122, 45, 110, 111, 110, 101], (lq : Int), 0⟩ : Nd)]).length = n + 1 := by rw [List.length_append, ← NE.out]; rfl
            rw [e10] at e7
            rw [← LQ.out] at e8
            obtain ⟨rfl, rfl⟩ : A4 = NA9 ∧ C4 = nc9 := by injection e7 with h1 h2 h3; exact ⟨h1, h3⟩
            obtain ⟨rfl, rfl⟩ : A3 = FA9 ∧ C3 = fc9 := by injection e8 with h1 h2 h3; exact ⟨h1, h3⟩
            clear e7 e8
            have K2 := canon_any A4 A3 C4 C3 (ns ++ [(⟨[122, 122, 45, 110, 111, 110, 101], (lq : Int), 0⟩ : Nd)]) (fs ++ moreF i) (Z.setCell ⟨T, 0, none⟩ (.slice A4 (n + 1) C4)) hN9 hF9 (fun y hy => by
              rcases List.mem_append.1 hy with h | h
              · exact HPS.out y h
              · rw [List.mem_singleton.1 h]; simp)
            have tb2 : tooB (ns ++ [(⟨[122, 122, 45, 110, 111, 110, 101], (lq : Int), 0⟩ : Nd)]).length (fs ++ moreF i) = false := by
              obtain ⟨_, k2, k3⟩ := tooB_no TB.out
              exact tooB_of (by rw [e10]; omega) k2 k3
            rw [canon_30 (canon_out ⟨[122, 122, 45, 110, 111, 110, 101], (lq : Int), 0⟩ (by simp) (by show ((fs ++ moreF i).length : Int) ≤ (lq : Int); have := LQ.out; omega)) tb2, e10, ← LQ.out] at K2
            have KK2 := Lib.hid K2
            clear K2 tb2 hN9 hF9 hr hc hl hl3 hb e10 C9 HCJ
            go_upto_region 16 with (refine wpList_app_run rfl _ _ rfl rfl rfl HR.out ?_)
            go_upto_region 17 with (go_at_call 11; (with_reducible refine KK2.out.mono ?_); rintro e w10 ⟨⟨vN9, vF9, D9, rfl, _, hz9⟩, hb⟩; obtain ⟨rfl, rfl⟩ := hz9 (by decide); have Z10 := Lib.hid hb; clear hb)
            go_wp2_with (go_at_call 13; (with_reducible refine (num_any _ _).mono ?_); rintro e w3' ⟨rfl, rfl⟩)
            go_ret
            exact ⟨rfl, up _ ((B10.out.trans (Z10.out.mono B10.out.size)).alloc (Nat.le_trans B10.out.size Z10.out.size) _)⟩
    · have hzn : (looseE ns fs != 0) = true := by simpa using hz
      have hzb : (looseE ns fs == 0) = false := by simpa using hz
      clear hz
      generalize looseE ns fs = z at *
      go_wp2_with (first
        | (go_at_call 17; (with_reducible refine (KL _ (up _ B2.out) SS.out).out.mono ?_); rintro e w3 ⟨rfl, hb⟩; have B3 := Lib.hid (B2.out.trans (hb.mono B2.out.size)); clear hb; obtain ⟨r0, r1⟩ := (after _ B3.out).out)
        | (go_at_call 13; (with_reducible refine (num_any _ _).mono ?_); rintro e w3' ⟨rfl, rfl⟩))
      go_ret
      exact ⟨rfl, up _ B3.out⟩
end Go.Proofs.Ytaanihmbnjjhcaa
