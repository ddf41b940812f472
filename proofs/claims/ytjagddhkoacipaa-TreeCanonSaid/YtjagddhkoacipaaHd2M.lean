/-
What is proved here: the law TreeHeld, by a contract.
-/
import Derived.Test.YtjagddhkoacipaaHd1M
import Derived.Test.YtjagddhkoacipaaEf0M
set_option linter.unusedSimpArgs false
set_option linter.unusedVariables false
namespace Go.Proofs.Ytjagddhkoacipaa
open Go.Pth Go.Tre Go.RowKit Go.Word Go.Shelf
attribute [local go_sem] guard_eq guard_ne st_eql st_neq
theorem own_same {w w' : World} {B e size n : Nat} {v : Value} {xs : List Value} (h : w.ownsRow B e size v n xs) (hk : ∀ b, v.ownBlock = some b → w'.heap[b]? = w.heap[b]?) : w'.ownsRow B e size v n xs := by
  refine ⟨h.1, ?_⟩
  rcases h.2 with h1 | ⟨g, cap, cur, rfl, hb, hg, h2⟩
  · exact .inl h1
  · exact .inr ⟨g, cap, cur, rfl, hb, (hk g rfl).trans hg, h2⟩
theorem range2h {w : World} {b : Nat} {u v : Value} (d1 : w.cell? ⟨b, 0, none⟩ = some u) (d2 : w.cell? ⟨b, 1, none⟩ = some v) : w.rangeAt b 0 [u, v] := fun j x hj => by
  match j, hj with
  | 0, hj => injection hj with hj; subst hj; exact d1
  | 1, hj => injection hj with hj; subst hj; exact d2
set_option maxRecDepth 100000 in
set_option maxHeartbeats 16000000 in
theorem held_law (NA FA MA GA : Option Addr) (nc fc mc gc : Nat) (ns os : List Nd) (fs gs : List Fl) (w : World) (hN : NodesAt w NA ns) (hF : FilesAt w FA fs) (hM : NodesAt w MA os) (hG : FilesAt w GA gs)
    (h1 : ns.length ≤ 140737488355328) (h2 : fs.length ≤ 140737488355328) (h3 : ∀ x ∈ ns, x.path.length ≤ 140737488355328) (h4 : ∀ x ∈ fs, x.data.length ≤ 140737488355328)
    (k1 : os.length ≤ 140737488355328) (k2 : gs.length ≤ 140737488355328) (k3 : ∀ x ∈ os, x.path.length ≤ 140737488355328) (k4 : ∀ x ∈ gs, x.data.length ≤ 140737488355328) :
    Calls Try.prog 4 #[.agg #[.slice NA ns.length nc, .slice FA fs.length fc], .agg #[.slice MA os.length mc, .slice GA gs.length gc]] w fun e w' => e = .returned (.bool true) ∧ Below w.heap.size w w' := by
  have L1 := lies_alloc (lies_new w 25 #[.slice NA ns.length nc, .slice FA fs.length fc]) (.cells #[.slice MA os.length mc, .slice GA gs.length gc] 25)
  have L2 := lies_new (w.alloc (.cells #[.slice NA ns.length nc, .slice FA fs.length fc] 25)) 25 #[.slice MA os.length mc, .slice GA gs.length gc]
  rw [World.size_alloc] at L2
  have hB : Below w.heap.size w ((w.alloc (.cells #[.slice NA ns.length nc, .slice FA fs.length fc] 25)).alloc (.cells #[.slice MA os.length mc, .slice GA gs.length gc] 25)) := ((Below.refl _ _).alloc (Nat.le_refl _) _).alloc (by simp) _
  have KB1 := fun (W : World) (hb : Below w.heap.size w W) => Lib.hid (big_any NA FA nc fc ns fs W (nodesAt_below hN hb) (filesAt_below hF hb) h1 h2 h3 h4)
  have KB2 := fun (W : World) (hb : Below w.heap.size w W) => Lib.hid (big_any MA GA mc gc os gs W (nodesAt_below hM hb) (filesAt_below hG hb) k1 k2 k3 k4)
  have sp : Small ns fs → ∀ x ∈ ns, x.path.length ≤ 100000 := fun hs x hx => Nat.le_trans (hs.2.2.1 x hx) (by decide)
  have so : Small os gs → ∀ x ∈ os, x.path.length ≤ 100000 := fun hs x hx => Nat.le_trans (hs.2.2.1 x hx) (by decide)
  have KC1 := fun (W : World) (hb : Below w.heap.size w W) (hs : Small ns fs) => Lib.hid (canon_both NA FA nc fc ns fs W (nodesAt_below hN hb) (filesAt_below hF hb) (sp hs))
  have KY1 := fun (W : World) (hb : Below w.heap.size w W) (hs : Small ns fs) => Lib.hid (bytes_both NA FA nc fc ns fs W (nodesAt_below hN hb) (filesAt_below hF hb) (sp hs))
  have KC2 := fun (W : World) (hb : Below w.heap.size w W) (hs : Small os gs) => Lib.hid (canon_both MA GA mc gc os gs W (nodesAt_below hM hb) (filesAt_below hG hb) (so hs))
  have KY2 := fun (W : World) (hb : Below w.heap.size w W) (hs : Small os gs) => Lib.hid (bytes_both MA GA mc gc os gs W (nodesAt_below hM hb) (filesAt_below hG hb) (so hs))
  have KR := fun (W : World) (hb : Below w.heap.size w W) (hs : Small ns fs) => Lib.hid (refcanon_both NA FA nc fc ns fs W (nodesAt_below hN hb) (filesAt_below hF hb) (sp hs))
  have KRB := fun (W : World) (hb : Below w.heap.size w W) (hs : Small ns fs) (hz : looseE ns fs = 0) => Lib.hid (refbytes_any NA FA nc fc ns fs W (nodesAt_below hN hb) (filesAt_below hF hb) (sp hs) hz)
  clear h1 h2 h3 h4 k1 k2 k3 k4 sp so
  have x0 := lies_cell L1 0
  have x1 := lies_cell L1 1
  have y0 := lies_cell L2 0
  have y1 := lies_cell L2 1
  simp only [List.getElem?_toArray, List.getElem?_cons_zero, List.getElem?_cons_succ] at x0 x1 y0 y1
  have LX := Lib.hid L1
  have LY := Lib.hid L2
  have HB := Lib.hid hB
  clear L1 L2 hB hN hF hM hG
  generalize ns.length = n at *
  generalize fs.length = m at *
  generalize os.length = on at *
  generalize gs.length = gn at *
  obtain ⟨lb, hlb⟩ : ∃ lb, lb = (if looseE ns fs = 0 then bytesT ns fs else []) := ⟨_, rfl⟩
  obtain ⟨lc, hlc⟩ : ∃ lc, lc = (if looseE os gs = 0 then bytesT os gs else []) := ⟨_, rfl⟩
  simp only [← hlb] at KY1
  simp only [← hlc] at KY2
  have HLB := Lib.hid hlb
  clear hlb hlc
  have after : ∀ W, Below ((w.alloc (.cells #[.slice NA n nc, .slice FA m fc] 25)).alloc (.cells #[.slice MA on mc, .slice GA gn gc] 25)).heap.size ((w.alloc (.cells #[.slice NA n nc, .slice FA m fc] 25)).alloc (.cells #[.slice MA on mc, .slice GA gn gc] 25)) W →
      Hid (W.cell? ⟨w.heap.size, 0, none⟩ = some (.slice NA n nc) ∧ W.cell? ⟨w.heap.size, 1, none⟩ = some (.slice FA m fc) ∧ W.cell? ⟨w.heap.size + 1, 0, none⟩ = some (.slice MA on mc) ∧ W.cell? ⟨w.heap.size + 1, 1, none⟩ = some (.slice GA gn gc)) := fun W hb =>
    Lib.hid ⟨(hb.cell (p := ⟨w.heap.size, 0, none⟩) (lies_lt LX.out)).trans x0, (hb.cell (p := ⟨w.heap.size, 1, none⟩) (lies_lt LX.out)).trans x1, (hb.cell (p := ⟨w.heap.size + 1, 0, none⟩) (lies_lt LY.out)).trans y0, (hb.cell (p := ⟨w.heap.size + 1, 1, none⟩) (lies_lt LY.out)).trans y1⟩
  go_enter Try.func4, Try.ntmps4
  go_upto_region 1 with (fail)
  generalize ((w.alloc (.cells #[.slice NA n nc, .slice FA m fc] 25)).alloc (.cells #[.slice MA on mc, .slice GA gn gc] 25)) = X at *
  have up : ∀ W, Below X.heap.size X W → Below w.heap.size w W := fun W hb => HB.out.trans (hb.mono HB.out.size)
  go_upto_region 4 with (first
    | (go_at_call 13; (with_reducible refine (alive_any _).mono ?_); rintro e w1 ⟨rfl, hb⟩; obtain ⟨p0, p1, p2, p3⟩ := (after _ hb).out; have B1 := Lib.hid hb; clear hb)
    | (go_at_call 14; (with_reducible refine (KB1 _ (up _ B1.out)).out.mono ?_); rintro e w2 ⟨⟨b1, rfl, hs1⟩, hb⟩; have S1 := Lib.hid hs1; have B2 := Lib.hid (B1.out.trans (hb.mono B1.out.size)); clear hb hs1; obtain ⟨q0, q1, q2, q3⟩ := (after _ B2.out).out)
    | (go_at_call 14; (with_reducible refine (KB2 _ (up _ B2.out)).out.mono ?_); rintro e w3 ⟨⟨b2, rfl, hs2⟩, hb⟩; have S2 := Lib.hid hs2; have B3 := Lib.hid (B2.out.trans (hb.mono B2.out.size)); clear hb hs2; obtain ⟨r0, r1, r2, r3⟩ := (after _ B3.out).out))
  cases b1 with
  | true =>
    go_wp2
    go_ret
    exact ⟨rfl, up _ B3.out⟩
  | false =>
    cases b2 with
    | true =>
      go_wp2
      go_ret
      exact ⟨rfl, up _ B3.out⟩
    | false =>
      have SS := Lib.hid (S1.out rfl)
      have SO := Lib.hid (S2.out rfl)
      clear S1 S2 p0 p1 p2 p3 q0 q1 q2 q3 x0 x1 y0 y1 KB1 KB2
      go_upto_region 7 with (go_at_call 16; (with_reducible refine (KC1 _ (up _ B3.out) SS.out).out.mono ?_); rintro e w4 ⟨⟨vN, vF, rfl, D1, us, vs, hC, hus, hvs⟩, hb⟩; obtain ⟨A1, C1, rfl⟩ := own_slice hC.nodes; obtain ⟨A2, C2, rfl⟩ := own_slice hC.files; have CC1 := Lib.hid hC; have HUS := Lib.hid hus; have HVS := Lib.hid hvs; have B4 := Lib.hid (B3.out.trans (hb.mono B3.out.size)); clear hb hC hus hvs)
      have LT1 := Lib.hid (lies_new w4 25 #[.slice A1 us.length C1, .slice A2 vs.length C2])
      have CT1 := Lib.hid (copy_below CC1.out ((Below.refl _ _).alloc (Nat.le_refl _) (.cells #[.slice A1 us.length C1, .slice A2 vs.length C2] 25)))
      have B5 := Lib.hid (B4.out.alloc B4.out.size (.cells #[.slice A1 us.length C1, .slice A2 vs.length C2] 25))
      clear r0 r1 r2 r3 CC1 B4
      generalize w4.alloc (.cells #[.slice A1 us.length C1, .slice A2 vs.length C2] 25) = W5 at *
      generalize w4.heap.size = T1 at *
      obtain ⟨q0, q1, q2, q3⟩ := (after _ B5.out).out
      go_upto_region 8 with (go_at_call 22; (with_reducible refine (KY1 _ (up _ B5.out) SS.out).out.mono ?_); rintro e w6 ⟨⟨vb, rfl, ho⟩, hb⟩; obtain ⟨Ab, Cb, rfl⟩ := own_slice ho; have OB := Lib.hid ho; have B6 := Lib.hid (B5.out.trans (hb.mono B5.out.size)); have LT6 := Lib.hid (lies_below LT1.out hb (lies_lt LT1.out)); have CT6 := Lib.hid (copy_below CT1.out hb); have TQ := Lib.hid (Nat.lt_of_lt_of_le (lies_lt LT1.out) hb.size); clear hb ho)
      clear q0 q1 q2 q3 LT1 CT1 B5 KC1 KY1
      obtain ⟨q0, q1, q2, q3⟩ := (after _ B6.out).out
      go_upto_region 9 with (go_at_call 16; (with_reducible refine (KC2 _ (up _ B6.out) SO.out).out.mono ?_); rintro e w7 ⟨⟨vN2, vF2, rfl, D2, us2, vs2, hC, hus2, hvs2⟩, hb⟩; obtain ⟨A3, C3, rfl⟩ := own_slice hC.nodes; obtain ⟨A4, C4, rfl⟩ := own_slice hC.files; have CC2 := Lib.hid hC; have HUS2 := Lib.hid hus2; have HVS2 := Lib.hid hvs2; have Q7 := Lib.hid hb; clear hb hC hus2 hvs2)
      have b8 := (Below.refl w7.heap.size w7).alloc (Nat.le_refl _) (.cells #[.slice A3 us2.length C3, .slice A4 vs2.length C4] 25)
      have LT2 := Lib.hid (lies_new w7 25 #[.slice A3 us2.length C3, .slice A4 vs2.length C4])
      have CT2 := Lib.hid (copy_below CC2.out b8)
      have Q8 := Lib.hid (Q7.out.alloc Q7.out.size (.cells #[.slice A3 us2.length C3, .slice A4 vs2.length C4] 25))
      clear q0 q1 q2 q3 CC2 Q7 b8
      generalize w7.alloc (.cells #[.slice A3 us2.length C3, .slice A4 vs2.length C4] 25) = W8 at *
      generalize w7.heap.size = T2 at *
      have B8 := Lib.hid (B6.out.trans (Q8.out.mono B6.out.size))
      obtain ⟨q0, q1, q2, q3⟩ := (after _ B8.out).out
      go_upto_region 10 with (go_at_call 22; (with_reducible refine (KY2 _ (up _ B8.out) SO.out).out.mono ?_); rintro e w9 ⟨⟨vc, rfl, ho⟩, hb⟩; obtain ⟨Ac, Cc, rfl⟩ := own_slice ho; have OC := Lib.hid ho; have Q9 := Lib.hid (Q8.out.trans (hb.mono Q8.out.size)); have LT9 := Lib.hid (lies_below LT2.out hb (lies_lt LT2.out)); have CT9 := Lib.hid (copy_below CT2.out hb); have Z9 := Lib.hid hb.size; clear hb ho)
      have sm2 : us2.length ≤ 256 ∧ vs2.length ≤ 256 ∧ ∀ x ∈ vs2, x.data.length ≤ 8192 := by
        rw [HUS2.out, HVS2.out]
        by_cases hz : canonE os gs = 0
        · rw [if_pos hz, if_pos hz]
          exact canon_small hz
        · rw [if_neg hz, if_neg hz]
          simp
      have KSP := Lib.hid (spoil_any w6.heap.size _ _ D2 us2 vs2 w9 CT9.out Q9.out.size (by omega) (by omega) (fun x hx => by have := sm2.2.2 x hx; omega) (fun r => W8.heap.size ≤ r ∧ r < w9.heap.size) (fun r h => h.2) (fun r e h => by have := (CT2.out.nodes.lt r e).2; omega) (fun r e h => by have := (CT2.out.files.lt r e).2; omega) (fun i hi r e h => by have h1 : World.ownsRow _ _ _ _ _ _ _ := CT2.out.data i hi; have := (h1.lt r e).2; omega))
      have R9 := Lib.hid (lies_range LT9.out)
      clear sm2 q0 q1 q2 q3
      go_upto_region 11 with (first
        | (refine wpList_load_mid rfl 25 _ rfl T2 0 rfl [.slice A3 us2.length C3, .slice A4 vs2.length C4] _ R9.out Try.underlying25 rfl (by kernel_rfl) ?_)
        | (go_at_call 20; (with_reducible refine KSP.out.mono ?_); rintro e w10 ⟨rfl, hb, hk⟩; have Q10 := Lib.hid (Q9.out.trans hb); have OC10 := Lib.hid (own_same OC.out (fun b e => hk b (OC.out.lt b e))); clear hb hk))
      clear KSP R9 LT9 CT9 CT2 LT2 Q9 OC HUS2 HVS2 KC2 KY2
      obtain ⟨ll, hll⟩ : ∃ ll, ll = lc.length := ⟨_, rfl⟩
      have OC11 : Hid (∃ l : Bt, l.length = ll ∧ OwnB w10 W8.heap.size (.slice Ac ll Cc) l) := Lib.hid ⟨lc, hll.symm, by rw [hll]; exact OC10.out⟩
      rw [← hll]
      clear hll OC10
      have Z8 := Lib.hid Q8.out.size
      generalize W8.heap.size = B8s at *
      go_wp2
      go_loopw [16] (fun v16 wr => ∃ i : Nat, i ≤ ll ∧ v16 = .int .i64 (i : Int) ∧ (∃ l : Bt, l.length = ll ∧ OwnB wr B8s (.slice Ac ll Cc) l) ∧ Below w6.heap.size w6 wr) (fun v16 _ => ll - (intOf v16).toNat)
      case atStart => exact ⟨0, Nat.zero_le _, rfl, OC11.out, Q10.out⟩
      case round =>
        obtain ⟨i, hi, rfl, ⟨l, hl0, hO⟩, hb⟩ := hrel
        have HO := Lib.hid hO
        have HQ := Lib.hid hb
        clear hO hb OC11 Q10
        by_cases hlt : i < ll
        · have li : (i : Int) < (ll : Int) := by omega
          have ho : wr.ownsRow B8s 5 1 (.slice Ac ll Cc) ll (l.map yB) := by
            have h := HO.out
            unfold OwnB at h
            rw [hl0] at h
            exact h
          have hmx : ll ≤ 9223372036854775807 := by
            rcases ho.2 with ⟨_, h0⟩ | ⟨_, cap, _, _, _, _, h1, h2, _⟩
            · omega
            · have h3 : cap ≤ 9223372036854775807 := h2
              omega
          obtain ⟨g, rfl⟩ := own_at ho (by omega)
          have hl1 : i < l.length := by omega
          have c0 : wr.cell? ⟨g, i, none⟩ = some (.int .u8 (l[i].toNat : Int)) := by
            rw [ho.cellAt i (by omega), List.getElem?_map, List.getElem?_eq_getElem hl1]
            rfl
          have c1 := ho.frozenAt i
          have hcx := xor255_byte l[i]
          have gB := (own_heap ho g rfl).1
          have st := (ho.stored i (.int .u8 ((l[i] ^^^ 255).toNat : Int))).1
          have NX := Lib.hid (show OwnB (wr.setCell ⟨g, i, none⟩ (.int .u8 ((l[i] ^^^ 255).toNat : Int))) B8s (.slice (some ⟨g, 0, none⟩) ll Cc) (l.set i (l[i] ^^^ 255)) by
            unfold OwnB
            rw [List.length_set, hl0, List.map_set]
            exact st)
          have LS := Lib.hid (show (l.set i (l[i] ^^^ 255)).length = ll by rw [List.length_set]; exact hl0)
          have NB := Lib.hid (below_setCell HQ.out (p := ⟨g, i, none⟩) (Nat.le_trans Z8.out gB) (.int .u8 ((l[i] ^^^ 255).toNat : Int)))
          generalize l.set i (l[i] ^^^ 255) = l' at *
          generalize l[i] = c at *
          have HCX := Lib.hid hcx
          clear hcx st gB ho
          go_wp2
          rw [HCX.out]
          go_roundw
          case rel => exact ⟨i + 1, by omega, by go_num, ⟨l', LS.out, NX.out⟩, NB.out⟩
          case measure => first | (simp [intOf]; done) | (simp [intOf]; omega)
        · have li : ¬ (i : Int) < (ll : Int) := by omega
          have BR := Lib.hid (B6.out.trans (HQ.out.mono B6.out.size))
          obtain ⟨q0, q1, q2, q3⟩ := (after _ BR.out).out
          clear HO hl0
          go_upto_region 16 with (go_at_call 17; (with_reducible refine (KR _ (up _ BR.out) SS.out).out.mono ?_); rintro e w11 ⟨⟨vN3, vF3, rfl, D3, us3, vs3, hC, hus3, hvs3⟩, hb⟩; rw [← HUS.out] at hus3; rw [← HVS.out] at hvs3; subst hus3 hvs3; obtain ⟨A5, C5, rfl⟩ := own_slice hC.nodes; obtain ⟨A6, C6, rfl⟩ := own_slice hC.files; have CC3 := Lib.hid hC; have Q11 := Lib.hid (HQ.out.trans (hb.mono HQ.out.size)); clear hb hC)
          have b12 := (Below.refl w11.heap.size w11).alloc (Nat.le_refl _) (.cells #[.slice A5 us3.length C5, .slice A6 vs3.length C6] 25)
          have LT3 := Lib.hid (lies_new w11 25 #[.slice A5 us3.length C5, .slice A6 vs3.length C6])
          have CT3 := copy_below CC3.out b12
          have Q12 := Lib.hid (Q11.out.alloc Q11.out.size (.cells #[.slice A5 us3.length C5, .slice A6 vs3.length C6] 25))
          have LTC := Lib.hid (lies_below LT6.out Q12.out TQ.out)
          have CTC := copy_below CT6.out Q12.out
          have OBC := Lib.hid (ownsRow_below OB.out Q12.out)
          obtain ⟨NA1, nc1, e1, hN1⟩ := copy_nodes CTC
          obtain ⟨FA1, fc1, e2, hF1⟩ := copy_files CTC
          obtain ⟨NA3, nc3, e3, hN3⟩ := copy_nodes CT3
          obtain ⟨FA3, fc3, e4, hF3⟩ := copy_files CT3
          obtain ⟨rfl, rfl⟩ : A1 = NA1 ∧ C1 = nc1 := by injection e1 with h1 h2 h3; exact ⟨h1, h3⟩
          obtain ⟨rfl, rfl⟩ : A2 = FA1 ∧ C2 = fc1 := by injection e2 with h1 h2 h3; exact ⟨h1, h3⟩
          obtain ⟨rfl, rfl⟩ : A5 = NA3 ∧ C5 = nc3 := by injection e3 with h1 h2 h3; exact ⟨h1, h3⟩
          obtain ⟨rfl, rfl⟩ : A6 = FA3 ∧ C6 = fc3 := by injection e4 with h1 h2 h3; exact ⟨h1, h3⟩
          clear e1 e2 e3 e4 q0 q1 q2 q3
          have sm3 : us3.length ≤ 1000000 ∧ vs3.length ≤ 1000000 := by
            have h1 := HUS.out
            have h2 := HVS.out
            rw [h1, h2]
            by_cases hz : canonE ns fs = 0
            · rw [if_pos hz, if_pos hz]
              have := canon_small hz
              omega
            · rw [if_neg hz, if_neg hz]
              simp
          have KE0 := exact_any A1 A2 A5 A6 C1 C2 C5 C6 us3 us3 vs3 vs3 _ hN1 hF1 hN3 hF3 sm3.1 sm3.2
          rw [show exactB us3 vs3 us3 vs3 = true from by unfold exactB; simp] at KE0
          have KE := Lib.hid KE0
          clear KE0 hN1 hF1 hN3 hF3 CT3 CTC b12 CC3 Q11 sm3
          generalize w11.alloc (.cells #[.slice A5 us3.length C5, .slice A6 vs3.length C6] 25) = W12 at *
          generalize w11.heap.size = T3 at *
          have zn : ∀ z : Int, (z != z) = false := fun z => by simp
          generalize canonE ns fs = cz at *
          have zn := zn cz
          have s0 := lies_cell LTC.out 0
          have s1 := lies_cell LTC.out 1
          have v0 := lies_cell LT3.out 0
          have v1 := lies_cell LT3.out 1
          simp only [List.getElem?_toArray, List.getElem?_cons_zero, List.getElem?_cons_succ] at s0 s1 v0 v1
          go_upto_region 18 with (first
            | (go_at_call 18; (with_reducible refine (num_any _ _).mono ?_); rintro e w3' ⟨rfl, rfl⟩)
            | (go_at_call 19; (with_reducible refine KE.out.mono ?_); rintro e w13 ⟨rfl, hb⟩; have Q13 := Lib.hid (Q12.out.trans (hb.mono Q12.out.size)); have OB13 := Lib.hid (ownsRow_below OBC.out hb); clear hb))
          have B13 := Lib.hid (B6.out.trans (Q13.out.mono B6.out.size))
          clear s0 s1 v0 v1 KE OBC LTC LT3 Q12 LT6 CT6 zn
          by_cases hz : looseE ns fs = 0
          · have KRB2 := fun (W : World) (hb : Below w.heap.size w W) => KRB W hb SS.out hz
            have e0 := HLB.out
            rw [if_pos hz] at e0
            simp only [← e0] at KRB2
            rw [hz]
            have HZ := Lib.hid hz
            clear hz e0 KRB
            obtain ⟨q0, q1, q2, q3⟩ := (after _ B13.out).out
            have BY0 := own_bytes OB13.out
            obtain ⟨DAb, dcb, eb, hby⟩ := BY0
            obtain ⟨rfl, rfl⟩ : Ab = DAb ∧ Cb = dcb := by injection eb with h1 h2 h3; exact ⟨h1, h3⟩
            have HBY := Lib.hid hby
            clear eb hby OB13 OB
            go_upto_region 20 with (go_at_call 18; (with_reducible refine (num_any _ _).mono ?_); rintro e w3' ⟨rfl, rfl⟩)
            have KF : ∀ (k : Nat) (u : Value) (W W' : World), k ≠ 3 → ((fun (j_ : Nat) (v : Value) (W : World) => match j_ with | 0 => v = .slice Ab (List.length lb) Cb | 1 => v = St lb | 2 => v = .agg #[.slice NA n nc, .slice FA m fc] | 3 => (∃ DA dc, v = .slice DA (List.length lb) dc ∧ BytesAt W DA lb) | 4 => v = St lb | 5 => v = .bool true | 6 => v = .bool true | _ => True) : Nat → Value → World → Prop) k u W → ((fun (j_ : Nat) (v : Value) (W : World) => match j_ with | 0 => v = .slice Ab (List.length lb) Cb | 1 => v = St lb | 2 => v = .agg #[.slice NA n nc, .slice FA m fc] | 3 => (∃ DA dc, v = .slice DA (List.length lb) dc ∧ BytesAt W DA lb) | 4 => v = St lb | 5 => v = .bool true | 6 => v = .bool true | _ => True) : Nat → Value → World → Prop) k u W' := fun k u W W' hk h => by
              match k, hk, h with
              | 0, _, h => exact h
              | 1, _, h => exact h
              | 2, _, h => exact h
              | 3, hk, _ => exact absurd rfl hk
              | 4, _, h => exact h
              | 5, _, h => exact h
              | 6, _, h => exact h
              | _ + 7, _, _ => exact trivial
            clear q0 q1 q2 q3
            refine wp_region_any (by kernel_rfl) ?_
            refine every_facts0 (own := ownAll _) id ((fun (j_ : Nat) (v : Value) (W : World) => match j_ with | 0 => v = .slice Ab (List.length lb) Cb | 1 => v = St lb | 2 => v = .agg #[.slice NA n nc, .slice FA m fc] | 3 => (∃ DA dc, v = .slice DA (List.length lb) dc ∧ BytesAt W DA lb) | 4 => v = St lb | 5 => v = .bool true | 6 => v = .bool true | _ => True) : Nat → Value → World → Prop) (fun W => Below w13.heap.size w13 W) (acAll_of (by kernel_rfl)) (onAll_of (by kernel_rfl)) (dstAll_of (by kernel_rfl)) ?hop ?hend _ _ _ _ (fun _ => undef) rfl (of_decide_eq_true (by kernel_rfl)) (tabd_start (fun i => rep_false _ i)) (fun k hk => by rw [rep_false] at hk; cases hk) ((Below.refl w13.heap.size w13).drew)
            case hop =>
              intro j oi a w0 listed vals hoi hdeps ht hF hI
              have hj : j < 7 := (Array.getElem?_eq_some_iff.1 hoi).1
              have cj : j = 0 ∨ j = 1 ∨ j = 2 ∨ j = 3 ∨ j = 4 ∨ j = 5 ∨ j = 6 := by omega
              obtain rfl | rfl | rfl | rfl | rfl | rfl | rfl := cj
              all_goals obtain rfl := Option.some.inj hoi
              · have e10 : a.eval (.tmp 10) = .slice Ab (List.length lb) Cb := (tabd_old ht (t := 10) (of_decide_eq_true (by kernel_rfl)) (by kernel_rfl)).trans rfl
                exact .inl ⟨rfl, fun K hk => wp_val (v := .slice Ab (List.length lb) Cb) (by clear hk hI hoi hdeps ht hF; generalize a.eval = ρ at *; unfold execOp; simp only [e10]; go_simp) (hk _ _ rfl (fun _ _ _ h => h) hI)⟩
              · have d0 := hdeps ⟨0, .data⟩ (by simp) rfl
                have e90 : a.eval (.tmp 90) = .slice Ab (List.length lb) Cb := (tabd_at ht (t := 90) (of_decide_eq_true (by kernel_rfl)) (by kernel_rfl) d0).trans (hF 0 d0)
                exact .inl ⟨rfl, fun K hk => wp_val (v := St lb) (by have hc := run_text48 Ab lb Cb w0 (bytesAt_below HBY.out hI); clear hk hI hoi hdeps ht hF; generalize a.eval = ρ at *; unfold execOp; simp only [e90]; go_simp) (hk _ _ rfl (fun _ _ _ h => h) hI)⟩
              · have e2 : a.eval (.tmp 2) = .pointer (some ⟨w.heap.size, 0, none⟩) := (tabd_old ht (t := 2) (of_decide_eq_true (by kernel_rfl)) (by kernel_rfl)).trans rfl
                exact .inl ⟨rfl, fun K hk => wp_val (v := .agg #[.slice NA n nc, .slice FA m fc]) (load_op 25 _ rfl w.heap.size (0) e2 [.slice NA n nc, .slice FA m fc] _ (by have hc := (after _ (B13.out.trans (hI.mono B13.out.size))).out; exact range2h hc.1 hc.2.1) Try.underlying25 rfl (by kernel_rfl)) (hk _ _ rfl (fun _ _ _ h => h) hI)⟩
              · have d2 := hdeps ⟨2, .data⟩ (by simp) rfl
                have e92 : a.eval (.tmp 92) = .agg #[.slice NA n nc, .slice FA m fc] := (tabd_at ht (t := 92) (of_decide_eq_true (by kernel_rfl)) (by kernel_rfl) d2).trans (hF 2 d2)
                have ef23 : a.eval (.func 23) = .func (.func 23) #[] #[] := rfl
                refine .inl ⟨rfl, fun K hk => ?_⟩
                refine wp_callF (R := fun v W => (∃ DA dc, v = .slice DA (List.length lb) dc ∧ BytesAt W DA lb) ∧ Below w0.heap.size w0 W) (by clear hk hI hoi hdeps ht hF; generalize a.eval = ρ at *; unfold execOp; simp only [e92, ef23]; go_simp) ((KRB2 w0 (up _ (B13.out.trans (hI.mono B13.out.size)))).out.mono (fun e w' h => ?_)) (fun v w2 hR => hk v w2 hR.1 (fun k u hk3 h => KF k u w0 w2 hk3 h) (hI.trans (hR.2.mono hI.size)))
                obtain ⟨v, he, ho, hb⟩ := h
                obtain ⟨DA, dc, e2, h2⟩ := own_bytes ho
                exact ⟨v, he, ⟨DA, dc, e2, h2⟩, hb⟩
              · have d3 := hdeps ⟨3, .data⟩ (by simp) rfl
                have f3 := hF 3 d3
                have e93 : a.eval (.tmp 93) = vals 3 := tabd_at ht (t := 93) (of_decide_eq_true (by kernel_rfl)) (by kernel_rfl) d3
                refine .inl ⟨rfl, fun K hk => ?_⟩
                obtain ⟨DA, dc, ev, hv⟩ := f3
                have hc := run_text48 DA lb dc w0 hv
                rw [← ev] at hc
                exact wp_val (v := St lb) (by clear hk hI hoi hdeps ht hF ev hv; generalize a.eval = ρ at *; unfold execOp; simp only [e93]; go_simp) (hk _ _ rfl (fun _ _ _ h => h) hI)
              · have d1 := hdeps ⟨1, .data⟩ (by simp) rfl
                have d4 := hdeps ⟨4, .data⟩ (by simp) rfl
                have e91 : a.eval (.tmp 91) = St lb := (tabd_at ht (t := 91) (of_decide_eq_true (by kernel_rfl)) (by kernel_rfl) d1).trans (hF 1 d1)
                have e94 : a.eval (.tmp 94) = St lb := (tabd_at ht (t := 94) (of_decide_eq_true (by kernel_rfl)) (by kernel_rfl) d4).trans (hF 4 d4)
                exact .inl ⟨rfl, fun K hk => wp_val (v := .bool true) (by clear hk hI hoi hdeps ht hF; generalize a.eval = ρ at *; unfold execOp; simp only [e91, e94]; go_simp; exact decide_eq_true rfl) (hk _ _ rfl (fun _ _ _ h => h) hI)⟩
              · have d5 := hdeps ⟨5, .data⟩ (by simp) rfl
                have d3 := hdeps ⟨3, .chain⟩ (by simp) rfl
                have e95 : a.eval (.tmp 95) = .bool true := (tabd_at ht (t := 95) (of_decide_eq_true (by kernel_rfl)) (by kernel_rfl) d5).trans (hF 5 d5)
                exact .inl ⟨rfl, fun K hk => wp_val (v := .bool true) (by clear hk hI hoi hdeps ht hF; generalize a.eval = ρ at *; unfold execOp; simp only [e95]; go_simp) (hk _ _ rfl (fun _ _ _ h => h) hI)⟩
            case hend =>
              intro a w0 listed vals hall ht hF hI
              rw [tabd_fill ht (fun t i ho => hall i (ownAll_lt ho))]
              have g0 : vals 0 = .slice Ab (List.length lb) Cb := hF 0 (by decide)
              have g1 : vals 1 = St lb := hF 1 (by decide)
              have g2 : vals 2 = .agg #[.slice NA n nc, .slice FA m fc] := hF 2 (by decide)
              have g3 := hF 3 (by decide)
              have g4 : vals 4 = St lb := hF 4 (by decide)
              have g5 : vals 5 = .bool true := hF 5 (by decide)
              have g6 : vals 6 = .bool true := hF 6 (by decide)
              change Exit.then _ _ Exit.normal { tmps := (.agg #[.slice NA n nc, .slice FA m fc] :: .agg #[.slice MA on mc, .slice GA gn gc] :: .pointer (some ⟨w.heap.size, 0, none⟩) :: .pointer (some ⟨w.heap.size + 1, 0, none⟩) :: vals 6 :: .bool true :: .bool false :: .bool false :: .pointer (some ⟨T1, 0, none⟩) :: .int .i64 cz :: .slice Ab (List.length lb) Cb :: .int .i64 0 :: .pointer (some ⟨T2, 0, none⟩) :: .int .i64 (canonE os gs) :: .slice Ac ll Cc :: .int .i64 (looseE os gs) :: .int .i64 (i : Int) :: .pointer (some ⟨T3, 0, none⟩) :: .int .i64 cz :: .bool true :: .agg #[.slice NA n nc, .slice FA m fc] :: .bool false :: .agg #[.slice MA on mc, .slice GA gn gc] :: .bool false :: .bool true :: .bool false :: .bool false :: .bool false :: .bool false :: .bool false :: .bool false :: .bool false :: undef :: .tuple #[.agg #[.slice A1 us3.length C1, .slice A2 vs3.length C2], .int .i64 cz] :: .agg #[.slice NA n nc, .slice FA m fc] :: .tuple #[.agg #[.slice A1 us3.length C1, .slice A2 vs3.length C2], .int .i64 cz] :: .agg #[.slice A1 us3.length C1, .slice A2 vs3.length C2] :: .int .i64 cz :: .tuple #[.slice Ab (List.length lb) Cb, .int .i64 0] :: .agg #[.slice NA n nc, .slice FA m fc] :: .tuple #[.slice Ab (List.length lb) Cb, .int .i64 0] :: .slice Ab (List.length lb) Cb :: .int .i64 0 :: .tuple #[.agg #[.slice A3 us2.length C3, .slice A4 vs2.length C4], .int .i64 (canonE os gs)] :: .agg #[.slice MA on mc, .slice GA gn gc] :: .tuple #[.agg #[.slice A3 us2.length C3, .slice A4 vs2.length C4], .int .i64 (canonE os gs)] :: .agg #[.slice A3 us2.length C3, .slice A4 vs2.length C4] :: .int .i64 (canonE os gs) :: .tuple #[.slice Ac ll Cc, .int .i64 (looseE os gs)] :: .agg #[.slice MA on mc, .slice GA gn gc] :: .tuple #[.slice Ac ll Cc, .int .i64 (looseE os gs)] :: .slice Ac ll Cc :: .int .i64 (looseE os gs) :: .agg #[.slice A3 us2.length C3, .slice A4 vs2.length C4] :: .tuple #[] :: .int .i64 (i : Int) :: .slice Ac ll Cc :: .int .i64 (ll : Int) :: .bool false :: u59 :: u60 :: u61 :: u62 :: u63 :: u64 :: u65 :: u66 :: u67 :: u68 :: .tuple #[.agg #[.slice A5 us3.length C5, .slice A6 vs3.length C6], .int .i64 cz] :: .agg #[.slice NA n nc, .slice FA m fc] :: .tuple #[.agg #[.slice A5 us3.length C5, .slice A6 vs3.length C6], .int .i64 cz] :: .agg #[.slice A5 us3.length C5, .slice A6 vs3.length C6] :: .int .i64 cz :: .int .i64 cz :: .int .i64 cz :: .int .i64 cz :: .bool false :: .bool false :: .agg #[.slice A1 us3.length C1, .slice A2 vs3.length C2] :: .agg #[.slice A5 us3.length C5, .slice A6 vs3.length C6] :: .bool true :: .bool false :: .bool false :: .int .i64 0 :: .int .i64 0 :: .bool false :: undef :: undef :: undef :: vals 0 :: vals 1 :: vals 2 :: vals 3 :: vals 4 :: vals 5 :: []).toArray, defers := [] } w0
              simp only [g0, g1, g2, g4, g5, g6]
              clear hall ht hF
              go_wp2
              go_ret
              exact ⟨rfl, up _ (B13.out.trans (hI.mono B13.out.size))⟩
          · have e0 := HLB.out
            rw [if_neg hz] at e0
            subst e0
            have hzn : (looseE ns fs != 0) = true := by simpa using hz
            have hzb : (looseE ns fs == 0) = false := by simpa using hz
            clear hz KRB KR
            generalize looseE ns fs = lz at *
            go_wp2_with (go_at_call 18; (with_reducible refine (num_any _ _).mono ?_); rintro e w3' ⟨rfl, rfl⟩)
            go_ret
            exact ⟨rfl, up _ B13.out⟩
end Go.Proofs.Ytjagddhkoacipaa
