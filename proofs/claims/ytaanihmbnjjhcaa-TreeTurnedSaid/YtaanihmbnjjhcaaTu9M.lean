/-
What is proved here: the law TreeTurned where an empty file gets another path.
-/
import Derived.Test.YtaanihmbnjjhcaaTuhM
set_option linter.unusedSimpArgs false
namespace Go.Proofs.Ytaanihmbnjjhcaa
open Go.Pth Go.Tre Go.RowKit Go.Word Go.Shelf
attribute [local go_sem] guard_eq guard_ne st_eql st_neq store_st
set_option maxRecDepth 100000 in
set_option maxHeartbeats 16000000 in
theorem turned_path5 (NA FA : Option Addr) (nc fc : Nat) (ns : List Nd) (fs : List Fl) (what at_ : Int) (w : World) (hN : NodesAt w NA ns) (hF : FilesAt w FA fs)
    (hw0 : (what == 0) = false) (hw1 : (what == 1) = false) (hw2 : (what == 2) = true) (hfa : fileAt ns at_ ≠ -1) (hda : dataAt ns fs at_ = [])
    (h1 : ns.length ≤ 140737488355328) (h2 : fs.length ≤ 140737488355328) (h3 : ∀ x ∈ ns, x.path.length ≤ 140737488355328) (h4 : ∀ x ∈ fs, x.data.length ≤ 140737488355328) :
    Calls Try.prog 6 #[.agg #[.slice NA ns.length nc, .slice FA fs.length fc], .int .i64 what, .int .i64 at_] w fun e w' => e = .returned (.bool true) ∧ Below w.heap.size w w' := by
  have HDA := Lib.hid hda
  clear hda
  have HFA := Lib.hid hfa
  clear hfa
  have L := lies_new w 25 #[.slice NA ns.length nc, .slice FA fs.length fc]
  have hB : Below w.heap.size w (w.alloc (.cells #[.slice NA ns.length nc, .slice FA fs.length fc] 25)) := (Below.refl _ _).alloc (Nat.le_refl _) _
  have KB := fun (W : World) (hb : Below w.heap.size w W) => Lib.hid (big_any NA FA nc fc ns fs W (nodesAt_below hN hb) (filesAt_below hF hb) h1 h2 h3 h4)
  have sp : Small ns fs → ∀ x ∈ ns, x.path.length ≤ 100000 := fun hs x hx => Nat.le_trans (hs.2.2.1 x hx) (by decide)
  have KL := fun (W : World) (hb : Below w.heap.size w W) (hs : Small ns fs) => Lib.hid (loose_any NA FA nc fc ns fs W (nodesAt_below hN hb) (filesAt_below hF hb) (sp hs))
  have KC := fun (W : World) (hb : Below w.heap.size w W) (hs : Small ns fs) => Lib.hid (copy_any NA FA nc fc ns fs W (nodesAt_below hN hb) (filesAt_below hF hb) hs.1 hs.2.1 hs.2.2.2)
  have KY := fun (W : World) (hb : Below w.heap.size w W) (hs : Small ns fs) (hz : looseE ns fs = 0) => Lib.hid (bytes_yes NA FA nc fc ns fs W (nodesAt_below hN hb) (filesAt_below hF hb) (sp hs) hz)
  have KS := fun (W : World) (MA GA : Option Addr) (mc gc : Nat) (ms : List Nd) (gs : List Fl) (hb : Below w.heap.size w W) (hM : NodesAt W MA ms) (hG : FilesAt W GA gs) (hs : Small ns fs) => Lib.hid (same_any NA FA MA GA nc fc mc gc ns ms fs gs W (nodesAt_below hN hb) (filesAt_below hF hb) hM hG (sp hs))
  have HN := Lib.hid (nodesAt_below hN hB)
  have HF := Lib.hid (filesAt_below hF hB)
  clear h1 h2 h3 h4 sp
  have x0 := lies_cell L 0
  have x1 := lies_cell L 1
  simp only [List.getElem?_toArray, List.getElem?_cons_zero, List.getElem?_cons_succ] at x0 x1
  have LX := Lib.hid L
  have HB := Lib.hid hB
  clear L hB hN hF
  generalize hne : ns.length = n at *
  generalize hme : fs.length = m at *
  have NE := Lib.hid hne.symm
  have ME := Lib.hid hme.symm
  clear hne hme
  have after : ∀ W, Below (w.alloc (.cells #[.slice NA n nc, .slice FA m fc] 25)).heap.size (w.alloc (.cells #[.slice NA n nc, .slice FA m fc] 25)) W →
      Hid (W.cell? ⟨w.heap.size, 0, none⟩ = some (.slice NA n nc) ∧ W.cell? ⟨w.heap.size, 1, none⟩ = some (.slice FA m fc)) := fun W hb =>
    Lib.hid ⟨(hb.cell (p := ⟨w.heap.size, 0, none⟩) (lies_lt LX.out)).trans x0, (hb.cell (p := ⟨w.heap.size, 1, none⟩) (lies_lt LX.out)).trans x1⟩
  go_enter Try.func6, Try.ntmps6
  go_upto_region 1 with (fail)
  generalize w.alloc (.cells #[.slice NA n nc, .slice FA m fc] 25) = X at *
  have up : ∀ W, Below X.heap.size X W → Below w.heap.size w W := fun W hb => HB.out.trans (hb.mono HB.out.size)
  go_upto_region 3 with (first
    | (go_at_call 8; (with_reducible refine (alive_any _).mono ?_); rintro e w1 ⟨rfl, hb⟩; obtain ⟨p0, p1⟩ := (after _ hb).out; have B1 := Lib.hid hb; clear hb)
    | (go_at_call 9; (with_reducible refine (KB _ (up _ B1.out)).out.mono ?_); rintro e w2 ⟨⟨b1, rfl, hs1⟩, hb⟩; have S1 := Lib.hid hs1; have B2 := Lib.hid (B1.out.trans (hb.mono B1.out.size)); clear hb hs1; obtain ⟨q0, q1⟩ := (after _ B2.out).out))
  cases b1 with
  | true =>
    go_wp2
    go_ret
    exact ⟨rfl, up _ B2.out⟩
  | false =>
    have SS := Lib.hid (S1.out rfl)
    clear S1 p0 p1 x0 x1
    by_cases hn : n = 0
    · have hn1 : (n : Int) = 0 := by omega
      have hn2 : ((n : Int) == 0) = true := by simpa using hn1
      have hn3 : (n == 0) = true := by simpa using hn
      subst hn
      go_wp2
      go_ret
      exact ⟨rfl, up _ B2.out⟩
    have hn1 : 1 ≤ (n : Int) := by omega
    have hn2 : ((n : Int) == 0) = false := by simp; omega
    have hn3 : (n == 0) = false := by simpa using hn
    have hn4 : 0 < n := by omega
    by_cases ha : at_ < 0
    · go_wp2
      go_ret
      exact ⟨rfl, up _ B2.out⟩
    have ha1 : 0 ≤ at_ := by omega
    by_cases hz : looseE ns fs = 0
    · have LO := Lib.hid hz
      rw [hz] at KL
      have h256 : n ≤ 256 ∧ m ≤ 256 := by have := loose_small hz; have := NE.out; have := ME.out; omega
      have hn6 := h256.1
      have hm6 := h256.2
      clear hz KB
      obtain ⟨q, rfl⟩ : ∃ q : Nat, at_ = q := ⟨at_.toNat, by omega⟩
      go_upto_region 5 with (first
        | (go_at_call 17; (with_reducible refine (KL _ (up _ B2.out) SS.out).out.mono ?_); rintro e w3 ⟨rfl, hb⟩; have B3 := Lib.hid (B2.out.trans (hb.mono B2.out.size)); clear hb; obtain ⟨r0, r1⟩ := (after _ B3.out).out)
        | (go_at_call 13; (with_reducible refine (num_any _ _).mono ?_); rintro e w3' ⟨rfl, rfl⟩))
      go_upto_region 6 with (go_at_call 21; (with_reducible refine (KC _ (up _ B3.out) SS.out).out.mono ?_); rintro e w4 ⟨vN, vF, D, rfl, hC, hb⟩; have B4 := Lib.hid (B3.out.trans (hb.mono B3.out.size)); obtain ⟨A1, C1, rfl⟩ := own_slice hC.nodes; obtain ⟨A2, C2, rfl⟩ := own_slice hC.files; rw [← NE.out, ← ME.out]; have C4 := Lib.hid hC; clear hb hC; obtain ⟨s0, s1⟩ := (after _ B4.out).out)
      have LT := Lib.hid (lies_new w4 25 #[.slice A1 n C1, .slice A2 m C2])
      have B5 := Lib.hid (B4.out.alloc B4.out.size (.cells #[.slice A1 n C1, .slice A2 m C2] 25))
      have ZT := Lib.hid B4.out.size
      have CC := Lib.hid (copy_kept C4.out (World.grownBy_alloc w4 (.cells #[.slice A1 n C1, .slice A2 m C2] 25) none) (fun r e => by cases e))
      clear r0 r1 s0 s1 C4
      rw [← NE.out, ← ME.out] at CC
      generalize w4.alloc (.cells #[.slice A1 n C1, .slice A2 m C2] 25) = W5 at *
      generalize w4.heap.size = T at *
      have ZB := Lib.hid B3.out.size
      generalize w3.heap.size = BB at *
      obtain ⟨q0, q1⟩ := (after _ B5.out).out
      have t0 := lies_cell LT.out 0
      have t1 := lies_cell LT.out 1
      simp only [List.getElem?_toArray, List.getElem?_cons_zero, List.getElem?_cons_succ] at t0 t1
      go_upto_region 7 with (fail)
      have hk : (q : Int) % (n : Int) = ((q % n : Nat) : Int) := (Int.natCast_emod q n).symm
      rw [hk]
      clear hk
      obtain ⟨k, hke⟩ : ∃ k, k = q % n := ⟨_, rfl⟩
      have hkn : k < n := by rw [hke]; exact Nat.mod_lt _ hn4
      rw [← hke]
      have li : (k : Int) < (n : Int) := by omega
      have lf : k < ns.length := by have := NE.out; omega
      have FE : fileAt ns (q : Int) = ns[k].file := by
        unfold fileAt
        rw [Int.toNat_natCast, ← NE.out, ← hke, List.getD_eq_getElem?_getD, List.getElem?_eq_getElem lf]
        rfl
      clear hke
      obtain ⟨b, o, eA, hl, d1, d2, d3⟩ := HN.out k lf
      subst eA
      have d2 := (B5.out.cell (p := ⟨b, o + k * 3 + 1, none⟩) hl).trans d2
      have FX := Lib.hid (loose_files LO.out ns[k] (List.getElem_mem lf))
      have FE := Lib.hid FE
      generalize hx : ns[k] = x at *
      have HX := Lib.hid hx
      clear hx d1 d3
      obtain ⟨p, f, md⟩ := x
      have d2 : W5.cell? ⟨b, o + k * 3 + 1, none⟩ = some (.int .i64 f) := d2
      have FE : Hid (fileAt ns (q : Int) = f) := FE
      have FX : Hid (f = -1 ∨ 0 ≤ f ∧ f < fs.length) := FX
      have fN := fun (A : Bool) (h : A = true) => h
      clear fN
      have cn := CC.out.nodes
      have cf := CC.out.files
      rw [← NE.out] at cn
      rw [← ME.out] at cf
      obtain ⟨g, rfl⟩ := own_at cn hn4
      have CN := Lib.hid cn
      have CF := Lib.hid cf
      clear cn cf
      have u0 := (CN.out.cellAt (k * 3) (by omega)).trans (ncells_at ns k lf).1
      have u2 := (CN.out.cellAt (k * 3 + 2) (by omega)).trans (ncells_at ns k lf).2.2
      rw [HX.out] at u0 u2
      have u0 : W5.cell? ⟨g, k * 3, none⟩ = some (St p) := u0
      have u2 : W5.cell? ⟨g, k * 3 + 2, none⟩ = some (.int .i64 md) := u2
      have v0 := CN.out.frozenAt (k * 3)
      have v2 := CN.out.frozenAt (k * 3 + 2)
      have hf : f ≠ -1 := fun e => HFA.out (FE.out.trans e)
      have fb : (f == -1) = false := by simpa using hf
      have fb2 : (f != -1) = true := by simpa using hf
      obtain ⟨fi, rfl⟩ : ∃ fi : Nat, f = fi := ⟨f.toNat, by rcases FX.out with h | h <;> omega⟩
      have fl : fi < fs.length := by rcases FX.out with h | h <;> omega
      have fl2 : fi < m := by have := ME.out; omega
      have flm : (fi : Int) < (m : Int) := by omega
      clear FX hf
      obtain ⟨gF, rfl⟩ := own_at CF.out (by omega : 0 < m)
      have f0 := (CF.out.cellAt (fi * 2) (by omega)).trans (fcells_at D fs fi fl).1
      have f1 := (CF.out.cellAt (fi * 2 + 1) (by omega)).trans (fcells_at D fs fi fl).2
      have vf0 := CF.out.frozenAt (fi * 2)
      have vf1 := CF.out.frozenAt (fi * 2 + 1)
      have od := CC.out.data fi fl
      have eY : fs.getD fi ⟨0, []⟩ = fs[fi] := by simp [List.getD_eq_getElem?_getD, List.getElem?_eq_getElem fl]
      rw [eY] at od
      have EY := Lib.hid eY
      clear eY
      generalize hy : fs[fi] = y at *
      have HY := Lib.hid hy
      clear hy
      obtain ⟨fm, d⟩ := y
      have f0 : W5.cell? ⟨gF, fi * 2, none⟩ = some (.int .i64 fm) := f0
      have OD := Lib.hid (show OwnB W5 BB (D fi) d from od)
      clear od
      have DE : dataAt ns fs (q : Int) = d := by
        unfold dataAt
        rw [FE.out, Int.toNat_natCast, EY.out]
      have hd0 : d = [] := DE.symm.trans HDA.out
      obtain ⟨DA, dc, eD, _⟩ := own_bytes OD.out
      rw [eD, hd0] at f1
      have f1 : W5.cell? ⟨gF, fi * 2 + 1, none⟩ = some (.slice DA 0 dc) := f1
      clear OD eD DE
      clear u2 v2
      have pl : p.length ≤ 40000 := by
        have := SS.out.2.2.1 ns[k] (List.getElem_mem lf)
        rw [HX.out] at this
        exact this
      have PL := Lib.hid pl
      go_upto_region 8 with (fail)
      have az := run_add_z p (by omega) W5.drew
      go_still_tail 12, (by kernel_rfl)
      change wpList _ _ _ _ _ W5.drew
      go_upto_region 17 with (fail)
      have st := CN.out.stored (k * 3) (St (p ++ [122]))
      have sl : (ncells ns).set (k * 3) (St (p ++ [122])) = ncells (ns.set k ⟨p ++ [122], fi, md⟩) := by
        have := ncells_set 0 (St (p ++ [122])) (fun _ => ⟨p ++ [122], fi, md⟩) (by decide) ns k lf (by rw [HX.out]; rfl)
        exact this
      rw [sl] at st
      obtain ⟨hbg, _, hgh⟩ := own_heap CN.out g rfl
      have L6 := Lib.hid (lies_drew (lies_far (p := ⟨g, k * 3, none⟩) LT.out (fun e => by
        have e : T = g := e
        subst e
        have h1 := LT.out
        rw [show _ = _ from h1] at hgh
        injection hgh with hgh
        injection hgh with _ h4 _
        exact absurd h4 (by decide)) (St (p ++ [122]))))
      have B6 : Hid (Below X.heap.size X (W5.setCell ⟨g, k * 3, none⟩ (St (p ++ [122]))).drew) := Lib.hid (below_setCell B5.out (p := ⟨g, k * 3, none⟩) (Nat.le_trans ZB.out hbg) (St (p ++ [122]))).drew
      have C6 := Lib.hid (parts_of (copy_drew (copy_nodes_turned CC.out (ns' := ns.set k ⟨p ++ [122], fi, md⟩) (by rw [List.length_set, ← NE.out]; exact st.1) st.2)))
      have NEQ : Hid (¬ (ns.set k ⟨p ++ [122], fi, md⟩ = ns ∧ fs = fs)) := Lib.hid (fun h => by
        have h1 := congrArg (fun l => l[k]?) h.1
        simp only [List.getElem?_set_self lf, List.getElem?_eq_getElem lf, HX.out] at h1
        injection h1 with h1
        injection h1 with h1 _ _
        have h2 := congrArg List.length h1
        rw [List.length_append] at h2
        simp at h2)
      have P6 : Hid (∀ x ∈ ns.set k ⟨p ++ [122], fi, md⟩, x.path.length ≤ 100000) := Lib.hid (fun x hx => by
        rcases List.mem_or_eq_of_mem_set hx with h | h
        · exact Nat.le_trans (SS.out.2.2.1 x h) (by decide)
        · rw [h]
          show (p ++ [122]).length ≤ 100000
          rw [List.length_append]
          have := PL.out
          simp
          omega)
      clear u0 v0 t0 t1 st sl hgh q0 q1 az
      generalize (W5.setCell ⟨g, k * 3, none⟩ (St (p ++ [122]))).drew = W6 at *
      obtain ⟨us, hus⟩ : ∃ us, us = ns.set k ⟨p ++ [122], fi, md⟩ := ⟨_, rfl⟩
      obtain ⟨gs, hgs⟩ : ∃ gs, gs = fs := ⟨_, rfl⟩
      have NEQ : Hid (¬ (us = ns ∧ gs = fs)) := by rw [hus, hgs]; exact NEQ
      rw [← hus, ← hgs] at C6
      have P6 : Hid (∀ x ∈ us, x.path.length ≤ 100000) := by rw [hus]; exact P6
      clear hus hgs
      obtain ⟨NA6, nc6, e1, hN6⟩ := parts_nodes C6.out
      obtain ⟨FA6, fc6, e2, hF6⟩ := parts_files C6.out
      rw [e1, e2] at L6
      clear e1 e2 C6
      have SN := Lib.hid (same_no NEQ.out)
      have HN6 := Lib.hid hN6
      have HF6 := Lib.hid hF6
      clear hN6 hF6
      have z0 := lies_cell L6.out 0
      have z1 := lies_cell L6.out 1
      simp only [List.getElem?_toArray, List.getElem?_cons_zero, List.getElem?_cons_succ] at z0 z1
      have after6 : ∀ W, Below W6.heap.size W6 W → Hid ((W.cell? ⟨T, 0, none⟩ = some (.slice NA6 us.length nc6) ∧ W.cell? ⟨T, 1, none⟩ = some (.slice FA6 gs.length fc6)) ∧ (W.cell? ⟨w.heap.size, 0, none⟩ = some (.slice (some ⟨b, o, none⟩) n nc) ∧ W.cell? ⟨w.heap.size, 1, none⟩ = some (.slice FA m fc))) := fun W hb =>
        Lib.hid ⟨⟨(hb.cell (p := ⟨T, 0, none⟩) (lies_lt L6.out)).trans z0, (hb.cell (p := ⟨T, 1, none⟩) (lies_lt L6.out)).trans z1⟩, (after _ (B6.out.trans (hb.mono B6.out.size))).out⟩
      have KSU := fun (W : World) (hb : Below W6.heap.size W6 W) => KS W NA6 FA6 nc6 fc6 us gs (up _ (B6.out.trans (hb.mono B6.out.size))) (nodesAt_below HN6.out hb) (filesAt_below HF6.out hb) SS.out
      clear KS
      rw [SN.out] at KSU
      generalize hul : us.length = un at *
      generalize hgl : gs.length = gn at *
      have UL := Lib.hid hul
      have GL := Lib.hid hgl
      clear hul hgl
      obtain ⟨⟨z0', z1'⟩, ⟨y0, y1⟩⟩ := (after6 _ (Below.refl _ _)).out
      by_cases hz2 : looseE us gs = 0
      · have KU := fun (W : World) (hb : Below W6.heap.size W6 W) => Lib.hid (bytes_yes NA6 FA6 nc6 fc6 us gs W (nodesAt_below HN6.out hb) (filesAt_below HF6.out hb) P6.out hz2)
        have OT := Lib.hid (show other (bytesT ns fs) (bytesT us gs) = true by
          have : bytesT ns fs ≠ bytesT us gs := fun e => NEQ.out ⟨(bytes_inj LO.out hz2 e).1.symm, (bytes_inj LO.out hz2 e).2.symm⟩
          simpa [other] using this)
        have KY2 := fun (W : World) (hb : Below w.heap.size w W) => KY W hb SS.out LO.out
        clear KY hz2
        rw [UL.out, GL.out] at KU
        generalize bytesT ns fs = b1 at *
        generalize bytesT us gs = b2 at *
        have OT := OT.out
        go_upto_region 18 with (go_at_call 19; (with_reducible refine (KY2 _ (up _ B6.out)).out.mono ?_); rintro e w7 ⟨vb, rfl, ho, hb⟩; obtain ⟨DA7, dc7, rfl, hb7⟩ := own_bytes ho; have HB7 := Lib.hid hb7; have Z7 := Lib.hid hb; clear hb hb7 ho; obtain ⟨⟨m0, m1⟩, ⟨m2, m3⟩⟩ := (after6 _ Z7.out).out)
        go_upto_region 19 with (go_at_call 19; (with_reducible refine (KU _ Z7.out).out.mono ?_); rintro e w8 ⟨vc, rfl, ho, hb⟩; obtain ⟨DA8, dc8, rfl, hb8⟩ := own_bytes ho; have HB8 := Lib.hid hb8; have HB78 := Lib.hid (bytesAt_below HB7.out hb); have Z8 := Lib.hid (Z7.out.trans (hb.mono Z7.out.size)); clear hb hb8 ho; obtain ⟨⟨o0, o1⟩, ⟨o2, o3⟩⟩ := (after6 _ Z8.out).out)
        have cv1 := run_text48 DA7 b1 dc7 w8 HB78.out
        have cv2 := run_text48 DA8 b2 dc8 w8 HB8.out
        generalize b1.length = k1 at *
        generalize b2.length = k2 at *
        go_wp2_with (first
          | (go_at_call 13; (with_reducible refine (num_any _ _).mono ?_); rintro e w3' ⟨rfl, rfl⟩)
          | (go_at_call 18; (with_reducible refine (KSU _ Z8.out).out.mono ?_); rintro e w9 ⟨rfl, hb⟩; have Z9 := Lib.hid (Z8.out.trans (hb.mono Z8.out.size)); clear hb))
        go_ret
        exact ⟨rfl, up _ (B6.out.trans (Z9.out.mono B6.out.size))⟩
      · have KU := fun (W : World) (hb : Below W6.heap.size W6 W) => Lib.hid (bytes_no NA6 FA6 nc6 fc6 us gs W (nodesAt_below HN6.out hb) (filesAt_below HF6.out hb) P6.out hz2)
        have KY2 := fun (W : World) (hb : Below w.heap.size w W) => KY W hb SS.out LO.out
        clear KY
        rw [UL.out, GL.out] at KU
        generalize bytesT ns fs = b1 at *
        generalize looseE us gs = z at *
        have zn : (z != 0) = true := by simpa using hz2
        have zb : (z == 0) = false := by simpa using hz2
        clear hz2
        go_upto_region 18 with (go_at_call 19; (with_reducible refine (KY2 _ (up _ B6.out)).out.mono ?_); rintro e w7 ⟨vb, rfl, ho, hb⟩; obtain ⟨DA7, dc7, rfl, hb7⟩ := own_bytes ho; have Z7 := Lib.hid hb; clear hb hb7 ho; obtain ⟨⟨m0, m1⟩, ⟨m2, m3⟩⟩ := (after6 _ Z7.out).out)
        go_upto_region 19 with (go_at_call 19; (with_reducible refine (KU _ Z7.out).out.mono ?_); rintro e w8 ⟨rfl, hb⟩; have Z8 := Lib.hid (Z7.out.trans (hb.mono Z7.out.size)); clear hb; obtain ⟨⟨o0, o1⟩, ⟨o2, o3⟩⟩ := (after6 _ Z8.out).out)
        generalize b1.length = k1 at *
        go_wp2_with (first
          | (go_at_call 13; (with_reducible refine (num_any _ _).mono ?_); rintro e w3' ⟨rfl, rfl⟩)
          | (go_at_call 18; (with_reducible refine (KSU _ Z8.out).out.mono ?_); rintro e w9 ⟨rfl, hb⟩; have Z9 := Lib.hid (Z8.out.trans (hb.mono Z8.out.size)); clear hb))
        go_ret
        exact ⟨rfl, up _ (B6.out.trans (Z9.out.mono B6.out.size))⟩
    · have hzn : (looseE ns fs != 0) = true := by simpa using hz
      have hzb : (looseE ns fs == 0) = false := by simpa using hz
      clear hz
      generalize looseE ns fs = z at *
      go_wp2_with (first
        | (go_at_call 17; (with_reducible refine (KL _ (up _ B2.out) SS.out).out.mono ?_); rintro e w3 ⟨rfl, hb⟩; have B3 := Lib.hid (B2.out.trans (hb.mono B2.out.size)); clear hb; obtain ⟨r0, r1⟩ := (after _ B3.out).out)
        | (go_at_call 13; (with_reducible refine (num_any _ _).mono ?_); rintro e w3' ⟨rfl, rfl⟩))
      go_ret
      exact ⟨rfl, up _ B3.out⟩
end Go.Proofs.Ytaanihmbnjjhcaa
