/-
What is proved here: the law TreeTurned where a byte comes to a file.
-/
import Derived.Test.YtaanihmbnjjhcaaTuhM
import Derived.Test.YtaanihmbnjjhcaaStcM
set_option linter.unusedSimpArgs false
namespace Go.Proofs.Ytaanihmbnjjhcaa
open Go.Pth Go.Tre Go.RowKit Go.Word Go.Shelf
attribute [local go_sem] guard_eq guard_ne st_eql st_neq store_st
set_option maxRecDepth 100000 in
set_option maxHeartbeats 16000000 in
theorem turned_app (NA FA : Option Addr) (nc fc : Nat) (ns : List Nd) (fs : List Fl) (what at_ : Int) (w : World) (hN : NodesAt w NA ns) (hF : FilesAt w FA fs)
    (hw0 : (what == 0) = false) (hw1 : (what == 1) = true) (hfa : fileAt ns at_ ≠ -1)
    (h1 : ns.length ≤ 140737488355328) (h2 : fs.length ≤ 140737488355328) (h3 : ∀ x ∈ ns, x.path.length ≤ 140737488355328) (h4 : ∀ x ∈ fs, x.data.length ≤ 140737488355328) :
    Calls Try.prog 6 #[.agg #[.slice NA ns.length nc, .slice FA fs.length fc], .int .i64 what, .int .i64 at_] w fun e w' => e = .returned (.bool true) ∧ Below w.heap.size w w' := by
  have HFA := Lib.hid hfa
  clear hfa
  have L := lies_new w 25 #[.slice NA ns.length nc, .slice FA fs.length fc]
  have hB : Below w.heap.size w (w.alloc (.cells #[.slice NA ns.length nc, .slice FA fs.length fc] 25)) := (Below.refl _ _).alloc (Nat.le_refl _) _
  have KB := fun (W : World) (hb : Below w.heap.size w W) => Lib.hid (big_any NA FA nc fc ns fs W (nodesAt_below hN hb) (filesAt_below hF hb) h1 h2 h3 h4)
  have sp : Small ns fs → ∀ x ∈ ns, x.path.length ≤ 100000 := fun hs x hx => Nat.le_trans (hs.2.2.1 x hx) (by decide)
  have KL := fun (W : World) (hb : Below w.heap.size w W) (hs : Small ns fs) => Lib.hid (loose_any NA FA nc fc ns fs W (nodesAt_below hN hb) (filesAt_below hF hb) (sp hs))
  have KC := fun (W : World) (hb : Below w.heap.size w W) (hs : Small ns fs) => Lib.hid (copy_any NA FA nc fc ns fs W (nodesAt_below hN hb) (filesAt_below hF hb) hs.1 hs.2.1 hs.2.2.2)
  have KY := fun (W : World) (hb : Below w.heap.size w W) (hs : Small ns fs) (hz : looseE ns fs = 0) => Lib.hid (bytes_yes NA FA nc fc ns fs W (nodesAt_below hN hb) (filesAt_below hF hb) (sp hs) hz)
  have KS := fun (W : World) (MA GA : Option Addr) (mc gc : Nat) (ms : List Nd) (gs : List Fl) (hb : Below w.heap.size w W) (hM : NodesAt W MA ms) (hG : FilesAt W GA gs) (hs : Small ns fs) => Lib.hid (same_any NA FA MA GA nc fc mc gc ns ms fs gs W (nodesAt_below hN hb) (filesAt_below hF hb) hM hG (sp hs))
  have HN := Lib.hid (nodesAt_below hN hB)
  have HF := Lib.hid (filesAt_below hF hB)
  clear h1 h2 h3 h4 sp
  have x0 := lies_cell L 0
  have x1 := lies_cell L 1
  simp only [List.getElem?_toArray, List.getElem?_cons_zero, List.getElem?_cons_succ] at x0 x1
  have LX := Lib.hid L
  have HB := Lib.hid hB
  clear L hB hN hF
  generalize hne : ns.length = n at *
  generalize hme : fs.length = m at *
  have NE := Lib.hid hne.symm
  have ME := Lib.hid hme.symm
  clear hne hme
  have after : ∀ W, Below (w.alloc (.cells #[.slice NA n nc, .slice FA m fc] 25)).heap.size (w.alloc (.cells #[.slice NA n nc, .slice FA m fc] 25)) W →
      Hid (W.cell? ⟨w.heap.size, 0, none⟩ = some (.slice NA n nc) ∧ W.cell? ⟨w.heap.size, 1, none⟩ = some (.slice FA m fc)) := fun W hb =>
    Lib.hid ⟨(hb.cell (p := ⟨w.heap.size, 0, none⟩) (lies_lt LX.out)).trans x0, (hb.cell (p := ⟨w.heap.size, 1, none⟩) (lies_lt LX.out)).trans x1⟩
  go_enter Try.func6, Try.ntmps6
  go_upto_region 1 with (fail)
  generalize w.alloc (.cells #[.slice NA n nc, .slice FA m fc] 25) = X at *
  have up : ∀ W, Below X.heap.size X W → Below w.heap.size w W := fun W hb => HB.out.trans (hb.mono HB.out.size)
  go_upto_region 3 with (first
    | (go_at_call 8; (with_reducible refine (alive_any _).mono ?_); rintro e w1 ⟨rfl, hb⟩; obtain ⟨p0, p1⟩ := (after _ hb).out; have B1 := Lib.hid hb; clear hb)
    | (go_at_call 9; (with_reducible refine (KB _ (up _ B1.out)).out.mono ?_); rintro e w2 ⟨⟨b1, rfl, hs1⟩, hb⟩; have S1 := Lib.hid hs1; have B2 := Lib.hid (B1.out.trans (hb.mono B1.out.size)); clear hb hs1; obtain ⟨q0, q1⟩ := (after _ B2.out).out))
  cases b1 with
  | true =>
    go_wp2
    go_ret
    exact ⟨rfl, up _ B2.out⟩
  | false =>
    have SS := Lib.hid (S1.out rfl)
    clear S1 p0 p1 x0 x1
    by_cases hn : n = 0
    · have hn1 : (n : Int) = 0 := by omega
      have hn2 : ((n : Int) == 0) = true := by simpa using hn1
      have hn3 : (n == 0) = true := by simpa using hn
      subst hn
      go_wp2
      go_ret
      exact ⟨rfl, up _ B2.out⟩
    have hn1 : 1 ≤ (n : Int) := by omega
    have hn2 : ((n : Int) == 0) = false := by simp; omega
    have hn3 : (n == 0) = false := by simpa using hn
    have hn4 : 0 < n := by omega
    by_cases ha : at_ < 0
    · go_wp2
      go_ret
      exact ⟨rfl, up _ B2.out⟩
    have ha1 : 0 ≤ at_ := by omega
    by_cases hz : looseE ns fs = 0
    · have LO := Lib.hid hz
      rw [hz] at KL
      have h256 : n ≤ 256 ∧ m ≤ 256 := by have := loose_small hz; have := NE.out; have := ME.out; omega
      have hn6 := h256.1
      have hm6 := h256.2
      clear hz KB
      obtain ⟨q, rfl⟩ : ∃ q : Nat, at_ = q := ⟨at_.toNat, by omega⟩
      go_upto_region 5 with (first
        | (go_at_call 17; (with_reducible refine (KL _ (up _ B2.out) SS.out).out.mono ?_); rintro e w3 ⟨rfl, hb⟩; have B3 := Lib.hid (B2.out.trans (hb.mono B2.out.size)); clear hb; obtain ⟨r0, r1⟩ := (after _ B3.out).out)
        | (go_at_call 13; (with_reducible refine (num_any _ _).mono ?_); rintro e w3' ⟨rfl, rfl⟩))
      go_upto_region 6 with (go_at_call 21; (with_reducible refine (KC _ (up _ B3.out) SS.out).out.mono ?_); rintro e w4 ⟨vN, vF, D, rfl, hC, hb⟩; have B4 := Lib.hid (B3.out.trans (hb.mono B3.out.size)); obtain ⟨A1, C1, rfl⟩ := own_slice hC.nodes; obtain ⟨A2, C2, rfl⟩ := own_slice hC.files; rw [← NE.out, ← ME.out]; have C4 := Lib.hid hC; clear hb hC; obtain ⟨s0, s1⟩ := (after _ B4.out).out)
      have LT := Lib.hid (lies_new w4 25 #[.slice A1 n C1, .slice A2 m C2])
      have B5 := Lib.hid (B4.out.alloc B4.out.size (.cells #[.slice A1 n C1, .slice A2 m C2] 25))
      have ZT := Lib.hid B4.out.size
      have CC := Lib.hid (copy_kept C4.out (World.grownBy_alloc w4 (.cells #[.slice A1 n C1, .slice A2 m C2] 25) none) (fun r e => by cases e))
      clear r0 r1 s0 s1 C4
      rw [← NE.out, ← ME.out] at CC
      generalize w4.alloc (.cells #[.slice A1 n C1, .slice A2 m C2] 25) = W5 at *
      generalize w4.heap.size = T at *
      have ZB := Lib.hid B3.out.size
      generalize w3.heap.size = BB at *
      obtain ⟨q0, q1⟩ := (after _ B5.out).out
      have t0 := lies_cell LT.out 0
      have t1 := lies_cell LT.out 1
      simp only [List.getElem?_toArray, List.getElem?_cons_zero, List.getElem?_cons_succ] at t0 t1
      go_upto_region 7 with (fail)
      have hk : (q : Int) % (n : Int) = ((q % n : Nat) : Int) := (Int.natCast_emod q n).symm
      rw [hk]
      clear hk
      obtain ⟨k, hke⟩ : ∃ k, k = q % n := ⟨_, rfl⟩
      have hkn : k < n := by rw [hke]; exact Nat.mod_lt _ hn4
      rw [← hke]
      have li : (k : Int) < (n : Int) := by omega
      have lf : k < ns.length := by have := NE.out; omega
      have FE : fileAt ns (q : Int) = ns[k].file := by
        unfold fileAt
        rw [Int.toNat_natCast, ← NE.out, ← hke, List.getD_eq_getElem?_getD, List.getElem?_eq_getElem lf]
        rfl
      clear hke
      obtain ⟨b, o, eA, hl, d1, d2, d3⟩ := HN.out k lf
      subst eA
      have d2 := (B5.out.cell (p := ⟨b, o + k * 3 + 1, none⟩) hl).trans d2
      have FX := Lib.hid (loose_files LO.out ns[k] (List.getElem_mem lf))
      have FE := Lib.hid FE
      generalize hx : ns[k] = x at *
      have HX := Lib.hid hx
      clear hx d1 d3
      obtain ⟨p, f, md⟩ := x
      have d2 : W5.cell? ⟨b, o + k * 3 + 1, none⟩ = some (.int .i64 f) := d2
      have FE : Hid (fileAt ns (q : Int) = f) := FE
      have FX : Hid (f = -1 ∨ 0 ≤ f ∧ f < fs.length) := FX
      have fN := fun (A : Bool) (h : A = true) => h
      clear fN
      have cn := CC.out.nodes
      have cf := CC.out.files
      rw [← NE.out] at cn
      rw [← ME.out] at cf
      obtain ⟨g, rfl⟩ := own_at cn hn4
      have CN := Lib.hid cn
      have CF := Lib.hid cf
      clear cn cf
      have u0 := (CN.out.cellAt (k * 3) (by omega)).trans (ncells_at ns k lf).1
      have u2 := (CN.out.cellAt (k * 3 + 2) (by omega)).trans (ncells_at ns k lf).2.2
      rw [HX.out] at u0 u2
      have u0 : W5.cell? ⟨g, k * 3, none⟩ = some (St p) := u0
      have u2 : W5.cell? ⟨g, k * 3 + 2, none⟩ = some (.int .i64 md) := u2
      have v0 := CN.out.frozenAt (k * 3)
      have v2 := CN.out.frozenAt (k * 3 + 2)
      have hf : f ≠ -1 := fun e => HFA.out (FE.out.trans e)
      have fb : (f == -1) = false := by simpa using hf
      have fb2 : (f != -1) = true := by simpa using hf
      obtain ⟨fi, rfl⟩ : ∃ fi : Nat, f = fi := ⟨f.toNat, by rcases FX.out with h | h <;> omega⟩
      have fl : fi < fs.length := by rcases FX.out with h | h <;> omega
      have fl2 : fi < m := by have := ME.out; omega
      have flm : (fi : Int) < (m : Int) := by omega
      clear FX hf
      obtain ⟨gF, rfl⟩ := own_at CF.out (by omega : 0 < m)
      have f0 := (CF.out.cellAt (fi * 2) (by omega)).trans (fcells_at D fs fi fl).1
      have f1 := (CF.out.cellAt (fi * 2 + 1) (by omega)).trans (fcells_at D fs fi fl).2
      have vf0 := CF.out.frozenAt (fi * 2)
      have vf1 := CF.out.frozenAt (fi * 2 + 1)
      have od := CC.out.data fi fl
      have eY : fs.getD fi ⟨0, []⟩ = fs[fi] := by simp [List.getD_eq_getElem?_getD, List.getElem?_eq_getElem fl]
      rw [eY] at od
      have EY := Lib.hid eY
      clear eY
      generalize hy : fs[fi] = y at *
      have HY := Lib.hid hy
      clear hy
      obtain ⟨fm, d⟩ := y
      have f0 : W5.cell? ⟨gF, fi * 2, none⟩ = some (.int .i64 fm) := f0
      have OD := Lib.hid (show OwnB W5 BB (D fi) d from od)
      clear od
      obtain ⟨DA, dc, eD, _⟩ := own_bytes OD.out
      have od : W5.ownsRow BB 5 1 (.slice DA d.length dc) d.length (d.map yB) := by rw [← eD]; exact OD.out
      have f1D := f1
      rw [eD] at f1
      have dl : d.length ≤ 40000 := by
        have := SS.out.2.2.2 fs[fi] (List.getElem_mem fl)
        rw [HY.out] at this
        exact this
      have ED := Lib.hid eD
      have OW := Lib.hid od
      have DLE := Lib.hid dl
      clear od eD OD f0 vf0 u0 u2 v0 v2 f1D dl
      go_upto_region 14 with (fail)
      have i0x := info_parts byte_info
      obtain ⟨i0, hi0, hz0, hz1, hz2⟩ := i0x
      have gA : W5.grownBy W5.drew none := ⟨rfl, rfl, rfl, Nat.le_refl _, fun _ _ _ => rfl⟩
      have gB : W5.grownBy (W5.drew.alloc (.cells #[.int .u8 1] 5)) none := World.grownBy.trans gA (World.grownBy_alloc W5.drew (.cells #[.int .u8 1] 5) none)
      have rB : (W5.drew.alloc (.cells #[.int .u8 1] 5)).ownsRow BB 5 1 (.slice DA d.length dc) d.length (d.map yB) := OW.out.kept gB (by cases (Value.slice DA d.length dc).ownBlock <;> simp)
      have LB := lies_new W5.drew 5 #[.int .u8 1]
      have bbs : BB ≤ (W5.drew.alloc (.cells #[.int .u8 1] 5)).heap.size := by
        obtain ⟨hbg, _, hgh⟩ := own_heap CF.out gF rfl
        have h1 : gF < W5.heap.size := (Array.getElem?_eq_some_iff.1 hgh).1
        have h2 : (W5.drew.alloc (.cells #[.int .u8 1] 5)).heap.size = W5.heap.size + 1 := by simp
        omega
      obtain ⟨vG, Z, hr, ho, hg, _⟩ := run_append_own (P := Try.prog) (W5.drew.alloc (.cells #[.int .u8 1] 5)) BB 40 40 5 i0 (.int .u8 0) 1 1 Try.underlying40 hi0 hz0 hz1 hz2 rfl (by decide) (.slice DA d.length dc) d.length (d.map yB) rB ⟨W5.drew.heap.size, 0, none⟩ 1 1 [.int .u8 1] rfl (fun q u hq => by
        match q, hq with
        | 0, hq => injection hq with hq; subst hq; exact lies_cell LB 0
        | q + 1, hq => simp at hq) (fun u hu => by simp at hu; subst hu; rfl) (by have := DLE.out; unfold maxLen; omega) (by have := DLE.out; omega) bbs
      obtain ⟨Ag, Cg, rfl⟩ := own_slice ho
      have gZ : W5.grownBy Z (D fi).ownBlock := by
        rw [ED.out]
        exact (World.grownBy.but gB _).trans hg
      have hoB : OwnB Z BB (.slice Ag (d.length + 1) Cg) (d ++ [1]) := by
        unfold OwnB
        rw [List.length_append, List.map_append]
        exact ho
      have cp := copy_data_new (x := ⟨fm, d ++ [1]⟩) (v := .slice Ag (d.length + 1) Cg) (by have := CC.out; rw [ME.out] at this; exact this) fl (by rw [HY.out]) hoB gZ
      have ot : ∀ (g' : Nat) (t' : TypeId) (cs : Array Value), W5.heap[g']? = some (.cells cs t' (0, 0)) → t' ≠ 5 → Z.heap[g']? = some (.cells cs t' (0, 0)) := fun g' t' cs h1 h2 => by
        refine (gZ.block g' (Array.getElem?_eq_some_iff.1 h1).1 (fun e => ?_)).trans h1
        obtain ⟨_, cs', h3⟩ := own_heap (CC.out.data fi fl) g' e.symm
        rw [h1] at h3
        injection h3 with h3
        injection h3 with _ h4 _
        exact h2 h4
      obtain ⟨hbg, cF, hgF⟩ := own_heap CF.out gF rfl
      have LZT : Lies Z T 25 #[.slice (some ⟨g, 0, none⟩) n C1, .slice (some ⟨gF, 0, none⟩) m C2] := ot T 25 _ LT.out (by decide)
      have LAT : Lies W5.drew T 25 #[.slice (some ⟨g, 0, none⟩) n C1, .slice (some ⟨gF, 0, none⟩) m C2] := LT.out
      have LBT : Lies (W5.drew.alloc (.cells #[.int .u8 1] 5)) T 25 #[.slice (some ⟨g, 0, none⟩) n C1, .slice (some ⟨gF, 0, none⟩) m C2] := lies_alloc LAT _
      have nTg : T ≠ gF := fun e => by
        subst e
        have h1 := LT.out
        rw [show _ = _ from h1] at hgF
        injection hgF with hgF
        injection hgF with _ h4 _
        exact absurd h4 (by decide)
      have zF := ot gF 42 cF hgF (by decide)
      have cZ : Z.cell? ⟨gF, fi * 2 + 1, none⟩ = some (.slice DA d.length dc) := (cell_of_row Z gF (fi * 2 + 1) cF 42 (0, 0) zF).trans ((cell_of_row W5 gF (fi * 2 + 1) cF 42 (0, 0) hgF).symm.trans f1)
      have fZ : Z.frozen? ⟨gF, fi * 2 + 1, none⟩ = false := frozen_of_row Z gF (fi * 2 + 1) cF 42 zF
      have cB : (W5.drew.alloc (.cells #[.int .u8 1] 5)).cell? ⟨gF, fi * 2 + 1, none⟩ = some (.slice DA d.length dc) := (cell_of_row _ gF (fi * 2 + 1) cF 42 (0, 0) (lies_alloc (show Lies W5.drew gF 42 cF from hgF) _)).trans ((cell_of_row W5 gF (fi * 2 + 1) cF 42 (0, 0) hgF).symm.trans f1)
      have F1 := Lib.hid (fun (l : Array Bool) (hl : l.getD 13 false = false) => stc_all (i := 9) (j := 10) (k := 13) (A := W5.drew) (B := W5.drew.alloc (.cells #[.int .u8 1] 5)) (C := Z) (D := Z.setCell ⟨gF, fi * 2 + 1, none⟩ (.slice Ag (d.length + 1) Cg)) (l := l) (fun W => W.cell? ⟨T, 1, none⟩ = some (.slice (some ⟨gF, 0, none⟩) m C2)) (lies_cell LAT 1) (lies_cell LBT 1) (lies_cell LZT 1) (fun h => by rw [hl] at h; cases h))
      have F8 := Lib.hid (fun (l : Array Bool) (hl : l.getD 13 false = false) => stc_all (i := 9) (j := 10) (k := 13) (A := W5.drew) (B := W5.drew.alloc (.cells #[.int .u8 1] 5)) (C := Z) (D := Z.setCell ⟨gF, fi * 2 + 1, none⟩ (.slice Ag (d.length + 1) Cg)) (l := l) (fun W => W.cell? ⟨gF, fi * 2 + 1, none⟩ = some (.slice DA d.length dc)) f1 cB cZ (fun h => by rw [hl] at h; cases h))
      have HR := Lib.hid hr
      have CP := Lib.hid cp
      have L6 := Lib.hid (lies_far (p := ⟨gF, fi * 2 + 1, none⟩) LZT (fun e => nTg e) (.slice Ag (d.length + 1) Cg))
      have BX : Below X.heap.size X Z := B5.out.grown gZ B5.out.size (fun k e => Nat.le_trans ZB.out (own_heap (CC.out.data fi fl) k e).1)
      have B6 : Hid (Below X.heap.size X (Z.setCell ⟨gF, fi * 2 + 1, none⟩ (.slice Ag (d.length + 1) Cg))) := Lib.hid (below_setCell BX (p := ⟨gF, fi * 2 + 1, none⟩) (Nat.le_trans ZB.out hbg) (.slice Ag (d.length + 1) Cg))
      have NEQ : Hid (¬ (ns = ns ∧ fs.set fi ⟨fm, d ++ [1]⟩ = fs)) := Lib.hid (fun h => by
        have h1 := congrArg (fun l => l[fi]?) h.2
        simp only [List.getElem?_set_self fl, List.getElem?_eq_getElem fl, HY.out] at h1
        injection h1 with h1
        injection h1 with _ h1
        have h2 := congrArg List.length h1
        rw [List.length_append] at h2
        simp at h2)
      have C6 : Hid (Parts6 (Z.setCell ⟨gF, fi * 2 + 1, none⟩ (.slice Ag (d.length + 1) Cg)) BB (.slice (some ⟨g, 0, none⟩) n C1) (.slice (some ⟨gF, 0, none⟩) m C2) ns (fs.set fi ⟨fm, d ++ [1]⟩)) := by
        have := CP.out
        rw [← ME.out] at this
        exact Lib.hid this
      have P6 : Hid (∀ x ∈ ns, x.path.length ≤ 100000) := Lib.hid (fun x hx => Nat.le_trans (SS.out.2.2.1 x hx) (by decide))
      have FZ := Lib.hid fZ
      have CZ := Lib.hid cZ
      clear gA gB rB LB bbs hr ho hg gZ hoB cp ot hbg hgF LZT LAT LBT nTg zF cZ fZ cB BX f1 t0 t1 CP
      refine wp_region_any (by kernel_rfl) ?_
      refine every_at (own := ownAll _) (vals := fun k => match k with | 0 => .pointer (some ⟨T, 1, none⟩) | 1 => .slice (some ⟨gF, 0, none⟩) m C2 | 2 => .int .i64 (fi : Int) | 3 => .pointer (some ⟨T, 1, none⟩) | 4 => .slice (some ⟨gF, 0, none⟩) m C2 | 5 => .int .i64 (fi : Int) | 6 => .pointer (some ⟨gF, fi * 2, none⟩) | 7 => .pointer (some ⟨gF, fi * 2 + 1, none⟩) | 8 => .slice DA d.length dc | 9 => .slice (some ⟨W5.drew.heap.size, 0, none⟩) 1 1 | 10 => .slice Ag (d.length + 1) Cg | 11 => .pointer (some ⟨gF, fi * 2, none⟩) | 12 => .pointer (some ⟨gF, fi * 2 + 1, none⟩) | 13 => undef | _ => undef) id (fun l W => W = (Stc 9 10 13 (W5.drew) (W5.drew.alloc (.cells #[.int .u8 1] 5)) (Z) (Z.setCell ⟨gF, fi * 2 + 1, none⟩ (.slice Ag (d.length + 1) Cg))) l) (acAll_of (by kernel_rfl)) (onAll_of (by kernel_rfl)) (dstAll_of (by kernel_rfl)) ?hop ?hend _ _ _ _ rfl (shut_none _) (of_decide_eq_true (by kernel_rfl)) (tabd_start (fun i => rep_false _ i)) rfl
      case hop =>
        intro x oi a w0 listed hoi hun hsz hcl hdeps ht hI
        have hx : x < 14 := (Array.getElem?_eq_some_iff.1 hoi).1
        have cx : x = 0 ∨ x = 1 ∨ x = 2 ∨ x = 3 ∨ x = 4 ∨ x = 5 ∨ x = 6 ∨ x = 7 ∨ x = 8 ∨ x = 9 ∨ x = 10 ∨ x = 11 ∨ x = 12 ∨ x = 13 := by omega
        have sz : listed.size = 14 := hsz
        have uj : listed.getD 10 false = true → listed.getD 9 false = true := fun h => hcl 10 _ rfl h ⟨9, .data⟩ (by simp) rfl
        have uk : listed.getD 13 false = true → listed.getD 10 false = true := fun h => hcl 13 _ rfl h ⟨10, .data⟩ (by simp) rfl
        have ul1 : listed.getD 13 false = true → listed.getD 1 false = true := fun h => hcl 13 _ rfl h ⟨1, .phase⟩ (by simp) rfl
        have ul4 : listed.getD 13 false = true → listed.getD 4 false = true := fun h => hcl 13 _ rfl h ⟨4, .phase⟩ (by simp) rfl
        have ul8 : listed.getD 13 false = true → listed.getD 8 false = true := fun h => hcl 13 _ rfl h ⟨8, .phase⟩ (by simp) rfl
        clear hcl
        obtain rfl | rfl | rfl | rfl | rfl | rfl | rfl | rfl | rfl | rfl | rfl | rfl | rfl | rfl := cx
        all_goals obtain rfl := Option.some.inj hoi
        · have e9 : a.eval (.tmp 9) = .pointer (some ⟨T, 0, none⟩) := (tabd_old ht (t := 9) (of_decide_eq_true (by kernel_rfl)) (by kernel_rfl)).trans rfl
          exact .inl ⟨rfl, fun K hk => wp_val (v := .pointer (some ⟨T, 1, none⟩)) (by generalize a.eval = ρ at *; unfold execOp; simp only [e9]; go_simp) (hk _ (hI.trans (stc_keep (by decide) (by decide) (by decide)).symm))⟩
        · have d0 := hdeps ⟨0, .data⟩ (by simp) rfl
          have e107 : a.eval (.tmp 107) = .pointer (some ⟨T, 1, none⟩) := tabd_at ht (t := 107) (of_decide_eq_true (by kernel_rfl)) (by kernel_rfl) d0
          have h : w0.cell? ⟨T, 1, none⟩ = some (.slice (some ⟨gF, 0, none⟩) m C2) := by rw [hI]; exact F1.out listed (no_of ul1 (by simp [hun]))
          exact .inl ⟨rfl, fun K hk => wp_val (v := .slice (some ⟨gF, 0, none⟩) m C2) (by clear hk hI hoi hdeps ht; generalize a.eval = ρ at *; unfold execOp; simp only [e107]; go_simp) (hk _ (hI.trans (stc_keep (by decide) (by decide) (by decide)).symm))⟩
        · have e11 : a.eval (.tmp 11) = .int .i64 (fi : Int) := (tabd_old ht (t := 11) (of_decide_eq_true (by kernel_rfl)) (by kernel_rfl)).trans rfl
          exact .inl ⟨rfl, fun K hk => wp_val (v := .int .i64 (fi : Int)) (by generalize a.eval = ρ at *; unfold execOp; simp only [e11]; go_simp) (hk _ (hI.trans (stc_keep (by decide) (by decide) (by decide)).symm))⟩
        · have e9 : a.eval (.tmp 9) = .pointer (some ⟨T, 0, none⟩) := (tabd_old ht (t := 9) (of_decide_eq_true (by kernel_rfl)) (by kernel_rfl)).trans rfl
          exact .inl ⟨rfl, fun K hk => wp_val (v := .pointer (some ⟨T, 1, none⟩)) (by generalize a.eval = ρ at *; unfold execOp; simp only [e9]; go_simp) (hk _ (hI.trans (stc_keep (by decide) (by decide) (by decide)).symm))⟩
        · have d3 := hdeps ⟨3, .data⟩ (by simp) rfl
          have e110 : a.eval (.tmp 110) = .pointer (some ⟨T, 1, none⟩) := tabd_at ht (t := 110) (of_decide_eq_true (by kernel_rfl)) (by kernel_rfl) d3
          have h : w0.cell? ⟨T, 1, none⟩ = some (.slice (some ⟨gF, 0, none⟩) m C2) := by rw [hI]; exact F1.out listed (no_of ul4 (by simp [hun]))
          exact .inl ⟨rfl, fun K hk => wp_val (v := .slice (some ⟨gF, 0, none⟩) m C2) (by clear hk hI hoi hdeps ht; generalize a.eval = ρ at *; unfold execOp; simp only [e110]; go_simp) (hk _ (hI.trans (stc_keep (by decide) (by decide) (by decide)).symm))⟩
        · have e11 : a.eval (.tmp 11) = .int .i64 (fi : Int) := (tabd_old ht (t := 11) (of_decide_eq_true (by kernel_rfl)) (by kernel_rfl)).trans rfl
          exact .inl ⟨rfl, fun K hk => wp_val (v := .int .i64 (fi : Int)) (by generalize a.eval = ρ at *; unfold execOp; simp only [e11]; go_simp) (hk _ (hI.trans (stc_keep (by decide) (by decide) (by decide)).symm))⟩
        · have d4 := hdeps ⟨4, .data⟩ (by simp) rfl
          have d5 := hdeps ⟨5, .data⟩ (by simp) rfl
          have e111 : a.eval (.tmp 111) = .slice (some ⟨gF, 0, none⟩) m C2 := tabd_at ht (t := 111) (of_decide_eq_true (by kernel_rfl)) (by kernel_rfl) d4
          have e112 : a.eval (.tmp 112) = .int .i64 (fi : Int) := tabd_at ht (t := 112) (of_decide_eq_true (by kernel_rfl)) (by kernel_rfl) d5
          exact .inl ⟨rfl, fun K hk => wp_val (v := .pointer (some ⟨gF, fi * 2, none⟩)) (by generalize a.eval = ρ at *; unfold execOp; simp only [e111, e112]; go_simp) (hk _ (hI.trans (stc_keep (by decide) (by decide) (by decide)).symm))⟩
        · have d6 := hdeps ⟨6, .data⟩ (by simp) rfl
          have e113 : a.eval (.tmp 113) = .pointer (some ⟨gF, fi * 2, none⟩) := tabd_at ht (t := 113) (of_decide_eq_true (by kernel_rfl)) (by kernel_rfl) d6
          exact .inl ⟨rfl, fun K hk => wp_val (v := .pointer (some ⟨gF, fi * 2 + 1, none⟩)) (by generalize a.eval = ρ at *; unfold execOp; simp only [e113]; go_simp) (hk _ (hI.trans (stc_keep (by decide) (by decide) (by decide)).symm))⟩
        · have d7 := hdeps ⟨7, .data⟩ (by simp) rfl
          have e114 : a.eval (.tmp 114) = .pointer (some ⟨gF, fi * 2 + 1, none⟩) := tabd_at ht (t := 114) (of_decide_eq_true (by kernel_rfl)) (by kernel_rfl) d7
          have h : w0.cell? ⟨gF, fi * 2 + 1, none⟩ = some (.slice DA d.length dc) := by rw [hI]; exact F8.out listed (no_of ul8 (by simp [hun]))
          exact .inl ⟨rfl, fun K hk => wp_val (v := .slice DA d.length dc) (by clear hk hI hoi hdeps ht; generalize a.eval = ρ at *; unfold execOp; simp only [e114]; go_simp) (hk _ (hI.trans (stc_keep (by decide) (by decide) (by decide)).symm))⟩
        · have hst : (Stc 9 10 13 (W5.drew) (W5.drew.alloc (.cells #[.int .u8 1] 5)) (Z) (Z.setCell ⟨gF, fi * 2 + 1, none⟩ (.slice Ag (d.length + 1) Cg))) listed = W5.drew ∧ (Stc 9 10 13 (W5.drew) (W5.drew.alloc (.cells #[.int .u8 1] 5)) (Z) (Z.setCell ⟨gF, fi * 2 + 1, none⟩ (.slice Ag (d.length + 1) Cg))) (listed.setIfInBounds 9 true) = W5.drew.alloc (.cells #[.int .u8 1] 5) := stc_0 (by decide) (by decide) uj uk (by omega) hun
          have hw : W5.drew = w0 := (hI.trans hst.1).symm
          subst hw
          exact .inl ⟨rfl, fun K hk => wp_buildSlice 40 5 1 _ rfl #[.int .u8 1] i0 _ Try.underlying40 hi0 hz0 (by rw [hz1]; decide) (by rw [hz1]; decide) (by rw [hz1]; simp only [List.map_toArray, List.map_cons, List.map_nil, ]; kernel_rfl) (hk _ hst.2.symm)⟩
        · have d8 := hdeps ⟨8, .data⟩ (by simp) rfl
          have d9 := hdeps ⟨9, .data⟩ (by simp) rfl
          have e115 : a.eval (.tmp 115) = .slice DA d.length dc := tabd_at ht (t := 115) (of_decide_eq_true (by kernel_rfl)) (by kernel_rfl) d8
          have e116 : a.eval (.tmp 116) = .slice (some ⟨W5.drew.heap.size, 0, none⟩) 1 1 := tabd_at ht (t := 116) (of_decide_eq_true (by kernel_rfl)) (by kernel_rfl) d9
          have hst : (Stc 9 10 13 (W5.drew) (W5.drew.alloc (.cells #[.int .u8 1] 5)) (Z) (Z.setCell ⟨gF, fi * 2 + 1, none⟩ (.slice Ag (d.length + 1) Cg))) listed = W5.drew.alloc (.cells #[.int .u8 1] 5) ∧ (Stc 9 10 13 (W5.drew) (W5.drew.alloc (.cells #[.int .u8 1] 5)) (Z) (Z.setCell ⟨gF, fi * 2 + 1, none⟩ (.slice Ag (d.length + 1) Cg))) (listed.setIfInBounds 10 true) = Z := stc_1 (by decide) (by decide) uk (by omega) hun d9
          have hw : W5.drew.alloc (.cells #[.int .u8 1] 5) = w0 := (hI.trans hst.1).symm
          subst hw
          exact .inl ⟨rfl, fun K hk => wp_valT (v := .slice Ag (d.length + 1) Cg) (w' := Z) (app_op _ _ rfl e115 e116 HR.out) (hk _ hst.2.symm)⟩
        · have d1 := hdeps ⟨1, .data⟩ (by simp) rfl
          have d2 := hdeps ⟨2, .data⟩ (by simp) rfl
          have e108 : a.eval (.tmp 108) = .slice (some ⟨gF, 0, none⟩) m C2 := tabd_at ht (t := 108) (of_decide_eq_true (by kernel_rfl)) (by kernel_rfl) d1
          have e109 : a.eval (.tmp 109) = .int .i64 (fi : Int) := tabd_at ht (t := 109) (of_decide_eq_true (by kernel_rfl)) (by kernel_rfl) d2
          exact .inl ⟨rfl, fun K hk => wp_val (v := .pointer (some ⟨gF, fi * 2, none⟩)) (by generalize a.eval = ρ at *; unfold execOp; simp only [e108, e109]; go_simp) (hk _ (hI.trans (stc_keep (by decide) (by decide) (by decide)).symm))⟩
        · have d11 := hdeps ⟨11, .data⟩ (by simp) rfl
          have e118 : a.eval (.tmp 118) = .pointer (some ⟨gF, fi * 2, none⟩) := tabd_at ht (t := 118) (of_decide_eq_true (by kernel_rfl)) (by kernel_rfl) d11
          exact .inl ⟨rfl, fun K hk => wp_val (v := .pointer (some ⟨gF, fi * 2 + 1, none⟩)) (by generalize a.eval = ρ at *; unfold execOp; simp only [e118]; go_simp) (hk _ (hI.trans (stc_keep (by decide) (by decide) (by decide)).symm))⟩
        · have d12 := hdeps ⟨12, .data⟩ (by simp) rfl
          have d10 := hdeps ⟨10, .data⟩ (by simp) rfl
          have e117 : a.eval (.tmp 117) = .slice Ag (d.length + 1) Cg := tabd_at ht (t := 117) (of_decide_eq_true (by kernel_rfl)) (by kernel_rfl) d10
          have e119 : a.eval (.tmp 119) = .pointer (some ⟨gF, fi * 2 + 1, none⟩) := tabd_at ht (t := 119) (of_decide_eq_true (by kernel_rfl)) (by kernel_rfl) d12
          have hst : (Stc 9 10 13 (W5.drew) (W5.drew.alloc (.cells #[.int .u8 1] 5)) (Z) (Z.setCell ⟨gF, fi * 2 + 1, none⟩ (.slice Ag (d.length + 1) Cg))) listed = Z ∧ (Stc 9 10 13 (W5.drew) (W5.drew.alloc (.cells #[.int .u8 1] 5)) (Z) (Z.setCell ⟨gF, fi * 2 + 1, none⟩ (.slice Ag (d.length + 1) Cg))) (listed.setIfInBounds 13 true) = Z.setCell ⟨gF, fi * 2 + 1, none⟩ (.slice Ag (d.length + 1) Cg) := stc_2 (by decide) (by omega) hun d10
          have hw : Z = w0 := (hI.trans hst.1).symm
          subst hw
          exact .inl ⟨rfl, fun K hk => wp_skipT (w' := Z.setCell ⟨gF, fi * 2 + 1, none⟩ (.slice Ag (d.length + 1) Cg)) (by have h1 := CZ.out; have h2 := FZ.out; clear hk hst hI ht hoi hdeps; generalize a.eval = ρ at *; unfold execOp; simp only [e117, e119]; go_simp) (hk _ hst.2.symm)⟩
      case hend =>
        intro a w0 listed hall ht hI
        rw [tabd_fill ht (fun t i ho => hall i (ownAll_lt ho))]
        have hw : w0 = _ := hI.trans (stc_end (hall 13 (of_decide_eq_true (by kernel_rfl))))
        change Exit.inBlock _ (Exit.then _ _) Exit.normal { tmps := (.agg #[.slice (some ⟨b, o, none⟩) n nc, .slice FA m fc] :: .int .i64 what :: .int .i64 (q : Int) :: .pointer (some ⟨w.heap.size, 0, none⟩) :: undef :: undef :: .bool false :: .bool true :: .bool false :: .pointer (some ⟨T, 0, none⟩) :: .int .i64 (k : Int) :: .int .i64 (fi : Int) :: undef :: undef :: undef :: undef :: .bool true :: .agg #[.slice (some ⟨b, o, none⟩) n nc, .slice FA m fc] :: .bool false :: .bool true :: .bool false :: .bool false :: .bool false :: .bool false :: .bool false :: .pointer (some ⟨w.heap.size, 0, none⟩) :: .slice (some ⟨b, o, none⟩) n nc :: .int .i64 (n : Int) :: .bool false :: .bool false :: .bool false :: .int .i64 (q : Int) :: .bool false :: .bool false :: .bool false :: .agg #[.slice (some ⟨b, o, none⟩) n nc, .slice FA m fc] :: .int .i64 0 :: .int .i64 0 :: .bool false :: .bool false :: undef :: .agg #[.slice (some ⟨b, o, none⟩) n nc, .slice FA m fc] :: .agg #[.slice (some ⟨g, 0, none⟩) n C1, .slice (some ⟨gF, 0, none⟩) m C2] :: .int .i64 (q : Int) :: .pointer (some ⟨w.heap.size, 0, none⟩) :: .slice (some ⟨b, o, none⟩) n nc :: .int .i64 (n : Int) :: .int .i64 (k : Int) :: .pointer (some ⟨w.heap.size, 0, none⟩) :: .slice (some ⟨b, o, none⟩) n nc :: .int .i64 (k : Int) :: .pointer (some ⟨b, o + k * 3, none⟩) :: .pointer (some ⟨b, o + k * 3 + 1, none⟩) :: .int .i64 (fi : Int) :: undef :: undef :: undef :: undef :: undef :: undef :: undef :: undef :: undef :: undef :: undef :: undef :: .bool false :: .int .i64 what :: .bool false :: .bool false :: undef :: undef :: .bool false :: undef :: undef :: undef :: undef :: undef :: undef :: undef :: undef :: undef :: undef :: undef :: undef :: .bool false :: .int .i64 what :: .bool false :: undef :: undef :: undef :: undef :: undef :: undef :: undef :: undef :: undef :: undef :: undef :: undef :: .bool true :: .int .i64 what :: .bool true :: .bool true :: .int .i64 (fi : Int) :: .bool true :: .bool true :: .pointer (some ⟨T, 1, none⟩) :: .slice (some ⟨gF, 0, none⟩) m C2 :: .int .i64 (fi : Int) :: .pointer (some ⟨T, 1, none⟩) :: .slice (some ⟨gF, 0, none⟩) m C2 :: .int .i64 (fi : Int) :: .pointer (some ⟨gF, fi * 2, none⟩) :: .pointer (some ⟨gF, fi * 2 + 1, none⟩) :: .slice DA d.length dc :: .slice (some ⟨W5.drew.heap.size, 0, none⟩) 1 1 :: .slice Ag (d.length + 1) Cg :: .pointer (some ⟨gF, fi * 2, none⟩) :: .pointer (some ⟨gF, fi * 2 + 1, none⟩) :: undef :: undef :: undef :: undef :: undef :: undef :: undef :: undef :: undef :: undef :: undef :: undef :: undef :: undef :: undef :: undef :: undef :: undef :: undef :: undef :: undef :: undef :: undef :: undef :: undef :: undef :: undef :: undef :: undef :: undef :: undef :: undef :: undef :: undef :: undef :: undef :: undef :: undef :: undef :: undef :: undef :: undef :: undef :: undef :: undef :: undef :: undef :: undef :: undef :: undef :: undef :: undef :: undef :: undef :: undef :: undef :: undef :: undef :: undef :: undef :: undef :: undef :: undef :: undef :: undef :: undef :: undef :: undef :: undef :: undef :: undef :: undef :: undef :: undef :: undef :: undef :: undef :: undef :: undef :: undef :: undef :: undef :: undef :: undef :: []).toArray, defers := [] } w0
        clear hall ht hI
        subst hw
        generalize (Z.setCell ⟨gF, fi * 2 + 1, none⟩ (.slice Ag (d.length + 1) Cg)) = W6 at *
        clear HR F1 F8 CZ FZ q0 q1 flm fl2 ED OW
        go_upto_region 17 with (fail)
        obtain ⟨us, hus⟩ : ∃ us, us = ns := ⟨_, rfl⟩
        obtain ⟨gs, hgs⟩ : ∃ gs, gs = fs.set fi ⟨fm, d ++ [1]⟩ := ⟨_, rfl⟩
        have NEQ : Hid (¬ (us = ns ∧ gs = fs)) := by rw [hus, hgs]; exact NEQ
        rw [← hus, ← hgs] at C6
        have P6 : Hid (∀ x ∈ us, x.path.length ≤ 100000) := by rw [hus]; exact P6
        clear hus hgs
        obtain ⟨NA6, nc6, e1, hN6⟩ := parts_nodes C6.out
        obtain ⟨FA6, fc6, e2, hF6⟩ := parts_files C6.out
        rw [e1, e2] at L6
        clear e1 e2 C6
        have SN := Lib.hid (same_no NEQ.out)
        have HN6 := Lib.hid hN6
        have HF6 := Lib.hid hF6
        clear hN6 hF6
        have z0 := lies_cell L6.out 0
        have z1 := lies_cell L6.out 1
        simp only [List.getElem?_toArray, List.getElem?_cons_zero, List.getElem?_cons_succ] at z0 z1
        have after6 : ∀ W, Below W6.heap.size W6 W → Hid ((W.cell? ⟨T, 0, none⟩ = some (.slice NA6 us.length nc6) ∧ W.cell? ⟨T, 1, none⟩ = some (.slice FA6 gs.length fc6)) ∧ (W.cell? ⟨w.heap.size, 0, none⟩ = some (.slice (some ⟨b, o, none⟩) n nc) ∧ W.cell? ⟨w.heap.size, 1, none⟩ = some (.slice FA m fc))) := fun W hb =>
          Lib.hid ⟨⟨(hb.cell (p := ⟨T, 0, none⟩) (lies_lt L6.out)).trans z0, (hb.cell (p := ⟨T, 1, none⟩) (lies_lt L6.out)).trans z1⟩, (after _ (B6.out.trans (hb.mono B6.out.size))).out⟩
        have KSU := fun (W : World) (hb : Below W6.heap.size W6 W) => KS W NA6 FA6 nc6 fc6 us gs (up _ (B6.out.trans (hb.mono B6.out.size))) (nodesAt_below HN6.out hb) (filesAt_below HF6.out hb) SS.out
        clear KS
        rw [SN.out] at KSU
        generalize hul : us.length = un at *
        generalize hgl : gs.length = gn at *
        have UL := Lib.hid hul
        have GL := Lib.hid hgl
        clear hul hgl
        obtain ⟨⟨z0', z1'⟩, ⟨y0, y1⟩⟩ := (after6 _ (Below.refl _ _)).out
        by_cases hz2 : looseE us gs = 0
        · have KU := fun (W : World) (hb : Below W6.heap.size W6 W) => Lib.hid (bytes_yes NA6 FA6 nc6 fc6 us gs W (nodesAt_below HN6.out hb) (filesAt_below HF6.out hb) P6.out hz2)
          have OT := Lib.hid (show other (bytesT ns fs) (bytesT us gs) = true by
            have : bytesT ns fs ≠ bytesT us gs := fun e => NEQ.out ⟨(bytes_inj LO.out hz2 e).1.symm, (bytes_inj LO.out hz2 e).2.symm⟩
            simpa [other] using this)
          have KY2 := fun (W : World) (hb : Below w.heap.size w W) => KY W hb SS.out LO.out
          clear KY hz2
          rw [UL.out, GL.out] at KU
          generalize bytesT ns fs = b1 at *
          generalize bytesT us gs = b2 at *
          have OT := OT.out
          go_upto_region 18 with (go_at_call 19; (with_reducible refine (KY2 _ (up _ B6.out)).out.mono ?_); rintro e w7 ⟨vb, rfl, ho, hb⟩; obtain ⟨DA7, dc7, rfl, hb7⟩ := own_bytes ho; have HB7 := Lib.hid hb7; have Z7 := Lib.hid hb; clear hb hb7 ho; obtain ⟨⟨m0, m1⟩, ⟨m2, m3⟩⟩ := (after6 _ Z7.out).out)
          go_upto_region 19 with (go_at_call 19; (with_reducible refine (KU _ Z7.out).out.mono ?_); rintro e w8 ⟨vc, rfl, ho, hb⟩; obtain ⟨DA8, dc8, rfl, hb8⟩ := own_bytes ho; have HB8 := Lib.hid hb8; have HB78 := Lib.hid (bytesAt_below HB7.out hb); have Z8 := Lib.hid (Z7.out.trans (hb.mono Z7.out.size)); clear hb hb8 ho; obtain ⟨⟨o0, o1⟩, ⟨o2, o3⟩⟩ := (after6 _ Z8.out).out)
          have cv1 := run_text48 DA7 b1 dc7 w8 HB78.out
          have cv2 := run_text48 DA8 b2 dc8 w8 HB8.out
          generalize b1.length = k1 at *
          generalize b2.length = k2 at *
          go_wp2_with (first
            | (go_at_call 13; (with_reducible refine (num_any _ _).mono ?_); rintro e w3' ⟨rfl, rfl⟩)
            | (go_at_call 18; (with_reducible refine (KSU _ Z8.out).out.mono ?_); rintro e w9 ⟨rfl, hb⟩; have Z9 := Lib.hid (Z8.out.trans (hb.mono Z8.out.size)); clear hb))
          go_ret
          exact ⟨rfl, up _ (B6.out.trans (Z9.out.mono B6.out.size))⟩
        · have KU := fun (W : World) (hb : Below W6.heap.size W6 W) => Lib.hid (bytes_no NA6 FA6 nc6 fc6 us gs W (nodesAt_below HN6.out hb) (filesAt_below HF6.out hb) P6.out hz2)
          have KY2 := fun (W : World) (hb : Below w.heap.size w W) => KY W hb SS.out LO.out
          clear KY
          rw [UL.out, GL.out] at KU
          generalize bytesT ns fs = b1 at *
          generalize looseE us gs = z at *
          have zn : (z != 0) = true := by simpa using hz2
          have zb : (z == 0) = false := by simpa using hz2
          clear hz2
          go_upto_region 18 with (go_at_call 19; (with_reducible refine (KY2 _ (up _ B6.out)).out.mono ?_); rintro e w7 ⟨vb, rfl, ho, hb⟩; obtain ⟨DA7, dc7, rfl, hb7⟩ := own_bytes ho; have Z7 := Lib.hid hb; clear hb hb7 ho; obtain ⟨⟨m0, m1⟩, ⟨m2, m3⟩⟩ := (after6 _ Z7.out).out)
          go_upto_region 19 with (go_at_call 19; (with_reducible refine (KU _ Z7.out).out.mono ?_); rintro e w8 ⟨rfl, hb⟩; have Z8 := Lib.hid (Z7.out.trans (hb.mono Z7.out.size)); clear hb; obtain ⟨⟨o0, o1⟩, ⟨o2, o3⟩⟩ := (after6 _ Z8.out).out)
          generalize b1.length = k1 at *
          go_wp2_with (first
            | (go_at_call 13; (with_reducible refine (num_any _ _).mono ?_); rintro e w3' ⟨rfl, rfl⟩)
            | (go_at_call 18; (with_reducible refine (KSU _ Z8.out).out.mono ?_); rintro e w9 ⟨rfl, hb⟩; have Z9 := Lib.hid (Z8.out.trans (hb.mono Z8.out.size)); clear hb))
          go_ret
          exact ⟨rfl, up _ (B6.out.trans (Z9.out.mono B6.out.size))⟩
    · have hzn : (looseE ns fs != 0) = true := by simpa using hz
      have hzb : (looseE ns fs == 0) = false := by simpa using hz
      clear hz
      generalize looseE ns fs = z at *
      go_wp2_with (first
        | (go_at_call 17; (with_reducible refine (KL _ (up _ B2.out) SS.out).out.mono ?_); rintro e w3 ⟨rfl, hb⟩; have B3 := Lib.hid (B2.out.trans (hb.mono B2.out.size)); clear hb; obtain ⟨r0, r1⟩ := (after _ B3.out).out)
        | (go_at_call 13; (with_reducible refine (num_any _ _).mono ?_); rintro e w3' ⟨rfl, rfl⟩))
      go_ret
      exact ⟨rfl, up _ B3.out⟩
end Go.Proofs.Ytaanihmbnjjhcaa
