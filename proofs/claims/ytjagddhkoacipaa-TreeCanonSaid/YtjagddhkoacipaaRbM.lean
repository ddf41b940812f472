/-
What is proved here: the document's own bytes of a loose tree, by a contract.
-/
import Derived.Test.YtjagddhkoacipaaMa10
set_option linter.unusedSimpArgs false
set_option linter.unusedVariables false
namespace Go.Proofs.Ytjagddhkoacipaa
open Go.Pth Go.Tre Go.RowKit Go.Word Go.Shelf
set_option maxRecDepth 100000 in
set_option maxHeartbeats 8000000 in
theorem two_any (v : Value) (l : Bt) (n : Int) (B : Nat) (w : World) (h0 : 0 ≤ n) (h1 : n < 65536) (ho : OwnB w B v l) (hl : l.length ≤ 10000000) (hB : B ≤ w.heap.size) :
    Calls Try.prog 47 #[v, .int .i64 n] w fun e w' => ∃ v', e = .returned v' ∧ OwnB w' B v' (l ++ wordB n) ∧ Below B w w' ∧ Keep5 w w' v := by
  obtain ⟨i0, hi, hz0, hz1, hz2⟩ := info_parts byte_info
  have HO := Lib.hid ho
  have WC := Lib.hid (wordB_cells n h0 h1)
  clear ho
  go_enter Try.func47, Try.ntmps47
  go_wp2_with (refine wpList_append_own _ rfl _ _ 37 rfl B 5 i0 (.int .u8 0) 1 1 Try.underlying37 hi hz0 hz1 hz2 rfl (by decide) _ _ _ rfl (ownB_alloc HO.out _) ⟨w.heap.size, 0, none⟩ 2 2 [.int .u8 (n % 256), .int .u8 (n / 256)] rfl rfl (fun j u hj => by
      rw [Addr.add_mid, Nat.zero_add]
      rw [lies_cell (lies_new w 5 #[.int .u8 (n % 256), .int .u8 (n / 256)]) j]
      simpa using hj) (fun u hu => by simp at hu; rcases hu with rfl | rfl <;> rfl) (by unfold maxLen; omega) (by omega) (by simp; omega) ?_; intro v' w1 hown' hgrow _; have H1 := Lib.hid (append_belowB HO.out hB hgrow); have HR := Lib.hid hown'; have HK := Lib.hid (keep5_alloc hgrow); clear hown' hgrow)
  go_ret
  refine ⟨_, rfl, ?_, H1.out, HK.out⟩
  unfold OwnB
  rw [List.map_append, WC.out]
  simpa [wordB] using HR.out
set_option maxRecDepth 100000 in
set_option maxHeartbeats 8000000 in
theorem refbytes_any (NA FA : Option Addr) (nc fc : Nat) (ns : List Nd) (fs : List Fl) (w : World) (hN : NodesAt w NA ns) (hF : FilesAt w FA fs) (hp : ∀ x ∈ ns, x.path.length ≤ 100000) (hz : looseE ns fs = 0) :
    Calls Try.prog 23 #[.agg #[.slice NA ns.length nc, .slice FA fs.length fc]] w fun e w' => ∃ v, e = .returned v ∧ OwnB w' w.heap.size v (bytesT ns fs) ∧ Below w.heap.size w w' := by
  obtain ⟨i0, hi, hz0, hz1, hz2⟩ := info_parts byte_info
  have L := lies_new w 25 #[.slice NA ns.length nc, .slice FA fs.length fc]
  have hB : Below w.heap.size w (w.alloc (.cells #[.slice NA ns.length nc, .slice FA fs.length fc] 25)) := (Below.refl _ _).alloc (Nat.le_refl _) _
  have sm := loose_small hz
  have PL := Lib.hid (loose_plen hz)
  have NF := Lib.hid (loose_files hz)
  have NM := Lib.hid (loose_mode hz)
  have FM := Lib.hid (loose_fmode hz)
  have DL := Lib.hid sm.2.2
  have HN := Lib.hid (nodesAt_below hN hB)
  have HF := Lib.hid (filesAt_below hF hB)
  have hn6 := sm.1
  have hm6 := sm.2.1
  clear hN hF hp hz sm
  have x0 := lies_cell L 0
  have x1 := lies_cell L 1
  simp only [List.getElem?_toArray, List.getElem?_cons_zero, List.getElem?_cons_succ] at x0 x1
  have LX := Lib.hid L
  have HB := Lib.hid hB
  clear L hB
  generalize hne : ns.length = n at *
  generalize hme : fs.length = m at *
  have NE := Lib.hid hne
  have ME := Lib.hid hme
  clear hne hme
  have after : ∀ W, Below (w.alloc (.cells #[.slice NA n nc, .slice FA m fc] 25)).heap.size (w.alloc (.cells #[.slice NA n nc, .slice FA m fc] 25)) W →
      Hid (W.cell? ⟨w.heap.size, 0, none⟩ = some (.slice NA n nc) ∧ W.cell? ⟨w.heap.size, 1, none⟩ = some (.slice FA m fc)) := fun W hb =>
    Lib.hid ⟨(hb.cell (p := ⟨w.heap.size, 0, none⟩) (lies_lt LX.out)).trans x0, (hb.cell (p := ⟨w.heap.size, 1, none⟩) (lies_lt LX.out)).trans x1⟩
  have lst := fun ty l w => len_stg ty l w
  go_enter Try.func23, Try.ntmps23
  go_upto_region 1 with (fail)
  generalize w.alloc (.cells #[.slice NA n nc, .slice FA m fc] 25) = X at *
  have W0 := Lib.hid (two_any (.slice none 0 0) [] (n : Int) X.heap.size X (by omega) (by omega) (ownB_nil _ _) (by simp) (Nat.le_refl _))
  go_upto_region 2 with (go_at_call 47; (with_reducible refine W0.out.mono ?_); rintro e w2 ⟨v0, rfl, ho, hb, _⟩; have O2 := Lib.hid ho; have B2 := Lib.hid hb; clear hb ho; obtain ⟨q0, q1⟩ := (after _ B2.out).out)
  go_wp2
  go_loopw [3, 4] (fun v3 v4 wr => ∃ i : Nat, i ≤ n ∧ v4 = .int .i64 (i : Int) ∧ OwnB wr X.heap.size v3 (wordB n ++ (ns.take i).flatMap nodeB) ∧ Below X.heap.size X wr) (fun _ v4 _ => n - (intOf v4).toNat)
  case atStart => exact ⟨0, Nat.zero_le _, rfl, by simpa using O2.out, B2.out⟩
  case round =>
    obtain ⟨i, hi', rfl, hO, hb⟩ := hrel
    have HBW := Lib.hid hb
    have HO := Lib.hid hO
    obtain ⟨q0, q1⟩ := (after _ hb).out
    have al : (wordB (n : Int) ++ (ns.take i).flatMap nodeB).length ≤ 60000 := by
      have h1 := flat_len nodeB 105 (ns.take i) (fun x hx => by
        have h2 := PL.out x (List.mem_of_mem_take hx)
        simp [nodeB, wordB]
        omega)
      have h3 := List.length_take_le i ns
      rw [List.length_append]
      have h4 : (ns.take i).length * 105 ≤ 256 * 105 := Nat.mul_le_mul_right _ (by omega)
      simp [wordB] at h1 ⊢
      omega
    have AL := Lib.hid al
    clear hb hO al
    by_cases hlt : i < n
    · have li : (i : Int) < (n : Int) := by omega
      have lf : i < ns.length := by have := NE.out; omega
      obtain ⟨b, o, eA, hl, d1, d2, d3⟩ := HN.out i lf
      subst eA
      have pl := PL.out ns[i] (List.getElem_mem _)
      have nf := NF.out ns[i] (List.getElem_mem _)
      have nm := NM.out ns[i] (List.getElem_mem _)
      have d1 := (HBW.out.cell (p := ⟨b, o + i * 3, none⟩) hl).trans d1
      have d2 := (HBW.out.cell (p := ⟨b, o + i * 3 + 1, none⟩) hl).trans d2
      have d3 := (HBW.out.cell (p := ⟨b, o + i * 3 + 2, none⟩) hl).trans d3
      have FS := Lib.hid (flat_succ nodeB ns i lf)
      generalize ns[i] = x at *
      obtain ⟨p, f, md⟩ := x
      have pl : p.length ≤ 100 := pl
      have f0 : 0 ≤ f + 1 ∧ f + 1 < 65536 := by
        have nf : f = -1 ∨ 0 ≤ f ∧ f < (m : Int) := nf
        omega
      have m0 : 0 ≤ md ∧ md < 65536 := by
        have nm : 0 ≤ md ∧ md ≤ 511 := nm
        omega
      have fl : -1 ≤ f ∧ f ≤ 70000 := by omega
      have LM := Lib.hid (node_range (p := p) d1 d2 d3)
      have LN := Lib.hid (lies_new wr 54 #[.string { data := #[] }, .int .i64 0, .int .i64 0])
      have ES := Lib.hid (setRow_alloc wr 54 #[.string { data := #[] }, .int .i64 0, .int .i64 0] #[St p, .int .i64 f, .int .i64 md])
      have F0 := Lib.hid f0
      have M0 := Lib.hid m0
      have PLL := Lib.hid pl
      have FL1 := fl.1
      have FL2 := fl.2
      clear d1 d2 d3 nf nm f0 m0 fl
      generalize hacc : wordB (n : Int) ++ (ns.take i).flatMap nodeB = acc at *
      have HA := Lib.hid hacc
      clear hacc
      go_upto_region 6 with (first
        | (refine wpList_load_mid rfl 54 _ rfl b (o + i * 3) rfl [St p, .int .i64 f, .int .i64 md] _ LM.out Try.underlying54 rfl (by kernel_rfl) ?_)
        | (refine wpList_store_row rfl 54 _ _ rfl wr.heap.size #[St p, .int .i64 f, .int .i64 md] rfl rfl 54 _ LN.out (by kernel_rfl) rfl (by simp [Value.oneCell', St]) ?_; rw [ES.out]))
      have bx : Below X.heap.size X (wr.alloc (.cells #[St p, .int .i64 f, .int .i64 md] 54)) := HBW.out.alloc HBW.out.size _
      have ox := ownB_alloc HO.out (.cells #[St p, .int .i64 f, .int .i64 md] 54)
      have LB := lies_new wr 54 #[St p, .int .i64 f, .int .i64 md]
      have hzr : X.heap.size ≤ wr.heap.size := HBW.out.size
      generalize wr.alloc (.cells #[St p, .int .i64 f, .int .i64 md] 54) = wx at *
      have y0 := lies_cell LB 0
      have y1 := lies_cell LB 1
      have y2 := lies_cell LB 2
      simp only [List.getElem?_toArray, List.getElem?_cons_zero, List.getElem?_cons_succ] at y0 y1 y2
      have BX := Lib.hid bx
      have OX := Lib.hid ox
      have LBX := Lib.hid LB
      have HZR := Lib.hid hzr
      clear bx ox LB hzr
      have W4 := fun (v : Value) (l : Bt) (W : World) (ho : OwnB W X.heap.size v l) (hl : l.length ≤ 10000000) (hb : Below X.heap.size X W) => Lib.hid (two_any v l (f + 1) X.heap.size W F0.out.1 F0.out.2 ho hl hb.size)
      have W5 := fun (v : Value) (l : Bt) (W : World) (ho : OwnB W X.heap.size v l) (hl : l.length ≤ 10000000) (hb : Below X.heap.size X W) => Lib.hid (two_any v l md X.heap.size W M0.out.1 M0.out.2 ho hl hb.size)
      have a1 : acc.length ≤ 60000 := AL.out
      have plen : (p.length : Int) ≤ 100 := by omega
      go_wp2_with (first
        | (refine wpList_append_own _ rfl _ _ 37 rfl X.heap.size 5 i0 (.int .u8 0) 1 1 Try.underlying37 hi hz0 hz1 hz2 rfl (by decide) _ _ _ rfl (ownB_alloc OX.out _) ⟨wx.heap.size, 0, none⟩ 1 1 [.int .u8 (p.length : Int)] rfl rfl (cell_one_new _ _ _) (fun u hu => by rw [List.mem_singleton] at hu; subst hu; rfl) (by unfold maxLen; omega) (by omega) (by have := BX.out.size; simp; omega) ?_; intro v1 w3 hown hg _; have B3 := Lib.hid (BX.out.trans (append_belowB OX.out BX.out.size hg)); have O3 := Lib.hid (ownB_one (by omega) hown); have L3 := Lib.hid (lies_keep (by decide) LBX.out OX.out (keep5_alloc hg)); clear hown hg; have t0 := lies_cell L3.out 0; simp only [List.getElem?_toArray, List.getElem?_cons_zero, List.getElem?_cons_succ] at t0)
        | (refine wpList_app_text rfl _ _ rfl X.heap.size _ _ rfl O3.out p rfl (by simp; omega) (by omega) B3.out.size ?_; intro v2 w4 hO hb hk; have B4 := Lib.hid (B3.out.trans hb); have O4 := Lib.hid hO; have L4 := Lib.hid (lies_keep (by decide) L3.out O3.out hk); clear hO hb hk; have s1 := lies_cell L4.out 1; simp only [List.getElem?_toArray, List.getElem?_cons_zero, List.getElem?_cons_succ] at s1)
        | (go_at_call 47; (with_reducible refine (W4 _ _ _ O4.out (by simp; omega) B4.out).out.mono ?_); rintro e w5 ⟨v3, rfl, hO, hb, hk⟩; have B5 := Lib.hid (B4.out.trans hb); have O5 := Lib.hid hO; have L5 := Lib.hid (lies_keep (by decide) L4.out O4.out hk); clear hO hb hk; have r2 := lies_cell L5.out 2; simp only [List.getElem?_toArray, List.getElem?_cons_zero, List.getElem?_cons_succ] at r2)
        | (go_at_call 47; (with_reducible refine (W5 _ _ _ O5.out (by simp [wordB]; omega) B5.out).out.mono ?_); rintro e w6 ⟨v4, rfl, hO, hb, hk⟩; have B6 := Lib.hid (B5.out.trans hb); have O6 := Lib.hid hO; clear hO hb hk))
      have E := Lib.hid (show wordB (n : Int) ++ (ns.take (i + 1)).flatMap nodeB = acc ++ [UInt8.ofNat p.length] ++ p ++ wordB (f + 1) ++ wordB md by
        rw [FS.out, ← List.append_assoc, HA.out]
        simp [nodeB])
      go_roundw
      case rel => exact ⟨i + 1, by omega, by go_num, by rw [E.out]; exact O6.out, B6.out⟩
      case measure => first | (simp [intOf]; done) | (simp [intOf]; omega)
    · have li : ¬ (i : Int) < (n : Int) := by omega
      have EN := Lib.hid (show wordB (n : Int) ++ (ns.take i).flatMap nodeB = nodesB ns by
        rw [List.take_of_length_le (by have := NE.out; omega)]
        unfold nodesB
        rw [NE.out])
      have a1 : (nodesB ns).length ≤ 60000 := by rw [← EN.out]; exact AL.out
      have O7 := Lib.hid (show OwnB wr X.heap.size _ (nodesB ns) by rw [← EN.out]; exact HO.out)
      have W7 := Lib.hid (two_any _ (nodesB ns) (m : Int) X.heap.size wr (by omega) (by omega) O7.out (by omega) HBW.out.size)
      generalize hacc : nodesB ns = acc at *
      have HA := Lib.hid hacc
      clear hacc
      go_upto_region 11 with (go_at_call 47; (with_reducible refine W7.out.mono ?_); rintro e w8 ⟨v8, rfl, hO, hb, _⟩; have B8 := Lib.hid (HBW.out.trans hb); have O8 := Lib.hid hO; clear hO hb; obtain ⟨z0, z1⟩ := (after _ B8.out).out)
      go_wp2
      go_loopw [3, 6] (fun v3 v6 wr => ∃ j : Nat, j ≤ m ∧ v6 = .int .i64 (j : Int) ∧ OwnB wr X.heap.size v3 (acc ++ (wordB m ++ (fs.take j).flatMap fileB)) ∧ Below X.heap.size X wr) (fun _ v6 _ => m - (intOf v6).toNat)
      case atStart => exact ⟨0, Nat.zero_le _, rfl, by simpa using O8.out, B8.out⟩
      case round =>
        obtain ⟨j, hj', rfl, hO, hb⟩ := hrel
        have HBJ := Lib.hid hb
        have HOJ := Lib.hid hO
        obtain ⟨c0, c1⟩ := (after _ hb).out
        have al : (acc ++ (wordB (m : Int) ++ (fs.take j).flatMap fileB)).length ≤ 2300000 := by
          have h1 := flat_len fileB 8196 (fs.take j) (fun x hx => by
            have h2 := DL.out x (List.mem_of_mem_take hx)
            simp [fileB, wordB]
            omega)
          have h3 := List.length_take_le j fs
          have h4 : (fs.take j).length * 8196 ≤ 256 * 8196 := Nat.mul_le_mul_right _ (by have := ME.out; omega)
          rw [List.length_append, List.length_append]
          simp [wordB] at h1 ⊢
          omega
        have AL2 := Lib.hid al
        clear hb hO al
        by_cases hlt2 : j < m
        · have lj : (j : Int) < (m : Int) := by omega
          have lf : j < fs.length := by have := ME.out; omega
          obtain ⟨b, o, DA, dc, eA, hl, d1, d2, d3⟩ := HF.out j lf
          subst eA
          have dl := DL.out fs[j] (List.getElem_mem _)
          have fm := FM.out fs[j] (List.getElem_mem _)
          have E1 := Lib.hid d1
          have E2 := Lib.hid d2
          have d1 := (HBJ.out.cell (p := ⟨b, o + j * 2, none⟩) hl).trans d1
          have d2 := (HBJ.out.cell (p := ⟨b, o + j * 2 + 1, none⟩) hl).trans d2
          have HLB := Lib.hid hl
          clear hl
          have FS := Lib.hid (flat_succ fileB fs j lf)
          generalize fs[j] = x at *
          obtain ⟨md, d⟩ := x
          have dl : d.length ≤ 8192 := dl
          have m0 : 0 ≤ md ∧ md < 65536 := by
            have fm : 0 ≤ md ∧ md ≤ 511 := fm
            omega
          have d2 : World.cell? _ ⟨b, o + j * 2 + 1, none⟩ = some (.slice DA d.length dc) := d2
          have D3 := Lib.hid (show BytesAt X DA d from d3)
          have E2 : Hid (X.cell? ⟨b, o + j * 2 + 1, none⟩ = some (.slice DA d.length dc)) := E2
          have d1 : World.cell? _ ⟨b, o + j * 2, none⟩ = some (.int .i64 md) := d1
          have M0 := Lib.hid m0
          clear d2 d3 fm m0 E1
          generalize hacc2 : acc ++ (wordB (m : Int) ++ (fs.take j).flatMap fileB) = acc2 at *
          have HA2 := Lib.hid hacc2
          clear hacc2
          obtain ⟨dn, hdn⟩ : ∃ dn, dn = d.length := ⟨_, rfl⟩
          rw [← hdn] at dl E2
          have DN := Lib.hid hdn
          clear hdn
          have a2 : acc2.length ≤ 2300000 := AL2.out
          have W9 := Lib.hid (two_any _ acc2 md X.heap.size wr M0.out.1 M0.out.2 HOJ.out (by omega) HBJ.out.size)
          have W10 := fun (v : Value) (l : Bt) (W : World) (ho : OwnB W X.heap.size v l) (hl : l.length ≤ 10000000) (hb : Below X.heap.size X W) => Lib.hid (two_any v l (dn : Int) X.heap.size W (by omega) (by omega) ho hl hb.size)
          have cell2 : ∀ W, Below X.heap.size X W → W.cell? ⟨b, o + j * 2 + 1, none⟩ = some (.slice DA dn dc) := fun W hb => (hb.cell (p := ⟨b, o + j * 2 + 1, none⟩) HLB.out).trans E2.out
          have CELL := Lib.hid cell2
          clear cell2
          go_wp2_with (first
            | (go_at_call 47; (with_reducible refine W9.out.mono ?_); rintro e w9 ⟨v9, rfl, hO, hb, hk⟩; have B9 := Lib.hid (HBJ.out.trans hb); have O9 := Lib.hid hO; clear hO hb hk; obtain ⟨s0, s1⟩ := (after _ B9.out).out; have s2 := CELL.out _ B9.out)
            | (go_at_call 47; (with_reducible refine (W10 _ _ _ O9.out (by simp [wordB]; omega) B9.out).out.mono ?_); rintro e w10 ⟨v10, rfl, hO, hb, hk⟩; have B10 := Lib.hid (B9.out.trans hb); have O10 := Lib.hid hO; clear hO hb hk; obtain ⟨r0, r1⟩ := (after _ B10.out).out; have r2 := CELL.out _ B10.out)
            | (refine wpList_app_bytes rfl _ _ rfl X.heap.size _ _ rfl O10.out DA dc d (by rw [← DN.out]; rfl) (bytesAt_below D3.out B10.out) (by simp [wordB]; omega) (by rw [← DN.out]; omega) B10.out.size ?_; intro v11 w11 hO hb hk; have B11 := Lib.hid (B10.out.trans hb); have O11 := Lib.hid hO; clear hO hb hk))
          have E := Lib.hid (show acc ++ (wordB (m : Int) ++ (fs.take (j + 1)).flatMap fileB) = acc2 ++ wordB md ++ wordB dn ++ d by
            rw [FS.out, ← List.append_assoc, ← List.append_assoc, List.append_assoc acc, HA2.out, DN.out]
            simp [fileB])
          go_roundw
          case rel => exact ⟨j + 1, by omega, by go_num, by rw [E.out]; exact O11.out, B11.out⟩
          case measure => first | (simp [intOf]; done) | (simp [intOf]; omega)
        · have lj : ¬ (j : Int) < (m : Int) := by omega
          have EF := Lib.hid (show acc ++ (wordB (m : Int) ++ (fs.take j).flatMap fileB) = bytesT ns fs by
            rw [List.take_of_length_le (by have := ME.out; omega)]
            unfold bytesT
            rw [HA.out, ME.out])
          have OZ := Lib.hid (show OwnB wr X.heap.size _ (bytesT ns fs) by rw [← EF.out]; exact HOJ.out)
          go_wp2
          go_ret
          exact ⟨_, rfl, World.ownsRow.mono OZ.out HB.out.size, HB.out.trans (HBJ.out.mono HB.out.size)⟩
end Go.Proofs.Ytjagddhkoacipaa
