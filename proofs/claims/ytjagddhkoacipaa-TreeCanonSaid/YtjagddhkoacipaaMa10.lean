/-
What is proved here: several texts in one (By3, Byi, Eat, Cp1, Cp2): each says what it is about.
-/
import Derived.Test.YtjagddhkoacipaaMa9
import Derived.Test.YtjagddhkoacipaaMa7
import Derived.Deep.Onto
import Derived.Test.YtjagddhkoacipaaMa1
import Derived.Test.YtjagddhkoacipaaMa8
/-
What is proved here: tree.Bytes of a loose tree, by a contract.
-/
set_option linter.unusedSimpArgs false
namespace Go.Tre
open Go.Pth
theorem flat_len {α : Type} (g : α → Bt) (k : Nat) : ∀ l : List α, (∀ x ∈ l, (g x).length ≤ k) → (l.flatMap g).length ≤ l.length * k
  | [], _ => by simp
  | x :: r, h => by
    have h1 := flat_len g k r (fun y hy => h y (by simp [hy]))
    have h2 := h x (by simp)
    rw [List.flatMap_cons, List.length_append, List.length_cons, Nat.succ_mul]
    omega
theorem flat_succ {α : Type} (g : α → Bt) (l : List α) (i : Nat) (h : i < l.length) : (l.take (i + 1)).flatMap g = (l.take i).flatMap g ++ g l[i] := by
  rw [List.take_succ_eq_append_getElem h, List.flatMap_append]
  simp
end Go.Tre
namespace Go.Proofs.Ytjagddhkoacipaa
open Go.Pth Go.Tre Go.RowKit Go.Word Go.Shelf

theorem ownB_one {w : World} {B : Nat} {v : Value} {l : Bt} {c : Nat} (hc : c < 256) (h : w.ownsRow B 5 1 v (l.length + 1) (l.map yB ++ [.int .u8 (c : Int)])) : OwnB w B v (l ++ [UInt8.ofNat c]) := by
  have e := yB_of (c : Int) (by omega) (by omega)
  rw [Int.toNat_natCast] at e
  unfold OwnB
  rw [List.length_append, List.map_append, List.map_cons, List.map_nil, e]
  exact h
theorem ownB_one' {w : World} {B n : Nat} {v : Value} {l : Bt} {c : Nat} (hc : c < 256) (hn : n = l.length) (h : w.ownsRow B 5 1 v (n + 1) (l.map yB ++ [.int .u8 (c : Int)])) : OwnB w B v (l ++ [UInt8.ofNat c]) := by
  subst hn
  exact ownB_one hc h
theorem ownB_slice {w : World} {B : Nat} {v : Value} {l : Bt} (h : OwnB w B v l) : ∃ A C, v = .slice A l.length C := by
  rcases h.2 with ⟨e1, e2⟩ | ⟨g, cap, cur, e1, _⟩
  · exact ⟨none, 0, by rw [e2]; exact e1⟩
  · exact ⟨_, _, e1⟩
set_option maxRecDepth 100000 in
set_option maxHeartbeats 8000000 in
theorem bytes_yes (NA FA : Option Addr) (nc fc : Nat) (ns : List Nd) (fs : List Fl) (w : World) (hN : NodesAt w NA ns) (hF : FilesAt w FA fs) (hp : ∀ x ∈ ns, x.path.length ≤ 100000) (hz : looseE ns fs = 0) :
    Calls Try.prog 22 #[.agg #[.slice NA ns.length nc, .slice FA fs.length fc]] w fun e w' => ∃ v, e = .returned (.tuple #[v, .int .i64 0]) ∧ OwnB w' w.heap.size v (bytesT ns fs) ∧ Below w.heap.size w w' := by
  obtain ⟨i0, hi, hz0, hz1, hz2⟩ := info_parts byte_info
  have L := lies_new w 25 #[.slice NA ns.length nc, .slice FA fs.length fc]
  have hB : Below w.heap.size w (w.alloc (.cells #[.slice NA ns.length nc, .slice FA fs.length fc] 25)) := (Below.refl _ _).alloc (Nat.le_refl _) _
  have KL := loose_any NA FA nc fc ns fs _ (nodesAt_below hN hB) (filesAt_below hF hB) hp
  rw [hz] at KL
  have KLL := Lib.hid KL
  have sm := loose_small hz
  have PL := Lib.hid (loose_plen hz)
  have NF := Lib.hid (loose_files hz)
  have NM := Lib.hid (loose_mode hz)
  have FM := Lib.hid (loose_fmode hz)
  have DL := Lib.hid sm.2.2
  have HN := Lib.hid (nodesAt_below hN hB)
  have HF := Lib.hid (filesAt_below hF hB)
  have hn6 := sm.1
  have hm6 := sm.2.1
  clear KL hN hF hp hz sm
  have x0 := lies_cell L 0
  have x1 := lies_cell L 1
  simp only [List.getElem?_toArray, List.getElem?_cons_zero, List.getElem?_cons_succ] at x0 x1
  have LX := Lib.hid L
  have HB := Lib.hid hB
  clear L hB
  generalize hne : ns.length = n at *
  generalize hme : fs.length = m at *
  have NE := Lib.hid hne
  have ME := Lib.hid hme
  clear hne hme
  have after : ∀ W, Below (w.alloc (.cells #[.slice NA n nc, .slice FA m fc] 25)).heap.size (w.alloc (.cells #[.slice NA n nc, .slice FA m fc] 25)) W →
      Hid (W.cell? ⟨w.heap.size, 0, none⟩ = some (.slice NA n nc) ∧ W.cell? ⟨w.heap.size, 1, none⟩ = some (.slice FA m fc)) := fun W hb =>
    Lib.hid ⟨(hb.cell (p := ⟨w.heap.size, 0, none⟩) (lies_lt LX.out)).trans x0, (hb.cell (p := ⟨w.heap.size, 1, none⟩) (lies_lt LX.out)).trans x1⟩
  have lst := fun ty l w => len_stg ty l w
  go_enter Try.func22, Try.ntmps22
  go_upto_region 1 with (fail)
  generalize w.alloc (.cells #[.slice NA n nc, .slice FA m fc] 25) = X at *
  have W0 := fun (W : World) (hb : Below X.heap.size X W) => Lib.hid (word_any (.slice none 0 0) [] (n : Int) X.heap.size W (by omega) (by omega) (ownB_nil _ _) (by simp) hb.size)
  go_upto_region 5 with (first
    | (go_at_call 43; (with_reducible refine KLL.out.mono ?_); rintro e w1 ⟨rfl, hb⟩; have B1 := Lib.hid hb; clear hb; obtain ⟨p0, p1⟩ := (after _ B1.out).out)
    | (go_at_call 46; (with_reducible refine (W0 _ B1.out).out.mono ?_); rintro e w2 ⟨v0, rfl, ho, hb, _⟩; have O2 := Lib.hid ho; have B2 := Lib.hid (B1.out.trans hb); clear hb ho; obtain ⟨q0, q1⟩ := (after _ B2.out).out))
  go_wp2
  go_loopw [5, 22] (fun v5 v22 wr => ∃ i : Nat, i ≤ n ∧ v22 = .int .i64 (i : Int) ∧ OwnB wr X.heap.size v5 (wordB n ++ (ns.take i).flatMap nodeB) ∧ Below X.heap.size X wr) (fun _ v22 _ => n - (intOf v22).toNat)
  case atStart => exact ⟨0, Nat.zero_le _, rfl, by simpa using O2.out, B2.out⟩
  case round =>
    obtain ⟨i, hi', rfl, hO, hb⟩ := hrel
    have HBW := Lib.hid hb
    have HO := Lib.hid hO
    have al : (wordB (n : Int) ++ (ns.take i).flatMap nodeB).length ≤ 60000 := by
      have h1 := flat_len nodeB 105 (ns.take i) (fun x hx => by
        have h2 := PL.out x (List.mem_of_mem_take hx)
        simp [nodeB, wordB]
        omega)
      have h3 := List.length_take_le i ns
      rw [List.length_append]
      have h4 : (ns.take i).length * 105 ≤ 256 * 105 := Nat.mul_le_mul_right _ (by omega)
      simp [wordB] at h1 ⊢
      omega
    have AL := Lib.hid al
    clear hb hO al
    by_cases hlt : i < n
    · have li : (i : Int) < (n : Int) := by omega
      have lf : i < ns.length := by have := NE.out; omega
      obtain ⟨b, o, eA, hl, d1, d2, d3⟩ := HN.out i lf
      subst eA
      have pl := PL.out ns[i] (List.getElem_mem _)
      have nf := NF.out ns[i] (List.getElem_mem _)
      have nm := NM.out ns[i] (List.getElem_mem _)
      have d1 := (HBW.out.cell (p := ⟨b, o + i * 3, none⟩) hl).trans d1
      have d2 := (HBW.out.cell (p := ⟨b, o + i * 3 + 1, none⟩) hl).trans d2
      have d3 := (HBW.out.cell (p := ⟨b, o + i * 3 + 2, none⟩) hl).trans d3
      have FS := Lib.hid (flat_succ nodeB ns i lf)
      generalize ns[i] = x at *
      obtain ⟨p, f, md⟩ := x
      have pl : p.length ≤ 100 := pl
      have f0 : 0 ≤ f + 1 ∧ f + 1 < 65536 := by
        have nf : f = -1 ∨ 0 ≤ f ∧ f < (m : Int) := nf
        omega
      have m0 : 0 ≤ md ∧ md < 65536 := by
        have nm : 0 ≤ md ∧ md ≤ 511 := nm
        omega
      have fl : -1 ≤ f ∧ f ≤ 70000 := by omega
      have LM := Lib.hid (node_range (p := p) d1 d2 d3)
      have LN := Lib.hid (lies_new wr 54 #[.string { data := #[] }, .int .i64 0, .int .i64 0])
      have ES := Lib.hid (setRow_alloc wr 54 #[.string { data := #[] }, .int .i64 0, .int .i64 0] #[St p, .int .i64 f, .int .i64 md])
      have F0 := Lib.hid f0
      have M0 := Lib.hid m0
      have PLL := Lib.hid pl
      have FL1 := fl.1
      have FL2 := fl.2
      clear d1 d2 d3 nf nm f0 m0 fl
      generalize hacc : wordB (n : Int) ++ (ns.take i).flatMap nodeB = acc at *
      have HA := Lib.hid hacc
      clear hacc
      go_upto_region 8 with (first
        | (refine wpList_load_mid rfl 54 _ rfl b (o + i * 3) rfl [St p, .int .i64 f, .int .i64 md] _ LM.out Try.underlying54 rfl (by kernel_rfl) ?_)
        | (refine wpList_store_row rfl 54 _ _ rfl wr.heap.size #[St p, .int .i64 f, .int .i64 md] rfl rfl 54 _ LN.out (by kernel_rfl) rfl (by simp [Value.oneCell', St]) ?_; rw [ES.out]))
      have bx : Below X.heap.size X (wr.alloc (.cells #[St p, .int .i64 f, .int .i64 md] 54)) := HBW.out.alloc HBW.out.size _
      have ox := ownB_alloc HO.out (.cells #[St p, .int .i64 f, .int .i64 md] 54)
      have LB := lies_new wr 54 #[St p, .int .i64 f, .int .i64 md]
      have hzr : X.heap.size ≤ wr.heap.size := HBW.out.size
      generalize wr.alloc (.cells #[St p, .int .i64 f, .int .i64 md] 54) = wx at *
      have y0 := lies_cell LB 0
      have y1 := lies_cell LB 1
      have y2 := lies_cell LB 2
      simp only [List.getElem?_toArray, List.getElem?_cons_zero, List.getElem?_cons_succ] at y0 y1 y2
      have BX := Lib.hid bx
      have OX := Lib.hid ox
      have LBX := Lib.hid LB
      have HZR := Lib.hid hzr
      clear bx ox LB hzr
      have W4 := fun (v : Value) (l : Bt) (W : World) (ho : OwnB W X.heap.size v l) (hl : l.length ≤ 10000000) (hb : Below X.heap.size X W) => Lib.hid (word_any v l (f + 1) X.heap.size W F0.out.1 F0.out.2 ho hl hb.size)
      have W5 := fun (v : Value) (l : Bt) (W : World) (ho : OwnB W X.heap.size v l) (hl : l.length ≤ 10000000) (hb : Below X.heap.size X W) => Lib.hid (word_any v l md X.heap.size W M0.out.1 M0.out.2 ho hl hb.size)
      have a1 : acc.length ≤ 60000 := AL.out
      have plen : (p.length : Int) ≤ 100 := by omega
      go_wp2_with (first
        | (refine wpList_append_own _ rfl _ _ 37 rfl X.heap.size 5 i0 (.int .u8 0) 1 1 Try.underlying37 hi hz0 hz1 hz2 rfl (by decide) _ _ _ rfl (ownB_alloc OX.out _) ⟨wx.heap.size, 0, none⟩ 1 1 [.int .u8 (p.length : Int)] rfl rfl (cell_one_new _ _ _) (fun u hu => by rw [List.mem_singleton] at hu; subst hu; rfl) (by unfold maxLen; omega) (by omega) (by have := BX.out.size; simp; omega) ?_; intro v1 w3 hown hg _; have B3 := Lib.hid (BX.out.trans (append_belowB OX.out BX.out.size hg)); have O3 := Lib.hid (ownB_one (by omega) hown); have L3 := Lib.hid (lies_keep (by decide) LBX.out OX.out (keep5_alloc hg)); clear hown hg; have t0 := lies_cell L3.out 0; simp only [List.getElem?_toArray, List.getElem?_cons_zero, List.getElem?_cons_succ] at t0)
        | (refine wpList_app_text rfl _ _ rfl X.heap.size _ _ rfl O3.out p rfl (by simp; omega) (by omega) B3.out.size ?_; intro v2 w4 hO hb hk; have B4 := Lib.hid (B3.out.trans hb); have O4 := Lib.hid hO; have L4 := Lib.hid (lies_keep (by decide) L3.out O3.out hk); clear hO hb hk; have s1 := lies_cell L4.out 1; simp only [List.getElem?_toArray, List.getElem?_cons_zero, List.getElem?_cons_succ] at s1)
        | (go_at_call 46; (with_reducible refine (W4 _ _ _ O4.out (by simp; omega) B4.out).out.mono ?_); rintro e w5 ⟨v3, rfl, hO, hb, hk⟩; have B5 := Lib.hid (B4.out.trans hb); have O5 := Lib.hid hO; have L5 := Lib.hid (lies_keep (by decide) L4.out O4.out hk); clear hO hb hk; have r2 := lies_cell L5.out 2; simp only [List.getElem?_toArray, List.getElem?_cons_zero, List.getElem?_cons_succ] at r2)
        | (go_at_call 46; (with_reducible refine (W5 _ _ _ O5.out (by simp [wordB]; omega) B5.out).out.mono ?_); rintro e w6 ⟨v4, rfl, hO, hb, hk⟩; have B6 := Lib.hid (B5.out.trans hb); have O6 := Lib.hid hO; clear hO hb hk))
      have E := Lib.hid (show wordB (n : Int) ++ (ns.take (i + 1)).flatMap nodeB = acc ++ [UInt8.ofNat p.length] ++ p ++ wordB (f + 1) ++ wordB md by
        rw [FS.out, ← List.append_assoc, HA.out]
        simp [nodeB])
      go_roundw
      case rel => exact ⟨i + 1, by omega, by go_num, by rw [E.out]; exact O6.out, B6.out⟩
      case measure => first | (simp [intOf]; done) | (simp [intOf]; omega)
    · have li : ¬ (i : Int) < (n : Int) := by omega
      have EN := Lib.hid (show wordB (n : Int) ++ (ns.take i).flatMap nodeB = nodesB ns by
        rw [List.take_of_length_le (by have := NE.out; omega)]
        unfold nodesB
        rw [NE.out])
      have a1 : (nodesB ns).length ≤ 60000 := by rw [← EN.out]; exact AL.out
      have O7 := Lib.hid (show OwnB wr X.heap.size _ (nodesB ns) by rw [← EN.out]; exact HO.out)
      have W7 := Lib.hid (word_any _ (nodesB ns) (m : Int) X.heap.size wr (by omega) (by omega) O7.out (by omega) HBW.out.size)
      obtain ⟨c0, c1⟩ := (after _ HBW.out).out
      generalize hacc : nodesB ns = acc at *
      have HA := Lib.hid hacc
      clear hacc
      go_upto_region 14 with (go_at_call 46; (with_reducible refine W7.out.mono ?_); rintro e w8 ⟨v8, rfl, hO, hb, _⟩; have B8 := Lib.hid (HBW.out.trans hb); have O8 := Lib.hid hO; clear hO hb; obtain ⟨z0, z1⟩ := (after _ B8.out).out)
      go_wp2
      go_loopw [5, 55] (fun v5 v55 wr => ∃ j : Nat, j ≤ m ∧ v55 = .int .i64 (j : Int) ∧ OwnB wr X.heap.size v5 (acc ++ (wordB m ++ (fs.take j).flatMap fileB)) ∧ Below X.heap.size X wr) (fun _ v55 _ => m - (intOf v55).toNat)
      case atStart => exact ⟨0, Nat.zero_le _, rfl, by simpa using O8.out, B8.out⟩
      case round =>
        obtain ⟨j, hj', rfl, hO, hb⟩ := hrel
        have HBJ := Lib.hid hb
        have HOJ := Lib.hid hO
        have al : (acc ++ (wordB (m : Int) ++ (fs.take j).flatMap fileB)).length ≤ 2300000 := by
          have h1 := flat_len fileB 8196 (fs.take j) (fun x hx => by
            have h2 := DL.out x (List.mem_of_mem_take hx)
            simp [fileB, wordB]
            omega)
          have h3 := List.length_take_le j fs
          have h4 : (fs.take j).length * 8196 ≤ 256 * 8196 := Nat.mul_le_mul_right _ (by have := ME.out; omega)
          rw [List.length_append, List.length_append]
          simp [wordB] at h1 ⊢
          omega
        have AL2 := Lib.hid al
        clear hb hO al
        by_cases hlt2 : j < m
        · have lj : (j : Int) < (m : Int) := by omega
          have lf : j < fs.length := by have := ME.out; omega
          obtain ⟨b, o, DA, dc, eA, hl, d1, d2, d3⟩ := HF.out j lf
          subst eA
          have dl := DL.out fs[j] (List.getElem_mem _)
          have fm := FM.out fs[j] (List.getElem_mem _)
          have d1 := (HBJ.out.cell (p := ⟨b, o + j * 2, none⟩) hl).trans d1
          have d2 := (HBJ.out.cell (p := ⟨b, o + j * 2 + 1, none⟩) hl).trans d2
          have FS := Lib.hid (flat_succ fileB fs j lf)
          generalize fs[j] = x at *
          obtain ⟨md, d⟩ := x
          have dl : d.length ≤ 8192 := dl
          have m0 : 0 ≤ md ∧ md < 65536 := by
            have fm : 0 ≤ md ∧ md ≤ 511 := fm
            omega
          have d2 : World.cell? _ ⟨b, o + j * 2 + 1, none⟩ = some (.slice DA d.length dc) := d2
          have D3 := Lib.hid (show BytesAt X DA d from d3)
          have LM := Lib.hid (file_range d1 d2)
          have LN := Lib.hid (lies_new wr 57 #[.int .i64 0, .slice none 0 0])
          have ES := Lib.hid (setRow_alloc wr 57 #[.int .i64 0, .slice none 0 0] #[.int .i64 md, .slice DA d.length dc])
          have M0 := Lib.hid m0
          clear d1 d2 d3 fm m0
          generalize hacc2 : acc ++ (wordB (m : Int) ++ (fs.take j).flatMap fileB) = acc2 at *
          have HA2 := Lib.hid hacc2
          clear hacc2
          obtain ⟨dn, hdn⟩ : ∃ dn, dn = d.length := ⟨_, rfl⟩
          rw [← hdn] at dl LM ES
          have DN := Lib.hid hdn
          clear hdn
          go_upto_region 17 with (first
            | (refine wpList_load_mid rfl 57 _ rfl b (o + j * 2) rfl [.int .i64 md, .slice DA dn dc] _ LM.out Try.underlying57 rfl (by kernel_rfl) ?_)
            | (refine wpList_store_row rfl 57 _ _ rfl wr.heap.size #[.int .i64 md, .slice DA dn dc] rfl rfl 57 _ LN.out (by kernel_rfl) rfl rfl ?_; rw [ES.out]))
          have bx : Below X.heap.size X (wr.alloc (.cells #[.int .i64 md, .slice DA dn dc] 57)) := HBJ.out.alloc HBJ.out.size _
          have ox := ownB_alloc HOJ.out (.cells #[.int .i64 md, .slice DA dn dc] 57)
          have LB := lies_new wr 57 #[.int .i64 md, .slice DA dn dc]
          generalize wr.alloc (.cells #[.int .i64 md, .slice DA dn dc] 57) = wx at *
          have y0 := lies_cell LB 0
          simp only [List.getElem?_toArray, List.getElem?_cons_zero, List.getElem?_cons_succ] at y0
          have BX := Lib.hid bx
          have OX := Lib.hid ox
          have LBX := Lib.hid LB
          clear bx ox LB
          have a2 : acc2.length ≤ 2300000 := AL2.out
          have W9 := Lib.hid (word_any _ acc2 md X.heap.size wx M0.out.1 M0.out.2 OX.out (by omega) BX.out.size)
          have W10 := fun (v : Value) (l : Bt) (W : World) (ho : OwnB W X.heap.size v l) (hl : l.length ≤ 10000000) (hb : Below X.heap.size X W) => Lib.hid (word_any v l (dn : Int) X.heap.size W (by omega) (by omega) ho hl hb.size)
          go_wp2_with (first
            | (go_at_call 46; (with_reducible refine W9.out.mono ?_); rintro e w9 ⟨v9, rfl, hO, hb, hk⟩; have B9 := Lib.hid (BX.out.trans hb); have O9 := Lib.hid hO; have L9 := Lib.hid (lies_keep (by decide) LBX.out OX.out hk); clear hO hb hk; have s1 := lies_cell L9.out 1; simp only [List.getElem?_toArray, List.getElem?_cons_zero, List.getElem?_cons_succ] at s1)
            | (go_at_call 46; (with_reducible refine (W10 _ _ _ O9.out (by simp [wordB]; omega) B9.out).out.mono ?_); rintro e w10 ⟨v10, rfl, hO, hb, hk⟩; have B10 := Lib.hid (B9.out.trans hb); have O10 := Lib.hid hO; have L10 := Lib.hid (lies_keep (by decide) L9.out O9.out hk); clear hO hb hk; have r1 := lies_cell L10.out 1; simp only [List.getElem?_toArray, List.getElem?_cons_zero, List.getElem?_cons_succ] at r1)
            | (refine wpList_app_bytes rfl _ _ rfl X.heap.size _ _ rfl O10.out DA dc d (by rw [← DN.out]; rfl) (bytesAt_below D3.out B10.out) (by simp [wordB]; omega) (by rw [← DN.out]; omega) B10.out.size ?_; intro v11 w11 hO hb hk; have B11 := Lib.hid (B10.out.trans hb); have O11 := Lib.hid hO; clear hO hb hk))
          have E := Lib.hid (show acc ++ (wordB (m : Int) ++ (fs.take (j + 1)).flatMap fileB) = acc2 ++ wordB md ++ wordB dn ++ d by
            rw [FS.out, ← List.append_assoc, ← List.append_assoc, List.append_assoc acc, HA2.out, DN.out]
            simp [fileB])
          go_roundw
          case rel => exact ⟨j + 1, by omega, by go_num, by rw [E.out]; exact O11.out, B11.out⟩
          case measure => first | (simp [intOf]; done) | (simp [intOf]; omega)
        · have lj : ¬ (j : Int) < (m : Int) := by omega
          have EF := Lib.hid (show acc ++ (wordB (m : Int) ++ (fs.take j).flatMap fileB) = bytesT ns fs by
            rw [List.take_of_length_le (by have := ME.out; omega)]
            unfold bytesT
            rw [HA.out, ME.out])
          have OZ := Lib.hid (show OwnB wr X.heap.size _ (bytesT ns fs) by rw [← EF.out]; exact HOJ.out)
          go_wp2
          go_ret2
          exact ⟨_, rfl, World.ownsRow.mono OZ.out HB.out.size, HB.out.trans (HBJ.out.mono HB.out.size)⟩
end Go.Proofs.Ytjagddhkoacipaa

/-
What is proved here: two loose trees with the same bytes are one; Bytes of a tree that is not loose.
-/
set_option linter.unusedSimpArgs false
namespace Go.Tre
open Go.Pth Go.Proofs.Ytjagddhkoacipaa
theorem ofNat_inj {a b : Nat} (ha : a < 256) (hb : b < 256) (h : UInt8.ofNat a = UInt8.ofNat b) : a = b := by
  have := congrArg UInt8.toNat h
  simp at this
  omega
theorem word_cut {a b : Int} {r s : Bt} (ha : 0 ≤ a ∧ a < 65536) (hb : 0 ≤ b ∧ b < 65536) (h : wordB a ++ r = wordB b ++ s) : a = b ∧ r = s := by
  unfold wordB at h
  simp only [List.cons_append, List.nil_append, List.cons.injEq] at h
  obtain ⟨h1, h2, h3⟩ := h
  have e1 := ofNat_inj (by omega) (by omega) h1
  have e2 := ofNat_inj (by omega) (by omega) h2
  exact ⟨by omega, h3⟩
def NodeFit (x : Nd) : Prop := x.path.length ≤ 100 ∧ -1 ≤ x.file ∧ x.file ≤ 60000 ∧ 0 ≤ x.mode ∧ x.mode ≤ 511
def FileFit (x : Fl) : Prop := x.data.length ≤ 8192 ∧ 0 ≤ x.mode ∧ x.mode ≤ 511
theorem node_cut {x y : Nd} {r s : Bt} (hx : NodeFit x) (hy : NodeFit y) (h : nodeB x ++ r = nodeB y ++ s) : x = y ∧ r = s := by
  obtain ⟨p, f, m⟩ := x
  obtain ⟨q, g, k⟩ := y
  obtain ⟨h1, h2, h3, h4, h5⟩ := hx
  obtain ⟨k1, k2, k3, k4, k5⟩ := hy
  unfold nodeB at h
  simp only [List.cons_append, List.cons.injEq, List.append_assoc] at h
  simp only at h1 h2 h3 h4 h5 k1 k2 k3 k4 k5
  have e1 := ofNat_inj (by omega) (by omega) h.1
  obtain ⟨e2, e3⟩ := List.append_inj h.2 e1
  obtain ⟨e4, e5⟩ := word_cut (by omega) (by omega) e3
  obtain ⟨e6, e7⟩ := word_cut (by omega) (by omega) e5
  have e8 : f = g := by omega
  subst e2 e8 e6
  exact ⟨rfl, e7⟩
theorem file_cut {x y : Fl} {r s : Bt} (hx : FileFit x) (hy : FileFit y) (h : fileB x ++ r = fileB y ++ s) : x = y ∧ r = s := by
  obtain ⟨m, d⟩ := x
  obtain ⟨k, c⟩ := y
  obtain ⟨h1, h2, h3⟩ := hx
  obtain ⟨k1, k2, k3⟩ := hy
  simp only at h1 h2 h3 k1 k2 k3
  unfold fileB at h
  simp only [List.append_assoc] at h
  obtain ⟨e4, e5⟩ := word_cut (by omega) (by omega) h
  obtain ⟨e6, e7⟩ := word_cut (by omega) (by omega) e5
  obtain ⟨e2, e3⟩ := List.append_inj e7 (by omega)
  subst e4 e2
  exact ⟨rfl, e3⟩
theorem flat_cut {α : Type} (g : α → Bt) (P : α → Prop) (hc : ∀ x y r s, P x → P y → g x ++ r = g y ++ s → x = y ∧ r = s) : ∀ (a b : List α) (r s : Bt), a.length = b.length → (∀ x ∈ a, P x) → (∀ x ∈ b, P x) → a.flatMap g ++ r = b.flatMap g ++ s → a = b ∧ r = s
  | [], [], r, s, _, _, _, h => ⟨rfl, by simpa using h⟩
  | [], _ :: _, _, _, hl, _, _, _ => by simp at hl
  | _ :: _, [], _, _, hl, _, _, _ => by simp at hl
  | x :: a, y :: b, r, s, hl, ha, hb, h => by
    simp only [List.flatMap_cons, List.append_assoc] at h
    obtain ⟨e1, e2⟩ := hc x y _ _ (ha x (by simp)) (hb y (by simp)) h
    obtain ⟨e3, e4⟩ := flat_cut g P hc a b r s (by simpa using hl) (fun z hz => ha z (by simp [hz])) (fun z hz => hb z (by simp [hz])) e2
    exact ⟨by rw [e1, e3], e4⟩
theorem loose_fits {ns : List Nd} {fs : List Fl} (h : looseE ns fs = 0) : (∀ x ∈ ns, NodeFit x) ∧ ∀ x ∈ fs, FileFit x := by
  have hs := loose_small h
  refine ⟨fun x hx => ?_, fun x hx => ?_⟩
  · have h1 := loose_plen h x hx
    have h2 := loose_files h x hx
    have h3 := loose_mode h x hx
    exact ⟨h1, by omega, by omega, h3.1, h3.2⟩
  · have h1 := hs.2.2 x hx
    have h3 := loose_fmode h x hx
    exact ⟨h1, h3.1, h3.2⟩
/-- a loose tree's bytes tell it -/
theorem bytes_inj {ns ms : List Nd} {fs gs : List Fl} (h1 : looseE ns fs = 0) (h2 : looseE ms gs = 0) (h : bytesT ns fs = bytesT ms gs) : ns = ms ∧ fs = gs := by
  have s1 := loose_small h1
  have s2 := loose_small h2
  unfold bytesT nodesB at h
  simp only [List.append_assoc] at h
  obtain ⟨e1, e2⟩ := word_cut (by omega) (by omega) h
  obtain ⟨e3, e4⟩ := flat_cut nodeB NodeFit (fun x y r s hx hy h => node_cut hx hy h) ns ms _ _ (by omega) (loose_fits h1).1 (loose_fits h2).1 e2
  obtain ⟨e5, e6⟩ := word_cut (by omega) (by omega) e4
  have e7 := flat_cut fileB FileFit (fun x y r s hx hy h => file_cut hx hy h) fs gs [] [] (by omega) (loose_fits h1).2 (loose_fits h2).2 (by simpa using e6)
  exact ⟨e3, e7.1⟩
end Go.Tre
namespace Go.Proofs.Ytjagddhkoacipaa
open Go.Pth Go.Tre Go.RowKit Go.Word Go.Shelf
set_option maxRecDepth 100000 in
set_option maxHeartbeats 4000000 in
theorem bytes_no (NA FA : Option Addr) (nc fc : Nat) (ns : List Nd) (fs : List Fl) (w : World) (hN : NodesAt w NA ns) (hF : FilesAt w FA fs) (hp : ∀ x ∈ ns, x.path.length ≤ 100000) (hz : looseE ns fs ≠ 0) :
    Calls Try.prog 22 #[.agg #[.slice NA ns.length nc, .slice FA fs.length fc]] w fun e w' => e = .returned (.tuple #[.slice none 0 0, .int .i64 (looseE ns fs)]) ∧ Below w.heap.size w w' := by
  have L := lies_new w 25 #[.slice NA ns.length nc, .slice FA fs.length fc]
  have hB : Below w.heap.size w (w.alloc (.cells #[.slice NA ns.length nc, .slice FA fs.length fc] 25)) := (Below.refl _ _).alloc (Nat.le_refl _) _
  have KLL := Lib.hid (loose_any NA FA nc fc ns fs _ (nodesAt_below hN hB) (filesAt_below hF hB) hp)
  have x0 := lies_cell L 0
  have x1 := lies_cell L 1
  simp only [List.getElem?_toArray, List.getElem?_cons_zero, List.getElem?_cons_succ] at x0 x1
  have HB := Lib.hid hB
  have hzn : (looseE ns fs != 0) = true := by simpa using hz
  have hzb : (looseE ns fs == 0) = false := by simpa using hz
  clear L hB hN hF hp hz
  generalize looseE ns fs = z at *
  generalize ns.length = n at *
  generalize fs.length = m at *
  go_enter Try.func22, Try.ntmps22
  go_wp2_with (go_at_call 43; (with_reducible refine KLL.out.mono ?_); rintro e w1 ⟨rfl, hb⟩; have B1 := Lib.hid (HB.out.trans (hb.mono HB.out.size)); clear hb)
  go_ret2
  exact ⟨rfl, B1.out⟩
end Go.Proofs.Ytjagddhkoacipaa

/-
What is proved here: a region whose order is open, with writes in a chain: each operation yields a fixed value and carries a property of the world that hangs on what has come up. Of whatever program.
-/
set_option linter.unusedSimpArgs false
namespace Go.Word
section
variable {P : Program} {md : Region.Mode} {ops : Array Oper} {Q : Exit → Act → World → Prop} {own : Nat → Option Nat} {vals : Nat → Value} {a0 : Act}
theorem every_at (rank : Nat → Nat) (Inv : Array Bool → World → Prop)
    (hac : ∀ (i : Nat) (oi : Oper), ops[i]? = some oi → ∀ e ∈ oi.after, Region.binds md e = true → rank e.on < rank i)
    (hon : ∀ (i : Nat) (oi : Oper), ops[i]? = some oi → ∀ e ∈ oi.after, e.on < ops.size)
    (hdst : ∀ i oi, ops[i]? = some oi → (oi.dst = none ∧ ∀ t, own t ≠ some i) ∨ ∃ d, oi.dst = some d ∧ d < a0.tmps.size ∧ own d = some i ∧ ∀ t, own t = some i → t = d)
    (hop : ∀ i oi a w listed, ops[i]? = some oi → listed.getD i false = false → listed.size = ops.size → Shut md ops listed → (∀ e ∈ oi.after, Region.binds md e = true → listed.getD e.on false = true) → Tabd own vals a0 listed a → Inv listed w →
      (Region.wanted oi (yielded ops a.tmps) = true ∧ ∀ K : Act → World → Prop, (∀ w', Inv (listed.setIfInBounds i true) w' → K (a.put oi.dst (vals i)) w') → Oper.wp P oi a w K Q) ∨ (Region.wanted oi (yielded ops a.tmps) = false ∧ vals i = undef ∧ Inv (listed.setIfInBounds i true) w))
    (hend : ∀ a w listed, (∀ i, i < ops.size → listed.getD i false = true) → Tabd own vals a0 listed a → Inv listed w → Q .normal a w) :
    ∀ (fuel : Nat) (listed : Array Bool) (a : Act) (w : World), listed.size = ops.size → Shut md ops listed → listed.toList.count false ≤ fuel → Tabd own vals a0 listed a → Inv listed w → wpAny P md ops Q fuel listed a w := by
  intro fuel
  induction fuel with
  | zero =>
    intro listed a w hs hcl hc ht hI
    have hr : Region.ready md ops listed = [] := List.eq_nil_iff_forall_not_mem.2 fun j hj => by
      obtain ⟨hun, oj, hoj, _⟩ := mem_ready.1 hj
      have hjlt : j < ops.size := (Array.getElem?_eq_some_iff.1 hoj).1
      have := count_pos (by omega) hun
      omega
    exact ⟨hr, hend a w listed (all_listed hac hs hon hr) ht hI⟩
  | succ fuel ih =>
    intro listed a w hs hcl hc ht hI
    refine ⟨fun hr => hend a w listed (all_listed hac hs hon hr) ht hI, fun i hi => ?_⟩
    obtain ⟨hun, oi, hoi, hdeps⟩ := mem_ready.1 hi
    have hilt : i < ops.size := (Array.getElem?_eq_some_iff.1 hoi).1
    have hun2 : listed.getD i false = false := by
      rw [Array.getD_eq_getD_getElem?, Array.getElem?_eq_getElem (by omega)] at hun ⊢
      simpa using hun
    have ht' : Tabd own vals a0 (listed.setIfInBounds i true) (a.put oi.dst (vals i)) := by
      rcases hdst i oi hoi with ⟨hd, hno⟩ | ⟨d, hd, hdl, hod, hinj⟩
      · rw [hd]; exact tabd_skip ht hno
      · rw [hd]; exact tabd_put ht (by omega) hdl hod hinj
    unfold wpOp
    rw [hoi]
    rcases hop i oi a w listed hoi hun2 hs hcl hdeps ht hI with ⟨hw, hK⟩ | ⟨hw, hv, hI'⟩
    · simp only [hw, if_true]
      exact .inl (hK _ (fun w' hw' => ih _ _ _ (by simp [hs]) (shut_set hcl hs hoi hdeps) (count_set (by omega) hun hc) ht' hw'))
    · simp only [hw, Bool.false_eq_true, if_false]
      rw [hv] at ht'
      exact ih _ _ _ (by simp [hs]) (shut_set hcl hs hoi hdeps) (count_set (by omega) hun hc) ht' hI'
end
end Go.Word

/-
What is proved here: a copy of a tree in memory of its own, and one file more in it.
-/
set_option linter.unusedSimpArgs false
namespace Go.Proofs.Ytjagddhkoacipaa
open Go.Pth Go.Tre Go.RowKit Go.Word Go.Shelf

def ncells (ns : List Nd) : List Value := ns.flatMap fun x => [St x.path, .int .i64 x.file, .int .i64 x.mode]
def fcells (D : Nat → Value) (fs : List Fl) : List Value := (List.range fs.length).flatMap fun i => [.int .i64 (fs.getD i ⟨0, []⟩).mode, D i]
theorem fcells_snoc (D D' : Nat → Value) (fs : List Fl) (x : Fl) (h : ∀ i, i < fs.length → D' i = D i) : fcells D' (fs ++ [x]) = fcells D fs ++ [.int .i64 x.mode, D' fs.length] := by
  unfold fcells
  rw [List.length_append, List.length_singleton, List.range_succ, List.flatMap_append]
  congr 1
  · rw [List.flatMap_def, List.flatMap_def]
    congr 1
    refine List.map_congr_left (fun i hi => ?_)
    have hi : i < fs.length := by simpa using hi
    rw [h i hi, List.getD_eq_getElem?_getD, List.getD_eq_getElem?_getD, List.getElem?_append_left hi]
  · simp [List.getD_eq_getElem?_getD]
/-- a tree's copy: nodes, files and each file's bytes in blocks of their own, from B on -/
structure CopyAt (w : World) (B : Nat) (vN vF : Value) (D : Nat → Value) (ns : List Nd) (fs : List Fl) : Prop where
  nodes : w.ownsRow B 54 3 vN ns.length (ncells ns)
  files : w.ownsRow B 57 2 vF fs.length (fcells D fs)
  data : ∀ i, i < fs.length → OwnB w B (D i) (fs.getD i ⟨0, []⟩).data
  apart : ∀ i k, i < k → k < fs.length → ∀ b, (D i).ownBlock = some b → (D k).ownBlock ≠ some b
theorem own_heap {w : World} {B e size : Nat} {v : Value} {n : Nat} {xs : List Value} (h : w.ownsRow B e size v n xs) (b : Nat) (hb : v.ownBlock = some b) : B ≤ b ∧ ∃ cs, w.heap[b]? = some (.cells cs e (0, 0)) := by
  rcases h.2 with ⟨rfl, _⟩ | ⟨g, cap, cur, rfl, hbg, hg, _⟩
  · simp [Value.ownBlock] at hb
  · obtain rfl : g = b := by simpa [Value.ownBlock] using hb
    exact ⟨hbg, cur, hg⟩
theorem own_other {w : World} {B e size : Nat} {v : Value} {n : Nat} {xs : List Value} (h : w.ownsRow B e size v n xs) {row : Option Nat} (hr : ∀ r, row = some r → ∃ cs t, w.heap[r]? = some (.cells cs t (0, 0)) ∧ t ≠ e) : v.ownBlock = none ∨ v.ownBlock ≠ row := by
  cases hv : v.ownBlock with
  | none => exact .inl rfl
  | some b =>
    refine .inr (fun e1 => ?_)
    obtain ⟨cs, t, h1, h2⟩ := hr b e1.symm
    obtain ⟨_, cs', h3⟩ := own_heap h b hv
    rw [h1] at h3
    injection h3 with h3
    injection h3 with _ h4 _
    exact h2 h4
theorem copy_kept {w w' : World} {B : Nat} {vN vF : Value} {D : Nat → Value} {ns : List Nd} {fs : List Fl} (h : CopyAt w B vN vF D ns fs) {row : Option Nat} (hg : w.grownBy w' row)
    (hr : ∀ r, row = some r → ∃ cs t, w.heap[r]? = some (.cells cs t (0, 0)) ∧ t ≠ 54 ∧ t ≠ 57 ∧ t ≠ 5) : CopyAt w' B vN vF D ns fs where
  nodes := h.nodes.kept hg (own_other h.nodes (fun r e => by obtain ⟨cs, t, h1, h2, _⟩ := hr r e; exact ⟨cs, t, h1, h2⟩))
  files := h.files.kept hg (own_other h.files (fun r e => by obtain ⟨cs, t, h1, _, h2, _⟩ := hr r e; exact ⟨cs, t, h1, h2⟩))
  data := fun i hi => World.ownsRow.kept (h.data i hi) hg (own_other (h.data i hi) (fun r e => by obtain ⟨cs, t, h1, _, _, h2⟩ := hr r e; exact ⟨cs, t, h1, h2⟩))
  apart := h.apart
theorem copy_step {w w1 w2 w3 : World} {B : Nat} {vN vF vF' vD : Value} {D : Nat → Value} {ns : List Nd} {fs : List Fl} {m : Int} {d : Bt} (h : CopyAt w B vN vF D ns fs)
    (hBw : B ≤ w.heap.size) (h1 : OwnB w1 w.heap.size vD d) (g1 : w.grownBy w1 none) (hw2 : w2 = w1.alloc (.cells #[.int .i64 m, vD] 57))
    (h3 : w3.ownsRow B 57 2 vF' (fs.length + 1) (fcells D fs ++ [.int .i64 m, vD])) (g3 : w2.grownBy w3 vF.ownBlock) :
    CopyAt w3 B vN vF' (fun i => if i = fs.length then vD else D i) ns (fs ++ [⟨m, d⟩]) := by
  have c1 := copy_kept h g1 (fun r e => by cases e)
  have g2 : w1.grownBy w2 none := by rw [hw2]; exact World.grownBy_alloc w1 _ none
  have c2 := copy_kept c1 g2 (fun r e => by cases e)
  have hb : ∀ r, vF.ownBlock = some r → ∃ cs, w2.heap[r]? = some (.cells cs 57 (0, 0)) := fun r e => (own_heap c2.files r e).2
  have d2 : OwnB w2 w.heap.size vD d := h1.kept g2 (by cases vD.ownBlock <;> simp)
  have hD : ∀ i, i < fs.length → (if i = fs.length then vD else D i) = D i := fun i hi => by rw [if_neg (by omega)]
  refine ⟨c2.nodes.kept g3 (own_other c2.nodes (fun r e => by obtain ⟨cs, h1⟩ := hb r e; exact ⟨cs, 57, h1, by decide⟩)), ?_, fun i hi => ?_, fun i k hik hk b hb1 hb2 => ?_⟩
  · rw [List.length_append, List.length_singleton, fcells_snoc D _ fs ⟨m, d⟩ hD]
    simpa using h3
  · rw [List.length_append, List.length_singleton] at hi
    by_cases e : i = fs.length
    · subst e
      have e2 : ((fs ++ [(⟨m, d⟩ : Fl)]).getD fs.length ⟨0, []⟩).data = d := by simp [List.getD_eq_getElem?_getD]
      rw [if_pos rfl, e2]
      have d2' : w2.ownsRow w.heap.size 5 1 vD d.length (d.map yB) := d2
      have d3 := World.ownsRow.kept d2' g3 (own_other d2' (fun r e => by obtain ⟨cs, h1⟩ := hb r e; exact ⟨cs, 57, h1, by decide⟩))
      exact World.ownsRow.mono d3 hBw
    · have hi' : i < fs.length := by omega
      have e2 : ((fs ++ [(⟨m, d⟩ : Fl)]).getD i ⟨0, []⟩).data = (fs.getD i ⟨0, []⟩).data := by
        rw [List.getD_eq_getElem?_getD, List.getD_eq_getElem?_getD, List.getElem?_append_left hi']
      rw [if_neg e, e2]
      have d2' : w2.ownsRow B 5 1 (D i) (fs.getD i ⟨0, []⟩).data.length ((fs.getD i ⟨0, []⟩).data.map yB) := c2.data i hi'
      exact World.ownsRow.kept d2' g3 (own_other d2' (fun r e => by obtain ⟨cs, h1⟩ := hb r e; exact ⟨cs, 57, h1, by decide⟩))
  · rw [List.length_append, List.length_singleton] at hk
    by_cases e : k = fs.length
    · subst e
      rw [if_pos rfl] at hb2
      rw [if_neg (by omega)] at hb1
      have h5 := (own_heap h1 b hb2).1
      obtain ⟨cs, h6⟩ := (own_heap (h.data i (by omega)) b hb1).2
      have := (Array.getElem?_eq_some_iff.1 h6).1
      omega
    · rw [if_neg e] at hb2
      rw [if_neg (by omega)] at hb1
      exact h.apart i k hik (by omega) b hb1 hb2
set_option maxRecDepth 100000 in
theorem run_app_fresh (w : World) (ty : TypeId) (DA : Option Addr) (dc : Nat) (d : Bt) (hd : BytesAt w DA d) (hb : d.length ≤ 100000000) :
    ∃ v' w', (Builtin.append_ #[37, 37] ty #[.slice none 0 0, .slice DA d.length dc]).run Try.prog w = .ok v' w' ∧ OwnB w' w.heap.size v' d ∧ w.grownBy w' none := by
  obtain ⟨i0, hi, hz0, hz1, hz2⟩ := info_parts byte_info
  have hnil : w.ownsRow w.heap.size 5 1 (.slice none 0 0) 0 [] := World.ownsRow_nil _ _ _ _
  cases DA with
  | none =>
    have hd0 : d = [] := by
      cases d with
      | nil => rfl
      | cons c t =>
        obtain ⟨b, o, e, _⟩ := hd 0 (by simp)
        cases e
    subst hd0
    exact ⟨_, w, run_append_none_cap w w.heap.size 37 ty 5 i0 1 Try.underlying37 hi (.slice none 0 0) 0 [] dc hnil, hnil, ⟨rfl, rfl, rfl, Nat.le_refl _, fun _ _ _ => rfl⟩⟩
  | some ad =>
    obtain ⟨v', w', h1, h2, h3, _⟩ := run_append_own (P := Try.prog) w w.heap.size 37 ty 5 i0 (.int .u8 0) 1 1 Try.underlying37 hi hz0 hz1 hz2 rfl (by decide) (.slice none 0 0) 0 [] hnil ad d.length dc (d.map yB) (by simp) (fun j u hj => by
      have hjl : j < d.length := by
        have := (List.getElem?_eq_some_iff.1 hj).1
        simpa using this
      obtain ⟨b, o, e, _, hc⟩ := hd j hjl
      injection e with e
      subst e
      rw [Addr.add_mid, hc]
      rw [List.getElem?_map, List.getElem?_eq_getElem hjl] at hj
      simpa [yB] using hj) (fun u hu => by obtain ⟨c, _, rfl⟩ := List.mem_map.1 hu; rfl) (by unfold maxLen; omega) (by omega) (Nat.le_refl _)
    refine ⟨v', w', h1, ?_, h3⟩
    unfold OwnB
    simpa using h2
end Go.Proofs.Ytjagddhkoacipaa

/-
What is proved here: operations of any kind by their own run, and the nodes of a copy appended to a row that is empty.
-/
set_option linter.unusedSimpArgs false
namespace Go.Word
section
variable {P : Program} {Q : Exit → Act → World → Prop} {a : Act} {w w' : World} {K : Act → World → Prop} {oi : Oper}
theorem wp_valT {v : Value} (hr : (execOp a.eval oi).run P w = .ok (.value v) w') (h : K (a.put oi.dst v) w') : Oper.wp P oi a w K Q := by
  unfold Oper.wp
  rw [hr]
  exact h
theorem wp_skipT (hr : (execOp a.eval oi).run P w = .ok .skip w') (h : K (a.put oi.dst undef) w') : Oper.wp P oi a w K Q := by
  unfold Oper.wp
  rw [hr]
  exact h
theorem app_op {ρ : Operand → Value} {u s v : Value} {t1 t2 : TypeId} (x y : Operand) (ho : oi.op = .call { callee := .builtin .append, args := #[x, y], argTypes := #[t1, t2] }) (hx : ρ x = u) (hy : ρ y = s)
    (hr : (Builtin.append_ #[t1, t2] oi.type #[u, s]).run P w = .ok v w') : (execOp ρ oi).run P w = .ok (.value v) w' := by
  unfold execOp
  simp only [ho, resolve, invoke, builtin, Sem.run_bind, Sem.run_pure, Result.andThen_ok, List.map_toArray, List.map_cons, List.map_nil, hx, hy, hr]
theorem wpList_app_run {ops : Array Oper} {rest : List Oper} {o : Oper} {u s v : Value} {t1 t2 : TypeId} (hgd : o.guard = none) (x y : Operand) (ho : o.op = .call { callee := .builtin .append, args := #[x, y], argTypes := #[t1, t2] }) (hx : a.eval x = u) (hy : a.eval y = s)
    (hr : (Builtin.append_ #[t1, t2] o.type #[u, s]).run P w = .ok v w') (h : wpList P ops Q rest (a.put o.dst v) w') : wpList P ops Q (o :: rest) a w := by
  refine wpList_plain hgd fun K hK => ?_
  unfold Oper.wp
  rw [app_op x y ho hx hy hr]
  exact hK _ _ h
end
end Go.Word
namespace Go.Proofs.Ytjagddhkoacipaa
open Go.Pth Go.Tre Go.RowKit Go.Word Go.Shelf

theorem own_slice {w : World} {B e size : Nat} {v : Value} {n : Nat} {xs : List Value} (h : w.ownsRow B e size v n xs) : ∃ A C, v = .slice A n C := by
  rcases h.2 with ⟨e1, e2⟩ | ⟨g, cap, cur, e1, _⟩
  · exact ⟨none, 0, by rw [e2]; exact e1⟩
  · exact ⟨_, _, e1⟩
theorem ncells_len (ns : List Nd) : (ncells ns).length = ns.length * 3 := by
  unfold ncells
  induction ns with
  | nil => rfl
  | cons x r ih => rw [List.flatMap_cons, List.length_append, ih]; simp; omega
theorem ncells_one (ns : List Nd) : ∀ u ∈ ncells ns, u.oneCell' = true := fun u hu => by
  obtain ⟨x, _, hx⟩ := List.mem_flatMap.1 hu
  simp at hx
  rcases hx with rfl | rfl | rfl <;> rfl
theorem ncells_at : ∀ (ns : List Nd) (i : Nat) (h : i < ns.length), (ncells ns)[i * 3]? = some (St ns[i].path) ∧ (ncells ns)[i * 3 + 1]? = some (.int .i64 ns[i].file) ∧ (ncells ns)[i * 3 + 2]? = some (.int .i64 ns[i].mode)
  | x :: r, 0, _ => ⟨rfl, rfl, rfl⟩
  | x :: r, i + 1, h => by
    have := ncells_at r i (by simpa using h)
    unfold ncells at this ⊢
    rw [List.flatMap_cons]
    refine ⟨?_, ?_, ?_⟩
    · rw [List.getElem?_append_right (by simp; omega)]
      have e : (i + 1) * 3 - [St x.path, Value.int .i64 x.file, Value.int .i64 x.mode].length = i * 3 := by simp; omega
      rw [e]; exact this.1
    · rw [List.getElem?_append_right (by simp; omega)]
      have e : (i + 1) * 3 + 1 - [St x.path, Value.int .i64 x.file, Value.int .i64 x.mode].length = i * 3 + 1 := by simp; omega
      rw [e]; exact this.2.1
    · rw [List.getElem?_append_right (by simp; omega)]
      have e : (i + 1) * 3 + 2 - [St x.path, Value.int .i64 x.file, Value.int .i64 x.mode].length = i * 3 + 2 := by simp; omega
      rw [e]; exact this.2.2
theorem ncells_src {w : World} {NA : Addr} {ns : List Nd} (h : NodesAt w (some NA) ns) : ∀ j u, (ncells ns)[j]? = some u → w.cell? (NA.add j) = some u := fun j u hj => by
  have hl : j < (ncells ns).length := (List.getElem?_eq_some_iff.1 hj).1
  rw [ncells_len] at hl
  have hi : j / 3 < ns.length := by omega
  obtain ⟨b, o, e, _, d1, d2, d3⟩ := h (j / 3) hi
  injection e with e
  subst e
  obtain ⟨k1, k2, k3⟩ := ncells_at ns (j / 3) hi
  rw [Addr.add_mid]
  have h3 : j % 3 = 0 ∨ j % 3 = 1 ∨ j % 3 = 2 := by omega
  rcases h3 with h3 | h3 | h3
  · have ej : j = j / 3 * 3 := by omega
    rw [ej] at hj
    rw [k1] at hj
    rw [← hj, show o + j = o + j / 3 * 3 by omega]
    exact d1
  · have ej : j = j / 3 * 3 + 1 := by omega
    rw [ej] at hj
    rw [k2] at hj
    rw [← hj, show o + j = o + j / 3 * 3 + 1 by omega]
    exact d2
  · have ej : j = j / 3 * 3 + 2 := by omega
    rw [ej] at hj
    rw [k3] at hj
    rw [← hj, show o + j = o + j / 3 * 3 + 2 by omega]
    exact d3
theorem node_info3 : (Try.prog.info? 54).map (fun i => (i.zero, i.size, i.bytes)) = some (some (.agg #[.string ⟨#[]⟩, .int .i64 0, .int .i64 0]), 3, 32) := by kernel_rfl
theorem file_info2 : (Try.prog.info? 57).map (fun i => (i.zero, i.size, i.bytes)) = some (some (.agg #[.int .i64 0, .slice none 0 0]), 2, 32) := by kernel_rfl
theorem run_app_nodes (w : World) (ty : TypeId) (NA : Option Addr) (nc : Nat) (ns : List Nd) (hN : NodesAt w NA ns) (hb : ns.length ≤ 1000000) :
    ∃ v' w', (Builtin.append_ #[22, 22] ty #[.slice none 0 0, .slice NA ns.length nc]).run Try.prog w = .ok v' w' ∧ w'.ownsRow w.heap.size 54 3 v' ns.length (ncells ns) ∧ w.grownBy w' none := by
  obtain ⟨i0, hi, hz0, hz1, hz2⟩ := info_parts node_info3
  have hnil : w.ownsRow w.heap.size 54 3 (.slice none 0 0) 0 [] := World.ownsRow_nil _ _ _ _
  cases NA with
  | none =>
    have hd0 : ns = [] := by
      cases ns with
      | nil => rfl
      | cons c t =>
        obtain ⟨b, o, e, _⟩ := hN 0 (by simp)
        cases e
    subst hd0
    exact ⟨_, w, run_append_none_cap w w.heap.size 22 ty 54 i0 3 Try.underlying22 hi (.slice none 0 0) 0 [] nc hnil, hnil, ⟨rfl, rfl, rfl, Nat.le_refl _, fun _ _ _ => rfl⟩⟩
  | some ad =>
    obtain ⟨v', w', h1, h2, h3, _⟩ := run_append_own (P := Try.prog) w w.heap.size 22 ty 54 i0 _ 3 32 Try.underlying22 hi hz0 hz1 hz2 rfl (by decide) (.slice none 0 0) 0 [] hnil ad ns.length nc (ncells ns) (ncells_len ns) (ncells_src hN) (ncells_one ns) (by unfold maxLen; omega) (by omega) (Nat.le_refl _)
    refine ⟨v', w', h1, ?_, h3⟩
    simpa using h2
end Go.Proofs.Ytjagddhkoacipaa
