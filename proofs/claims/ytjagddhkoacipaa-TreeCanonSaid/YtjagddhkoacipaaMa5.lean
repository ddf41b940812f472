/-
What is proved here: several texts in one (Fil, Fl, Wgt): each says what it is about.
-/
import Derived.Test.YtjagddhkoacipaaMa4
import Derived.Laws.FloatArith
import Derived.Laws.ComplexArith
/-
What is proved here: the function value that goes over the fills of a tree's directories, for every loop body that keeps what lay below but one block, and the maps.
-/
set_option linter.unusedSimpArgs false
namespace Go.Tre
open Go.Pth
/-- how many nodes a directory has in it -/
def kidsN (ns : List Nd) (p : Bt) : Int := ((ns.filter fun x => decide (upP x.path = p)).length : Int)
abbrev K256 := { x : Int // 0 ≤ x ∧ x ≤ 256 }
def kidsK (ns : List Nd) (p : Bt) : K256 := ⟨min (kidsN ns p) 256, by unfold kidsN; omega⟩
def isDir (x : Nd) : Bool := decide (x.file = -1)
/-- what has come when i nodes are over -/
def fillsTo (ns : List Nd) (i : Nat) : List K256 := kidsK ns [] :: ((ns.take i).filter isDir).map fun x => kidsK ns x.path
def fillsL (ns : List Nd) : List K256 := kidsK ns [] :: (ns.filter isDir).map fun x => kidsK ns x.path
theorem fillsTo_all (ns : List Nd) (i : Nat) (h : ns.length ≤ i) : fillsTo ns i = fillsL ns := by unfold fillsTo fillsL; rw [List.take_of_length_le h]
theorem fillsTo_dir (ns : List Nd) (i : Nat) (h : i < ns.length) (hd : isDir ns[i] = true) : fillsTo ns (i + 1) = fillsTo ns i ++ [kidsK ns ns[i].path] := by
  unfold fillsTo
  rw [List.take_succ_eq_append_getElem h, List.filter_append, List.map_append]
  simp [hd]
theorem fillsTo_not (ns : List Nd) (i : Nat) (h : i < ns.length) (hd : isDir ns[i] = false) : fillsTo ns (i + 1) = fillsTo ns i := by
  unfold fillsTo
  rw [List.take_succ_eq_append_getElem h, List.filter_append, List.map_append]
  simp [hd]
theorem fillsTo_pre (ns : List Nd) (i : Nat) : fillsTo ns i <+: fillsL ns := by
  unfold fillsTo fillsL
  refine (List.cons_prefix_cons).2 ⟨rfl, ?_⟩
  exact ((List.take_prefix i ns).filter _).map _
theorem kidsN_take (ns : List Nd) (i : Nat) (h : i < ns.length) (p : Bt) : kidsN (ns.take (i + 1)) p = if p = upP ns[i].path then kidsN (ns.take i) p + 1 else kidsN (ns.take i) p := by
  unfold kidsN
  rw [List.take_succ_eq_append_getElem h, List.filter_append, List.length_append]
  by_cases e : upP ns[i].path = p
  · rw [if_pos e.symm]; simp [e]
  · rw [if_neg (fun e' => e e'.symm)]; simp [e]
theorem kidsN_bd (ns : List Nd) (p : Bt) : 0 ≤ kidsN ns p ∧ kidsN ns p ≤ ns.length := by
  unfold kidsN
  have := List.length_filter_le (fun x : Nd => decide (upP x.path = p)) ns
  omega
theorem kidsK_val (ns : List Nd) (p : Bt) (h : ns.length ≤ 256) : (kidsK ns p).1 = kidsN ns p := by
  have := kidsN_bd ns p
  show min (kidsN ns p) 256 = kidsN ns p
  omega
end Go.Tre
namespace Go.Proofs.Ytjagddhkoacipaa
open Go.Pth Go.Tre Go.RowKit Go.Word Go.Shelf
attribute [local go_sem] Oper.semAt_some

def encI (k : K256) : Array Value := #[.int .i64 k.1]
/-- what a round keeps -/
def KW (m WB : Nat) (A B : World) : Prop := (∀ i, i < m → i ≠ WB → B.heap[i]? = A.heap[i]?) ∧ KeepsWalks A B
theorem kw_t {m WB : Nat} {A B C : World} (h : KW m WB A B) (k : KW m WB B C) : KW m WB A C := ⟨fun i h1 h2 => (k.1 i h1 h2).trans (h.1 i h1 h2), h.2.trans k.2⟩
theorem kw_b {m WB : Nat} {w : World} (hB : m ≤ w.heap.size) (W : World) (l : Nat) (o o' : Obj) (hl : w.heap.size ≤ l) (h : W.heap[l]? = some o) (_ : o.isCells = false) (hw : o.isWalk = false) : KW m WB W (W.putObj l o') :=
  ⟨fun i hi _ => World.putObj_heap_other (by omega), KeepsWalks.putObj _ h hw⟩
/-- nodes in a slice that lies below m, and not in block WB -/
def NodesIn (w : World) (m WB : Nat) (A : Option Addr) (ns : List Nd) : Prop := ∀ i (h : i < ns.length), ∃ b o, A = some ⟨b, o, none⟩ ∧ b < m ∧ b ≠ WB ∧
  w.cell? ⟨b, o + i * 3, none⟩ = some (St ns[i].path) ∧ w.cell? ⟨b, o + i * 3 + 1, none⟩ = some (.int .i64 ns[i].file) ∧ w.cell? ⟨b, o + i * 3 + 2, none⟩ = some (.int .i64 ns[i].mode)

theorem wf_i64 {z : Int} (h1 : -9223372036854775808 ≤ z) (h2 : z ≤ 9223372036854775807) : (Lit.int .i64 z).wf = true := by
  have e1 : IntKind.i64.min = -9223372036854775808 := by decide
  have e2 : IntKind.i64.max = 9223372036854775807 := by decide
  simp only [Lit.wf, Bool.and_eq_true, decide_eq_true_eq, e1, e2]
  exact ⟨h1, h2⟩
set_option maxRecDepth 100000 in
set_option maxHeartbeats 4000000 in
theorem fills_stops (nn : Nat) (hnn : 1 ≤ nn) (ns : List Nd) (hn : ns.length ≤ 256) (hp : ∀ x ∈ ns, x.path.length ≤ 100000) (Bs m WB : Nat) (NA : Option Addr) (nc : Nat) (w : World) (hBs : Bs < m) (hBW : Bs ≠ WB) (hm : m ≤ w.heap.size)
    (hb : w.cell? ⟨Bs, 0, none⟩ = some (.slice NA ns.length nc)) (hN : NodesIn w m WB NA ns) :
    SeqStopsK .wide nn Try.prog 80 #[.pointer (some ⟨Bs, 0, none⟩)] encI (KW m WB) (fun ys => ys = fillsL ns) (fun pre => pre <+: fillsL ns) (fillsL ns).length w := fun lp J Jx W hW hJ _ hY h0 => by
  have hmm := @run_makeMap Try.prog
  have cB0 := (hW.cell (p := ⟨Bs, 0, none⟩) (by show Bs < _; omega)).trans hb
  have hmW : m ≤ W.heap.size := Nat.le_trans hm hW.size
  obtain ⟨n, hne⟩ : ∃ n, n = ns.length := ⟨_, rfl⟩
  rw [← hne] at hn cB0
  have NE := Lib.hid hne
  have HP := Lib.hid hp
  have HN := Lib.hid (show NodesIn W m WB NA ns from fun i hi => by
    obtain ⟨b, o, e, h1, h2, d1, d2, d3⟩ := hN i hi
    have hbw : b < w.heap.size := Nat.lt_of_lt_of_le h1 hm
    exact ⟨b, o, e, h1, h2, (hW.cell (p := ⟨b, o + i * 3, none⟩) hbw).trans d1, (hW.cell (p := ⟨b, o + i * 3 + 1, none⟩) hbw).trans d2, (hW.cell (p := ⟨b, o + i * 3 + 2, none⟩) hbw).trans d3⟩)
  clear hb hne hp hN
  have CB := Lib.hid cB0
  refine callsIn_of_wp Try.func80 rfl trivial ?_ rfl
  simp only [Try.ntmps80, List.size_toArray, List.length_cons, List.length_nil, Nat.reduceAdd, Nat.reduceSub, Array.replicate_succ, Array.replicate_zero, List.push_toArray, List.append_toArray, List.nil_append, List.cons_append]
  have cB1 : (W.alloc (.map #[] 0)).cell? ⟨Bs, 0, none⟩ = some (.slice NA n nc) := (((Below.refl W.heap.size W).alloc (Nat.le_refl _) (.map #[] 0)).cell (p := ⟨Bs, 0, none⟩) (by show Bs < _; omega)).trans cB0
  gi_wp2
  gi_loopw [12] (fun v12 wr => ∃ i : Nat, i ≤ n ∧ v12 = .int .i64 (i : Int) ∧ CntAt wr W.heap.size i (fun p => kidsN (ns.take i) p) ∧ J [] wr ∧ Below W.heap.size W wr) (fun v12 _ => n - (intOf v12).toNat)
  case atStart => exact ⟨0, Nat.zero_le _, rfl, by simpa [kidsN] using cnt_made W, hJ _ _ _ none h0 (World.grownBy_alloc W _ none) (fun _ e => by cases e), (Below.refl _ _).alloc (Nat.le_refl _) _⟩
  case round =>
    obtain ⟨i, hi, rfl, hC, hJr, hB⟩ := hrel
    have HB := Lib.hid hB
    clear cB0 cB1
    by_cases hlt : i < n
    · have li : (i : Int) < (n : Int) := by omega
      have lf : i < ns.length := by have := NE.out; omega
      obtain ⟨b, o, eA, hbm, hbW, e1, e2, e3⟩ := HN.out i lf
      have hpl := HP.out ns[i] (List.getElem_mem _)
      subst eA
      have hbW2 : b < W.heap.size := by omega
      have KT := Lib.hid (kidsN_take ns i lf)
      have d1 := (hB.cell (p := ⟨b, o + i * 3, none⟩) hbW2).trans e1
      have d2 := (hB.cell (p := ⟨b, o + i * 3 + 1, none⟩) hbW2).trans e2
      have d3 := (hB.cell (p := ⟨b, o + i * 3 + 2, none⟩) hbW2).trans e3
      clear e1 e2 e3
      generalize ns[i] = x at *
      obtain ⟨p, f, md⟩ := x
      have LM := Lib.hid (node_range (p := p) d1 d2 d3)
      have HPL := Lib.hid (show p.length ≤ 100000 from hpl)
      have LN := Lib.hid (lies_new wr 54 #[.string { data := #[] }, .int .i64 0, .int .i64 0])
      have ES := Lib.hid (setRow_alloc wr 54 #[.string { data := #[] }, .int .i64 0, .int .i64 0] #[St p, .int .i64 f, .int .i64 md])
      have HC := Lib.hid hC
      have HJR := Lib.hid hJr
      clear d1 d2 d3 hpl hC hJr hB
      have x0 : (wr.alloc (.cells #[St p, .int .i64 f, .int .i64 md] 54)).cell? ⟨wr.heap.size, 0, none⟩ = some (St p) := lies_cell (lies_new wr 54 _) 0
      have V := Lib.hid (parent_any p (wr.alloc (.cells #[St p, .int .i64 f, .int .i64 md] 54)) HPL.out)
      have HUP := Lib.hid (Nat.le_trans (upP_len p) HPL.out)
      have bx := Lib.hid ((Below.refl wr.heap.size wr).alloc (Nat.le_refl _) (.cells #[St p, .int .i64 f, .int .i64 md] 54))
      have KT2 := Lib.hid (show ∀ q, kidsN (ns.take (i + 1)) q = if q = upP p then kidsN (ns.take i) q + 1 else kidsN (ns.take i) q from KT.out)
      obtain ⟨up, hup⟩ : ∃ up, up = upP p := ⟨_, rfl⟩
      rw [← hup] at V HUP KT2
      obtain ⟨K, hK⟩ : ∃ K, K = kidsN (ns.take i) up := ⟨_, rfl⟩
      have hKb : 0 ≤ K ∧ K ≤ i := by
        have := kidsN_bd (ns.take i) up
        rw [List.length_take] at this
        omega
      have wk : wrap64 (K + 1) = K + 1 := wrap_in _ (by omega) (by omega)
      have HK := Lib.hid hK
      have WF := Lib.hid (wf_i64 (z := K + 1) (by omega) (by omega))
      clear hK hup KT
      gi_wp2_with (first
        | (refine wpListIn_load_mid rfl 54 _ rfl b (o + i * 3) rfl [St p, .int .i64 f, .int .i64 md] _ LM.out Try.underlying54 rfl (by kernel_rfl) ?_)
        | (refine wpListIn_store_row rfl 54 _ _ rfl wr.heap.size #[St p, .int .i64 f, .int .i64 md] rfl rfl 54 _ LN.out (by kernel_rfl) rfl (by simp [Value.oneCell', St]) ?_; rw [ES.out])
        | (refine ⟨trivial, ?_⟩; gi_at_call 69; refine (callsIn_wide.2 V.out).mono ?_; rintro e w1 ⟨rfl, hb1⟩; have H1 := Lib.hid hb1; have C1 := Lib.hid (cnt_same HC.out ((hb1.block W.heap.size (Nat.lt_of_lt_of_le (cnt_lt HC.out) bx.out.size)).trans (bx.out.block W.heap.size (cnt_lt HC.out)))); have R1 := Lib.hid (cnt_look C1.out up HUP.out); rw [← HK.out] at R1; obtain ⟨w2, hr2, hc2, hg2⟩ := cnt_put C1.out up HUP.out (by omega) (K + 1) WF.out; have R2 := Lib.hid hr2; have C2 := Lib.hid hc2; have G2 := Lib.hid hg2; clear hb1 hr2 hc2 hg2)
        | (gi_at_lookup; refine wpListIn_lookup_eq rfl _ _ 108 rfl (.map (some W.heap.size)) (St up) (.int .i64 K) rfl rfl R1.out ?_)
        | (gi_at_mapUpdate; refine wpListIn_put_eq rfl _ _ _ 108 rfl (.map (some W.heap.size)) (St up) (.int .i64 (K + 1)) rfl rfl rfl R2.out ?_))
      go_roundw
      case rel =>
        refine ⟨i + 1, by omega, by go_num, ?_, ?_, ?_⟩
        · have e : (fun q => kidsN (ns.take (i + 1)) q) = fun q => if q = up then K + 1 else kidsN (ns.take i) q := funext fun q => by
            rw [KT2.out]
            by_cases e : q = up
            · rw [if_pos e, if_pos e, e, HK.out]
            · rw [if_neg e, if_neg e]
          rw [e]
          exact C2.out
        · refine hJ _ _ _ (some W.heap.size) (hJ _ _ _ none (hJ _ _ _ none HJR.out (World.grownBy_alloc wr _ none) (fun _ e => by cases e)) (grown_of_below H1.out) (fun _ e => by cases e)) G2.out (fun r e => by cases e; exact ⟨Nat.le_refl _, cnt_map C1.out⟩)
        · exact ((HB.out.alloc HB.out.size _).trans (H1.out.mono (by simp; have := HB.out.size; omega))).grown G2.out (by have := HB.out.size; have := H1.out.size; simp at this; omega) (fun j hj => by cases hj; exact Nat.le_refl _)
      case measure => first | (simp [intOf]; done) | (simp [intOf]; omega)
    · have li : ¬ (i : Int) < (n : Int) := by omega
      have ein : ns.take i = ns := List.take_of_length_le (by have := NE.out; omega)
      rw [ein] at hC
      have HC := Lib.hid hC
      have HJR := Lib.hid hJr
      have LKE := cnt_look hC [] (by simp)
      have LKE : (Instr.lookup 108 (.map (some W.heap.size)) (.string { data := #[] }) false).run Try.prog wr = .ok (.int .i64 (kidsN ns [])) wr := LKE
      have MBL := Lib.hid (cnt_lt hC)
      have MBW := Lib.hid (cnt_map hC)
      obtain ⟨fn, tmps, assign, body, hy, hR⟩ := hY [] (kidsK ns []) wr hJr (by simp [fillsL])
      dsimp only [encI] at hy
      rw [kidsK_val ns [] (by have := NE.out; omega)] at hy
      obtain ⟨k0, hk0⟩ : ∃ k0, k0 = kidsN ns [] := ⟨_, rfl⟩
      rw [← hk0] at LKE hy
      have K0 := Lib.hid hk0
      have cB2 := (hB.cell (p := ⟨Bs, 0, none⟩) (by show Bs < _; omega)).trans CB.out
      have LK2 := Lib.hid LKE
      clear ein hC hJr hB hk0 LKE
      gi_wp2_with (gi_at_lookup; refine wpListIn_lookup_eq rfl _ _ 108 rfl (.map (some W.heap.size)) (.string { data := #[] }) (.int .i64 k0) rfl rfl LK2.out ?_)
      refine hR.mono ?_
      rintro e W3 (⟨rfl, hJ3, hk3⟩ | ⟨rfl, hJx3⟩)
      · have cB3 := (World.cell?_of_block (a := ⟨Bs, 0, none⟩) (hk3.1 Bs hBs hBW)).trans cB2
        have C3 := Lib.hid (show CntAt W3 W.heap.size i (fun p => kidsN ns p) from cnt_same HC.out (by obtain ⟨o, h1, h2⟩ := MBW.out; rw [hk3.2.same _ _ h1 h2, h1]))
        have KH3 := Lib.hid (show ∀ j, j < m → j ≠ WB → W3.heap[j]? = W.heap[j]? from fun j h1 h2 => (hk3.1 j h1 h2).trans (HB.out.block j (by omega)))
        have Z3 := Lib.hid (show W.heap.size ≤ W3.heap.size from Nat.le_trans HB.out.size hk3.2.size)
        have J3 := Lib.hid hJ3
        clear cB2 hk3 hJ3 HC HJR
        gi_wp2
        gi_loopw [31] (fun v31 wr => ∃ j : Nat, j ≤ n ∧ v31 = .int .i64 (j : Int) ∧ J (fillsTo ns j) wr ∧ CntAt wr W.heap.size i (fun p => kidsN ns p) ∧ (∀ k, k < m → k ≠ WB → wr.heap[k]? = W.heap[k]?) ∧ W.heap.size ≤ wr.heap.size) (fun v31 _ => n - (intOf v31).toNat)
        case atStart => exact ⟨0, Nat.zero_le _, rfl, by simpa [fillsTo] using J3.out, C3.out, KH3.out, Z3.out⟩
        case round =>
          obtain ⟨j, hj, rfl, hJr, hC, hK, hz⟩ := hrel
          have HC := Lib.hid hC
          have HJR := Lib.hid hJr
          have HK := Lib.hid hK
          have HZ := Lib.hid hz
          clear cB3 hC hJr hK hz
          by_cases hjl : j < n
          · have lj : (j : Int) < (n : Int) := by omega
            have lf : j < ns.length := by have := NE.out; omega
            obtain ⟨b, o, eA, hbm, hbW, e1, e2, e3⟩ := HN.out j lf
            have hpl := HP.out ns[j] (List.getElem_mem _)
            subst eA
            have d1 := (World.cell?_of_block (a := ⟨b, o + j * 3, none⟩) (HK.out b hbm hbW)).trans e1
            have d2 := (World.cell?_of_block (a := ⟨b, o + j * 3 + 1, none⟩) (HK.out b hbm hbW)).trans e2
            have d3 := (World.cell?_of_block (a := ⟨b, o + j * 3 + 2, none⟩) (HK.out b hbm hbW)).trans e3
            have FD := fun h => Lib.hid (fillsTo_dir ns j lf h)
            have FN := fun h => Lib.hid (fillsTo_not ns j lf h)
            have FP := Lib.hid (fillsTo_pre ns (j + 1))
            clear e1 e2 e3
            generalize ns[j] = x at *
            obtain ⟨p, f, md⟩ := x
            have LM := Lib.hid (node_range (p := p) d1 d2 d3)
            have HPL := Lib.hid (show p.length ≤ 100000 from hpl)
            have LN := Lib.hid (lies_new wr 54 #[.string { data := #[] }, .int .i64 0, .int .i64 0])
            have ES := Lib.hid (setRow_alloc wr 54 #[.string { data := #[] }, .int .i64 0, .int .i64 0] #[St p, .int .i64 f, .int .i64 md])
            clear d1 d2 d3 hpl
            have x0 : (wr.alloc (.cells #[St p, .int .i64 f, .int .i64 md] 54)).cell? ⟨wr.heap.size, 0, none⟩ = some (St p) := lies_cell (lies_new wr 54 _) 0
            have x1 : (wr.alloc (.cells #[St p, .int .i64 f, .int .i64 md] 54)).cell? ⟨wr.heap.size, 1, none⟩ = some (.int .i64 f) := lies_cell (lies_new wr 54 _) 1
            have bx := Lib.hid ((Below.refl wr.heap.size wr).alloc (Nat.le_refl _) (.cells #[St p, .int .i64 f, .int .i64 md] 54))
            have hCx := cnt_same HC.out (bx.out.block W.heap.size (cnt_lt HC.out))
            have CX := Lib.hid hCx
            have JX := Lib.hid (hJ _ _ _ none HJR.out (World.grownBy_alloc wr (.cells #[St p, .int .i64 f, .int .i64 md] 54) _) (fun _ e => by cases e))
            have KX := Lib.hid (show ∀ k, k < m → k ≠ WB → (wr.alloc (.cells #[St p, .int .i64 f, .int .i64 md] 54)).heap[k]? = W.heap[k]? from fun k h1 h2 => (bx.out.block k (by have := HZ.out; omega)).trans (HK.out k h1 h2))
            have ZX := Lib.hid (show W.heap.size ≤ (wr.alloc (.cells #[St p, .int .i64 f, .int .i64 md] 54)).heap.size from Nat.le_trans HZ.out bx.out.size)
            by_cases hf : f = -1
            · have hd : isDir ⟨p, f, md⟩ = true := decide_eq_true hf
              have FD2 := Lib.hid (show fillsTo ns (j + 1) = fillsTo ns j ++ [kidsK ns p] from (FD hd).out)
              clear FD FN hd
              have LK := Lib.hid (cnt_look hCx p HPL.out)
              obtain ⟨fn, tmps, assign, body, hy, hR⟩ := hY (fillsTo ns j) (kidsK ns p) _ JX.out (by
                have h1 := FP.out.length_le
                rw [FD2.out] at h1
                simp at h1
                omega)
              dsimp only [encI] at hy
              rw [kidsK_val ns p (by have := NE.out; omega)] at hy
              have h2 := cnt_map hCx
              have MW := Lib.hid h2
              clear hCx h2
              obtain ⟨K, hKe⟩ : ∃ K, K = kidsN ns p := ⟨_, rfl⟩
              rw [← hKe] at hy
              have LK2 := Lib.hid (show (Instr.lookup 108 (.map (some W.heap.size)) (St p) false).run Try.prog (wr.alloc (.cells #[St p, .int .i64 f, .int .i64 md] 54)) = .ok (.int .i64 K) _ by rw [hKe]; exact LK.out)
              have KE := Lib.hid hKe
              clear LK hKe
              subst hf
              gi_wp2_with (first
                | (refine wpListIn_load_mid rfl 54 _ rfl b (o + j * 3) rfl [St p, .int .i64 (-1), .int .i64 md] _ LM.out Try.underlying54 rfl (by kernel_rfl) ?_)
                | (refine wpListIn_store_row rfl 54 _ _ rfl wr.heap.size #[St p, .int .i64 (-1), .int .i64 md] rfl rfl 54 _ LN.out (by kernel_rfl) rfl (by simp [Value.oneCell', St]) ?_; rw [ES.out])
                | (gi_at_lookup; refine wpListIn_lookup_eq rfl _ _ 108 rfl (.map (some W.heap.size)) (St p) (.int .i64 K) rfl rfl LK2.out ?_))
              refine hR.mono ?_
              rintro e W4 (⟨rfl, hJ4, hk4⟩ | ⟨rfl, hJx4⟩)
              · have J4 := Lib.hid (show J (fillsTo ns (j + 1)) W4 by rw [FD2.out]; exact hJ4)
                have C4 := Lib.hid (show CntAt W4 W.heap.size i (fun p => kidsN ns p) from cnt_same CX.out (by obtain ⟨o, h1, h2⟩ := MW.out; rw [hk4.2.same _ _ h1 h2, h1]))
                have KH4 := Lib.hid (show ∀ k, k < m → k ≠ WB → W4.heap[k]? = W.heap[k]? from fun k h1 h2 => (hk4.1 k h1 h2).trans (KX.out k h1 h2))
                have Z4 := Lib.hid (Nat.le_trans ZX.out hk4.2.size)
                clear hJ4 hk4
                gi_wp2
                go_roundw
                case rel => exact ⟨j + 1, by omega, by go_num, J4.out, C4.out, KH4.out, Z4.out⟩
                case measure => first | (simp [intOf]; done) | (simp [intOf]; omega)
              · gi_wp2
                refine bodyPost_ret (results_none rfl _ _ _) rfl ?_
                exact ⟨⟨_, rfl⟩, .inr ⟨_, by rw [← FD2.out]; exact FP.out, hJx4⟩⟩
            · have hd : isDir ⟨p, f, md⟩ = false := decide_eq_false hf
              have FN2 := Lib.hid (FN hd).out
              have hfb : (f == -1) = false := by simpa using hf
              clear FD FN hd hCx
              gi_wp2_with (first
                | (refine wpListIn_load_mid rfl 54 _ rfl b (o + j * 3) rfl [St p, .int .i64 f, .int .i64 md] _ LM.out Try.underlying54 rfl (by kernel_rfl) ?_)
                | (refine wpListIn_store_row rfl 54 _ _ rfl wr.heap.size #[St p, .int .i64 f, .int .i64 md] rfl rfl 54 _ LN.out (by kernel_rfl) rfl (by simp [Value.oneCell', St]) ?_; rw [ES.out]))
              refine ⟨fun _ h => (by cases h), ?_⟩
              gi_wp2
              go_roundw
              case rel => exact ⟨j + 1, by omega, by go_num, by rw [FN2.out]; exact JX.out, CX.out, KX.out, ZX.out⟩
              case measure => first | (simp [intOf]; done) | (simp [intOf]; omega)
          · have lj : ¬ (j : Int) < (n : Int) := by omega
            have HA := Lib.hid (fillsTo_all ns j (by have := NE.out; omega))
            gi_wp2
            go_end0
            exact ⟨⟨_, rfl⟩, .inl (by rw [← HA.out]; exact HJR.out)⟩
      · gi_wp2
        refine bodyPost_ret (results_none rfl _ _ _) rfl ?_
        exact ⟨⟨_, rfl⟩, .inr ⟨_, by rw [List.nil_append]; exact ⟨_, rfl⟩, hJx3⟩⟩
end Go.Proofs.Ytjagddhkoacipaa

/-
What is proved here: whole numbers below 2^53 in float64 are exact: their sums, products, comparisons, cutting towards zero and reading as int are those of the whole numbers. No condition but the bounds that each theorem names.
-/
namespace Go.Fl
open Ieee

/-- the float64 of a whole number -/
def fl (n : Int) : Nat := floatOfInt .f64 n

theorem cut_mul (way : Toward) (neg : Bool) (a k : Nat) : way.cut neg (a * 2 ^ k) k = a := by
  unfold Toward.cut
  by_cases ha : a = 0
  · subst ha
    cases way <;> simp
  · have hp : 0 < 2 ^ k := Nat.two_pow_pos k
    have hl : k ≤ (a * 2 ^ k).log2 + 2 := by
      have : k ≤ (a * 2 ^ k).log2 := by
        rw [Nat.le_log2 (by have := Nat.mul_ne_zero ha (Nat.ne_of_gt hp); exact this)]
        exact Nat.le_mul_of_pos_left _ (Nat.pos_of_ne_zero ha)
      omega
    rw [Nat.min_eq_left hl, Nat.one_shiftLeft]
    have h1 : a * 2 ^ k / 2 ^ k = a := Nat.mul_div_cancel _ hp
    have h2 : a * 2 ^ k % 2 ^ k = 0 := Nat.mul_mod_left _ _
    simp only [h1, h2]
    cases way <;> simp

theorem log2_mul_pow (a k : Nat) (ha : a ≠ 0) : (a * 2 ^ k).log2 = a.log2 + k := by
  have hp : 2 ^ k ≠ 0 := Nat.ne_of_gt (Nat.two_pow_pos k)
  have hne : a * 2 ^ k ≠ 0 := Nat.mul_ne_zero ha hp
  refine (Nat.log2_eq_iff hne).2 ⟨?_, ?_⟩
  · rw [Nat.pow_add]; exact Nat.mul_le_mul_right _ (Nat.log2_self_le ha)
  · have := Nat.lt_log2_self (n := a)
    rw [show a.log2 + k + 1 = (a.log2 + 1) + k by omega, Nat.pow_add]
    exact Nat.mul_lt_mul_of_pos_right this (Nat.two_pow_pos k)

theorem log2_lt53 {a : Nat} (h : a < 2 ^ 53) (ha : a ≠ 0) : a.log2 ≤ 52 := by
  have := (Nat.log2_lt ha (k := 53)).2 h
  omega

/-- rung of a positive whole number below 2^53 -/
def rung (a : Nat) : Nat := (a.log2 + 1022) * 2 ^ 52 + a * 2 ^ (52 - a.log2)

theorem kept_bd {a : Nat} (ha : a ≠ 0) (h : a < 2 ^ 53) : 2 ^ 52 ≤ a * 2 ^ (52 - a.log2) ∧ a * 2 ^ (52 - a.log2) < 2 ^ 53 := by
  have hl := log2_lt53 h ha
  constructor
  · have := Nat.mul_le_mul_right (2 ^ (52 - a.log2)) (Nat.log2_self_le ha)
    rw [← Nat.pow_add, show a.log2 + (52 - a.log2) = 52 by omega] at this
    exact this
  · have := Nat.mul_lt_mul_of_pos_right (Nat.lt_log2_self (n := a)) (Nat.two_pow_pos (52 - a.log2))
    rw [← Nat.pow_add, show a.log2 + 1 + (52 - a.log2) = 53 by omega] at this
    exact this

theorem bnd_gen (l m B : Nat) (hl : l ≤ 52) (hm : m < 2 * B) : (l + 1022) * B + m ≤ 2047 * B := by
  have : (l + 1022) * B ≤ 1074 * B := Nat.mul_le_mul_right _ (by omega)
  omega
theorem bnd (l m : Nat) (hl : l ≤ 52) (hm : m < 2 ^ 53) : (l + 1022) * 2 ^ 52 + m ≤ 2047 * 2 ^ 52 := bnd_gen l m _ hl (by rw [show 2 * 2 ^ 52 = 2 ^ 53 from rfl]; exact hm)
theorem split_gen (l m B : Nat) (h1 : B ≤ m) (h2 : m < 2 * B) : ((l + 1022) * B + m) / B = l + 1023 ∧ ((l + 1022) * B + m) % B = m - B := by
  have e : (l + 1022) * B + m = (m - B) + (l + 1023) * B := by
    rw [Nat.add_mul l 1023, Nat.add_mul l 1022]; omega
  have hB : 0 < B := by omega
  rw [e, Nat.add_mul_div_right _ _ hB, Nat.add_mul_mod_self_right, Nat.mod_eq_of_lt (by omega), Nat.div_eq_of_lt (by omega)]
  exact ⟨by omega, rfl⟩
theorem split (l m : Nat) (h1 : 2 ^ 52 ≤ m) (h2 : m < 2 ^ 53) : ((l + 1022) * 2 ^ 52 + m) / 2 ^ 52 = l + 1023 ∧ ((l + 1022) * 2 ^ 52 + m) % 2 ^ 52 = m - 2 ^ 52 := split_gen l m _ h1 (by rw [show 2 * 2 ^ 52 = 2 ^ 53 from rfl]; exact h2)

theorem near (neg : Bool) (a k : Nat) (ha : a ≠ 0) (h : a < 2 ^ 53) : double.nearest neg (a * 2 ^ k) (-(k : Int)) = double.word neg (rung a) := by
  have hl := log2_lt53 h ha
  have hp : 2 ^ k ≠ 0 := Nat.ne_of_gt (Nat.two_pow_pos k)
  have hne : a * 2 ^ k ≠ 0 := Nat.mul_ne_zero ha hp
  have hb := kept_bd ha h
  unfold Format.nearest
  rw [if_neg hne, log2_mul_pow a k ha]
  have hlast : max (-(k : Int) + ((a.log2 + k : Nat) : Int) - ((double.fractionBits : Nat) : Int)) double.leastPlace = (a.log2 : Int) - 52 := by
    have h1 : double.leastPlace = -1074 := by decide
    have h2 : double.fractionBits = 52 := rfl
    rw [h1, h2]; omega
  simp only [hlast]
  have hk : Toward.even.cut neg ((a * 2 ^ k) <<< (-(k : Int) - ((a.log2 : Int) - 52)).toNat) ((a.log2 : Int) - 52 - -(k : Int)).toNat = a * 2 ^ (52 - a.log2) := by
    by_cases hc : 52 - a.log2 ≤ k
    · have e1 : (-(k : Int) - ((a.log2 : Int) - 52)).toNat = 0 := by omega
      have e2 : ((a.log2 : Int) - 52 - -(k : Int)).toNat = k - (52 - a.log2) := by omega
      rw [e1, e2, Nat.shiftLeft_zero]
      have e3 : a * 2 ^ k = (a * 2 ^ (52 - a.log2)) * 2 ^ (k - (52 - a.log2)) := by
        rw [Nat.mul_assoc, ← Nat.pow_add]; congr 2; omega
      rw [e3]
      exact cut_mul _ _ _ _
    · have e1 : (-(k : Int) - ((a.log2 : Int) - 52)).toNat = 52 - a.log2 - k := by omega
      have e2 : ((a.log2 : Int) - 52 - -(k : Int)).toNat = 0 := by omega
      rw [e1, e2, Nat.shiftLeft_eq]
      have e3 : a * 2 ^ k * 2 ^ (52 - a.log2 - k) = a * 2 ^ (52 - a.log2) := by
        rw [Nat.mul_assoc, ← Nat.pow_add]; congr 2; omega
      rw [e3]
      have := cut_mul .even neg (a * 2 ^ (52 - a.log2)) 0
      simpa using this
  rw [hk]
  congr 1
  have h1 : double.leastPlace = -1074 := by decide
  have h2 : double.binade = 2 ^ 52 := rfl
  have h3 : double.infRung = 2047 * 2 ^ 52 := by decide
  rw [h1, h2, h3]
  have e : ((a.log2 : Int) - 52 - -1074).toNat = a.log2 + 1022 := by omega
  rw [e]
  unfold rung
  refine Nat.min_eq_left ?_
  exact bnd _ _ hl hb.2

theorem near_zero (neg : Bool) (p : Int) : double.nearest neg 0 p = double.word neg 0 := by
  simp [Format.nearest]

theorem rung_bd {a : Nat} (ha : a ≠ 0) (h : a < 2 ^ 53) : rung a < 2 ^ 63 := by
  have hl := log2_lt53 h ha
  have hb := kept_bd ha h
  unfold rung
  have : (a.log2 + 1022) * 2 ^ 52 ≤ 1074 * 2 ^ 52 := Nat.mul_le_mul_right _ (by omega)
  omega

theorem read_word_zero (neg : Bool) : double.read (double.word neg 0) = .number neg 0 (-1074) := by
  cases neg <;> decide +kernel

theorem zero_num (neg : Bool) (k : Nat) (hk : k = 1074) : Datum.number neg 0 (-1074) = .number neg (0 * 2 ^ k) (-(k : Int)) := by
  rw [Nat.zero_mul, hk]; rfl
theorem read_nought (neg : Bool) : ∃ k : Nat, double.read (double.word neg 0) = .number neg (0 * 2 ^ k) (-(k : Int)) := by
  obtain ⟨k, hk⟩ : ∃ k : Nat, k = 1074 := ⟨_, rfl⟩
  exact ⟨k, (read_word_zero neg).trans (zero_num neg k hk)⟩

theorem read_word (neg : Bool) {a : Nat} (ha : a ≠ 0) (h : a < 2 ^ 53) : double.read (double.word neg (rung a)) = .number neg (a * 2 ^ (52 - a.log2)) (-((52 - a.log2 : Nat) : Int)) := by
  have hr := rung_bd ha h
  have hb := kept_bd ha h
  have hl := log2_lt53 h ha
  have hs : double.signWeight = 2 ^ 63 := rfl
  have hw : double.word neg (rung a) / double.signWeight % 2 = neg.toNat ∧ double.word neg (rung a) % double.signWeight = rung a := by
    unfold Format.word
    rw [hs]
    cases neg
    · simp; omega
    · simp; omega
  unfold Format.read
  simp only [hw.1, hw.2]
  have hbin : double.binade = 2 ^ 52 := rfl
  have hinf : double.infRung = 2047 * 2 ^ 52 := by decide
  have hle : double.leastPlace = -1074 := by decide
  obtain ⟨hd, hm⟩ : rung a / 2 ^ 52 = a.log2 + 1023 ∧ rung a % 2 ^ 52 = a * 2 ^ (52 - a.log2) - 2 ^ 52 := split _ _ hb.1 hb.2
  rw [hbin, hinf, hle, hd, hm]
  have n1 : ¬ rung a < 2 ^ 52 := by
    intro hh; have := Nat.div_eq_of_lt hh; omega
  have n2 : rung a < 2047 * 2 ^ 52 := by
    rw [← Nat.div_lt_iff_lt_mul (by decide : 0 < 2 ^ 52), hd]; omega
  rw [if_neg n1, if_pos n2]
  have e1 : (neg.toNat == 1) = neg := by cases neg <;> rfl
  rw [e1]
  have e2 : (-1074 : Int) + ((a.log2 + 1023 - 1 : Nat) : Int) = -((52 - a.log2 : Nat) : Int) := by omega
  rw [e2, Nat.add_sub_cancel' hb.1]

/-- 'x' is a float64 that stands for the whole number n: n itself, exactly; the sign of a nought is open. -/
def Rep (x : Nat) (n : Int) : Prop := ∃ (s : Bool) (k : Nat), double.read x = .number s (n.natAbs * 2 ^ k) (-(k : Int)) ∧ (n ≠ 0 → s = decide (n < 0))

theorem rep_word (neg : Bool) (a : Nat) (h : a < 2 ^ 53) (n : Int) (hn : n.natAbs = a) (hs : n ≠ 0 → neg = decide (n < 0)) (k : Nat) : Rep (double.nearest neg (a * 2 ^ k) (-(k : Int))) n := by
  by_cases ha : a = 0
  · subst ha
    rw [Nat.zero_mul, near_zero]
    obtain ⟨k, hk⟩ := read_nought neg
    exact ⟨neg, k, by rw [hk, hn], hs⟩
  · rw [near neg a k ha h]
    exact ⟨neg, 52 - a.log2, by rw [read_word neg ha h, hn], hs⟩

theorem rep_fl {n : Int} (h : n.natAbs < 2 ^ 53) : Rep (fl n) n := by
  have := rep_word (decide (n < 0)) n.natAbs h n rfl (fun _ => rfl) 0
  rw [Nat.pow_zero, Nat.mul_one] at this
  exact this

/-- what is written of a whole number, however scaled, is its float -/
theorem near_fl {n : Int} (h : n.natAbs < 2 ^ 53) (s : Bool) (hs : s = decide (n < 0)) (k : Nat) : double.nearest s (n.natAbs * 2 ^ k) (-(k : Int)) = fl n := by
  subst hs
  have e : fl n = double.nearest (decide (n < 0)) (n.natAbs * 2 ^ 0) (-((0 : Nat) : Int)) := by
    rw [Nat.pow_zero, Nat.mul_one]; rfl
  rw [e]
  by_cases ha : n.natAbs = 0
  · rw [ha, Nat.zero_mul, Nat.zero_mul, near_zero, near_zero]
  · rw [near _ _ k ha h, near _ _ 0 ha h]

theorem signed_eq (s : Bool) (a k l : Nat) : signed s (a * 2 ^ k) l = (if s then -(a : Int) else (a : Int)) * ((2 ^ (k + l) : Nat) : Int) := by
  unfold signed
  rw [Nat.shiftLeft_eq, Nat.mul_assoc, ← Nat.pow_add]
  cases s
  · simp
  · simp [Int.neg_mul]

theorem sign_val {s : Bool} {n : Int} (hs : n ≠ 0 → s = decide (n < 0)) : (if s then -(n.natAbs : Int) else (n.natAbs : Int)) = n := by
  by_cases h : n = 0
  · subst h; simp
  · rw [hs h]
    by_cases hn : n < 0
    · simp [hn]; omega
    · simp [hn]; omega


theorem some_lt {s : Bool} {n : Int} {p : Nat} (h : n ≠ 0) (hs : s = if n * ((2 ^ p : Nat) : Int) = 0 then true else decide (n * ((2 ^ p : Nat) : Int) < 0)) : s = decide (n < 0) := by
  have hp : (0 : Int) < ((2 ^ p : Nat) : Int) := by have := Nat.two_pow_pos p; omega
  rw [hs, if_neg (Int.mul_ne_zero h (by omega))]
  congr 1
  apply propext
  constructor
  · intro h
    by_cases hc : n < 0
    · exact hc
    · have := Int.mul_nonneg (a := n) (b := ((2 ^ p : Nat) : Int)) (by omega) (by omega)
      omega
  · intro h
    exact Int.mul_neg_of_neg_of_pos h hp

/-- the sum of two data that stand for whole numbers -/
theorem sum_rep {s t : Bool} {k l : Nat} {a b : Int} (hs : a ≠ 0 → s = decide (a < 0)) (ht : b ≠ 0 → t = decide (b < 0)) :
    ∃ u : Bool, (Datum.number s (a.natAbs * 2 ^ k) (-(k : Int))).sum (.number t (b.natAbs * 2 ^ l) (-(l : Int))) = some (.number u ((a + b).natAbs * 2 ^ (max k l)) (-((max k l : Nat) : Int))) ∧ (a + b ≠ 0 → u = decide (a + b < 0)) ∧ (a + b = 0 → u = (s && t)) := by
  simp only [Datum.sum]
  have hb : min (-(k : Int)) (-(l : Int)) = -((max k l : Nat) : Int) := by omega
  rw [hb]
  have e1 : (-(k : Int) - -((max k l : Nat) : Int)).toNat = max k l - k := by omega
  have e2 : (-(l : Int) - -((max k l : Nat) : Int)).toNat = max k l - l := by omega
  rw [e1, e2, signed_eq, signed_eq, sign_val hs, sign_val ht]
  have e3 : k + (max k l - k) = max k l := by omega
  have e4 : l + (max k l - l) = max k l := by omega
  rw [e3, e4, ← Int.add_mul, Int.natAbs_mul, Int.natAbs_natCast]
  refine ⟨_, rfl, fun h => ?_, fun h => ?_⟩
  · have hp : (0 : Int) < ((2 ^ max k l : Nat) : Int) := by have := Nat.two_pow_pos (max k l); omega
    rw [if_neg (Int.mul_ne_zero h (by omega))]
    congr 1
    apply propext
    constructor
    · intro h
      by_cases hc : a + b < 0
      · exact hc
      · have := Int.mul_nonneg (a := a + b) (b := ((2 ^ max k l : Nat) : Int)) (by omega) (by omega)
        omega
    · intro h
      exact Int.mul_neg_of_neg_of_pos h hp
  · rw [h, Int.zero_mul, if_pos rfl]

/-- '+' of whole numbers -/
theorem add_rep {x y : Nat} {a b : Int} (hx : Rep x a) (hy : Rep y b) (h : (a + b).natAbs < 2 ^ 53) : ∃ z, floatBits .add .f64 x y = some z ∧ Rep z (a + b) := by
  obtain ⟨s, k, hx, hs⟩ := hx
  obtain ⟨t, l, hy, ht⟩ := hy
  obtain ⟨u, he, hu, _⟩ := sum_rep (k := k) (l := l) hs ht
  have e : floatBits .add .f64 x y = some (double.nearest u ((a + b).natAbs * 2 ^ (max k l)) (-((max k l : Nat) : Int))) := by
    show ((double.read x).sum (double.read y)).map double.write = _
    rw [hx, hy, he]; rfl
  exact ⟨_, e, rep_word u _ h _ rfl hu _⟩

/-- '+ 0': the plain float -/
theorem add_zero {x : Nat} {a : Int} (hx : Rep x a) (h : a.natAbs < 2 ^ 53) : floatBits .add .f64 x 0 = some (fl a) := by
  obtain ⟨s, k, hx, hs⟩ := hx
  obtain ⟨l, h0⟩ : ∃ l : Nat, double.read 0 = .number false ((0 : Int).natAbs * 2 ^ l) (-(l : Int)) := read_nought false
  obtain ⟨u, he, hu, hz⟩ := sum_rep (k := k) (l := l) hs (b := 0) (t := false) (fun h => absurd rfl h)
  rw [Int.add_zero] at he hu hz
  have e : floatBits .add .f64 x 0 = some (double.nearest u (a.natAbs * 2 ^ (max k l)) (-((max k l : Nat) : Int))) := by
    show ((double.read x).sum (double.read 0)).map double.write = _
    rw [hx, h0, he]; rfl
  rw [e]
  refine congrArg some (near_fl h u ?_ _)
  by_cases h0 : a = 0
  · rw [hz h0, h0]; simp
  · exact hu h0

theorem opp_rep {y : Nat} {b : Int} (hy : Rep y b) : ∃ (t : Bool) (l : Nat), (double.read y).opposite = .number t ((-b).natAbs * 2 ^ l) (-(l : Int)) ∧ (-b ≠ 0 → t = decide (-b < 0)) := by
  obtain ⟨t, l, hy, ht⟩ := hy
  refine ⟨!t, l, by rw [hy, Int.natAbs_neg]; rfl, fun h => ?_⟩
  rw [ht (by omega)]
  by_cases hc : b < 0
  · have : ¬ 0 < b := by omega
    simp [hc]; omega
  · have : 0 < b := by omega
    simp [hc]; omega

theorem sub_rep {x y : Nat} {a b : Int} (hx : Rep x a) (hy : Rep y b) (h : (a - b).natAbs < 2 ^ 53) : ∃ z, floatBits .sub .f64 x y = some z ∧ Rep z (a - b) := by
  obtain ⟨t, l, hy, ht⟩ := opp_rep hy
  obtain ⟨s, k, hx, hs⟩ := hx
  obtain ⟨u, he, hu, _⟩ := sum_rep (k := k) (l := l) hs ht
  have e : floatBits .sub .f64 x y = some (double.nearest u ((a + -b).natAbs * 2 ^ (max k l)) (-((max k l : Nat) : Int))) := by
    show ((double.read x).sum (double.read y).opposite).map double.write = _
    rw [hx, hy, he]; rfl
  exact ⟨_, e, rep_word u _ (by rw [← Int.sub_eq_add_neg]; exact h) _ rfl hu _⟩

theorem mul_rep {x y : Nat} {a b : Int} (hx : Rep x a) (hy : Rep y b) (h : (a * b).natAbs < 2 ^ 53) : ∃ z, floatBits .mul .f64 x y = some z ∧ Rep z (a * b) := by
  obtain ⟨s, k, hx, hs⟩ := hx
  obtain ⟨t, l, hy, ht⟩ := hy
  have he : (Datum.number s (a.natAbs * 2 ^ k) (-(k : Int))).product (.number t (b.natAbs * 2 ^ l) (-(l : Int))) = some (.number (s ^^ t) ((a * b).natAbs * 2 ^ (k + l)) (-((k + l : Nat) : Int))) := by
    simp only [Datum.product]
    congr 2
    · rw [Int.natAbs_mul, Nat.pow_add, Nat.mul_mul_mul_comm]
    · omega
  have e : floatBits .mul .f64 x y = some (double.nearest (s ^^ t) ((a * b).natAbs * 2 ^ (k + l)) (-((k + l : Nat) : Int))) := by
    show ((double.read x).product (double.read y)).map double.write = _
    rw [hx, hy, he]; rfl
  refine ⟨_, e, rep_word _ _ h _ rfl (fun hne => ?_) _⟩
  have ha : a ≠ 0 := by intro h0; subst h0; simp at hne
  have hb : b ≠ 0 := by intro h0; subst h0; simp at hne
  rw [hs ha, ht hb]
  rcases Int.lt_or_gt_of_ne ha with h1 | h1 <;> rcases Int.lt_or_gt_of_ne hb with h2 | h2
  · have := Int.mul_pos_of_neg_of_neg h1 h2
    have e : ¬ a * b < 0 := by omega
    simp [h1, h2, e]
  · have := Int.mul_neg_of_neg_of_pos h1 h2
    have e : ¬ b < 0 := by omega
    simp [h1, e, this]
  · have := Int.mul_neg_of_pos_of_neg h1 h2
    have e : ¬ a < 0 := by omega
    simp [h2, e, this]
  · have := Int.mul_pos h1 h2
    have e : ¬ a * b < 0 := by omega
    have e1 : ¬ b < 0 := by omega
    have e2 : ¬ a < 0 := by omega
    simp [e, e1, e2]

theorem order_rep {x y : Nat} {a b : Int} (hx : Rep x a) (hy : Rep y b) : FloatKind.f64.format.order x y = some (compare a b) := by
  obtain ⟨s, k, hx, hs⟩ := hx
  obtain ⟨t, l, hy, ht⟩ := hy
  show (double.read x).order (double.read y) = _
  rw [hx, hy]
  simp only [Datum.order]
  have hb : min (-(k : Int)) (-(l : Int)) = -((max k l : Nat) : Int) := by omega
  rw [hb]
  have e1 : (-(k : Int) - -((max k l : Nat) : Int)).toNat = max k l - k := by omega
  have e2 : (-(l : Int) - -((max k l : Nat) : Int)).toNat = max k l - l := by omega
  rw [e1, e2, signed_eq, signed_eq, sign_val hs, sign_val ht]
  have e3 : k + (max k l - k) = max k l := by omega
  have e4 : l + (max k l - l) = max k l := by omega
  rw [e3, e4]
  have hp : (0 : Int) < ((2 ^ max k l : Nat) : Int) := by have := Nat.two_pow_pos (max k l); omega
  congr 1
  rcases Int.lt_trichotomy a b with h | h | h
  · have h2 := Int.mul_lt_mul_of_pos_right h hp
    rw [Int.compare_eq_lt.2 h, Int.compare_eq_lt.2 h2]
  · subst h; simp
  · have h2 := Int.mul_lt_mul_of_pos_right h hp
    rw [Int.compare_eq_gt.2 h, Int.compare_eq_gt.2 h2]

/-- cut towards zero: the same number -/
theorem trunc_rep {x : Nat} {a : Int} (hx : Rep x a) (h : a.natAbs < 2 ^ 53) : ∃ z, double.write ((double.read x).integral .zero) = z ∧ Rep z a := by
  obtain ⟨s, k, hx, hs⟩ := hx
  have e : (double.read x).integral .zero = .number s (a.natAbs * 2 ^ 0) (-((0 : Nat) : Int)) := by
    rw [hx]
    simp only [Datum.integral]
    have e1 : (-(k : Int)).toNat = 0 := by omega
    have e2 : (- -(k : Int)).toNat = k := by omega
    rw [e1, e2, Nat.shiftLeft_zero, cut_mul, Nat.pow_zero, Nat.mul_one]; rfl
  rw [e]
  exact ⟨_, rfl, rep_word s _ h _ rfl hs 0⟩

/-- read as an int: the number -/
theorem toInt_rep {x : Nat} {a : Int} (hx : Rep x a) (h1 : -(2 ^ 63) ≤ a) (h2 : a < 2 ^ 63) : floatToIntVal .f64 x .i64 = some a := by
  obtain ⟨s, k, hx, hs⟩ := hx
  have e : (FloatKind.f64.decode x).toInt .zero = some a := by
    show (double.read x).toInt .zero = _
    rw [hx]
    simp only [Datum.toInt, Datum.integral]
    have e1 : (-(k : Int)).toNat = 0 := by omega
    have e2 : (- -(k : Int)).toNat = k := by omega
    rw [e1, e2, Nat.shiftLeft_zero, cut_mul]
    have := signed_eq s a.natAbs 0 0
    rw [Nat.pow_zero, Nat.mul_one, sign_val hs] at this
    rw [this]; simp
  unfold floatToIntVal
  rw [e]
  have m1 : IntKind.i64.min = -(2 ^ 63) := by decide
  have m2 : IntKind.i64.max = 2 ^ 63 - 1 := by decide
  simp only [m1, m2]
  rw [if_pos ⟨h1, by omega⟩]
end Go.Fl

/-
What is proved here: how many parts so many things fill; the toll of one inode; complex sums of whole numbers.
-/
set_option linter.unusedSimpArgs false
namespace Go.Proofs.Ytjagddhkoacipaa
open Go.Pth Go.Tre Go.RowKit Go.Word Go.Fl

theorem parts_any (t s : Nat) (ht : t ≤ 1000000) (hs1 : 1 ≤ s) (hs2 : s ≤ 1000) (w : World) : Calls Try.prog 61 #[.int .i64 (t : Int), .int .i64 (s : Int)] w fun e w' => e = .returned (.int .i64 (((t + s - 1) / s : Nat) : Int)) ∧ w = w' := by
  have h0 : (s : Int) ≠ 0 := by omega
  have e : ((t : Int) + s - 1) / (s : Int) = (((t + s - 1) / s : Nat) : Int) := by
    rw [Int.natCast_ediv]
    congr 1
    omega
  have E := Lib.hid e
  clear e
  go_enter Try.func61, Try.ntmps61
  go_wp2
  go_ret
  exact ⟨congrArg (fun z => Ending.returned (.int .i64 z)) E.out, rfl⟩
theorem inode_any (b : Int) (w : World) : Calls Try.prog 60 #[.int .i64 b] w fun e w' => e = .returned (.complex .f64 (fl b) 4607182418800017408) ∧ w = w' := by
  go_enter Try.func60, Try.ntmps60
  go_wp2
  go_ret
  exact ⟨rfl, rfl⟩
theorem rep_one : Rep 4607182418800017408 1 := ⟨false, 52, by decide +kernel, by decide⟩
theorem rep_zero : Rep 0 0 := ⟨false, 1074, by decide +kernel, by decide⟩
theorem cadd {x y a b : Nat} {X Y A B : Int} (hx : Rep x X) (hy : Rep y Y) (ha : Rep a A) (hb : Rep b B) (h1 : (X + A).natAbs < 2 ^ 53) (h2 : (Y + B).natAbs < 2 ^ 53) :
    ∃ x' y', Rep x' (X + A) ∧ Rep y' (Y + B) ∧ ∀ t w, (binOp .add t (.complex .f64 x y) (.complex .f64 a b)).run Try.prog w = .ok (.complex .f64 x' y') w := by
  obtain ⟨x', e1, r1⟩ := add_rep hx ha h1
  obtain ⟨y', e2, r2⟩ := add_rep hy hb h2
  exact ⟨x', y', r1, r2, fun t w => run_complex_sum w .add (Or.inl rfl) t .f64 x y a b _ _ (by simp [cSumBits, e1, e2])⟩
end Go.Proofs.Ytjagddhkoacipaa
