/-
What is proved here: the function value that goes over the fills of a tree's directories, for every loop body that keeps what lay below but one block, and the maps.
-/
import Derived.Test.YtdnagkgblmcojaaIns
import Derived.Test.YtdnagkgblmcojaaChk
set_option linter.unusedSimpArgs false
namespace Go.Tre
open Go.Pth
/-- how many nodes a directory has in it -/
def kidsN (ns : List Nd) (p : Bt) : Int := ((ns.filter fun x => decide (upP x.path = p)).length : Int)
abbrev K256 := { x : Int // 0 ≤ x ∧ x ≤ 256 }
def kidsK (ns : List Nd) (p : Bt) : K256 := ⟨min (kidsN ns p) 256, by unfold kidsN; omega⟩
def isDir (x : Nd) : Bool := decide (x.file = -1)
/-- what has come when i nodes are over -/
def fillsTo (ns : List Nd) (i : Nat) : List K256 := kidsK ns [] :: ((ns.take i).filter isDir).map fun x => kidsK ns x.path
def fillsL (ns : List Nd) : List K256 := kidsK ns [] :: (ns.filter isDir).map fun x => kidsK ns x.path
theorem fillsTo_all (ns : List Nd) (i : Nat) (h : ns.length ≤ i) : fillsTo ns i = fillsL ns := by unfold fillsTo fillsL; rw [List.take_of_length_le h]
theorem fillsTo_dir (ns : List Nd) (i : Nat) (h : i < ns.length) (hd : isDir ns[i] = true) : fillsTo ns (i + 1) = fillsTo ns i ++ [kidsK ns ns[i].path] := by
  unfold fillsTo
  rw [List.take_succ_eq_append_getElem h, List.filter_append, List.map_append]
  simp [hd]
theorem fillsTo_not (ns : List Nd) (i : Nat) (h : i < ns.length) (hd : isDir ns[i] = false) : fillsTo ns (i + 1) = fillsTo ns i := by
  unfold fillsTo
  rw [List.take_succ_eq_append_getElem h, List.filter_append, List.map_append]
  simp [hd]
theorem fillsTo_pre (ns : List Nd) (i : Nat) : fillsTo ns i <+: fillsL ns := by
  unfold fillsTo fillsL
  refine (List.cons_prefix_cons).2 ⟨rfl, ?_⟩
  exact ((List.take_prefix i ns).filter _).map _
theorem kidsN_take (ns : List Nd) (i : Nat) (h : i < ns.length) (p : Bt) : kidsN (ns.take (i + 1)) p = if p = upP ns[i].path then kidsN (ns.take i) p + 1 else kidsN (ns.take i) p := by
  unfold kidsN
  rw [List.take_succ_eq_append_getElem h, List.filter_append, List.length_append]
  by_cases e : upP ns[i].path = p
  · rw [if_pos e.symm]; simp [e]
  · rw [if_neg (fun e' => e e'.symm)]; simp [e]
theorem kidsN_bd (ns : List Nd) (p : Bt) : 0 ≤ kidsN ns p ∧ kidsN ns p ≤ ns.length := by
  unfold kidsN
  have := List.length_filter_le (fun x : Nd => decide (upP x.path = p)) ns
  omega
theorem kidsK_val (ns : List Nd) (p : Bt) (h : ns.length ≤ 256) : (kidsK ns p).1 = kidsN ns p := by
  have := kidsN_bd ns p
  show min (kidsN ns p) 256 = kidsN ns p
  omega
end Go.Tre
namespace Go.Proofs.Ytdnagkgblmcojaa
open Go.Pth Go.Tre Go.RowKit Go.Word Go.Shelf
attribute [local go_sem] Oper.semAt_some

def encI (k : K256) : Array Value := #[.int .i64 k.1]
/-- what a round keeps -/
def KW (m WB : Nat) (A B : World) : Prop := (∀ i, i < m → i ≠ WB → B.heap[i]? = A.heap[i]?) ∧ KeepsWalks A B
theorem kw_t {m WB : Nat} {A B C : World} (h : KW m WB A B) (k : KW m WB B C) : KW m WB A C := ⟨fun i h1 h2 => (k.1 i h1 h2).trans (h.1 i h1 h2), h.2.trans k.2⟩
theorem kw_b {m WB : Nat} {w : World} (hB : m ≤ w.heap.size) (W : World) (l : Nat) (o o' : Obj) (hl : w.heap.size ≤ l) (h : W.heap[l]? = some o) (_ : o.isCells = false) (hw : o.isWalk = false) : KW m WB W (W.putObj l o') :=
  ⟨fun i hi _ => World.putObj_heap_other (by omega), KeepsWalks.putObj _ h hw⟩
/-- nodes in a slice that lies below m, and not in block WB -/
def NodesIn (w : World) (m WB : Nat) (A : Option Addr) (ns : List Nd) : Prop := ∀ i (h : i < ns.length), ∃ b o, A = some ⟨b, o, none⟩ ∧ b < m ∧ b ≠ WB ∧
  w.cell? ⟨b, o + i * 3, none⟩ = some (St ns[i].path) ∧ w.cell? ⟨b, o + i * 3 + 1, none⟩ = some (.int .i64 ns[i].file) ∧ w.cell? ⟨b, o + i * 3 + 2, none⟩ = some (.int .i64 ns[i].mode)

theorem wf_i64 {z : Int} (h1 : -9223372036854775808 ≤ z) (h2 : z ≤ 9223372036854775807) : (Lit.int .i64 z).wf = true := by
  have e1 : IntKind.i64.min = -9223372036854775808 := by decide
  have e2 : IntKind.i64.max = 9223372036854775807 := by decide
  simp only [Lit.wf, Bool.and_eq_true, decide_eq_true_eq, e1, e2]
  exact ⟨h1, h2⟩
set_option maxRecDepth 100000 in
set_option maxHeartbeats 4000000 in
theorem fills_stops (nn : Nat) (hnn : 1 ≤ nn) (ns : List Nd) (hn : ns.length ≤ 256) (hp : ∀ x ∈ ns, x.path.length ≤ 100000) (Bs m WB : Nat) (NA : Option Addr) (nc : Nat) (w : World) (hBs : Bs < m) (hBW : Bs ≠ WB) (hm : m ≤ w.heap.size)
    (hb : w.cell? ⟨Bs, 0, none⟩ = some (.slice NA ns.length nc)) (hN : NodesIn w m WB NA ns) :
    SeqStopsK .wide nn Try.prog 62 #[.pointer (some ⟨Bs, 0, none⟩)] encI (KW m WB) (fun ys => ys = fillsL ns) (fun pre => pre <+: fillsL ns) (fillsL ns).length w := fun lp J Jx W hW hJ _ hY h0 => by
  have hmm := @run_makeMap Try.prog
  have cB0 := (hW.cell (p := ⟨Bs, 0, none⟩) (by show Bs < _; omega)).trans hb
  have hmW : m ≤ W.heap.size := Nat.le_trans hm hW.size
  obtain ⟨n, hne⟩ : ∃ n, n = ns.length := ⟨_, rfl⟩
  rw [← hne] at hn cB0
  have NE := Lib.hid hne
  have HP := Lib.hid hp
  have HN := Lib.hid (show NodesIn W m WB NA ns from fun i hi => by
    obtain ⟨b, o, e, h1, h2, d1, d2, d3⟩ := hN i hi
    have hbw : b < w.heap.size := Nat.lt_of_lt_of_le h1 hm
    exact ⟨b, o, e, h1, h2, (hW.cell (p := ⟨b, o + i * 3, none⟩) hbw).trans d1, (hW.cell (p := ⟨b, o + i * 3 + 1, none⟩) hbw).trans d2, (hW.cell (p := ⟨b, o + i * 3 + 2, none⟩) hbw).trans d3⟩)
  clear hb hne hp hN
  have CB := Lib.hid cB0
  refine callsIn_of_wp Try.func62 rfl trivial ?_ rfl
  simp only [Try.ntmps62, List.size_toArray, List.length_cons, List.length_nil, Nat.reduceAdd, Nat.reduceSub, Array.replicate_succ, Array.replicate_zero, List.push_toArray, List.append_toArray, List.nil_append, List.cons_append]
  have cB1 : (W.alloc (.map #[] 0)).cell? ⟨Bs, 0, none⟩ = some (.slice NA n nc) := (((Below.refl W.heap.size W).alloc (Nat.le_refl _) (.map #[] 0)).cell (p := ⟨Bs, 0, none⟩) (by show Bs < _; omega)).trans cB0
  gi_wp2
  gi_loopw [12] (fun v12 wr => ∃ i : Nat, i ≤ n ∧ v12 = .int .i64 (i : Int) ∧ CntAt wr W.heap.size i (fun p => kidsN (ns.take i) p) ∧ J [] wr ∧ Below W.heap.size W wr) (fun v12 _ => n - (intOf v12).toNat)
  case atStart => exact ⟨0, Nat.zero_le _, rfl, by simpa [kidsN] using cnt_made W, hJ _ _ _ none h0 (World.grownBy_alloc W _ none) (fun _ e => by cases e), (Below.refl _ _).alloc (Nat.le_refl _) _⟩
  case round =>
    obtain ⟨i, hi, rfl, hC, hJr, hB⟩ := hrel
    have HB := Lib.hid hB
    clear cB0 cB1
    by_cases hlt : i < n
    · have li : (i : Int) < (n : Int) := by omega
      have lf : i < ns.length := by have := NE.out; omega
      obtain ⟨b, o, eA, hbm, hbW, e1, e2, e3⟩ := HN.out i lf
      have hpl := HP.out ns[i] (List.getElem_mem _)
      subst eA
      have hbW2 : b < W.heap.size := by omega
      have KT := Lib.hid (kidsN_take ns i lf)
      have d1 := (hB.cell (p := ⟨b, o + i * 3, none⟩) hbW2).trans e1
      have d2 := (hB.cell (p := ⟨b, o + i * 3 + 1, none⟩) hbW2).trans e2
      have d3 := (hB.cell (p := ⟨b, o + i * 3 + 2, none⟩) hbW2).trans e3
      clear e1 e2 e3
      generalize ns[i] = x at *
      obtain ⟨p, f, md⟩ := x
      have LM := Lib.hid (node_range (p := p) d1 d2 d3)
      have HPL := Lib.hid (show p.length ≤ 100000 from hpl)
      have LN := Lib.hid (lies_new wr 41 #[.string { data := #[] }, .int .i64 0, .int .i64 0])
      have ES := Lib.hid (setRow_alloc wr 41 #[.string { data := #[] }, .int .i64 0, .int .i64 0] #[St p, .int .i64 f, .int .i64 md])
      have HC := Lib.hid hC
      have HJR := Lib.hid hJr
      clear d1 d2 d3 hpl hC hJr hB
      have x0 : (wr.alloc (.cells #[St p, .int .i64 f, .int .i64 md] 41)).cell? ⟨wr.heap.size, 0, none⟩ = some (St p) := lies_cell (lies_new wr 41 _) 0
      have V := Lib.hid (parent_any p (wr.alloc (.cells #[St p, .int .i64 f, .int .i64 md] 41)) HPL.out)
      have HUP := Lib.hid (Nat.le_trans (upP_len p) HPL.out)
      have bx := Lib.hid ((Below.refl wr.heap.size wr).alloc (Nat.le_refl _) (.cells #[St p, .int .i64 f, .int .i64 md] 41))
      have KT2 := Lib.hid (show ∀ q, kidsN (ns.take (i + 1)) q = if q = upP p then kidsN (ns.take i) q + 1 else kidsN (ns.take i) q from KT.out)
      obtain ⟨up, hup⟩ : ∃ up, up = upP p := ⟨_, rfl⟩
      rw [← hup] at V HUP KT2
      obtain ⟨K, hK⟩ : ∃ K, K = kidsN (ns.take i) up := ⟨_, rfl⟩
      have hKb : 0 ≤ K ∧ K ≤ i := by
        have := kidsN_bd (ns.take i) up
        rw [List.length_take] at this
        omega
      have wk : wrap64 (K + 1) = K + 1 := wrap_in _ (by omega) (by omega)
      have HK := Lib.hid hK
      have WF := Lib.hid (wf_i64 (z := K + 1) (by omega) (by omega))
      clear hK hup KT
      gi_wp2_with (first
        | (refine wpListIn_load_mid rfl 41 _ rfl b (o + i * 3) rfl [St p, .int .i64 f, .int .i64 md] _ LM.out Try.underlying41 rfl (by kernel_rfl) ?_)
        | (refine wpListIn_store_row rfl 41 _ _ rfl wr.heap.size #[St p, .int .i64 f, .int .i64 md] rfl rfl 41 _ LN.out (by kernel_rfl) rfl (by simp [Value.oneCell', St]) ?_; rw [ES.out])
        | (refine ⟨trivial, ?_⟩; gi_at_call 29; refine (callsIn_wide.2 V.out).mono ?_; rintro e w1 ⟨rfl, hb1⟩; have H1 := Lib.hid hb1; have C1 := Lib.hid (cnt_same HC.out ((hb1.block W.heap.size (Nat.lt_of_lt_of_le (cnt_lt HC.out) bx.out.size)).trans (bx.out.block W.heap.size (cnt_lt HC.out)))); have R1 := Lib.hid (cnt_look C1.out up HUP.out); rw [← HK.out] at R1; obtain ⟨w2, hr2, hc2, hg2⟩ := cnt_put C1.out up HUP.out (by omega) (K + 1) WF.out; have R2 := Lib.hid hr2; have C2 := Lib.hid hc2; have G2 := Lib.hid hg2; clear hb1 hr2 hc2 hg2)
        | (gi_at_lookup; refine wpListIn_lookup_eq rfl _ _ 81 rfl (.map (some W.heap.size)) (St up) (.int .i64 K) rfl rfl R1.out ?_)
        | (gi_at_mapUpdate; refine wpListIn_put_eq rfl _ _ _ 81 rfl (.map (some W.heap.size)) (St up) (.int .i64 (K + 1)) rfl rfl rfl R2.out ?_))
      go_roundw
      case rel =>
        refine ⟨i + 1, by omega, by go_num, ?_, ?_, ?_⟩
        · have e : (fun q => kidsN (ns.take (i + 1)) q) = fun q => if q = up then K + 1 else kidsN (ns.take i) q := funext fun q => by
            rw [KT2.out]
            by_cases e : q = up
            · rw [if_pos e, if_pos e, e, HK.out]
            · rw [if_neg e, if_neg e]
          rw [e]
          exact C2.out
        · refine hJ _ _ _ (some W.heap.size) (hJ _ _ _ none (hJ _ _ _ none HJR.out (World.grownBy_alloc wr _ none) (fun _ e => by cases e)) (grown_of_below H1.out) (fun _ e => by cases e)) G2.out (fun r e => by cases e; exact ⟨Nat.le_refl _, cnt_map C1.out⟩)
        · exact ((HB.out.alloc HB.out.size _).trans (H1.out.mono (by simp; have := HB.out.size; omega))).grown G2.out (by have := HB.out.size; have := H1.out.size; simp at this; omega) (fun j hj => by cases hj; exact Nat.le_refl _)
      case measure => first | (simp [intOf]; done) | (simp [intOf]; omega)
    · have li : ¬ (i : Int) < (n : Int) := by omega
      have ein : ns.take i = ns := List.take_of_length_le (by have := NE.out; omega)
      rw [ein] at hC
      have HC := Lib.hid hC
      have HJR := Lib.hid hJr
      have LKE := cnt_look hC [] (by simp)
      have LKE : (Instr.lookup 81 (.map (some W.heap.size)) (.string { data := #[] }) false).run Try.prog wr = .ok (.int .i64 (kidsN ns [])) wr := LKE
      have MBL := Lib.hid (cnt_lt hC)
      have MBW := Lib.hid (cnt_map hC)
      obtain ⟨fn, tmps, assign, body, hy, hR⟩ := hY [] (kidsK ns []) wr hJr (by simp [fillsL])
      dsimp only [encI] at hy
      rw [kidsK_val ns [] (by have := NE.out; omega)] at hy
      obtain ⟨k0, hk0⟩ : ∃ k0, k0 = kidsN ns [] := ⟨_, rfl⟩
      rw [← hk0] at LKE hy
      have K0 := Lib.hid hk0
      have cB2 := (hB.cell (p := ⟨Bs, 0, none⟩) (by show Bs < _; omega)).trans CB.out
      have LK2 := Lib.hid LKE
      clear ein hC hJr hB hk0 LKE
      gi_wp2_with (gi_at_lookup; refine wpListIn_lookup_eq rfl _ _ 81 rfl (.map (some W.heap.size)) (.string { data := #[] }) (.int .i64 k0) rfl rfl LK2.out ?_)
      refine hR.mono ?_
      rintro e W3 (⟨rfl, hJ3, hk3⟩ | ⟨rfl, hJx3⟩)
      · have cB3 := (World.cell?_of_block (a := ⟨Bs, 0, none⟩) (hk3.1 Bs hBs hBW)).trans cB2
        have C3 := Lib.hid (show CntAt W3 W.heap.size i (fun p => kidsN ns p) from cnt_same HC.out (by obtain ⟨o, h1, h2⟩ := MBW.out; rw [hk3.2.same _ _ h1 h2, h1]))
        have KH3 := Lib.hid (show ∀ j, j < m → j ≠ WB → W3.heap[j]? = W.heap[j]? from fun j h1 h2 => (hk3.1 j h1 h2).trans (HB.out.block j (by omega)))
        have Z3 := Lib.hid (show W.heap.size ≤ W3.heap.size from Nat.le_trans HB.out.size hk3.2.size)
        have J3 := Lib.hid hJ3
        clear cB2 hk3 hJ3 HC HJR
        gi_wp2
        gi_loopw [31] (fun v31 wr => ∃ j : Nat, j ≤ n ∧ v31 = .int .i64 (j : Int) ∧ J (fillsTo ns j) wr ∧ CntAt wr W.heap.size i (fun p => kidsN ns p) ∧ (∀ k, k < m → k ≠ WB → wr.heap[k]? = W.heap[k]?) ∧ W.heap.size ≤ wr.heap.size) (fun v31 _ => n - (intOf v31).toNat)
        case atStart => exact ⟨0, Nat.zero_le _, rfl, by simpa [fillsTo] using J3.out, C3.out, KH3.out, Z3.out⟩
        case round =>
          obtain ⟨j, hj, rfl, hJr, hC, hK, hz⟩ := hrel
          have HC := Lib.hid hC
          have HJR := Lib.hid hJr
          have HK := Lib.hid hK
          have HZ := Lib.hid hz
          clear cB3 hC hJr hK hz
          by_cases hjl : j < n
          · have lj : (j : Int) < (n : Int) := by omega
            have lf : j < ns.length := by have := NE.out; omega
            obtain ⟨b, o, eA, hbm, hbW, e1, e2, e3⟩ := HN.out j lf
            have hpl := HP.out ns[j] (List.getElem_mem _)
            subst eA
            have d1 := (World.cell?_of_block (a := ⟨b, o + j * 3, none⟩) (HK.out b hbm hbW)).trans e1
            have d2 := (World.cell?_of_block (a := ⟨b, o + j * 3 + 1, none⟩) (HK.out b hbm hbW)).trans e2
            have d3 := (World.cell?_of_block (a := ⟨b, o + j * 3 + 2, none⟩) (HK.out b hbm hbW)).trans e3
            have FD := fun h => Lib.hid (fillsTo_dir ns j lf h)
            have FN := fun h => Lib.hid (fillsTo_not ns j lf h)
            have FP := Lib.hid (fillsTo_pre ns (j + 1))
            clear e1 e2 e3
            generalize ns[j] = x at *
            obtain ⟨p, f, md⟩ := x
            have LM := Lib.hid (node_range (p := p) d1 d2 d3)
            have HPL := Lib.hid (show p.length ≤ 100000 from hpl)
            have LN := Lib.hid (lies_new wr 41 #[.string { data := #[] }, .int .i64 0, .int .i64 0])
            have ES := Lib.hid (setRow_alloc wr 41 #[.string { data := #[] }, .int .i64 0, .int .i64 0] #[St p, .int .i64 f, .int .i64 md])
            clear d1 d2 d3 hpl
            have x0 : (wr.alloc (.cells #[St p, .int .i64 f, .int .i64 md] 41)).cell? ⟨wr.heap.size, 0, none⟩ = some (St p) := lies_cell (lies_new wr 41 _) 0
            have x1 : (wr.alloc (.cells #[St p, .int .i64 f, .int .i64 md] 41)).cell? ⟨wr.heap.size, 1, none⟩ = some (.int .i64 f) := lies_cell (lies_new wr 41 _) 1
            have bx := Lib.hid ((Below.refl wr.heap.size wr).alloc (Nat.le_refl _) (.cells #[St p, .int .i64 f, .int .i64 md] 41))
            have hCx := cnt_same HC.out (bx.out.block W.heap.size (cnt_lt HC.out))
            have CX := Lib.hid hCx
            have JX := Lib.hid (hJ _ _ _ none HJR.out (World.grownBy_alloc wr (.cells #[St p, .int .i64 f, .int .i64 md] 41) _) (fun _ e => by cases e))
            have KX := Lib.hid (show ∀ k, k < m → k ≠ WB → (wr.alloc (.cells #[St p, .int .i64 f, .int .i64 md] 41)).heap[k]? = W.heap[k]? from fun k h1 h2 => (bx.out.block k (by have := HZ.out; omega)).trans (HK.out k h1 h2))
            have ZX := Lib.hid (show W.heap.size ≤ (wr.alloc (.cells #[St p, .int .i64 f, .int .i64 md] 41)).heap.size from Nat.le_trans HZ.out bx.out.size)
            by_cases hf : f = -1
            · have hd : isDir ⟨p, f, md⟩ = true := decide_eq_true hf
              have FD2 := Lib.hid (show fillsTo ns (j + 1) = fillsTo ns j ++ [kidsK ns p] from (FD hd).out)
              clear FD FN hd
              have LK := Lib.hid (cnt_look hCx p HPL.out)
              obtain ⟨fn, tmps, assign, body, hy, hR⟩ := hY (fillsTo ns j) (kidsK ns p) _ JX.out (by
                have h1 := FP.out.length_le
                rw [FD2.out] at h1
                simp at h1
                omega)
              dsimp only [encI] at hy
              rw [kidsK_val ns p (by have := NE.out; omega)] at hy
              have h2 := cnt_map hCx
              have MW := Lib.hid h2
              clear hCx h2
              obtain ⟨K, hKe⟩ : ∃ K, K = kidsN ns p := ⟨_, rfl⟩
              rw [← hKe] at hy
              have LK2 := Lib.hid (show (Instr.lookup 81 (.map (some W.heap.size)) (St p) false).run Try.prog (wr.alloc (.cells #[St p, .int .i64 f, .int .i64 md] 41)) = .ok (.int .i64 K) _ by rw [hKe]; exact LK.out)
              have KE := Lib.hid hKe
              clear LK hKe
              subst hf
              gi_wp2_with (first
                | (refine wpListIn_load_mid rfl 41 _ rfl b (o + j * 3) rfl [St p, .int .i64 (-1), .int .i64 md] _ LM.out Try.underlying41 rfl (by kernel_rfl) ?_)
                | (refine wpListIn_store_row rfl 41 _ _ rfl wr.heap.size #[St p, .int .i64 (-1), .int .i64 md] rfl rfl 41 _ LN.out (by kernel_rfl) rfl (by simp [Value.oneCell', St]) ?_; rw [ES.out])
                | (gi_at_lookup; refine wpListIn_lookup_eq rfl _ _ 81 rfl (.map (some W.heap.size)) (St p) (.int .i64 K) rfl rfl LK2.out ?_))
              refine hR.mono ?_
              rintro e W4 (⟨rfl, hJ4, hk4⟩ | ⟨rfl, hJx4⟩)
              · have J4 := Lib.hid (show J (fillsTo ns (j + 1)) W4 by rw [FD2.out]; exact hJ4)
                have C4 := Lib.hid (show CntAt W4 W.heap.size i (fun p => kidsN ns p) from cnt_same CX.out (by obtain ⟨o, h1, h2⟩ := MW.out; rw [hk4.2.same _ _ h1 h2, h1]))
                have KH4 := Lib.hid (show ∀ k, k < m → k ≠ WB → W4.heap[k]? = W.heap[k]? from fun k h1 h2 => (hk4.1 k h1 h2).trans (KX.out k h1 h2))
                have Z4 := Lib.hid (Nat.le_trans ZX.out hk4.2.size)
                clear hJ4 hk4
                gi_wp2
                go_roundw
                case rel => exact ⟨j + 1, by omega, by go_num, J4.out, C4.out, KH4.out, Z4.out⟩
                case measure => first | (simp [intOf]; done) | (simp [intOf]; omega)
              · gi_wp2
                refine bodyPost_ret (results_none rfl _ _ _) rfl ?_
                exact ⟨⟨_, rfl⟩, .inr ⟨_, by rw [← FD2.out]; exact FP.out, hJx4⟩⟩
            · have hd : isDir ⟨p, f, md⟩ = false := decide_eq_false hf
              have FN2 := Lib.hid (FN hd).out
              have hfb : (f == -1) = false := by simpa using hf
              clear FD FN hd hCx
              gi_wp2_with (first
                | (refine wpListIn_load_mid rfl 41 _ rfl b (o + j * 3) rfl [St p, .int .i64 f, .int .i64 md] _ LM.out Try.underlying41 rfl (by kernel_rfl) ?_)
                | (refine wpListIn_store_row rfl 41 _ _ rfl wr.heap.size #[St p, .int .i64 f, .int .i64 md] rfl rfl 41 _ LN.out (by kernel_rfl) rfl (by simp [Value.oneCell', St]) ?_; rw [ES.out]))
              refine ⟨fun _ h => (by cases h), ?_⟩
              gi_wp2
              go_roundw
              case rel => exact ⟨j + 1, by omega, by go_num, by rw [FN2.out]; exact JX.out, CX.out, KX.out, ZX.out⟩
              case measure => first | (simp [intOf]; done) | (simp [intOf]; omega)
          · have lj : ¬ (j : Int) < (n : Int) := by omega
            have HA := Lib.hid (fillsTo_all ns j (by have := NE.out; omega))
            gi_wp2
            go_end0
            exact ⟨⟨_, rfl⟩, .inl (by rw [← HA.out]; exact HJR.out)⟩
      · gi_wp2
        refine bodyPost_ret (results_none rfl _ _ _) rfl ?_
        exact ⟨⟨_, rfl⟩, .inr ⟨_, by rw [List.nil_append]; exact ⟨_, rfl⟩, hJx3⟩⟩
end Go.Proofs.Ytdnagkgblmcojaa
