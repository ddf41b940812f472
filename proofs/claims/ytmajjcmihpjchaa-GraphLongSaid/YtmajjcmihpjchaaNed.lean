/-
What is proved here: package graph's Needs, of the empty tree and renames, by a contract.
-/
import Derived.Test.YtmajjcmihpjchaaNee
set_option linter.unusedSimpArgs false
set_option linter.unusedVariables false
namespace Go.Proofs.Ytmajjcmihpjchaa
open Go.Pth Go.Tre Go.RowKit Go.Word Go.Shelf Go.Mat Go.Gra
attribute [local go_sem] guard_eq guard_ne st_eql st_neq
/-- numbers in a slice -/
def IntsAt (w : World) (A : Option Addr) (zs : List Int) : Prop := ∀ i (h : i < zs.length), ∃ b, A = some ⟨b, 0, none⟩ ∧ b < w.heap.size ∧ w.cell? ⟨b, i, none⟩ = some (.int .i64 zs[i])
theorem intsAt_below {w w' : World} {A : Option Addr} {zs : List Int} (h : IntsAt w A zs) (hb : Below w.heap.size w w') : IntsAt w' A zs := fun i hi => by
  obtain ⟨b, e, hl, hc⟩ := h i hi
  exact ⟨b, e, Nat.lt_of_lt_of_le hl hb.size, (hb.cell (p := ⟨b, i, none⟩) hl).trans hc⟩
theorem intsAt_of {w : World} {B k C : Nat} {A : Option Addr} {zs : List Int} (h : IntsO w B (.slice A k C) zs) : IntsAt w A zs := fun i hi => by
  have h0 : w.ownsRow B 3 1 (.slice A k C) zs.length (zs.map iV) := h
  rcases h0.2 with ⟨_, e0⟩ | ⟨g, cap, cur, e, hg, hb, hc, _⟩
  · omega
  · injection e with e1 e2 e3
    subst e1
    refine ⟨g, rfl, (Array.getElem?_eq_some_iff.1 hb).1, ?_⟩
    subst e2
    rw [h0.cellAt i (by omega), List.getElem?_map, List.getElem?_eq_getElem hi]
    rfl
/-- a row of n lists of numbers, the first i of which are told -/
def NdsR (W : World) (L n : Nat) (zf : Nat → List Int) (i : Nat) : Prop := ∃ cs, Lies W L 36 cs ∧ cs.size = n ∧ ∀ j, j < n → if j < i then ∃ A C, cs[j]? = some (.slice A (zf j).length C) ∧ IntsAt W A (zf j) else cs[j]? = some (.slice none 0 0)
section
variable {W W' : World} {L n i : Nat} {zf : Nat → List Int}
theorem nds_lt (h : NdsR W L n zf i) : L < W.heap.size := by
  obtain ⟨cs, hl, _⟩ := h
  exact lies_lt hl
theorem nds_below (h : NdsR W L n zf i) (hb : Below W.heap.size W W') : NdsR W' L n zf i := by
  obtain ⟨cs, hl, hs, hc⟩ := h
  refine ⟨cs, lies_below hl hb (lies_lt hl), hs, fun j hj => ?_⟩
  have h := hc j hj
  split at h
  · rename_i hji
    rw [if_pos hji]
    obtain ⟨A, C, e, ha⟩ := h
    exact ⟨A, C, e, intsAt_below ha hb⟩
  · rename_i hji
    rw [if_neg hji]
    exact h
theorem nds_cell (h : NdsR W L n zf i) (hi : i < n) : W.cell? ⟨L, i, none⟩ = some (.slice none 0 0) ∧ W.frozen? ⟨L, i, none⟩ = false := by
  obtain ⟨cs, hl, hs, hc⟩ := h
  have h := hc i hi
  rw [if_neg (by omega)] at h
  exact ⟨(lies_cell hl i).trans h, lies_free hl i⟩
theorem nds_at (h : NdsR W L n zf i) {j : Nat} (hj : j < i) (hn : j < n) : ∃ A C, W.cell? ⟨L, j, none⟩ = some (.slice A (zf j).length C) ∧ IntsAt W A (zf j) := by
  obtain ⟨cs, hl, hs, hc⟩ := h
  have h := hc j hn
  rw [if_pos hj] at h
  obtain ⟨A, C, e, ha⟩ := h
  exact ⟨A, C, (lies_cell hl j).trans e, ha⟩
theorem nds_set (h : NdsR W L n zf i) (hi : i < n) {A : Option Addr} {C : Nat} (ha : IntsAt W A (zf i)) : NdsR (W.setCell ⟨L, i, none⟩ (.slice A (zf i).length C)) L n zf (i + 1) := by
  obtain ⟨cs, hl, hs, hc⟩ := h
  have keep : ∀ {A : Option Addr} {zs : List Int}, IntsAt W A zs → IntsAt (W.setCell ⟨L, i, none⟩ (.slice A (zf i).length C)) A zs → True := fun _ _ => trivial
  have far : ∀ (v : Value) {A : Option Addr} {zs : List Int}, (∀ c, v = .slice c (zf i).length C → True) → IntsAt W A zs → v.oneCell' = true → (∀ z, v ≠ .int .i64 z) → IntsAt (W.setCell ⟨L, i, none⟩ v) A zs := fun v A zs _ ha _ hz k hk => by
    obtain ⟨b, e, hlb, hcell⟩ := ha k hk
    refine ⟨b, e, by simpa [World.setCell] using hlb, ?_⟩
    by_cases hbL : b = L
    · subst hbL
      have hcell2 := hcell
      rw [lies_cell hl] at hcell2
      by_cases hki : k = i
      · subst hki
        have h := hc k hi
        rw [if_neg (by omega), hcell2] at h
        cases h
      · have := lies_cell (lies_set hl i v) k
        rw [this, Array.getElem?_setIfInBounds, if_neg (Ne.symm hki)]
        exact hcell2
    · exact (World.cell?_of_block (Below.heap_setCell W ⟨L, i, none⟩ v b hbL)).trans hcell
  refine ⟨_, lies_set hl i _, by simpa using hs, fun j hj => ?_⟩
  by_cases hji : j = i
  · subst hji
    rw [if_pos (by omega)]
    refine ⟨A, C, ?_, far _ (fun _ _ => trivial) ha rfl (fun z e => by cases e)⟩
    rw [Array.getElem?_setIfInBounds, if_pos rfl, if_pos (by omega)]
  · have h := hc j hj
    rw [Array.getElem?_setIfInBounds, if_neg (Ne.symm hji)]
    by_cases hlt : j < i
    · rw [if_pos hlt] at h
      rw [if_pos (by omega)]
      obtain ⟨A2, C2, e, ha2⟩ := h
      exact ⟨A2, C2, e, far _ (fun _ _ => trivial) ha2 rfl (fun z e => by cases e)⟩
    · rw [if_neg hlt] at h
      rw [if_neg (by omega)]
      exact h
end
theorem ints_info : (Try.prog.info? 36).map (fun i => (i.zero, i.size, i.bytes)) = some (some (.slice none 0 0), 1, 24) := by kernel_rfl
theorem made_nds (w : World) (k : Nat) (hk : k ≤ 2000) : (Instr.makeSlice 27 (.int .i64 (k : Int)) (.int .i64 (k : Int))).run Try.prog w = .ok (.slice (some ⟨w.heap.size, 0, none⟩) k k) (w.alloc (.cells (madeCells #[.slice none 0 0] k) 36)) := by
  obtain ⟨i, hi, hz, hs, hb⟩ := info_parts ints_info
  have h := run_make (P := Try.prog) w 27 36 i (.slice none 0 0) Try.underlying27 hi hz .i64 .i64 k k (by omega) (Int.le_refl _) (by rw [hb]; omega) (by omega)
  rw [hs, Nat.mul_one] at h
  exact h
theorem nds_made (w : World) (k : Nat) (zf : Nat → List Int) : NdsR (w.alloc (.cells (madeCells #[.slice none 0 0] k) 36)) w.heap.size k zf 0 := by
  refine ⟨_, lies_new w 36 _, by rw [size_madeCells], fun j hj => ?_⟩
  rw [if_neg (by omega), Array.getElem?_eq_getElem (by rw [size_madeCells]; exact hj)]
  simp [madeCells, Nat.mod_one]
theorem whyAt_set {W : World} {R C bE bM bF n L i : Nat} {FE FF : Bt → Option Int} {cs : Array Value} (h : WhyAt W R C bE bM bF n FE FF) (hl : Lies W L 36 cs) (v : Value) : WhyAt (W.setCell ⟨L, i, none⟩ v) R C bE bM bF n FE FF := by
  have hm : ∀ {b n : Nat} {F : Bt → Option Int}, NumM W b n F → NumM (W.setCell ⟨L, i, none⟩ v) b n F := fun {b n F} h => by
    refine numM_same h (Below.heap_setCell W ⟨L, i, none⟩ v b (fun e => ?_))
    obtain ⟨D, ⟨es, clock, h1, _⟩, _⟩ := h
    have e : b = L := e
    rw [e, show W.heap[L]? = _ from hl] at h1
    cases h1
  refine ⟨lies_far h.r (fun e => ?_) v, hm h.e, hm h.m, hm h.f⟩
  have e : R = L := e
  have h1 := h.r
  unfold Lies at h1 hl
  rw [e, hl] at h1
  cases h1
/-- what Needs tells of renames -/
def zfOf (ms : List Mv) (j : Nat) : List Int := needP (fstTo (ms.map (·.1)) ms.length) (ms.getD j ([], [])) (j : Int)
def NedE (ms : List Mv) (e : Ending) (W : World) : Prop := (1024 < ms.length ∧ e = .returned (.tuple #[.slice none 0 0, .int .i64 2])) ∨ (ms.length ≤ 1024 ∧ ∃ L, e = .returned (.tuple #[.slice (some ⟨L, 0, none⟩) ms.length ms.length, .int .i64 0]) ∧ NdsR W L ms.length (zfOf ms) ms.length)
set_option maxRecDepth 100000 in
set_option maxHeartbeats 8000000 in
theorem needs_all (A : Option Addr) (c : Nat) (ms : List Mv) (w : World) (h : ActsAt w A ms) (hn : ms.length ≤ 2000) (hk : ∀ x ∈ ms, x.1.length ≤ 100000 ∧ x.2.length ≤ 100000 ∧ upP x.2 = []) :
    Calls Try.prog 6 #[.agg #[.slice none 0 0, .slice none 0 0], .slice A ms.length c] w fun e w' => NedE ms e w' ∧ Below w.heap.size w w' := by
  have HB := Lib.hid (show Below w.heap.size w (w.alloc (.cells #[.slice none 0 0, .slice none 0 0] 34)) from (Below.refl _ _).alloc (Nat.le_refl _) _)
  have LX := Lib.hid (lies_new w 34 #[.slice none 0 0, .slice none 0 0])
  have H := Lib.hid h
  have HK := Lib.hid hk
  have KC := Lib.hid (fun (W : World) (hb : Below w.heap.size w W) => check_mv A c ms W (actsAt_below h hb) (by omega))
  have KR := Lib.hid (fun (W : World) (hb : Below w.heap.size w W) => rules_mv A c ms W (actsAt_below h hb) hn (fun x hx => ⟨(hk x hx).1, (hk x hx).2.1⟩))
  obtain ⟨zf, hzf⟩ : ∃ zf, zf = zfOf ms := ⟨_, rfl⟩
  have ZF := Lib.hid hzf
  obtain ⟨FE, hFE⟩ : ∃ FE, FE = fstTo (ms.map (·.1)) ms.length := ⟨_, rfl⟩
  have FEE := Lib.hid hFE
  rw [← hFE] at KR
  obtain ⟨FF, hFF⟩ : ∃ FF, FF = fstTo (ms.map (·.2)) ms.length := ⟨_, rfl⟩
  rw [← hFF] at KR
  obtain ⟨n, hne⟩ : ∃ n, n = ms.length := ⟨_, rfl⟩
  have NE := Lib.hid hne
  rw [← hne] at hn KC KR
  have QE := Lib.hid (show ∀ e W, ((1024 < n ∧ e = .returned (.tuple #[.slice none 0 0, .int .i64 2])) ∨ (n ≤ 1024 ∧ ∃ L, e = .returned (.tuple #[.slice (some ⟨L, 0, none⟩) n n, .int .i64 0]) ∧ NdsR W L n zf n)) → NedE ms e W from fun e W h => by
    unfold NedE
    rw [← hne, ← hzf]
    exact h)
  rw [← hne]
  clear h hk hzf hFE hFF hne
  go_enter Try.func6, Try.ntmps6
  go_upto_region 1 with (fail)
  generalize w.alloc (.cells #[.slice none 0 0, .slice none 0 0] 34) = X at *
  have RG := Lib.hid (rng2' LX.out)
  by_cases hl : 1024 < n
  · rw [if_pos hl] at KC
    have HL := Lib.hid hl
    clear hl
    go_wp2_with (first
      | (refine wpList_load_mid rfl 34 _ rfl w.heap.size 0 rfl [.slice none 0 0, .slice none 0 0] _ RG.out Try.underlying34 rfl (by kernel_rfl) ?_)
      | (go_at_call 8; (with_reducible refine (KC.out X HB.out).mono ?_); rintro e w1 ⟨rfl, hb⟩; have H1 := Lib.hid (HB.out.trans (hb.mono HB.out.size)); clear hb))
    (try simp only [Exit.inBlock, Exit.then])
    refine bodyPost_ret (results_tmp2 rfl _ _ _) rfl ?_
    exact ⟨QE.out _ _ (.inl ⟨HL.out, rfl⟩), H1.out⟩
  rw [if_neg hl] at KC
  have HL := Lib.hid (show n ≤ 1024 by omega)
  have nB : n ≤ 2000 := hn
  clear hl
  go_upto_region 4 with (first
    | (refine wpList_load_mid rfl 34 _ rfl w.heap.size 0 rfl [.slice none 0 0, .slice none 0 0] _ RG.out Try.underlying34 rfl (by kernel_rfl) ?_)
    | (go_at_call 8; (with_reducible refine (KC.out X HB.out).mono ?_); rintro e w1 ⟨rfl, hb⟩; have H1 := Lib.hid (HB.out.trans (hb.mono HB.out.size)); have L1 := Lib.hid (lies_below LX.out hb (lies_lt LX.out)); clear hb))
  have MD := made_nds w1 n hn
  have b2 : Below w1.heap.size w1 (w1.alloc (.cells (madeCells #[.slice none 0 0] n) 36)) := (Below.refl _ _).alloc (Nat.le_refl _) _
  have H2 := Lib.hid (H1.out.trans (b2.mono H1.out.size))
  have L2 := Lib.hid (lies_below L1.out b2 (lies_lt L1.out))
  have N2 := Lib.hid (nds_made w1 n zf)
  have GE := Lib.hid H1.out.size
  clear b2
  obtain ⟨L, hL⟩ : ∃ L, L = w1.heap.size := ⟨_, rfl⟩
  rw [← hL] at MD N2 GE
  clear hL
  go_upto_region 5 with (fail)
  clear HB LX RG H1 L1 MD KC
  generalize w1.alloc (.cells (madeCells #[.slice none 0 0] n) 36) = w2 at *
  have RG := Lib.hid (rng2' L2.out)
  go_upto_region 6 with (first
    | (refine wpList_load_mid rfl 34 _ rfl w.heap.size 0 rfl [.slice none 0 0, .slice none 0 0] _ RG.out Try.underlying34 rfl (by kernel_rfl) ?_)
    | (go_at_call 9; (with_reducible refine (KR.out w2 H2.out).mono ?_); rintro e w3 ⟨⟨R, C, bE, bM, bF, rfl, hW⟩, hb⟩; have H3 := Lib.hid (H2.out.trans (hb.mono H2.out.size)); have N3 := Lib.hid (nds_below N2.out hb); have W3 := Lib.hid hW; clear hb hW))
  clear RG H2 L2 N2 KR
  go_wp2
  go_loopw [24] (fun v24 wr => ∃ i : Nat, i ≤ n ∧ v24 = .int .i64 (i : Int) ∧ NdsR wr L n zf i ∧ WhyAt wr R C bE bM bF n FE FF ∧ Below w.heap.size w wr) (fun v24 _ => n - (intOf v24).toNat)
  case atStart => exact ⟨0, Nat.zero_le _, rfl, N3.out, W3.out, H3.out⟩
  case round =>
    obtain ⟨i, hi, rfl, hN, hW, hb⟩ := hrel
    have HN := Lib.hid hN
    have HW := Lib.hid hW
    have HR := Lib.hid hb
    clear hN hW hb N3 W3 H3
    by_cases hlt : i < n
    · have li : (i : Int) < (n : Int) := by omega
      have lf : i < ms.length := by have := NE.out; omega
      obtain ⟨b, o, eA, hl2, hr⟩ := actsAt_below H.out HR.out i lf
      subst eA
      have R1 := Lib.hid hr
      have HM := Lib.hid (HK.out ms[i] (List.getElem_mem lf))
      have ZI := Lib.hid (show zf i = needP FE ms[i] (i : Int) by
        rw [ZF.out]
        unfold zfOf
        rw [← FEE.out, List.getD_eq_getElem?_getD, List.getElem?_eq_getElem lf]
        rfl)
      clear hr
      generalize ms[i] = m at *
      have KD := Lib.hid (needs_mv m (i : Int) R C bE bM bF n FE FF wr HW.out HM.out.2.1 HM.out.2.2)
      rw [← ZI.out] at KD
      unfold mvV mvC at *
      go_upto_region 9 with (fail)
      go_upto_region 10 with (first
        | (refine wpList_load_mid rfl 26 _ rfl b (o + i * 5) rfl [.int .i64 3, St m.1, St m.2, .int .i64 0, .int .i64 0] _ R1.out Try.underlying26 rfl (by kernel_rfl) ?_)
        | (rw [store_one _ _ _ _ rfl]; go_simp)
        | (go_at_call 10; (with_reducible refine KD.out.mono ?_); rintro e w4 ⟨⟨A2, D2, rfl, hI⟩, hb⟩; have H4 := Lib.hid (HR.out.trans (hb.mono HR.out.size)); have N4 := Lib.hid (nds_below HN.out hb); have W4 := Lib.hid (whyAt_below HW.out hb); have I4 := Lib.hid (intsAt_of hI); obtain ⟨n0, n1⟩ := nds_cell N4.out hlt; clear hb hI))
      have N5 := Lib.hid (nds_set (C := D2) N4.out hlt I4.out)
      have W5 := Lib.hid (show WhyAt (w4.setCell ⟨L, i, none⟩ (.slice A2 (zf i).length D2)) R C bE bM bF n FE FF from by
        obtain ⟨cs, hcs, _⟩ := N4.out
        exact whyAt_set W4.out hcs _)
      have H5 := Lib.hid (below_setCell H4.out (p := ⟨L, i, none⟩) GE.out (.slice A2 (zf i).length D2))
      clear N4 W4 H4 I4 n0 n1 HN HW HR R1 KD ZI HM
      generalize w4.setCell ⟨L, i, none⟩ (.slice A2 (zf i).length D2) = w5 at *
      go_wp2
      go_roundw
      case rel => exact ⟨i + 1, by omega, by go_num, N5.out, W5.out, H5.out⟩
      case measure => first | (simp [intOf]; done) | (simp [intOf]; omega)
    · obtain rfl : i = n := by omega
      have li : ¬ (i : Int) < (i : Int) := by omega
      go_wp2
      (try simp only [Exit.inBlock, Exit.then])
      refine bodyPost_ret (results_tmp2 rfl _ _ _) rfl ?_
      exact ⟨QE.out _ _ (.inr ⟨HL.out, _, rfl, HN.out⟩), HR.out⟩
end Go.Proofs.Ytmajjcmihpjchaa
