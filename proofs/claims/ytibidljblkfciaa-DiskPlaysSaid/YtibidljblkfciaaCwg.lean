/-
What is proved here: the laws' helper 'call', for a write of any block, with power or without.
-/
import Derived.Test.YtibidljblkfciaaCrd
import Derived.Test.YtibidljblkfciaaCle
set_option linter.unusedSimpArgs false
namespace Go.Proofs.Ytibidljblkfciaa
open Go.Word Go.RowKit

/-- how far the fuse may stand -/
def Fus (on : Bool) (lf : Int) : Prop := -1 ≤ lf ∧ lf ≤ 9223372036854775807 ∧ (on = true → lf ≠ 0)
theorem fus_step {lf : Int} (h : Fus true lf) : Fus (stepOn true lf) (stepLf lf) := by
  obtain ⟨h1, h2, h3⟩ := h
  have h3 := h3 rfl
  unfold stepOn stepLf Fus
  split
  · exact ⟨by decide, by decide, fun _ => by decide⟩
  · refine ⟨by omega, by omega, fun h => ?_⟩
    have := of_decide_eq_true h
    omega
/-- what a write of a block's bytes does: it is held back, or refused -/
def Wr (on : Bool) (lf : Int) (ws : List (Nat × Bytes)) (n : Nat) (z : Int) (q : Bytes) (y : Int) (ws' : List (Nat × Bytes)) (on' : Bool) (lf' : Int) : Prop :=
  (on = true ∧ (∃ at_ : Nat, z = at_ ∧ at_ < n ∧ ws' = ws ++ [(at_, q)]) ∧ y = 0 ∧ on' = stepOn true lf ∧ lf' = stepLf lf) ∨ (Bars on n z y ∧ ws' = ws ∧ on' = on ∧ lf' = lf)
theorem wr_some (on : Bool) (lf : Int) (ws : List (Nat × Bytes)) (n : Nat) (z : Int) (q : Bytes) (hf : Fus on lf) : ∃ y ws' on' lf', Wr on lf ws n z q y ws' on' lf' ∧ Fus on' lf' ∧ ws'.length ≤ ws.length + 1 := by
  cases on with
  | false => exact ⟨11, ws, false, lf, .inr ⟨.inl ⟨rfl, rfl⟩, rfl, rfl, rfl⟩, hf, by omega⟩
  | true =>
    by_cases h : z < 0 ∨ (n : Int) ≤ z
    · exact ⟨10, ws, true, lf, .inr ⟨.inr ⟨rfl, rfl, h⟩, rfl, rfl, rfl⟩, hf, by omega⟩
    · exact ⟨0, ws ++ [(z.toNat, q)], stepOn true lf, stepLf lf, .inl ⟨rfl, ⟨z.toNat, by omega, by omega, rfl⟩, rfl, rfl, rfl⟩, fus_step hf, by simp⟩
section
variable {w w' : World} {g r n : Nat} {F : Bytes} {ws : List (Nat × Bytes)} {on : Bool} {lf : Int} {fp fq : Nat → Prop}
theorem dk_write_g {z y lf' : Int} {ws' : List (Nat × Bytes)} {on' : Bool} (ad : Addr) (c : Nat) (q : Bytes) (w : World) (hN : ws.length < 65536) (hf : Fus on lf) (hwr : Wr on lf ws n z q y ws' on' lf')
    (h : DK w g n F ws on lf fp) (hq : Src8 w ad q 512) (hl : ad.block < w.heap.size) (hn : ¬ fp ad.block) :
    Calls Try.prog 22 #[.pointer (some ⟨g, 0, none⟩), .int .i64 z, .slice (some ad) 512 c] w fun e w' => e = .returned (.int .i64 y) ∧ (∃ fp', Sub w fp fp' ∧ DK w' g n F ws' on' lf' fp') ∧ Keeps fp w w' := by
  rcases hwr with ⟨rfl, ⟨at_, rfl, ha, rfl⟩, rfl, rfl, rfl⟩ | ⟨hb, rfl, rfl, rfl⟩
  · exact dk_write _ at_ rfl ad c q w ha hN hf.1 hf.2.1 h hq hl hn
  · exact (dk_write_no _ w hb h).mono fun e w' ⟨he, hw⟩ => by subst hw; exact ⟨he, ⟨fp, fun i hi => .inl hi, h⟩, keeps_refl _ _⟩
theorem rd_write_g {z y lf' : Int} {ws' : List (Nat × Bytes)} {on' : Bool} (rb c : Nat) (q : Bytes) (w : World) (hN : ws.length < 65536) (hf : Fus on lf) (hwr : Wr on lf ws n z q y ws' on' lf')
    (hq : Src8 w ⟨rb, 0, none⟩ q 512) (hrb : rb < w.heap.size) (h : RD w r n F ws on lf fp) :
    Calls Try.prog 35 #[.pointer (some ⟨r, 0, none⟩), .int .i64 z, .slice (some ⟨rb, 0, none⟩) 512 c] w fun e w' => e = .returned (.int .i64 y) ∧ (∃ fp', Sub w fp fp' ∧ RD w' r n F ws' on' lf' fp') ∧ Keeps fp w w' := by
  rcases hwr with ⟨rfl, ⟨at_, rfl, ha, rfl⟩, rfl, rfl, rfl⟩ | ⟨hb, rfl, rfl, rfl⟩
  · exact rd_write _ at_ rfl rb c q w ha hN hf.1 hf.2.1 (hf.2.2 rfl) hq hrb h
  · exact (rd_write_no _ w hb h).mono fun e w' ⟨he, hw⟩ => by subst hw; exact ⟨he, ⟨fp, fun i hi => .inl hi, h⟩, keeps_refl _ _⟩
set_option maxRecDepth 100000 in
set_option maxHeartbeats 4000000 in
theorem call_write_g {z yc lf' : Int} {ws' : List (Nat × Bytes)} {on' : Bool} (b : Int) (kv : Value) (w : World) (hN : ws.length ≤ 60000) (hlf : Fus on lf) (hwr : Wr on lf ws n z (blk b) yc ws' on' lf') (h : Two2 w g r n F ws on lf fp fq) :
    Calls Try.prog 16 #[.pointer (some ⟨g, 0, none⟩), .pointer (some ⟨r, 0, none⟩), .agg #[.int .i64 1, .int .i64 z, .int .i64 b, kv]] w fun e w' => e = .returned (.bool true) ∧ (∃ fp' fq', Sub w fp fp' ∧ Sub w fq fq' ∧ Two2 w' g r n F ws' on' lf' fp' fq') ∧ Keeps (fun i => fp i ∨ fq i) w w' := by
  have HWR := Lib.hid hwr
  have HLF := Lib.hid hlf
  clear hwr hlf
  have H0 := Lib.hid h
  have bb := (Below.refl w.heap.size w).alloc (Nat.le_refl _) (.cells #[.int .i64 1, .int .i64 z, .int .i64 b, kv] 33)
  have H1 := Lib.hid (two_below h bb)
  have BB := Lib.hid bb
  have cA : (w.alloc (.cells #[.int .i64 1, .int .i64 z, .int .i64 b, kv] 33)).cell? ⟨w.heap.size, 1, none⟩ = some (.int .i64 z) := lies_cell (lies_new w 33 _) 1
  have cB : (w.alloc (.cells #[.int .i64 1, .int .i64 z, .int .i64 b, kv] 33)).cell? ⟨w.heap.size, 2, none⟩ = some (.int .i64 b) := lies_cell (lies_new w 33 _) 2
  have LB := Lib.hid (lies_new w 33 #[.int .i64 1, .int .i64 z, .int .i64 b, kv])
  obtain ⟨i0, hi, hz0, hz1, hz2⟩ := info_parts byte_info
  clear h bb
  go_enter Try.func16, Try.ntmps16
  go_upto_region 16 with (fail)
  generalize w.alloc (.cells #[.int .i64 1, .int .i64 z, .int .i64 b, kv] 33) = W at *
  go_upto_region 17 with (go_at_call 23; (with_reducible refine (blk_at b W).mono ?_); rintro e w1 ⟨rfl, hl, hb⟩; have HL := Lib.hid hl; have H2 := Lib.hid hb; have cA1 := (hb.cell (p := ⟨w.heap.size, 1, none⟩) (lies_lt LB.out)).trans cA; clear hl hb)
  clear cA cB
  have cA2 := Lib.hid cA1
  obtain ⟨rb, hrb⟩ : ∃ rb, W.heap.size = rb := ⟨_, rfl⟩
  have HRB := Lib.hid hrb
  rw [hrb] at HL ⊢
  clear hrb
  have SRC := Lib.hid (show ∀ j u, ((List.range 512).map fun j => Y (blk b j))[j]? = some u → w1.cell? ((⟨rb, 0, none⟩ : Addr).add j) = some u from fun j u hj => by
    have hj2 : j < 512 := by
      rcases Nat.lt_or_ge j 512 with h | h
      · exact h
      · rw [List.getElem?_eq_none (by simpa using h)] at hj; cases hj
    rw [src_row HL.out j hj2]
    simpa [hj2] using hj)
  go_upto_region 18 with (first
    | (at_builtin; refine wpList_append_own _ rfl (.const (.slice none 0 0)) (.tmp 72) 44 rfl w1.heap.size 5 i0 (.int .u8 0) 1 1 Try.underlying44 hi hz0 hz1 hz2 rfl (by decide) (.slice none 0 0) 0 [] rfl (World.ownsRow_nil _ _ _ _) ⟨rb, 0, none⟩ 512 512 ((List.range 512).map fun j => Y (blk b j)) rfl (by simp) SRC.out (y_all _ _) (by unfold maxLen; omega) (by omega) (Nat.le_refl _) ?_; intro v1 w2 hown1 hgrow1 _; rw [Nat.zero_add, List.nil_append] at hown1; obtain ⟨g1, C1, rfl⟩ : ∃ g1 C1, v1 = .slice (some ⟨g1, 0, none⟩) 512 C1 := own_form (by decide) hown1; have HO1 := Lib.hid hown1; have HG1 := Lib.hid (grown_below (B := w1.heap.size) hgrow1 (fun k e => by cases e) (Nat.le_refl _)); clear hown1 hgrow1)
    | (at_builtin; go_loud (refine wpList_append_own _ rfl (.tmp 73) (.tmp 74) 44 rfl w1.heap.size 5 i0 (.int .u8 0) 1 1 Try.underlying44 hi hz0 hz1 hz2 rfl (by decide) (.slice (some ⟨g1, 0, none⟩) 512 C1) 512 _ rfl (HO1.out.alloc _) ⟨w2.heap.size, 0, none⟩ 1 1 [.int .u8 167] rfl rfl (by intro j u hj; cases j with | zero => cases hj; exact lies_cell (lies_new w2 _ #[.int .u8 167]) 0 | succ j => cases hj) (by intro u hu; cases List.mem_singleton.1 hu; rfl) (by unfold maxLen; omega) (by omega) (Nat.le_trans HG1.out.size (World.grownBy_alloc w2 _ none).size) ?_; intro v2 w3 hown2 hgrow2 _; have HO2 := Lib.hid hown2; have HG2 := Lib.hid hgrow2; clear hown2 hgrow2)))
  clear cA1
  have B13 : Below w1.heap.size w1 w3 := HG1.out.trans ((((Below.refl w2.heap.size w2).alloc (Nat.le_refl _) _).mono HG1.out.size).trans (grown_below HG2.out (fun k e => (World.ownsRow.lt HO1.out k e).1) (by have := HG1.out.size; simp; omega)))
  obtain ⟨g2, C2, cur, rfl, hg2, hl2, hC2, hcs, hcur, h512⟩ := full_form HO2.out
  have z1 : w.heap.size < W.heap.size := lies_lt LB.out
  have z2 : W.heap.size ≤ w1.heap.size := H2.out.size
  have z3 : w1.heap.size ≤ w3.heap.size := B13.size
  have lfp : ∀ i, fp i → i < w.heap.size := H0.out.d.2
  have lfq : ∀ i, fq i → i < w.heap.size := H0.out.r.2
  have t3 := two_below (two_below H1.out H2.out) B13
  have T3 := Lib.hid (two_below t3 (Below.drew (Below.refl _ _)))
  have L3 := Lib.hid (lies_drewN hl2 1)
  have LB3 := Lib.hid (lies_below (lies_below HL.out B13 (lies_lt HL.out)) (Below.drew (Below.refl w3.heap.size w3)) (Nat.lt_of_lt_of_le (lies_lt HL.out) z3))
  have SR := Lib.hid (show Src8 w3.drew ⟨g2, 0, none⟩ (blk b) 512 from fun j hj => by
    rw [Addr.add_mid, Nat.zero_add]
    show w3.cell? ⟨g2, j, none⟩ = _
    rw [lies_cell hl2, hcur j hj])
  have cA3 : w3.drew.cell? ⟨w.heap.size, 1, none⟩ = some (.int .i64 z) := by
    show w3.cell? ⟨w.heap.size, 1, none⟩ = _
    rw [B13.cell (p := ⟨w.heap.size, 1, none⟩) (by show w.heap.size < _; omega)]
    exact cA2.out
  have hg3 : g2 < w3.heap.size := lies_lt hl2
  have nfp : ¬ fp g2 := fun h => by have := lfp _ h; omega
  have nfq : ¬ fq g2 := fun h => by have := lfq _ h; omega
  have DW := Lib.hid (dk_write_g ⟨g2, 0, none⟩ C2 (blk b) w3.drew (by omega) HLF.out HWR.out T3.out.d SR.out hg3 nfp)
  have KB := Lib.hid (show Below w.heap.size w w3.drew from (BB.out.trans (H2.out.mono (by omega))).trans ((B13.mono (by omega)).trans (Below.drew (Below.refl _ _))))
  have HC2 : (512 : Int) ≤ (C2 : Int) := by omega
  have HC0 : (0 : Int) ≤ (512 : Int) := by omega
  refine wp_region_any (by kernel_rfl) ?_
  change wpAny _ _ _ _ _ _ _ (World.drew w3)
  refine open_take 0 (some 76) (.pointer (some ⟨g, 0, none⟩)) rfl rfl (by kernel_rfl) (by kernel_rfl) (by kernel_rfl) (fun _ _ _ h => h) (Or.inl ⟨by rfl, fun _ => by kernel_rfl⟩) ?_
  refine open_take 1 (some 77) (.pointer (some ⟨w.heap.size, 1, none⟩)) rfl rfl (by kernel_rfl) (by kernel_rfl) (by kernel_rfl) (fun _ _ _ h => h) (Or.inl ⟨by rfl, fun _ => by kernel_rfl⟩) ?_
  refine open_take 3 (some 79) (.slice (some ⟨g2, 0, none⟩) 513 C2) rfl rfl (by kernel_rfl) (by kernel_rfl) (by kernel_rfl) (fun _ _ _ h => h) (Or.inl ⟨by rfl, fun _ => by kernel_rfl⟩) ?_
  refine open_take 4 (some 80) (.slice (some ⟨g2, 0, none⟩) 512 C2) rfl rfl (by kernel_rfl) (by kernel_rfl) (by kernel_rfl) (fun _ _ _ h => h) (Or.inl ⟨by rfl, fun _ => by go_simp⟩) ?_
  refine wpAny_ready (rs := [2]) (by kernel_rfl) (by simp) ?_
  refine open_value (some 78) (.int .i64 z) rfl rfl rfl (by go_simp) ?_ AllReady.nil
  refine wpAny_ready (rs := [5]) (by kernel_rfl) (by simp) ?_
  refine open_call (some 81) (.int .i64 yc) _ rfl rfl rfl 22 #[.pointer (some ⟨g, 0, none⟩), .int .i64 z, .slice (some ⟨g2, 0, none⟩) 512 C2] (by kernel_rfl) DW.out (fun w4 hR => ?_) AllReady.nil
  refine wpAny_ready (rs := [6]) (by kernel_rfl) (by simp) ?_
  refine open_value (some 15) (.int .i64 yc) rfl rfl rfl (by kernel_rfl) ?_ AllReady.nil
  refine wpAny_done (by kernel_rfl) ?_ _
  obtain ⟨⟨fp', hs1, hd4⟩, hk4⟩ := hR
  have hd4' : DK w4 g n F ws' on' lf' fp' := hd4
  have hrb3 : rb < w3.heap.size := by have := lies_lt HL.out; omega
  have nrp : ¬ fp rb := fun h => by have := lfp _ h; have := HRB.out; omega
  have nrq : ¬ fq rb := fun h => by have := lfq _ h; have := HRB.out; omega
  have LR4 := Lib.hid (show Lies w4 rb 5 (yRow (blk b) 512) from (hk4.block rb hrb3 nrp).trans LB3.out)
  have LG4 := Lib.hid (show Lies w4 g2 5 cur from (hk4.block g2 hg3 nfp).trans hl2)
  have hz34 : w3.heap.size ≤ w4.heap.size := hk4.size
  have cA4 : w4.cell? ⟨w.heap.size, 1, none⟩ = some (.int .i64 z) :=
    (World.cell?_of_block (a := ⟨w.heap.size, 1, none⟩) (hk4.block w.heap.size (by show w.heap.size < w3.heap.size; omega) (fun h => by have := lfp _ h; omega))).trans cA3
  have RW := Lib.hid (rd_write_g rb 512 (blk b) w4 (by omega) HLF.out HWR.out (src_row LR4.out) (by omega) (rd_frame T3.out.r hk4 (apart_symm T3.out.apart)))
  have AP1 : Apart fp' fq := apart_sub T3.out.apart hs1 (fun i hi => by have := lfq i hi; show i < w3.heap.size; omega)
  have HD4 := Lib.hid hd4'
  have HS1 := Lib.hid hs1
  have HK4 := Lib.hid hk4
  clear hd4 hd4' hs1 hk4 cA3 DW SR
  go_upto_region 20 with (go_at_call 35; (with_reducible refine RW.out.mono ?_); rintro e w5 ⟨rfl, ⟨fq', hs2, hr5⟩, hk5⟩; have HR5 := Lib.hid (show RD w5 r n F ws' on' lf' fq' from hr5); have HS2 := Lib.hid hs2; have HK5 := Lib.hid hk5; clear hs2 hr5 hk5)
  have hz45 : w4.heap.size ≤ w5.heap.size := HK5.out.size
  have LR5 := Lib.hid (show Lies w5 rb 5 (yRow (blk b) 512) from (HK5.out.block rb (by omega) nrq).trans LR4.out)
  have LG5 := Lib.hid (show Lies w5 g2 5 cur from (HK5.out.block g2 (by omega) nfq).trans LG4.out)
  have AP2 : Apart fp' fq' := apart_symm (apart_sub (apart_symm AP1) HS2.out (fun i hi => HD4.out.2 i hi))
  have HD5 := Lib.hid (dk_frame HD4.out HK5.out AP1)
  have np2 : ¬ fp' g2 := fun h => (HS1.out g2 h).elim nfp (fun h2 => by have : w3.heap.size ≤ g2 := h2; omega)
  have nq2 : ¬ fq' g2 := fun h => (HS2.out g2 h).elim nfq (fun h2 => by omega)
  obtain ⟨T, hT⟩ : ∃ T, T = text8 (blk b) 512 := ⟨_, rfl⟩
  have CV1 : ∀ k, (convert 44 9 (.slice (some ⟨g2, 0, none⟩) 512 C2)).run Try.prog (w5.drewN k) = .ok (.string T) (w5.drewN k) := fun k => by
    rw [hT]
    exact run_text ⟨g2, 0, none⟩ 512 C2 (blk b) (w5.drewN k) (fun j hj => by rw [Addr.add_mid, Nat.zero_add]; show w5.cell? ⟨g2, j, none⟩ = _; rw [lies_cell LG5.out, hcur j hj])
  have CV2 : ∀ k, (convert 44 9 (.slice (some ⟨rb, 0, none⟩) 512 512)).run Try.prog (w5.drewN k) = .ok (.string T) (w5.drewN k) := fun k => by rw [hT]; exact run_text ⟨rb, 0, none⟩ 512 512 (blk b) (w5.drewN k) (src_row (lies_drewN LR5.out k))
  have c167 : w5.cell? ⟨g2, 512, none⟩ = some (.int .u8 167) := (lies_cell LG5.out 512).trans h512
  clear hT hcur h512 cA4 RW t3 hl2
  go_quiet (fail)
  clear CV1 CV2 c167
  have HX := Lib.hid (show Keeps (fun i => i = g2) w5 (w5.drewN nq) from keeps_below (below_drewN (Below.refl _ _) _))
  go_wp2
  go_loopw [17] (fun v wr => ∃ (i : Nat) (cs : Array Value), i ≤ 512 ∧ v = .int .i64 (i : Int) ∧ Lies wr g2 5 cs ∧ 513 ≤ cs.size ∧ (∀ j, j < 512 → ∃ y, cs[j]? = some y) ∧ Keeps (fun i => i = g2) w5 wr) (fun v _ => 512 - (intOf v).toNat)
  case atStart => exact ⟨0, cur, by omega, rfl, lies_drewN LG5.out _, by omega, (fun j hj => ⟨_, Array.getElem?_eq_getElem (by omega)⟩), HX.out⟩
  case round =>
    obtain ⟨i, cs, hi, rfl, hl, hs, hc, hb⟩ := hrel
    have HLr := Lib.hid hl
    have HS := Lib.hid hs
    have HC := Lib.hid hc
    have HBr := Lib.hid hb
    clear hl hs hc hb
    by_cases hlt : i < 512
    · have li : (i : Int) < 512 := by omega
      have li2 : (i : Int) < 513 := by omega
      obtain ⟨y, hy⟩ := HC.out i hlt
      have cc : wr.cell? ⟨g2, i, none⟩ = some y := (lies_cell HLr.out i).trans hy
      have ff := lies_free HLr.out i
      have q2 : i + 1 ≤ 512 := hlt
      clear hy
      go_wp2
      go_roundw
      case rel =>
        refine ⟨i + 1, _, q2, by go_num, lies_set HLr.out i _, by rw [Array.size_setIfInBounds]; exact HS.out, fun j hj => ?_, keeps_tr HBr.out (keeps_set (fp := fun i => i = g2) rfl _)⟩
        rw [Array.getElem?_setIfInBounds]
        by_cases e : i = j
        · rw [if_pos e, if_pos (by have := HS.out; omega)]; exact ⟨_, rfl⟩
        · rw [if_neg e]; exact HC.out j hj
      case measure => first | (simp [intOf]; done) | (simp [intOf]; omega)
    · have li : ¬ (i : Int) < 512 := by omega
      go_wp2_with (go_at_call 24; (with_reducible refine (num_any _ _).mono ?_); rintro e w' ⟨rfl, rfl⟩)
      go_ret
      have hkw := HBr.out
      have a1 : Apart fp' (fun i => i = g2) := fun i h1 h2 => np2 (h2 ▸ h1)
      have a2 : Apart fq' (fun i => i = g2) := fun i h1 h2 => nq2 (h2 ▸ h1)
      refine ⟨rfl, ⟨fp', fq', fun i h => (HS1.out i h).imp id (fun h2 => ?_), fun i h => (HS2.out i h).imp id (fun h2 => ?_), ⟨dk_frame HD5.out hkw a1, rd_frame HR5.out hkw a2, AP2⟩⟩, ?_⟩
      · have : w3.heap.size ≤ i := h2; omega
      · omega
      · refine ⟨?_, ?_, ?_, ?_, fun k hk hn => ?_⟩
        · exact hkw.os.trans (HK5.out.os.trans (HK4.out.os.trans KB.out.os))
        · exact hkw.tape.trans (HK5.out.tape.trans (HK4.out.tape.trans KB.out.tape))
        · exact hkw.output.trans (HK5.out.output.trans (HK4.out.output.trans KB.out.output))
        · have := hkw.size; have := KB.out.size; show w.heap.size ≤ _; omega
        · rw [hkw.block k (by omega) (fun e => by have : k = g2 := e; omega), HK5.out.block k (by omega) (fun h => hn (.inr h)), HK4.out.block k (by show k < w3.heap.size; omega) (fun h => hn (.inl h)), KB.out.block k hk]
end
end Go.Proofs.Ytibidljblkfciaa
