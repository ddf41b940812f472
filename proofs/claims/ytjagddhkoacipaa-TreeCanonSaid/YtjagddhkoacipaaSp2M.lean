/-
What is proved here: Spoil, by a contract: it writes over a tree of the call's own, and over nothing else.
-/
import Derived.Test.YtjagddhkoacipaaSpoM
import Derived.StillTailTactics
import Derived.Great.Walk
set_option linter.unusedSimpArgs false
set_option linter.unusedVariables false
namespace Go.Proofs.Ytjagddhkoacipaa
open Go.Pth Go.Tre Go.RowKit Go.Word Go.Shelf
theorem xor255_byte (c : UInt8) : bits .xor .u8 (c.toNat : Int) 255 = ((c ^^^ 255).toNat : Int) := by
  have hx : bits .xor .u8 (c.toNat : Int) 255 = IntKind.u8.wrap ((BitVec.ofInt 8 (c.toNat : Int) ^^^ BitVec.ofInt 8 255).toNat : Int) := rfl
  have hc := c.toNat_lt
  have h1 : (BitVec.ofInt 8 (c.toNat : Int)).toNat = c.toNat := by
    rw [BitVec.ofInt_natCast, BitVec.toNat_ofNat]; exact Nat.mod_eq_of_lt (by omega)
  have h2 : c.toNat ^^^ 255 < 2 ^ 8 := Nat.xor_lt_two_pow (by omega) (by omega)
  rw [hx, BitVec.toNat_xor, h1, UInt8.toNat_xor]
  show IntKind.u8.wrap ((c.toNat ^^^ 255 : Nat) : Int) = ((c.toNat ^^^ 255 : Nat) : Int)
  simp only [IntKind.wrap, IntKind.bits, IntKind.signed]
  simp
  omega
set_option maxRecDepth 100000 in
set_option maxHeartbeats 8000000 in
theorem spoil_any (B : Nat) (vN vF : Value) (D : Nat → Value) (ns : List Nd) (fs : List Fl) (w : World) (hC : CopyAt w B vN vF D ns fs) (hB : B ≤ w.heap.size) (h1 : ns.length ≤ 1000) (h2 : fs.length ≤ 1000) (h3 : ∀ x ∈ fs, x.data.length ≤ 1000000)
    (P : Nat → Prop) (hP0 : ∀ r, P r → r < w.heap.size) (hP1 : ∀ r, vN.ownBlock = some r → ¬ P r) (hP2 : ∀ r, vF.ownBlock = some r → ¬ P r) (hP3 : ∀ i, i < fs.length → ∀ r, (D i).ownBlock = some r → ¬ P r) :
    Calls Try.prog 20 #[.agg #[vN, vF]] w fun e w' => e = .returned (.tuple #[]) ∧ Below B w w' ∧ ∀ r, P r → w'.heap[r]? = w.heap[r]? := by
  obtain ⟨A1, C1, rfl⟩ := own_slice hC.nodes
  obtain ⟨A2, C2, rfl⟩ := own_slice hC.files
  have hS := sp_of_copy hC
  have HP1 := Lib.hid hP1
  have HP2 := Lib.hid hP2
  have HP3 := Lib.hid hP3
  have KX := Lib.hid (show ∀ r, P r → (w.alloc (.cells #[.slice A1 ns.length C1, .slice A2 fs.length C2] 25)).heap[r]? = w.heap[r]? from fun r hr => heap_alloc_old w _ (hP0 r hr))
  clear hP0 hP1 hP2 hP3
  obtain ⟨len, hl⟩ : ∃ len : Nat → Nat, len = fun i => (fs.getD i ⟨0, []⟩).data.length := ⟨_, rfl⟩
  have hlen : ∀ i, i < fs.length → len i ≤ 1000000 := fun i hi => by
    rw [hl]
    show (fs.getD i ⟨0, []⟩).data.length ≤ _
    rw [List.getD_eq_getElem?_getD, List.getElem?_eq_getElem hi]
    exact h3 _ (List.getElem_mem hi)
  rw [← hl] at hS
  have HLN := Lib.hid hlen
  clear h3 hC hl hlen
  generalize ns.length = n at *
  generalize fs.length = m at *
  have bX : Below w.heap.size w (w.alloc (.cells #[.slice A1 n C1, .slice A2 m C2] 25)) := (Below.refl _ _).alloc (Nat.le_refl _) _
  have LX := Lib.hid (lies_new w 25 #[.slice A1 n C1, .slice A2 m C2])
  have SX := Lib.hid (sp_below hS bX)
  have BX := Lib.hid (bX.mono hB)
  clear bX hS
  go_enter Try.func20, Try.ntmps20
  go_upto_region 1 with (fail)
  have hw := hB
  generalize w.alloc (.cells #[.slice A1 n C1, .slice A2 m C2] 25) = X at *
  obtain ⟨S, hSe⟩ : ∃ S, S = w.heap.size := ⟨_, rfl⟩
  rw [← hSe] at LX
  rw [← hSe]
  clear hSe
  have x0 := lies_cell LX.out 0
  have x1 := lies_cell LX.out 1
  simp only [List.getElem?_toArray, List.getElem?_cons_zero, List.getElem?_cons_succ] at x0 x1
  have far : ∀ (W : World) (t : TypeId) (g j : Nat) (cs : Array Value) (u : Value), Lies W S 25 #[.slice A1 n C1, .slice A2 m C2] → W.heap[g]? = some (.cells cs t (0, 0)) → t ≠ 25 → Lies (W.setCell ⟨g, j, none⟩ u) S 25 #[.slice A1 n C1, .slice A2 m C2] := fun W t g j cs u h hg ht => lies_far (p := ⟨g, j, none⟩) h (fun e => by
    have e : S = g := e
    subst e
    have h4 := (show W.heap[S]? = _ from h).symm.trans hg
    injection h4 with h4
    injection h4 with _ h5 _
    exact ht h5.symm) u
  go_wp2
  go_loopw [2] (fun v2 wr => ∃ i : Nat, i ≤ n ∧ v2 = .int .i64 (i : Int) ∧ SpAt wr B (.slice A1 n C1) (.slice A2 m C2) D n m len ∧ Lies wr S 25 #[.slice A1 n C1, .slice A2 m C2] ∧ Below B w wr ∧ ∀ r, P r → wr.heap[r]? = w.heap[r]?) (fun v2 _ => n - (intOf v2).toNat)
  case atStart => exact ⟨0, Nat.zero_le _, rfl, SX.out, LX.out, BX.out, KX.out⟩
  case round =>
    obtain ⟨i, hi, rfl, hs, hl, hb, hkp⟩ := hrel
    have HK := Lib.hid hkp
    clear hkp
    have HS := Lib.hid hs
    have HL := Lib.hid hl
    have HB := Lib.hid hb
    clear hs hl hb x0 x1 SX LX BX
    have x0 := lies_cell HL.out 0
    have x1 := lies_cell HL.out 1
    simp only [List.getElem?_toArray, List.getElem?_cons_zero, List.getElem?_cons_succ] at x0 x1
    by_cases hlt : i < n
    · have li : (i : Int) < (n : Int) := by omega
      obtain ⟨xs, hx⟩ := HS.out.nodes
      obtain ⟨g, rfl⟩ := own_at hx (by omega)
      obtain ⟨hgB, cs, hgg⟩ := own_heap hx g rfl
      have TH := Lib.hid (rowed_there ⟨xs, hx⟩ (i * 3) 3 (by omega))
      have S6 := Lib.hid (sp_node (sp_node (sp_node HS.out (i * 3) (.string { data := #[63] })) (i * 3 + 1) (.int .i64 (-9))) (i * 3 + 1 + 1) (.int .i64 (-9)))
      have k1 := lies_set (show Lies wr g 54 cs from hgg) (i * 3) (.string { data := #[63] })
      have k2 := lies_set k1 (i * 3 + 1) (.int .i64 (-9))
      have L6 := Lib.hid (far _ 54 g (i * 3 + 1 + 1) _ (.int .i64 (-9)) (far _ 54 g (i * 3 + 1) _ (.int .i64 (-9)) (far wr 54 g (i * 3) cs (.string { data := #[63] }) HL.out hgg (by decide)) k1 (by decide)) k2 (by decide))
      have B6 := Lib.hid (below_setCell (below_setCell (below_setCell HB.out (p := ⟨g, i * 3, none⟩) hgB (.string { data := #[63] })) (p := ⟨g, i * 3 + 1, none⟩) hgB (.int .i64 (-9))) (p := ⟨g, i * 3 + 1 + 1, none⟩) hgB (.int .i64 (-9)))
      have K6 := Lib.hid (show ∀ r, P r → (((wr.setCell ⟨g, i * 3, none⟩ (.string { data := #[63] })).setCell ⟨g, i * 3 + 1, none⟩ (.int .i64 (-9))).setCell ⟨g, i * 3 + 1 + 1, none⟩ (.int .i64 (-9))).heap[r]? = w.heap[r]? from fun r hr => by
        have ne : r ≠ g := fun e => HP1.out g rfl (e ▸ hr)
        rw [Below.heap_setCell _ _ _ r ne, Below.heap_setCell _ _ _ r ne, Below.heap_setCell _ _ _ r ne]
        exact HK.out r hr)
      clear hx hgB hgg k1 k2
      go_wp2_with (refine wpList_store_mid rfl 54 _ _ rfl g (i * 3) #[.string { data := #[63] }, .int .i64 (-9), .int .i64 (-9)] rfl rfl TH.out (by kernel_rfl) (by simp [Value.oneCell']) ?_)
      go_roundw
      case rel => exact ⟨i + 1, by omega, by go_num, S6.out, L6.out, B6.out, K6.out⟩
      case measure => first | (simp [intOf]; done) | (simp [intOf]; omega)
    · have li : ¬ (i : Int) < (n : Int) := by omega
      go_wp2
      go_loopw [3] (fun v3 wr => ∃ q : Nat, q ≤ m ∧ v3 = .int .i64 (q : Int) ∧ SpAt wr B (.slice A1 n C1) (.slice A2 m C2) D n m len ∧ Lies wr S 25 #[.slice A1 n C1, .slice A2 m C2] ∧ Below B w wr ∧ ∀ r, P r → wr.heap[r]? = w.heap[r]?) (fun v3 _ => m - (intOf v3).toNat)
      case atStart => exact ⟨0, Nat.zero_le _, rfl, HS.out, HL.out, HB.out, HK.out⟩
      case round =>
        obtain ⟨q, hq, rfl, hs, hl, hb, hkp⟩ := hrel
        have HK2 := Lib.hid hkp
        clear hkp
        have HS2 := Lib.hid hs
        have HL2 := Lib.hid hl
        have HB2 := Lib.hid hb
        clear hs hl hb x0 x1 HS HL HB
        have x0 := lies_cell HL2.out 0
        have x1 := lies_cell HL2.out 1
        simp only [List.getElem?_toArray, List.getElem?_cons_zero, List.getElem?_cons_succ] at x0 x1
        by_cases hqm : q < m
        · have lq : (q : Int) < (m : Int) := by omega
          obtain ⟨gs, hgs, hf⟩ := HS2.out.files
          obtain ⟨g, rfl⟩ := own_at hf (by omega)
          obtain ⟨l0, hl0, ho0⟩ := HS2.out.data q hqm
          obtain ⟨Ad, Cd, eD⟩ := own_slice ho0
          rw [hl0] at eD
          have hll := HLN.out q hqm
          have ED := Lib.hid eD
          obtain ⟨lk, hlk⟩ : ∃ lk, lk = len q := ⟨_, rfl⟩
          rw [← hlk] at ED hll
          have LK := Lib.hid hlk
          clear gs hgs hf l0 hl0 ho0 eD hlk
          have cells : ∀ W : World, SpAt W B (.slice A1 n C1) (.slice (some ⟨g, 0, none⟩) m C2) D n m len → W.cell? ⟨g, q * 2 + 1, none⟩ = some (.slice Ad lk Cd) := fun W h => by
            obtain ⟨gs, hgs, hf⟩ := h.files
            rw [hf.cellAt _ (by omega), (fcells_at D gs q (by omega)).2, ED.out]
          have CS := Lib.hid cells
          have y1 := cells wr HS2.out
          clear cells
          have HQ := Lib.hid hqm
          go_wp2
          go_loopw [4] (fun v4 wr => ∃ k : Nat, k ≤ lk ∧ v4 = .int .i64 (k : Int) ∧ SpAt wr B (.slice A1 n C1) (.slice (some ⟨g, 0, none⟩) m C2) D n m len ∧ Lies wr S 25 #[.slice A1 n C1, .slice (some ⟨g, 0, none⟩) m C2] ∧ Below B w wr ∧ ∀ r, P r → wr.heap[r]? = w.heap[r]?) (fun v4 _ => lk - (intOf v4).toNat)
          case atStart => exact ⟨0, Nat.zero_le _, rfl, HS2.out, HL2.out, HB2.out, HK2.out⟩
          case round =>
            obtain ⟨k, hk, rfl, hs, hl, hb, hkp⟩ := hrel
            have HK3 := Lib.hid hkp
            clear hkp
            have HS3 := Lib.hid hs
            have HL3 := Lib.hid hl
            have HB3 := Lib.hid hb
            clear hs hl hb x0 x1 y1 HS2 HL2 HB2
            have x0 := lies_cell HL3.out 0
            have x1 := lies_cell HL3.out 1
            simp only [List.getElem?_toArray, List.getElem?_cons_zero, List.getElem?_cons_succ] at x0 x1
            have y1 := CS.out wr HS3.out
            by_cases hkl : k < lk
            · have lkk : (k : Int) < (lk : Int) := by omega
              obtain ⟨l0, hl0, ho0⟩ := HS3.out.data q hqm
              have ho1 : wr.ownsRow B 5 1 (.slice Ad lk Cd) lk (l0.map yB) := by
                have h := ho0
                unfold OwnB at h
                rw [ED.out, hl0, ← LK.out] at h
                exact h
              obtain ⟨gb, hgb⟩ := own_at ho1 (by omega)
              subst hgb
              have hl1 : k < l0.length := by rw [hl0, ← LK.out]; exact hkl
              have b0 : wr.cell? ⟨gb, k, none⟩ = some (.int .u8 (l0[k].toNat : Int)) := by
                rw [ho1.cellAt k (by omega), List.getElem?_map, List.getElem?_eq_getElem hl1]
                rfl
              have v0 := ho1.frozenAt k
              have hcx := xor255_byte l0[k]
              generalize l0[k] = c at *
              have HCX := Lib.hid hcx
              have v0 : wr.drew.frozen? ⟨gb, k, none⟩ = false := v0
              have b0 : wr.drew.cell? ⟨gb, k, none⟩ = some (.int .u8 (c.toNat : Int)) := b0
              have x0 : wr.drew.cell? ⟨S, 0, none⟩ = some (.slice A1 n C1) := x0
              have x1 : wr.drew.cell? ⟨S, 1, none⟩ = some (.slice (some ⟨g, 0, none⟩) m C2) := x1
              have y1 : wr.drew.cell? ⟨g, q * 2 + 1, none⟩ = some (.slice (some ⟨gb, 0, none⟩) lk Cd) := y1
              have hgB := (own_heap ho1 gb rfl).1
              obtain ⟨cs, hgg⟩ := (own_heap ho1 gb rfl).2
              have SN2 := Lib.hid (sp_byte (k := k) (sp_below HS3.out ((Below.refl wr.heap.size wr).drew)) hqm (by rw [ED.out, LK.out]) (c ^^^ 255))
              have LN2 := Lib.hid (far wr.drew 5 gb k cs (.int .u8 ((c ^^^ 255).toNat : Int)) (lies_drew HL3.out) hgg (by decide))
              have BN2 := Lib.hid (below_setCell HB3.out.drew (p := ⟨gb, k, none⟩) hgB (.int .u8 ((c ^^^ 255).toNat : Int)))
              have KN2 := Lib.hid (show ∀ r, P r → (wr.drew.setCell ⟨gb, k, none⟩ (.int .u8 ((c ^^^ 255).toNat : Int))).heap[r]? = w.heap[r]? from fun r hr => by
                have ne : r ≠ gb := fun e => HP3.out q hqm gb (by rw [ED.out]; rfl) (e ▸ hr)
                rw [Below.heap_setCell _ _ _ r ne]
                exact HK3.out r hr)
              clear hl0 ho0 ho1 hl1 hgB hgg hcx
              go_upto_region 11 with (fail)
              go_still_tail 18, (by kernel_rfl)
              change wpList _ _ _ _ _ wr.drew
              generalize wr.drew = wd at *
              go_wp2
              rw [HCX.out]
              go_roundw
              case rel => exact ⟨k + 1, by omega, by go_num, SN2.out, LN2.out, BN2.out, KN2.out⟩
              case measure => first | (simp [intOf]; done) | (simp [intOf]; omega)
            · have lkk : ¬ (k : Int) < (lk : Int) := by omega
              have SM := Lib.hid (sp_mode HS3.out hqm (-9))
              obtain ⟨gs, hgs, hf⟩ := HS3.out.files
              obtain ⟨hgB, cs, hgg⟩ := own_heap hf g rfl
              have v0 := hf.frozenAt (q * 2)
              have m0 := hf.cellAt (q * 2) (by omega)
              rw [(fcells_at D gs q (by omega)).1] at m0
              obtain ⟨mq, mcell⟩ : ∃ mq, wr.cell? ⟨g, q * 2, none⟩ = some (.int .i64 mq) := ⟨_, m0⟩
              clear m0
              have LM := Lib.hid (far wr 57 g (q * 2) cs (.int .i64 (-9)) HL3.out hgg (by decide))
              have BM := Lib.hid (below_setCell HB3.out (p := ⟨g, q * 2, none⟩) hgB (.int .i64 (-9)))
              have KM := Lib.hid (show ∀ r, P r → (wr.setCell ⟨g, q * 2, none⟩ (.int .i64 (-9))).heap[r]? = w.heap[r]? from fun r hr => by
                have ne : r ≠ g := fun e => HP2.out g rfl (e ▸ hr)
                rw [Below.heap_setCell _ _ _ r ne]
                exact HK3.out r hr)
              clear hgs hf hgB hgg
              go_wp2
              go_roundw
              case rel => exact ⟨q + 1, by omega, by go_num, SM.out, LM.out, BM.out, KM.out⟩
              case measure => first | (simp [intOf]; done) | (simp [intOf]; omega)
        · have lq : ¬ (q : Int) < (m : Int) := by omega
          go_wp2
          refine Go.Great.bodyPost_end0 rfl rfl ?_
          exact ⟨rfl, HB2.out, HK2.out⟩
end Go.Proofs.Ytjagddhkoacipaa
