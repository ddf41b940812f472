/-
What is proved here: the document's own SHA, by a contract.
-/
import Derived.Test.YtlnmaejpchncoaaDoorRefB
import Derived.Test.YtlnmaejpchncoaaDoorFill
set_option linter.unusedSimpArgs false
namespace Go.Proofs.YtlnmaejpchncoaaDoor
open Go.Word Go.RowKit
theorem eight_cell (k q : Nat) : #[Value.int .u8 ((k : Int) * 8 / 2 ^ (8 * q) % 256)] = ([BitVec.ofNat 8 (k * 8 / 2 ^ (8 * q))].map Y).toArray := by
  have : Value.int .u8 ((k : Int) * 8 / 2 ^ (8 * q) % 256) = Y (BitVec.ofNat 8 (k * 8 / 2 ^ (8 * q))) := by
    unfold Y
    rw [BitVec.toNat_ofNat, Int.natCast_emod, Int.natCast_ediv, Int.natCast_mul, Int.natCast_pow]
    rfl
  rw [this]
  rfl
theorem slice_part (A : Option Addr) (k c m : Nat) (ad : Addr) (hA : A = some ad) (h : m + 64 < c ∨ m + 64 = c) (W : World) : (Instr.slice 24 (.slice A k c) (some (.int .i64 (m : Int))) (some (.int .i64 ((m : Int) + 64))) none).run Tryd.prog W = .ok (.slice (some (ad.add m)) 64 (c - m)) W := by
  subst hA
  have := run_slice_lh (P := Tryd.prog) W 24 (some ad) k c Tryd.underlying24 .i64 .i64 (m : Int) ((m : Int) + 64) (by omega) (by omega) (by omega)
  rw [this]
  have hz : (sizeOf (Tryd.prog.elem 24)).run Tryd.prog W = .ok 1 W := by kernel_rfl
  rw [hz]
  have e : ((m : Int) + 64).toNat = m + 64 := by omega
  simp [sliced, Result.andThen, e, show ¬ c = m by omega]
theorem behind_h {w5 wr W : World} {o1 o2 : Array Value} (h5 : Below ((wr.alloc (.cells o1 59)).setRow wr.heap.size (stRow st0)).heap.size ((wr.alloc (.cells o1 59)).setRow wr.heap.size (stRow st0)) w5) (hW : (w5.alloc (.cells o2 60)).setRow w5.heap.size (uRow key 64) = W) :
    Lies W wr.heap.size 59 (stRow st0) ∧ Lies W w5.heap.size 60 (uRow key 64) ∧ Below wr.heap.size wr W ∧ wr.heap.size < w5.heap.size := by
  have z := h5.size
  have z1 : ((wr.alloc (.cells o1 59)).setRow wr.heap.size (stRow st0)).heap.size = wr.heap.size + 1 := by simp
  have b1 : Below wr.heap.size wr ((wr.alloc (.cells o1 59)).setRow wr.heap.size (stRow st0)) := below_setRow (below_new wr _) (Nat.le_refl _) _
  have k1 := lies_below (lies_setRow (lies_new wr 59 o1) (stRow st0)) h5 (by omega)
  subst hW
  refine ⟨(setRow_other _ _ _ _ (by omega)).trans (lies_alloc k1 _), lies_setRow (lies_new w5 60 o2) _, below_setRow ((b1.trans (h5.mono (by omega))).alloc (by omega) _) (by omega) _, by omega⟩
theorem run_val {x : Sem Value} {v : Value} {W : World} (h : x.run Tryd.prog W = .ok v W) : (do pure (Next.value (← x))).run Tryd.prog W = .ok (.value v) W := by rw [Sem.run_bind, h]; rfl
theorem add_up (I : Nat) (W : World) (h : I ≤ 50000) : (execOp (fun x => match x with | .tmp _ => .int .i64 (I : Int) | .const v => v | _ => undef) { dst := some 52, op := .binOp .add 3 (.tmp 51) (.const (.int .i64 64)) 3, type := 3, pos := "sum.go:80", after := #[{ on := 3, ground := .data }], guard := none }).run Tryd.prog W = .ok (.value (.int .i64 ((I : Int) + 64))) W := by
  unfold execOp
  go_simp
  rw [IntWalk.i64_left, IntWalk.wrap64_in _ (by omega)]
theorem shr_at_u (x : BitVec 32) (i : Nat) : binOp .shr 58 (U x) (.int .u64 (24 - 8 * ((i : Int) % 4))) = pure (U (x >>> (24 - 8 * (i % 4)))) := by
  have := u_shr 58 .u64 x (24 - 8 * ((i : Int) % 4)) (by omega) (by omega)
  rw [this, show (24 - 8 * ((i : Int) % 4)).toNat = 24 - 8 * (i % 4) by omega]
theorem st_spl (Z X : St) : spl (stRow Z) 0 (stRow X).toList = stRow X := by
  refine Array.ext_getElem? fun i => ?_
  rcases Nat.lt_or_ge i 8 with h | h
  · have := spl_in (stRow X).toList (stRow Z) 0 i (by rw [Array.length_toList, stRow_size]; exact h) (by rw [Array.length_toList, stRow_size, stRow_size]; decide)
    rw [Nat.zero_add, Array.getElem?_toList] at this
    exact this
  · rw [Array.getElem?_eq_none (by rw [spl_size, stRow_size]; exact h), Array.getElem?_eq_none (by rw [stRow_size]; exact h)]
theorem behind_round {w wx w' : World} {g q m M I : Nat} {b : List (BitVec 8)} {Z : St} {p : Nat → BitVec 8} {A : Option Addr} (hI : I = 64 * m) (hlt : m < M) (hZ : Z = chain key (full b) m) (hp : p = fun j => (full b).getD (I + j) 0)
    (h1 : Lies wx g 59 (stRow Z)) (h2 : Lies wx q 60 (uRow key 64)) (h3 : Src wx g A (full b)) (h4 : Row wx w.heap.size 34 32 (fun _ => undef) 0) (h5 : Below w.heap.size w wx) (hb : Below wx.drew.heap.size wx.drew w') (hgq : g < q) (hwg : w.heap.size < g) :
    ∃ m' I', m' ≤ M ∧ I' = 64 * m' ∧ Value.int .i64 ((I : Int) + 64) = .int .i64 (I' : Int) ∧ Lies (w'.setCells g 0 (stRow (mixed key Z p)).toList) g 59 (stRow (chain key (full b) m')) ∧ Lies (w'.setCells g 0 (stRow (mixed key Z p)).toList) q 60 (uRow key 64) ∧ Src (w'.setCells g 0 (stRow (mixed key Z p)).toList) g A (full b) ∧ Row (w'.setCells g 0 (stRow (mixed key Z p)).toList) w.heap.size 34 32 (fun _ => undef) 0 ∧ Below w.heap.size w (w'.setCells g 0 (stRow (mixed key Z p)).toList) := by
  have e : mixed key Z p = chain key (full b) (m + 1) := by
    rw [hZ, hp, hI]; rfl
  have hx := lies_lt h1
  have k1 := lies_below (lies_drew h1) hb hx
  obtain ⟨X, hX⟩ : ∃ X, X = mixed key Z p := ⟨_, rfl⟩
  rw [← hX] at e ⊢
  clear hX
  have hg2 : w'.grownBy (w'.setCells g 0 (stRow (X)).toList) (some g) := only_setCells _ _ _ (only_refl _ _)
  refine ⟨m + 1, I + 64, by omega, by omega, by simp, ?_, ?_, ?_, ?_, ?_⟩
  · rw [← e]
    have := lies_spl (stRow X).toList w' _ 0 k1
    have h8 := st_spl Z X
    rw [h8] at this
    exact this
  · have k := lies_below (lies_drew h2) hb (lies_lt h2)
    exact (hg2.block q (lies_lt k) (fun e => by injection e; omega)).trans k
  · intro h0
    obtain ⟨ad, e1, e3, e2, e4⟩ := h3 h0
    have hz := hb.size
    have ez : (w'.setCells g 0 (stRow (X)).toList).heap.size ≥ w'.heap.size := hg2.size
    refine ⟨ad, e1, Nat.lt_of_lt_of_le e3 (Nat.le_trans hz ez), e2, fun j hj => ?_⟩
    have eb := add_block ad j
    have hz' : wx.heap.size ≤ w'.heap.size := hz
    rw [only_cell hg2 (by rw [eb]; omega) (by rw [eb]; exact e2), hb.cell (by rw [eb]; exact e3)]
    exact e4 j hj
  · obtain ⟨cs, k, r⟩ := row_below (row_drew h4) hb (row_lt h4)
    exact ⟨cs, (hg2.block w.heap.size (lies_lt k) (fun e => by injection e; omega)).trans k, r⟩
  · exact only_up (h5.drew.trans (hb.mono h5.size)) hg2 (by omega)
theorem full_len (l : List (BitVec 8)) : (full l).length = l.length + (gap l.length + 8) := by simp [full, pad_len]
theorem part_at {w : World} {ad : Addr} {f : List (BitVec 8)} (hc : ∀ j, j < f.length → w.cell? (ad.add j) = some (Y (f.getD j 0))) {m : Nat} (hm : m + 64 ≤ f.length) : ∀ j, j < 64 → w.cell? ((ad.add m).add j) = some (Y (f.getD (m + j) 0)) := fun j hj => by
  rw [show (ad.add m).add j = ad.add (m + j) by
    rcases Nat.eq_zero_or_pos m with rfl | h0
    · simp [add_none]
    · rcases Nat.eq_zero_or_pos j with rfl | h1
      · simp [add_none]
      · rw [add_pos _ (j := j) (by omega), add_pos _ (j := m) (by omega), add_pos _ (j := m + j) (by omega)]; simp [Nat.add_assoc]]
  exact hc (m + j) (by omega)
attribute [local go_sem] word_byte
set_option maxHeartbeats 1000000 in
theorem refsha_any (A : Option Addr) (k c : Nat) (b : List (BitVec 8)) (w : World) (hb : b.length = k) (hA : A = none → c = 0) (hs : Byt w A b) (hk : k ≤ 20000) :
    Calls Tryd.prog 18 #[.slice A k c] w fun e w' => e = .returned (.agg (yRow (sha key b) 32)) ∧ Below w.heap.size w w' := by
  have HB := Lib.hid hb
  have HS := Lib.hid hs
  have HA := Lib.hid hA
  clear hb hs hA
  have hg := gap_pos k
  go_enter Tryd.func18, Tryd.ntmps18
  go_upto_region 3 with (first
    | (refine wpList_app rfl _ (.tmp 11) rfl (w.heap.size + 1) (.slice none 0 0) [] rfl (own_nil _ _) A k c b rfl HB.out (byt_below HS.out (below_new _ _)) HA.out k (by simp) (by omega) (by simp) ?_; intro A1 c1 w2 o1 b1 l1 n1; have O1 := Lib.hid o1; have B1 := Lib.hid b1; clear o1 b1 n1)
    | (refine wpList_app rfl (.tmp 13) (.tmp 14) rfl (w.heap.size + 1) (.slice A1 k c1) ([] ++ b) rfl (own_alloc O1.out _) (some ⟨w2.heap.size, 0, none⟩) 1 1 [128#8] rfl rfl (byt_new w2 5 (0, 0) [128#8] _ rfl) (fun e => by cases e) (k + 1) (by simp [HB.out]) (by omega) (by have := B1.out.size; simp at this ⊢; omega) ?_; intro A2 c2 w3 o2 b2 l2 n2; have O2 := Lib.hid o2; have B2 := Lib.hid b2; clear o2 b2 n2))
  have R0 : Row w3 w.heap.size 34 32 (fun _ => undef) 0 ∧ Below w.heap.size w w3 := by
    have a1 := row_below (row_new' w w.heap.size 34 _ (fun _ => undef) 0 32 rfl rfl (fun j hj => by omega)) B1.out (by omega)
    exact ⟨row_below (row_alloc a1 _) B2.out (by omega), (((below_new w _).trans (B1.out.mono (by omega))).alloc (by have := B1.out.size; simp at this; omega) _).trans (B2.out.mono (by omega))⟩
  obtain ⟨r0, b0⟩ := R0
  have z3 := lies_lt (t := 34) (w := w3) (g := w.heap.size) (cs := r0.choose) r0.choose_spec.1
  clear B1 B2 O1
  go_loopw [3] (fun v wr => ∃ (z : Nat) (A' : Option Addr) (c' : Nat), z < gap k ∧ v = .slice A' (k + 1 + z) c' ∧ Own wr (w.heap.size + 1) (.slice A' (k + 1 + z) c') (fillw b z) ∧ Row wr w.heap.size 34 32 (fun _ => undef) 0 ∧ Below w.heap.size w wr) (fun v _ => k + 1 + gap k - lenV v)
  case atStart => exact ⟨0, A2, c2, hg.1, rfl, O2.out, r0, b0⟩
  case round =>
    clear O2 r0 b0
    obtain ⟨z, A', c', hz, rfl, ho, hr, hb⟩ := hrel
    have hsz := row_lt hr
    have HO := Lib.hid ho
    have HR := Lib.hid hr
    have HW := Lib.hid hb
    clear ho hr hb
    obtain ⟨N, hN⟩ : ∃ N, N = k + 1 + z := ⟨_, rfl⟩
    rw [← hN] at HO ⊢
    have hf := fill_stop b z (by rw [HB.out]; exact hz)
    rw [fill_len, HB.out, ← hN] at hf
    by_cases hs : z + 1 = gap k
    · have t : ((N : Int) % 64 != 56) = false := by
        have := hf.2 hs
        simp; omega
      clear hf
      have HZ := Lib.hid hs
      have HN0 := Lib.hid hN
      clear hN
      go_wp2
      have hN := HN0.out
      go_loopw [3, 5] (fun v i wr => ∃ (m : Nat) (A' : Option Addr) (c' : Nat), m ≤ 8 ∧ i = .int .i64 (7 - (m : Int)) ∧ v = .slice A' (N + m) c' ∧ Own wr (w.heap.size + 1) (.slice A' (N + m) c') (fillw b z ++ eight k m) ∧ Row wr w.heap.size 34 32 (fun _ => undef) 0 ∧ Below w.heap.size w wr) (fun v i _ => (intOf i + 1).toNat)
      case atStart => exact ⟨0, A', c', by omega, rfl, rfl, by simpa [eight] using HO.out, HR.out, HW.out⟩
      case round =>
        clear HO HR HW t
        obtain ⟨m, A4, c4, hm, rfl, rfl, ho, hr, hb⟩ := hrel
        have hsz := row_lt hr
        have HO := Lib.hid ho
        have HR := Lib.hid hr
        have HW := Lib.hid hb
        clear ho hr hb
        by_cases hlt : m < 8
        · obtain ⟨q, hq⟩ : ∃ q : Nat, (7 - (m : Int)) = (q : Int) := ⟨7 - m, by omega⟩
          have hq7 : q ≤ 7 := by omega
          rw [hq]
          obtain ⟨R, hR⟩ : ∃ R, R = N + m := ⟨_, rfl⟩
          rw [← hR] at HO ⊢
          have hRb : R ≤ 30000 := by omega
          have HQ := Lib.hid hR
          have HN := Lib.hid hN
          have HE := Lib.hid (show 8 * q = 56 - 8 * m by omega)
          clear hR hN
          go_wp2_with (refine wpList_app rfl (.tmp 31) (.tmp 38) rfl (w.heap.size + 1) (.slice A4 R c4) (fillw b z ++ eight k m) rfl (own_alloc HO.out _) (some ⟨wr.heap.size, 0, none⟩) 1 1 [BitVec.ofNat 8 (k * 8 / 2 ^ (8 * q))] rfl rfl (byt_new wr 5 (0, 0) _ _ (eight_cell k q)) (fun e => by cases e) (R + 1) (by rw [List.length_append, fill_len, eight_len, HB.out, HQ.out, HN.out]) (by omega) (by simp; omega) ?_; intro A5 c5 w5 o5 b5 l5 n5; have O5 := Lib.hid o5; have B5 := Lib.hid b5; clear o5 b5 n5)
          go_roundw
          case rel => exact ⟨m + 1, A5, c5, by omega, by rw [show (q : Int) - 1 = 7 - ((m + 1 : Nat) : Int) by omega], by rw [show N + (m + 1) = R + 1 by have := HQ.out; omega], (by rw [show N + (m + 1) = R + 1 by have := HQ.out; omega, ← eight_next, ← List.append_assoc, ← HE.out]; exact O5.out), row_below (row_alloc HR.out _) B5.out (by omega), (HW.out.alloc (by omega) _).trans (B5.out.mono (by omega))⟩
          case measure => first | (simp [intOf]; done) | (simp [intOf]; omega)
        · obtain rfl : m = 8 := by omega
          have fu : Own wr (w.heap.size + 1) (.slice A4 (N + 8) c4) (full b) := by rw [← fill_full b z (by rw [HB.out]; exact HZ.out), HB.out]; exact HO.out
          have HF := Lib.hid fu
          have HN := Lib.hid hN
          clear fu HO hN
          go_upto_region 13 with (first
            | (refine wpList_built rfl 59 _ rfl (stRow st0) (by kernel_rfl) ?_)
            | (refine wpList_store_row rfl 59 _ _ rfl _ (stRow st0) rfl rfl 59 _ (lies_new _ _ _) (by kernel_rfl) (by kernel_rfl) (stRow_one _) ?_)
            | (go_at_call 24; (with_reducible refine (keys_any _).mono ?_); rintro e w5 ⟨rfl, hb5⟩; have H5 := Lib.hid hb5; clear hb5)
            | (refine wpList_store_row rfl 60 _ _ rfl _ (uRow key 64) rfl rfl 60 _ (lies_new _ _ _) (by kernel_rfl) (by kernel_rfl) (uRow_one _ _) ?_))
          generalize hW : World.setRow _ w5.heap.size (uRow key 64) = W
          obtain ⟨k1, k2, k3, k4⟩ := behind_h H5.out hW
          have k5 := src_of (own_byt HF.out) k3 (Nat.le_refl _)
          have k6 := row_below HR.out k3 hsz
          have k7 := HW.out.trans (k3.mono (by omega))
          obtain ⟨M, hM⟩ : ∃ M, N + 8 = 64 * M := ⟨(N + 8) / 64, by have := HZ.out; have := HN.out; have := pad_whole k; omega⟩
          have hfl : (full b).length = 64 * M := by rw [full_len, HB.out, ← hM, HN.out]; have := HZ.out; omega
          have hMb : M ≤ 500 := by have := HN.out; have := HZ.out; omega
          have l4 : N + 8 ≤ c4 := by obtain ⟨x, y, e, h, _⟩ := own_form HF.out; obtain ⟨_, e1, e2⟩ := Value.slice.inj e; omega
          clear H5 hW HF HR HW HN HZ
          rw [hM] at l4 ⊢
          have hM8 : ((N : Int) + 8) = ((64 * M : Nat) : Int) := by omega
          generalize wr.heap.size = g at *
          generalize w5.heap.size = q at *
          obtain ⟨J, hJ⟩ : ∃ J, J = 64 * M := ⟨_, rfl⟩
          rw [← hJ] at l4 hfl ⊢
          have hJb : J ≤ 40000 := by omega
          have hwg : w.heap.size < g := hsz
          have hgq : g < q := k4
          clear hsz k4 hM hM8
          have HJ := Lib.hid hJ
          have HFL := Lib.hid hfl
          clear hJ hfl
          go_loopw [8] (fun v wx => ∃ m I, m ≤ M ∧ I = 64 * m ∧ v = .int .i64 (I : Int) ∧ Lies wx g 59 (stRow (chain key (full b) m)) ∧ Lies wx q 60 (uRow key 64) ∧ Src wx g A4 (full b) ∧ Row wx w.heap.size 34 32 (fun _ => undef) 0 ∧ Below w.heap.size w wx) (fun v _ => J - (intOf v).toNat)
          case atStart => exact ⟨0, 0, by omega, rfl, rfl, k1, k2, k5, k6, k7⟩
          case round =>
            clear k1 k2 k3 k5 k6 k7
            obtain ⟨m, I, hm, hI, rfl, h1, h2, h3, h4, h5⟩ := hrel
            have L1 := Lib.hid h1
            have L2 := Lib.hid h2
            have L3 := Lib.hid h3
            have L4 := Lib.hid h4
            have L5 := Lib.hid h5
            have hgx := lies_lt h1
            clear h1 h2 h3 h4 h5
            by_cases hlt : m < M
            · have hIJ : I + 64 ≤ J := by have := HJ.out; omega
              obtain ⟨ad, hA4, hax, hag, hac⟩ := L3.out (by rw [HFL.out]; omega)
              subst hA4
              obtain ⟨Z, hZ⟩ : ∃ Z, Z = chain key (full b) m := ⟨_, rfl⟩
              rw [← hZ] at L1
              obtain ⟨p, hp⟩ : ∃ p : Nat → BitVec 8, p = fun j => (full b).getD (I + j) 0 := ⟨_, rfl⟩
              have HZ := Lib.hid hZ
              have HP := Lib.hid hp
              have HI := Lib.hid hI
              have hpt : ∀ j, j < 64 → wr.cell? ((ad.add I).add j) = some (Y (p j)) := by rw [hp]; exact part_at hac (by rw [HFL.out]; exact hIJ)
              have HBL := Lib.hid (block_any Z p (ad.add I) (c4 - I) wr.drew (by rw [add_block]; exact hax) hpt)
              have hsl : ∀ W, (Instr.slice 24 (.slice (some ad) J c4) (some (.int .i64 (I : Int))) (some (.int .i64 ((I : Int) + 64))) none).run Tryd.prog W = .ok (.slice (some (ad.add I)) 64 (c4 - I)) W := fun W => slice_part (some ad) J c4 I ad rfl (by omega) W
              have li : (I : Int) < (J : Int) := by omega
              clear hZ hp hI hac hpt
              go_wp2
              refine wp_region_any (by kernel_rfl) ?_
              change wpAny _ _ _ _ _ _ _ (World.drew wr)
              refine open_take 1 (some 49) (.slice (some ad) J c4) rfl rfl (by kernel_rfl) (by kernel_rfl) (by kernel_rfl) (fun _ _ _ h => h) (Or.inl ⟨by rfl, fun _ => by kernel_rfl⟩) ?_
              simp only [Act.put, List.setIfInBounds_toArray, List.set_cons_zero, List.set_cons_succ]
              refine open_take 2 (some 50) (.int .i64 (I : Int)) rfl rfl (by kernel_rfl) (by kernel_rfl) (by kernel_rfl) (fun _ _ _ h => h) (Or.inl ⟨by rfl, fun _ => by kernel_rfl⟩) ?_
              simp only [Act.put, List.setIfInBounds_toArray, List.set_cons_zero, List.set_cons_succ]
              refine open_take 3 (some 51) (.int .i64 (I : Int)) rfl rfl (by kernel_rfl) (by kernel_rfl) (by kernel_rfl) (fun _ _ _ h => h) (Or.inl ⟨by rfl, fun _ => by kernel_rfl⟩) ?_
              simp only [Act.put, List.setIfInBounds_toArray, List.set_cons_zero, List.set_cons_succ]
              refine open_take 4 (some 52) (.int .i64 ((I : Int) + 64)) rfl rfl (by kernel_rfl) (by kernel_rfl) (by kernel_rfl) (fun _ _ _ h => h) (Or.inl ⟨by rfl, fun W => add_up I W (by omega)⟩) ?_
              simp only [Act.put, List.setIfInBounds_toArray, List.set_cons_zero, List.set_cons_succ]
              refine wpAny_ready (rs := [0, 5, 6]) (by kernel_rfl) (by simp) ?_
              refine (open_load (some 48) rfl rfl rfl 59 _ rfl g 0 rfl (stRow Z).toList _ (range_of (lies_drew L1.out) (fun j v h => by rw [Nat.zero_add]; simpa using h)) Tryd.underlying59 rfl (by kernel_rfl) ?_ (open_value (some 53) (.slice (some (ad.add I)) 64 (c4 - I)) rfl rfl rfl (run_val (hsl _)) ?_ (open_load (some 54) rfl rfl rfl 60 _ rfl q 0 rfl (uRow key 64).toList _ (range_of (lies_drew L2.out) (fun j v h => by rw [Nat.zero_add]; simpa using h)) Tryd.underlying60 rfl (by kernel_rfl) ?_ AllReady.nil)))
              · simp only [Act.put, List.setIfInBounds_toArray, List.set_cons_zero, List.set_cons_succ, Array.toArray_toList]
                refine wpAny_ready (rs := [5, 6]) (by kernel_rfl) (by simp) ?_
                refine (open_value (some 53) (.slice (some (ad.add I)) 64 (c4 - I)) rfl rfl rfl (run_val (hsl _)) ?_ (open_load (some 54) rfl rfl rfl 60 _ rfl q 0 rfl (uRow key 64).toList _ (range_of (lies_drew L2.out) (fun j v h => by rw [Nat.zero_add]; simpa using h)) Tryd.underlying60 rfl (by kernel_rfl) ?_ AllReady.nil))
                · simp only [Act.put, List.setIfInBounds_toArray, List.set_cons_zero, List.set_cons_succ, Array.toArray_toList]
                  refine wpAny_ready (rs := [6]) (by kernel_rfl) (by simp) ?_
                  refine (open_load (some 54) rfl rfl rfl 60 _ rfl q 0 rfl (uRow key 64).toList _ (range_of (lies_drew L2.out) (fun j v h => by rw [Nat.zero_add]; simpa using h)) Tryd.underlying60 rfl (by kernel_rfl) ?_ AllReady.nil)
                  simp only [Act.put, List.setIfInBounds_toArray, List.set_cons_zero, List.set_cons_succ, Array.toArray_toList]
                  refine wpAny_ready (rs := [7]) (by kernel_rfl) (by simp) ?_
                  refine open_call (some 55) (.agg (stRow (mixed key Z p))) _ rfl rfl rfl 25 #[.agg (stRow Z), .slice (some (ad.add I)) 64 (c4 - I), .agg (uRow key 64)] (by kernel_rfl) HBL.out (fun w' hb => ?_) AllReady.nil
                  simp only [Act.put, List.setIfInBounds_toArray, List.set_cons_zero, List.set_cons_succ]
                  refine wpAny_ready (rs := [8]) (by kernel_rfl) (by simp) ?_
                  refine open_store rfl rfl rfl 59 _ _ rfl g 0 (stRow (mixed key Z p)) rfl rfl (there_of (lies_below (lies_drew L1.out) hb hgx) (by show 0 + 8 ≤ 8; decide)) (by kernel_rfl) (stRow_one _) ?_ AllReady.nil
                  refine wpAny_done (by kernel_rfl) ?_ _
                  have HB2 := Lib.hid hb
                  clear hb
                  go_wp2
                  go_roundw
                  case rel => exact behind_round HI.out hlt HZ.out HP.out L1.out L2.out L3.out L4.out L5.out HB2.out hgq hwg
                  case measure => simp [intOf]; omega
                · simp only [Act.put, List.setIfInBounds_toArray, List.set_cons_zero, List.set_cons_succ, Array.toArray_toList]
                  refine wpAny_ready (rs := [5]) (by kernel_rfl) (by simp) ?_
                  refine (open_value (some 53) (.slice (some (ad.add I)) 64 (c4 - I)) rfl rfl rfl (run_val (hsl _)) ?_ AllReady.nil)
                  simp only [Act.put, List.setIfInBounds_toArray, List.set_cons_zero, List.set_cons_succ, Array.toArray_toList]
                  refine wpAny_ready (rs := [7]) (by kernel_rfl) (by simp) ?_
                  refine open_call (some 55) (.agg (stRow (mixed key Z p))) _ rfl rfl rfl 25 #[.agg (stRow Z), .slice (some (ad.add I)) 64 (c4 - I), .agg (uRow key 64)] (by kernel_rfl) HBL.out (fun w' hb => ?_) AllReady.nil
                  simp only [Act.put, List.setIfInBounds_toArray, List.set_cons_zero, List.set_cons_succ]
                  refine wpAny_ready (rs := [8]) (by kernel_rfl) (by simp) ?_
                  refine open_store rfl rfl rfl 59 _ _ rfl g 0 (stRow (mixed key Z p)) rfl rfl (there_of (lies_below (lies_drew L1.out) hb hgx) (by show 0 + 8 ≤ 8; decide)) (by kernel_rfl) (stRow_one _) ?_ AllReady.nil
                  refine wpAny_done (by kernel_rfl) ?_ _
                  have HB2 := Lib.hid hb
                  clear hb
                  go_wp2
                  go_roundw
                  case rel => exact behind_round HI.out hlt HZ.out HP.out L1.out L2.out L3.out L4.out L5.out HB2.out hgq hwg
                  case measure => simp [intOf]; omega
              · simp only [Act.put, List.setIfInBounds_toArray, List.set_cons_zero, List.set_cons_succ, Array.toArray_toList]
                refine wpAny_ready (rs := [0, 6]) (by kernel_rfl) (by simp) ?_
                refine (open_load (some 48) rfl rfl rfl 59 _ rfl g 0 rfl (stRow Z).toList _ (range_of (lies_drew L1.out) (fun j v h => by rw [Nat.zero_add]; simpa using h)) Tryd.underlying59 rfl (by kernel_rfl) ?_ (open_load (some 54) rfl rfl rfl 60 _ rfl q 0 rfl (uRow key 64).toList _ (range_of (lies_drew L2.out) (fun j v h => by rw [Nat.zero_add]; simpa using h)) Tryd.underlying60 rfl (by kernel_rfl) ?_ AllReady.nil))
                · simp only [Act.put, List.setIfInBounds_toArray, List.set_cons_zero, List.set_cons_succ, Array.toArray_toList]
                  refine wpAny_ready (rs := [6]) (by kernel_rfl) (by simp) ?_
                  refine (open_load (some 54) rfl rfl rfl 60 _ rfl q 0 rfl (uRow key 64).toList _ (range_of (lies_drew L2.out) (fun j v h => by rw [Nat.zero_add]; simpa using h)) Tryd.underlying60 rfl (by kernel_rfl) ?_ AllReady.nil)
                  simp only [Act.put, List.setIfInBounds_toArray, List.set_cons_zero, List.set_cons_succ, Array.toArray_toList]
                  refine wpAny_ready (rs := [7]) (by kernel_rfl) (by simp) ?_
                  refine open_call (some 55) (.agg (stRow (mixed key Z p))) _ rfl rfl rfl 25 #[.agg (stRow Z), .slice (some (ad.add I)) 64 (c4 - I), .agg (uRow key 64)] (by kernel_rfl) HBL.out (fun w' hb => ?_) AllReady.nil
                  simp only [Act.put, List.setIfInBounds_toArray, List.set_cons_zero, List.set_cons_succ]
                  refine wpAny_ready (rs := [8]) (by kernel_rfl) (by simp) ?_
                  refine open_store rfl rfl rfl 59 _ _ rfl g 0 (stRow (mixed key Z p)) rfl rfl (there_of (lies_below (lies_drew L1.out) hb hgx) (by show 0 + 8 ≤ 8; decide)) (by kernel_rfl) (stRow_one _) ?_ AllReady.nil
                  refine wpAny_done (by kernel_rfl) ?_ _
                  have HB2 := Lib.hid hb
                  clear hb
                  go_wp2
                  go_roundw
                  case rel => exact behind_round HI.out hlt HZ.out HP.out L1.out L2.out L3.out L4.out L5.out HB2.out hgq hwg
                  case measure => simp [intOf]; omega
                · simp only [Act.put, List.setIfInBounds_toArray, List.set_cons_zero, List.set_cons_succ, Array.toArray_toList]
                  refine wpAny_ready (rs := [0]) (by kernel_rfl) (by simp) ?_
                  refine (open_load (some 48) rfl rfl rfl 59 _ rfl g 0 rfl (stRow Z).toList _ (range_of (lies_drew L1.out) (fun j v h => by rw [Nat.zero_add]; simpa using h)) Tryd.underlying59 rfl (by kernel_rfl) ?_ AllReady.nil)
                  simp only [Act.put, List.setIfInBounds_toArray, List.set_cons_zero, List.set_cons_succ, Array.toArray_toList]
                  refine wpAny_ready (rs := [7]) (by kernel_rfl) (by simp) ?_
                  refine open_call (some 55) (.agg (stRow (mixed key Z p))) _ rfl rfl rfl 25 #[.agg (stRow Z), .slice (some (ad.add I)) 64 (c4 - I), .agg (uRow key 64)] (by kernel_rfl) HBL.out (fun w' hb => ?_) AllReady.nil
                  simp only [Act.put, List.setIfInBounds_toArray, List.set_cons_zero, List.set_cons_succ]
                  refine wpAny_ready (rs := [8]) (by kernel_rfl) (by simp) ?_
                  refine open_store rfl rfl rfl 59 _ _ rfl g 0 (stRow (mixed key Z p)) rfl rfl (there_of (lies_below (lies_drew L1.out) hb hgx) (by show 0 + 8 ≤ 8; decide)) (by kernel_rfl) (stRow_one _) ?_ AllReady.nil
                  refine wpAny_done (by kernel_rfl) ?_ _
                  have HB2 := Lib.hid hb
                  clear hb
                  go_wp2
                  go_roundw
                  case rel => exact behind_round HI.out hlt HZ.out HP.out L1.out L2.out L3.out L4.out L5.out HB2.out hgq hwg
                  case measure => simp [intOf]; omega
              · simp only [Act.put, List.setIfInBounds_toArray, List.set_cons_zero, List.set_cons_succ, Array.toArray_toList]
                refine wpAny_ready (rs := [0, 5]) (by kernel_rfl) (by simp) ?_
                refine (open_load (some 48) rfl rfl rfl 59 _ rfl g 0 rfl (stRow Z).toList _ (range_of (lies_drew L1.out) (fun j v h => by rw [Nat.zero_add]; simpa using h)) Tryd.underlying59 rfl (by kernel_rfl) ?_ (open_value (some 53) (.slice (some (ad.add I)) 64 (c4 - I)) rfl rfl rfl (run_val (hsl _)) ?_ AllReady.nil))
                · simp only [Act.put, List.setIfInBounds_toArray, List.set_cons_zero, List.set_cons_succ, Array.toArray_toList]
                  refine wpAny_ready (rs := [5]) (by kernel_rfl) (by simp) ?_
                  refine (open_value (some 53) (.slice (some (ad.add I)) 64 (c4 - I)) rfl rfl rfl (run_val (hsl _)) ?_ AllReady.nil)
                  simp only [Act.put, List.setIfInBounds_toArray, List.set_cons_zero, List.set_cons_succ, Array.toArray_toList]
                  refine wpAny_ready (rs := [7]) (by kernel_rfl) (by simp) ?_
                  refine open_call (some 55) (.agg (stRow (mixed key Z p))) _ rfl rfl rfl 25 #[.agg (stRow Z), .slice (some (ad.add I)) 64 (c4 - I), .agg (uRow key 64)] (by kernel_rfl) HBL.out (fun w' hb => ?_) AllReady.nil
                  simp only [Act.put, List.setIfInBounds_toArray, List.set_cons_zero, List.set_cons_succ]
                  refine wpAny_ready (rs := [8]) (by kernel_rfl) (by simp) ?_
                  refine open_store rfl rfl rfl 59 _ _ rfl g 0 (stRow (mixed key Z p)) rfl rfl (there_of (lies_below (lies_drew L1.out) hb hgx) (by show 0 + 8 ≤ 8; decide)) (by kernel_rfl) (stRow_one _) ?_ AllReady.nil
                  refine wpAny_done (by kernel_rfl) ?_ _
                  have HB2 := Lib.hid hb
                  clear hb
                  go_wp2
                  go_roundw
                  case rel => exact behind_round HI.out hlt HZ.out HP.out L1.out L2.out L3.out L4.out L5.out HB2.out hgq hwg
                  case measure => simp [intOf]; omega
                · simp only [Act.put, List.setIfInBounds_toArray, List.set_cons_zero, List.set_cons_succ, Array.toArray_toList]
                  refine wpAny_ready (rs := [0]) (by kernel_rfl) (by simp) ?_
                  refine (open_load (some 48) rfl rfl rfl 59 _ rfl g 0 rfl (stRow Z).toList _ (range_of (lies_drew L1.out) (fun j v h => by rw [Nat.zero_add]; simpa using h)) Tryd.underlying59 rfl (by kernel_rfl) ?_ AllReady.nil)
                  simp only [Act.put, List.setIfInBounds_toArray, List.set_cons_zero, List.set_cons_succ, Array.toArray_toList]
                  refine wpAny_ready (rs := [7]) (by kernel_rfl) (by simp) ?_
                  refine open_call (some 55) (.agg (stRow (mixed key Z p))) _ rfl rfl rfl 25 #[.agg (stRow Z), .slice (some (ad.add I)) 64 (c4 - I), .agg (uRow key 64)] (by kernel_rfl) HBL.out (fun w' hb => ?_) AllReady.nil
                  simp only [Act.put, List.setIfInBounds_toArray, List.set_cons_zero, List.set_cons_succ]
                  refine wpAny_ready (rs := [8]) (by kernel_rfl) (by simp) ?_
                  refine open_store rfl rfl rfl 59 _ _ rfl g 0 (stRow (mixed key Z p)) rfl rfl (there_of (lies_below (lies_drew L1.out) hb hgx) (by show 0 + 8 ≤ 8; decide)) (by kernel_rfl) (stRow_one _) ?_ AllReady.nil
                  refine wpAny_done (by kernel_rfl) ?_ _
                  have HB2 := Lib.hid hb
                  clear hb
                  go_wp2
                  go_roundw
                  case rel => exact behind_round HI.out hlt HZ.out HP.out L1.out L2.out L3.out L4.out L5.out HB2.out hgq hwg
                  case measure => simp [intOf]; omega
            · obtain rfl : m = M := by omega
              obtain rfl : I = J := by rw [hI, HJ.out]
              have e : sha key b = (chain key (full b) m).byte := by
                unfold sha last
                rw [HFL.out, HJ.out, Nat.mul_div_cancel_left _ (by decide)]
              obtain ⟨Z, hZ⟩ : ∃ Z, Z = chain key (full b) m := ⟨_, rfl⟩
              rw [← hZ] at e L1
              have E := Lib.hid e
              have hs5 := L5.out.size
              have hgz : g < wr.heap.size := hgx
              clear e hZ hI hm hlt HJ HFL L2 L3
              go_wp2
              have k1 := L1.out
              have k2 := L4.out
              have k3 := L5.out
              clear L1 L4 L5 hgx
              obtain ⟨o, ho⟩ : ∃ o, o = wr.heap.size := ⟨_, rfl⟩
              rw [← ho] at hgz hs5 ⊢
              go_loopw [10] (fun v wx => ∃ i : Nat, i ≤ 32 ∧ v = .int .i64 i ∧ Lies wx g 59 (stRow Z) ∧ Row wx w.heap.size 34 32 (fun _ => undef) 0 ∧ Below w.heap.size w wx ∧ Row wx o 34 32 (fun i => Y (Z.byte i)) i) (fun v _ => 32 - (intOf v).toNat)
              case atStart => exact ⟨0, by omega, rfl, lies_alloc k1 _, row_alloc k2 _, k3.alloc (by omega) _, row_new' _ _ _ _ _ _ _ ho.symm rfl (fun j hj => by omega)⟩
              case round =>
                clear k1 k2 k3 ho
                obtain ⟨i, hi, rfl, j1, j2, j3, j4⟩ := hrel
                by_cases hlt : i < 32
                · have c := (lies_cell j1 (i / 4)).trans (stRow_at Z (by omega))
                  obtain ⟨v, d⟩ := row_some j4 (i := i) hlt
                  have f := row_free j4 i
                  have hsh := shr_at_u (Z.at (i / 4)) i
                  have l8 : (i : Int) / 4 < 8 := by omega
                  have l32 : (i : Int) < 32 := by omega
                  go_wp2_with (rw [store_ys]; go_simp)
                  go_roundw
                  case rel => exact ⟨i + 1, by omega, by go_num, lies_far (p := ⟨o, i, none⟩) j1 (by show _ ≠ o; omega) _, row_far (p := ⟨o, i, none⟩) j2 (by show _ ≠ o; omega) _, j3.setCell (p := ⟨o, i, none⟩) (by show _ ≤ o; omega) _, row_more j4 hlt rfl⟩
                  case measure => first | (simp [intOf]; done) | (simp [intOf]; omega)
                · have hw := row_whole (row_less j4 (m := 32) (by omega))
                  obtain ⟨old, h2, hold, _⟩ := j2
                  have HS := Lib.hid hw
                  have H2 := Lib.hid h2
                  have HO := Lib.hid hold
                  clear j1 j4 hw h2 hold
                  go_wp2_with (first
                    | (refine wpList_load_row rfl 34 _ rfl o rfl 34 (yRow Z.byte 32) _ _ HS.out Tryd.underlying34 rfl (by rw [yRow_size]; kernel_rfl) ?_)
                    | (refine wpList_store_row rfl 34 _ _ rfl w.heap.size (yRow Z.byte 32) rfl rfl 34 old H2.out (by rw [yRow_size]; kernel_rfl) (by rw [yRow_size]; exact HO.out) (yRow_one _ _) ?_))
                  refine bodyPost_ret (results_cell_row rfl _ _ w.heap.size 34 (yRow Z.byte 32) (0, 0) _ rfl (lies_setRow H2.out _) Tryd.underlying34 rfl (by rw [yRow_size]; kernel_rfl)) rfl ⟨by rw [E.out], below_setRow j3 (Nat.le_refl _) _⟩
    · have t : ((N : Int) % 64 != 56) = true := by
        have : ¬ N % 64 = 56 := fun e => hs (hf.1 e)
        simp; omega
      have HN := Lib.hid hN
      clear hf
      go_wp2_with (refine wpList_app rfl (.tmp 20) (.tmp 21) rfl (w.heap.size + 1) (.slice A' N c') (fillw b z) rfl (own_alloc HO.out _) (some ⟨wr.heap.size, 0, none⟩) 1 1 [0#8] rfl rfl (byt_new wr 5 (0, 0) [0#8] _ rfl) (fun e => by cases e) (N + 1) (by rw [fill_len, HB.out, HN.out]) (by omega) (by simp; omega) ?_; intro A3 c3 w4 o3 b3 l3 n3; have O3 := Lib.hid o3; have B3 := Lib.hid b3; clear o3 b3 n3)
      go_roundw
      case rel => exact ⟨z + 1, A3, c3, by omega, by rw [show k + 1 + (z + 1) = k + 1 + z + 1 by omega], (by rw [show k + 1 + (z + 1) = N + 1 by omega, ← fill_next]; exact O3.out), row_below (row_alloc HR.out _) B3.out (by omega), (HW.out.alloc (by omega) _).trans (B3.out.mono (by omega))⟩
      case measure => simp [lenV]; omega
end Go.Proofs.YtlnmaejpchncoaaDoor
