/-
What is proved here: the document's own mixing of a part, by a contract.
-/
import Derived.Test.YtlnmaejpchncoaaDoorRefA
set_option linter.unusedSimpArgs false
namespace Go.Proofs.YtlnmaejpchncoaaDoor
open Go.Word Go.RowKit
attribute [local go_sem] u_xor u_and u_or u_add shl8 shl16 shl24 shr3 shr10 u_not byte_word

theorem add_block (ad : Addr) (j : Nat) : (ad.add j).block = ad.block := by unfold Addr.add; split <;> rfl

theorem add_pos (ad : Addr) {j : Nat} (h : j ≠ 0) : ad.add j = { block := ad.block, off := ad.off + j } := by unfold Addr.add; rw [if_neg h]

theorem row_setRow {w : World} {g i : Nat} {t : TypeId} {n k : Nat} {f : Nat → Value} (h : Row w g t n f k) (hi : g ≠ i) (cs : Array Value) : Row (w.setRow i cs) g t n f k := by
  obtain ⟨c, h, r⟩ := h
  exact ⟨c, (setRow_other _ _ _ _ (by omega)).trans h, r⟩
/-- a state of which the first n words are added up -/
def halfRow (s r : St) (n : Nat) : Array Value := (Array.range 8).map fun j => U (if j < n then s.at j + r.at j else s.at j)
theorem half_at (s r : St) (n : Nat) {j : Nat} (h : j < 8) : (halfRow s r n)[j]? = some (U (if j < n then s.at j + r.at j else s.at j)) := by simp [halfRow, h]
theorem half_set (s r : St) (n : Nat) (h : n < 8) : (halfRow s r n).setIfInBounds n (U (s.at n + r.at n)) = halfRow s r (n + 1) := by
  refine Array.ext_getElem? fun j => ?_
  rw [Array.getElem?_setIfInBounds]
  by_cases e : n = j
  · subst e
    rw [if_pos rfl, if_pos (by simpa [halfRow] using h), half_at _ _ _ h, if_pos (by omega)]
  · rw [if_neg e]
    by_cases hj : j < 8
    · rw [half_at _ _ _ hj, half_at _ _ _ hj]
      by_cases hn : j < n
      · rw [if_pos hn, if_pos (by omega)]
      · rw [if_neg hn, if_neg (by omega)]
    · rw [Array.getElem?_eq_none (by simp [halfRow]; omega), Array.getElem?_eq_none (by simp [halfRow]; omega)]
theorem half_zero (s r : St) : halfRow s r 0 = stRow s := by
  refine Array.ext_getElem? fun j => ?_
  by_cases hj : j < 8
  · rw [half_at _ _ _ hj, stRow_at _ hj, if_neg (by omega)]
  · rw [Array.getElem?_eq_none (by simp [halfRow]; omega), Array.getElem?_eq_none (by simp [stRow]; omega)]
theorem plus_at (s r : St) : ∀ {j : Nat}, j < 8 → (s.plus r).at j = s.at j + r.at j
  | 0, _ => rfl
  | 1, _ => rfl
  | 2, _ => rfl
  | 3, _ => rfl
  | 4, _ => rfl
  | 5, _ => rfl
  | 6, _ => rfl
  | 7, _ => rfl
theorem half_all (s r : St) : halfRow s r 8 = stRow (s.plus r) := by
  refine Array.ext_getElem? fun j => ?_
  by_cases hj : j < 8
  · rw [half_at _ _ _ hj, stRow_at _ hj, if_pos hj, plus_at s r hj]
  · rw [Array.getElem?_eq_none (by simp [halfRow]; omega), Array.getElem?_eq_none (by simp [stRow]; omega)]
theorem behind_x {w wn w1 : World} {s : St} {K z : Array Value} {p : Nat → BitVec 8} (h1 : Lies wn w.heap.size 59 (stRow s)) (h2 : Lies wn (w.heap.size + 1) 60 K) (h3 : Row wn (w.heap.size + 1 + 1) 59 8 (fun _ => undef) 0) (h4 : Lies wn (w.heap.size + 1 + 1 + 1) 60 (uRow (word p) 64)) (hb : Below w.heap.size w wn)
    (hw : (wn.alloc (.cells z 59)).setRow wn.heap.size (stRow s) = w1) :
    Lies w1 w.heap.size 59 (stRow s) ∧ Lies w1 (w.heap.size + 1) 60 K ∧ Row w1 (w.heap.size + 1 + 1) 59 8 (fun _ => undef) 0 ∧ Lies w1 (w.heap.size + 1 + 1 + 1) 60 (uRow (word p) 64) ∧ Lies w1 wn.heap.size 59 (stRow s) ∧ w.heap.size + 1 + 1 + 1 < wn.heap.size ∧ Below w.heap.size w w1 := by
  subst hw
  have hz := lies_lt h4
  refine ⟨(setRow_other _ _ _ _ (by omega)).trans (lies_alloc h1 _), (setRow_other _ _ _ _ (by omega)).trans (lies_alloc h2 _), ?_, (setRow_other _ _ _ _ (by omega)).trans (lies_alloc h4 _), lies_setRow (lies_new wn 59 z) _, hz, below_setRow (hb.alloc (by omega) _) (by omega) _⟩
  obtain ⟨cs, h, r⟩ := row_alloc h3 (.cells z 59)
  exact ⟨cs, (setRow_other _ _ _ _ (by omega)).trans h, r⟩

set_option maxRecDepth 100000 in
set_option maxHeartbeats 2000000 in
theorem block_any (s : St) (p : Nat → BitVec 8) (ad : Addr) (c : Nat) (w : World) (hl : ad.block < w.heap.size) (hp : ∀ j, j < 64 → w.cell? (ad.add j) = some (Y (p j))) :
    Calls Tryd.prog 25 #[.agg (stRow s), .slice (some ad) 64 c, .agg (uRow key 64)] w fun e w' => e = .returned (.agg (stRow (mixed key s p))) ∧ Below w.heap.size w w' := by
  have HP := Lib.hid hp
  have HL := Lib.hid hl
  clear hp hl
  obtain ⟨K, hK⟩ : ∃ K, K = uRow key 64 := ⟨_, rfl⟩
  rw [← hK]
  have HK := Lib.hid hK
  clear hK
  go_enter Tryd.func25, Tryd.ntmps25
  go_wp2
  go_loopw [8] (fun i wr => ∃ k : Nat, k ≤ 16 ∧ i = .int .i64 k ∧ Lies wr w.heap.size 59 (stRow s) ∧ Lies wr (w.heap.size + 1) 60 K ∧ Row wr (w.heap.size + 1 + 1) 59 8 (fun j => undef) 0 ∧ Row wr (w.heap.size + 1 + 1 + 1) 60 64 (fun j => U (word p j)) k ∧ Below w.heap.size w wr) (fun i _ => 16 - (intOf i).toNat)
  case atStart =>
    refine ⟨0, by omega, rfl, ?_, ?_, ?_, ?_, ?_⟩
    · exact lies_alloc (lies_alloc (lies_alloc (lies_new _ _ _) _) _) _
    · refine lies_alloc (lies_alloc ?_ _) _
      have := lies_new (w.alloc (.cells (stRow s) 59)) 60 K
      simpa using this
    · exact row_alloc (row_new' _ _ _ _ _ _ _ (by simp) rfl (fun j hj => by omega)) _
    · exact row_new' _ _ _ _ _ _ _ (by simp) rfl (fun j hj => by omega)
    · exact ((((Below.refl _ _).alloc (Nat.le_refl _) _).alloc (by simp) _).alloc (by simp; omega) _).alloc (by simp; omega) _
  case round =>
    obtain ⟨k, hk, rfl, h1, h2, h3, h4, hb⟩ := hrel
    by_cases hlt : k < 16
    · have cell : ∀ j, j < 64 → wr.cell? (ad.add j) = some (Y (p j)) := fun j hj => (hb.cell (p := ad.add j) (by rw [add_block]; exact HL.out)).trans (HP.out j hj)
      have c0 := cell (4 * k) (by omega)
      have c1 := cell (4 * k + 1) (by omega)
      rw [add_pos _ (by omega)] at c1
      have c2 := cell (4 * k + 2) (by omega)
      rw [add_pos _ (by omega)] at c2
      have c3 := cell (4 * k + 3) (by omega)
      rw [add_pos _ (by omega)] at c3
      clear cell
      obtain ⟨v, c4⟩ := row_some h4 (i := k) (by omega)
      have f4 := row_free h4 k
      have W0 := sum_in (4 * (k : Int)) (4 * k) (by omega) (by omega)
      have W1 := sum_in (4 * (k : Int) + 1) (4 * k + 1) (by omega) (by omega)
      have W2 := sum_in (4 * (k : Int) + 2) (4 * k + 2) (by omega) (by omega)
      have W3 := sum_in (4 * (k : Int) + 3) (4 * k + 3) (by omega) (by omega)
      have l0 : 4 * (k : Int) < 64 := by omega
      have l1 : 4 * (k : Int) + 1 < 64 := by omega
      have l2 : 4 * (k : Int) + 2 < 64 := by omega
      have l3 : 4 * (k : Int) + 3 < 64 := by omega
      have l4 : (k : Int) < 64 := by omega
      go_wp2
      obtain ⟨w0, n0, t0⟩ := W0
      obtain ⟨w1, n1, t1⟩ := W1
      obtain ⟨w2, n2, t2⟩ := W2
      obtain ⟨w3, n3, t3⟩ := W3
      go_still_tail 35, (by kernel_rfl)
      clear w0 n0 t0 w1 n1 t1 w2 n2 t2 w3 n3 t3 l0 l1 l2 l3 c0 c1 c2 c3
      change wpList _ _ _ _ _ wr.drew
      rw [word_own p k hlt]
      go_wp2_with (rw [store_us]; go_simp)
      go_roundw
      case rel => exact ⟨k + 1, by omega, by go_num, lies_drew (lies_far (p := ⟨w.heap.size + 1 + 1 + 1, k, none⟩) h1 (by simp; omega) _), lies_drew (lies_far (p := ⟨w.heap.size + 1 + 1 + 1, k, none⟩) h2 (by simp) _), row_drew (row_far (p := ⟨w.heap.size + 1 + 1 + 1, k, none⟩) h3 (by simp) _), row_drew (row_more h4 (by omega) rfl), (hb.setCell (p := ⟨w.heap.size + 1 + 1 + 1, k, none⟩) (by simp; omega) _).drew⟩
      case measure => simp [intOf]; omega
    · have h5 : Row wr (w.heap.size + 1 + 1 + 1) 60 64 (fun j => U (word p j)) (0 + 16) := row_less h4 (by omega)
      clear h4
      obtain ⟨wo, hwo⟩ : ∃ wo : World, wo = wr := ⟨_, rfl⟩
      subst hwo
      go_wp2
      go_loopw [9] (fun i wr => ∃ k : Nat, k ≤ 48 ∧ i = .int .i64 ((k + 16 : Nat) : Int) ∧ Lies wr w.heap.size 59 (stRow s) ∧ Lies wr (w.heap.size + 1) 60 K ∧ Row wr (w.heap.size + 1 + 1) 59 8 (fun j => undef) 0 ∧ Row wr (w.heap.size + 1 + 1 + 1) 60 64 (fun j => U (word p j)) (k + 16) ∧ Below w.heap.size w wr) (fun i _ => 64 - (intOf i).toNat)
      case atStart => exact ⟨0, by omega, rfl, h1, h2, h3, h5, hb⟩
      case round =>
        clear h1 h2 h3 h5 hb hk hlt
        obtain ⟨k, hk, rfl, h1, h2, h3, h4, hb⟩ := hrel
        by_cases hlt : k < 48
        · have c1 := row_cell h4 (i := k + 1) (by omega)
          have c14 := row_cell h4 (i := k + 14) (by omega)
          have W1 := sum_in (((k + 16 : Nat) : Int) - 15) (k + 1) (by omega) (by omega)
          have W14 := sum_in (((k + 16 : Nat) : Int) - 2) (k + 14) (by omega) (by omega)
          have W0 := sum_in (((k + 16 : Nat) : Int) - 16) k (by omega) (by omega)
          have W9 := sum_in (((k + 16 : Nat) : Int) - 7) (k + 9) (by omega) (by omega)
          obtain ⟨n, hn⟩ : ∃ n, n = k + 16 := ⟨_, rfl⟩
          rw [← hn] at W0 W1 W9 W14 h4 ⊢
          have l1 : ((n : Int) - 15) < 64 := by omega
          have l14 : ((n : Int) - 2) < 64 := by omega
          have l0 : ((n : Int) - 16) < 64 := by omega
          have l9 : ((n : Int) - 7) < 64 := by omega
          have ln : (n : Int) < 64 := by omega
          have ln' : n < 64 := by omega
          have HN := Lib.hid hn
          clear hn
          go_wp2
          obtain ⟨w1, n1, t1⟩ := W1
          obtain ⟨w14, n14, t14⟩ := W14
          go_quiet ((go_at_call 30; exact Calls.quiet_of_same (right_q _ _ _ (by decide) (by decide))))
          clear w1 n1 t1 l1 c1 c14
          have g1 := lies_drewN h1 nq
          have g2 := lies_drewN h2 nq
          have g3 := row_drewN h3 nq
          have g4 := row_drewN h4 nq
          have gb := below_drewN hb nq
          clear h1 h2 h3 h4 hb
          generalize wr.drewN nq = w2 at *
          have c14 := row_cell g4 (i := k + 14) (by have := HN.out; omega)
          go_wp2
          go_quiet ((go_at_call 30; exact Calls.quiet_of_same (right_q _ _ _ (by decide) (by decide))))
          clear w14 n14 t14 l14 c14
          have h1 := lies_drewN g1 nq
          have h2 := lies_drewN g2 nq
          have h3 := row_drewN g3 nq
          have h4 := row_drewN g4 nq
          have hb := below_drewN gb nq
          clear g1 g2 g3 g4 gb
          generalize w2.drewN nq = w3 at *
          have c0 := row_cell h4 (i := k) (by have := HN.out; omega)
          have c9 := row_cell h4 (i := k + 9) (by have := HN.out; omega)
          obtain ⟨v, cn⟩ := row_some h4 (i := n) ln'
          have fn := row_free h4 n
          go_wp2
          obtain ⟨w0, n0, t0⟩ := W0
          obtain ⟨w9, n9, t9⟩ := W9
          have a0 : (16 : Int) ≤ n := by omega
          have a9 : (7 : Int) ≤ n := by omega
          have b0 : 16 ≤ n := by omega
          have b9 : 7 ≤ n := by omega
          have d0 : n - 16 = k := by have := HN.out; omega
          have d9 : n - 7 = k + 9 := by have := HN.out; omega
          go_still_tail 15, (by kernel_rfl)
          clear w0 n0 t0 w9 n9 t9 c0 c9 l0 l9 a0 a9 b0 b9 d0 d9
          change wpList _ _ _ _ _ w3.drew
          rw [word_then p k hlt]
          go_wp2_with (rw [store_us]; go_simp)
          go_roundw
          case rel => exact ⟨k + 1, by omega, by rw [show k + 1 + 16 = n + 1 by have := HN.out; omega]; go_num, lies_drew (lies_far (p := ⟨w.heap.size + 1 + 1 + 1, n, none⟩) h1 (by simp; omega) _), lies_drew (lies_far (p := ⟨w.heap.size + 1 + 1 + 1, n, none⟩) h2 (by simp) _), row_drew (row_far (p := ⟨w.heap.size + 1 + 1 + 1, n, none⟩) h3 (by simp) _), (by rw [show k + 1 + 16 = n + 1 by have := HN.out; omega]; exact row_drew (row_more h4 ln' (by rw [HN.out]))), (hb.setCell (p := ⟨w.heap.size + 1 + 1 + 1, n, none⟩) (by simp; omega) _).drew⟩
          case measure => simp [intOf]; omega
        · have h5 := row_whole (row_less h4 (m := 64) (by omega))
          clear h4
          obtain rfl : k = 48 := by omega
          obtain ⟨wn, hwn⟩ : ∃ wn : World, wn = wr := ⟨_, rfl⟩
          subst hwn
          have H1 := Lib.hid h1
          go_upto_region 14 with (first
            | (refine wpList_load_row rfl 59 _ rfl w.heap.size rfl 59 (stRow s) _ _ H1.out Tryd.underlying59 rfl (by kernel_rfl) ?_)
            | (refine wpList_store_row rfl 59 _ _ rfl _ (stRow s) rfl rfl 59 _ (lies_new _ _ _) (by kernel_rfl) (by kernel_rfl) (stRow_one _) ?_))
          generalize hw : World.setRow _ wn.heap.size (stRow s) = w1
          obtain ⟨k1, k2, k3, k4, k5, k6, k7⟩ := behind_x H1.out h2 h3 h5 hb hw
          clear hw h2 h3 h5 hb H1 hlt hk
          generalize wn.heap.size = g at *
          go_loopw [13] (fun i wr => ∃ n : Nat, n ≤ 64 ∧ i = .int .i64 n ∧ Lies wr w.heap.size 59 (stRow s) ∧ Lies wr (w.heap.size + 1) 60 K ∧ Row wr (w.heap.size + 1 + 1) 59 8 (fun j => undef) 0 ∧ Lies wr (w.heap.size + 1 + 1 + 1) 60 (uRow (word p) 64) ∧ Lies wr g 59 (stRow (rounds key (word p) s n)) ∧ Below w.heap.size w wr) (fun i _ => 64 - (intOf i).toNat)
          case atStart => exact ⟨0, by omega, rfl, k1, k2, k3, k4, k5, k7⟩
          case round =>
            clear k1 k2 k3 k4 k5 k7
            obtain ⟨n, hn, rfl, h1, h2, h3, h4, h5, hb⟩ := hrel
            by_cases hlt : n < 64
            · obtain ⟨r, hr⟩ : ∃ r, rounds key (word p) s n = r := ⟨_, rfl⟩
              rw [hr] at h5
              obtain ⟨kk, hkk⟩ : ∃ x, key n = x := ⟨_, rfl⟩
              obtain ⟨ww, hww⟩ : ∃ x, word p n = x := ⟨_, rfl⟩
              have ck : wr.cell? ⟨w.heap.size + 1, n, none⟩ = some (U (key n)) := (lies_cell h2 n).trans (by rw [HK.out]; exact uRow_at key hlt)
              have cw := (lies_cell h4 n).trans (uRow_at (word p) hlt)
              rw [hkk] at ck
              rw [hww] at cw
              have e : rounds key (word p) s (n + 1) = r.round kk ww := by rw [rounds, hr, hkk, hww]
              have HE := Lib.hid e
              clear hr hkk hww e
              have li : (n : Int) < 64 := by omega
              have c0 := lies_cell h5 0
              have c1 := lies_cell h5 1
              have c2 := lies_cell h5 2
              have c3 := lies_cell h5 3
              have c4 := lies_cell h5 4
              have c5 := lies_cell h5 5
              have c6 := lies_cell h5 6
              have c7 := lies_cell h5 7
              simp only [stRow, List.getElem?_toArray, List.getElem?_cons_zero, List.getElem?_cons_succ] at c0 c1 c2 c3 c4 c5 c6 c7
              go_wp2
              go_quiet ((go_at_call 30; exact Calls.quiet_of_same (right_q _ _ _ (by decide) (by decide))))
              have b1 := lies_drewN h1 nq
              have b2 := lies_drewN h2 nq
              have b3 := row_drewN h3 nq
              have b4 := lies_drewN h4 nq
              have b5 := lies_drewN h5 nq
              have bb := below_drewN hb nq
              have d0 : (wr.drewN nq).cell? ⟨g, 0, none⟩ = _ := c0
              have d1 : (wr.drewN nq).cell? ⟨g, 1, none⟩ = _ := c1
              have d2 : (wr.drewN nq).cell? ⟨g, 2, none⟩ = _ := c2
              have d3 : (wr.drewN nq).cell? ⟨g, 3, none⟩ = _ := c3
              have d4 : (wr.drewN nq).cell? ⟨g, 4, none⟩ = _ := c4
              have d5 : (wr.drewN nq).cell? ⟨g, 5, none⟩ = _ := c5
              have d6 : (wr.drewN nq).cell? ⟨g, 6, none⟩ = _ := c6
              have d7 : (wr.drewN nq).cell? ⟨g, 7, none⟩ = _ := c7
              have dk : (wr.drewN nq).cell? ⟨w.heap.size + 1, n, none⟩ = _ := ck
              have dw : (wr.drewN nq).cell? ⟨w.heap.size + 1 + 1 + 1, n, none⟩ = _ := cw
              clear h1 h2 h3 h4 h5 hb c0 c1 c2 c3 c4 c5 c6 c7 ck cw
              generalize wr.drewN nq = w2 at *
              go_wp2
              go_quiet ((go_at_call 30; exact Calls.quiet_of_same (right_q _ _ _ (by decide) (by decide))))
              clear dk dw
              have h1 := lies_drewN b1 nq
              have h2 := lies_drewN b2 nq
              have h3 := row_drewN b3 nq
              have h4 := lies_drewN b4 nq
              have h5 := lies_drewN b5 nq
              have hb := below_drewN bb nq
              have c0 : (w2.drewN nq).cell? ⟨g, 0, none⟩ = _ := d0
              have c1 : (w2.drewN nq).cell? ⟨g, 1, none⟩ = _ := d1
              have c2 : (w2.drewN nq).cell? ⟨g, 2, none⟩ = _ := d2
              have c3 : (w2.drewN nq).cell? ⟨g, 3, none⟩ = _ := d3
              have c4 : (w2.drewN nq).cell? ⟨g, 4, none⟩ = _ := d4
              have c5 : (w2.drewN nq).cell? ⟨g, 5, none⟩ = _ := d5
              have c6 : (w2.drewN nq).cell? ⟨g, 6, none⟩ = _ := d6
              have c7 : (w2.drewN nq).cell? ⟨g, 7, none⟩ = _ := d7
              clear b1 b2 b3 b4 b5 bb d0 d1 d2 d3 d4 d5 d6 d7
              generalize w2.drewN nq = w3 at *
              go_wp2
              go_quiet ((go_at_call 30; exact Calls.quiet_of_same (right_q _ _ _ (by decide) (by decide))))
              have b1 := lies_drewN h1 nq
              have b2 := lies_drewN h2 nq
              have b3 := row_drewN h3 nq
              have b4 := lies_drewN h4 nq
              have b5 := lies_drewN h5 nq
              have bb := below_drewN hb nq
              have d0 : (w3.drewN nq).cell? ⟨g, 0, none⟩ = _ := c0
              have d1 : (w3.drewN nq).cell? ⟨g, 1, none⟩ = _ := c1
              have d2 : (w3.drewN nq).cell? ⟨g, 2, none⟩ = _ := c2
              have d3 : (w3.drewN nq).cell? ⟨g, 3, none⟩ = _ := c3
              have d4 : (w3.drewN nq).cell? ⟨g, 4, none⟩ = _ := c4
              have d5 : (w3.drewN nq).cell? ⟨g, 5, none⟩ = _ := c5
              have d6 : (w3.drewN nq).cell? ⟨g, 6, none⟩ = _ := c6
              have d7 : (w3.drewN nq).cell? ⟨g, 7, none⟩ = _ := c7
              clear h1 h2 h3 h4 h5 hb c0 c1 c2 c3 c4 c5 c6 c7
              generalize w3.drewN nq = w4 at *
              have B5 := Lib.hid b5
              go_wp2_with (first
                | (refine wpList_built rfl 59 _ rfl (stRow (r.round kk ww)) (by kernel_rfl) ?_)
                | (refine wpList_store_row rfl 59 _ _ rfl g (stRow (r.round kk ww)) rfl rfl 59 (stRow r) B5.out (by kernel_rfl) (by kernel_rfl) (stRow_one _) ?_))
              go_roundw
              case rel => exact ⟨n + 1, by omega, by go_num, (setRow_other _ _ _ _ (by omega)).trans b1, (setRow_other _ _ _ _ (by omega)).trans b2, row_setRow b3 (by omega) _, (setRow_other _ _ _ _ (by omega)).trans b4, (by rw [HE.out]; exact lies_setRow b5 _), below_setRow bb (by omega) _⟩
              case measure => simp [intOf]; omega
            · obtain rfl : n = 64 := by omega
              have e : mixed key s p = s.plus (rounds key (word p) s 64) := rfl
              obtain ⟨r, hr⟩ : ∃ r, rounds key (word p) s 64 = r := ⟨_, rfl⟩
              rw [hr] at h5 e
              have HE := Lib.hid e
              clear hr e h2 h4 hlt hn
              have a1 : Lies wr w.heap.size 59 (halfRow s r 0) := by rw [half_zero]; exact h1
              clear h1
              obtain ⟨wm, hwm⟩ : ∃ wm : World, wm = wr := ⟨_, rfl⟩
              subst hwm
              go_wp2
              go_loopw [20] (fun i wr => ∃ n : Nat, n ≤ 8 ∧ i = .int .i64 n ∧ Lies wr w.heap.size 59 (halfRow s r n) ∧ Row wr (w.heap.size + 1 + 1) 59 8 (fun j => undef) 0 ∧ Lies wr g 59 (stRow r) ∧ Below w.heap.size w wr) (fun i _ => 8 - (intOf i).toNat)
              case atStart => exact ⟨0, by omega, rfl, a1, h3, h5, hb⟩
              case round =>
                clear a1 h3 h5 hb
                obtain ⟨n, hn, rfl, h1, h3, h5, hb⟩ := hrel
                by_cases hlt : n < 8
                · have c0 := (lies_cell h1 n).trans (half_at s r n hlt)
                  rw [if_neg (by omega)] at c0
                  have c1 := (lies_cell h5 n).trans (stRow_at r hlt)
                  have f0 := lies_free h1 n
                  have li : (n : Int) < 8 := by omega
                  go_wp2
                  go_still_tail 9, (by kernel_rfl)
                  clear c1
                  change wpList _ _ _ _ _ wr.drew
                  go_wp2_with (rw [store_us]; go_simp)
                  refine ⟨⟨_, _, _, _, _, _, _, _, _, _, _, _, _, _, ?rel, rfl⟩, ?measure⟩
                  case rel => exact ⟨n + 1, by omega, by go_num, (by rw [← half_set s r n hlt]; exact lies_drew (lies_set h1 n _)), row_drew (row_far (p := ⟨w.heap.size, n, none⟩) h3 (by simp; omega) _), lies_drew (lies_far (p := ⟨w.heap.size, n, none⟩) h5 (by simp; omega) _), (hb.setCell (p := ⟨w.heap.size, n, none⟩) (Nat.le_refl _) _).drew⟩
                  case measure => simp [intOf]; omega
                · obtain rfl : n = 8 := by omega
                  have a1 : Lies wr w.heap.size 59 (stRow (s.plus r)) := by rw [← half_all]; exact h1
                  obtain ⟨old, h3, hold, _⟩ := h3
                  have A1 := Lib.hid a1
                  have H3 := Lib.hid h3
                  have HO := Lib.hid hold
                  clear a1 h1 h3 hold h5
                  go_wp2_with (first
                    | (refine wpList_load_row rfl 59 _ rfl w.heap.size rfl 59 (stRow (s.plus r)) _ _ A1.out Tryd.underlying59 rfl (by kernel_rfl) ?_)
                    | (refine wpList_store_row rfl 59 _ _ rfl (w.heap.size + 1 + 1) (stRow (s.plus r)) rfl rfl 59 old H3.out (by kernel_rfl) HO.out (stRow_one _) ?_))
                  change bodyPost Tryd.prog Tryd.f25 (fun e w' => e = .returned (.agg (stRow (mixed key s p))) ∧ Below w.heap.size w w') .ret _ _
                  refine bodyPost_ret (results_cell_row rfl _ _ (w.heap.size + 1 + 1) 59 (stRow (s.plus r)) (0, 0) _ rfl (lies_setRow H3.out _) Tryd.underlying59 rfl (by kernel_rfl)) rfl ⟨by rw [HE.out], below_setRow hb (by omega) _⟩
end Go.Proofs.YtlnmaejpchncoaaDoor
