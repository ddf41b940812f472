/-
What is proved here: spread (a part's 64 words), by a contract.
-/
import Derived.Test.YtlnmaejpchncoaaDoorTurn
import Derived.StillTailTactics
import Derived.Deep.QuietTactic
import Derived.BigQuiet
namespace Go.Proofs.YtlnmaejpchncoaaDoor
open Go.Word Go.RowKit
attribute [local go_sem] u_xor u_and u_or u_add shl8 shl16 shl24 shr3 shr10 u_not u_eql byte_word

theorem word_own (p : Nat → BitVec 8) (k : Nat) (h : k < 16) : U (wide (p (4 * k)) <<< 24 ||| wide (p (4 * k + 1)) <<< 16 ||| wide (p (4 * k + 2)) <<< 8 ||| wide (p (4 * k + 3))) = U (word p k) := by rw [word_low p k h]; rfl

theorem word_then (p : Nat → BitVec 8) (k : Nat) (h : k < 48) : U (word p k + (rot (word p (k + 1)) 7 ^^^ rot (word p (k + 1)) 18 ^^^ word p (k + 1) >>> 3) + word p (k + 9) + (rot (word p (k + 14)) 17 ^^^ rot (word p (k + 14)) 19 ^^^ word p (k + 14) >>> 10)) = U (word p (k + 16)) := by rw [word_next p k h]; rfl
theorem sum_in (z : Int) (n : Nat) (h : z = n) (hn : n < 9223372036854775808) : IntKind.i64.wrap z = z ∧ 0 ≤ z ∧ z.toNat = n := ⟨IntWalk.i64_in _ (by omega), by omega, by omega⟩

set_option maxHeartbeats 400000 in
theorem spread_any (p : Nat → BitVec 8) (w : World) :
    Calls Tryd.prog 31 #[.agg (yRow p 64)] w fun e w' => e = .returned (.agg (uRow (word p) 64)) ∧ Below w.heap.size w w' := by
  go_enter Tryd.func31, Tryd.ntmps31
  go_wp2
  go_loopw [8] (fun i wr => ∃ k : Nat, k ≤ 16 ∧ i = .int .i64 k ∧ Lies wr w.heap.size 64 (yRow p 64) ∧ Row wr (w.heap.size + 1) 60 64 (fun j => U (word p j)) 0 ∧ Row wr (w.heap.size + 1 + 1) 60 64 (fun j => U (word p j)) k ∧ Below w.heap.size w wr) (fun i _ => 16 - (intOf i).toNat)
  case atStart =>
    refine ⟨0, by omega, rfl, ?_, ?_, ?_, ?_⟩
    · exact lies_alloc (lies_alloc (lies_new _ _ _) _) _
    · exact row_alloc (row_new' _ _ _ _ _ _ _ (by simp) rfl (fun j hj => by omega)) _
    · exact row_new' _ _ _ _ _ _ _ (by simp) rfl (fun j hj => by omega)
    · exact (((Below.refl _ _).alloc (Nat.le_refl _) _).alloc (by simp) _).alloc (by simp; omega) _
  case round =>
    obtain ⟨k, hk, rfl, h1, h2, h3, hb⟩ := hrel
    by_cases hlt : k < 16
    · have c0 := (lies_cell h1 (4 * k)).trans (yRow_at p (by omega))
      have c1 := (lies_cell h1 (4 * k + 1)).trans (yRow_at p (by omega))
      have c2 := (lies_cell h1 (4 * k + 2)).trans (yRow_at p (by omega))
      have c3 := (lies_cell h1 (4 * k + 3)).trans (yRow_at p (by omega))
      obtain ⟨v, c4⟩ := row_some h3 (i := k) (by omega)
      have f4 := row_free h3 k
      have W0 := sum_in (4 * (k : Int)) (4 * k) (by omega) (by omega)
      have W1 := sum_in (4 * (k : Int) + 1) (4 * k + 1) (by omega) (by omega)
      have W2 := sum_in (4 * (k : Int) + 2) (4 * k + 2) (by omega) (by omega)
      have W3 := sum_in (4 * (k : Int) + 3) (4 * k + 3) (by omega) (by omega)
      have l0 : 4 * (k : Int) < 64 := by omega
      have l1 : 4 * (k : Int) + 1 < 64 := by omega
      have l2 : 4 * (k : Int) + 2 < 64 := by omega
      have l3 : 4 * (k : Int) + 3 < 64 := by omega
      have l4 : (k : Int) < 64 := by omega
      go_wp2
      obtain ⟨w0, n0, t0⟩ := W0
      obtain ⟨w1, n1, t1⟩ := W1
      obtain ⟨w2, n2, t2⟩ := W2
      obtain ⟨w3, n3, t3⟩ := W3
      go_still_tail 31, (by kernel_rfl)
      clear w0 n0 t0 w1 n1 t1 w2 n2 t2 w3 n3 t3 l0 l1 l2 l3 c0 c1 c2 c3
      change wpList _ _ _ _ _ wr.drew
      rw [word_own p k hlt]
      go_wp2_with (rw [store_us]; go_simp)
      go_roundw
      case rel => exact ⟨k + 1, by omega, by go_num, lies_drew (lies_far (p := ⟨w.heap.size + 1 + 1, k, none⟩) h1 (by simp; omega) _), row_drew (row_far (p := ⟨w.heap.size + 1 + 1, k, none⟩) h2 (by simp) _), row_drew (row_more h3 (by omega) rfl), (hb.setCell (p := ⟨w.heap.size + 1 + 1, k, none⟩) (by simp; omega) _).drew⟩
      case measure => simp [intOf]; omega
    · have h4 : Row wr (w.heap.size + 1 + 1) 60 64 (fun j => U (word p j)) (0 + 16) := row_less h3 (by omega)
      clear h1 h3
      obtain ⟨wo, hwo⟩ : ∃ wo : World, wo = wr := ⟨_, rfl⟩
      subst hwo
      go_wp2
      go_loopw [43] (fun i wr => ∃ k : Nat, k ≤ 48 ∧ i = .int .i64 k ∧ Row wr (w.heap.size + 1) 60 64 (fun j => U (word p j)) 0 ∧ Row wr (w.heap.size + 1 + 1) 60 64 (fun j => U (word p j)) (k + 16) ∧ Below w.heap.size w wr) (fun i _ => 48 - (intOf i).toNat)
      case atStart => exact ⟨0, by omega, rfl, h2, h4, hb⟩
      case round =>
        clear h2 h4 hb hk hlt
        obtain ⟨k, hk, rfl, h2, h3, hb⟩ := hrel
        by_cases hlt : k < 48
        · have c1 := row_cell h3 (i := k + 1) (by omega)
          have c14 := row_cell h3 (i := k + 14) (by omega)
          have W1 := sum_in ((k : Int) + 1) (k + 1) (by omega) (by omega)
          have W9 := sum_in ((k : Int) + 9) (k + 9) (by omega) (by omega)
          have W14 := sum_in ((k : Int) + 14) (k + 14) (by omega) (by omega)
          have W16 := sum_in ((k : Int) + 16) (k + 16) (by omega) (by omega)
          have l0 : (k : Int) < 64 := by omega
          have l1 : (k : Int) + 1 < 64 := by omega
          have l9 : (k : Int) + 9 < 64 := by omega
          have l14 : (k : Int) + 14 < 64 := by omega
          have l16 : (k : Int) + 16 < 64 := by omega
          go_wp2
          obtain ⟨w1, n1, t1⟩ := W1
          obtain ⟨w14, n14, t14⟩ := W14
          go_quiet (fail)
          clear w1 n1 t1 w14 n14 t14 c1 c14 l1 l14
          have g2 := row_drewN h2 nq
          have g3 := row_drewN h3 nq
          have gb := below_drewN hb nq
          clear h2 h3 hb
          generalize wr.drewN nq = w2 at *
          go_wp2_with (go_at_call 32; (with_reducible refine (turn_z _ _ _ (by decide) (by decide)).mono ?_); rintro e w' ⟨rfl, rfl⟩)
          have c0 := row_cell g3 (i := k) (by omega)
          have c9 := row_cell g3 (i := k + 9) (by omega)
          obtain ⟨v, c16⟩ := row_some g3 (i := k + 16) (by omega)
          have f16 := row_free g3 (k + 16)
          obtain ⟨w9, n9, t9⟩ := W9
          obtain ⟨w16, n16, t16⟩ := W16
          go_still_tail 15, (by kernel_rfl)
          clear w9 n9 t9 w16 n16 t16 c0 c9 l0 l9 l16
          change wpList _ _ _ _ _ w2.drew
          rw [word_then p k hlt]
          go_wp2_with (rw [store_us]; go_simp)
          go_roundw
          case rel => exact ⟨k + 1, by omega, by go_num, row_drew (row_far (p := ⟨w.heap.size + 1 + 1, k + 16, none⟩) g2 (by simp) _), (by rw [show k + 1 + 16 = k + 16 + 1 by omega]; exact row_drew (row_more g3 (by omega) rfl)), (gb.setCell (p := ⟨w.heap.size + 1 + 1, k + 16, none⟩) (by simp; omega) _).drew⟩
          case measure => simp [intOf]; omega
        · have h4 := row_less h3 (m := 64) (by omega)
          clear h3
          obtain ⟨old, h2, hold, _⟩ := h2
          have hs := row_whole h4
          clear h4
          have H2 := Lib.hid h2
          have HS := Lib.hid hs
          clear h2 hs
          have HO := Lib.hid hold
          clear hold
          go_wp2_with (first
            | (refine wpList_load_row rfl 60 _ rfl (w.heap.size + 1 + 1) rfl 60 (uRow (word p) 64) _ _ HS.out Tryd.underlying60 rfl (by rw [uRow_size]; kernel_rfl) ?_)
            | (refine wpList_store_row rfl 60 _ _ rfl (w.heap.size + 1) (uRow (word p) 64) rfl rfl 60 old H2.out (by rw [uRow_size]; kernel_rfl) (by rw [uRow_size]; exact HO.out) (uRow_one _ _) ?_))
          refine bodyPost_ret (results_cell_row rfl _ _ (w.heap.size + 1) 60 (uRow (word p) 64) (0, 0) _ rfl (lies_setRow H2.out _) Tryd.underlying60 rfl (by rw [uRow_size]; kernel_rfl)) rfl ⟨rfl, below_setRow hb (by omega) _⟩
end Go.Proofs.YtlnmaejpchncoaaDoor
