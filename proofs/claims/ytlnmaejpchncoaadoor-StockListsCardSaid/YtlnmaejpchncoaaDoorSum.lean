/-
What is proved here: Sum and SHA, by a contract each.
-/
import Derived.Test.YtlnmaejpchncoaaDoorAdd
set_option linter.unusedSimpArgs false
set_option linter.unusedVariables false
namespace Go.Proofs.YtlnmaejpchncoaaDoor
open Go.Word Go.RowKit
attribute [local go_sem] word_byte

theorem hash_form {w : World} {g : Nat} {L : List (BitVec 8)} (h : Hash w g L) : ∃ s r, Lies w g 66 (hRow s r L.length) ∧ ∀ w' g', Lies w' g' 66 (hRow s r L.length) → Hash w' g' L := by
  rcases h with ⟨r, hl, hr⟩ | ⟨rfl, s, r, hl⟩
  · exact ⟨_, r, hl, fun w' g' h' => .inl ⟨r, h', hr⟩⟩
  · exact ⟨s, r, hl, fun w' g' h' => .inr ⟨rfl, s, r, h'⟩⟩
theorem hRow_one (s : St) (r : Nat → BitVec 8) (n : Nat) : (hRow s r n).all (·.oneCell') = true := by
  have h1 := stRow_one s
  have h2 := yRow_one r 64
  rw [Array.all_eq_true_iff_forall_mem] at *
  intro v hv
  unfold hRow at hv
  simp only [Array.mem_append, List.mem_toArray, List.mem_singleton] at hv
  rcases hv with (hv | hv) | rfl
  · exact h1 v hv
  · exact h2 v hv
  · rfl
theorem stRow_at (s : St) {k : Nat} (h : k < 8) : (stRow s)[k]? = some (U (s.at k)) := by
  match k, h with
  | 0, _ => rfl
  | 1, _ => rfl
  | 2, _ => rfl
  | 3, _ => rfl
  | 4, _ => rfl
  | 5, _ => rfl
  | 6, _ => rfl
  | 7, _ => rfl
theorem add_at (g : Nat) (A : Option Addr) (k c : Nat) (l b : List (BitVec 8)) (w : World) (hb : b.length = k) (hk : Keyed w) (hh : Hash w g l) (hs : Src w g A b) (hg : 1 ≤ g) (hc : k ≤ c) (hn : l.length + k < 2 ^ 60) :
    Calls Tryd.prog 22 #[.pointer (some ⟨g, 0, none⟩), .slice A k c] w fun e w' => e = .returned (.tuple #[]) ∧ Has w' g (l ++ b) ∧ w.grownBy w' (some g) := by
  subst hb
  exact add_any g A c l b w hk hh hs hg hc hn
theorem src_row {w : World} {g g' n : Nat} (h : Row w g' 5 (gap n + 8) (fun j => Y (padAt n j)) (gap n + 8)) (hne : g' ≠ g) : Src w g (some ⟨g', 0, none⟩) (pad n) := fun _ =>
  ⟨_, rfl, row_lt h, hne, fun j hj => by
    rw [pad_len] at hj
    rw [Addr.add_mid, Nat.zero_add, pad_at n hj]
    exact row_cell h hj⟩
theorem lies_new1 (w : World) (o : Obj) (t : TypeId) (cs : Array Value) : Lies ((w.alloc o).alloc (.cells cs t)) (w.heap.size + 1) t cs := heap_alloc2_new w o _
theorem behind_copy {w W1 : World} {o z : Array Value} {s : St} {r : Nat → BitVec 8} {n : Nat} (ho : o.size = 32) (hw : ((w.alloc (.cells o 35)).alloc (.cells z 66)).setRow (w.heap.size + 1) (hRow s r n) = W1) :
    Lies W1 (w.heap.size + 1) 66 (hRow s r n) ∧ Row W1 w.heap.size 35 32 (fun _ => undef) 0 ∧ Below w.heap.size w W1 := by
  subst hw
  refine ⟨lies_setRow (lies_new1 _ _ _ _) _, ?_, below_setRow (((Below.refl _ _).alloc (Nat.le_refl _) _).alloc (by simp) _) (by omega) _⟩
  have a2 : Row (w.alloc (.cells o 35)) w.heap.size 35 32 (fun _ => undef) 0 := row_new' _ _ _ _ _ _ _ rfl ho (fun j hj => by omega)
  obtain ⟨cs, h, k⟩ := row_alloc a2 (.cells z 66)
  exact ⟨cs, (setRow_other _ _ _ _ (by omega)).trans h, k⟩
theorem keyed_far {w W W' : World} (hk : Keyed w) (h : Below w.heap.size w W) (h' : Below W.heap.size W W') : Keyed W' := by
  obtain ⟨h2, hc⟩ := hk
  have hz := h.size
  have hz' := h'.size
  refine ⟨by omega, fun i hi => ?_⟩
  rw [h'.cell (p := ⟨0, i, none⟩) (by show 0 < _; omega), h.cell (p := ⟨0, i, none⟩) (by show 0 < _; omega)]
  exact hc i hi
theorem behind_add {w W1 w1 w2 : World} {L : List (BitVec 8)} {n : Nat} (hn : n = L.length) (h2 : Row W1 w.heap.size 35 32 (fun _ => undef) 0) (h3 : Below w.heap.size w W1) (hb : Below W1.heap.size W1 w1) (hl : w.heap.size + 1 < W1.heap.size)
    (hh : Has w2 (w.heap.size + 1) (L ++ pad n)) (hG : w1.grownBy w2 (some (w.heap.size + 1))) :
    (∃ r, Lies w2 (w.heap.size + 1) 66 (hRow (last key L) r (L ++ pad n).length)) ∧ Row w2 w.heap.size 35 32 (fun _ => undef) 0 ∧ Below w.heap.size w w2 ∧ w.heap.size ≤ w2.heap.size := by
  have z1 := hb.size
  have z2 := hG.size
  subst hn
  obtain ⟨r, h, _⟩ := hh
  refine ⟨⟨r, h⟩, ?_, (h3.trans (hb.mono (by omega))).grown hG (by omega) (fun k hk => by injection hk; omega), by omega⟩
  obtain ⟨cs, k, m⟩ := row_below h2 hb (by omega)
  exact ⟨cs, (hG.block w.heap.size (by omega) (fun e => by injection e; omega)).trans k, m⟩
theorem shr_at (x : BitVec 32) (i : Nat) : binOp .shr 58 (U x) (.int .i64 (24 - 8 * ((i : Int) % 4))) = pure (U (x >>> (24 - 8 * (i % 4)))) := by
  have := u_shr 58 .i64 x (24 - 8 * ((i : Int) % 4)) (by omega) (by omega)
  rw [this, show (24 - 8 * ((i : Int) % 4)).toNat = 24 - 8 * (i % 4) by omega]

set_option maxHeartbeats 1000000 in
theorem sum_any (g : Nat) (L : List (BitVec 8)) (w : World) (hk : Keyed w) (hh : Hash w g L) (hg : 1 ≤ g) (hn : L.length < 2 ^ 59) :
    Calls Tryd.prog 23 #[.pointer (some ⟨g, 0, none⟩)] w fun e w' => e = .returned (.agg (yRow (sha key L) 32)) ∧ Below w.heap.size w w' := by
  have hn' : L.length < 576460752303423488 := hn
  clear hn
  obtain ⟨s, r, hl, hf⟩ := hash_form hh
  clear hh
  have hlt := lies_lt hl
  obtain ⟨n, hN⟩ : ∃ n, n = L.length := ⟨_, rfl⟩
  rw [← hN] at hl hf hn'
  have HN := Lib.hid hN
  have HK := Lib.hid hk
  have HL := Lib.hid hl
  have HF := Lib.hid hf
  clear hN hk hl hf
  have hz55 : ∀ W, (zeroValue 66).run Tryd.prog W = .ok (.agg (hRow ⟨0, 0, 0, 0, 0, 0, 0, 0⟩ (fun _ => 0) 0)) W := fun W => by kernel_rfl
  go_enter Tryd.func23, Tryd.ntmps23
  go_upto_region 4 with (first
    | (refine wpList_load_row rfl 66 _ rfl g rfl 66 (hRow s r n) (0, 0) _ (lies_alloc (lies_alloc HL.out _) _) Tryd.underlying66 rfl (by rw [hRow_size]; kernel_rfl) ?_)
    | (refine wpList_store_row rfl 66 _ _ rfl (w.heap.size + 1) (hRow s r n) rfl rfl 66 _ (lies_new1 _ _ _ _) (by rw [hRow_size]; kernel_rfl) (by simp only [hRow_size]) (hRow_one _ _ _) ?_))
  generalize hw : World.setRow _ (w.heap.size + 1) (hRow s r n) = W1
  obtain ⟨h1, h2, h3⟩ := behind_copy rfl hw
  clear hw hz55
  have c72 := (lies_cell h1 72).trans (hRow_72 _ _ _)
  have hlen := lies_lt h1
  have hN1 := HN.out
  have H1 := Lib.hid h1
  have H2 := Lib.hid h2
  have H3 := Lib.hid h3
  clear h1 h2 h3 hN1
  go_upto_region 5 with (first
    | (go_at_call 29; (with_reducible refine (tail_any n _ (by omega)).mono ?_); rintro e w1 ⟨g', rfl, hg', hrow, hb⟩; have HW := Lib.hid hrow; have HB := Lib.hid hb; clear hrow hb)
    | (go_at_call 22; (with_reducible refine (add_at (w.heap.size + 1) _ _ _ L (pad n) _ (pad_len n) (keyed_far HK.out H3.out HB.out) (HF.out _ _ (lies_below H1.out HB.out (lies_lt H1.out))) (src_row HW.out (by omega)) (by omega) (Nat.le_refl _) (by rw [← HN.out]; have := gap_pos n; omega)).mono ?_); rintro e w2 ⟨rfl, hh, hG⟩))
  obtain ⟨⟨r2, k1⟩, k2, k3, k4⟩ := behind_add HN.out H2.out H3.out HB.out hlen hh hG
  clear hh hG c72 HL HF HW HB H1 H2 H3 hlen
  clear hg'
  obtain ⟨Z, hZ⟩ : ∃ Z, Z = last key L := ⟨_, rfl⟩
  rw [← hZ] at k1
  have HZ := Lib.hid hZ
  clear hZ
  go_wp2
  go_loopw [15] (fun v wr => ∃ i : Nat, i ≤ 32 ∧ v = .int .i64 i ∧ Lies wr (w.heap.size + 1) 66 (hRow Z r2 (L ++ pad n).length) ∧ Row wr w.heap.size 35 32 (fun _ => undef) 0 ∧ Below w.heap.size w wr ∧ Row wr w2.heap.size 35 32 (fun i => Y (Z.byte i)) i) (fun v _ => 32 - (intOf v).toNat)
  case atStart => exact ⟨0, by omega, rfl, lies_alloc k1 _, row_alloc k2 _, k3.alloc k4 _, row_new' _ _ _ _ _ _ _ rfl rfl (fun j hj => by omega)⟩
  case round =>
    have hBD := lies_lt k1
    have hB2 := row_lt k2
    clear k1 k2 k3
    obtain ⟨i, hi, rfl, j1, j2, j3, j4⟩ := hrel
    by_cases hlt : i < 32
    · have c := ((lies_cell j1 (i / 4)).trans (hRow_st _ _ _ _ (by omega))).trans (stRow_at Z (by omega))
      obtain ⟨v, d⟩ := row_some j4 (i := i) hlt
      have f := row_free j4 i
      have hsh := shr_at (Z.at (i / 4)) i
      have l8 : (i : Int) / 4 < 8 := by omega
      have l32 : (i : Int) < 32 := by omega
      go_wp2_with (rw [store_ys]; go_simp)
      go_roundw
      case rel => exact ⟨i + 1, by omega, by go_num, lies_far (p := ⟨w2.heap.size, i, none⟩) j1 (by show _ ≠ w2.heap.size; omega) _, row_far (p := ⟨w2.heap.size, i, none⟩) j2 (by show _ ≠ w2.heap.size; omega) _, j3.setCell (p := ⟨w2.heap.size, i, none⟩) k4 _, row_more j4 hlt rfl⟩
      case measure => simp [intOf]; omega
    · have hw := row_whole (row_less j4 (m := 32) (by omega))
      obtain ⟨old, h2, hold, _⟩ := j2
      have HS := Lib.hid hw
      have H2 := Lib.hid h2
      have HO := Lib.hid hold
      have e : sha key L = Z.byte := by rw [HZ.out]; rfl
      have E := Lib.hid e
      clear j1 j4 hw h2 hold e
      go_wp2_with (first
        | (refine wpList_load_row rfl 35 _ rfl w2.heap.size rfl 35 (yRow Z.byte 32) _ _ HS.out Tryd.underlying35 rfl (by rw [yRow_size]; kernel_rfl) ?_)
        | (refine wpList_store_row rfl 35 _ _ rfl w.heap.size (yRow Z.byte 32) rfl rfl 35 old H2.out (by rw [yRow_size]; kernel_rfl) (by rw [yRow_size]; exact HO.out) (yRow_one _ _) ?_))
      refine bodyPost_ret (results_cell_row rfl _ _ w.heap.size 35 (yRow Z.byte 32) (0, 0) _ rfl (lies_setRow H2.out _) Tryd.underlying35 rfl (by rw [yRow_size]; kernel_rfl)) rfl ⟨by rw [E.out], below_setRow j3 (Nat.le_refl _) _⟩

theorem new_at (w : World) : Calls Tryd.prog 21 #[] w fun e w' => ∃ g, e = .returned (.pointer (some ⟨g, 0, none⟩)) ∧ w.heap.size = g ∧ Hash w' g [] ∧ Below w.heap.size w w' ∧ g < w'.heap.size :=
  (new_any w).mono fun _ _ ⟨he, hl, hb, hz⟩ => ⟨_, he, rfl, .inr ⟨rfl, _, _, hl⟩, hb, hz⟩
/-- the bytes at address A -/
def Byt (w : World) (A : Option Addr) (b : List (BitVec 8)) : Prop := 0 < b.length → ∃ ad : Addr, A = some ad ∧ ad.block < w.heap.size ∧ ∀ j, j < b.length → w.cell? (ad.add j) = some (Y (b.getD j 0))
theorem byt_below {w w' : World} {A : Option Addr} {b : List (BitVec 8)} (h : Byt w A b) (hb : Below w.heap.size w w') : Byt w' A b := fun h0 => by
  obtain ⟨ad, e, hlt, hc⟩ := h h0
  have hz := hb.size
  have eb : ∀ j, (ad.add j).block = ad.block := fun j => by unfold Addr.add; split <;> rfl
  exact ⟨ad, e, by omega, fun j hj => by rw [hb.cell (by rw [eb]; exact hlt)]; exact hc j hj⟩
theorem src_of {w w' : World} {A : Option Addr} {b : List (BitVec 8)} {g : Nat} (h : Byt w A b) (hb : Below w.heap.size w w') (hg : w.heap.size ≤ g) : Src w' g A b := fun h0 => by
  obtain ⟨ad, e, hlt, hc⟩ := h h0
  have hz := hb.size
  have eb : ∀ j, (ad.add j).block = ad.block := fun j => by unfold Addr.add; split <;> rfl
  exact ⟨ad, e, by omega, by omega, fun j hj => by rw [hb.cell (by rw [eb]; exact hlt)]; exact hc j hj⟩
theorem only_up {w w1 w2 : World} {g : Nat} (hb : Below w.heap.size w w1) (hG : w1.grownBy w2 (some g)) (hg : w.heap.size ≤ g) : Below w.heap.size w w2 :=
  hb.grown hG hb.size (fun k hk => by injection hk; omega)
theorem keyed_below {w w' : World} (hk : Keyed w) (h : Below w.heap.size w w') : Keyed w' := keyed_far hk (Below.refl _ _) h
theorem behind_sha {w w1 w2 w3 : World} {o : Array Value} {g : Nat} (ho : o.size = 32) (hb : Below (w.alloc (.cells o 35)).heap.size (w.alloc (.cells o 35)) w1) (hg : (w.alloc (.cells o 35)).heap.size = g) (hG : w1.grownBy w2 (some g)) (hc : Below w2.heap.size w2 w3) :
    Row w3 w.heap.size 35 32 (fun _ => undef) 0 ∧ Below w.heap.size w w3 := by
  have z0 : (w.alloc (.cells o 35)).heap.size = w.heap.size + 1 := by simp
  have z1 := hb.size
  have z2 := hG.size
  have b0 : Below w.heap.size w (w.alloc (.cells o 35)) := (Below.refl _ _).alloc (Nat.le_refl _) _
  have b1 : Below w.heap.size w w1 := b0.trans (hb.mono (by omega))
  have b2 : Below w.heap.size w w2 := only_up b1 hG (by omega)
  refine ⟨?_, b2.trans (hc.mono (by omega))⟩
  have r0 : Row (w.alloc (.cells o 35)) w.heap.size 35 32 (fun _ => undef) 0 := row_new' _ _ _ _ _ _ _ rfl ho (fun j hj => by omega)
  obtain ⟨cs, k, m⟩ := row_below r0 hb (by omega)
  have k2 : Lies w2 w.heap.size 35 cs := (hG.block w.heap.size (by omega) (fun e => by injection e; omega)).trans k
  exact ⟨cs, lies_below k2 hc (by omega), m⟩

theorem has_hash {w : World} {g : Nat} {L : List (BitVec 8)} (h : Has w g L) : Hash w g L := .inl h
theorem keyed_only {w w' : World} {g : Nat} (hk : Keyed w) (h : w.grownBy w' (some g)) (hg : 1 ≤ g) : Keyed w' := keyed_of hk h hg (Below.refl _ _)
set_option maxHeartbeats 400000 in
/-- SHA of any bytes -/
theorem sha_any (A : Option Addr) (k c : Nat) (b : List (BitVec 8)) (w : World) (hb : b.length = k) (hk : Keyed w) (hs : Byt w A b) (hc : k ≤ c) (hn : k < 2 ^ 59) :
    Calls Tryd.prog 17 #[.slice A k c] w fun e w' => e = .returned (.agg (yRow (sha key b) 32)) ∧ Below w.heap.size w w' := by
  have hn' : k < 576460752303423488 := hn
  clear hn
  have h2 := hk.1
  have HK := Lib.hid hk
  have HB := Lib.hid hb
  have HS := Lib.hid hs
  clear hk hb hs
  go_enter Tryd.func17, Tryd.ntmps17
  go_upto_region 3 with (first
    | (go_at_call 21; (with_reducible refine (new_at _).mono ?_); rintro e w1 ⟨g, rfl, hg, hh, hb1, hz⟩; have HG := Lib.hid hg; have HH := Lib.hid hh; have H1 := Lib.hid hb1; clear hg hh hb1)
    | (go_at_call 22; (with_reducible refine (add_at g A k c [] b _ HB.out (keyed_far HK.out ((Below.refl _ _).alloc (Nat.le_refl _) _) H1.out) HH.out (src_of HS.out (((Below.refl _ _).alloc (Nat.le_refl _) _).trans (H1.out.mono (by simp))) (by have := HG.out; simp at this; omega)) (by have := HG.out; simp at this; omega) hc (by simp; omega)).mono ?_); rintro e w2 ⟨rfl, hh, hG⟩; have HA := Lib.hid (show Has w2 g b from hh); have hk2 := keyed_only (keyed_far HK.out ((Below.refl _ _).alloc (Nat.le_refl _) _) H1.out) hG (by have := HG.out; simp at this; omega); have HK2 := Lib.hid hk2; clear hk2; have H2 := Lib.hid hG; clear hh hG)
    | fail)
  go_wp2_with (first
    | (go_at_call 23; (with_reducible refine (sum_any g b _ HK2.out (has_hash HA.out) (by have := HG.out; simp at this; omega) (by rw [HB.out]; omega)).mono ?_); rintro e w3 ⟨rfl, hb3⟩; obtain ⟨⟨old, r1, r2, _⟩, r3⟩ := behind_sha rfl H1.out HG.out H2.out hb3; have R1 := Lib.hid r1; have R2 := Lib.hid r2; have R3 := Lib.hid r3; clear r1 r2 r3 hb3)
    | (refine wpList_store_row rfl 35 _ _ rfl w.heap.size (yRow (sha key b) 32) rfl rfl 35 old R1.out (by rw [yRow_size]; kernel_rfl) (by rw [yRow_size]; exact R2.out) (yRow_one _ _) ?_))
  refine bodyPost_ret (results_cell_row rfl _ _ w.heap.size 35 (yRow (sha key b) 32) (0, 0) _ rfl (lies_setRow R1.out _) Tryd.underlying35 rfl (by rw [yRow_size]; kernel_rfl)) rfl ⟨rfl, below_setRow R3.out (Nat.le_refl _) _⟩
end Go.Proofs.YtlnmaejpchncoaaDoor
