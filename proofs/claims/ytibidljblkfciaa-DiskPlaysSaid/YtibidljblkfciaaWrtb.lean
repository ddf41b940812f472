/-
What is proved here: Write of the disk, where it is made, with what it leaves as it was.
-/
import Derived.Test.YtibidljblkfciaaHoldb
set_option linter.unusedSimpArgs false
namespace Go.Proofs.Ytibidljblkfciaa
open Go.Word Go.RowKit

set_option maxRecDepth 100000 in
set_option maxHeartbeats 4000000 in
theorem write_full_ok (g B base n K : Nat) (f : Nat → BitVec 8) (hv : Value) (hs : List Ent) (lf : Int) (at_ : Nat) (ad : Addr) (c : Nat) (q : Nat → BitVec 8) (w : World) (ha : at_ < n) (hN : hs.length < 65536) (h1 : -1 ≤ lf) (h2 : lf ≤ 9223372036854775807)
    (h : Dsk w g B base n K f hv hs true lf) (hq : Src8 w ad q 512) (hl : ad.block < w.heap.size) (hn1 : ad.block ≠ g) (hn2 : hv.ownBlock ≠ some ad.block) :
    Calls Try.prog 22 #[.pointer (some ⟨g, 0, none⟩), .int .i64 (at_ : Int), .slice (some ad) 512 c] w fun e w' => e = .returned (.int .i64 0) ∧
      ∃ hv' e', Ent.at_ e' = at_ ∧ Ent.da e' = q ∧ Ent.dc e' = (fun j => f (512 * at_ + j)) ∧ Dsk w' g B base n K (put f (512 * at_) q) hv' (hs ++ [e']) (stepOn true lf) (stepLf lf) ∧ Below (min B g) w w' ∧ (∀ i, i < w.heap.size → i ≠ g → i ≠ B → hv.ownBlock ≠ some i → w'.heap[i]? = w.heap[i]?) ∧ (hv'.ownBlock = hv.ownBlock ∨ ∃ k, hv'.ownBlock = some k ∧ w.heap.size ≤ k) ∧ w.heap.size ≤ e'.a ∧ w.heap.size ≤ e'.c := by
  obtain ⟨p, hp⟩ : ∃ p, p = 512 * at_ := ⟨_, rfl⟩
  have ew : why true n (at_ : Int) = 0 := by unfold why; rw [if_neg (by decide), if_neg (by omega)]
  have F1 := Lib.hid (reach_any g B n K hv true lf (at_ : Int) w h.size h.most.2 h.self)
  rw [ew] at F1
  have F2 := Lib.hid (block_any g B n K hv true lf at_ p w h.size h.most.2 hp ha h.self)
  have c1 : w.cell? ⟨g, 1, none⟩ = some hv := lies_cell h.self 1
  obtain ⟨A, C, hvf⟩ : ∃ A C, hv = .slice A hs.length C := by
    rcases h.held.2 with ⟨e, e0⟩ | ⟨gg, cap, cur, e, _⟩
    · exact ⟨none, 0, by rw [e, e0]⟩
    · exact ⟨_, _, e⟩
  obtain ⟨N, hNl⟩ : ∃ N, N = hs.length := ⟨_, rfl⟩
  rw [← hNl] at hvf hN
  subst hvf
  have t3 : decide (65536 ≤ N) = false := decide_eq_false (by omega)
  have t4 : decide ((65536 : Int) ≤ (N : Int)) = false := decide_eq_false (by omega)
  have HP := Lib.hid hp
  have HNL := Lib.hid hNl
  have hps : Src8 w ⟨B, p, none⟩ (fun j => f (512 * at_ + j)) 512 := fun j hj => by
    have := h.size
    rw [Addr.add_mid, lies_cell h.bytes, yRow_at _ (by omega), hp]
  have T1 := Lib.hid (fun (W : World) (hb : Below w.heap.size w W) => twin_at ad 512 c q W (by omega) (src_below hq hl hb) (Nat.lt_of_lt_of_le hl hb.size))
  have T2 := Lib.hid (fun (W : World) (hb : Below w.heap.size w W) => twin_at ⟨B, p, none⟩ 512 512 (fun j => f (512 * at_ + j)) W (by omega) (src_below hps (lies_lt h.bytes) hb) (Nat.lt_of_lt_of_le (lies_lt h.bytes) hb.size))
  have CC := Lib.hid (fun (W : World) (hb : Below w.heap.size w W) => show W.cell? ⟨g, 1, none⟩ = some (.slice A N C) by rw [hb.cell (by exact lies_lt h.self)]; exact c1)
  have FF := Lib.hid (fun (W : World) (hb : Below w.heap.size w W) => show W.ownsRow base 73 3 (.slice A N C) N (hs.flatMap Ent.cells) by
    have := (dsk_below h hb).held
    rw [← hNl] at this
    exact this)
  have H := Lib.hid h
  have HB := Lib.hid (fun (w1 w2 w4 : World) (v' : Value) (cs : Array Value) => behind_held (w1 := w1) (w2 := w2) (w4 := w4) (v' := v') (cs := cs) h ha hq hl hn1 hn2)
  have hgl := lies_lt h.self
  have hbl := h.ord
  have HSZ := Lib.hid h.size
  clear h hp hq hl ew hNl hps hn1 hn2
  go_enter Try.func22, Try.ntmps22
  go_upto_region 9 with (first
    | (go_at_call 39; (with_reducible refine F1.out.mono ?_); rintro e w' ⟨rfl, rfl⟩)
    | (go_at_call 40; (with_reducible refine F2.out.mono ?_); rintro e w' ⟨rfl, rfl⟩))
  clear c1 t3 t4 F1 F2
  obtain ⟨i0, hi, hz0, hz1, hz2⟩ := info_parts held_info
  refine wp_region_any (by kernel_rfl) ?_
  change wpAny _ _ _ _ _ _ _ (World.drew w)
  refine open_take 0 (some 27) (.pointer (some ⟨g, 0, none⟩)) rfl rfl (by kernel_rfl) (by kernel_rfl) (by kernel_rfl) (fun _ _ _ h => h) (Or.inl ⟨by rfl, fun _ => by kernel_rfl⟩) ?_
  simp only [Act.put, List.setIfInBounds_toArray, List.set_cons_zero, List.set_cons_succ]
  refine open_take 1 (some 28) (.pointer (some ⟨g, 0, none⟩)) rfl rfl (by kernel_rfl) (by kernel_rfl) (by kernel_rfl) (fun _ _ _ h => h) (Or.inl ⟨by rfl, fun _ => by kernel_rfl⟩) ?_
  simp only [Act.put, List.setIfInBounds_toArray, List.set_cons_zero, List.set_cons_succ]
  refine open_take 5 (some 32) (.int .i64 (at_ : Int)) rfl rfl (by kernel_rfl) (by kernel_rfl) (by kernel_rfl) (fun _ _ _ h => h) (Or.inl ⟨by rfl, fun _ => by kernel_rfl⟩) ?_
  simp only [Act.put, List.setIfInBounds_toArray, List.set_cons_zero, List.set_cons_succ]
  refine open_take 6 (some 33) (.slice (some ad) 512 c) rfl rfl (by kernel_rfl) (by kernel_rfl) (by kernel_rfl) (fun _ _ _ h => h) (Or.inl ⟨by rfl, fun _ => by kernel_rfl⟩) ?_
  simp only [Act.put, List.setIfInBounds_toArray, List.set_cons_zero, List.set_cons_succ]
  refine open_take 9 (some 36) (.slice (some ⟨B, p, none⟩) 512 512) rfl rfl (by kernel_rfl) (by kernel_rfl) (by kernel_rfl) (fun _ _ _ h => h) (Or.inl ⟨by rfl, fun _ => by kernel_rfl⟩) ?_
  simp only [Act.put, List.setIfInBounds_toArray, List.set_cons_zero, List.set_cons_succ]
  refine open_take 2 (some 29) (.pointer (some ⟨g, 0, none⟩)) rfl rfl (by kernel_rfl) (by kernel_rfl) (by kernel_rfl) (fun _ _ _ h => h) (Or.inl ⟨by rfl, fun _ => by kernel_rfl⟩) ?_
  simp only [Act.put, List.setIfInBounds_toArray, List.set_cons_zero, List.set_cons_succ]
  refine open_take 3 (some 30) (.pointer (some ⟨g, 1, none⟩)) rfl rfl (by kernel_rfl) (by kernel_rfl) (by kernel_rfl) (fun _ _ _ h => h) (Or.inl ⟨by rfl, fun _ => by kernel_rfl⟩) ?_
  simp only [Act.put, List.setIfInBounds_toArray, List.set_cons_zero, List.set_cons_succ]
  have bd : Below w.heap.size w w.drew := Below.drew (Below.refl _ _)
  have E1 := Lib.hid (T1.out _ bd)
  refine wpAny_ready (rs := [4, 7]) (by kernel_rfl) (by simp) ?_
  refine (open_value (some 31) (.slice A N C) rfl rfl rfl (load_slice _ rfl rfl (CC.out _ bd)) ?_ (open_call (some 34) (.slice (some ⟨w.heap.size, 0, none⟩) 512 512) _ rfl rfl rfl 32 #[.slice (some ad) 512 c] (by kernel_rfl) E1.out (fun w1 hr1 => ?_) AllReady.nil))
  · simp only [Act.put, List.setIfInBounds_toArray, List.set_cons_zero, List.set_cons_succ]
    refine wpAny_ready (rs := [7]) (by kernel_rfl) (by simp) ?_
    refine (open_call (some 34) (.slice (some ⟨w.heap.size, 0, none⟩) 512 512) _ rfl rfl rfl 32 #[.slice (some ad) 512 c] (by kernel_rfl) E1.out (fun w1 hr1 => ?_) AllReady.nil)
    simp only [Act.put, List.setIfInBounds_toArray, List.set_cons_zero, List.set_cons_succ]
    obtain ⟨l1, c1⟩ := hr1
    have b1 : Below w.heap.size w w1 := bd.trans c1
    refine open_take 8 (some 35) (.agg #[.int .i64 (at_ : Int), .slice (some ⟨w.heap.size, 0, none⟩) 512 512]) rfl rfl (by kernel_rfl) (by kernel_rfl) (by kernel_rfl) (fun _ _ _ h => h) (Or.inl ⟨by rfl, fun _ => by kernel_rfl⟩) ?_
    simp only [Act.put, List.setIfInBounds_toArray, List.set_cons_zero, List.set_cons_succ]
    refine wpAny_ready (rs := [10]) (by kernel_rfl) (by simp) ?_
    refine (open_call (some 37) (.slice (some ⟨w1.heap.size, 0, none⟩) 512 512) _ rfl rfl rfl 32 #[.slice (some ⟨B, p, none⟩) 512 512] (by kernel_rfl) (T2.out _ b1) (fun w2 hr2 => ?_) AllReady.nil)
    simp only [Act.put, List.setIfInBounds_toArray, List.set_cons_zero, List.set_cons_succ]
    obtain ⟨l2, c2⟩ := hr2
    have b2 : Below w.heap.size w w2 := b1.trans (c2.mono b1.size)
    refine open_take 11 (some 38) (.agg #[.int .i64 (at_ : Int), .slice (some ⟨w.heap.size, 0, none⟩) 512 512, .slice (some ⟨w1.heap.size, 0, none⟩) 512 512]) rfl rfl (by kernel_rfl) (by kernel_rfl) (by kernel_rfl) (fun _ _ _ h => h) (Or.inl ⟨by rfl, fun _ => by kernel_rfl⟩) ?_
    simp only [Act.put, List.setIfInBounds_toArray, List.set_cons_zero, List.set_cons_succ]
    refine wpAny_ready (rs := [12]) (by kernel_rfl) (by simp) ?_
    refine (open_wp (i := 12) rfl rfl (fun Kq hKq => wp_slice1 (some 39) rfl (.tmp 38) _ _ _ rfl rfl (hKq _ _ ?_)) AllReady.nil)
    simp only [Act.put, List.setIfInBounds_toArray, List.set_cons_zero, List.set_cons_succ]
    have b3 : Below w.heap.size w (w2.alloc (.cells #[.int .i64 (at_ : Int), .slice (some ⟨w.heap.size, 0, none⟩) 512 512, .slice (some ⟨w1.heap.size, 0, none⟩) 512 512] 73)) := b2.alloc b2.size _
    refine wpAny_ready (rs := [13]) (by kernel_rfl) (by simp) ?_
    refine open_wp (i := 13) rfl rfl (fun Kq hKq => wp_append_e (some 40) rfl (.tmp 31) (.tmp 39) rfl base i0 _ hi hz0 hz1 hz2 (by rfl) (.slice A N C) N (hs.flatMap Ent.cells) rfl (FF.out _ b3) ⟨w2.heap.size, 0, none⟩ 1 (Ent.cells ⟨at_, w.heap.size, w1.heap.size, q, fun j => f (512 * at_ + j)⟩) rfl rfl (ent_cells w2 ⟨at_, w.heap.size, w1.heap.size, q, fun j => f (512 * at_ + j)⟩) (by simp [Ent.cells, Value.oneCell']) (by omega) (by have := b3.size; omega) (fun v' w4 ho hg hk => hKq _ _ ?_)) AllReady.nil
    simp only [Act.put, List.setIfInBounds_toArray, List.set_cons_zero, List.set_cons_succ]
    obtain ⟨gk, C', rfl⟩ := owns_form ho (by omega)
    have hX := HB.out w1 w2 w4 _ _ l1 b1 l2 c2 (by rw [← HNL.out]; exact ho) hg
    have hY := behind_others (g := g) (v' := .slice (some ⟨gk, 0, none⟩) (N + 1) C') b1 c2 hg
    have c4 : w4.cell? ⟨g, 1, none⟩ = some (.slice A N C) := by rw [grown_cell hg (Nat.lt_of_lt_of_le hgl b3.size) (own_ne_g (FF.out _ b3) hbl.2.1)]; exact CC.out _ b3
    have f4 : w4.frozen? ⟨g, 1, none⟩ = false := by rw [grown_frozen hg (Nat.lt_of_lt_of_le hgl b3.size) (own_ne_g (FF.out _ b3) hbl.2.1)]; exact lies_free (lies_below H.out.self b3 hgl) 1
    refine open_take 14 (some 41) (.pointer (some ⟨g, 0, none⟩)) rfl rfl (by kernel_rfl) (by kernel_rfl) (by kernel_rfl) (fun _ _ _ h => h) (Or.inl ⟨by rfl, fun _ => by kernel_rfl⟩) ?_
    simp only [Act.put, List.setIfInBounds_toArray, List.set_cons_zero, List.set_cons_succ]
    refine open_take 15 (some 42) (.pointer (some ⟨g, 1, none⟩)) rfl rfl (by kernel_rfl) (by kernel_rfl) (by kernel_rfl) (fun _ _ _ h => h) (Or.inl ⟨by rfl, fun _ => by kernel_rfl⟩) ?_
    simp only [Act.put, List.setIfInBounds_toArray, List.set_cons_zero, List.set_cons_succ]
    refine wpAny_ready (rs := [16]) (by kernel_rfl) (by simp) ?_
    refine open_wp (i := 16) rfl rfl (fun Kq hKq => wp_store_slice (.tmp 42) (.tmp 40) rfl rfl rfl rfl c4 f4 (hKq _ _ ?_)) AllReady.nil
    refine wpAny_done (by kernel_rfl) ?_ _
    obtain ⟨x1, x2, x3, x4⟩ := hX
    generalize World.setCell w4 _ _ = w5 at *
    have X1 := Lib.hid x1
    have X2 := Lib.hid x2
    have X3 := Lib.hid x3
    have X5 := Lib.hid hY
    have X6 := Lib.hid (own_old (w := w) hk b3.size)
    have X7 := Lib.hid b1.size
    clear hk
    have hpk : p + 512 ≤ K := by have := HP.out; have := HSZ.out; omega
    clear x1 x2 x3 hY ho hg c4 f4 l1 l2 c2 c1 b1 b2 b3 bd
    go_wp2_with (first
      | (refine wpList_copy_n rfl (.tmp 43) (.tmp 44) 44 44 rfl 5 Try.underlying44 (by kernel_rfl) B p 512 ad c 512 rfl rfl _ 5 X1.out.bytes q X2.out (by rw [yRow_size]; exact hpk) ?_; rw [put_row f q p K hpk])
      | (go_at_call 41; (with_reducible refine (step_any g B K _ true lf _ h1 h2 (dsk_bytes (f' := put f p q) X1.out).self).mono ?_); rintro e w7 ⟨rfl, hl7, hg7⟩; have L7 := Lib.hid hl7; have G7 := Lib.hid hg7; clear hl7 hg7))
    go_ret
    refine ⟨rfl, .slice (some ⟨gk, 0, none⟩) (N + 1) C', ⟨at_, w.heap.size, w1.heap.size, q, fun j => f (512 * at_ + j)⟩, rfl, rfl, rfl, ?_, ?_, ?_, X6.out, Nat.le_refl _, X7.out⟩
    · rw [show put f (512 * at_) q = put f p q by rw [HP.out]]; exact dsk_self (dsk_bytes X1.out) G7.out L7.out
    · exact (below_setRow X3.out (Nat.min_le_left _ _) _).trans (grown_below (B := min B g) G7.out (fun k e => by injection e with e; omega) (by have := X3.out.size; simp; omega))
    · intro i hi i1 i2 i3
      have z5 := X3.out.size
      rw [G7.out.block i (by rw [setRow_size]; omega) (fun e => by injection e with e; exact i1 e), setRow_other _ _ _ _ i2, X5.out i hi i1 i3]
  · simp only [Act.put, List.setIfInBounds_toArray, List.set_cons_zero, List.set_cons_succ]
    obtain ⟨l1, c1⟩ := hr1
    have b1 : Below w.heap.size w w1 := bd.trans c1
    refine open_take 8 (some 35) (.agg #[.int .i64 (at_ : Int), .slice (some ⟨w.heap.size, 0, none⟩) 512 512]) rfl rfl (by kernel_rfl) (by kernel_rfl) (by kernel_rfl) (fun _ _ _ h => h) (Or.inl ⟨by rfl, fun _ => by kernel_rfl⟩) ?_
    simp only [Act.put, List.setIfInBounds_toArray, List.set_cons_zero, List.set_cons_succ]
    refine wpAny_ready (rs := [4, 10]) (by kernel_rfl) (by simp) ?_
    refine (open_value (some 31) (.slice A N C) rfl rfl rfl (load_slice _ rfl rfl (CC.out _ b1)) ?_ (open_call (some 37) (.slice (some ⟨w1.heap.size, 0, none⟩) 512 512) _ rfl rfl rfl 32 #[.slice (some ⟨B, p, none⟩) 512 512] (by kernel_rfl) (T2.out _ b1) (fun w2 hr2 => ?_) AllReady.nil))
    · simp only [Act.put, List.setIfInBounds_toArray, List.set_cons_zero, List.set_cons_succ]
      refine wpAny_ready (rs := [10]) (by kernel_rfl) (by simp) ?_
      refine (open_call (some 37) (.slice (some ⟨w1.heap.size, 0, none⟩) 512 512) _ rfl rfl rfl 32 #[.slice (some ⟨B, p, none⟩) 512 512] (by kernel_rfl) (T2.out _ b1) (fun w2 hr2 => ?_) AllReady.nil)
      simp only [Act.put, List.setIfInBounds_toArray, List.set_cons_zero, List.set_cons_succ]
      obtain ⟨l2, c2⟩ := hr2
      have b2 : Below w.heap.size w w2 := b1.trans (c2.mono b1.size)
      refine open_take 11 (some 38) (.agg #[.int .i64 (at_ : Int), .slice (some ⟨w.heap.size, 0, none⟩) 512 512, .slice (some ⟨w1.heap.size, 0, none⟩) 512 512]) rfl rfl (by kernel_rfl) (by kernel_rfl) (by kernel_rfl) (fun _ _ _ h => h) (Or.inl ⟨by rfl, fun _ => by kernel_rfl⟩) ?_
      simp only [Act.put, List.setIfInBounds_toArray, List.set_cons_zero, List.set_cons_succ]
      refine wpAny_ready (rs := [12]) (by kernel_rfl) (by simp) ?_
      refine (open_wp (i := 12) rfl rfl (fun Kq hKq => wp_slice1 (some 39) rfl (.tmp 38) _ _ _ rfl rfl (hKq _ _ ?_)) AllReady.nil)
      simp only [Act.put, List.setIfInBounds_toArray, List.set_cons_zero, List.set_cons_succ]
      have b3 : Below w.heap.size w (w2.alloc (.cells #[.int .i64 (at_ : Int), .slice (some ⟨w.heap.size, 0, none⟩) 512 512, .slice (some ⟨w1.heap.size, 0, none⟩) 512 512] 73)) := b2.alloc b2.size _
      refine wpAny_ready (rs := [13]) (by kernel_rfl) (by simp) ?_
      refine open_wp (i := 13) rfl rfl (fun Kq hKq => wp_append_e (some 40) rfl (.tmp 31) (.tmp 39) rfl base i0 _ hi hz0 hz1 hz2 (by rfl) (.slice A N C) N (hs.flatMap Ent.cells) rfl (FF.out _ b3) ⟨w2.heap.size, 0, none⟩ 1 (Ent.cells ⟨at_, w.heap.size, w1.heap.size, q, fun j => f (512 * at_ + j)⟩) rfl rfl (ent_cells w2 ⟨at_, w.heap.size, w1.heap.size, q, fun j => f (512 * at_ + j)⟩) (by simp [Ent.cells, Value.oneCell']) (by omega) (by have := b3.size; omega) (fun v' w4 ho hg hk => hKq _ _ ?_)) AllReady.nil
      simp only [Act.put, List.setIfInBounds_toArray, List.set_cons_zero, List.set_cons_succ]
      obtain ⟨gk, C', rfl⟩ := owns_form ho (by omega)
      have hX := HB.out w1 w2 w4 _ _ l1 b1 l2 c2 (by rw [← HNL.out]; exact ho) hg
      have hY := behind_others (g := g) (v' := .slice (some ⟨gk, 0, none⟩) (N + 1) C') b1 c2 hg
      have c4 : w4.cell? ⟨g, 1, none⟩ = some (.slice A N C) := by rw [grown_cell hg (Nat.lt_of_lt_of_le hgl b3.size) (own_ne_g (FF.out _ b3) hbl.2.1)]; exact CC.out _ b3
      have f4 : w4.frozen? ⟨g, 1, none⟩ = false := by rw [grown_frozen hg (Nat.lt_of_lt_of_le hgl b3.size) (own_ne_g (FF.out _ b3) hbl.2.1)]; exact lies_free (lies_below H.out.self b3 hgl) 1
      refine open_take 14 (some 41) (.pointer (some ⟨g, 0, none⟩)) rfl rfl (by kernel_rfl) (by kernel_rfl) (by kernel_rfl) (fun _ _ _ h => h) (Or.inl ⟨by rfl, fun _ => by kernel_rfl⟩) ?_
      simp only [Act.put, List.setIfInBounds_toArray, List.set_cons_zero, List.set_cons_succ]
      refine open_take 15 (some 42) (.pointer (some ⟨g, 1, none⟩)) rfl rfl (by kernel_rfl) (by kernel_rfl) (by kernel_rfl) (fun _ _ _ h => h) (Or.inl ⟨by rfl, fun _ => by kernel_rfl⟩) ?_
      simp only [Act.put, List.setIfInBounds_toArray, List.set_cons_zero, List.set_cons_succ]
      refine wpAny_ready (rs := [16]) (by kernel_rfl) (by simp) ?_
      refine open_wp (i := 16) rfl rfl (fun Kq hKq => wp_store_slice (.tmp 42) (.tmp 40) rfl rfl rfl rfl c4 f4 (hKq _ _ ?_)) AllReady.nil
      refine wpAny_done (by kernel_rfl) ?_ _
      obtain ⟨x1, x2, x3, x4⟩ := hX
      generalize World.setCell w4 _ _ = w5 at *
      have X1 := Lib.hid x1
      have X2 := Lib.hid x2
      have X3 := Lib.hid x3
      have X5 := Lib.hid hY
      have X6 := Lib.hid (own_old (w := w) hk b3.size)
      have X7 := Lib.hid b1.size
      clear hk
      have hpk : p + 512 ≤ K := by have := HP.out; have := HSZ.out; omega
      clear x1 x2 x3 hY ho hg c4 f4 l1 l2 c2 c1 b1 b2 b3 bd
      go_wp2_with (first
        | (refine wpList_copy_n rfl (.tmp 43) (.tmp 44) 44 44 rfl 5 Try.underlying44 (by kernel_rfl) B p 512 ad c 512 rfl rfl _ 5 X1.out.bytes q X2.out (by rw [yRow_size]; exact hpk) ?_; rw [put_row f q p K hpk])
        | (go_at_call 41; (with_reducible refine (step_any g B K _ true lf _ h1 h2 (dsk_bytes (f' := put f p q) X1.out).self).mono ?_); rintro e w7 ⟨rfl, hl7, hg7⟩; have L7 := Lib.hid hl7; have G7 := Lib.hid hg7; clear hl7 hg7))
      go_ret
      refine ⟨rfl, .slice (some ⟨gk, 0, none⟩) (N + 1) C', ⟨at_, w.heap.size, w1.heap.size, q, fun j => f (512 * at_ + j)⟩, rfl, rfl, rfl, ?_, ?_, ?_, X6.out, Nat.le_refl _, X7.out⟩
      · rw [show put f (512 * at_) q = put f p q by rw [HP.out]]; exact dsk_self (dsk_bytes X1.out) G7.out L7.out
      · exact (below_setRow X3.out (Nat.min_le_left _ _) _).trans (grown_below (B := min B g) G7.out (fun k e => by injection e with e; omega) (by have := X3.out.size; simp; omega))
      · intro i hi i1 i2 i3
        have z5 := X3.out.size
        rw [G7.out.block i (by rw [setRow_size]; omega) (fun e => by injection e with e; exact i1 e), setRow_other _ _ _ _ i2, X5.out i hi i1 i3]
    · simp only [Act.put, List.setIfInBounds_toArray, List.set_cons_zero, List.set_cons_succ]
      obtain ⟨l2, c2⟩ := hr2
      have b2 : Below w.heap.size w w2 := b1.trans (c2.mono b1.size)
      refine open_take 11 (some 38) (.agg #[.int .i64 (at_ : Int), .slice (some ⟨w.heap.size, 0, none⟩) 512 512, .slice (some ⟨w1.heap.size, 0, none⟩) 512 512]) rfl rfl (by kernel_rfl) (by kernel_rfl) (by kernel_rfl) (fun _ _ _ h => h) (Or.inl ⟨by rfl, fun _ => by kernel_rfl⟩) ?_
      simp only [Act.put, List.setIfInBounds_toArray, List.set_cons_zero, List.set_cons_succ]
      refine wpAny_ready (rs := [4, 12]) (by kernel_rfl) (by simp) ?_
      refine (open_value (some 31) (.slice A N C) rfl rfl rfl (load_slice _ rfl rfl (CC.out _ b2)) ?_ (open_wp (i := 12) rfl rfl (fun Kq hKq => wp_slice1 (some 39) rfl (.tmp 38) _ _ _ rfl rfl (hKq _ _ ?_)) AllReady.nil))
      · simp only [Act.put, List.setIfInBounds_toArray, List.set_cons_zero, List.set_cons_succ]
        refine wpAny_ready (rs := [12]) (by kernel_rfl) (by simp) ?_
        refine (open_wp (i := 12) rfl rfl (fun Kq hKq => wp_slice1 (some 39) rfl (.tmp 38) _ _ _ rfl rfl (hKq _ _ ?_)) AllReady.nil)
        simp only [Act.put, List.setIfInBounds_toArray, List.set_cons_zero, List.set_cons_succ]
        have b3 : Below w.heap.size w (w2.alloc (.cells #[.int .i64 (at_ : Int), .slice (some ⟨w.heap.size, 0, none⟩) 512 512, .slice (some ⟨w1.heap.size, 0, none⟩) 512 512] 73)) := b2.alloc b2.size _
        refine wpAny_ready (rs := [13]) (by kernel_rfl) (by simp) ?_
        refine open_wp (i := 13) rfl rfl (fun Kq hKq => wp_append_e (some 40) rfl (.tmp 31) (.tmp 39) rfl base i0 _ hi hz0 hz1 hz2 (by rfl) (.slice A N C) N (hs.flatMap Ent.cells) rfl (FF.out _ b3) ⟨w2.heap.size, 0, none⟩ 1 (Ent.cells ⟨at_, w.heap.size, w1.heap.size, q, fun j => f (512 * at_ + j)⟩) rfl rfl (ent_cells w2 ⟨at_, w.heap.size, w1.heap.size, q, fun j => f (512 * at_ + j)⟩) (by simp [Ent.cells, Value.oneCell']) (by omega) (by have := b3.size; omega) (fun v' w4 ho hg hk => hKq _ _ ?_)) AllReady.nil
        simp only [Act.put, List.setIfInBounds_toArray, List.set_cons_zero, List.set_cons_succ]
        obtain ⟨gk, C', rfl⟩ := owns_form ho (by omega)
        have hX := HB.out w1 w2 w4 _ _ l1 b1 l2 c2 (by rw [← HNL.out]; exact ho) hg
        have hY := behind_others (g := g) (v' := .slice (some ⟨gk, 0, none⟩) (N + 1) C') b1 c2 hg
        have c4 : w4.cell? ⟨g, 1, none⟩ = some (.slice A N C) := by rw [grown_cell hg (Nat.lt_of_lt_of_le hgl b3.size) (own_ne_g (FF.out _ b3) hbl.2.1)]; exact CC.out _ b3
        have f4 : w4.frozen? ⟨g, 1, none⟩ = false := by rw [grown_frozen hg (Nat.lt_of_lt_of_le hgl b3.size) (own_ne_g (FF.out _ b3) hbl.2.1)]; exact lies_free (lies_below H.out.self b3 hgl) 1
        refine open_take 14 (some 41) (.pointer (some ⟨g, 0, none⟩)) rfl rfl (by kernel_rfl) (by kernel_rfl) (by kernel_rfl) (fun _ _ _ h => h) (Or.inl ⟨by rfl, fun _ => by kernel_rfl⟩) ?_
        simp only [Act.put, List.setIfInBounds_toArray, List.set_cons_zero, List.set_cons_succ]
        refine open_take 15 (some 42) (.pointer (some ⟨g, 1, none⟩)) rfl rfl (by kernel_rfl) (by kernel_rfl) (by kernel_rfl) (fun _ _ _ h => h) (Or.inl ⟨by rfl, fun _ => by kernel_rfl⟩) ?_
        simp only [Act.put, List.setIfInBounds_toArray, List.set_cons_zero, List.set_cons_succ]
        refine wpAny_ready (rs := [16]) (by kernel_rfl) (by simp) ?_
        refine open_wp (i := 16) rfl rfl (fun Kq hKq => wp_store_slice (.tmp 42) (.tmp 40) rfl rfl rfl rfl c4 f4 (hKq _ _ ?_)) AllReady.nil
        refine wpAny_done (by kernel_rfl) ?_ _
        obtain ⟨x1, x2, x3, x4⟩ := hX
        generalize World.setCell w4 _ _ = w5 at *
        have X1 := Lib.hid x1
        have X2 := Lib.hid x2
        have X3 := Lib.hid x3
        have X5 := Lib.hid hY
        have X6 := Lib.hid (own_old (w := w) hk b3.size)
        have X7 := Lib.hid b1.size
        clear hk
        have hpk : p + 512 ≤ K := by have := HP.out; have := HSZ.out; omega
        clear x1 x2 x3 hY ho hg c4 f4 l1 l2 c2 c1 b1 b2 b3 bd
        go_wp2_with (first
          | (refine wpList_copy_n rfl (.tmp 43) (.tmp 44) 44 44 rfl 5 Try.underlying44 (by kernel_rfl) B p 512 ad c 512 rfl rfl _ 5 X1.out.bytes q X2.out (by rw [yRow_size]; exact hpk) ?_; rw [put_row f q p K hpk])
          | (go_at_call 41; (with_reducible refine (step_any g B K _ true lf _ h1 h2 (dsk_bytes (f' := put f p q) X1.out).self).mono ?_); rintro e w7 ⟨rfl, hl7, hg7⟩; have L7 := Lib.hid hl7; have G7 := Lib.hid hg7; clear hl7 hg7))
        go_ret
        refine ⟨rfl, .slice (some ⟨gk, 0, none⟩) (N + 1) C', ⟨at_, w.heap.size, w1.heap.size, q, fun j => f (512 * at_ + j)⟩, rfl, rfl, rfl, ?_, ?_, ?_, X6.out, Nat.le_refl _, X7.out⟩
        · rw [show put f (512 * at_) q = put f p q by rw [HP.out]]; exact dsk_self (dsk_bytes X1.out) G7.out L7.out
        · exact (below_setRow X3.out (Nat.min_le_left _ _) _).trans (grown_below (B := min B g) G7.out (fun k e => by injection e with e; omega) (by have := X3.out.size; simp; omega))
        · intro i hi i1 i2 i3
          have z5 := X3.out.size
          rw [G7.out.block i (by rw [setRow_size]; omega) (fun e => by injection e with e; exact i1 e), setRow_other _ _ _ _ i2, X5.out i hi i1 i3]
      · simp only [Act.put, List.setIfInBounds_toArray, List.set_cons_zero, List.set_cons_succ]
        have b3 : Below w.heap.size w (w2.alloc (.cells #[.int .i64 (at_ : Int), .slice (some ⟨w.heap.size, 0, none⟩) 512 512, .slice (some ⟨w1.heap.size, 0, none⟩) 512 512] 73)) := b2.alloc b2.size _
        refine wpAny_ready (rs := [4]) (by kernel_rfl) (by simp) ?_
        refine (open_value (some 31) (.slice A N C) rfl rfl rfl (load_slice _ rfl rfl (CC.out _ b3)) ?_ AllReady.nil)
        simp only [Act.put, List.setIfInBounds_toArray, List.set_cons_zero, List.set_cons_succ]
        refine wpAny_ready (rs := [13]) (by kernel_rfl) (by simp) ?_
        refine open_wp (i := 13) rfl rfl (fun Kq hKq => wp_append_e (some 40) rfl (.tmp 31) (.tmp 39) rfl base i0 _ hi hz0 hz1 hz2 (by rfl) (.slice A N C) N (hs.flatMap Ent.cells) rfl (FF.out _ b3) ⟨w2.heap.size, 0, none⟩ 1 (Ent.cells ⟨at_, w.heap.size, w1.heap.size, q, fun j => f (512 * at_ + j)⟩) rfl rfl (ent_cells w2 ⟨at_, w.heap.size, w1.heap.size, q, fun j => f (512 * at_ + j)⟩) (by simp [Ent.cells, Value.oneCell']) (by omega) (by have := b3.size; omega) (fun v' w4 ho hg hk => hKq _ _ ?_)) AllReady.nil
        simp only [Act.put, List.setIfInBounds_toArray, List.set_cons_zero, List.set_cons_succ]
        obtain ⟨gk, C', rfl⟩ := owns_form ho (by omega)
        have hX := HB.out w1 w2 w4 _ _ l1 b1 l2 c2 (by rw [← HNL.out]; exact ho) hg
        have hY := behind_others (g := g) (v' := .slice (some ⟨gk, 0, none⟩) (N + 1) C') b1 c2 hg
        have c4 : w4.cell? ⟨g, 1, none⟩ = some (.slice A N C) := by rw [grown_cell hg (Nat.lt_of_lt_of_le hgl b3.size) (own_ne_g (FF.out _ b3) hbl.2.1)]; exact CC.out _ b3
        have f4 : w4.frozen? ⟨g, 1, none⟩ = false := by rw [grown_frozen hg (Nat.lt_of_lt_of_le hgl b3.size) (own_ne_g (FF.out _ b3) hbl.2.1)]; exact lies_free (lies_below H.out.self b3 hgl) 1
        refine open_take 14 (some 41) (.pointer (some ⟨g, 0, none⟩)) rfl rfl (by kernel_rfl) (by kernel_rfl) (by kernel_rfl) (fun _ _ _ h => h) (Or.inl ⟨by rfl, fun _ => by kernel_rfl⟩) ?_
        simp only [Act.put, List.setIfInBounds_toArray, List.set_cons_zero, List.set_cons_succ]
        refine open_take 15 (some 42) (.pointer (some ⟨g, 1, none⟩)) rfl rfl (by kernel_rfl) (by kernel_rfl) (by kernel_rfl) (fun _ _ _ h => h) (Or.inl ⟨by rfl, fun _ => by kernel_rfl⟩) ?_
        simp only [Act.put, List.setIfInBounds_toArray, List.set_cons_zero, List.set_cons_succ]
        refine wpAny_ready (rs := [16]) (by kernel_rfl) (by simp) ?_
        refine open_wp (i := 16) rfl rfl (fun Kq hKq => wp_store_slice (.tmp 42) (.tmp 40) rfl rfl rfl rfl c4 f4 (hKq _ _ ?_)) AllReady.nil
        refine wpAny_done (by kernel_rfl) ?_ _
        obtain ⟨x1, x2, x3, x4⟩ := hX
        generalize World.setCell w4 _ _ = w5 at *
        have X1 := Lib.hid x1
        have X2 := Lib.hid x2
        have X3 := Lib.hid x3
        have X5 := Lib.hid hY
        have X6 := Lib.hid (own_old (w := w) hk b3.size)
        have X7 := Lib.hid b1.size
        clear hk
        have hpk : p + 512 ≤ K := by have := HP.out; have := HSZ.out; omega
        clear x1 x2 x3 hY ho hg c4 f4 l1 l2 c2 c1 b1 b2 b3 bd
        go_wp2_with (first
          | (refine wpList_copy_n rfl (.tmp 43) (.tmp 44) 44 44 rfl 5 Try.underlying44 (by kernel_rfl) B p 512 ad c 512 rfl rfl _ 5 X1.out.bytes q X2.out (by rw [yRow_size]; exact hpk) ?_; rw [put_row f q p K hpk])
          | (go_at_call 41; (with_reducible refine (step_any g B K _ true lf _ h1 h2 (dsk_bytes (f' := put f p q) X1.out).self).mono ?_); rintro e w7 ⟨rfl, hl7, hg7⟩; have L7 := Lib.hid hl7; have G7 := Lib.hid hg7; clear hl7 hg7))
        go_ret
        refine ⟨rfl, .slice (some ⟨gk, 0, none⟩) (N + 1) C', ⟨at_, w.heap.size, w1.heap.size, q, fun j => f (512 * at_ + j)⟩, rfl, rfl, rfl, ?_, ?_, ?_, X6.out, Nat.le_refl _, X7.out⟩
        · rw [show put f (512 * at_) q = put f p q by rw [HP.out]]; exact dsk_self (dsk_bytes X1.out) G7.out L7.out
        · exact (below_setRow X3.out (Nat.min_le_left _ _) _).trans (grown_below (B := min B g) G7.out (fun k e => by injection e with e; omega) (by have := X3.out.size; simp; omega))
        · intro i hi i1 i2 i3
          have z5 := X3.out.size
          rw [G7.out.block i (by rw [setRow_size]; omega) (fun e => by injection e with e; exact i1 e), setRow_other _ _ _ _ i2, X5.out i hi i1 i3]
end Go.Proofs.Ytibidljblkfciaa
