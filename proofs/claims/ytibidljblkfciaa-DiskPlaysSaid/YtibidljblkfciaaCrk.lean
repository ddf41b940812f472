/-
What is proved here: Crash of the disk, with whatever is kept: the disk behind it, its bytes and what stays as it was.
-/
import Derived.Test.YtibidljblkfciaaCrb
import Derived.Test.YtibidljblkfciaaKep
set_option linter.unusedSimpArgs false
namespace Go.Proofs.Ytibidljblkfciaa
open Go.Word Go.RowKit Go.Shelf

attribute [local go_sem] Oper.semAt_some

set_option maxRecDepth 100000 in
set_option maxHeartbeats 8000000 in
theorem crashk_in (F : Fence) (n' : Nat) (h26 : F.fn 26) (h42 : F.fn 42) (h45 : F.fn 45) (h33 : F.fn 33) (h43 : F.fn 43) (h40 : F.fn 40) (hro : F.round = none) (hn : 4 ≤ n') {g B base n K : Nat} {f : Nat → BitVec 8} {hb N C : Nat} {hs : List Ent} {on : Bool} {lf : Int} (w : World) (hN : N = hs.length) (hNm : N ≤ 70000) (d : { e : Ent // e ∈ hs }) (KA : Option Addr) (kl kc : Nat) (ks : Nat → Int) (hks : Ints w B KA kl ks)
    (h : Dsk w g B base n K f (.slice (some ⟨hb, 0, none⟩) N C) hs on lf) :
    CallsIn F n' Try.prog 26 #[.pointer (some ⟨g, 0, none⟩), .slice KA kl kc] w fun e w' => e = .returned (.tuple #[]) ∧ Dsk w' g B base n K (crashed kl ks hs f) (.slice none 0 0) [] true (-1) ∧ Two g B w w' := by
  have h1 : 1 ≤ n' := by omega
  refine callsIn_of_wp_marks Try.func26 rfl h26 ?_ hro
  simp only [Try.ntmps26, List.size_toArray, List.length_cons, List.length_nil, Nat.reduceAdd, Nat.reduceSub, Array.replicate_succ, Array.replicate_zero, List.push_toArray, List.append_toArray, List.nil_append, List.cons_append]
  gi_wp2_with (gi_at_call 42; refine (last_in F (n' - 1) h42 hro _ _).mono ?_; rintro e w' ⟨rfl, rfl⟩)
  have bD := ((Boxed.new w 25 (.pointer (some ⟨g, 0, none⟩))).alloc (.cells #[.slice KA kl kc] 31)).alloc (.cells #[.pointer (some ⟨g, 0, none⟩)] 25)
  have bK := (Boxed.new (w.alloc (.cells #[.pointer (some ⟨g, 0, none⟩)] 25)) 31 (.slice KA kl kc)).alloc (.cells #[.pointer (some ⟨g, 0, none⟩)] 25)
  have bN := Boxed.new ((w.alloc (.cells #[.pointer (some ⟨g, 0, none⟩)] 25)).alloc (.cells #[.slice KA kl kc] 31)) 25 (.pointer (some ⟨g, 0, none⟩))
  simp only [World.size_alloc] at bK bN
  have hB0 : Below w.heap.size w (((w.alloc (.cells #[.pointer (some ⟨g, 0, none⟩)] 25)).alloc (.cells #[.slice KA kl kc] 31)).alloc (.cells #[.pointer (some ⟨g, 0, none⟩)] 25)) := (((Below.refl _ w).alloc (Nat.le_refl _) _).alloc (by simp) _).alloc (by simp; omega) _
  have hsz : (((w.alloc (.cells #[.pointer (some ⟨g, 0, none⟩)] 25)).alloc (.cells #[.slice KA kl kc] 31)).alloc (.cells #[.pointer (some ⟨g, 0, none⟩)] 25)).heap.size = w.heap.size + 3 := by simp
  have hd0 := dsk_below h hB0
  obtain ⟨W0, hW0⟩ : ∃ W0, (((w.alloc (.cells #[.pointer (some ⟨g, 0, none⟩)] 25)).alloc (.cells #[.slice KA kl kc] 31)).alloc (.cells #[.pointer (some ⟨g, 0, none⟩)] 25)) = W0 := ⟨_, rfl⟩
  rw [hW0] at bD bK bN hB0 hsz hd0 ⊢
  clear hW0
  have hord := h.ord
  have hgl := lies_lt h.self
  have hbl : hb < w.heap.size ∧ base ≤ hb := by
    have := World.ownsRow.lt h.held hb rfl
    exact ⟨this.2, this.1⟩
  have hcells : ∀ k, k < N → W0.cell? ⟨hb, k * 3, none⟩ = some (.int .i64 ((hs.getD k d.1).at_ : Int)) ∧ W0.cell? ⟨hb, k * 3 + 1, none⟩ = some (.slice (some ⟨(hs.getD k d.1).a, 0, none⟩) 512 512) ∧ W0.cell? ⟨hb, k * 3 + 2, none⟩ = some (.slice (some ⟨(hs.getD k d.1).c, 0, none⟩) 512 512) := fun k hk => by
    have at_ : ∀ i, i < 3 → W0.cell? ⟨hb, k * 3 + i, none⟩ = (Ent.cells (hs.getD k d.1))[i]? := fun i hi => by
      have hh := hd0.held
      rw [← hN] at hh
      rw [World.ownsRow.cellAt hh (k * 3 + i) (by omega)]
      exact flat_at hs k i d.1 (by omega) hi
    exact ⟨at_ 0 (by decide), at_ 1 (by decide), at_ 2 (by decide)⟩
  refine wpIn_rangeFunc_ownH hro (by omega) (gf := 45) (lb := #[.pointer (some ⟨w.heap.size + 1 + 1, 0, none⟩)]) rfl h45 (enters_of Try.func45 (by kernel_rfl) rfl)
    (encs := encLa (fun x : { e : Ent // e ∈ hs } => x.1)) (Kp := KB B (w.heap.size + 3)) (S := fun ys => ys = upto (fun j => entk hs d (N - 1 - j)) N) (Sp := fun _ => True) (N := N) (w0 := W0)
    (fun l J Jx W hW hJ _ hY hj0 => (iterl_in (fun x : { e : Ent // e ∈ hs } => x.1) F (n' - 1) h45 hro (by omega) l (w.heap.size + 1 + 1) (w.heap.size + 3) B g hb N C (entk hs d) hNm (by omega) (by omega) (by omega) (by omega) (by omega) (by omega) J Jx hY W ((hW.cell (p := ⟨w.heap.size + 1 + 1, 0, none⟩) (by show w.heap.size + 1 + 1 < W0.heap.size; omega)).trans bN.cell) ((hW.cell (p := ⟨g, 1, none⟩) (by show g < W0.heap.size; omega)).trans (lies_cell hd0.self 1)) (fun k hk => by
      rw [show (entk hs d k).1 = hs.getD k d.1 by rw [entk_val (by omega)]; simp [List.getD_eq_getElem?_getD, show k < hs.length by omega]]
      obtain ⟨x0, x1, x2⟩ := hcells k hk
      exact ⟨(hW.cell (p := ⟨hb, k * 3, none⟩) (by show hb < W0.heap.size; omega)).trans x0, (hW.cell (p := ⟨hb, k * 3 + 1, none⟩) (by show hb < W0.heap.size; omega)).trans x1, (hW.cell (p := ⟨hb, k * 3 + 2, none⟩) (by show hb < W0.heap.size; omega)).trans x2⟩) hj0).mono (fun e W' ⟨he, hr⟩ => ⟨he, by
        rcases hr with ⟨ys, eys, hj⟩ | ⟨pre, _, hj⟩
        · exact .inl ⟨ys, eys, hj⟩
        · exact .inr ⟨pre, trivial, hj⟩⟩))
    kb_t (fun W l o o' hl ho h1 h2 => kb_b (w := W0) (by omega) W l o o' hl ho h1 h2) (Below.refl _ _) (fun _ => rfl)
    (fun pre W => (Boxed W w.heap.size 25 (.pointer (some ⟨g, 0, none⟩)) ∧ Boxed W (w.heap.size + 1) 31 (.slice KA kl kc)) ∧ ((∃ f', f' = unL pre f ∧ Dsk W g B base n K f' (.slice (some ⟨hb, 0, none⟩) N C) hs on lf) ∧ w.heap.size + 3 ≤ W.heap.size) ∧ w.grownBy W (some B))
    (fun _ _ _ => False)
    (OwnFrom.and (OwnFrom.and (Own.from (boxed_own _ _ _) _) (Own.from (boxed_own _ _ _) _)) (OwnFrom.and (fun _ X Y row hs' hg hr => by obtain ⟨⟨f', hf, hd⟩, hz⟩ := hs'; exact ⟨⟨f', hf, dsk_own hd hg (fun r e => (hr r e).2)⟩, Nat.le_trans hz hg.size⟩) (ownFrom_grown (by omega))))
    (fun _ _ _ _ _ hs _ _ => hs)
    ⟨⟨bD, bK⟩, ⟨⟨f, rfl, hd0⟩, by omega⟩, only_below (only_refl w B) hB0⟩
    (fun x a' W => ∃ Bx, w.heap.size + 3 ≤ Bx ∧ Lies W Bx 73 (Ent.arr x.1) ∧ a' = { tmps := #[.pointer (some ⟨g, 0, none⟩), .slice KA kl kc, .pointer (some ⟨w.heap.size, 0, none⟩), .pointer (some ⟨w.heap.size + 1, 0, none⟩), .pointer (some ⟨Bx, 0, none⟩), undef, undef, .pointer (some ⟨g, 0, none⟩), .bool false, .pointer (some ⟨g, 0, none⟩), .func (.func 45) #[] #[.pointer (some ⟨w.heap.size + 1 + 1, 0, none⟩)], .agg (Ent.arr x.1), undef, undef, undef, undef, undef, undef, undef, undef, undef, undef, undef, undef, undef, undef, undef, undef, undef, undef, undef, undef, undef, undef, undef, undef, undef, undef, undef, undef, undef, undef, undef, undef, undef, undef, undef, undef, undef, undef, undef, undef, undef], defers := [] })
    (fun x a' _ X Y row hs hg hr => by obtain ⟨Bx, h0, h1, h2⟩ := hs; exact ⟨Bx, h0, lies_own Bx 73 _ h1 hg (fun r e => (hr r e).2), h2⟩)
    ?assign ?body ?done ?stop
  case assign =>
    rintro l pre x W K ⟨⟨bD1, bK1⟩, ⟨⟨f', hf', hd1⟩, hz1⟩, hB1⟩ hK
    have HF := Lib.hid hf'
    clear hf'
    dsimp only [encLa, Ent.arr]
    gi_wp2
    exact hK _ _ ((KeepsOthers.alloc _ _).from _) (kb_below ((Below.refl _ W).alloc hz1 _)) ⟨⟨bD1.alloc _, bK1.alloc _⟩, ⟨⟨f', HF.out, dsk_below hd1 ((Below.refl _ W).alloc (Nat.le_refl _) _)⟩, by simp; omega⟩, only_below hB1 ((Below.refl _ W).alloc (Nat.le_refl _) _)⟩ ⟨W.heap.size, hz1, lies_new W 73 _, rfl⟩
  case body =>
    rintro l pre x a' W hl ⟨r, hr⟩ ⟨⟨bD1, bK1⟩, ⟨⟨f', hf', hd1⟩, hz1⟩, hB1⟩ ⟨Bx, hBx, lx, rfl⟩ hlt
    have HF := Lib.hid hf'
    clear hf'
    have cD := bD1.cell
    have cx0 : W.cell? ⟨Bx, 0, none⟩ = some (.int .i64 (x.1.at_ : Int)) := lies_cell lx 0
    have cx1 : W.cell? ⟨Bx, 1, none⟩ = some (.slice (some ⟨x.1.a, 0, none⟩) 512 512) := lies_cell lx 1
    have cx2 : W.cell? ⟨Bx, 2, none⟩ = some (.slice (some ⟨x.1.c, 0, none⟩) 512 512) := lies_cell lx 2
    have h1m : 1 ≤ n' - 1 - 1 := by omega
    obtain ⟨r1, r2, r3, r4, r5, r6, r7⟩ := hd1.rows x.1 x.2
    obtain ⟨K0, hK0⟩ : ∃ k, k = K := ⟨_, rfl⟩
    have hK := hd1.size
    have hmost := hd1.most
    obtain ⟨p, hp⟩ : ∃ p, p = 512 * x.1.at_ := ⟨_, rfl⟩
    have BK := CallsIn.inRound l (block_in F (n' - 1 - 1 - 1) h40 hro g B n K _ on lf x.1.at_ p W.drew hK hmost.2 hp r1 hd1.self)
    gi_wp2
    refine wpIn_region_any (by kernel_rfl) ?_
    refine table_in (own := ownOf _ 7) (vals := fun i => match i with | 0 => .pointer (some ⟨g, 0, none⟩) | 1 => .pointer (some ⟨Bx, 0, none⟩) | 2 => .pointer (some ⟨Bx, 0, none⟩) | 3 => .int .i64 (x.1.at_ : Int) | 4 => .slice (some ⟨B, p, none⟩) 512 512 | 5 => .pointer (some ⟨Bx, 2, none⟩) | _ => .slice (some ⟨x.1.c, 0, none⟩) 512 512) 7 W.drew (ac_of (by kernel_rfl)) (dst_of (by kernel_rfl)) ?hop ?hall ?hl _ _ _ rfl ?hcl rfl (of_decide_eq_true (by kernel_rfl)) (tabd_start ?hst)
    case hop =>
      intro i oi a listed hoi hil hdeps ht
      have hi8 : i < 8 := (Array.getElem?_eq_some_iff.1 hoi).1
      obtain rfl | rfl | rfl | rfl | rfl | rfl | rfl : i = 0 ∨ i = 1 ∨ i = 2 ∨ i = 3 ∨ i = 4 ∨ i = 5 ∨ i = 6 := by omega
      · obtain rfl := Option.some.inj hoi
        exact ⟨rfl, fun K hk => wpIn_value (fun c h => by cases h) rfl (load25 (.tmp 2) rfl ((tabd_old ht (of_decide_eq_true (by kernel_rfl)) (by kernel_rfl)).trans rfl) cD) hk⟩
      · obtain rfl := Option.some.inj hoi
        exact ⟨rfl, fun K hk => wpIn_value (fun c h => by cases h) rfl (field730 (.tmp 4) rfl ((tabd_old ht (of_decide_eq_true (by kernel_rfl)) (by kernel_rfl)).trans rfl)) hk⟩
      · obtain rfl := Option.some.inj hoi
        have d1 := hdeps ⟨1, .data⟩ (by simp) rfl
        exact ⟨rfl, fun K hk => wpIn_value (fun c h => by cases h) rfl (field710 (.tmp 13) rfl (tabd_at ht (of_decide_eq_true (by kernel_rfl)) (by kernel_rfl) d1)) hk⟩
      · obtain rfl := Option.some.inj hoi
        have d1 := hdeps ⟨2, .data⟩ (by simp) rfl
        exact ⟨rfl, fun K hk => wpIn_value (fun c h => by cases h) rfl (load3 (.tmp 14) rfl (tabd_at ht (of_decide_eq_true (by kernel_rfl)) (by kernel_rfl) d1) cx0) hk⟩
      · obtain rfl := Option.some.inj hoi
        have d1 := hdeps ⟨0, .data⟩ (by simp) rfl
        have d2 := hdeps ⟨3, .data⟩ (by simp) rfl
        have v1 := tabd_at ht (t := 12) (of_decide_eq_true (by kernel_rfl)) (by kernel_rfl) d1
        have v2 := tabd_at ht (t := 15) (of_decide_eq_true (by kernel_rfl)) (by kernel_rfl) d2
        exact ⟨rfl, fun K' hk => wpIn_call (fun c h => by cases h) (fun f hf => by rw [about40 (.tmp 12) (.tmp 15) rfl rfl] at hf; injection hf with hf; subst hf; exact h40) (call40 (.tmp 12) (.tmp 15) rfl rfl v1 v2) h1m BK hk⟩
      · obtain rfl := Option.some.inj hoi
        exact ⟨rfl, fun K hk => wpIn_value (fun c h => by cases h) rfl (field731 (.tmp 4) rfl ((tabd_old ht (of_decide_eq_true (by kernel_rfl)) (by kernel_rfl)).trans rfl)) hk⟩
      · obtain rfl := Option.some.inj hoi
        have d1 := hdeps ⟨5, .data⟩ (by simp) rfl
        exact ⟨rfl, fun K hk => wpIn_value (fun c h => by cases h) rfl (load44 (.tmp 17) rfl (tabd_at ht (of_decide_eq_true (by kernel_rfl)) (by kernel_rfl) d1) cx2) hk⟩
    case hall =>
      intro listed hcl hlast i hi hne
      have e4 := hlast _ rfl ⟨4, .data⟩ (by simp) rfl
      have e6 := hlast _ rfl ⟨6, .data⟩ (by simp) rfl
      have e0 := hcl 4 _ rfl e4 ⟨0, .data⟩ (by simp) rfl
      have e3 := hcl 4 _ rfl e4 ⟨3, .data⟩ (by simp) rfl
      have e2 := hcl 3 _ rfl e3 ⟨2, .data⟩ (by simp) rfl
      have e1 := hcl 2 _ rfl e2 ⟨1, .data⟩ (by simp) rfl
      have e5 := hcl 6 _ rfl e6 ⟨5, .data⟩ (by simp) rfl
      have hi8 : i < 8 := hi
      obtain rfl | rfl | rfl | rfl | rfl | rfl | rfl : i = 0 ∨ i = 1 ∨ i = 2 ∨ i = 3 ∨ i = 4 ∨ i = 5 ∨ i = 6 := by omega
      all_goals assumption
    case hcl =>
      intro i oi _ hi
      rw [rep_false] at hi
      cases hi
    case hst => exact fun i => rep_false _ i
    case hl =>
      intro a listed hall ht K hk
      have v1 := tabd_at ht (t := 16) (of_decide_eq_true (by kernel_rfl)) (by kernel_rfl) (hall 4 (of_decide_eq_true (by kernel_rfl)) (by decide))
      have v2 := tabd_at ht (t := 18) (of_decide_eq_true (by kernel_rfl)) (by kernel_rfl) (hall 6 (of_decide_eq_true (by kernel_rfl)) (by decide))
      have hpK : p + 512 ≤ K0 := by rw [hK0]; omega
      refine (show Oper.wpIn _ _ _ _ _ _ _ _ from wpIn_turn (fun c h => by cases h) (fun f hf => by rw [aboutCopy (.tmp 16) (.tmp 18) rfl] at hf; cases hf) (copy_op (.tmp 16) (.tmp 18) rfl v1 v2 hd1.bytes r5 (by rw [hK0] at hpK; exact hpK)) (hk _ _ ⟨?_, ?_, ⟨?_, ?_⟩, ?_⟩))
      · exact KeepsFrom.of_grownBy (row := some B) (only_setRow (only_drew (World.grownBy.refl W (some B))) _) (fun j e => by cases e; omega)
      · exact ⟨rfl, rfl, rfl, by simp, fun i hi hb => setRow_other W B i _ hb⟩
      · exact (setRow_other _ _ _ _ (by omega)).trans bD1
      · exact (setRow_other _ _ _ _ (by omega)).trans bK1
      · exact ⟨⟨⟨put f' p x.1.dc, by rw [unL_snoc pre x f p hp, HF.out], dsk_bytes (f' := put f' p x.1.dc) (dsk_below hd1 (Below.drew (Below.refl _ _)))⟩, by simpa using hz1⟩, only_setRow (only_drew hB1) _⟩
  case done =>
    rintro D ys W hD hys ⟨⟨bD1, bK1⟩, ⟨⟨f', hf', hd1⟩, hz1⟩, hB1⟩ hK
    have HF := Lib.hid (show f' = undo hs f by rw [hf', hys, unL_all d f N hN])
    clear hf' hys
    have hord := h.ord
    have cD := bD1.cell
    have h1' : 1 ≤ n' := by omega
    gi_wp2_with (gi_at_call 33; refine (writes_in F (n' - 1) h33 hro _ _).mono ?_; rintro e w' ⟨rfl, rfl⟩)
    have bN2 := Boxed.new W 25 (.pointer (some ⟨g, 0, none⟩))
    have bb : Below W.heap.size W (W.alloc (.cells #[.pointer (some ⟨g, 0, none⟩)] 25)) := (Below.refl _ W).alloc (Nat.le_refl _) _
    have hd2 := dsk_below hd1 bb
    have bD2 := bD1.alloc (.cells #[.pointer (some ⟨g, 0, none⟩)] 25)
    have bK2 := bK1.alloc (.cells #[.pointer (some ⟨g, 0, none⟩)] 25)
    have hB2 : w.grownBy (W.alloc (.cells #[.pointer (some ⟨g, 0, none⟩)] 25)) (some B) := only_below hB1 bb
    have hDl : D < W.heap.size := (Array.getElem?_eq_some_iff.1 hK).1
    have hK2 : (W.alloc (.cells #[.pointer (some ⟨g, 0, none⟩)] 25)).heap[D]? = some (.deferred (some [])) := (bb.block D hDl).trans hK
    have hsz2 : (W.alloc (.cells #[.pointer (some ⟨g, 0, none⟩)] 25)).heap.size = W.heap.size + 1 := by simp
    obtain ⟨W2, hW2⟩ : ∃ W2, W.alloc (.cells #[.pointer (some ⟨g, 0, none⟩)] 25) = W2 := ⟨_, rfl⟩
    rw [hW2] at bN2 hd2 bD2 bK2 hB2 hK2 hsz2 ⊢
    clear hW2 bb
    have hcells2 : ∀ k, k < N → W2.cell? ⟨hb, k * 3, none⟩ = some (.int .i64 ((hs.getD k d.1).at_ : Int)) ∧ W2.cell? ⟨hb, k * 3 + 1, none⟩ = some (.slice (some ⟨(hs.getD k d.1).a, 0, none⟩) 512 512) ∧ W2.cell? ⟨hb, k * 3 + 2, none⟩ = some (.slice (some ⟨(hs.getD k d.1).c, 0, none⟩) 512 512) := fun k hk => by
      have at_ : ∀ i, i < 3 → W2.cell? ⟨hb, k * 3 + i, none⟩ = (Ent.cells (hs.getD k d.1))[i]? := fun i hi => by
        have hh := hd2.held
        rw [← hN] at hh
        rw [World.ownsRow.cellAt hh (k * 3 + i) (by omega)]
        exact flat_at hs k i d.1 (by omega) hi
      exact ⟨at_ 0 (by decide), at_ 1 (by decide), at_ 2 (by decide)⟩
    refine wpIn_rangeFunc_ownH hro (by omega) (gf := 43) (lb := #[.pointer (some ⟨W.heap.size, 0, none⟩)]) rfl h43 (enters_of Try.func43 (by kernel_rfl) rfl)
      (encs := encWa (fun x : { e : Ent // e ∈ hs } => x.1)) (Kp := KB B (W.heap.size + 1)) (S := fun ys => ys = upto (fun j => (j, entk hs d j)) N) (Sp := fun _ => True) (N := N) (w0 := W2)
      (fun l J Jx X hX hJ _ hY hj0 => (iterb_in (fun x : { e : Ent // e ∈ hs } => x.1) F (n' - 1) h43 hro (by omega) l W.heap.size (W.heap.size + 1) B g hb N C (entk hs d) hNm (by omega) (by omega) J Jx hY X hJ (by have := hX.size; omega) ((hX.cell (p := ⟨W.heap.size, 0, none⟩) (by show W.heap.size < W2.heap.size; omega)).trans bN2.cell) ((hX.cell (p := ⟨g, 1, none⟩) (by show g < W2.heap.size; omega)).trans (lies_cell hd2.self 1)) (fun k hk => by
        rw [show (entk hs d k).1 = hs.getD k d.1 by rw [entk_val (by omega)]; simp [List.getD_eq_getElem?_getD, show k < hs.length by omega]]
        obtain ⟨x0, x1, x2⟩ := hcells2 k hk
        exact ⟨(hX.cell (p := ⟨hb, k * 3, none⟩) (by show hb < W2.heap.size; omega)).trans x0, (hX.cell (p := ⟨hb, k * 3 + 1, none⟩) (by show hb < W2.heap.size; omega)).trans x1, (hX.cell (p := ⟨hb, k * 3 + 2, none⟩) (by show hb < W2.heap.size; omega)).trans x2⟩) hj0).mono (fun e W' ⟨he, hr⟩ => ⟨he, by
          rcases hr with ⟨ys, eys, hj⟩ | ⟨pre, _, hj⟩
          · exact .inl ⟨ys, eys, hj⟩
          · exact .inr ⟨pre, trivial, hj⟩⟩))
      kb_t (fun X l o o' hl ho h1 h2 => kb_b (w := W2) (by omega) X l o o' hl ho h1 h2) (Below.refl _ _) (fun _ => rfl)
      (fun pre X => (Boxed X w.heap.size 25 (.pointer (some ⟨g, 0, none⟩)) ∧ Boxed X (w.heap.size + 1) 31 (.slice KA kl kc)) ∧ (((∃ f2, f2 = rdL (keeps kl ks) pre f' ∧ Dsk X g B base n K f2 (.slice (some ⟨hb, 0, none⟩) N C) hs on lf) ∧ (W.heap.size + 1 ≤ X.heap.size ∧ X.heap[D]? = some (.deferred (some [])))) ∧ w.grownBy X (some B)))
      (fun _ _ _ => False)
      (OwnFrom.and (OwnFrom.and (Own.from (boxed_own _ _ _) _) (Own.from (boxed_own _ _ _) _)) (OwnFrom.and (fun _ X Y row hs' hg hr => by obtain ⟨⟨f2, hf, hd⟩, hz, hq⟩ := hs'; exact ⟨⟨f2, hf, dsk_own hd hg (fun r e => (hr r e).2)⟩, Nat.le_trans hz hg.size, (hg.block D (by omega) (fun e => by have := (hr D e.symm).1; omega)).trans hq⟩) (ownFrom_grown (by omega))))
      (fun _ _ _ _ _ hs _ _ => hs)
      ⟨⟨bD2, bK2⟩, ⟨⟨f', rfl, hd2⟩, by omega, hK2⟩, hB2⟩
      (fun x a' X => ∃ Bx, W.heap.size + 1 ≤ Bx ∧ Lies X Bx 73 (Ent.arr x.2.1) ∧ a' = { tmps := #[.pointer (some ⟨g, 0, none⟩), .slice KA kl kc, .pointer (some ⟨w.heap.size, 0, none⟩), .pointer (some ⟨w.heap.size + 1, 0, none⟩), undef, .int .i64 (x.1 : Int), .pointer (some ⟨Bx, 0, none⟩), .pointer (some ⟨g, 0, none⟩), .bool false, .pointer (some ⟨g, 0, none⟩), .func (.func 45) #[] #[.pointer (some ⟨w.heap.size + 1 + 1, 0, none⟩)], undef, undef, undef, undef, undef, undef, undef, undef, undef, .pointer (some ⟨g, 0, none⟩), .func (.func 43) #[] #[.pointer (some ⟨W.heap.size, 0, none⟩)], .int .i64 (x.1 : Int), .agg (Ent.arr x.2.1), undef, undef, undef, undef, undef, undef, undef, undef, undef, undef, undef, undef, undef, undef, undef, undef, undef, undef, undef, undef, undef, undef, undef, undef, undef, undef, undef, undef, undef], defers := [] })
      (fun x a' _ X Y row hs hg hr => by obtain ⟨Bx, h0, h1, h2⟩ := hs; exact ⟨Bx, h0, lies_own Bx 73 _ h1 hg (fun r e => (hr r e).2), h2⟩)
      ?assign2 ?body2 ?done2 ?stop2
    case assign2 =>
      rintro l pre x X KK ⟨⟨bD3, bK3⟩, ⟨⟨f3, hf3, hd3⟩, hz3, hq3⟩, hB3⟩ hKK
      have HF3 := Lib.hid hf3
      clear hf3
      dsimp only [encWa, Ent.arr]
      gi_wp2
      exact hKK _ _ ((KeepsOthers.alloc _ _).from _) (kb_below ((Below.refl _ X).alloc hz3 _)) ⟨⟨bD3.alloc _, bK3.alloc _⟩, ⟨⟨f3, HF3.out, dsk_below hd3 ((Below.refl _ X).alloc (Nat.le_refl _) _)⟩, by simp; omega, (Below.heap_alloc X _ D (Array.getElem?_eq_some_iff.1 hq3).1).trans hq3⟩, only_below hB3 ((Below.refl _ X).alloc (Nat.le_refl _) _)⟩ ⟨X.heap.size, hz3, lies_new X 73 _, rfl⟩
    case body2 =>
      rintro l pre x a' X hl ⟨r, hr⟩ ⟨⟨bD3, bK3⟩, ⟨⟨f3, hf3, hd3⟩, hz3, hq3⟩, hB3⟩ ⟨Bx, hBx, lx, rfl⟩ hlt
      have HF3 := Lib.hid hf3
      clear hf3
      have cK := bK3.cell
      have HNN := Lib.hid hN
      have HKS := Lib.hid hks
      clear hN hcells hcells2 hks
      by_cases hk1 : x.1 < kl
      · obtain ⟨b, o, eKA, cks⟩ := ints_in HKS.out hB3 hk1
        subst eKA
        have t1 : decide ((x.1 : Int) < (kl : Int)) = true := decide_eq_true (by omega)
        by_cases hk2 : 0 < ks x.1
        · have t2 : decide (0 < ks x.1) = true := decide_eq_true hk2
          have cD := bD3.cell
          have cx0 : X.cell? ⟨Bx, 0, none⟩ = some (.int .i64 (x.2.1.at_ : Int)) := lies_cell lx 0
          have cx1 : X.cell? ⟨Bx, 1, none⟩ = some (.slice (some ⟨x.2.1.a, 0, none⟩) 512 512) := lies_cell lx 1
          have h1m : 1 ≤ n' - 1 - 1 := by omega
          obtain ⟨r1, r2, r3, r4, r5, r6, r7⟩ := hd3.rows x.2.1 x.2.2
          obtain ⟨K0, hK0⟩ : ∃ k, k = K := ⟨_, rfl⟩
          have hK := hd3.size
          have hmost := hd3.most
          obtain ⟨p, hp⟩ : ∃ p, p = 512 * x.2.1.at_ := ⟨_, rfl⟩
          have BK := CallsIn.inRound l (block_in F (n' - 1 - 1 - 1) h40 hro g B n K _ on lf x.2.1.at_ p X.drew hK hmost.2 hp r1 hd3.self)
          have hord := h.ord
          have HFIN := Lib.hid (show put f3 p x.2.1.da = rdL (keeps kl ks) (pre ++ [x]) f' by rw [rdL_snoc, if_pos (by unfold keeps; simp [hk1, hk2]), HF3.out, hp])
          gi_wp2
          refine wpIn_region_any (by kernel_rfl) ?_
          refine table_in (own := ownOf _ 8) (vals := fun i => match i with | 0 => .pointer (some ⟨g, 0, none⟩) | 1 => .pointer (some ⟨Bx, 0, none⟩) | 2 => .pointer (some ⟨Bx, 0, none⟩) | 3 => .int .i64 (x.2.1.at_ : Int) | 4 => .slice (some ⟨B, p, none⟩) 512 512 | 5 => .pointer (some ⟨Bx, 0, none⟩) | 6 => .pointer (some ⟨Bx, 1, none⟩) | _ => .slice (some ⟨x.2.1.a, 0, none⟩) 512 512) 8 X.drew (ac_of (by kernel_rfl)) (dst_of (by kernel_rfl)) ?hop ?hall ?hl _ _ _ rfl ?hcl rfl (of_decide_eq_true (by kernel_rfl)) (tabd_start ?hst)
          case hop =>
            intro i oi a listed hoi hil hdeps ht
            have hi9 : i < 9 := (Array.getElem?_eq_some_iff.1 hoi).1
            obtain rfl | rfl | rfl | rfl | rfl | rfl | rfl | rfl : i = 0 ∨ i = 1 ∨ i = 2 ∨ i = 3 ∨ i = 4 ∨ i = 5 ∨ i = 6 ∨ i = 7 := by omega
            · obtain rfl := Option.some.inj hoi
              exact ⟨rfl, fun K hk => wpIn_value (fun c h => by cases h) rfl (load25 (.tmp 2) rfl ((tabd_old ht (of_decide_eq_true (by kernel_rfl)) (by kernel_rfl)).trans rfl) cD) hk⟩
            · obtain rfl := Option.some.inj hoi
              exact ⟨rfl, fun K hk => wpIn_value (fun c h => by cases h) rfl (field730 (.tmp 6) rfl ((tabd_old ht (of_decide_eq_true (by kernel_rfl)) (by kernel_rfl)).trans rfl)) hk⟩
            · obtain rfl := Option.some.inj hoi
              have d1 := hdeps ⟨1, .data⟩ (by simp) rfl
              exact ⟨rfl, fun K hk => wpIn_value (fun c h => by cases h) rfl (field710 (.tmp 36) rfl (tabd_at ht (of_decide_eq_true (by kernel_rfl)) (by kernel_rfl) d1)) hk⟩
            · obtain rfl := Option.some.inj hoi
              have d1 := hdeps ⟨2, .data⟩ (by simp) rfl
              exact ⟨rfl, fun K hk => wpIn_value (fun c h => by cases h) rfl (load3 (.tmp 37) rfl (tabd_at ht (of_decide_eq_true (by kernel_rfl)) (by kernel_rfl) d1) cx0) hk⟩
            · obtain rfl := Option.some.inj hoi
              have d1 := hdeps ⟨0, .data⟩ (by simp) rfl
              have d2 := hdeps ⟨3, .data⟩ (by simp) rfl
              have v1 := tabd_at ht (t := 35) (of_decide_eq_true (by kernel_rfl)) (by kernel_rfl) d1
              have v2 := tabd_at ht (t := 38) (of_decide_eq_true (by kernel_rfl)) (by kernel_rfl) d2
              exact ⟨rfl, fun K' hk => wpIn_call (fun c h => by cases h) (fun f hf => by rw [about40 (.tmp 35) (.tmp 38) rfl rfl] at hf; injection hf with hf; subst hf; exact h40) (call40 (.tmp 35) (.tmp 38) rfl rfl v1 v2) h1m BK hk⟩
            · obtain rfl := Option.some.inj hoi
              exact ⟨rfl, fun K hk => wpIn_value (fun c h => by cases h) rfl (field730 (.tmp 6) rfl ((tabd_old ht (of_decide_eq_true (by kernel_rfl)) (by kernel_rfl)).trans rfl)) hk⟩
            · obtain rfl := Option.some.inj hoi
              have d1 := hdeps ⟨5, .data⟩ (by simp) rfl
              exact ⟨rfl, fun K hk => wpIn_value (fun c h => by cases h) rfl (field711 (.tmp 40) rfl (tabd_at ht (of_decide_eq_true (by kernel_rfl)) (by kernel_rfl) d1)) hk⟩
            · obtain rfl := Option.some.inj hoi
              have d1 := hdeps ⟨6, .data⟩ (by simp) rfl
              exact ⟨rfl, fun K hk => wpIn_value (fun c h => by cases h) rfl (load44 (.tmp 41) rfl (tabd_at ht (of_decide_eq_true (by kernel_rfl)) (by kernel_rfl) d1) cx1) hk⟩
          case hall =>
            intro listed hcl hlast i hi hne
            have e4 := hlast _ rfl ⟨4, .data⟩ (by simp) rfl
            have e7 := hlast _ rfl ⟨7, .data⟩ (by simp) rfl
            have e0 := hcl 4 _ rfl e4 ⟨0, .data⟩ (by simp) rfl
            have e3 := hcl 4 _ rfl e4 ⟨3, .data⟩ (by simp) rfl
            have e2 := hcl 3 _ rfl e3 ⟨2, .data⟩ (by simp) rfl
            have e1 := hcl 2 _ rfl e2 ⟨1, .data⟩ (by simp) rfl
            have e6 := hcl 7 _ rfl e7 ⟨6, .data⟩ (by simp) rfl
            have e5 := hcl 6 _ rfl e6 ⟨5, .data⟩ (by simp) rfl
            have hi9 : i < 9 := hi
            obtain rfl | rfl | rfl | rfl | rfl | rfl | rfl | rfl : i = 0 ∨ i = 1 ∨ i = 2 ∨ i = 3 ∨ i = 4 ∨ i = 5 ∨ i = 6 ∨ i = 7 := by omega
            all_goals assumption
          case hcl =>
            intro i oi _ hi
            rw [rep_false] at hi
            cases hi
          case hst => exact fun i => rep_false _ i
          case hl =>
            intro a listed hall ht K hk
            have v1 := tabd_at ht (t := 39) (of_decide_eq_true (by kernel_rfl)) (by kernel_rfl) (hall 4 (of_decide_eq_true (by kernel_rfl)) (by decide))
            have v2 := tabd_at ht (t := 42) (of_decide_eq_true (by kernel_rfl)) (by kernel_rfl) (hall 7 (of_decide_eq_true (by kernel_rfl)) (by decide))
            have hpK : p + 512 ≤ K0 := by rw [hK0]; omega
            refine (show Oper.wpIn _ _ _ _ _ _ _ _ from wpIn_turn (fun c h => by cases h) (fun f hf => by rw [aboutCopy (.tmp 39) (.tmp 42) rfl] at hf; cases hf) (copy_op (.tmp 39) (.tmp 42) rfl v1 v2 hd3.bytes r4 (by rw [hK0] at hpK; exact hpK)) (hk _ _ ⟨?_, ?_, ⟨?_, ?_⟩, ?_⟩))
            · exact KeepsFrom.of_grownBy (row := some B) (only_setRow (only_drew (World.grownBy.refl X (some B))) _) (fun j e => by cases e; omega)
            · exact ⟨rfl, rfl, rfl, by simp, fun i hi hb => setRow_other X B i _ hb⟩
            · exact (setRow_other _ _ _ _ (by omega)).trans bD3
            · exact (setRow_other _ _ _ _ (by omega)).trans bK3
            · exact ⟨⟨⟨put f3 p x.2.1.da, HFIN.out, dsk_bytes (f' := put f3 p x.2.1.da) (dsk_below hd3 (Below.drew (Below.refl _ _)))⟩, by simpa using hz3, (setRow_other _ _ _ _ (by omega)).trans hq3⟩, only_setRow (only_drew hB3) _⟩
        · have t2 : decide (0 < ks x.1) = false := decide_eq_false hk2
          have HFIN := Lib.hid (show f3 = rdL (keeps kl ks) (pre ++ [x]) f' by rw [rdL_snoc, if_neg (by unfold keeps; simp [hk2]), HF3.out])
          gi_wp2
          exact ⟨KeepsFrom.refl _ _, kb_refl _ _ _, ⟨bD3, bK3⟩, ⟨by rw [← HFIN.out]; exact hd3, hz3, hq3⟩, hB3⟩
      · have t1 : decide ((x.1 : Int) < (kl : Int)) = false := decide_eq_false (by omega)
        have t1' : ¬ x.1 < kl := hk1
        have HFIN := Lib.hid (show f3 = rdL (keeps kl ks) (pre ++ [x]) f' by rw [rdL_snoc, if_neg (by unfold keeps; simp [hk1]), HF3.out])
        gi_wp2
        exact ⟨KeepsFrom.refl _ _, kb_refl _ _ _, ⟨bD3, bK3⟩, ⟨⟨f3, HFIN.out, hd3⟩, hz3, hq3⟩, hB3⟩
    case done2 =>
      rintro D2 ys X hD2 hys ⟨⟨bD3, bK3⟩, ⟨⟨f3, hf3, hd3⟩, hz3, hq3⟩, hB3⟩ hK3
      have HF3 := Lib.hid (show f3 = crashed kl ks hs f by rw [hf3, hys, rdL_all d _ _ N hN, HF.out]; rfl)
      clear hf3 hys
      have cD3 := bD3.cell
      have HNN := Lib.hid hN
      clear hN hcells hcells2
      gi_wp2
      have hord3 := hd3.ord
      have hgl3 := lies_lt hd3.self
      have cB : ∀ {Z : World} (v : Value) (o : Nat), Z.cell? ⟨w.heap.size, 0, none⟩ = some (.pointer (some ⟨g, 0, none⟩)) → (Z.setCell ⟨g, o, none⟩ v).cell? ⟨w.heap.size, 0, none⟩ = some (.pointer (some ⟨g, 0, none⟩)) := fun v o hz => by
        rw [World.cell?_setCell_other _ _ _ _ (by intro e; injection e with e _ _; omega)]
        exact hz
      have E0 := Lib.hid (show X.drew.cell? ⟨w.heap.size, 0, none⟩ = some (.pointer (some ⟨g, 0, none⟩)) from cD3)
      have E1 := Lib.hid (cB (.slice none 0 0) 1 E0.out)
      have E2 := Lib.hid (cB (.bool true) 2 E1.out)
      have l0 : Lies X.drew g 65 (DRow B K (.slice (some ⟨hb, 0, none⟩) N C) on lf) := hd3.self
      have l1 := lies_set l0 1 (.slice none 0 0)
      have l2 := lies_set l1 2 (.bool true)
      have l3 := lies_set l2 3 (.int .i64 (-1))
      have c1 : X.drew.cell? ⟨g, 1, none⟩ = some (.slice (some ⟨hb, 0, none⟩) N C) := lies_cell l0 1
      have f1 := lies_free l0 1
      have c2 : (X.drew.setCell ⟨g, 1, none⟩ (.slice none 0 0)).cell? ⟨g, 2, none⟩ = some (.bool on) := lies_cell l1 2
      have f2 := lies_free l1 2
      have c3 : ((X.drew.setCell ⟨g, 1, none⟩ (.slice none 0 0)).setCell ⟨g, 2, none⟩ (.bool true)).cell? ⟨g, 3, none⟩ = some (.int .i64 lf) := lies_cell l2 3
      have f3b := lies_free l2 3
      have hz0 : D < X.heap.size := (Array.getElem?_eq_some_iff.1 hq3).1
      have hz20 : D2 < X.heap.size := (Array.getElem?_eq_some_iff.1 hK3).1
      have hDD : D ≠ D2 := by omega
      obtain ⟨W5, hW5⟩ : ∃ W5, W5 = ((X.drew.setCell ⟨g, 1, none⟩ (.slice none 0 0)).setCell ⟨g, 2, none⟩ (.bool true)).setCell ⟨g, 3, none⟩ (.int .i64 (-1)) := ⟨_, rfl⟩
      have g5 : X.grownBy W5 (some g) := by rw [hW5]; exact only_setCell (only_setCell (only_setCell (only_drew (World.grownBy.refl X (some g))) 1 _) 2 _) 3 _
      have l5 : Lies W5 g 65 (DRow B K (.slice none 0 0) true (-1)) := by rw [hW5]; exact l3
      have hd5 : Dsk W5 g B base n K f3 (.slice none 0 0) [] true (-1) := {
        self := l5
        bytes := (g5.block B (lies_lt hd3.bytes) (fun e => by injection e with e; omega)).trans hd3.bytes
        held := ⟨rfl, .inl ⟨rfl, rfl⟩⟩
        size := hd3.size
        most := hd3.most
        ord := ⟨hord3.1, hord3.2.1, Nat.le_trans hord3.2.2 g5.size⟩
        rows := fun e he => by cases he }
      have q5 : W5.heap[D]? = some (.deferred (some [])) := (g5.block D hz0 (fun e => by injection e with e; omega)).trans hq3
      have k5 : W5.heap[D2]? = some (.deferred (some [])) := (g5.block D2 hz20 (fun e => by injection e with e; omega)).trans hK3
      have q6 : (W5.putObj D2 (.deferred none)).heap[D]? = some (.deferred (some [])) := ((grownBy_putObj' W5 D2 (.deferred none)).block D (Array.getElem?_eq_some_iff.1 q5).1 (fun e => by injection e with e; exact hDD e)).trans q5
      have hd6 : Dsk (W5.putObj D2 (.deferred none)) g B base n K f3 (.slice none 0 0) [] true (-1) := dsk_own hd5 (grownBy_putObj' W5 D2 _) (fun r e => by cases e; exact ⟨_, k5, rfl⟩)
      have hd7 : Dsk ((W5.putObj D2 (.deferred none)).putObj D (.deferred none)) g B base n K f3 (.slice none 0 0) [] true (-1) := dsk_own hd6 (grownBy_putObj' _ D _) (fun r e => by cases e; exact ⟨_, q6, rfl⟩)
      have b7 : Two g B w ((W5.putObj D2 (.deferred none)).putObj D (.deferred none)) := two_end hB3 g5 (by omega) (by omega)
      have FIN0 : ∀ tmps, bodyPostM F n' Try.prog Try.f26 (fun e w' => e = Ending.returned (Value.tuple #[]) ∧ Dsk w' g B base n K (crashed kl ks hs f) (.slice none 0 0) [] true (-1) ∧ Two g B w w') .normal { tmps := tmps, defers := [{ target := .collected D2, args := #[] }, { target := .collected D, args := #[] }] } W5 := fun tmps => by
        refine ⟨by simp, .inl ⟨_, _, rfl, run_takeDeferred k5, ?_⟩⟩
        refine ⟨by simp, .inl ⟨_, _, rfl, run_takeDeferred q6, ?_⟩⟩
        exact ⟨_, results_none rfl _ _ _, rfl, by rw [← HF3.out]; exact hd7, b7⟩
      rw [hW5] at FIN0
      have FIN := Lib.hid FIN0
      clear FIN0 b7 hd7 hd6 q6 k5 q5 hd5 l5 g5 hW5
      refine wpIn_region_any (by kernel_rfl) ?_
      change wpAnyIn _ _ _ _ _ _ _ _ _ (World.drew X)
      refine wpAnyIn_ready (rs := [0, 1, 2]) (by kernel_rfl) (by simp) ?_
      refine (openIn_value (some 44) (.pointer (some ⟨g, 0, none⟩)) rfl rfl rfl (fun c h => by cases h) rfl (load25 (.tmp 2) rfl rfl E0.out) ?_ (openIn_value (some 45) (.pointer (some ⟨g, 0, none⟩)) rfl rfl rfl (fun c h => by cases h) rfl (load25 (.tmp 2) rfl rfl E0.out) ?_ (openIn_value (some 46) (.pointer (some ⟨g, 0, none⟩)) rfl rfl rfl (fun c h => by cases h) rfl (load25 (.tmp 2) rfl rfl E0.out) ?_ AllReadyIn.nil)))
      · simp only [Act.put, List.setIfInBounds_toArray, List.set_cons_zero, List.set_cons_succ]
        refine wpAnyIn_ready (rs := [1, 2, 3]) (by kernel_rfl) (by simp) ?_
        refine (openIn_value (some 45) (.pointer (some ⟨g, 0, none⟩)) rfl rfl rfl (fun c h => by cases h) rfl (load25 (.tmp 2) rfl rfl E0.out) ?_ (openIn_value (some 46) (.pointer (some ⟨g, 0, none⟩)) rfl rfl rfl (fun c h => by cases h) rfl (load25 (.tmp 2) rfl rfl E0.out) ?_ (openIn_value (some 47) (.pointer (some ⟨g, 0, none⟩)) rfl rfl rfl (fun c h => by cases h) rfl (by kernel_rfl) ?_ AllReadyIn.nil)))
        · simp only [Act.put, List.setIfInBounds_toArray, List.set_cons_zero, List.set_cons_succ]
          refine wpAnyIn_ready (rs := [2, 3]) (by kernel_rfl) (by simp) ?_
          refine (openIn_value (some 46) (.pointer (some ⟨g, 0, none⟩)) rfl rfl rfl (fun c h => by cases h) rfl (load25 (.tmp 2) rfl rfl E0.out) ?_ (openIn_value (some 47) (.pointer (some ⟨g, 0, none⟩)) rfl rfl rfl (fun c h => by cases h) rfl (by kernel_rfl) ?_ AllReadyIn.nil))
          · simp only [Act.put, List.setIfInBounds_toArray, List.set_cons_zero, List.set_cons_succ]
            refine wpAnyIn_ready (rs := [3]) (by kernel_rfl) (by simp) ?_
            refine (openIn_value (some 47) (.pointer (some ⟨g, 0, none⟩)) rfl rfl rfl (fun c h => by cases h) rfl (by kernel_rfl) ?_ AllReadyIn.nil)
            simp only [Act.put, List.setIfInBounds_toArray, List.set_cons_zero, List.set_cons_succ]
            refine wpAnyIn_ready (rs := [4]) (by kernel_rfl) (by simp) ?_
            refine (openIn_value (some 48) (.pointer (some ⟨g, 1, none⟩)) rfl rfl rfl (fun c h => by cases h) rfl (by kernel_rfl) ?_ AllReadyIn.nil)
            simp only [Act.put, List.setIfInBounds_toArray, List.set_cons_zero, List.set_cons_succ]
            refine wpAnyIn_ready (rs := [5]) (by kernel_rfl) (by simp) ?_
            refine (openIn_skip _ rfl rfl rfl (fun c h => by cases h) rfl (store63 (.tmp 48) rfl rfl rfl c1 f1) ?_ AllReadyIn.nil)
            refine wpAnyIn_ready (rs := [6]) (by kernel_rfl) (by simp) ?_
            refine (openIn_value (some 49) (.pointer (some ⟨g, 0, none⟩)) rfl rfl rfl (fun c h => by cases h) rfl (by kernel_rfl) ?_ AllReadyIn.nil)
            simp only [Act.put, List.setIfInBounds_toArray, List.set_cons_zero, List.set_cons_succ]
            refine wpAnyIn_ready (rs := [7]) (by kernel_rfl) (by simp) ?_
            refine (openIn_value (some 50) (.pointer (some ⟨g, 2, none⟩)) rfl rfl rfl (fun c h => by cases h) rfl (by kernel_rfl) ?_ AllReadyIn.nil)
            simp only [Act.put, List.setIfInBounds_toArray, List.set_cons_zero, List.set_cons_succ]
            refine wpAnyIn_ready (rs := [8]) (by kernel_rfl) (by simp) ?_
            refine (openIn_skip _ rfl rfl rfl (fun c h => by cases h) rfl (store4 (.tmp 50) rfl rfl rfl c2 f2) ?_ AllReadyIn.nil)
            refine wpAnyIn_ready (rs := [9]) (by kernel_rfl) (by simp) ?_
            refine (openIn_value (some 51) (.pointer (some ⟨g, 0, none⟩)) rfl rfl rfl (fun c h => by cases h) rfl (by kernel_rfl) ?_ AllReadyIn.nil)
            simp only [Act.put, List.setIfInBounds_toArray, List.set_cons_zero, List.set_cons_succ]
            refine wpAnyIn_ready (rs := [10]) (by kernel_rfl) (by simp) ?_
            refine (openIn_value (some 52) (.pointer (some ⟨g, 3, none⟩)) rfl rfl rfl (fun c h => by cases h) rfl (by kernel_rfl) ?_ AllReadyIn.nil)
            simp only [Act.put, List.setIfInBounds_toArray, List.set_cons_zero, List.set_cons_succ]
            refine wpAnyIn_ready (rs := [11]) (by kernel_rfl) (by simp) ?_
            refine (openIn_skip _ rfl rfl rfl (fun c h => by cases h) rfl (store3 (.tmp 52) rfl rfl rfl c3 f3b) ?_ AllReadyIn.nil)
            refine wpAnyIn_done (by kernel_rfl) ?_ _
            exact FIN.out _
          · simp only [Act.put, List.setIfInBounds_toArray, List.set_cons_zero, List.set_cons_succ]
            refine wpAnyIn_ready (rs := [2, 4]) (by kernel_rfl) (by simp) ?_
            refine (openIn_value (some 46) (.pointer (some ⟨g, 0, none⟩)) rfl rfl rfl (fun c h => by cases h) rfl (load25 (.tmp 2) rfl rfl E0.out) ?_ (openIn_value (some 48) (.pointer (some ⟨g, 1, none⟩)) rfl rfl rfl (fun c h => by cases h) rfl (by kernel_rfl) ?_ AllReadyIn.nil))
            · simp only [Act.put, List.setIfInBounds_toArray, List.set_cons_zero, List.set_cons_succ]
              refine wpAnyIn_ready (rs := [4]) (by kernel_rfl) (by simp) ?_
              refine (openIn_value (some 48) (.pointer (some ⟨g, 1, none⟩)) rfl rfl rfl (fun c h => by cases h) rfl (by kernel_rfl) ?_ AllReadyIn.nil)
              simp only [Act.put, List.setIfInBounds_toArray, List.set_cons_zero, List.set_cons_succ]
              refine wpAnyIn_ready (rs := [5]) (by kernel_rfl) (by simp) ?_
              refine (openIn_skip _ rfl rfl rfl (fun c h => by cases h) rfl (store63 (.tmp 48) rfl rfl rfl c1 f1) ?_ AllReadyIn.nil)
              refine wpAnyIn_ready (rs := [6]) (by kernel_rfl) (by simp) ?_
              refine (openIn_value (some 49) (.pointer (some ⟨g, 0, none⟩)) rfl rfl rfl (fun c h => by cases h) rfl (by kernel_rfl) ?_ AllReadyIn.nil)
              simp only [Act.put, List.setIfInBounds_toArray, List.set_cons_zero, List.set_cons_succ]
              refine wpAnyIn_ready (rs := [7]) (by kernel_rfl) (by simp) ?_
              refine (openIn_value (some 50) (.pointer (some ⟨g, 2, none⟩)) rfl rfl rfl (fun c h => by cases h) rfl (by kernel_rfl) ?_ AllReadyIn.nil)
              simp only [Act.put, List.setIfInBounds_toArray, List.set_cons_zero, List.set_cons_succ]
              refine wpAnyIn_ready (rs := [8]) (by kernel_rfl) (by simp) ?_
              refine (openIn_skip _ rfl rfl rfl (fun c h => by cases h) rfl (store4 (.tmp 50) rfl rfl rfl c2 f2) ?_ AllReadyIn.nil)
              refine wpAnyIn_ready (rs := [9]) (by kernel_rfl) (by simp) ?_
              refine (openIn_value (some 51) (.pointer (some ⟨g, 0, none⟩)) rfl rfl rfl (fun c h => by cases h) rfl (by kernel_rfl) ?_ AllReadyIn.nil)
              simp only [Act.put, List.setIfInBounds_toArray, List.set_cons_zero, List.set_cons_succ]
              refine wpAnyIn_ready (rs := [10]) (by kernel_rfl) (by simp) ?_
              refine (openIn_value (some 52) (.pointer (some ⟨g, 3, none⟩)) rfl rfl rfl (fun c h => by cases h) rfl (by kernel_rfl) ?_ AllReadyIn.nil)
              simp only [Act.put, List.setIfInBounds_toArray, List.set_cons_zero, List.set_cons_succ]
              refine wpAnyIn_ready (rs := [11]) (by kernel_rfl) (by simp) ?_
              refine (openIn_skip _ rfl rfl rfl (fun c h => by cases h) rfl (store3 (.tmp 52) rfl rfl rfl c3 f3b) ?_ AllReadyIn.nil)
              refine wpAnyIn_done (by kernel_rfl) ?_ _
              exact FIN.out _
            · simp only [Act.put, List.setIfInBounds_toArray, List.set_cons_zero, List.set_cons_succ]
              refine wpAnyIn_ready (rs := [2, 5]) (by kernel_rfl) (by simp) ?_
              refine (openIn_value (some 46) (.pointer (some ⟨g, 0, none⟩)) rfl rfl rfl (fun c h => by cases h) rfl (load25 (.tmp 2) rfl rfl E0.out) ?_ (openIn_skip _ rfl rfl rfl (fun c h => by cases h) rfl (store63 (.tmp 48) rfl rfl rfl c1 f1) ?_ AllReadyIn.nil))
              · simp only [Act.put, List.setIfInBounds_toArray, List.set_cons_zero, List.set_cons_succ]
                refine wpAnyIn_ready (rs := [5]) (by kernel_rfl) (by simp) ?_
                refine (openIn_skip _ rfl rfl rfl (fun c h => by cases h) rfl (store63 (.tmp 48) rfl rfl rfl c1 f1) ?_ AllReadyIn.nil)
                refine wpAnyIn_ready (rs := [6]) (by kernel_rfl) (by simp) ?_
                refine (openIn_value (some 49) (.pointer (some ⟨g, 0, none⟩)) rfl rfl rfl (fun c h => by cases h) rfl (by kernel_rfl) ?_ AllReadyIn.nil)
                simp only [Act.put, List.setIfInBounds_toArray, List.set_cons_zero, List.set_cons_succ]
                refine wpAnyIn_ready (rs := [7]) (by kernel_rfl) (by simp) ?_
                refine (openIn_value (some 50) (.pointer (some ⟨g, 2, none⟩)) rfl rfl rfl (fun c h => by cases h) rfl (by kernel_rfl) ?_ AllReadyIn.nil)
                simp only [Act.put, List.setIfInBounds_toArray, List.set_cons_zero, List.set_cons_succ]
                refine wpAnyIn_ready (rs := [8]) (by kernel_rfl) (by simp) ?_
                refine (openIn_skip _ rfl rfl rfl (fun c h => by cases h) rfl (store4 (.tmp 50) rfl rfl rfl c2 f2) ?_ AllReadyIn.nil)
                refine wpAnyIn_ready (rs := [9]) (by kernel_rfl) (by simp) ?_
                refine (openIn_value (some 51) (.pointer (some ⟨g, 0, none⟩)) rfl rfl rfl (fun c h => by cases h) rfl (by kernel_rfl) ?_ AllReadyIn.nil)
                simp only [Act.put, List.setIfInBounds_toArray, List.set_cons_zero, List.set_cons_succ]
                refine wpAnyIn_ready (rs := [10]) (by kernel_rfl) (by simp) ?_
                refine (openIn_value (some 52) (.pointer (some ⟨g, 3, none⟩)) rfl rfl rfl (fun c h => by cases h) rfl (by kernel_rfl) ?_ AllReadyIn.nil)
                simp only [Act.put, List.setIfInBounds_toArray, List.set_cons_zero, List.set_cons_succ]
                refine wpAnyIn_ready (rs := [11]) (by kernel_rfl) (by simp) ?_
                refine (openIn_skip _ rfl rfl rfl (fun c h => by cases h) rfl (store3 (.tmp 52) rfl rfl rfl c3 f3b) ?_ AllReadyIn.nil)
                refine wpAnyIn_done (by kernel_rfl) ?_ _
                exact FIN.out _
              · refine wpAnyIn_ready (rs := [2, 6]) (by kernel_rfl) (by simp) ?_
                refine (openIn_value (some 46) (.pointer (some ⟨g, 0, none⟩)) rfl rfl rfl (fun c h => by cases h) rfl (load25 (.tmp 2) rfl rfl E1.out) ?_ (openIn_value (some 49) (.pointer (some ⟨g, 0, none⟩)) rfl rfl rfl (fun c h => by cases h) rfl (by kernel_rfl) ?_ AllReadyIn.nil))
                · simp only [Act.put, List.setIfInBounds_toArray, List.set_cons_zero, List.set_cons_succ]
                  refine wpAnyIn_ready (rs := [6]) (by kernel_rfl) (by simp) ?_
                  refine (openIn_value (some 49) (.pointer (some ⟨g, 0, none⟩)) rfl rfl rfl (fun c h => by cases h) rfl (by kernel_rfl) ?_ AllReadyIn.nil)
                  simp only [Act.put, List.setIfInBounds_toArray, List.set_cons_zero, List.set_cons_succ]
                  refine wpAnyIn_ready (rs := [7]) (by kernel_rfl) (by simp) ?_
                  refine (openIn_value (some 50) (.pointer (some ⟨g, 2, none⟩)) rfl rfl rfl (fun c h => by cases h) rfl (by kernel_rfl) ?_ AllReadyIn.nil)
                  simp only [Act.put, List.setIfInBounds_toArray, List.set_cons_zero, List.set_cons_succ]
                  refine wpAnyIn_ready (rs := [8]) (by kernel_rfl) (by simp) ?_
                  refine (openIn_skip _ rfl rfl rfl (fun c h => by cases h) rfl (store4 (.tmp 50) rfl rfl rfl c2 f2) ?_ AllReadyIn.nil)
                  refine wpAnyIn_ready (rs := [9]) (by kernel_rfl) (by simp) ?_
                  refine (openIn_value (some 51) (.pointer (some ⟨g, 0, none⟩)) rfl rfl rfl (fun c h => by cases h) rfl (by kernel_rfl) ?_ AllReadyIn.nil)
                  simp only [Act.put, List.setIfInBounds_toArray, List.set_cons_zero, List.set_cons_succ]
                  refine wpAnyIn_ready (rs := [10]) (by kernel_rfl) (by simp) ?_
                  refine (openIn_value (some 52) (.pointer (some ⟨g, 3, none⟩)) rfl rfl rfl (fun c h => by cases h) rfl (by kernel_rfl) ?_ AllReadyIn.nil)
                  simp only [Act.put, List.setIfInBounds_toArray, List.set_cons_zero, List.set_cons_succ]
                  refine wpAnyIn_ready (rs := [11]) (by kernel_rfl) (by simp) ?_
                  refine (openIn_skip _ rfl rfl rfl (fun c h => by cases h) rfl (store3 (.tmp 52) rfl rfl rfl c3 f3b) ?_ AllReadyIn.nil)
                  refine wpAnyIn_done (by kernel_rfl) ?_ _
                  exact FIN.out _
                · simp only [Act.put, List.setIfInBounds_toArray, List.set_cons_zero, List.set_cons_succ]
                  refine wpAnyIn_ready (rs := [2, 7]) (by kernel_rfl) (by simp) ?_
                  refine (openIn_value (some 46) (.pointer (some ⟨g, 0, none⟩)) rfl rfl rfl (fun c h => by cases h) rfl (load25 (.tmp 2) rfl rfl E1.out) ?_ (openIn_value (some 50) (.pointer (some ⟨g, 2, none⟩)) rfl rfl rfl (fun c h => by cases h) rfl (by kernel_rfl) ?_ AllReadyIn.nil))
                  · simp only [Act.put, List.setIfInBounds_toArray, List.set_cons_zero, List.set_cons_succ]
                    refine wpAnyIn_ready (rs := [7]) (by kernel_rfl) (by simp) ?_
                    refine (openIn_value (some 50) (.pointer (some ⟨g, 2, none⟩)) rfl rfl rfl (fun c h => by cases h) rfl (by kernel_rfl) ?_ AllReadyIn.nil)
                    simp only [Act.put, List.setIfInBounds_toArray, List.set_cons_zero, List.set_cons_succ]
                    refine wpAnyIn_ready (rs := [8]) (by kernel_rfl) (by simp) ?_
                    refine (openIn_skip _ rfl rfl rfl (fun c h => by cases h) rfl (store4 (.tmp 50) rfl rfl rfl c2 f2) ?_ AllReadyIn.nil)
                    refine wpAnyIn_ready (rs := [9]) (by kernel_rfl) (by simp) ?_
                    refine (openIn_value (some 51) (.pointer (some ⟨g, 0, none⟩)) rfl rfl rfl (fun c h => by cases h) rfl (by kernel_rfl) ?_ AllReadyIn.nil)
                    simp only [Act.put, List.setIfInBounds_toArray, List.set_cons_zero, List.set_cons_succ]
                    refine wpAnyIn_ready (rs := [10]) (by kernel_rfl) (by simp) ?_
                    refine (openIn_value (some 52) (.pointer (some ⟨g, 3, none⟩)) rfl rfl rfl (fun c h => by cases h) rfl (by kernel_rfl) ?_ AllReadyIn.nil)
                    simp only [Act.put, List.setIfInBounds_toArray, List.set_cons_zero, List.set_cons_succ]
                    refine wpAnyIn_ready (rs := [11]) (by kernel_rfl) (by simp) ?_
                    refine (openIn_skip _ rfl rfl rfl (fun c h => by cases h) rfl (store3 (.tmp 52) rfl rfl rfl c3 f3b) ?_ AllReadyIn.nil)
                    refine wpAnyIn_done (by kernel_rfl) ?_ _
                    exact FIN.out _
                  · simp only [Act.put, List.setIfInBounds_toArray, List.set_cons_zero, List.set_cons_succ]
                    refine wpAnyIn_ready (rs := [2, 8]) (by kernel_rfl) (by simp) ?_
                    refine (openIn_value (some 46) (.pointer (some ⟨g, 0, none⟩)) rfl rfl rfl (fun c h => by cases h) rfl (load25 (.tmp 2) rfl rfl E1.out) ?_ (openIn_skip _ rfl rfl rfl (fun c h => by cases h) rfl (store4 (.tmp 50) rfl rfl rfl c2 f2) ?_ AllReadyIn.nil))
                    · simp only [Act.put, List.setIfInBounds_toArray, List.set_cons_zero, List.set_cons_succ]
                      refine wpAnyIn_ready (rs := [8]) (by kernel_rfl) (by simp) ?_
                      refine (openIn_skip _ rfl rfl rfl (fun c h => by cases h) rfl (store4 (.tmp 50) rfl rfl rfl c2 f2) ?_ AllReadyIn.nil)
                      refine wpAnyIn_ready (rs := [9]) (by kernel_rfl) (by simp) ?_
                      refine (openIn_value (some 51) (.pointer (some ⟨g, 0, none⟩)) rfl rfl rfl (fun c h => by cases h) rfl (by kernel_rfl) ?_ AllReadyIn.nil)
                      simp only [Act.put, List.setIfInBounds_toArray, List.set_cons_zero, List.set_cons_succ]
                      refine wpAnyIn_ready (rs := [10]) (by kernel_rfl) (by simp) ?_
                      refine (openIn_value (some 52) (.pointer (some ⟨g, 3, none⟩)) rfl rfl rfl (fun c h => by cases h) rfl (by kernel_rfl) ?_ AllReadyIn.nil)
                      simp only [Act.put, List.setIfInBounds_toArray, List.set_cons_zero, List.set_cons_succ]
                      refine wpAnyIn_ready (rs := [11]) (by kernel_rfl) (by simp) ?_
                      refine (openIn_skip _ rfl rfl rfl (fun c h => by cases h) rfl (store3 (.tmp 52) rfl rfl rfl c3 f3b) ?_ AllReadyIn.nil)
                      refine wpAnyIn_done (by kernel_rfl) ?_ _
                      exact FIN.out _
                    · refine wpAnyIn_ready (rs := [2]) (by kernel_rfl) (by simp) ?_
                      refine (openIn_value (some 46) (.pointer (some ⟨g, 0, none⟩)) rfl rfl rfl (fun c h => by cases h) rfl (load25 (.tmp 2) rfl rfl E2.out) ?_ AllReadyIn.nil)
                      simp only [Act.put, List.setIfInBounds_toArray, List.set_cons_zero, List.set_cons_succ]
                      refine wpAnyIn_ready (rs := [9]) (by kernel_rfl) (by simp) ?_
                      refine (openIn_value (some 51) (.pointer (some ⟨g, 0, none⟩)) rfl rfl rfl (fun c h => by cases h) rfl (by kernel_rfl) ?_ AllReadyIn.nil)
                      simp only [Act.put, List.setIfInBounds_toArray, List.set_cons_zero, List.set_cons_succ]
                      refine wpAnyIn_ready (rs := [10]) (by kernel_rfl) (by simp) ?_
                      refine (openIn_value (some 52) (.pointer (some ⟨g, 3, none⟩)) rfl rfl rfl (fun c h => by cases h) rfl (by kernel_rfl) ?_ AllReadyIn.nil)
                      simp only [Act.put, List.setIfInBounds_toArray, List.set_cons_zero, List.set_cons_succ]
                      refine wpAnyIn_ready (rs := [11]) (by kernel_rfl) (by simp) ?_
                      refine (openIn_skip _ rfl rfl rfl (fun c h => by cases h) rfl (store3 (.tmp 52) rfl rfl rfl c3 f3b) ?_ AllReadyIn.nil)
                      refine wpAnyIn_done (by kernel_rfl) ?_ _
                      exact FIN.out _
        · simp only [Act.put, List.setIfInBounds_toArray, List.set_cons_zero, List.set_cons_succ]
          refine wpAnyIn_ready (rs := [1, 3]) (by kernel_rfl) (by simp) ?_
          refine (openIn_value (some 45) (.pointer (some ⟨g, 0, none⟩)) rfl rfl rfl (fun c h => by cases h) rfl (load25 (.tmp 2) rfl rfl E0.out) ?_ (openIn_value (some 47) (.pointer (some ⟨g, 0, none⟩)) rfl rfl rfl (fun c h => by cases h) rfl (by kernel_rfl) ?_ AllReadyIn.nil))
          · simp only [Act.put, List.setIfInBounds_toArray, List.set_cons_zero, List.set_cons_succ]
            refine wpAnyIn_ready (rs := [3]) (by kernel_rfl) (by simp) ?_
            refine (openIn_value (some 47) (.pointer (some ⟨g, 0, none⟩)) rfl rfl rfl (fun c h => by cases h) rfl (by kernel_rfl) ?_ AllReadyIn.nil)
            simp only [Act.put, List.setIfInBounds_toArray, List.set_cons_zero, List.set_cons_succ]
            refine wpAnyIn_ready (rs := [4]) (by kernel_rfl) (by simp) ?_
            refine (openIn_value (some 48) (.pointer (some ⟨g, 1, none⟩)) rfl rfl rfl (fun c h => by cases h) rfl (by kernel_rfl) ?_ AllReadyIn.nil)
            simp only [Act.put, List.setIfInBounds_toArray, List.set_cons_zero, List.set_cons_succ]
            refine wpAnyIn_ready (rs := [5]) (by kernel_rfl) (by simp) ?_
            refine (openIn_skip _ rfl rfl rfl (fun c h => by cases h) rfl (store63 (.tmp 48) rfl rfl rfl c1 f1) ?_ AllReadyIn.nil)
            refine wpAnyIn_ready (rs := [6]) (by kernel_rfl) (by simp) ?_
            refine (openIn_value (some 49) (.pointer (some ⟨g, 0, none⟩)) rfl rfl rfl (fun c h => by cases h) rfl (by kernel_rfl) ?_ AllReadyIn.nil)
            simp only [Act.put, List.setIfInBounds_toArray, List.set_cons_zero, List.set_cons_succ]
            refine wpAnyIn_ready (rs := [7]) (by kernel_rfl) (by simp) ?_
            refine (openIn_value (some 50) (.pointer (some ⟨g, 2, none⟩)) rfl rfl rfl (fun c h => by cases h) rfl (by kernel_rfl) ?_ AllReadyIn.nil)
            simp only [Act.put, List.setIfInBounds_toArray, List.set_cons_zero, List.set_cons_succ]
            refine wpAnyIn_ready (rs := [8]) (by kernel_rfl) (by simp) ?_
            refine (openIn_skip _ rfl rfl rfl (fun c h => by cases h) rfl (store4 (.tmp 50) rfl rfl rfl c2 f2) ?_ AllReadyIn.nil)
            refine wpAnyIn_ready (rs := [9]) (by kernel_rfl) (by simp) ?_
            refine (openIn_value (some 51) (.pointer (some ⟨g, 0, none⟩)) rfl rfl rfl (fun c h => by cases h) rfl (by kernel_rfl) ?_ AllReadyIn.nil)
            simp only [Act.put, List.setIfInBounds_toArray, List.set_cons_zero, List.set_cons_succ]
            refine wpAnyIn_ready (rs := [10]) (by kernel_rfl) (by simp) ?_
            refine (openIn_value (some 52) (.pointer (some ⟨g, 3, none⟩)) rfl rfl rfl (fun c h => by cases h) rfl (by kernel_rfl) ?_ AllReadyIn.nil)
            simp only [Act.put, List.setIfInBounds_toArray, List.set_cons_zero, List.set_cons_succ]
            refine wpAnyIn_ready (rs := [11]) (by kernel_rfl) (by simp) ?_
            refine (openIn_skip _ rfl rfl rfl (fun c h => by cases h) rfl (store3 (.tmp 52) rfl rfl rfl c3 f3b) ?_ AllReadyIn.nil)
            refine wpAnyIn_done (by kernel_rfl) ?_ _
            exact FIN.out _
          · simp only [Act.put, List.setIfInBounds_toArray, List.set_cons_zero, List.set_cons_succ]
            refine wpAnyIn_ready (rs := [1, 4]) (by kernel_rfl) (by simp) ?_
            refine (openIn_value (some 45) (.pointer (some ⟨g, 0, none⟩)) rfl rfl rfl (fun c h => by cases h) rfl (load25 (.tmp 2) rfl rfl E0.out) ?_ (openIn_value (some 48) (.pointer (some ⟨g, 1, none⟩)) rfl rfl rfl (fun c h => by cases h) rfl (by kernel_rfl) ?_ AllReadyIn.nil))
            · simp only [Act.put, List.setIfInBounds_toArray, List.set_cons_zero, List.set_cons_succ]
              refine wpAnyIn_ready (rs := [4]) (by kernel_rfl) (by simp) ?_
              refine (openIn_value (some 48) (.pointer (some ⟨g, 1, none⟩)) rfl rfl rfl (fun c h => by cases h) rfl (by kernel_rfl) ?_ AllReadyIn.nil)
              simp only [Act.put, List.setIfInBounds_toArray, List.set_cons_zero, List.set_cons_succ]
              refine wpAnyIn_ready (rs := [5]) (by kernel_rfl) (by simp) ?_
              refine (openIn_skip _ rfl rfl rfl (fun c h => by cases h) rfl (store63 (.tmp 48) rfl rfl rfl c1 f1) ?_ AllReadyIn.nil)
              refine wpAnyIn_ready (rs := [6]) (by kernel_rfl) (by simp) ?_
              refine (openIn_value (some 49) (.pointer (some ⟨g, 0, none⟩)) rfl rfl rfl (fun c h => by cases h) rfl (by kernel_rfl) ?_ AllReadyIn.nil)
              simp only [Act.put, List.setIfInBounds_toArray, List.set_cons_zero, List.set_cons_succ]
              refine wpAnyIn_ready (rs := [7]) (by kernel_rfl) (by simp) ?_
              refine (openIn_value (some 50) (.pointer (some ⟨g, 2, none⟩)) rfl rfl rfl (fun c h => by cases h) rfl (by kernel_rfl) ?_ AllReadyIn.nil)
              simp only [Act.put, List.setIfInBounds_toArray, List.set_cons_zero, List.set_cons_succ]
              refine wpAnyIn_ready (rs := [8]) (by kernel_rfl) (by simp) ?_
              refine (openIn_skip _ rfl rfl rfl (fun c h => by cases h) rfl (store4 (.tmp 50) rfl rfl rfl c2 f2) ?_ AllReadyIn.nil)
              refine wpAnyIn_ready (rs := [9]) (by kernel_rfl) (by simp) ?_
              refine (openIn_value (some 51) (.pointer (some ⟨g, 0, none⟩)) rfl rfl rfl (fun c h => by cases h) rfl (by kernel_rfl) ?_ AllReadyIn.nil)
              simp only [Act.put, List.setIfInBounds_toArray, List.set_cons_zero, List.set_cons_succ]
              refine wpAnyIn_ready (rs := [10]) (by kernel_rfl) (by simp) ?_
              refine (openIn_value (some 52) (.pointer (some ⟨g, 3, none⟩)) rfl rfl rfl (fun c h => by cases h) rfl (by kernel_rfl) ?_ AllReadyIn.nil)
              simp only [Act.put, List.setIfInBounds_toArray, List.set_cons_zero, List.set_cons_succ]
              refine wpAnyIn_ready (rs := [11]) (by kernel_rfl) (by simp) ?_
              refine (openIn_skip _ rfl rfl rfl (fun c h => by cases h) rfl (store3 (.tmp 52) rfl rfl rfl c3 f3b) ?_ AllReadyIn.nil)
              refine wpAnyIn_done (by kernel_rfl) ?_ _
              exact FIN.out _
            · simp only [Act.put, List.setIfInBounds_toArray, List.set_cons_zero, List.set_cons_succ]
              refine wpAnyIn_ready (rs := [1, 5]) (by kernel_rfl) (by simp) ?_
              refine (openIn_value (some 45) (.pointer (some ⟨g, 0, none⟩)) rfl rfl rfl (fun c h => by cases h) rfl (load25 (.tmp 2) rfl rfl E0.out) ?_ (openIn_skip _ rfl rfl rfl (fun c h => by cases h) rfl (store63 (.tmp 48) rfl rfl rfl c1 f1) ?_ AllReadyIn.nil))
              · simp only [Act.put, List.setIfInBounds_toArray, List.set_cons_zero, List.set_cons_succ]
                refine wpAnyIn_ready (rs := [5]) (by kernel_rfl) (by simp) ?_
                refine (openIn_skip _ rfl rfl rfl (fun c h => by cases h) rfl (store63 (.tmp 48) rfl rfl rfl c1 f1) ?_ AllReadyIn.nil)
                refine wpAnyIn_ready (rs := [6]) (by kernel_rfl) (by simp) ?_
                refine (openIn_value (some 49) (.pointer (some ⟨g, 0, none⟩)) rfl rfl rfl (fun c h => by cases h) rfl (by kernel_rfl) ?_ AllReadyIn.nil)
                simp only [Act.put, List.setIfInBounds_toArray, List.set_cons_zero, List.set_cons_succ]
                refine wpAnyIn_ready (rs := [7]) (by kernel_rfl) (by simp) ?_
                refine (openIn_value (some 50) (.pointer (some ⟨g, 2, none⟩)) rfl rfl rfl (fun c h => by cases h) rfl (by kernel_rfl) ?_ AllReadyIn.nil)
                simp only [Act.put, List.setIfInBounds_toArray, List.set_cons_zero, List.set_cons_succ]
                refine wpAnyIn_ready (rs := [8]) (by kernel_rfl) (by simp) ?_
                refine (openIn_skip _ rfl rfl rfl (fun c h => by cases h) rfl (store4 (.tmp 50) rfl rfl rfl c2 f2) ?_ AllReadyIn.nil)
                refine wpAnyIn_ready (rs := [9]) (by kernel_rfl) (by simp) ?_
                refine (openIn_value (some 51) (.pointer (some ⟨g, 0, none⟩)) rfl rfl rfl (fun c h => by cases h) rfl (by kernel_rfl) ?_ AllReadyIn.nil)
                simp only [Act.put, List.setIfInBounds_toArray, List.set_cons_zero, List.set_cons_succ]
                refine wpAnyIn_ready (rs := [10]) (by kernel_rfl) (by simp) ?_
                refine (openIn_value (some 52) (.pointer (some ⟨g, 3, none⟩)) rfl rfl rfl (fun c h => by cases h) rfl (by kernel_rfl) ?_ AllReadyIn.nil)
                simp only [Act.put, List.setIfInBounds_toArray, List.set_cons_zero, List.set_cons_succ]
                refine wpAnyIn_ready (rs := [11]) (by kernel_rfl) (by simp) ?_
                refine (openIn_skip _ rfl rfl rfl (fun c h => by cases h) rfl (store3 (.tmp 52) rfl rfl rfl c3 f3b) ?_ AllReadyIn.nil)
                refine wpAnyIn_done (by kernel_rfl) ?_ _
                exact FIN.out _
              · refine wpAnyIn_ready (rs := [1]) (by kernel_rfl) (by simp) ?_
                refine (openIn_value (some 45) (.pointer (some ⟨g, 0, none⟩)) rfl rfl rfl (fun c h => by cases h) rfl (load25 (.tmp 2) rfl rfl E1.out) ?_ AllReadyIn.nil)
                simp only [Act.put, List.setIfInBounds_toArray, List.set_cons_zero, List.set_cons_succ]
                refine wpAnyIn_ready (rs := [6]) (by kernel_rfl) (by simp) ?_
                refine (openIn_value (some 49) (.pointer (some ⟨g, 0, none⟩)) rfl rfl rfl (fun c h => by cases h) rfl (by kernel_rfl) ?_ AllReadyIn.nil)
                simp only [Act.put, List.setIfInBounds_toArray, List.set_cons_zero, List.set_cons_succ]
                refine wpAnyIn_ready (rs := [7]) (by kernel_rfl) (by simp) ?_
                refine (openIn_value (some 50) (.pointer (some ⟨g, 2, none⟩)) rfl rfl rfl (fun c h => by cases h) rfl (by kernel_rfl) ?_ AllReadyIn.nil)
                simp only [Act.put, List.setIfInBounds_toArray, List.set_cons_zero, List.set_cons_succ]
                refine wpAnyIn_ready (rs := [8]) (by kernel_rfl) (by simp) ?_
                refine (openIn_skip _ rfl rfl rfl (fun c h => by cases h) rfl (store4 (.tmp 50) rfl rfl rfl c2 f2) ?_ AllReadyIn.nil)
                refine wpAnyIn_ready (rs := [9]) (by kernel_rfl) (by simp) ?_
                refine (openIn_value (some 51) (.pointer (some ⟨g, 0, none⟩)) rfl rfl rfl (fun c h => by cases h) rfl (by kernel_rfl) ?_ AllReadyIn.nil)
                simp only [Act.put, List.setIfInBounds_toArray, List.set_cons_zero, List.set_cons_succ]
                refine wpAnyIn_ready (rs := [10]) (by kernel_rfl) (by simp) ?_
                refine (openIn_value (some 52) (.pointer (some ⟨g, 3, none⟩)) rfl rfl rfl (fun c h => by cases h) rfl (by kernel_rfl) ?_ AllReadyIn.nil)
                simp only [Act.put, List.setIfInBounds_toArray, List.set_cons_zero, List.set_cons_succ]
                refine wpAnyIn_ready (rs := [11]) (by kernel_rfl) (by simp) ?_
                refine (openIn_skip _ rfl rfl rfl (fun c h => by cases h) rfl (store3 (.tmp 52) rfl rfl rfl c3 f3b) ?_ AllReadyIn.nil)
                refine wpAnyIn_done (by kernel_rfl) ?_ _
                exact FIN.out _
        · simp only [Act.put, List.setIfInBounds_toArray, List.set_cons_zero, List.set_cons_succ]
          refine wpAnyIn_ready (rs := [1, 2, 4]) (by kernel_rfl) (by simp) ?_
          refine (openIn_value (some 45) (.pointer (some ⟨g, 0, none⟩)) rfl rfl rfl (fun c h => by cases h) rfl (load25 (.tmp 2) rfl rfl E0.out) ?_ (openIn_value (some 46) (.pointer (some ⟨g, 0, none⟩)) rfl rfl rfl (fun c h => by cases h) rfl (load25 (.tmp 2) rfl rfl E0.out) ?_ (openIn_value (some 48) (.pointer (some ⟨g, 1, none⟩)) rfl rfl rfl (fun c h => by cases h) rfl (by kernel_rfl) ?_ AllReadyIn.nil)))
          · simp only [Act.put, List.setIfInBounds_toArray, List.set_cons_zero, List.set_cons_succ]
            refine wpAnyIn_ready (rs := [2, 4]) (by kernel_rfl) (by simp) ?_
            refine (openIn_value (some 46) (.pointer (some ⟨g, 0, none⟩)) rfl rfl rfl (fun c h => by cases h) rfl (load25 (.tmp 2) rfl rfl E0.out) ?_ (openIn_value (some 48) (.pointer (some ⟨g, 1, none⟩)) rfl rfl rfl (fun c h => by cases h) rfl (by kernel_rfl) ?_ AllReadyIn.nil))
            · simp only [Act.put, List.setIfInBounds_toArray, List.set_cons_zero, List.set_cons_succ]
              refine wpAnyIn_ready (rs := [4]) (by kernel_rfl) (by simp) ?_
              refine (openIn_value (some 48) (.pointer (some ⟨g, 1, none⟩)) rfl rfl rfl (fun c h => by cases h) rfl (by kernel_rfl) ?_ AllReadyIn.nil)
              simp only [Act.put, List.setIfInBounds_toArray, List.set_cons_zero, List.set_cons_succ]
              refine wpAnyIn_ready (rs := [5]) (by kernel_rfl) (by simp) ?_
              refine (openIn_skip _ rfl rfl rfl (fun c h => by cases h) rfl (store63 (.tmp 48) rfl rfl rfl c1 f1) ?_ AllReadyIn.nil)
              refine wpAnyIn_ready (rs := [6]) (by kernel_rfl) (by simp) ?_
              refine (openIn_value (some 49) (.pointer (some ⟨g, 0, none⟩)) rfl rfl rfl (fun c h => by cases h) rfl (by kernel_rfl) ?_ AllReadyIn.nil)
              simp only [Act.put, List.setIfInBounds_toArray, List.set_cons_zero, List.set_cons_succ]
              refine wpAnyIn_ready (rs := [7]) (by kernel_rfl) (by simp) ?_
              refine (openIn_value (some 50) (.pointer (some ⟨g, 2, none⟩)) rfl rfl rfl (fun c h => by cases h) rfl (by kernel_rfl) ?_ AllReadyIn.nil)
              simp only [Act.put, List.setIfInBounds_toArray, List.set_cons_zero, List.set_cons_succ]
              refine wpAnyIn_ready (rs := [8]) (by kernel_rfl) (by simp) ?_
              refine (openIn_skip _ rfl rfl rfl (fun c h => by cases h) rfl (store4 (.tmp 50) rfl rfl rfl c2 f2) ?_ AllReadyIn.nil)
              refine wpAnyIn_ready (rs := [9]) (by kernel_rfl) (by simp) ?_
              refine (openIn_value (some 51) (.pointer (some ⟨g, 0, none⟩)) rfl rfl rfl (fun c h => by cases h) rfl (by kernel_rfl) ?_ AllReadyIn.nil)
              simp only [Act.put, List.setIfInBounds_toArray, List.set_cons_zero, List.set_cons_succ]
              refine wpAnyIn_ready (rs := [10]) (by kernel_rfl) (by simp) ?_
              refine (openIn_value (some 52) (.pointer (some ⟨g, 3, none⟩)) rfl rfl rfl (fun c h => by cases h) rfl (by kernel_rfl) ?_ AllReadyIn.nil)
              simp only [Act.put, List.setIfInBounds_toArray, List.set_cons_zero, List.set_cons_succ]
              refine wpAnyIn_ready (rs := [11]) (by kernel_rfl) (by simp) ?_
              refine (openIn_skip _ rfl rfl rfl (fun c h => by cases h) rfl (store3 (.tmp 52) rfl rfl rfl c3 f3b) ?_ AllReadyIn.nil)
              refine wpAnyIn_done (by kernel_rfl) ?_ _
              exact FIN.out _
            · simp only [Act.put, List.setIfInBounds_toArray, List.set_cons_zero, List.set_cons_succ]
              refine wpAnyIn_ready (rs := [2, 5]) (by kernel_rfl) (by simp) ?_
              refine (openIn_value (some 46) (.pointer (some ⟨g, 0, none⟩)) rfl rfl rfl (fun c h => by cases h) rfl (load25 (.tmp 2) rfl rfl E0.out) ?_ (openIn_skip _ rfl rfl rfl (fun c h => by cases h) rfl (store63 (.tmp 48) rfl rfl rfl c1 f1) ?_ AllReadyIn.nil))
              · simp only [Act.put, List.setIfInBounds_toArray, List.set_cons_zero, List.set_cons_succ]
                refine wpAnyIn_ready (rs := [5]) (by kernel_rfl) (by simp) ?_
                refine (openIn_skip _ rfl rfl rfl (fun c h => by cases h) rfl (store63 (.tmp 48) rfl rfl rfl c1 f1) ?_ AllReadyIn.nil)
                refine wpAnyIn_ready (rs := [6]) (by kernel_rfl) (by simp) ?_
                refine (openIn_value (some 49) (.pointer (some ⟨g, 0, none⟩)) rfl rfl rfl (fun c h => by cases h) rfl (by kernel_rfl) ?_ AllReadyIn.nil)
                simp only [Act.put, List.setIfInBounds_toArray, List.set_cons_zero, List.set_cons_succ]
                refine wpAnyIn_ready (rs := [7]) (by kernel_rfl) (by simp) ?_
                refine (openIn_value (some 50) (.pointer (some ⟨g, 2, none⟩)) rfl rfl rfl (fun c h => by cases h) rfl (by kernel_rfl) ?_ AllReadyIn.nil)
                simp only [Act.put, List.setIfInBounds_toArray, List.set_cons_zero, List.set_cons_succ]
                refine wpAnyIn_ready (rs := [8]) (by kernel_rfl) (by simp) ?_
                refine (openIn_skip _ rfl rfl rfl (fun c h => by cases h) rfl (store4 (.tmp 50) rfl rfl rfl c2 f2) ?_ AllReadyIn.nil)
                refine wpAnyIn_ready (rs := [9]) (by kernel_rfl) (by simp) ?_
                refine (openIn_value (some 51) (.pointer (some ⟨g, 0, none⟩)) rfl rfl rfl (fun c h => by cases h) rfl (by kernel_rfl) ?_ AllReadyIn.nil)
                simp only [Act.put, List.setIfInBounds_toArray, List.set_cons_zero, List.set_cons_succ]
                refine wpAnyIn_ready (rs := [10]) (by kernel_rfl) (by simp) ?_
                refine (openIn_value (some 52) (.pointer (some ⟨g, 3, none⟩)) rfl rfl rfl (fun c h => by cases h) rfl (by kernel_rfl) ?_ AllReadyIn.nil)
                simp only [Act.put, List.setIfInBounds_toArray, List.set_cons_zero, List.set_cons_succ]
                refine wpAnyIn_ready (rs := [11]) (by kernel_rfl) (by simp) ?_
                refine (openIn_skip _ rfl rfl rfl (fun c h => by cases h) rfl (store3 (.tmp 52) rfl rfl rfl c3 f3b) ?_ AllReadyIn.nil)
                refine wpAnyIn_done (by kernel_rfl) ?_ _
                exact FIN.out _
              · refine wpAnyIn_ready (rs := [2, 6]) (by kernel_rfl) (by simp) ?_
                refine (openIn_value (some 46) (.pointer (some ⟨g, 0, none⟩)) rfl rfl rfl (fun c h => by cases h) rfl (load25 (.tmp 2) rfl rfl E1.out) ?_ (openIn_value (some 49) (.pointer (some ⟨g, 0, none⟩)) rfl rfl rfl (fun c h => by cases h) rfl (by kernel_rfl) ?_ AllReadyIn.nil))
                · simp only [Act.put, List.setIfInBounds_toArray, List.set_cons_zero, List.set_cons_succ]
                  refine wpAnyIn_ready (rs := [6]) (by kernel_rfl) (by simp) ?_
                  refine (openIn_value (some 49) (.pointer (some ⟨g, 0, none⟩)) rfl rfl rfl (fun c h => by cases h) rfl (by kernel_rfl) ?_ AllReadyIn.nil)
                  simp only [Act.put, List.setIfInBounds_toArray, List.set_cons_zero, List.set_cons_succ]
                  refine wpAnyIn_ready (rs := [7]) (by kernel_rfl) (by simp) ?_
                  refine (openIn_value (some 50) (.pointer (some ⟨g, 2, none⟩)) rfl rfl rfl (fun c h => by cases h) rfl (by kernel_rfl) ?_ AllReadyIn.nil)
                  simp only [Act.put, List.setIfInBounds_toArray, List.set_cons_zero, List.set_cons_succ]
                  refine wpAnyIn_ready (rs := [8]) (by kernel_rfl) (by simp) ?_
                  refine (openIn_skip _ rfl rfl rfl (fun c h => by cases h) rfl (store4 (.tmp 50) rfl rfl rfl c2 f2) ?_ AllReadyIn.nil)
                  refine wpAnyIn_ready (rs := [9]) (by kernel_rfl) (by simp) ?_
                  refine (openIn_value (some 51) (.pointer (some ⟨g, 0, none⟩)) rfl rfl rfl (fun c h => by cases h) rfl (by kernel_rfl) ?_ AllReadyIn.nil)
                  simp only [Act.put, List.setIfInBounds_toArray, List.set_cons_zero, List.set_cons_succ]
                  refine wpAnyIn_ready (rs := [10]) (by kernel_rfl) (by simp) ?_
                  refine (openIn_value (some 52) (.pointer (some ⟨g, 3, none⟩)) rfl rfl rfl (fun c h => by cases h) rfl (by kernel_rfl) ?_ AllReadyIn.nil)
                  simp only [Act.put, List.setIfInBounds_toArray, List.set_cons_zero, List.set_cons_succ]
                  refine wpAnyIn_ready (rs := [11]) (by kernel_rfl) (by simp) ?_
                  refine (openIn_skip _ rfl rfl rfl (fun c h => by cases h) rfl (store3 (.tmp 52) rfl rfl rfl c3 f3b) ?_ AllReadyIn.nil)
                  refine wpAnyIn_done (by kernel_rfl) ?_ _
                  exact FIN.out _
                · simp only [Act.put, List.setIfInBounds_toArray, List.set_cons_zero, List.set_cons_succ]
                  refine wpAnyIn_ready (rs := [2, 7]) (by kernel_rfl) (by simp) ?_
                  refine (openIn_value (some 46) (.pointer (some ⟨g, 0, none⟩)) rfl rfl rfl (fun c h => by cases h) rfl (load25 (.tmp 2) rfl rfl E1.out) ?_ (openIn_value (some 50) (.pointer (some ⟨g, 2, none⟩)) rfl rfl rfl (fun c h => by cases h) rfl (by kernel_rfl) ?_ AllReadyIn.nil))
                  · simp only [Act.put, List.setIfInBounds_toArray, List.set_cons_zero, List.set_cons_succ]
                    refine wpAnyIn_ready (rs := [7]) (by kernel_rfl) (by simp) ?_
                    refine (openIn_value (some 50) (.pointer (some ⟨g, 2, none⟩)) rfl rfl rfl (fun c h => by cases h) rfl (by kernel_rfl) ?_ AllReadyIn.nil)
                    simp only [Act.put, List.setIfInBounds_toArray, List.set_cons_zero, List.set_cons_succ]
                    refine wpAnyIn_ready (rs := [8]) (by kernel_rfl) (by simp) ?_
                    refine (openIn_skip _ rfl rfl rfl (fun c h => by cases h) rfl (store4 (.tmp 50) rfl rfl rfl c2 f2) ?_ AllReadyIn.nil)
                    refine wpAnyIn_ready (rs := [9]) (by kernel_rfl) (by simp) ?_
                    refine (openIn_value (some 51) (.pointer (some ⟨g, 0, none⟩)) rfl rfl rfl (fun c h => by cases h) rfl (by kernel_rfl) ?_ AllReadyIn.nil)
                    simp only [Act.put, List.setIfInBounds_toArray, List.set_cons_zero, List.set_cons_succ]
                    refine wpAnyIn_ready (rs := [10]) (by kernel_rfl) (by simp) ?_
                    refine (openIn_value (some 52) (.pointer (some ⟨g, 3, none⟩)) rfl rfl rfl (fun c h => by cases h) rfl (by kernel_rfl) ?_ AllReadyIn.nil)
                    simp only [Act.put, List.setIfInBounds_toArray, List.set_cons_zero, List.set_cons_succ]
                    refine wpAnyIn_ready (rs := [11]) (by kernel_rfl) (by simp) ?_
                    refine (openIn_skip _ rfl rfl rfl (fun c h => by cases h) rfl (store3 (.tmp 52) rfl rfl rfl c3 f3b) ?_ AllReadyIn.nil)
                    refine wpAnyIn_done (by kernel_rfl) ?_ _
                    exact FIN.out _
                  · simp only [Act.put, List.setIfInBounds_toArray, List.set_cons_zero, List.set_cons_succ]
                    refine wpAnyIn_ready (rs := [2, 8]) (by kernel_rfl) (by simp) ?_
                    refine (openIn_value (some 46) (.pointer (some ⟨g, 0, none⟩)) rfl rfl rfl (fun c h => by cases h) rfl (load25 (.tmp 2) rfl rfl E1.out) ?_ (openIn_skip _ rfl rfl rfl (fun c h => by cases h) rfl (store4 (.tmp 50) rfl rfl rfl c2 f2) ?_ AllReadyIn.nil))
                    · simp only [Act.put, List.setIfInBounds_toArray, List.set_cons_zero, List.set_cons_succ]
                      refine wpAnyIn_ready (rs := [8]) (by kernel_rfl) (by simp) ?_
                      refine (openIn_skip _ rfl rfl rfl (fun c h => by cases h) rfl (store4 (.tmp 50) rfl rfl rfl c2 f2) ?_ AllReadyIn.nil)
                      refine wpAnyIn_ready (rs := [9]) (by kernel_rfl) (by simp) ?_
                      refine (openIn_value (some 51) (.pointer (some ⟨g, 0, none⟩)) rfl rfl rfl (fun c h => by cases h) rfl (by kernel_rfl) ?_ AllReadyIn.nil)
                      simp only [Act.put, List.setIfInBounds_toArray, List.set_cons_zero, List.set_cons_succ]
                      refine wpAnyIn_ready (rs := [10]) (by kernel_rfl) (by simp) ?_
                      refine (openIn_value (some 52) (.pointer (some ⟨g, 3, none⟩)) rfl rfl rfl (fun c h => by cases h) rfl (by kernel_rfl) ?_ AllReadyIn.nil)
                      simp only [Act.put, List.setIfInBounds_toArray, List.set_cons_zero, List.set_cons_succ]
                      refine wpAnyIn_ready (rs := [11]) (by kernel_rfl) (by simp) ?_
                      refine (openIn_skip _ rfl rfl rfl (fun c h => by cases h) rfl (store3 (.tmp 52) rfl rfl rfl c3 f3b) ?_ AllReadyIn.nil)
                      refine wpAnyIn_done (by kernel_rfl) ?_ _
                      exact FIN.out _
                    · refine wpAnyIn_ready (rs := [2]) (by kernel_rfl) (by simp) ?_
                      refine (openIn_value (some 46) (.pointer (some ⟨g, 0, none⟩)) rfl rfl rfl (fun c h => by cases h) rfl (load25 (.tmp 2) rfl rfl E2.out) ?_ AllReadyIn.nil)
                      simp only [Act.put, List.setIfInBounds_toArray, List.set_cons_zero, List.set_cons_succ]
                      refine wpAnyIn_ready (rs := [9]) (by kernel_rfl) (by simp) ?_
                      refine (openIn_value (some 51) (.pointer (some ⟨g, 0, none⟩)) rfl rfl rfl (fun c h => by cases h) rfl (by kernel_rfl) ?_ AllReadyIn.nil)
                      simp only [Act.put, List.setIfInBounds_toArray, List.set_cons_zero, List.set_cons_succ]
                      refine wpAnyIn_ready (rs := [10]) (by kernel_rfl) (by simp) ?_
                      refine (openIn_value (some 52) (.pointer (some ⟨g, 3, none⟩)) rfl rfl rfl (fun c h => by cases h) rfl (by kernel_rfl) ?_ AllReadyIn.nil)
                      simp only [Act.put, List.setIfInBounds_toArray, List.set_cons_zero, List.set_cons_succ]
                      refine wpAnyIn_ready (rs := [11]) (by kernel_rfl) (by simp) ?_
                      refine (openIn_skip _ rfl rfl rfl (fun c h => by cases h) rfl (store3 (.tmp 52) rfl rfl rfl c3 f3b) ?_ AllReadyIn.nil)
                      refine wpAnyIn_done (by kernel_rfl) ?_ _
                      exact FIN.out _
          · simp only [Act.put, List.setIfInBounds_toArray, List.set_cons_zero, List.set_cons_succ]
            refine wpAnyIn_ready (rs := [1, 4]) (by kernel_rfl) (by simp) ?_
            refine (openIn_value (some 45) (.pointer (some ⟨g, 0, none⟩)) rfl rfl rfl (fun c h => by cases h) rfl (load25 (.tmp 2) rfl rfl E0.out) ?_ (openIn_value (some 48) (.pointer (some ⟨g, 1, none⟩)) rfl rfl rfl (fun c h => by cases h) rfl (by kernel_rfl) ?_ AllReadyIn.nil))
            · simp only [Act.put, List.setIfInBounds_toArray, List.set_cons_zero, List.set_cons_succ]
              refine wpAnyIn_ready (rs := [4]) (by kernel_rfl) (by simp) ?_
              refine (openIn_value (some 48) (.pointer (some ⟨g, 1, none⟩)) rfl rfl rfl (fun c h => by cases h) rfl (by kernel_rfl) ?_ AllReadyIn.nil)
              simp only [Act.put, List.setIfInBounds_toArray, List.set_cons_zero, List.set_cons_succ]
              refine wpAnyIn_ready (rs := [5]) (by kernel_rfl) (by simp) ?_
              refine (openIn_skip _ rfl rfl rfl (fun c h => by cases h) rfl (store63 (.tmp 48) rfl rfl rfl c1 f1) ?_ AllReadyIn.nil)
              refine wpAnyIn_ready (rs := [6]) (by kernel_rfl) (by simp) ?_
              refine (openIn_value (some 49) (.pointer (some ⟨g, 0, none⟩)) rfl rfl rfl (fun c h => by cases h) rfl (by kernel_rfl) ?_ AllReadyIn.nil)
              simp only [Act.put, List.setIfInBounds_toArray, List.set_cons_zero, List.set_cons_succ]
              refine wpAnyIn_ready (rs := [7]) (by kernel_rfl) (by simp) ?_
              refine (openIn_value (some 50) (.pointer (some ⟨g, 2, none⟩)) rfl rfl rfl (fun c h => by cases h) rfl (by kernel_rfl) ?_ AllReadyIn.nil)
              simp only [Act.put, List.setIfInBounds_toArray, List.set_cons_zero, List.set_cons_succ]
              refine wpAnyIn_ready (rs := [8]) (by kernel_rfl) (by simp) ?_
              refine (openIn_skip _ rfl rfl rfl (fun c h => by cases h) rfl (store4 (.tmp 50) rfl rfl rfl c2 f2) ?_ AllReadyIn.nil)
              refine wpAnyIn_ready (rs := [9]) (by kernel_rfl) (by simp) ?_
              refine (openIn_value (some 51) (.pointer (some ⟨g, 0, none⟩)) rfl rfl rfl (fun c h => by cases h) rfl (by kernel_rfl) ?_ AllReadyIn.nil)
              simp only [Act.put, List.setIfInBounds_toArray, List.set_cons_zero, List.set_cons_succ]
              refine wpAnyIn_ready (rs := [10]) (by kernel_rfl) (by simp) ?_
              refine (openIn_value (some 52) (.pointer (some ⟨g, 3, none⟩)) rfl rfl rfl (fun c h => by cases h) rfl (by kernel_rfl) ?_ AllReadyIn.nil)
              simp only [Act.put, List.setIfInBounds_toArray, List.set_cons_zero, List.set_cons_succ]
              refine wpAnyIn_ready (rs := [11]) (by kernel_rfl) (by simp) ?_
              refine (openIn_skip _ rfl rfl rfl (fun c h => by cases h) rfl (store3 (.tmp 52) rfl rfl rfl c3 f3b) ?_ AllReadyIn.nil)
              refine wpAnyIn_done (by kernel_rfl) ?_ _
              exact FIN.out _
            · simp only [Act.put, List.setIfInBounds_toArray, List.set_cons_zero, List.set_cons_succ]
              refine wpAnyIn_ready (rs := [1, 5]) (by kernel_rfl) (by simp) ?_
              refine (openIn_value (some 45) (.pointer (some ⟨g, 0, none⟩)) rfl rfl rfl (fun c h => by cases h) rfl (load25 (.tmp 2) rfl rfl E0.out) ?_ (openIn_skip _ rfl rfl rfl (fun c h => by cases h) rfl (store63 (.tmp 48) rfl rfl rfl c1 f1) ?_ AllReadyIn.nil))
              · simp only [Act.put, List.setIfInBounds_toArray, List.set_cons_zero, List.set_cons_succ]
                refine wpAnyIn_ready (rs := [5]) (by kernel_rfl) (by simp) ?_
                refine (openIn_skip _ rfl rfl rfl (fun c h => by cases h) rfl (store63 (.tmp 48) rfl rfl rfl c1 f1) ?_ AllReadyIn.nil)
                refine wpAnyIn_ready (rs := [6]) (by kernel_rfl) (by simp) ?_
                refine (openIn_value (some 49) (.pointer (some ⟨g, 0, none⟩)) rfl rfl rfl (fun c h => by cases h) rfl (by kernel_rfl) ?_ AllReadyIn.nil)
                simp only [Act.put, List.setIfInBounds_toArray, List.set_cons_zero, List.set_cons_succ]
                refine wpAnyIn_ready (rs := [7]) (by kernel_rfl) (by simp) ?_
                refine (openIn_value (some 50) (.pointer (some ⟨g, 2, none⟩)) rfl rfl rfl (fun c h => by cases h) rfl (by kernel_rfl) ?_ AllReadyIn.nil)
                simp only [Act.put, List.setIfInBounds_toArray, List.set_cons_zero, List.set_cons_succ]
                refine wpAnyIn_ready (rs := [8]) (by kernel_rfl) (by simp) ?_
                refine (openIn_skip _ rfl rfl rfl (fun c h => by cases h) rfl (store4 (.tmp 50) rfl rfl rfl c2 f2) ?_ AllReadyIn.nil)
                refine wpAnyIn_ready (rs := [9]) (by kernel_rfl) (by simp) ?_
                refine (openIn_value (some 51) (.pointer (some ⟨g, 0, none⟩)) rfl rfl rfl (fun c h => by cases h) rfl (by kernel_rfl) ?_ AllReadyIn.nil)
                simp only [Act.put, List.setIfInBounds_toArray, List.set_cons_zero, List.set_cons_succ]
                refine wpAnyIn_ready (rs := [10]) (by kernel_rfl) (by simp) ?_
                refine (openIn_value (some 52) (.pointer (some ⟨g, 3, none⟩)) rfl rfl rfl (fun c h => by cases h) rfl (by kernel_rfl) ?_ AllReadyIn.nil)
                simp only [Act.put, List.setIfInBounds_toArray, List.set_cons_zero, List.set_cons_succ]
                refine wpAnyIn_ready (rs := [11]) (by kernel_rfl) (by simp) ?_
                refine (openIn_skip _ rfl rfl rfl (fun c h => by cases h) rfl (store3 (.tmp 52) rfl rfl rfl c3 f3b) ?_ AllReadyIn.nil)
                refine wpAnyIn_done (by kernel_rfl) ?_ _
                exact FIN.out _
              · refine wpAnyIn_ready (rs := [1]) (by kernel_rfl) (by simp) ?_
                refine (openIn_value (some 45) (.pointer (some ⟨g, 0, none⟩)) rfl rfl rfl (fun c h => by cases h) rfl (load25 (.tmp 2) rfl rfl E1.out) ?_ AllReadyIn.nil)
                simp only [Act.put, List.setIfInBounds_toArray, List.set_cons_zero, List.set_cons_succ]
                refine wpAnyIn_ready (rs := [6]) (by kernel_rfl) (by simp) ?_
                refine (openIn_value (some 49) (.pointer (some ⟨g, 0, none⟩)) rfl rfl rfl (fun c h => by cases h) rfl (by kernel_rfl) ?_ AllReadyIn.nil)
                simp only [Act.put, List.setIfInBounds_toArray, List.set_cons_zero, List.set_cons_succ]
                refine wpAnyIn_ready (rs := [7]) (by kernel_rfl) (by simp) ?_
                refine (openIn_value (some 50) (.pointer (some ⟨g, 2, none⟩)) rfl rfl rfl (fun c h => by cases h) rfl (by kernel_rfl) ?_ AllReadyIn.nil)
                simp only [Act.put, List.setIfInBounds_toArray, List.set_cons_zero, List.set_cons_succ]
                refine wpAnyIn_ready (rs := [8]) (by kernel_rfl) (by simp) ?_
                refine (openIn_skip _ rfl rfl rfl (fun c h => by cases h) rfl (store4 (.tmp 50) rfl rfl rfl c2 f2) ?_ AllReadyIn.nil)
                refine wpAnyIn_ready (rs := [9]) (by kernel_rfl) (by simp) ?_
                refine (openIn_value (some 51) (.pointer (some ⟨g, 0, none⟩)) rfl rfl rfl (fun c h => by cases h) rfl (by kernel_rfl) ?_ AllReadyIn.nil)
                simp only [Act.put, List.setIfInBounds_toArray, List.set_cons_zero, List.set_cons_succ]
                refine wpAnyIn_ready (rs := [10]) (by kernel_rfl) (by simp) ?_
                refine (openIn_value (some 52) (.pointer (some ⟨g, 3, none⟩)) rfl rfl rfl (fun c h => by cases h) rfl (by kernel_rfl) ?_ AllReadyIn.nil)
                simp only [Act.put, List.setIfInBounds_toArray, List.set_cons_zero, List.set_cons_succ]
                refine wpAnyIn_ready (rs := [11]) (by kernel_rfl) (by simp) ?_
                refine (openIn_skip _ rfl rfl rfl (fun c h => by cases h) rfl (store3 (.tmp 52) rfl rfl rfl c3 f3b) ?_ AllReadyIn.nil)
                refine wpAnyIn_done (by kernel_rfl) ?_ _
                exact FIN.out _
          · simp only [Act.put, List.setIfInBounds_toArray, List.set_cons_zero, List.set_cons_succ]
            refine wpAnyIn_ready (rs := [1, 2, 5]) (by kernel_rfl) (by simp) ?_
            refine (openIn_value (some 45) (.pointer (some ⟨g, 0, none⟩)) rfl rfl rfl (fun c h => by cases h) rfl (load25 (.tmp 2) rfl rfl E0.out) ?_ (openIn_value (some 46) (.pointer (some ⟨g, 0, none⟩)) rfl rfl rfl (fun c h => by cases h) rfl (load25 (.tmp 2) rfl rfl E0.out) ?_ (openIn_skip _ rfl rfl rfl (fun c h => by cases h) rfl (store63 (.tmp 48) rfl rfl rfl c1 f1) ?_ AllReadyIn.nil)))
            · simp only [Act.put, List.setIfInBounds_toArray, List.set_cons_zero, List.set_cons_succ]
              refine wpAnyIn_ready (rs := [2, 5]) (by kernel_rfl) (by simp) ?_
              refine (openIn_value (some 46) (.pointer (some ⟨g, 0, none⟩)) rfl rfl rfl (fun c h => by cases h) rfl (load25 (.tmp 2) rfl rfl E0.out) ?_ (openIn_skip _ rfl rfl rfl (fun c h => by cases h) rfl (store63 (.tmp 48) rfl rfl rfl c1 f1) ?_ AllReadyIn.nil))
              · simp only [Act.put, List.setIfInBounds_toArray, List.set_cons_zero, List.set_cons_succ]
                refine wpAnyIn_ready (rs := [5]) (by kernel_rfl) (by simp) ?_
                refine (openIn_skip _ rfl rfl rfl (fun c h => by cases h) rfl (store63 (.tmp 48) rfl rfl rfl c1 f1) ?_ AllReadyIn.nil)
                refine wpAnyIn_ready (rs := [6]) (by kernel_rfl) (by simp) ?_
                refine (openIn_value (some 49) (.pointer (some ⟨g, 0, none⟩)) rfl rfl rfl (fun c h => by cases h) rfl (by kernel_rfl) ?_ AllReadyIn.nil)
                simp only [Act.put, List.setIfInBounds_toArray, List.set_cons_zero, List.set_cons_succ]
                refine wpAnyIn_ready (rs := [7]) (by kernel_rfl) (by simp) ?_
                refine (openIn_value (some 50) (.pointer (some ⟨g, 2, none⟩)) rfl rfl rfl (fun c h => by cases h) rfl (by kernel_rfl) ?_ AllReadyIn.nil)
                simp only [Act.put, List.setIfInBounds_toArray, List.set_cons_zero, List.set_cons_succ]
                refine wpAnyIn_ready (rs := [8]) (by kernel_rfl) (by simp) ?_
                refine (openIn_skip _ rfl rfl rfl (fun c h => by cases h) rfl (store4 (.tmp 50) rfl rfl rfl c2 f2) ?_ AllReadyIn.nil)
                refine wpAnyIn_ready (rs := [9]) (by kernel_rfl) (by simp) ?_
                refine (openIn_value (some 51) (.pointer (some ⟨g, 0, none⟩)) rfl rfl rfl (fun c h => by cases h) rfl (by kernel_rfl) ?_ AllReadyIn.nil)
                simp only [Act.put, List.setIfInBounds_toArray, List.set_cons_zero, List.set_cons_succ]
                refine wpAnyIn_ready (rs := [10]) (by kernel_rfl) (by simp) ?_
                refine (openIn_value (some 52) (.pointer (some ⟨g, 3, none⟩)) rfl rfl rfl (fun c h => by cases h) rfl (by kernel_rfl) ?_ AllReadyIn.nil)
                simp only [Act.put, List.setIfInBounds_toArray, List.set_cons_zero, List.set_cons_succ]
                refine wpAnyIn_ready (rs := [11]) (by kernel_rfl) (by simp) ?_
                refine (openIn_skip _ rfl rfl rfl (fun c h => by cases h) rfl (store3 (.tmp 52) rfl rfl rfl c3 f3b) ?_ AllReadyIn.nil)
                refine wpAnyIn_done (by kernel_rfl) ?_ _
                exact FIN.out _
              · refine wpAnyIn_ready (rs := [2, 6]) (by kernel_rfl) (by simp) ?_
                refine (openIn_value (some 46) (.pointer (some ⟨g, 0, none⟩)) rfl rfl rfl (fun c h => by cases h) rfl (load25 (.tmp 2) rfl rfl E1.out) ?_ (openIn_value (some 49) (.pointer (some ⟨g, 0, none⟩)) rfl rfl rfl (fun c h => by cases h) rfl (by kernel_rfl) ?_ AllReadyIn.nil))
                · simp only [Act.put, List.setIfInBounds_toArray, List.set_cons_zero, List.set_cons_succ]
                  refine wpAnyIn_ready (rs := [6]) (by kernel_rfl) (by simp) ?_
                  refine (openIn_value (some 49) (.pointer (some ⟨g, 0, none⟩)) rfl rfl rfl (fun c h => by cases h) rfl (by kernel_rfl) ?_ AllReadyIn.nil)
                  simp only [Act.put, List.setIfInBounds_toArray, List.set_cons_zero, List.set_cons_succ]
                  refine wpAnyIn_ready (rs := [7]) (by kernel_rfl) (by simp) ?_
                  refine (openIn_value (some 50) (.pointer (some ⟨g, 2, none⟩)) rfl rfl rfl (fun c h => by cases h) rfl (by kernel_rfl) ?_ AllReadyIn.nil)
                  simp only [Act.put, List.setIfInBounds_toArray, List.set_cons_zero, List.set_cons_succ]
                  refine wpAnyIn_ready (rs := [8]) (by kernel_rfl) (by simp) ?_
                  refine (openIn_skip _ rfl rfl rfl (fun c h => by cases h) rfl (store4 (.tmp 50) rfl rfl rfl c2 f2) ?_ AllReadyIn.nil)
                  refine wpAnyIn_ready (rs := [9]) (by kernel_rfl) (by simp) ?_
                  refine (openIn_value (some 51) (.pointer (some ⟨g, 0, none⟩)) rfl rfl rfl (fun c h => by cases h) rfl (by kernel_rfl) ?_ AllReadyIn.nil)
                  simp only [Act.put, List.setIfInBounds_toArray, List.set_cons_zero, List.set_cons_succ]
                  refine wpAnyIn_ready (rs := [10]) (by kernel_rfl) (by simp) ?_
                  refine (openIn_value (some 52) (.pointer (some ⟨g, 3, none⟩)) rfl rfl rfl (fun c h => by cases h) rfl (by kernel_rfl) ?_ AllReadyIn.nil)
                  simp only [Act.put, List.setIfInBounds_toArray, List.set_cons_zero, List.set_cons_succ]
                  refine wpAnyIn_ready (rs := [11]) (by kernel_rfl) (by simp) ?_
                  refine (openIn_skip _ rfl rfl rfl (fun c h => by cases h) rfl (store3 (.tmp 52) rfl rfl rfl c3 f3b) ?_ AllReadyIn.nil)
                  refine wpAnyIn_done (by kernel_rfl) ?_ _
                  exact FIN.out _
                · simp only [Act.put, List.setIfInBounds_toArray, List.set_cons_zero, List.set_cons_succ]
                  refine wpAnyIn_ready (rs := [2, 7]) (by kernel_rfl) (by simp) ?_
                  refine (openIn_value (some 46) (.pointer (some ⟨g, 0, none⟩)) rfl rfl rfl (fun c h => by cases h) rfl (load25 (.tmp 2) rfl rfl E1.out) ?_ (openIn_value (some 50) (.pointer (some ⟨g, 2, none⟩)) rfl rfl rfl (fun c h => by cases h) rfl (by kernel_rfl) ?_ AllReadyIn.nil))
                  · simp only [Act.put, List.setIfInBounds_toArray, List.set_cons_zero, List.set_cons_succ]
                    refine wpAnyIn_ready (rs := [7]) (by kernel_rfl) (by simp) ?_
                    refine (openIn_value (some 50) (.pointer (some ⟨g, 2, none⟩)) rfl rfl rfl (fun c h => by cases h) rfl (by kernel_rfl) ?_ AllReadyIn.nil)
                    simp only [Act.put, List.setIfInBounds_toArray, List.set_cons_zero, List.set_cons_succ]
                    refine wpAnyIn_ready (rs := [8]) (by kernel_rfl) (by simp) ?_
                    refine (openIn_skip _ rfl rfl rfl (fun c h => by cases h) rfl (store4 (.tmp 50) rfl rfl rfl c2 f2) ?_ AllReadyIn.nil)
                    refine wpAnyIn_ready (rs := [9]) (by kernel_rfl) (by simp) ?_
                    refine (openIn_value (some 51) (.pointer (some ⟨g, 0, none⟩)) rfl rfl rfl (fun c h => by cases h) rfl (by kernel_rfl) ?_ AllReadyIn.nil)
                    simp only [Act.put, List.setIfInBounds_toArray, List.set_cons_zero, List.set_cons_succ]
                    refine wpAnyIn_ready (rs := [10]) (by kernel_rfl) (by simp) ?_
                    refine (openIn_value (some 52) (.pointer (some ⟨g, 3, none⟩)) rfl rfl rfl (fun c h => by cases h) rfl (by kernel_rfl) ?_ AllReadyIn.nil)
                    simp only [Act.put, List.setIfInBounds_toArray, List.set_cons_zero, List.set_cons_succ]
                    refine wpAnyIn_ready (rs := [11]) (by kernel_rfl) (by simp) ?_
                    refine (openIn_skip _ rfl rfl rfl (fun c h => by cases h) rfl (store3 (.tmp 52) rfl rfl rfl c3 f3b) ?_ AllReadyIn.nil)
                    refine wpAnyIn_done (by kernel_rfl) ?_ _
                    exact FIN.out _
                  · simp only [Act.put, List.setIfInBounds_toArray, List.set_cons_zero, List.set_cons_succ]
                    refine wpAnyIn_ready (rs := [2, 8]) (by kernel_rfl) (by simp) ?_
                    refine (openIn_value (some 46) (.pointer (some ⟨g, 0, none⟩)) rfl rfl rfl (fun c h => by cases h) rfl (load25 (.tmp 2) rfl rfl E1.out) ?_ (openIn_skip _ rfl rfl rfl (fun c h => by cases h) rfl (store4 (.tmp 50) rfl rfl rfl c2 f2) ?_ AllReadyIn.nil))
                    · simp only [Act.put, List.setIfInBounds_toArray, List.set_cons_zero, List.set_cons_succ]
                      refine wpAnyIn_ready (rs := [8]) (by kernel_rfl) (by simp) ?_
                      refine (openIn_skip _ rfl rfl rfl (fun c h => by cases h) rfl (store4 (.tmp 50) rfl rfl rfl c2 f2) ?_ AllReadyIn.nil)
                      refine wpAnyIn_ready (rs := [9]) (by kernel_rfl) (by simp) ?_
                      refine (openIn_value (some 51) (.pointer (some ⟨g, 0, none⟩)) rfl rfl rfl (fun c h => by cases h) rfl (by kernel_rfl) ?_ AllReadyIn.nil)
                      simp only [Act.put, List.setIfInBounds_toArray, List.set_cons_zero, List.set_cons_succ]
                      refine wpAnyIn_ready (rs := [10]) (by kernel_rfl) (by simp) ?_
                      refine (openIn_value (some 52) (.pointer (some ⟨g, 3, none⟩)) rfl rfl rfl (fun c h => by cases h) rfl (by kernel_rfl) ?_ AllReadyIn.nil)
                      simp only [Act.put, List.setIfInBounds_toArray, List.set_cons_zero, List.set_cons_succ]
                      refine wpAnyIn_ready (rs := [11]) (by kernel_rfl) (by simp) ?_
                      refine (openIn_skip _ rfl rfl rfl (fun c h => by cases h) rfl (store3 (.tmp 52) rfl rfl rfl c3 f3b) ?_ AllReadyIn.nil)
                      refine wpAnyIn_done (by kernel_rfl) ?_ _
                      exact FIN.out _
                    · refine wpAnyIn_ready (rs := [2]) (by kernel_rfl) (by simp) ?_
                      refine (openIn_value (some 46) (.pointer (some ⟨g, 0, none⟩)) rfl rfl rfl (fun c h => by cases h) rfl (load25 (.tmp 2) rfl rfl E2.out) ?_ AllReadyIn.nil)
                      simp only [Act.put, List.setIfInBounds_toArray, List.set_cons_zero, List.set_cons_succ]
                      refine wpAnyIn_ready (rs := [9]) (by kernel_rfl) (by simp) ?_
                      refine (openIn_value (some 51) (.pointer (some ⟨g, 0, none⟩)) rfl rfl rfl (fun c h => by cases h) rfl (by kernel_rfl) ?_ AllReadyIn.nil)
                      simp only [Act.put, List.setIfInBounds_toArray, List.set_cons_zero, List.set_cons_succ]
                      refine wpAnyIn_ready (rs := [10]) (by kernel_rfl) (by simp) ?_
                      refine (openIn_value (some 52) (.pointer (some ⟨g, 3, none⟩)) rfl rfl rfl (fun c h => by cases h) rfl (by kernel_rfl) ?_ AllReadyIn.nil)
                      simp only [Act.put, List.setIfInBounds_toArray, List.set_cons_zero, List.set_cons_succ]
                      refine wpAnyIn_ready (rs := [11]) (by kernel_rfl) (by simp) ?_
                      refine (openIn_skip _ rfl rfl rfl (fun c h => by cases h) rfl (store3 (.tmp 52) rfl rfl rfl c3 f3b) ?_ AllReadyIn.nil)
                      refine wpAnyIn_done (by kernel_rfl) ?_ _
                      exact FIN.out _
            · simp only [Act.put, List.setIfInBounds_toArray, List.set_cons_zero, List.set_cons_succ]
              refine wpAnyIn_ready (rs := [1, 5]) (by kernel_rfl) (by simp) ?_
              refine (openIn_value (some 45) (.pointer (some ⟨g, 0, none⟩)) rfl rfl rfl (fun c h => by cases h) rfl (load25 (.tmp 2) rfl rfl E0.out) ?_ (openIn_skip _ rfl rfl rfl (fun c h => by cases h) rfl (store63 (.tmp 48) rfl rfl rfl c1 f1) ?_ AllReadyIn.nil))
              · simp only [Act.put, List.setIfInBounds_toArray, List.set_cons_zero, List.set_cons_succ]
                refine wpAnyIn_ready (rs := [5]) (by kernel_rfl) (by simp) ?_
                refine (openIn_skip _ rfl rfl rfl (fun c h => by cases h) rfl (store63 (.tmp 48) rfl rfl rfl c1 f1) ?_ AllReadyIn.nil)
                refine wpAnyIn_ready (rs := [6]) (by kernel_rfl) (by simp) ?_
                refine (openIn_value (some 49) (.pointer (some ⟨g, 0, none⟩)) rfl rfl rfl (fun c h => by cases h) rfl (by kernel_rfl) ?_ AllReadyIn.nil)
                simp only [Act.put, List.setIfInBounds_toArray, List.set_cons_zero, List.set_cons_succ]
                refine wpAnyIn_ready (rs := [7]) (by kernel_rfl) (by simp) ?_
                refine (openIn_value (some 50) (.pointer (some ⟨g, 2, none⟩)) rfl rfl rfl (fun c h => by cases h) rfl (by kernel_rfl) ?_ AllReadyIn.nil)
                simp only [Act.put, List.setIfInBounds_toArray, List.set_cons_zero, List.set_cons_succ]
                refine wpAnyIn_ready (rs := [8]) (by kernel_rfl) (by simp) ?_
                refine (openIn_skip _ rfl rfl rfl (fun c h => by cases h) rfl (store4 (.tmp 50) rfl rfl rfl c2 f2) ?_ AllReadyIn.nil)
                refine wpAnyIn_ready (rs := [9]) (by kernel_rfl) (by simp) ?_
                refine (openIn_value (some 51) (.pointer (some ⟨g, 0, none⟩)) rfl rfl rfl (fun c h => by cases h) rfl (by kernel_rfl) ?_ AllReadyIn.nil)
                simp only [Act.put, List.setIfInBounds_toArray, List.set_cons_zero, List.set_cons_succ]
                refine wpAnyIn_ready (rs := [10]) (by kernel_rfl) (by simp) ?_
                refine (openIn_value (some 52) (.pointer (some ⟨g, 3, none⟩)) rfl rfl rfl (fun c h => by cases h) rfl (by kernel_rfl) ?_ AllReadyIn.nil)
                simp only [Act.put, List.setIfInBounds_toArray, List.set_cons_zero, List.set_cons_succ]
                refine wpAnyIn_ready (rs := [11]) (by kernel_rfl) (by simp) ?_
                refine (openIn_skip _ rfl rfl rfl (fun c h => by cases h) rfl (store3 (.tmp 52) rfl rfl rfl c3 f3b) ?_ AllReadyIn.nil)
                refine wpAnyIn_done (by kernel_rfl) ?_ _
                exact FIN.out _
              · refine wpAnyIn_ready (rs := [1]) (by kernel_rfl) (by simp) ?_
                refine (openIn_value (some 45) (.pointer (some ⟨g, 0, none⟩)) rfl rfl rfl (fun c h => by cases h) rfl (load25 (.tmp 2) rfl rfl E1.out) ?_ AllReadyIn.nil)
                simp only [Act.put, List.setIfInBounds_toArray, List.set_cons_zero, List.set_cons_succ]
                refine wpAnyIn_ready (rs := [6]) (by kernel_rfl) (by simp) ?_
                refine (openIn_value (some 49) (.pointer (some ⟨g, 0, none⟩)) rfl rfl rfl (fun c h => by cases h) rfl (by kernel_rfl) ?_ AllReadyIn.nil)
                simp only [Act.put, List.setIfInBounds_toArray, List.set_cons_zero, List.set_cons_succ]
                refine wpAnyIn_ready (rs := [7]) (by kernel_rfl) (by simp) ?_
                refine (openIn_value (some 50) (.pointer (some ⟨g, 2, none⟩)) rfl rfl rfl (fun c h => by cases h) rfl (by kernel_rfl) ?_ AllReadyIn.nil)
                simp only [Act.put, List.setIfInBounds_toArray, List.set_cons_zero, List.set_cons_succ]
                refine wpAnyIn_ready (rs := [8]) (by kernel_rfl) (by simp) ?_
                refine (openIn_skip _ rfl rfl rfl (fun c h => by cases h) rfl (store4 (.tmp 50) rfl rfl rfl c2 f2) ?_ AllReadyIn.nil)
                refine wpAnyIn_ready (rs := [9]) (by kernel_rfl) (by simp) ?_
                refine (openIn_value (some 51) (.pointer (some ⟨g, 0, none⟩)) rfl rfl rfl (fun c h => by cases h) rfl (by kernel_rfl) ?_ AllReadyIn.nil)
                simp only [Act.put, List.setIfInBounds_toArray, List.set_cons_zero, List.set_cons_succ]
                refine wpAnyIn_ready (rs := [10]) (by kernel_rfl) (by simp) ?_
                refine (openIn_value (some 52) (.pointer (some ⟨g, 3, none⟩)) rfl rfl rfl (fun c h => by cases h) rfl (by kernel_rfl) ?_ AllReadyIn.nil)
                simp only [Act.put, List.setIfInBounds_toArray, List.set_cons_zero, List.set_cons_succ]
                refine wpAnyIn_ready (rs := [11]) (by kernel_rfl) (by simp) ?_
                refine (openIn_skip _ rfl rfl rfl (fun c h => by cases h) rfl (store3 (.tmp 52) rfl rfl rfl c3 f3b) ?_ AllReadyIn.nil)
                refine wpAnyIn_done (by kernel_rfl) ?_ _
                exact FIN.out _
            · refine wpAnyIn_ready (rs := [1, 2]) (by kernel_rfl) (by simp) ?_
              refine (openIn_value (some 45) (.pointer (some ⟨g, 0, none⟩)) rfl rfl rfl (fun c h => by cases h) rfl (load25 (.tmp 2) rfl rfl E1.out) ?_ (openIn_value (some 46) (.pointer (some ⟨g, 0, none⟩)) rfl rfl rfl (fun c h => by cases h) rfl (load25 (.tmp 2) rfl rfl E1.out) ?_ AllReadyIn.nil))
              · simp only [Act.put, List.setIfInBounds_toArray, List.set_cons_zero, List.set_cons_succ]
                refine wpAnyIn_ready (rs := [2, 6]) (by kernel_rfl) (by simp) ?_
                refine (openIn_value (some 46) (.pointer (some ⟨g, 0, none⟩)) rfl rfl rfl (fun c h => by cases h) rfl (load25 (.tmp 2) rfl rfl E1.out) ?_ (openIn_value (some 49) (.pointer (some ⟨g, 0, none⟩)) rfl rfl rfl (fun c h => by cases h) rfl (by kernel_rfl) ?_ AllReadyIn.nil))
                · simp only [Act.put, List.setIfInBounds_toArray, List.set_cons_zero, List.set_cons_succ]
                  refine wpAnyIn_ready (rs := [6]) (by kernel_rfl) (by simp) ?_
                  refine (openIn_value (some 49) (.pointer (some ⟨g, 0, none⟩)) rfl rfl rfl (fun c h => by cases h) rfl (by kernel_rfl) ?_ AllReadyIn.nil)
                  simp only [Act.put, List.setIfInBounds_toArray, List.set_cons_zero, List.set_cons_succ]
                  refine wpAnyIn_ready (rs := [7]) (by kernel_rfl) (by simp) ?_
                  refine (openIn_value (some 50) (.pointer (some ⟨g, 2, none⟩)) rfl rfl rfl (fun c h => by cases h) rfl (by kernel_rfl) ?_ AllReadyIn.nil)
                  simp only [Act.put, List.setIfInBounds_toArray, List.set_cons_zero, List.set_cons_succ]
                  refine wpAnyIn_ready (rs := [8]) (by kernel_rfl) (by simp) ?_
                  refine (openIn_skip _ rfl rfl rfl (fun c h => by cases h) rfl (store4 (.tmp 50) rfl rfl rfl c2 f2) ?_ AllReadyIn.nil)
                  refine wpAnyIn_ready (rs := [9]) (by kernel_rfl) (by simp) ?_
                  refine (openIn_value (some 51) (.pointer (some ⟨g, 0, none⟩)) rfl rfl rfl (fun c h => by cases h) rfl (by kernel_rfl) ?_ AllReadyIn.nil)
                  simp only [Act.put, List.setIfInBounds_toArray, List.set_cons_zero, List.set_cons_succ]
                  refine wpAnyIn_ready (rs := [10]) (by kernel_rfl) (by simp) ?_
                  refine (openIn_value (some 52) (.pointer (some ⟨g, 3, none⟩)) rfl rfl rfl (fun c h => by cases h) rfl (by kernel_rfl) ?_ AllReadyIn.nil)
                  simp only [Act.put, List.setIfInBounds_toArray, List.set_cons_zero, List.set_cons_succ]
                  refine wpAnyIn_ready (rs := [11]) (by kernel_rfl) (by simp) ?_
                  refine (openIn_skip _ rfl rfl rfl (fun c h => by cases h) rfl (store3 (.tmp 52) rfl rfl rfl c3 f3b) ?_ AllReadyIn.nil)
                  refine wpAnyIn_done (by kernel_rfl) ?_ _
                  exact FIN.out _
                · simp only [Act.put, List.setIfInBounds_toArray, List.set_cons_zero, List.set_cons_succ]
                  refine wpAnyIn_ready (rs := [2, 7]) (by kernel_rfl) (by simp) ?_
                  refine (openIn_value (some 46) (.pointer (some ⟨g, 0, none⟩)) rfl rfl rfl (fun c h => by cases h) rfl (load25 (.tmp 2) rfl rfl E1.out) ?_ (openIn_value (some 50) (.pointer (some ⟨g, 2, none⟩)) rfl rfl rfl (fun c h => by cases h) rfl (by kernel_rfl) ?_ AllReadyIn.nil))
                  · simp only [Act.put, List.setIfInBounds_toArray, List.set_cons_zero, List.set_cons_succ]
                    refine wpAnyIn_ready (rs := [7]) (by kernel_rfl) (by simp) ?_
                    refine (openIn_value (some 50) (.pointer (some ⟨g, 2, none⟩)) rfl rfl rfl (fun c h => by cases h) rfl (by kernel_rfl) ?_ AllReadyIn.nil)
                    simp only [Act.put, List.setIfInBounds_toArray, List.set_cons_zero, List.set_cons_succ]
                    refine wpAnyIn_ready (rs := [8]) (by kernel_rfl) (by simp) ?_
                    refine (openIn_skip _ rfl rfl rfl (fun c h => by cases h) rfl (store4 (.tmp 50) rfl rfl rfl c2 f2) ?_ AllReadyIn.nil)
                    refine wpAnyIn_ready (rs := [9]) (by kernel_rfl) (by simp) ?_
                    refine (openIn_value (some 51) (.pointer (some ⟨g, 0, none⟩)) rfl rfl rfl (fun c h => by cases h) rfl (by kernel_rfl) ?_ AllReadyIn.nil)
                    simp only [Act.put, List.setIfInBounds_toArray, List.set_cons_zero, List.set_cons_succ]
                    refine wpAnyIn_ready (rs := [10]) (by kernel_rfl) (by simp) ?_
                    refine (openIn_value (some 52) (.pointer (some ⟨g, 3, none⟩)) rfl rfl rfl (fun c h => by cases h) rfl (by kernel_rfl) ?_ AllReadyIn.nil)
                    simp only [Act.put, List.setIfInBounds_toArray, List.set_cons_zero, List.set_cons_succ]
                    refine wpAnyIn_ready (rs := [11]) (by kernel_rfl) (by simp) ?_
                    refine (openIn_skip _ rfl rfl rfl (fun c h => by cases h) rfl (store3 (.tmp 52) rfl rfl rfl c3 f3b) ?_ AllReadyIn.nil)
                    refine wpAnyIn_done (by kernel_rfl) ?_ _
                    exact FIN.out _
                  · simp only [Act.put, List.setIfInBounds_toArray, List.set_cons_zero, List.set_cons_succ]
                    refine wpAnyIn_ready (rs := [2, 8]) (by kernel_rfl) (by simp) ?_
                    refine (openIn_value (some 46) (.pointer (some ⟨g, 0, none⟩)) rfl rfl rfl (fun c h => by cases h) rfl (load25 (.tmp 2) rfl rfl E1.out) ?_ (openIn_skip _ rfl rfl rfl (fun c h => by cases h) rfl (store4 (.tmp 50) rfl rfl rfl c2 f2) ?_ AllReadyIn.nil))
                    · simp only [Act.put, List.setIfInBounds_toArray, List.set_cons_zero, List.set_cons_succ]
                      refine wpAnyIn_ready (rs := [8]) (by kernel_rfl) (by simp) ?_
                      refine (openIn_skip _ rfl rfl rfl (fun c h => by cases h) rfl (store4 (.tmp 50) rfl rfl rfl c2 f2) ?_ AllReadyIn.nil)
                      refine wpAnyIn_ready (rs := [9]) (by kernel_rfl) (by simp) ?_
                      refine (openIn_value (some 51) (.pointer (some ⟨g, 0, none⟩)) rfl rfl rfl (fun c h => by cases h) rfl (by kernel_rfl) ?_ AllReadyIn.nil)
                      simp only [Act.put, List.setIfInBounds_toArray, List.set_cons_zero, List.set_cons_succ]
                      refine wpAnyIn_ready (rs := [10]) (by kernel_rfl) (by simp) ?_
                      refine (openIn_value (some 52) (.pointer (some ⟨g, 3, none⟩)) rfl rfl rfl (fun c h => by cases h) rfl (by kernel_rfl) ?_ AllReadyIn.nil)
                      simp only [Act.put, List.setIfInBounds_toArray, List.set_cons_zero, List.set_cons_succ]
                      refine wpAnyIn_ready (rs := [11]) (by kernel_rfl) (by simp) ?_
                      refine (openIn_skip _ rfl rfl rfl (fun c h => by cases h) rfl (store3 (.tmp 52) rfl rfl rfl c3 f3b) ?_ AllReadyIn.nil)
                      refine wpAnyIn_done (by kernel_rfl) ?_ _
                      exact FIN.out _
                    · refine wpAnyIn_ready (rs := [2]) (by kernel_rfl) (by simp) ?_
                      refine (openIn_value (some 46) (.pointer (some ⟨g, 0, none⟩)) rfl rfl rfl (fun c h => by cases h) rfl (load25 (.tmp 2) rfl rfl E2.out) ?_ AllReadyIn.nil)
                      simp only [Act.put, List.setIfInBounds_toArray, List.set_cons_zero, List.set_cons_succ]
                      refine wpAnyIn_ready (rs := [9]) (by kernel_rfl) (by simp) ?_
                      refine (openIn_value (some 51) (.pointer (some ⟨g, 0, none⟩)) rfl rfl rfl (fun c h => by cases h) rfl (by kernel_rfl) ?_ AllReadyIn.nil)
                      simp only [Act.put, List.setIfInBounds_toArray, List.set_cons_zero, List.set_cons_succ]
                      refine wpAnyIn_ready (rs := [10]) (by kernel_rfl) (by simp) ?_
                      refine (openIn_value (some 52) (.pointer (some ⟨g, 3, none⟩)) rfl rfl rfl (fun c h => by cases h) rfl (by kernel_rfl) ?_ AllReadyIn.nil)
                      simp only [Act.put, List.setIfInBounds_toArray, List.set_cons_zero, List.set_cons_succ]
                      refine wpAnyIn_ready (rs := [11]) (by kernel_rfl) (by simp) ?_
                      refine (openIn_skip _ rfl rfl rfl (fun c h => by cases h) rfl (store3 (.tmp 52) rfl rfl rfl c3 f3b) ?_ AllReadyIn.nil)
                      refine wpAnyIn_done (by kernel_rfl) ?_ _
                      exact FIN.out _
              · simp only [Act.put, List.setIfInBounds_toArray, List.set_cons_zero, List.set_cons_succ]
                refine wpAnyIn_ready (rs := [1]) (by kernel_rfl) (by simp) ?_
                refine (openIn_value (some 45) (.pointer (some ⟨g, 0, none⟩)) rfl rfl rfl (fun c h => by cases h) rfl (load25 (.tmp 2) rfl rfl E1.out) ?_ AllReadyIn.nil)
                simp only [Act.put, List.setIfInBounds_toArray, List.set_cons_zero, List.set_cons_succ]
                refine wpAnyIn_ready (rs := [6]) (by kernel_rfl) (by simp) ?_
                refine (openIn_value (some 49) (.pointer (some ⟨g, 0, none⟩)) rfl rfl rfl (fun c h => by cases h) rfl (by kernel_rfl) ?_ AllReadyIn.nil)
                simp only [Act.put, List.setIfInBounds_toArray, List.set_cons_zero, List.set_cons_succ]
                refine wpAnyIn_ready (rs := [7]) (by kernel_rfl) (by simp) ?_
                refine (openIn_value (some 50) (.pointer (some ⟨g, 2, none⟩)) rfl rfl rfl (fun c h => by cases h) rfl (by kernel_rfl) ?_ AllReadyIn.nil)
                simp only [Act.put, List.setIfInBounds_toArray, List.set_cons_zero, List.set_cons_succ]
                refine wpAnyIn_ready (rs := [8]) (by kernel_rfl) (by simp) ?_
                refine (openIn_skip _ rfl rfl rfl (fun c h => by cases h) rfl (store4 (.tmp 50) rfl rfl rfl c2 f2) ?_ AllReadyIn.nil)
                refine wpAnyIn_ready (rs := [9]) (by kernel_rfl) (by simp) ?_
                refine (openIn_value (some 51) (.pointer (some ⟨g, 0, none⟩)) rfl rfl rfl (fun c h => by cases h) rfl (by kernel_rfl) ?_ AllReadyIn.nil)
                simp only [Act.put, List.setIfInBounds_toArray, List.set_cons_zero, List.set_cons_succ]
                refine wpAnyIn_ready (rs := [10]) (by kernel_rfl) (by simp) ?_
                refine (openIn_value (some 52) (.pointer (some ⟨g, 3, none⟩)) rfl rfl rfl (fun c h => by cases h) rfl (by kernel_rfl) ?_ AllReadyIn.nil)
                simp only [Act.put, List.setIfInBounds_toArray, List.set_cons_zero, List.set_cons_succ]
                refine wpAnyIn_ready (rs := [11]) (by kernel_rfl) (by simp) ?_
                refine (openIn_skip _ rfl rfl rfl (fun c h => by cases h) rfl (store3 (.tmp 52) rfl rfl rfl c3 f3b) ?_ AllReadyIn.nil)
                refine wpAnyIn_done (by kernel_rfl) ?_ _
                exact FIN.out _
      · simp only [Act.put, List.setIfInBounds_toArray, List.set_cons_zero, List.set_cons_succ]
        refine wpAnyIn_ready (rs := [0, 2]) (by kernel_rfl) (by simp) ?_
        refine (openIn_value (some 44) (.pointer (some ⟨g, 0, none⟩)) rfl rfl rfl (fun c h => by cases h) rfl (load25 (.tmp 2) rfl rfl E0.out) ?_ (openIn_value (some 46) (.pointer (some ⟨g, 0, none⟩)) rfl rfl rfl (fun c h => by cases h) rfl (load25 (.tmp 2) rfl rfl E0.out) ?_ AllReadyIn.nil))
        · simp only [Act.put, List.setIfInBounds_toArray, List.set_cons_zero, List.set_cons_succ]
          refine wpAnyIn_ready (rs := [2, 3]) (by kernel_rfl) (by simp) ?_
          refine (openIn_value (some 46) (.pointer (some ⟨g, 0, none⟩)) rfl rfl rfl (fun c h => by cases h) rfl (load25 (.tmp 2) rfl rfl E0.out) ?_ (openIn_value (some 47) (.pointer (some ⟨g, 0, none⟩)) rfl rfl rfl (fun c h => by cases h) rfl (by kernel_rfl) ?_ AllReadyIn.nil))
          · simp only [Act.put, List.setIfInBounds_toArray, List.set_cons_zero, List.set_cons_succ]
            refine wpAnyIn_ready (rs := [3]) (by kernel_rfl) (by simp) ?_
            refine (openIn_value (some 47) (.pointer (some ⟨g, 0, none⟩)) rfl rfl rfl (fun c h => by cases h) rfl (by kernel_rfl) ?_ AllReadyIn.nil)
            simp only [Act.put, List.setIfInBounds_toArray, List.set_cons_zero, List.set_cons_succ]
            refine wpAnyIn_ready (rs := [4]) (by kernel_rfl) (by simp) ?_
            refine (openIn_value (some 48) (.pointer (some ⟨g, 1, none⟩)) rfl rfl rfl (fun c h => by cases h) rfl (by kernel_rfl) ?_ AllReadyIn.nil)
            simp only [Act.put, List.setIfInBounds_toArray, List.set_cons_zero, List.set_cons_succ]
            refine wpAnyIn_ready (rs := [5]) (by kernel_rfl) (by simp) ?_
            refine (openIn_skip _ rfl rfl rfl (fun c h => by cases h) rfl (store63 (.tmp 48) rfl rfl rfl c1 f1) ?_ AllReadyIn.nil)
            refine wpAnyIn_ready (rs := [6]) (by kernel_rfl) (by simp) ?_
            refine (openIn_value (some 49) (.pointer (some ⟨g, 0, none⟩)) rfl rfl rfl (fun c h => by cases h) rfl (by kernel_rfl) ?_ AllReadyIn.nil)
            simp only [Act.put, List.setIfInBounds_toArray, List.set_cons_zero, List.set_cons_succ]
            refine wpAnyIn_ready (rs := [7]) (by kernel_rfl) (by simp) ?_
            refine (openIn_value (some 50) (.pointer (some ⟨g, 2, none⟩)) rfl rfl rfl (fun c h => by cases h) rfl (by kernel_rfl) ?_ AllReadyIn.nil)
            simp only [Act.put, List.setIfInBounds_toArray, List.set_cons_zero, List.set_cons_succ]
            refine wpAnyIn_ready (rs := [8]) (by kernel_rfl) (by simp) ?_
            refine (openIn_skip _ rfl rfl rfl (fun c h => by cases h) rfl (store4 (.tmp 50) rfl rfl rfl c2 f2) ?_ AllReadyIn.nil)
            refine wpAnyIn_ready (rs := [9]) (by kernel_rfl) (by simp) ?_
            refine (openIn_value (some 51) (.pointer (some ⟨g, 0, none⟩)) rfl rfl rfl (fun c h => by cases h) rfl (by kernel_rfl) ?_ AllReadyIn.nil)
            simp only [Act.put, List.setIfInBounds_toArray, List.set_cons_zero, List.set_cons_succ]
            refine wpAnyIn_ready (rs := [10]) (by kernel_rfl) (by simp) ?_
            refine (openIn_value (some 52) (.pointer (some ⟨g, 3, none⟩)) rfl rfl rfl (fun c h => by cases h) rfl (by kernel_rfl) ?_ AllReadyIn.nil)
            simp only [Act.put, List.setIfInBounds_toArray, List.set_cons_zero, List.set_cons_succ]
            refine wpAnyIn_ready (rs := [11]) (by kernel_rfl) (by simp) ?_
            refine (openIn_skip _ rfl rfl rfl (fun c h => by cases h) rfl (store3 (.tmp 52) rfl rfl rfl c3 f3b) ?_ AllReadyIn.nil)
            refine wpAnyIn_done (by kernel_rfl) ?_ _
            exact FIN.out _
          · simp only [Act.put, List.setIfInBounds_toArray, List.set_cons_zero, List.set_cons_succ]
            refine wpAnyIn_ready (rs := [2, 4]) (by kernel_rfl) (by simp) ?_
            refine (openIn_value (some 46) (.pointer (some ⟨g, 0, none⟩)) rfl rfl rfl (fun c h => by cases h) rfl (load25 (.tmp 2) rfl rfl E0.out) ?_ (openIn_value (some 48) (.pointer (some ⟨g, 1, none⟩)) rfl rfl rfl (fun c h => by cases h) rfl (by kernel_rfl) ?_ AllReadyIn.nil))
            · simp only [Act.put, List.setIfInBounds_toArray, List.set_cons_zero, List.set_cons_succ]
              refine wpAnyIn_ready (rs := [4]) (by kernel_rfl) (by simp) ?_
              refine (openIn_value (some 48) (.pointer (some ⟨g, 1, none⟩)) rfl rfl rfl (fun c h => by cases h) rfl (by kernel_rfl) ?_ AllReadyIn.nil)
              simp only [Act.put, List.setIfInBounds_toArray, List.set_cons_zero, List.set_cons_succ]
              refine wpAnyIn_ready (rs := [5]) (by kernel_rfl) (by simp) ?_
              refine (openIn_skip _ rfl rfl rfl (fun c h => by cases h) rfl (store63 (.tmp 48) rfl rfl rfl c1 f1) ?_ AllReadyIn.nil)
              refine wpAnyIn_ready (rs := [6]) (by kernel_rfl) (by simp) ?_
              refine (openIn_value (some 49) (.pointer (some ⟨g, 0, none⟩)) rfl rfl rfl (fun c h => by cases h) rfl (by kernel_rfl) ?_ AllReadyIn.nil)
              simp only [Act.put, List.setIfInBounds_toArray, List.set_cons_zero, List.set_cons_succ]
              refine wpAnyIn_ready (rs := [7]) (by kernel_rfl) (by simp) ?_
              refine (openIn_value (some 50) (.pointer (some ⟨g, 2, none⟩)) rfl rfl rfl (fun c h => by cases h) rfl (by kernel_rfl) ?_ AllReadyIn.nil)
              simp only [Act.put, List.setIfInBounds_toArray, List.set_cons_zero, List.set_cons_succ]
              refine wpAnyIn_ready (rs := [8]) (by kernel_rfl) (by simp) ?_
              refine (openIn_skip _ rfl rfl rfl (fun c h => by cases h) rfl (store4 (.tmp 50) rfl rfl rfl c2 f2) ?_ AllReadyIn.nil)
              refine wpAnyIn_ready (rs := [9]) (by kernel_rfl) (by simp) ?_
              refine (openIn_value (some 51) (.pointer (some ⟨g, 0, none⟩)) rfl rfl rfl (fun c h => by cases h) rfl (by kernel_rfl) ?_ AllReadyIn.nil)
              simp only [Act.put, List.setIfInBounds_toArray, List.set_cons_zero, List.set_cons_succ]
              refine wpAnyIn_ready (rs := [10]) (by kernel_rfl) (by simp) ?_
              refine (openIn_value (some 52) (.pointer (some ⟨g, 3, none⟩)) rfl rfl rfl (fun c h => by cases h) rfl (by kernel_rfl) ?_ AllReadyIn.nil)
              simp only [Act.put, List.setIfInBounds_toArray, List.set_cons_zero, List.set_cons_succ]
              refine wpAnyIn_ready (rs := [11]) (by kernel_rfl) (by simp) ?_
              refine (openIn_skip _ rfl rfl rfl (fun c h => by cases h) rfl (store3 (.tmp 52) rfl rfl rfl c3 f3b) ?_ AllReadyIn.nil)
              refine wpAnyIn_done (by kernel_rfl) ?_ _
              exact FIN.out _
            · simp only [Act.put, List.setIfInBounds_toArray, List.set_cons_zero, List.set_cons_succ]
              refine wpAnyIn_ready (rs := [2, 5]) (by kernel_rfl) (by simp) ?_
              refine (openIn_value (some 46) (.pointer (some ⟨g, 0, none⟩)) rfl rfl rfl (fun c h => by cases h) rfl (load25 (.tmp 2) rfl rfl E0.out) ?_ (openIn_skip _ rfl rfl rfl (fun c h => by cases h) rfl (store63 (.tmp 48) rfl rfl rfl c1 f1) ?_ AllReadyIn.nil))
              · simp only [Act.put, List.setIfInBounds_toArray, List.set_cons_zero, List.set_cons_succ]
                refine wpAnyIn_ready (rs := [5]) (by kernel_rfl) (by simp) ?_
                refine (openIn_skip _ rfl rfl rfl (fun c h => by cases h) rfl (store63 (.tmp 48) rfl rfl rfl c1 f1) ?_ AllReadyIn.nil)
                refine wpAnyIn_ready (rs := [6]) (by kernel_rfl) (by simp) ?_
                refine (openIn_value (some 49) (.pointer (some ⟨g, 0, none⟩)) rfl rfl rfl (fun c h => by cases h) rfl (by kernel_rfl) ?_ AllReadyIn.nil)
                simp only [Act.put, List.setIfInBounds_toArray, List.set_cons_zero, List.set_cons_succ]
                refine wpAnyIn_ready (rs := [7]) (by kernel_rfl) (by simp) ?_
                refine (openIn_value (some 50) (.pointer (some ⟨g, 2, none⟩)) rfl rfl rfl (fun c h => by cases h) rfl (by kernel_rfl) ?_ AllReadyIn.nil)
                simp only [Act.put, List.setIfInBounds_toArray, List.set_cons_zero, List.set_cons_succ]
                refine wpAnyIn_ready (rs := [8]) (by kernel_rfl) (by simp) ?_
                refine (openIn_skip _ rfl rfl rfl (fun c h => by cases h) rfl (store4 (.tmp 50) rfl rfl rfl c2 f2) ?_ AllReadyIn.nil)
                refine wpAnyIn_ready (rs := [9]) (by kernel_rfl) (by simp) ?_
                refine (openIn_value (some 51) (.pointer (some ⟨g, 0, none⟩)) rfl rfl rfl (fun c h => by cases h) rfl (by kernel_rfl) ?_ AllReadyIn.nil)
                simp only [Act.put, List.setIfInBounds_toArray, List.set_cons_zero, List.set_cons_succ]
                refine wpAnyIn_ready (rs := [10]) (by kernel_rfl) (by simp) ?_
                refine (openIn_value (some 52) (.pointer (some ⟨g, 3, none⟩)) rfl rfl rfl (fun c h => by cases h) rfl (by kernel_rfl) ?_ AllReadyIn.nil)
                simp only [Act.put, List.setIfInBounds_toArray, List.set_cons_zero, List.set_cons_succ]
                refine wpAnyIn_ready (rs := [11]) (by kernel_rfl) (by simp) ?_
                refine (openIn_skip _ rfl rfl rfl (fun c h => by cases h) rfl (store3 (.tmp 52) rfl rfl rfl c3 f3b) ?_ AllReadyIn.nil)
                refine wpAnyIn_done (by kernel_rfl) ?_ _
                exact FIN.out _
              · refine wpAnyIn_ready (rs := [2, 6]) (by kernel_rfl) (by simp) ?_
                refine (openIn_value (some 46) (.pointer (some ⟨g, 0, none⟩)) rfl rfl rfl (fun c h => by cases h) rfl (load25 (.tmp 2) rfl rfl E1.out) ?_ (openIn_value (some 49) (.pointer (some ⟨g, 0, none⟩)) rfl rfl rfl (fun c h => by cases h) rfl (by kernel_rfl) ?_ AllReadyIn.nil))
                · simp only [Act.put, List.setIfInBounds_toArray, List.set_cons_zero, List.set_cons_succ]
                  refine wpAnyIn_ready (rs := [6]) (by kernel_rfl) (by simp) ?_
                  refine (openIn_value (some 49) (.pointer (some ⟨g, 0, none⟩)) rfl rfl rfl (fun c h => by cases h) rfl (by kernel_rfl) ?_ AllReadyIn.nil)
                  simp only [Act.put, List.setIfInBounds_toArray, List.set_cons_zero, List.set_cons_succ]
                  refine wpAnyIn_ready (rs := [7]) (by kernel_rfl) (by simp) ?_
                  refine (openIn_value (some 50) (.pointer (some ⟨g, 2, none⟩)) rfl rfl rfl (fun c h => by cases h) rfl (by kernel_rfl) ?_ AllReadyIn.nil)
                  simp only [Act.put, List.setIfInBounds_toArray, List.set_cons_zero, List.set_cons_succ]
                  refine wpAnyIn_ready (rs := [8]) (by kernel_rfl) (by simp) ?_
                  refine (openIn_skip _ rfl rfl rfl (fun c h => by cases h) rfl (store4 (.tmp 50) rfl rfl rfl c2 f2) ?_ AllReadyIn.nil)
                  refine wpAnyIn_ready (rs := [9]) (by kernel_rfl) (by simp) ?_
                  refine (openIn_value (some 51) (.pointer (some ⟨g, 0, none⟩)) rfl rfl rfl (fun c h => by cases h) rfl (by kernel_rfl) ?_ AllReadyIn.nil)
                  simp only [Act.put, List.setIfInBounds_toArray, List.set_cons_zero, List.set_cons_succ]
                  refine wpAnyIn_ready (rs := [10]) (by kernel_rfl) (by simp) ?_
                  refine (openIn_value (some 52) (.pointer (some ⟨g, 3, none⟩)) rfl rfl rfl (fun c h => by cases h) rfl (by kernel_rfl) ?_ AllReadyIn.nil)
                  simp only [Act.put, List.setIfInBounds_toArray, List.set_cons_zero, List.set_cons_succ]
                  refine wpAnyIn_ready (rs := [11]) (by kernel_rfl) (by simp) ?_
                  refine (openIn_skip _ rfl rfl rfl (fun c h => by cases h) rfl (store3 (.tmp 52) rfl rfl rfl c3 f3b) ?_ AllReadyIn.nil)
                  refine wpAnyIn_done (by kernel_rfl) ?_ _
                  exact FIN.out _
                · simp only [Act.put, List.setIfInBounds_toArray, List.set_cons_zero, List.set_cons_succ]
                  refine wpAnyIn_ready (rs := [2, 7]) (by kernel_rfl) (by simp) ?_
                  refine (openIn_value (some 46) (.pointer (some ⟨g, 0, none⟩)) rfl rfl rfl (fun c h => by cases h) rfl (load25 (.tmp 2) rfl rfl E1.out) ?_ (openIn_value (some 50) (.pointer (some ⟨g, 2, none⟩)) rfl rfl rfl (fun c h => by cases h) rfl (by kernel_rfl) ?_ AllReadyIn.nil))
                  · simp only [Act.put, List.setIfInBounds_toArray, List.set_cons_zero, List.set_cons_succ]
                    refine wpAnyIn_ready (rs := [7]) (by kernel_rfl) (by simp) ?_
                    refine (openIn_value (some 50) (.pointer (some ⟨g, 2, none⟩)) rfl rfl rfl (fun c h => by cases h) rfl (by kernel_rfl) ?_ AllReadyIn.nil)
                    simp only [Act.put, List.setIfInBounds_toArray, List.set_cons_zero, List.set_cons_succ]
                    refine wpAnyIn_ready (rs := [8]) (by kernel_rfl) (by simp) ?_
                    refine (openIn_skip _ rfl rfl rfl (fun c h => by cases h) rfl (store4 (.tmp 50) rfl rfl rfl c2 f2) ?_ AllReadyIn.nil)
                    refine wpAnyIn_ready (rs := [9]) (by kernel_rfl) (by simp) ?_
                    refine (openIn_value (some 51) (.pointer (some ⟨g, 0, none⟩)) rfl rfl rfl (fun c h => by cases h) rfl (by kernel_rfl) ?_ AllReadyIn.nil)
                    simp only [Act.put, List.setIfInBounds_toArray, List.set_cons_zero, List.set_cons_succ]
                    refine wpAnyIn_ready (rs := [10]) (by kernel_rfl) (by simp) ?_
                    refine (openIn_value (some 52) (.pointer (some ⟨g, 3, none⟩)) rfl rfl rfl (fun c h => by cases h) rfl (by kernel_rfl) ?_ AllReadyIn.nil)
                    simp only [Act.put, List.setIfInBounds_toArray, List.set_cons_zero, List.set_cons_succ]
                    refine wpAnyIn_ready (rs := [11]) (by kernel_rfl) (by simp) ?_
                    refine (openIn_skip _ rfl rfl rfl (fun c h => by cases h) rfl (store3 (.tmp 52) rfl rfl rfl c3 f3b) ?_ AllReadyIn.nil)
                    refine wpAnyIn_done (by kernel_rfl) ?_ _
                    exact FIN.out _
                  · simp only [Act.put, List.setIfInBounds_toArray, List.set_cons_zero, List.set_cons_succ]
                    refine wpAnyIn_ready (rs := [2, 8]) (by kernel_rfl) (by simp) ?_
                    refine (openIn_value (some 46) (.pointer (some ⟨g, 0, none⟩)) rfl rfl rfl (fun c h => by cases h) rfl (load25 (.tmp 2) rfl rfl E1.out) ?_ (openIn_skip _ rfl rfl rfl (fun c h => by cases h) rfl (store4 (.tmp 50) rfl rfl rfl c2 f2) ?_ AllReadyIn.nil))
                    · simp only [Act.put, List.setIfInBounds_toArray, List.set_cons_zero, List.set_cons_succ]
                      refine wpAnyIn_ready (rs := [8]) (by kernel_rfl) (by simp) ?_
                      refine (openIn_skip _ rfl rfl rfl (fun c h => by cases h) rfl (store4 (.tmp 50) rfl rfl rfl c2 f2) ?_ AllReadyIn.nil)
                      refine wpAnyIn_ready (rs := [9]) (by kernel_rfl) (by simp) ?_
                      refine (openIn_value (some 51) (.pointer (some ⟨g, 0, none⟩)) rfl rfl rfl (fun c h => by cases h) rfl (by kernel_rfl) ?_ AllReadyIn.nil)
                      simp only [Act.put, List.setIfInBounds_toArray, List.set_cons_zero, List.set_cons_succ]
                      refine wpAnyIn_ready (rs := [10]) (by kernel_rfl) (by simp) ?_
                      refine (openIn_value (some 52) (.pointer (some ⟨g, 3, none⟩)) rfl rfl rfl (fun c h => by cases h) rfl (by kernel_rfl) ?_ AllReadyIn.nil)
                      simp only [Act.put, List.setIfInBounds_toArray, List.set_cons_zero, List.set_cons_succ]
                      refine wpAnyIn_ready (rs := [11]) (by kernel_rfl) (by simp) ?_
                      refine (openIn_skip _ rfl rfl rfl (fun c h => by cases h) rfl (store3 (.tmp 52) rfl rfl rfl c3 f3b) ?_ AllReadyIn.nil)
                      refine wpAnyIn_done (by kernel_rfl) ?_ _
                      exact FIN.out _
                    · refine wpAnyIn_ready (rs := [2]) (by kernel_rfl) (by simp) ?_
                      refine (openIn_value (some 46) (.pointer (some ⟨g, 0, none⟩)) rfl rfl rfl (fun c h => by cases h) rfl (load25 (.tmp 2) rfl rfl E2.out) ?_ AllReadyIn.nil)
                      simp only [Act.put, List.setIfInBounds_toArray, List.set_cons_zero, List.set_cons_succ]
                      refine wpAnyIn_ready (rs := [9]) (by kernel_rfl) (by simp) ?_
                      refine (openIn_value (some 51) (.pointer (some ⟨g, 0, none⟩)) rfl rfl rfl (fun c h => by cases h) rfl (by kernel_rfl) ?_ AllReadyIn.nil)
                      simp only [Act.put, List.setIfInBounds_toArray, List.set_cons_zero, List.set_cons_succ]
                      refine wpAnyIn_ready (rs := [10]) (by kernel_rfl) (by simp) ?_
                      refine (openIn_value (some 52) (.pointer (some ⟨g, 3, none⟩)) rfl rfl rfl (fun c h => by cases h) rfl (by kernel_rfl) ?_ AllReadyIn.nil)
                      simp only [Act.put, List.setIfInBounds_toArray, List.set_cons_zero, List.set_cons_succ]
                      refine wpAnyIn_ready (rs := [11]) (by kernel_rfl) (by simp) ?_
                      refine (openIn_skip _ rfl rfl rfl (fun c h => by cases h) rfl (store3 (.tmp 52) rfl rfl rfl c3 f3b) ?_ AllReadyIn.nil)
                      refine wpAnyIn_done (by kernel_rfl) ?_ _
                      exact FIN.out _
        · simp only [Act.put, List.setIfInBounds_toArray, List.set_cons_zero, List.set_cons_succ]
          refine wpAnyIn_ready (rs := [0]) (by kernel_rfl) (by simp) ?_
          refine (openIn_value (some 44) (.pointer (some ⟨g, 0, none⟩)) rfl rfl rfl (fun c h => by cases h) rfl (load25 (.tmp 2) rfl rfl E0.out) ?_ AllReadyIn.nil)
          simp only [Act.put, List.setIfInBounds_toArray, List.set_cons_zero, List.set_cons_succ]
          refine wpAnyIn_ready (rs := [3]) (by kernel_rfl) (by simp) ?_
          refine (openIn_value (some 47) (.pointer (some ⟨g, 0, none⟩)) rfl rfl rfl (fun c h => by cases h) rfl (by kernel_rfl) ?_ AllReadyIn.nil)
          simp only [Act.put, List.setIfInBounds_toArray, List.set_cons_zero, List.set_cons_succ]
          refine wpAnyIn_ready (rs := [4]) (by kernel_rfl) (by simp) ?_
          refine (openIn_value (some 48) (.pointer (some ⟨g, 1, none⟩)) rfl rfl rfl (fun c h => by cases h) rfl (by kernel_rfl) ?_ AllReadyIn.nil)
          simp only [Act.put, List.setIfInBounds_toArray, List.set_cons_zero, List.set_cons_succ]
          refine wpAnyIn_ready (rs := [5]) (by kernel_rfl) (by simp) ?_
          refine (openIn_skip _ rfl rfl rfl (fun c h => by cases h) rfl (store63 (.tmp 48) rfl rfl rfl c1 f1) ?_ AllReadyIn.nil)
          refine wpAnyIn_ready (rs := [6]) (by kernel_rfl) (by simp) ?_
          refine (openIn_value (some 49) (.pointer (some ⟨g, 0, none⟩)) rfl rfl rfl (fun c h => by cases h) rfl (by kernel_rfl) ?_ AllReadyIn.nil)
          simp only [Act.put, List.setIfInBounds_toArray, List.set_cons_zero, List.set_cons_succ]
          refine wpAnyIn_ready (rs := [7]) (by kernel_rfl) (by simp) ?_
          refine (openIn_value (some 50) (.pointer (some ⟨g, 2, none⟩)) rfl rfl rfl (fun c h => by cases h) rfl (by kernel_rfl) ?_ AllReadyIn.nil)
          simp only [Act.put, List.setIfInBounds_toArray, List.set_cons_zero, List.set_cons_succ]
          refine wpAnyIn_ready (rs := [8]) (by kernel_rfl) (by simp) ?_
          refine (openIn_skip _ rfl rfl rfl (fun c h => by cases h) rfl (store4 (.tmp 50) rfl rfl rfl c2 f2) ?_ AllReadyIn.nil)
          refine wpAnyIn_ready (rs := [9]) (by kernel_rfl) (by simp) ?_
          refine (openIn_value (some 51) (.pointer (some ⟨g, 0, none⟩)) rfl rfl rfl (fun c h => by cases h) rfl (by kernel_rfl) ?_ AllReadyIn.nil)
          simp only [Act.put, List.setIfInBounds_toArray, List.set_cons_zero, List.set_cons_succ]
          refine wpAnyIn_ready (rs := [10]) (by kernel_rfl) (by simp) ?_
          refine (openIn_value (some 52) (.pointer (some ⟨g, 3, none⟩)) rfl rfl rfl (fun c h => by cases h) rfl (by kernel_rfl) ?_ AllReadyIn.nil)
          simp only [Act.put, List.setIfInBounds_toArray, List.set_cons_zero, List.set_cons_succ]
          refine wpAnyIn_ready (rs := [11]) (by kernel_rfl) (by simp) ?_
          refine (openIn_skip _ rfl rfl rfl (fun c h => by cases h) rfl (store3 (.tmp 52) rfl rfl rfl c3 f3b) ?_ AllReadyIn.nil)
          refine wpAnyIn_done (by kernel_rfl) ?_ _
          exact FIN.out _
      · simp only [Act.put, List.setIfInBounds_toArray, List.set_cons_zero, List.set_cons_succ]
        refine wpAnyIn_ready (rs := [0, 1]) (by kernel_rfl) (by simp) ?_
        refine (openIn_value (some 44) (.pointer (some ⟨g, 0, none⟩)) rfl rfl rfl (fun c h => by cases h) rfl (load25 (.tmp 2) rfl rfl E0.out) ?_ (openIn_value (some 45) (.pointer (some ⟨g, 0, none⟩)) rfl rfl rfl (fun c h => by cases h) rfl (load25 (.tmp 2) rfl rfl E0.out) ?_ AllReadyIn.nil))
        · simp only [Act.put, List.setIfInBounds_toArray, List.set_cons_zero, List.set_cons_succ]
          refine wpAnyIn_ready (rs := [1, 3]) (by kernel_rfl) (by simp) ?_
          refine (openIn_value (some 45) (.pointer (some ⟨g, 0, none⟩)) rfl rfl rfl (fun c h => by cases h) rfl (load25 (.tmp 2) rfl rfl E0.out) ?_ (openIn_value (some 47) (.pointer (some ⟨g, 0, none⟩)) rfl rfl rfl (fun c h => by cases h) rfl (by kernel_rfl) ?_ AllReadyIn.nil))
          · simp only [Act.put, List.setIfInBounds_toArray, List.set_cons_zero, List.set_cons_succ]
            refine wpAnyIn_ready (rs := [3]) (by kernel_rfl) (by simp) ?_
            refine (openIn_value (some 47) (.pointer (some ⟨g, 0, none⟩)) rfl rfl rfl (fun c h => by cases h) rfl (by kernel_rfl) ?_ AllReadyIn.nil)
            simp only [Act.put, List.setIfInBounds_toArray, List.set_cons_zero, List.set_cons_succ]
            refine wpAnyIn_ready (rs := [4]) (by kernel_rfl) (by simp) ?_
            refine (openIn_value (some 48) (.pointer (some ⟨g, 1, none⟩)) rfl rfl rfl (fun c h => by cases h) rfl (by kernel_rfl) ?_ AllReadyIn.nil)
            simp only [Act.put, List.setIfInBounds_toArray, List.set_cons_zero, List.set_cons_succ]
            refine wpAnyIn_ready (rs := [5]) (by kernel_rfl) (by simp) ?_
            refine (openIn_skip _ rfl rfl rfl (fun c h => by cases h) rfl (store63 (.tmp 48) rfl rfl rfl c1 f1) ?_ AllReadyIn.nil)
            refine wpAnyIn_ready (rs := [6]) (by kernel_rfl) (by simp) ?_
            refine (openIn_value (some 49) (.pointer (some ⟨g, 0, none⟩)) rfl rfl rfl (fun c h => by cases h) rfl (by kernel_rfl) ?_ AllReadyIn.nil)
            simp only [Act.put, List.setIfInBounds_toArray, List.set_cons_zero, List.set_cons_succ]
            refine wpAnyIn_ready (rs := [7]) (by kernel_rfl) (by simp) ?_
            refine (openIn_value (some 50) (.pointer (some ⟨g, 2, none⟩)) rfl rfl rfl (fun c h => by cases h) rfl (by kernel_rfl) ?_ AllReadyIn.nil)
            simp only [Act.put, List.setIfInBounds_toArray, List.set_cons_zero, List.set_cons_succ]
            refine wpAnyIn_ready (rs := [8]) (by kernel_rfl) (by simp) ?_
            refine (openIn_skip _ rfl rfl rfl (fun c h => by cases h) rfl (store4 (.tmp 50) rfl rfl rfl c2 f2) ?_ AllReadyIn.nil)
            refine wpAnyIn_ready (rs := [9]) (by kernel_rfl) (by simp) ?_
            refine (openIn_value (some 51) (.pointer (some ⟨g, 0, none⟩)) rfl rfl rfl (fun c h => by cases h) rfl (by kernel_rfl) ?_ AllReadyIn.nil)
            simp only [Act.put, List.setIfInBounds_toArray, List.set_cons_zero, List.set_cons_succ]
            refine wpAnyIn_ready (rs := [10]) (by kernel_rfl) (by simp) ?_
            refine (openIn_value (some 52) (.pointer (some ⟨g, 3, none⟩)) rfl rfl rfl (fun c h => by cases h) rfl (by kernel_rfl) ?_ AllReadyIn.nil)
            simp only [Act.put, List.setIfInBounds_toArray, List.set_cons_zero, List.set_cons_succ]
            refine wpAnyIn_ready (rs := [11]) (by kernel_rfl) (by simp) ?_
            refine (openIn_skip _ rfl rfl rfl (fun c h => by cases h) rfl (store3 (.tmp 52) rfl rfl rfl c3 f3b) ?_ AllReadyIn.nil)
            refine wpAnyIn_done (by kernel_rfl) ?_ _
            exact FIN.out _
          · simp only [Act.put, List.setIfInBounds_toArray, List.set_cons_zero, List.set_cons_succ]
            refine wpAnyIn_ready (rs := [1, 4]) (by kernel_rfl) (by simp) ?_
            refine (openIn_value (some 45) (.pointer (some ⟨g, 0, none⟩)) rfl rfl rfl (fun c h => by cases h) rfl (load25 (.tmp 2) rfl rfl E0.out) ?_ (openIn_value (some 48) (.pointer (some ⟨g, 1, none⟩)) rfl rfl rfl (fun c h => by cases h) rfl (by kernel_rfl) ?_ AllReadyIn.nil))
            · simp only [Act.put, List.setIfInBounds_toArray, List.set_cons_zero, List.set_cons_succ]
              refine wpAnyIn_ready (rs := [4]) (by kernel_rfl) (by simp) ?_
              refine (openIn_value (some 48) (.pointer (some ⟨g, 1, none⟩)) rfl rfl rfl (fun c h => by cases h) rfl (by kernel_rfl) ?_ AllReadyIn.nil)
              simp only [Act.put, List.setIfInBounds_toArray, List.set_cons_zero, List.set_cons_succ]
              refine wpAnyIn_ready (rs := [5]) (by kernel_rfl) (by simp) ?_
              refine (openIn_skip _ rfl rfl rfl (fun c h => by cases h) rfl (store63 (.tmp 48) rfl rfl rfl c1 f1) ?_ AllReadyIn.nil)
              refine wpAnyIn_ready (rs := [6]) (by kernel_rfl) (by simp) ?_
              refine (openIn_value (some 49) (.pointer (some ⟨g, 0, none⟩)) rfl rfl rfl (fun c h => by cases h) rfl (by kernel_rfl) ?_ AllReadyIn.nil)
              simp only [Act.put, List.setIfInBounds_toArray, List.set_cons_zero, List.set_cons_succ]
              refine wpAnyIn_ready (rs := [7]) (by kernel_rfl) (by simp) ?_
              refine (openIn_value (some 50) (.pointer (some ⟨g, 2, none⟩)) rfl rfl rfl (fun c h => by cases h) rfl (by kernel_rfl) ?_ AllReadyIn.nil)
              simp only [Act.put, List.setIfInBounds_toArray, List.set_cons_zero, List.set_cons_succ]
              refine wpAnyIn_ready (rs := [8]) (by kernel_rfl) (by simp) ?_
              refine (openIn_skip _ rfl rfl rfl (fun c h => by cases h) rfl (store4 (.tmp 50) rfl rfl rfl c2 f2) ?_ AllReadyIn.nil)
              refine wpAnyIn_ready (rs := [9]) (by kernel_rfl) (by simp) ?_
              refine (openIn_value (some 51) (.pointer (some ⟨g, 0, none⟩)) rfl rfl rfl (fun c h => by cases h) rfl (by kernel_rfl) ?_ AllReadyIn.nil)
              simp only [Act.put, List.setIfInBounds_toArray, List.set_cons_zero, List.set_cons_succ]
              refine wpAnyIn_ready (rs := [10]) (by kernel_rfl) (by simp) ?_
              refine (openIn_value (some 52) (.pointer (some ⟨g, 3, none⟩)) rfl rfl rfl (fun c h => by cases h) rfl (by kernel_rfl) ?_ AllReadyIn.nil)
              simp only [Act.put, List.setIfInBounds_toArray, List.set_cons_zero, List.set_cons_succ]
              refine wpAnyIn_ready (rs := [11]) (by kernel_rfl) (by simp) ?_
              refine (openIn_skip _ rfl rfl rfl (fun c h => by cases h) rfl (store3 (.tmp 52) rfl rfl rfl c3 f3b) ?_ AllReadyIn.nil)
              refine wpAnyIn_done (by kernel_rfl) ?_ _
              exact FIN.out _
            · simp only [Act.put, List.setIfInBounds_toArray, List.set_cons_zero, List.set_cons_succ]
              refine wpAnyIn_ready (rs := [1, 5]) (by kernel_rfl) (by simp) ?_
              refine (openIn_value (some 45) (.pointer (some ⟨g, 0, none⟩)) rfl rfl rfl (fun c h => by cases h) rfl (load25 (.tmp 2) rfl rfl E0.out) ?_ (openIn_skip _ rfl rfl rfl (fun c h => by cases h) rfl (store63 (.tmp 48) rfl rfl rfl c1 f1) ?_ AllReadyIn.nil))
              · simp only [Act.put, List.setIfInBounds_toArray, List.set_cons_zero, List.set_cons_succ]
                refine wpAnyIn_ready (rs := [5]) (by kernel_rfl) (by simp) ?_
                refine (openIn_skip _ rfl rfl rfl (fun c h => by cases h) rfl (store63 (.tmp 48) rfl rfl rfl c1 f1) ?_ AllReadyIn.nil)
                refine wpAnyIn_ready (rs := [6]) (by kernel_rfl) (by simp) ?_
                refine (openIn_value (some 49) (.pointer (some ⟨g, 0, none⟩)) rfl rfl rfl (fun c h => by cases h) rfl (by kernel_rfl) ?_ AllReadyIn.nil)
                simp only [Act.put, List.setIfInBounds_toArray, List.set_cons_zero, List.set_cons_succ]
                refine wpAnyIn_ready (rs := [7]) (by kernel_rfl) (by simp) ?_
                refine (openIn_value (some 50) (.pointer (some ⟨g, 2, none⟩)) rfl rfl rfl (fun c h => by cases h) rfl (by kernel_rfl) ?_ AllReadyIn.nil)
                simp only [Act.put, List.setIfInBounds_toArray, List.set_cons_zero, List.set_cons_succ]
                refine wpAnyIn_ready (rs := [8]) (by kernel_rfl) (by simp) ?_
                refine (openIn_skip _ rfl rfl rfl (fun c h => by cases h) rfl (store4 (.tmp 50) rfl rfl rfl c2 f2) ?_ AllReadyIn.nil)
                refine wpAnyIn_ready (rs := [9]) (by kernel_rfl) (by simp) ?_
                refine (openIn_value (some 51) (.pointer (some ⟨g, 0, none⟩)) rfl rfl rfl (fun c h => by cases h) rfl (by kernel_rfl) ?_ AllReadyIn.nil)
                simp only [Act.put, List.setIfInBounds_toArray, List.set_cons_zero, List.set_cons_succ]
                refine wpAnyIn_ready (rs := [10]) (by kernel_rfl) (by simp) ?_
                refine (openIn_value (some 52) (.pointer (some ⟨g, 3, none⟩)) rfl rfl rfl (fun c h => by cases h) rfl (by kernel_rfl) ?_ AllReadyIn.nil)
                simp only [Act.put, List.setIfInBounds_toArray, List.set_cons_zero, List.set_cons_succ]
                refine wpAnyIn_ready (rs := [11]) (by kernel_rfl) (by simp) ?_
                refine (openIn_skip _ rfl rfl rfl (fun c h => by cases h) rfl (store3 (.tmp 52) rfl rfl rfl c3 f3b) ?_ AllReadyIn.nil)
                refine wpAnyIn_done (by kernel_rfl) ?_ _
                exact FIN.out _
              · refine wpAnyIn_ready (rs := [1]) (by kernel_rfl) (by simp) ?_
                refine (openIn_value (some 45) (.pointer (some ⟨g, 0, none⟩)) rfl rfl rfl (fun c h => by cases h) rfl (load25 (.tmp 2) rfl rfl E1.out) ?_ AllReadyIn.nil)
                simp only [Act.put, List.setIfInBounds_toArray, List.set_cons_zero, List.set_cons_succ]
                refine wpAnyIn_ready (rs := [6]) (by kernel_rfl) (by simp) ?_
                refine (openIn_value (some 49) (.pointer (some ⟨g, 0, none⟩)) rfl rfl rfl (fun c h => by cases h) rfl (by kernel_rfl) ?_ AllReadyIn.nil)
                simp only [Act.put, List.setIfInBounds_toArray, List.set_cons_zero, List.set_cons_succ]
                refine wpAnyIn_ready (rs := [7]) (by kernel_rfl) (by simp) ?_
                refine (openIn_value (some 50) (.pointer (some ⟨g, 2, none⟩)) rfl rfl rfl (fun c h => by cases h) rfl (by kernel_rfl) ?_ AllReadyIn.nil)
                simp only [Act.put, List.setIfInBounds_toArray, List.set_cons_zero, List.set_cons_succ]
                refine wpAnyIn_ready (rs := [8]) (by kernel_rfl) (by simp) ?_
                refine (openIn_skip _ rfl rfl rfl (fun c h => by cases h) rfl (store4 (.tmp 50) rfl rfl rfl c2 f2) ?_ AllReadyIn.nil)
                refine wpAnyIn_ready (rs := [9]) (by kernel_rfl) (by simp) ?_
                refine (openIn_value (some 51) (.pointer (some ⟨g, 0, none⟩)) rfl rfl rfl (fun c h => by cases h) rfl (by kernel_rfl) ?_ AllReadyIn.nil)
                simp only [Act.put, List.setIfInBounds_toArray, List.set_cons_zero, List.set_cons_succ]
                refine wpAnyIn_ready (rs := [10]) (by kernel_rfl) (by simp) ?_
                refine (openIn_value (some 52) (.pointer (some ⟨g, 3, none⟩)) rfl rfl rfl (fun c h => by cases h) rfl (by kernel_rfl) ?_ AllReadyIn.nil)
                simp only [Act.put, List.setIfInBounds_toArray, List.set_cons_zero, List.set_cons_succ]
                refine wpAnyIn_ready (rs := [11]) (by kernel_rfl) (by simp) ?_
                refine (openIn_skip _ rfl rfl rfl (fun c h => by cases h) rfl (store3 (.tmp 52) rfl rfl rfl c3 f3b) ?_ AllReadyIn.nil)
                refine wpAnyIn_done (by kernel_rfl) ?_ _
                exact FIN.out _
        · simp only [Act.put, List.setIfInBounds_toArray, List.set_cons_zero, List.set_cons_succ]
          refine wpAnyIn_ready (rs := [0]) (by kernel_rfl) (by simp) ?_
          refine (openIn_value (some 44) (.pointer (some ⟨g, 0, none⟩)) rfl rfl rfl (fun c h => by cases h) rfl (load25 (.tmp 2) rfl rfl E0.out) ?_ AllReadyIn.nil)
          simp only [Act.put, List.setIfInBounds_toArray, List.set_cons_zero, List.set_cons_succ]
          refine wpAnyIn_ready (rs := [3]) (by kernel_rfl) (by simp) ?_
          refine (openIn_value (some 47) (.pointer (some ⟨g, 0, none⟩)) rfl rfl rfl (fun c h => by cases h) rfl (by kernel_rfl) ?_ AllReadyIn.nil)
          simp only [Act.put, List.setIfInBounds_toArray, List.set_cons_zero, List.set_cons_succ]
          refine wpAnyIn_ready (rs := [4]) (by kernel_rfl) (by simp) ?_
          refine (openIn_value (some 48) (.pointer (some ⟨g, 1, none⟩)) rfl rfl rfl (fun c h => by cases h) rfl (by kernel_rfl) ?_ AllReadyIn.nil)
          simp only [Act.put, List.setIfInBounds_toArray, List.set_cons_zero, List.set_cons_succ]
          refine wpAnyIn_ready (rs := [5]) (by kernel_rfl) (by simp) ?_
          refine (openIn_skip _ rfl rfl rfl (fun c h => by cases h) rfl (store63 (.tmp 48) rfl rfl rfl c1 f1) ?_ AllReadyIn.nil)
          refine wpAnyIn_ready (rs := [6]) (by kernel_rfl) (by simp) ?_
          refine (openIn_value (some 49) (.pointer (some ⟨g, 0, none⟩)) rfl rfl rfl (fun c h => by cases h) rfl (by kernel_rfl) ?_ AllReadyIn.nil)
          simp only [Act.put, List.setIfInBounds_toArray, List.set_cons_zero, List.set_cons_succ]
          refine wpAnyIn_ready (rs := [7]) (by kernel_rfl) (by simp) ?_
          refine (openIn_value (some 50) (.pointer (some ⟨g, 2, none⟩)) rfl rfl rfl (fun c h => by cases h) rfl (by kernel_rfl) ?_ AllReadyIn.nil)
          simp only [Act.put, List.setIfInBounds_toArray, List.set_cons_zero, List.set_cons_succ]
          refine wpAnyIn_ready (rs := [8]) (by kernel_rfl) (by simp) ?_
          refine (openIn_skip _ rfl rfl rfl (fun c h => by cases h) rfl (store4 (.tmp 50) rfl rfl rfl c2 f2) ?_ AllReadyIn.nil)
          refine wpAnyIn_ready (rs := [9]) (by kernel_rfl) (by simp) ?_
          refine (openIn_value (some 51) (.pointer (some ⟨g, 0, none⟩)) rfl rfl rfl (fun c h => by cases h) rfl (by kernel_rfl) ?_ AllReadyIn.nil)
          simp only [Act.put, List.setIfInBounds_toArray, List.set_cons_zero, List.set_cons_succ]
          refine wpAnyIn_ready (rs := [10]) (by kernel_rfl) (by simp) ?_
          refine (openIn_value (some 52) (.pointer (some ⟨g, 3, none⟩)) rfl rfl rfl (fun c h => by cases h) rfl (by kernel_rfl) ?_ AllReadyIn.nil)
          simp only [Act.put, List.setIfInBounds_toArray, List.set_cons_zero, List.set_cons_succ]
          refine wpAnyIn_ready (rs := [11]) (by kernel_rfl) (by simp) ?_
          refine (openIn_skip _ rfl rfl rfl (fun c h => by cases h) rfl (store3 (.tmp 52) rfl rfl rfl c3 f3b) ?_ AllReadyIn.nil)
          refine wpAnyIn_done (by kernel_rfl) ?_ _
          exact FIN.out _
    case stop2 =>
      rintro D2 c pre X _ _ h _
      exact h.elim
  case stop =>
    rintro D c pre W _ _ h _
    exact h.elim
end Go.Proofs.Ytibidljblkfciaa
