/-
What is proved here: Crash of the disk where nothing is held back, and for every disk.
-/
import Derived.Test.YtibidljblkfciaaCrk
set_option linter.unusedSimpArgs false
namespace Go.Proofs.Ytibidljblkfciaa
open Go.Word Go.RowKit Go.Shelf

attribute [local go_sem] Oper.semAt_some

set_option maxRecDepth 100000 in
theorem iterb_none (F : Fence) (n : Nat) (h43 : F.fn 43) (hro : F.round = none) (l Bs g C : Nat) (A : Option Addr) (J Jx : List (Nat × Empty) → World → Prop)
    (W : World) (hBs : W.cell? ⟨Bs, 0, none⟩ = some (.pointer (some ⟨g, 0, none⟩))) (hg1 : W.cell? ⟨g, 1, none⟩ = some (.slice A 0 C)) (h0 : J [] W) :
    CallsIn F n Try.prog 43 #[.func (.yield l) #[] #[], .pointer (some ⟨Bs, 0, none⟩)] W fun e W' => (∃ v, e = .returned v) ∧
      ((∃ ys, True ∧ J ys W') ∨ (∃ pre, True ∧ Jx pre W')) := by
  refine callsIn_of_wp Try.func43 rfl h43 ?_ hro
  simp only [Try.ntmps43, List.size_toArray, List.length_cons, List.length_nil, Nat.reduceAdd, Nat.reduceSub, Array.replicate_succ, Array.replicate_zero, List.push_toArray, List.append_toArray, List.nil_append, List.cons_append]
  gi_wp2
  gi_loopw [12] (fun i wr => i = .int .i64 0 ∧ J [] wr)
    (fun i _ => 0)
  case atStart => exact ⟨rfl, h0⟩
  case round =>
    obtain ⟨rfl, hJs⟩ := hrel
    gi_wp2
    go_end0
    exact ⟨⟨_, rfl⟩, .inl ⟨_, trivial, hJs⟩⟩
set_option maxRecDepth 100000 in
theorem iterl_none (F : Fence) (n : Nat) (h45 : F.fn 45) (hro : F.round = none) (l Bs g C : Nat) (A : Option Addr) (J Jx : List Empty → World → Prop)
    (W : World) (hBs : W.cell? ⟨Bs, 0, none⟩ = some (.pointer (some ⟨g, 0, none⟩))) (hg1 : W.cell? ⟨g, 1, none⟩ = some (.slice A 0 C)) (h0 : J [] W) :
    CallsIn F n Try.prog 45 #[.func (.yield l) #[] #[], .pointer (some ⟨Bs, 0, none⟩)] W fun e W' => (∃ v, e = .returned v) ∧
      ((∃ ys, True ∧ J ys W') ∨ (∃ pre, True ∧ Jx pre W')) := by
  refine callsIn_of_wp Try.func45 rfl h45 ?_ hro
  simp only [Try.ntmps45, List.size_toArray, List.length_cons, List.length_nil, Nat.reduceAdd, Nat.reduceSub, Array.replicate_succ, Array.replicate_zero, List.push_toArray, List.append_toArray, List.nil_append, List.cons_append]
  gi_wp2
  gi_loopw [3] (fun i wr => i = .int .i64 (-1) ∧ J [] wr)
    (fun i _ => 0)
  case atStart => exact ⟨rfl, h0⟩
  case round =>
    obtain ⟨rfl, hJs⟩ := hrel
    gi_wp2
    go_end0
    exact ⟨⟨_, rfl⟩, .inl ⟨_, trivial, hJs⟩⟩

def noE (x : Empty) : Ent := x.elim
set_option maxRecDepth 100000 in
set_option maxHeartbeats 8000000 in
theorem crashn_in (F : Fence) (n' : Nat) (h26 : F.fn 26) (h42 : F.fn 42) (h45 : F.fn 45) (h33 : F.fn 33) (h43 : F.fn 43) (hro : F.round = none) (hn : 4 ≤ n') {g B base n K : Nat} {f : Nat → BitVec 8} {A : Option Addr} {C : Nat} {on : Bool} {lf : Int} (w : World) (KA : Option Addr) (kl kc : Nat)
    (h : Dsk w g B base n K f (.slice A 0 C) [] on lf) :
    CallsIn F n' Try.prog 26 #[.pointer (some ⟨g, 0, none⟩), .slice KA kl kc] w fun e w' => e = .returned (.tuple #[]) ∧ Dsk w' g B base n K f (.slice none 0 0) [] true (-1) ∧ Two g B w w' := by
  have h1 : 1 ≤ n' := by omega
  refine callsIn_of_wp_marks Try.func26 rfl h26 ?_ hro
  simp only [Try.ntmps26, List.size_toArray, List.length_cons, List.length_nil, Nat.reduceAdd, Nat.reduceSub, Array.replicate_succ, Array.replicate_zero, List.push_toArray, List.append_toArray, List.nil_append, List.cons_append]
  gi_wp2_with (gi_at_call 42; refine (last_in F (n' - 1) h42 hro _ _).mono ?_; rintro e w' ⟨rfl, rfl⟩)
  have bD := ((Boxed.new w 25 (.pointer (some ⟨g, 0, none⟩))).alloc (.cells #[.slice KA kl kc] 31)).alloc (.cells #[.pointer (some ⟨g, 0, none⟩)] 25)
  have bK := (Boxed.new (w.alloc (.cells #[.pointer (some ⟨g, 0, none⟩)] 25)) 31 (.slice KA kl kc)).alloc (.cells #[.pointer (some ⟨g, 0, none⟩)] 25)
  have bN := Boxed.new ((w.alloc (.cells #[.pointer (some ⟨g, 0, none⟩)] 25)).alloc (.cells #[.slice KA kl kc] 31)) 25 (.pointer (some ⟨g, 0, none⟩))
  simp only [World.size_alloc] at bK bN
  have hB0 : Below w.heap.size w (((w.alloc (.cells #[.pointer (some ⟨g, 0, none⟩)] 25)).alloc (.cells #[.slice KA kl kc] 31)).alloc (.cells #[.pointer (some ⟨g, 0, none⟩)] 25)) := (((Below.refl _ w).alloc (Nat.le_refl _) _).alloc (by simp) _).alloc (by simp; omega) _
  have hsz : (((w.alloc (.cells #[.pointer (some ⟨g, 0, none⟩)] 25)).alloc (.cells #[.slice KA kl kc] 31)).alloc (.cells #[.pointer (some ⟨g, 0, none⟩)] 25)).heap.size = w.heap.size + 3 := by simp
  have hd0 := dsk_below h hB0
  obtain ⟨W0, hW0⟩ : ∃ W0, (((w.alloc (.cells #[.pointer (some ⟨g, 0, none⟩)] 25)).alloc (.cells #[.slice KA kl kc] 31)).alloc (.cells #[.pointer (some ⟨g, 0, none⟩)] 25)) = W0 := ⟨_, rfl⟩
  rw [hW0] at bD bK bN hB0 hsz hd0 ⊢
  clear hW0
  have hord := h.ord
  have hgl := lies_lt h.self
  refine wpIn_rangeFunc_ownH hro (by omega) (gf := 45) (lb := #[.pointer (some ⟨w.heap.size + 1 + 1, 0, none⟩)]) rfl h45 (enters_of Try.func45 (by kernel_rfl) rfl)
    (encs := encLa noE) (Kp := KB B (w.heap.size + 3)) (S := fun _ => True) (Sp := fun _ => True) (N := 0) (w0 := W0)
    (fun l J Jx W hW hJ _ hY hj0 => iterl_none F (n' - 1) h45 hro l (w.heap.size + 1 + 1) g C A J Jx W ((hW.cell (p := ⟨w.heap.size + 1 + 1, 0, none⟩) (by show w.heap.size + 1 + 1 < W0.heap.size; omega)).trans bN.cell) ((hW.cell (p := ⟨g, 1, none⟩) (by show g < W0.heap.size; omega)).trans (lies_cell hd0.self 1)) hj0)
    kb_t (fun W l o o' hl ho h1 h2 => kb_b (w := W0) (by omega) W l o o' hl ho h1 h2) (Below.refl _ _) (fun _ => rfl)
    (fun pre W => (Boxed W w.heap.size 25 (.pointer (some ⟨g, 0, none⟩)) ∧ Boxed W (w.heap.size + 1) 31 (.slice KA kl kc)) ∧ ((∃ f', f' = f ∧ Dsk W g B base n K f' (.slice A 0 C) [] on lf) ∧ w.heap.size + 3 ≤ W.heap.size) ∧ w.grownBy W (some B))
    (fun _ _ _ => False)
    (OwnFrom.and (OwnFrom.and (Own.from (boxed_own _ _ _) _) (Own.from (boxed_own _ _ _) _)) (OwnFrom.and (fun _ X Y row hs' hg hr => by obtain ⟨⟨f', hf, hd⟩, hz⟩ := hs'; exact ⟨⟨f', hf, dsk_own hd hg (fun r e => (hr r e).2)⟩, Nat.le_trans hz hg.size⟩) (ownFrom_grown (by omega))))
    (fun _ _ _ _ _ hs _ _ => hs)
    ⟨⟨bD, bK⟩, ⟨⟨f, rfl, hd0⟩, by omega⟩, only_below (only_refl w B) hB0⟩
    (fun _ _ _ => True)
    (fun _ _ _ _ _ _ _ _ _ => trivial)
    ?assign ?body ?done ?stop
  case assign => exact fun l pre x => x.elim
  case body => exact fun l pre x => x.elim
  case done =>
    rintro D ys W hD hys ⟨⟨bD1, bK1⟩, ⟨⟨f', hf', hd1⟩, hz1⟩, hB1⟩ hK
    have HF := Lib.hid (show f' = f from hf')
    clear hf' hys
    have hord := h.ord
    have cD := bD1.cell
    have h1' : 1 ≤ n' := by omega
    gi_wp2_with (gi_at_call 33; refine (writes_in F (n' - 1) h33 hro _ _).mono ?_; rintro e w' ⟨rfl, rfl⟩)
    have bN2 := Boxed.new W 25 (.pointer (some ⟨g, 0, none⟩))
    have bb : Below W.heap.size W (W.alloc (.cells #[.pointer (some ⟨g, 0, none⟩)] 25)) := (Below.refl _ W).alloc (Nat.le_refl _) _
    have hd2 := dsk_below hd1 bb
    have bD2 := bD1.alloc (.cells #[.pointer (some ⟨g, 0, none⟩)] 25)
    have bK2 := bK1.alloc (.cells #[.pointer (some ⟨g, 0, none⟩)] 25)
    have hB2 : w.grownBy (W.alloc (.cells #[.pointer (some ⟨g, 0, none⟩)] 25)) (some B) := only_below hB1 bb
    have hDl : D < W.heap.size := (Array.getElem?_eq_some_iff.1 hK).1
    have hK2 : (W.alloc (.cells #[.pointer (some ⟨g, 0, none⟩)] 25)).heap[D]? = some (.deferred (some [])) := (bb.block D hDl).trans hK
    have hsz2 : (W.alloc (.cells #[.pointer (some ⟨g, 0, none⟩)] 25)).heap.size = W.heap.size + 1 := by simp
    obtain ⟨W2, hW2⟩ : ∃ W2, W.alloc (.cells #[.pointer (some ⟨g, 0, none⟩)] 25) = W2 := ⟨_, rfl⟩
    rw [hW2] at bN2 hd2 bD2 bK2 hB2 hK2 hsz2 ⊢
    clear hW2 bb
    refine wpIn_rangeFunc_ownH hro (by omega) (gf := 43) (lb := #[.pointer (some ⟨W.heap.size, 0, none⟩)]) rfl h43 (enters_of Try.func43 (by kernel_rfl) rfl)
      (encs := encWa noE) (Kp := KB B (W.heap.size + 1)) (S := fun _ => True) (Sp := fun _ => True) (N := 0) (w0 := W2)
      (fun l J Jx X hX hJ _ hY hj0 => iterb_none F (n' - 1) h43 hro l W.heap.size g C A J Jx X ((hX.cell (p := ⟨W.heap.size, 0, none⟩) (by show W.heap.size < W2.heap.size; omega)).trans bN2.cell) ((hX.cell (p := ⟨g, 1, none⟩) (by show g < W2.heap.size; omega)).trans (lies_cell hd2.self 1)) hj0)
      kb_t (fun X l o o' hl ho h1 h2 => kb_b (w := W2) (by omega) X l o o' hl ho h1 h2) (Below.refl _ _) (fun _ => rfl)
      (fun pre X => (Boxed X w.heap.size 25 (.pointer (some ⟨g, 0, none⟩)) ∧ Boxed X (w.heap.size + 1) 31 (.slice KA kl kc)) ∧ (((∃ f2, f2 = f ∧ Dsk X g B base n K f2 (.slice A 0 C) [] on lf) ∧ (W.heap.size + 1 ≤ X.heap.size ∧ X.heap[D]? = some (.deferred (some [])))) ∧ w.grownBy X (some B)))
      (fun _ _ _ => False)
      (OwnFrom.and (OwnFrom.and (Own.from (boxed_own _ _ _) _) (Own.from (boxed_own _ _ _) _)) (OwnFrom.and (fun _ X Y row hs' hg hr => by obtain ⟨⟨f2, hf, hd⟩, hz, hq⟩ := hs'; exact ⟨⟨f2, hf, dsk_own hd hg (fun r e => (hr r e).2)⟩, Nat.le_trans hz hg.size, (hg.block D (by omega) (fun e => by have := (hr D e.symm).1; omega)).trans hq⟩) (ownFrom_grown (by omega))))
      (fun _ _ _ _ _ hs _ _ => hs)
      ⟨⟨bD2, bK2⟩, ⟨⟨f', HF.out, hd2⟩, by omega, hK2⟩, hB2⟩
      (fun _ _ _ => True)
      (fun _ _ _ _ _ _ _ _ _ => trivial)
      ?assign2 ?body2 ?done2 ?stop2
    case assign2 => exact fun l pre x => x.2.elim
    case body2 => exact fun l pre x => x.2.elim
    case done2 =>
      rintro D2 ys X hD2 hys ⟨⟨bD3, bK3⟩, ⟨⟨f3, hf3, hd3⟩, hz3, hq3⟩, hB3⟩ hK3
      have HF3 := Lib.hid (show f3 = f from hf3)
      clear hf3 hys
      have cD3 := bD3.cell
      gi_wp2
      have hord3 := hd3.ord
      have hgl3 := lies_lt hd3.self
      have cB : ∀ {Z : World} (v : Value) (o : Nat), Z.cell? ⟨w.heap.size, 0, none⟩ = some (.pointer (some ⟨g, 0, none⟩)) → (Z.setCell ⟨g, o, none⟩ v).cell? ⟨w.heap.size, 0, none⟩ = some (.pointer (some ⟨g, 0, none⟩)) := fun v o hz => by
        rw [World.cell?_setCell_other _ _ _ _ (by intro e; injection e with e _ _; omega)]
        exact hz
      have E0 := Lib.hid (show X.drew.cell? ⟨w.heap.size, 0, none⟩ = some (.pointer (some ⟨g, 0, none⟩)) from cD3)
      have E1 := Lib.hid (cB (.slice none 0 0) 1 E0.out)
      have E2 := Lib.hid (cB (.bool true) 2 E1.out)
      have l0 : Lies X.drew g 65 (DRow B K (.slice A 0 C) on lf) := hd3.self
      have l1 := lies_set l0 1 (.slice none 0 0)
      have l2 := lies_set l1 2 (.bool true)
      have l3 := lies_set l2 3 (.int .i64 (-1))
      have c1 : X.drew.cell? ⟨g, 1, none⟩ = some (.slice A 0 C) := lies_cell l0 1
      have f1 := lies_free l0 1
      have c2 : (X.drew.setCell ⟨g, 1, none⟩ (.slice none 0 0)).cell? ⟨g, 2, none⟩ = some (.bool on) := lies_cell l1 2
      have f2 := lies_free l1 2
      have c3 : ((X.drew.setCell ⟨g, 1, none⟩ (.slice none 0 0)).setCell ⟨g, 2, none⟩ (.bool true)).cell? ⟨g, 3, none⟩ = some (.int .i64 lf) := lies_cell l2 3
      have f3b := lies_free l2 3
      have hz0 : D < X.heap.size := (Array.getElem?_eq_some_iff.1 hq3).1
      have hz20 : D2 < X.heap.size := (Array.getElem?_eq_some_iff.1 hK3).1
      have hDD : D ≠ D2 := by omega
      obtain ⟨W5, hW5⟩ : ∃ W5, W5 = ((X.drew.setCell ⟨g, 1, none⟩ (.slice none 0 0)).setCell ⟨g, 2, none⟩ (.bool true)).setCell ⟨g, 3, none⟩ (.int .i64 (-1)) := ⟨_, rfl⟩
      have g5 : X.grownBy W5 (some g) := by rw [hW5]; exact only_setCell (only_setCell (only_setCell (only_drew (World.grownBy.refl X (some g))) 1 _) 2 _) 3 _
      have l5 : Lies W5 g 65 (DRow B K (.slice none 0 0) true (-1)) := by rw [hW5]; exact l3
      have hd5 : Dsk W5 g B base n K f3 (.slice none 0 0) [] true (-1) := {
        self := l5
        bytes := (g5.block B (lies_lt hd3.bytes) (fun e => by injection e with e; omega)).trans hd3.bytes
        held := ⟨rfl, .inl ⟨rfl, rfl⟩⟩
        size := hd3.size
        most := hd3.most
        ord := ⟨hord3.1, hord3.2.1, Nat.le_trans hord3.2.2 g5.size⟩
        rows := fun e he => by cases he }
      have q5 : W5.heap[D]? = some (.deferred (some [])) := (g5.block D hz0 (fun e => by injection e with e; omega)).trans hq3
      have k5 : W5.heap[D2]? = some (.deferred (some [])) := (g5.block D2 hz20 (fun e => by injection e with e; omega)).trans hK3
      have q6 : (W5.putObj D2 (.deferred none)).heap[D]? = some (.deferred (some [])) := ((grownBy_putObj' W5 D2 (.deferred none)).block D (Array.getElem?_eq_some_iff.1 q5).1 (fun e => by injection e with e; exact hDD e)).trans q5
      have hd6 : Dsk (W5.putObj D2 (.deferred none)) g B base n K f3 (.slice none 0 0) [] true (-1) := dsk_own hd5 (grownBy_putObj' W5 D2 _) (fun r e => by cases e; exact ⟨_, k5, rfl⟩)
      have hd7 : Dsk ((W5.putObj D2 (.deferred none)).putObj D (.deferred none)) g B base n K f3 (.slice none 0 0) [] true (-1) := dsk_own hd6 (grownBy_putObj' _ D _) (fun r e => by cases e; exact ⟨_, q6, rfl⟩)
      have b7 : Two g B w ((W5.putObj D2 (.deferred none)).putObj D (.deferred none)) := two_end hB3 g5 (by omega) (by omega)
      have FIN0 : ∀ tmps, bodyPostM F n' Try.prog Try.f26 (fun e w' => e = Ending.returned (Value.tuple #[]) ∧ Dsk w' g B base n K f (.slice none 0 0) [] true (-1) ∧ Two g B w w') .normal { tmps := tmps, defers := [{ target := .collected D2, args := #[] }, { target := .collected D, args := #[] }] } W5 := fun tmps => by
        refine ⟨by simp, .inl ⟨_, _, rfl, run_takeDeferred k5, ?_⟩⟩
        refine ⟨by simp, .inl ⟨_, _, rfl, run_takeDeferred q6, ?_⟩⟩
        exact ⟨_, results_none rfl _ _ _, rfl, by rw [← HF3.out]; exact hd7, b7⟩
      rw [hW5] at FIN0
      have FIN := Lib.hid FIN0
      clear FIN0 b7 hd7 hd6 q6 k5 q5 hd5 l5 g5 hW5
      refine wpIn_region_any (by kernel_rfl) ?_
      change wpAnyIn _ _ _ _ _ _ _ _ _ (World.drew X)
      refine wpAnyIn_ready (rs := [0, 1, 2]) (by kernel_rfl) (by simp) ?_
      refine (openIn_value (some 44) (.pointer (some ⟨g, 0, none⟩)) rfl rfl rfl (fun c h => by cases h) rfl (load25 (.tmp 2) rfl rfl E0.out) ?_ (openIn_value (some 45) (.pointer (some ⟨g, 0, none⟩)) rfl rfl rfl (fun c h => by cases h) rfl (load25 (.tmp 2) rfl rfl E0.out) ?_ (openIn_value (some 46) (.pointer (some ⟨g, 0, none⟩)) rfl rfl rfl (fun c h => by cases h) rfl (load25 (.tmp 2) rfl rfl E0.out) ?_ AllReadyIn.nil)))
      · simp only [Act.put, List.setIfInBounds_toArray, List.set_cons_zero, List.set_cons_succ]
        refine wpAnyIn_ready (rs := [1, 2, 3]) (by kernel_rfl) (by simp) ?_
        refine (openIn_value (some 45) (.pointer (some ⟨g, 0, none⟩)) rfl rfl rfl (fun c h => by cases h) rfl (load25 (.tmp 2) rfl rfl E0.out) ?_ (openIn_value (some 46) (.pointer (some ⟨g, 0, none⟩)) rfl rfl rfl (fun c h => by cases h) rfl (load25 (.tmp 2) rfl rfl E0.out) ?_ (openIn_value (some 47) (.pointer (some ⟨g, 0, none⟩)) rfl rfl rfl (fun c h => by cases h) rfl (by kernel_rfl) ?_ AllReadyIn.nil)))
        · simp only [Act.put, List.setIfInBounds_toArray, List.set_cons_zero, List.set_cons_succ]
          refine wpAnyIn_ready (rs := [2, 3]) (by kernel_rfl) (by simp) ?_
          refine (openIn_value (some 46) (.pointer (some ⟨g, 0, none⟩)) rfl rfl rfl (fun c h => by cases h) rfl (load25 (.tmp 2) rfl rfl E0.out) ?_ (openIn_value (some 47) (.pointer (some ⟨g, 0, none⟩)) rfl rfl rfl (fun c h => by cases h) rfl (by kernel_rfl) ?_ AllReadyIn.nil))
          · simp only [Act.put, List.setIfInBounds_toArray, List.set_cons_zero, List.set_cons_succ]
            refine wpAnyIn_ready (rs := [3]) (by kernel_rfl) (by simp) ?_
            refine (openIn_value (some 47) (.pointer (some ⟨g, 0, none⟩)) rfl rfl rfl (fun c h => by cases h) rfl (by kernel_rfl) ?_ AllReadyIn.nil)
            simp only [Act.put, List.setIfInBounds_toArray, List.set_cons_zero, List.set_cons_succ]
            refine wpAnyIn_ready (rs := [4]) (by kernel_rfl) (by simp) ?_
            refine (openIn_value (some 48) (.pointer (some ⟨g, 1, none⟩)) rfl rfl rfl (fun c h => by cases h) rfl (by kernel_rfl) ?_ AllReadyIn.nil)
            simp only [Act.put, List.setIfInBounds_toArray, List.set_cons_zero, List.set_cons_succ]
            refine wpAnyIn_ready (rs := [5]) (by kernel_rfl) (by simp) ?_
            refine (openIn_skip _ rfl rfl rfl (fun c h => by cases h) rfl (store63 (.tmp 48) rfl rfl rfl c1 f1) ?_ AllReadyIn.nil)
            refine wpAnyIn_ready (rs := [6]) (by kernel_rfl) (by simp) ?_
            refine (openIn_value (some 49) (.pointer (some ⟨g, 0, none⟩)) rfl rfl rfl (fun c h => by cases h) rfl (by kernel_rfl) ?_ AllReadyIn.nil)
            simp only [Act.put, List.setIfInBounds_toArray, List.set_cons_zero, List.set_cons_succ]
            refine wpAnyIn_ready (rs := [7]) (by kernel_rfl) (by simp) ?_
            refine (openIn_value (some 50) (.pointer (some ⟨g, 2, none⟩)) rfl rfl rfl (fun c h => by cases h) rfl (by kernel_rfl) ?_ AllReadyIn.nil)
            simp only [Act.put, List.setIfInBounds_toArray, List.set_cons_zero, List.set_cons_succ]
            refine wpAnyIn_ready (rs := [8]) (by kernel_rfl) (by simp) ?_
            refine (openIn_skip _ rfl rfl rfl (fun c h => by cases h) rfl (store4 (.tmp 50) rfl rfl rfl c2 f2) ?_ AllReadyIn.nil)
            refine wpAnyIn_ready (rs := [9]) (by kernel_rfl) (by simp) ?_
            refine (openIn_value (some 51) (.pointer (some ⟨g, 0, none⟩)) rfl rfl rfl (fun c h => by cases h) rfl (by kernel_rfl) ?_ AllReadyIn.nil)
            simp only [Act.put, List.setIfInBounds_toArray, List.set_cons_zero, List.set_cons_succ]
            refine wpAnyIn_ready (rs := [10]) (by kernel_rfl) (by simp) ?_
            refine (openIn_value (some 52) (.pointer (some ⟨g, 3, none⟩)) rfl rfl rfl (fun c h => by cases h) rfl (by kernel_rfl) ?_ AllReadyIn.nil)
            simp only [Act.put, List.setIfInBounds_toArray, List.set_cons_zero, List.set_cons_succ]
            refine wpAnyIn_ready (rs := [11]) (by kernel_rfl) (by simp) ?_
            refine (openIn_skip _ rfl rfl rfl (fun c h => by cases h) rfl (store3 (.tmp 52) rfl rfl rfl c3 f3b) ?_ AllReadyIn.nil)
            refine wpAnyIn_done (by kernel_rfl) ?_ _
            exact FIN.out _
          · simp only [Act.put, List.setIfInBounds_toArray, List.set_cons_zero, List.set_cons_succ]
            refine wpAnyIn_ready (rs := [2, 4]) (by kernel_rfl) (by simp) ?_
            refine (openIn_value (some 46) (.pointer (some ⟨g, 0, none⟩)) rfl rfl rfl (fun c h => by cases h) rfl (load25 (.tmp 2) rfl rfl E0.out) ?_ (openIn_value (some 48) (.pointer (some ⟨g, 1, none⟩)) rfl rfl rfl (fun c h => by cases h) rfl (by kernel_rfl) ?_ AllReadyIn.nil))
            · simp only [Act.put, List.setIfInBounds_toArray, List.set_cons_zero, List.set_cons_succ]
              refine wpAnyIn_ready (rs := [4]) (by kernel_rfl) (by simp) ?_
              refine (openIn_value (some 48) (.pointer (some ⟨g, 1, none⟩)) rfl rfl rfl (fun c h => by cases h) rfl (by kernel_rfl) ?_ AllReadyIn.nil)
              simp only [Act.put, List.setIfInBounds_toArray, List.set_cons_zero, List.set_cons_succ]
              refine wpAnyIn_ready (rs := [5]) (by kernel_rfl) (by simp) ?_
              refine (openIn_skip _ rfl rfl rfl (fun c h => by cases h) rfl (store63 (.tmp 48) rfl rfl rfl c1 f1) ?_ AllReadyIn.nil)
              refine wpAnyIn_ready (rs := [6]) (by kernel_rfl) (by simp) ?_
              refine (openIn_value (some 49) (.pointer (some ⟨g, 0, none⟩)) rfl rfl rfl (fun c h => by cases h) rfl (by kernel_rfl) ?_ AllReadyIn.nil)
              simp only [Act.put, List.setIfInBounds_toArray, List.set_cons_zero, List.set_cons_succ]
              refine wpAnyIn_ready (rs := [7]) (by kernel_rfl) (by simp) ?_
              refine (openIn_value (some 50) (.pointer (some ⟨g, 2, none⟩)) rfl rfl rfl (fun c h => by cases h) rfl (by kernel_rfl) ?_ AllReadyIn.nil)
              simp only [Act.put, List.setIfInBounds_toArray, List.set_cons_zero, List.set_cons_succ]
              refine wpAnyIn_ready (rs := [8]) (by kernel_rfl) (by simp) ?_
              refine (openIn_skip _ rfl rfl rfl (fun c h => by cases h) rfl (store4 (.tmp 50) rfl rfl rfl c2 f2) ?_ AllReadyIn.nil)
              refine wpAnyIn_ready (rs := [9]) (by kernel_rfl) (by simp) ?_
              refine (openIn_value (some 51) (.pointer (some ⟨g, 0, none⟩)) rfl rfl rfl (fun c h => by cases h) rfl (by kernel_rfl) ?_ AllReadyIn.nil)
              simp only [Act.put, List.setIfInBounds_toArray, List.set_cons_zero, List.set_cons_succ]
              refine wpAnyIn_ready (rs := [10]) (by kernel_rfl) (by simp) ?_
              refine (openIn_value (some 52) (.pointer (some ⟨g, 3, none⟩)) rfl rfl rfl (fun c h => by cases h) rfl (by kernel_rfl) ?_ AllReadyIn.nil)
              simp only [Act.put, List.setIfInBounds_toArray, List.set_cons_zero, List.set_cons_succ]
              refine wpAnyIn_ready (rs := [11]) (by kernel_rfl) (by simp) ?_
              refine (openIn_skip _ rfl rfl rfl (fun c h => by cases h) rfl (store3 (.tmp 52) rfl rfl rfl c3 f3b) ?_ AllReadyIn.nil)
              refine wpAnyIn_done (by kernel_rfl) ?_ _
              exact FIN.out _
            · simp only [Act.put, List.setIfInBounds_toArray, List.set_cons_zero, List.set_cons_succ]
              refine wpAnyIn_ready (rs := [2, 5]) (by kernel_rfl) (by simp) ?_
              refine (openIn_value (some 46) (.pointer (some ⟨g, 0, none⟩)) rfl rfl rfl (fun c h => by cases h) rfl (load25 (.tmp 2) rfl rfl E0.out) ?_ (openIn_skip _ rfl rfl rfl (fun c h => by cases h) rfl (store63 (.tmp 48) rfl rfl rfl c1 f1) ?_ AllReadyIn.nil))
              · simp only [Act.put, List.setIfInBounds_toArray, List.set_cons_zero, List.set_cons_succ]
                refine wpAnyIn_ready (rs := [5]) (by kernel_rfl) (by simp) ?_
                refine (openIn_skip _ rfl rfl rfl (fun c h => by cases h) rfl (store63 (.tmp 48) rfl rfl rfl c1 f1) ?_ AllReadyIn.nil)
                refine wpAnyIn_ready (rs := [6]) (by kernel_rfl) (by simp) ?_
                refine (openIn_value (some 49) (.pointer (some ⟨g, 0, none⟩)) rfl rfl rfl (fun c h => by cases h) rfl (by kernel_rfl) ?_ AllReadyIn.nil)
                simp only [Act.put, List.setIfInBounds_toArray, List.set_cons_zero, List.set_cons_succ]
                refine wpAnyIn_ready (rs := [7]) (by kernel_rfl) (by simp) ?_
                refine (openIn_value (some 50) (.pointer (some ⟨g, 2, none⟩)) rfl rfl rfl (fun c h => by cases h) rfl (by kernel_rfl) ?_ AllReadyIn.nil)
                simp only [Act.put, List.setIfInBounds_toArray, List.set_cons_zero, List.set_cons_succ]
                refine wpAnyIn_ready (rs := [8]) (by kernel_rfl) (by simp) ?_
                refine (openIn_skip _ rfl rfl rfl (fun c h => by cases h) rfl (store4 (.tmp 50) rfl rfl rfl c2 f2) ?_ AllReadyIn.nil)
                refine wpAnyIn_ready (rs := [9]) (by kernel_rfl) (by simp) ?_
                refine (openIn_value (some 51) (.pointer (some ⟨g, 0, none⟩)) rfl rfl rfl (fun c h => by cases h) rfl (by kernel_rfl) ?_ AllReadyIn.nil)
                simp only [Act.put, List.setIfInBounds_toArray, List.set_cons_zero, List.set_cons_succ]
                refine wpAnyIn_ready (rs := [10]) (by kernel_rfl) (by simp) ?_
                refine (openIn_value (some 52) (.pointer (some ⟨g, 3, none⟩)) rfl rfl rfl (fun c h => by cases h) rfl (by kernel_rfl) ?_ AllReadyIn.nil)
                simp only [Act.put, List.setIfInBounds_toArray, List.set_cons_zero, List.set_cons_succ]
                refine wpAnyIn_ready (rs := [11]) (by kernel_rfl) (by simp) ?_
                refine (openIn_skip _ rfl rfl rfl (fun c h => by cases h) rfl (store3 (.tmp 52) rfl rfl rfl c3 f3b) ?_ AllReadyIn.nil)
                refine wpAnyIn_done (by kernel_rfl) ?_ _
                exact FIN.out _
              · refine wpAnyIn_ready (rs := [2, 6]) (by kernel_rfl) (by simp) ?_
                refine (openIn_value (some 46) (.pointer (some ⟨g, 0, none⟩)) rfl rfl rfl (fun c h => by cases h) rfl (load25 (.tmp 2) rfl rfl E1.out) ?_ (openIn_value (some 49) (.pointer (some ⟨g, 0, none⟩)) rfl rfl rfl (fun c h => by cases h) rfl (by kernel_rfl) ?_ AllReadyIn.nil))
                · simp only [Act.put, List.setIfInBounds_toArray, List.set_cons_zero, List.set_cons_succ]
                  refine wpAnyIn_ready (rs := [6]) (by kernel_rfl) (by simp) ?_
                  refine (openIn_value (some 49) (.pointer (some ⟨g, 0, none⟩)) rfl rfl rfl (fun c h => by cases h) rfl (by kernel_rfl) ?_ AllReadyIn.nil)
                  simp only [Act.put, List.setIfInBounds_toArray, List.set_cons_zero, List.set_cons_succ]
                  refine wpAnyIn_ready (rs := [7]) (by kernel_rfl) (by simp) ?_
                  refine (openIn_value (some 50) (.pointer (some ⟨g, 2, none⟩)) rfl rfl rfl (fun c h => by cases h) rfl (by kernel_rfl) ?_ AllReadyIn.nil)
                  simp only [Act.put, List.setIfInBounds_toArray, List.set_cons_zero, List.set_cons_succ]
                  refine wpAnyIn_ready (rs := [8]) (by kernel_rfl) (by simp) ?_
                  refine (openIn_skip _ rfl rfl rfl (fun c h => by cases h) rfl (store4 (.tmp 50) rfl rfl rfl c2 f2) ?_ AllReadyIn.nil)
                  refine wpAnyIn_ready (rs := [9]) (by kernel_rfl) (by simp) ?_
                  refine (openIn_value (some 51) (.pointer (some ⟨g, 0, none⟩)) rfl rfl rfl (fun c h => by cases h) rfl (by kernel_rfl) ?_ AllReadyIn.nil)
                  simp only [Act.put, List.setIfInBounds_toArray, List.set_cons_zero, List.set_cons_succ]
                  refine wpAnyIn_ready (rs := [10]) (by kernel_rfl) (by simp) ?_
                  refine (openIn_value (some 52) (.pointer (some ⟨g, 3, none⟩)) rfl rfl rfl (fun c h => by cases h) rfl (by kernel_rfl) ?_ AllReadyIn.nil)
                  simp only [Act.put, List.setIfInBounds_toArray, List.set_cons_zero, List.set_cons_succ]
                  refine wpAnyIn_ready (rs := [11]) (by kernel_rfl) (by simp) ?_
                  refine (openIn_skip _ rfl rfl rfl (fun c h => by cases h) rfl (store3 (.tmp 52) rfl rfl rfl c3 f3b) ?_ AllReadyIn.nil)
                  refine wpAnyIn_done (by kernel_rfl) ?_ _
                  exact FIN.out _
                · simp only [Act.put, List.setIfInBounds_toArray, List.set_cons_zero, List.set_cons_succ]
                  refine wpAnyIn_ready (rs := [2, 7]) (by kernel_rfl) (by simp) ?_
                  refine (openIn_value (some 46) (.pointer (some ⟨g, 0, none⟩)) rfl rfl rfl (fun c h => by cases h) rfl (load25 (.tmp 2) rfl rfl E1.out) ?_ (openIn_value (some 50) (.pointer (some ⟨g, 2, none⟩)) rfl rfl rfl (fun c h => by cases h) rfl (by kernel_rfl) ?_ AllReadyIn.nil))
                  · simp only [Act.put, List.setIfInBounds_toArray, List.set_cons_zero, List.set_cons_succ]
                    refine wpAnyIn_ready (rs := [7]) (by kernel_rfl) (by simp) ?_
                    refine (openIn_value (some 50) (.pointer (some ⟨g, 2, none⟩)) rfl rfl rfl (fun c h => by cases h) rfl (by kernel_rfl) ?_ AllReadyIn.nil)
                    simp only [Act.put, List.setIfInBounds_toArray, List.set_cons_zero, List.set_cons_succ]
                    refine wpAnyIn_ready (rs := [8]) (by kernel_rfl) (by simp) ?_
                    refine (openIn_skip _ rfl rfl rfl (fun c h => by cases h) rfl (store4 (.tmp 50) rfl rfl rfl c2 f2) ?_ AllReadyIn.nil)
                    refine wpAnyIn_ready (rs := [9]) (by kernel_rfl) (by simp) ?_
                    refine (openIn_value (some 51) (.pointer (some ⟨g, 0, none⟩)) rfl rfl rfl (fun c h => by cases h) rfl (by kernel_rfl) ?_ AllReadyIn.nil)
                    simp only [Act.put, List.setIfInBounds_toArray, List.set_cons_zero, List.set_cons_succ]
                    refine wpAnyIn_ready (rs := [10]) (by kernel_rfl) (by simp) ?_
                    refine (openIn_value (some 52) (.pointer (some ⟨g, 3, none⟩)) rfl rfl rfl (fun c h => by cases h) rfl (by kernel_rfl) ?_ AllReadyIn.nil)
                    simp only [Act.put, List.setIfInBounds_toArray, List.set_cons_zero, List.set_cons_succ]
                    refine wpAnyIn_ready (rs := [11]) (by kernel_rfl) (by simp) ?_
                    refine (openIn_skip _ rfl rfl rfl (fun c h => by cases h) rfl (store3 (.tmp 52) rfl rfl rfl c3 f3b) ?_ AllReadyIn.nil)
                    refine wpAnyIn_done (by kernel_rfl) ?_ _
                    exact FIN.out _
                  · simp only [Act.put, List.setIfInBounds_toArray, List.set_cons_zero, List.set_cons_succ]
                    refine wpAnyIn_ready (rs := [2, 8]) (by kernel_rfl) (by simp) ?_
                    refine (openIn_value (some 46) (.pointer (some ⟨g, 0, none⟩)) rfl rfl rfl (fun c h => by cases h) rfl (load25 (.tmp 2) rfl rfl E1.out) ?_ (openIn_skip _ rfl rfl rfl (fun c h => by cases h) rfl (store4 (.tmp 50) rfl rfl rfl c2 f2) ?_ AllReadyIn.nil))
                    · simp only [Act.put, List.setIfInBounds_toArray, List.set_cons_zero, List.set_cons_succ]
                      refine wpAnyIn_ready (rs := [8]) (by kernel_rfl) (by simp) ?_
                      refine (openIn_skip _ rfl rfl rfl (fun c h => by cases h) rfl (store4 (.tmp 50) rfl rfl rfl c2 f2) ?_ AllReadyIn.nil)
                      refine wpAnyIn_ready (rs := [9]) (by kernel_rfl) (by simp) ?_
                      refine (openIn_value (some 51) (.pointer (some ⟨g, 0, none⟩)) rfl rfl rfl (fun c h => by cases h) rfl (by kernel_rfl) ?_ AllReadyIn.nil)
                      simp only [Act.put, List.setIfInBounds_toArray, List.set_cons_zero, List.set_cons_succ]
                      refine wpAnyIn_ready (rs := [10]) (by kernel_rfl) (by simp) ?_
                      refine (openIn_value (some 52) (.pointer (some ⟨g, 3, none⟩)) rfl rfl rfl (fun c h => by cases h) rfl (by kernel_rfl) ?_ AllReadyIn.nil)
                      simp only [Act.put, List.setIfInBounds_toArray, List.set_cons_zero, List.set_cons_succ]
                      refine wpAnyIn_ready (rs := [11]) (by kernel_rfl) (by simp) ?_
                      refine (openIn_skip _ rfl rfl rfl (fun c h => by cases h) rfl (store3 (.tmp 52) rfl rfl rfl c3 f3b) ?_ AllReadyIn.nil)
                      refine wpAnyIn_done (by kernel_rfl) ?_ _
                      exact FIN.out _
                    · refine wpAnyIn_ready (rs := [2]) (by kernel_rfl) (by simp) ?_
                      refine (openIn_value (some 46) (.pointer (some ⟨g, 0, none⟩)) rfl rfl rfl (fun c h => by cases h) rfl (load25 (.tmp 2) rfl rfl E2.out) ?_ AllReadyIn.nil)
                      simp only [Act.put, List.setIfInBounds_toArray, List.set_cons_zero, List.set_cons_succ]
                      refine wpAnyIn_ready (rs := [9]) (by kernel_rfl) (by simp) ?_
                      refine (openIn_value (some 51) (.pointer (some ⟨g, 0, none⟩)) rfl rfl rfl (fun c h => by cases h) rfl (by kernel_rfl) ?_ AllReadyIn.nil)
                      simp only [Act.put, List.setIfInBounds_toArray, List.set_cons_zero, List.set_cons_succ]
                      refine wpAnyIn_ready (rs := [10]) (by kernel_rfl) (by simp) ?_
                      refine (openIn_value (some 52) (.pointer (some ⟨g, 3, none⟩)) rfl rfl rfl (fun c h => by cases h) rfl (by kernel_rfl) ?_ AllReadyIn.nil)
                      simp only [Act.put, List.setIfInBounds_toArray, List.set_cons_zero, List.set_cons_succ]
                      refine wpAnyIn_ready (rs := [11]) (by kernel_rfl) (by simp) ?_
                      refine (openIn_skip _ rfl rfl rfl (fun c h => by cases h) rfl (store3 (.tmp 52) rfl rfl rfl c3 f3b) ?_ AllReadyIn.nil)
                      refine wpAnyIn_done (by kernel_rfl) ?_ _
                      exact FIN.out _
        · simp only [Act.put, List.setIfInBounds_toArray, List.set_cons_zero, List.set_cons_succ]
          refine wpAnyIn_ready (rs := [1, 3]) (by kernel_rfl) (by simp) ?_
          refine (openIn_value (some 45) (.pointer (some ⟨g, 0, none⟩)) rfl rfl rfl (fun c h => by cases h) rfl (load25 (.tmp 2) rfl rfl E0.out) ?_ (openIn_value (some 47) (.pointer (some ⟨g, 0, none⟩)) rfl rfl rfl (fun c h => by cases h) rfl (by kernel_rfl) ?_ AllReadyIn.nil))
          · simp only [Act.put, List.setIfInBounds_toArray, List.set_cons_zero, List.set_cons_succ]
            refine wpAnyIn_ready (rs := [3]) (by kernel_rfl) (by simp) ?_
            refine (openIn_value (some 47) (.pointer (some ⟨g, 0, none⟩)) rfl rfl rfl (fun c h => by cases h) rfl (by kernel_rfl) ?_ AllReadyIn.nil)
            simp only [Act.put, List.setIfInBounds_toArray, List.set_cons_zero, List.set_cons_succ]
            refine wpAnyIn_ready (rs := [4]) (by kernel_rfl) (by simp) ?_
            refine (openIn_value (some 48) (.pointer (some ⟨g, 1, none⟩)) rfl rfl rfl (fun c h => by cases h) rfl (by kernel_rfl) ?_ AllReadyIn.nil)
            simp only [Act.put, List.setIfInBounds_toArray, List.set_cons_zero, List.set_cons_succ]
            refine wpAnyIn_ready (rs := [5]) (by kernel_rfl) (by simp) ?_
            refine (openIn_skip _ rfl rfl rfl (fun c h => by cases h) rfl (store63 (.tmp 48) rfl rfl rfl c1 f1) ?_ AllReadyIn.nil)
            refine wpAnyIn_ready (rs := [6]) (by kernel_rfl) (by simp) ?_
            refine (openIn_value (some 49) (.pointer (some ⟨g, 0, none⟩)) rfl rfl rfl (fun c h => by cases h) rfl (by kernel_rfl) ?_ AllReadyIn.nil)
            simp only [Act.put, List.setIfInBounds_toArray, List.set_cons_zero, List.set_cons_succ]
            refine wpAnyIn_ready (rs := [7]) (by kernel_rfl) (by simp) ?_
            refine (openIn_value (some 50) (.pointer (some ⟨g, 2, none⟩)) rfl rfl rfl (fun c h => by cases h) rfl (by kernel_rfl) ?_ AllReadyIn.nil)
            simp only [Act.put, List.setIfInBounds_toArray, List.set_cons_zero, List.set_cons_succ]
            refine wpAnyIn_ready (rs := [8]) (by kernel_rfl) (by simp) ?_
            refine (openIn_skip _ rfl rfl rfl (fun c h => by cases h) rfl (store4 (.tmp 50) rfl rfl rfl c2 f2) ?_ AllReadyIn.nil)
            refine wpAnyIn_ready (rs := [9]) (by kernel_rfl) (by simp) ?_
            refine (openIn_value (some 51) (.pointer (some ⟨g, 0, none⟩)) rfl rfl rfl (fun c h => by cases h) rfl (by kernel_rfl) ?_ AllReadyIn.nil)
            simp only [Act.put, List.setIfInBounds_toArray, List.set_cons_zero, List.set_cons_succ]
            refine wpAnyIn_ready (rs := [10]) (by kernel_rfl) (by simp) ?_
            refine (openIn_value (some 52) (.pointer (some ⟨g, 3, none⟩)) rfl rfl rfl (fun c h => by cases h) rfl (by kernel_rfl) ?_ AllReadyIn.nil)
            simp only [Act.put, List.setIfInBounds_toArray, List.set_cons_zero, List.set_cons_succ]
            refine wpAnyIn_ready (rs := [11]) (by kernel_rfl) (by simp) ?_
            refine (openIn_skip _ rfl rfl rfl (fun c h => by cases h) rfl (store3 (.tmp 52) rfl rfl rfl c3 f3b) ?_ AllReadyIn.nil)
            refine wpAnyIn_done (by kernel_rfl) ?_ _
            exact FIN.out _
          · simp only [Act.put, List.setIfInBounds_toArray, List.set_cons_zero, List.set_cons_succ]
            refine wpAnyIn_ready (rs := [1, 4]) (by kernel_rfl) (by simp) ?_
            refine (openIn_value (some 45) (.pointer (some ⟨g, 0, none⟩)) rfl rfl rfl (fun c h => by cases h) rfl (load25 (.tmp 2) rfl rfl E0.out) ?_ (openIn_value (some 48) (.pointer (some ⟨g, 1, none⟩)) rfl rfl rfl (fun c h => by cases h) rfl (by kernel_rfl) ?_ AllReadyIn.nil))
            · simp only [Act.put, List.setIfInBounds_toArray, List.set_cons_zero, List.set_cons_succ]
              refine wpAnyIn_ready (rs := [4]) (by kernel_rfl) (by simp) ?_
              refine (openIn_value (some 48) (.pointer (some ⟨g, 1, none⟩)) rfl rfl rfl (fun c h => by cases h) rfl (by kernel_rfl) ?_ AllReadyIn.nil)
              simp only [Act.put, List.setIfInBounds_toArray, List.set_cons_zero, List.set_cons_succ]
              refine wpAnyIn_ready (rs := [5]) (by kernel_rfl) (by simp) ?_
              refine (openIn_skip _ rfl rfl rfl (fun c h => by cases h) rfl (store63 (.tmp 48) rfl rfl rfl c1 f1) ?_ AllReadyIn.nil)
              refine wpAnyIn_ready (rs := [6]) (by kernel_rfl) (by simp) ?_
              refine (openIn_value (some 49) (.pointer (some ⟨g, 0, none⟩)) rfl rfl rfl (fun c h => by cases h) rfl (by kernel_rfl) ?_ AllReadyIn.nil)
              simp only [Act.put, List.setIfInBounds_toArray, List.set_cons_zero, List.set_cons_succ]
              refine wpAnyIn_ready (rs := [7]) (by kernel_rfl) (by simp) ?_
              refine (openIn_value (some 50) (.pointer (some ⟨g, 2, none⟩)) rfl rfl rfl (fun c h => by cases h) rfl (by kernel_rfl) ?_ AllReadyIn.nil)
              simp only [Act.put, List.setIfInBounds_toArray, List.set_cons_zero, List.set_cons_succ]
              refine wpAnyIn_ready (rs := [8]) (by kernel_rfl) (by simp) ?_
              refine (openIn_skip _ rfl rfl rfl (fun c h => by cases h) rfl (store4 (.tmp 50) rfl rfl rfl c2 f2) ?_ AllReadyIn.nil)
              refine wpAnyIn_ready (rs := [9]) (by kernel_rfl) (by simp) ?_
              refine (openIn_value (some 51) (.pointer (some ⟨g, 0, none⟩)) rfl rfl rfl (fun c h => by cases h) rfl (by kernel_rfl) ?_ AllReadyIn.nil)
              simp only [Act.put, List.setIfInBounds_toArray, List.set_cons_zero, List.set_cons_succ]
              refine wpAnyIn_ready (rs := [10]) (by kernel_rfl) (by simp) ?_
              refine (openIn_value (some 52) (.pointer (some ⟨g, 3, none⟩)) rfl rfl rfl (fun c h => by cases h) rfl (by kernel_rfl) ?_ AllReadyIn.nil)
              simp only [Act.put, List.setIfInBounds_toArray, List.set_cons_zero, List.set_cons_succ]
              refine wpAnyIn_ready (rs := [11]) (by kernel_rfl) (by simp) ?_
              refine (openIn_skip _ rfl rfl rfl (fun c h => by cases h) rfl (store3 (.tmp 52) rfl rfl rfl c3 f3b) ?_ AllReadyIn.nil)
              refine wpAnyIn_done (by kernel_rfl) ?_ _
              exact FIN.out _
            · simp only [Act.put, List.setIfInBounds_toArray, List.set_cons_zero, List.set_cons_succ]
              refine wpAnyIn_ready (rs := [1, 5]) (by kernel_rfl) (by simp) ?_
              refine (openIn_value (some 45) (.pointer (some ⟨g, 0, none⟩)) rfl rfl rfl (fun c h => by cases h) rfl (load25 (.tmp 2) rfl rfl E0.out) ?_ (openIn_skip _ rfl rfl rfl (fun c h => by cases h) rfl (store63 (.tmp 48) rfl rfl rfl c1 f1) ?_ AllReadyIn.nil))
              · simp only [Act.put, List.setIfInBounds_toArray, List.set_cons_zero, List.set_cons_succ]
                refine wpAnyIn_ready (rs := [5]) (by kernel_rfl) (by simp) ?_
                refine (openIn_skip _ rfl rfl rfl (fun c h => by cases h) rfl (store63 (.tmp 48) rfl rfl rfl c1 f1) ?_ AllReadyIn.nil)
                refine wpAnyIn_ready (rs := [6]) (by kernel_rfl) (by simp) ?_
                refine (openIn_value (some 49) (.pointer (some ⟨g, 0, none⟩)) rfl rfl rfl (fun c h => by cases h) rfl (by kernel_rfl) ?_ AllReadyIn.nil)
                simp only [Act.put, List.setIfInBounds_toArray, List.set_cons_zero, List.set_cons_succ]
                refine wpAnyIn_ready (rs := [7]) (by kernel_rfl) (by simp) ?_
                refine (openIn_value (some 50) (.pointer (some ⟨g, 2, none⟩)) rfl rfl rfl (fun c h => by cases h) rfl (by kernel_rfl) ?_ AllReadyIn.nil)
                simp only [Act.put, List.setIfInBounds_toArray, List.set_cons_zero, List.set_cons_succ]
                refine wpAnyIn_ready (rs := [8]) (by kernel_rfl) (by simp) ?_
                refine (openIn_skip _ rfl rfl rfl (fun c h => by cases h) rfl (store4 (.tmp 50) rfl rfl rfl c2 f2) ?_ AllReadyIn.nil)
                refine wpAnyIn_ready (rs := [9]) (by kernel_rfl) (by simp) ?_
                refine (openIn_value (some 51) (.pointer (some ⟨g, 0, none⟩)) rfl rfl rfl (fun c h => by cases h) rfl (by kernel_rfl) ?_ AllReadyIn.nil)
                simp only [Act.put, List.setIfInBounds_toArray, List.set_cons_zero, List.set_cons_succ]
                refine wpAnyIn_ready (rs := [10]) (by kernel_rfl) (by simp) ?_
                refine (openIn_value (some 52) (.pointer (some ⟨g, 3, none⟩)) rfl rfl rfl (fun c h => by cases h) rfl (by kernel_rfl) ?_ AllReadyIn.nil)
                simp only [Act.put, List.setIfInBounds_toArray, List.set_cons_zero, List.set_cons_succ]
                refine wpAnyIn_ready (rs := [11]) (by kernel_rfl) (by simp) ?_
                refine (openIn_skip _ rfl rfl rfl (fun c h => by cases h) rfl (store3 (.tmp 52) rfl rfl rfl c3 f3b) ?_ AllReadyIn.nil)
                refine wpAnyIn_done (by kernel_rfl) ?_ _
                exact FIN.out _
              · refine wpAnyIn_ready (rs := [1]) (by kernel_rfl) (by simp) ?_
                refine (openIn_value (some 45) (.pointer (some ⟨g, 0, none⟩)) rfl rfl rfl (fun c h => by cases h) rfl (load25 (.tmp 2) rfl rfl E1.out) ?_ AllReadyIn.nil)
                simp only [Act.put, List.setIfInBounds_toArray, List.set_cons_zero, List.set_cons_succ]
                refine wpAnyIn_ready (rs := [6]) (by kernel_rfl) (by simp) ?_
                refine (openIn_value (some 49) (.pointer (some ⟨g, 0, none⟩)) rfl rfl rfl (fun c h => by cases h) rfl (by kernel_rfl) ?_ AllReadyIn.nil)
                simp only [Act.put, List.setIfInBounds_toArray, List.set_cons_zero, List.set_cons_succ]
                refine wpAnyIn_ready (rs := [7]) (by kernel_rfl) (by simp) ?_
                refine (openIn_value (some 50) (.pointer (some ⟨g, 2, none⟩)) rfl rfl rfl (fun c h => by cases h) rfl (by kernel_rfl) ?_ AllReadyIn.nil)
                simp only [Act.put, List.setIfInBounds_toArray, List.set_cons_zero, List.set_cons_succ]
                refine wpAnyIn_ready (rs := [8]) (by kernel_rfl) (by simp) ?_
                refine (openIn_skip _ rfl rfl rfl (fun c h => by cases h) rfl (store4 (.tmp 50) rfl rfl rfl c2 f2) ?_ AllReadyIn.nil)
                refine wpAnyIn_ready (rs := [9]) (by kernel_rfl) (by simp) ?_
                refine (openIn_value (some 51) (.pointer (some ⟨g, 0, none⟩)) rfl rfl rfl (fun c h => by cases h) rfl (by kernel_rfl) ?_ AllReadyIn.nil)
                simp only [Act.put, List.setIfInBounds_toArray, List.set_cons_zero, List.set_cons_succ]
                refine wpAnyIn_ready (rs := [10]) (by kernel_rfl) (by simp) ?_
                refine (openIn_value (some 52) (.pointer (some ⟨g, 3, none⟩)) rfl rfl rfl (fun c h => by cases h) rfl (by kernel_rfl) ?_ AllReadyIn.nil)
                simp only [Act.put, List.setIfInBounds_toArray, List.set_cons_zero, List.set_cons_succ]
                refine wpAnyIn_ready (rs := [11]) (by kernel_rfl) (by simp) ?_
                refine (openIn_skip _ rfl rfl rfl (fun c h => by cases h) rfl (store3 (.tmp 52) rfl rfl rfl c3 f3b) ?_ AllReadyIn.nil)
                refine wpAnyIn_done (by kernel_rfl) ?_ _
                exact FIN.out _
        · simp only [Act.put, List.setIfInBounds_toArray, List.set_cons_zero, List.set_cons_succ]
          refine wpAnyIn_ready (rs := [1, 2, 4]) (by kernel_rfl) (by simp) ?_
          refine (openIn_value (some 45) (.pointer (some ⟨g, 0, none⟩)) rfl rfl rfl (fun c h => by cases h) rfl (load25 (.tmp 2) rfl rfl E0.out) ?_ (openIn_value (some 46) (.pointer (some ⟨g, 0, none⟩)) rfl rfl rfl (fun c h => by cases h) rfl (load25 (.tmp 2) rfl rfl E0.out) ?_ (openIn_value (some 48) (.pointer (some ⟨g, 1, none⟩)) rfl rfl rfl (fun c h => by cases h) rfl (by kernel_rfl) ?_ AllReadyIn.nil)))
          · simp only [Act.put, List.setIfInBounds_toArray, List.set_cons_zero, List.set_cons_succ]
            refine wpAnyIn_ready (rs := [2, 4]) (by kernel_rfl) (by simp) ?_
            refine (openIn_value (some 46) (.pointer (some ⟨g, 0, none⟩)) rfl rfl rfl (fun c h => by cases h) rfl (load25 (.tmp 2) rfl rfl E0.out) ?_ (openIn_value (some 48) (.pointer (some ⟨g, 1, none⟩)) rfl rfl rfl (fun c h => by cases h) rfl (by kernel_rfl) ?_ AllReadyIn.nil))
            · simp only [Act.put, List.setIfInBounds_toArray, List.set_cons_zero, List.set_cons_succ]
              refine wpAnyIn_ready (rs := [4]) (by kernel_rfl) (by simp) ?_
              refine (openIn_value (some 48) (.pointer (some ⟨g, 1, none⟩)) rfl rfl rfl (fun c h => by cases h) rfl (by kernel_rfl) ?_ AllReadyIn.nil)
              simp only [Act.put, List.setIfInBounds_toArray, List.set_cons_zero, List.set_cons_succ]
              refine wpAnyIn_ready (rs := [5]) (by kernel_rfl) (by simp) ?_
              refine (openIn_skip _ rfl rfl rfl (fun c h => by cases h) rfl (store63 (.tmp 48) rfl rfl rfl c1 f1) ?_ AllReadyIn.nil)
              refine wpAnyIn_ready (rs := [6]) (by kernel_rfl) (by simp) ?_
              refine (openIn_value (some 49) (.pointer (some ⟨g, 0, none⟩)) rfl rfl rfl (fun c h => by cases h) rfl (by kernel_rfl) ?_ AllReadyIn.nil)
              simp only [Act.put, List.setIfInBounds_toArray, List.set_cons_zero, List.set_cons_succ]
              refine wpAnyIn_ready (rs := [7]) (by kernel_rfl) (by simp) ?_
              refine (openIn_value (some 50) (.pointer (some ⟨g, 2, none⟩)) rfl rfl rfl (fun c h => by cases h) rfl (by kernel_rfl) ?_ AllReadyIn.nil)
              simp only [Act.put, List.setIfInBounds_toArray, List.set_cons_zero, List.set_cons_succ]
              refine wpAnyIn_ready (rs := [8]) (by kernel_rfl) (by simp) ?_
              refine (openIn_skip _ rfl rfl rfl (fun c h => by cases h) rfl (store4 (.tmp 50) rfl rfl rfl c2 f2) ?_ AllReadyIn.nil)
              refine wpAnyIn_ready (rs := [9]) (by kernel_rfl) (by simp) ?_
              refine (openIn_value (some 51) (.pointer (some ⟨g, 0, none⟩)) rfl rfl rfl (fun c h => by cases h) rfl (by kernel_rfl) ?_ AllReadyIn.nil)
              simp only [Act.put, List.setIfInBounds_toArray, List.set_cons_zero, List.set_cons_succ]
              refine wpAnyIn_ready (rs := [10]) (by kernel_rfl) (by simp) ?_
              refine (openIn_value (some 52) (.pointer (some ⟨g, 3, none⟩)) rfl rfl rfl (fun c h => by cases h) rfl (by kernel_rfl) ?_ AllReadyIn.nil)
              simp only [Act.put, List.setIfInBounds_toArray, List.set_cons_zero, List.set_cons_succ]
              refine wpAnyIn_ready (rs := [11]) (by kernel_rfl) (by simp) ?_
              refine (openIn_skip _ rfl rfl rfl (fun c h => by cases h) rfl (store3 (.tmp 52) rfl rfl rfl c3 f3b) ?_ AllReadyIn.nil)
              refine wpAnyIn_done (by kernel_rfl) ?_ _
              exact FIN.out _
            · simp only [Act.put, List.setIfInBounds_toArray, List.set_cons_zero, List.set_cons_succ]
              refine wpAnyIn_ready (rs := [2, 5]) (by kernel_rfl) (by simp) ?_
              refine (openIn_value (some 46) (.pointer (some ⟨g, 0, none⟩)) rfl rfl rfl (fun c h => by cases h) rfl (load25 (.tmp 2) rfl rfl E0.out) ?_ (openIn_skip _ rfl rfl rfl (fun c h => by cases h) rfl (store63 (.tmp 48) rfl rfl rfl c1 f1) ?_ AllReadyIn.nil))
              · simp only [Act.put, List.setIfInBounds_toArray, List.set_cons_zero, List.set_cons_succ]
                refine wpAnyIn_ready (rs := [5]) (by kernel_rfl) (by simp) ?_
                refine (openIn_skip _ rfl rfl rfl (fun c h => by cases h) rfl (store63 (.tmp 48) rfl rfl rfl c1 f1) ?_ AllReadyIn.nil)
                refine wpAnyIn_ready (rs := [6]) (by kernel_rfl) (by simp) ?_
                refine (openIn_value (some 49) (.pointer (some ⟨g, 0, none⟩)) rfl rfl rfl (fun c h => by cases h) rfl (by kernel_rfl) ?_ AllReadyIn.nil)
                simp only [Act.put, List.setIfInBounds_toArray, List.set_cons_zero, List.set_cons_succ]
                refine wpAnyIn_ready (rs := [7]) (by kernel_rfl) (by simp) ?_
                refine (openIn_value (some 50) (.pointer (some ⟨g, 2, none⟩)) rfl rfl rfl (fun c h => by cases h) rfl (by kernel_rfl) ?_ AllReadyIn.nil)
                simp only [Act.put, List.setIfInBounds_toArray, List.set_cons_zero, List.set_cons_succ]
                refine wpAnyIn_ready (rs := [8]) (by kernel_rfl) (by simp) ?_
                refine (openIn_skip _ rfl rfl rfl (fun c h => by cases h) rfl (store4 (.tmp 50) rfl rfl rfl c2 f2) ?_ AllReadyIn.nil)
                refine wpAnyIn_ready (rs := [9]) (by kernel_rfl) (by simp) ?_
                refine (openIn_value (some 51) (.pointer (some ⟨g, 0, none⟩)) rfl rfl rfl (fun c h => by cases h) rfl (by kernel_rfl) ?_ AllReadyIn.nil)
                simp only [Act.put, List.setIfInBounds_toArray, List.set_cons_zero, List.set_cons_succ]
                refine wpAnyIn_ready (rs := [10]) (by kernel_rfl) (by simp) ?_
                refine (openIn_value (some 52) (.pointer (some ⟨g, 3, none⟩)) rfl rfl rfl (fun c h => by cases h) rfl (by kernel_rfl) ?_ AllReadyIn.nil)
                simp only [Act.put, List.setIfInBounds_toArray, List.set_cons_zero, List.set_cons_succ]
                refine wpAnyIn_ready (rs := [11]) (by kernel_rfl) (by simp) ?_
                refine (openIn_skip _ rfl rfl rfl (fun c h => by cases h) rfl (store3 (.tmp 52) rfl rfl rfl c3 f3b) ?_ AllReadyIn.nil)
                refine wpAnyIn_done (by kernel_rfl) ?_ _
                exact FIN.out _
              · refine wpAnyIn_ready (rs := [2, 6]) (by kernel_rfl) (by simp) ?_
                refine (openIn_value (some 46) (.pointer (some ⟨g, 0, none⟩)) rfl rfl rfl (fun c h => by cases h) rfl (load25 (.tmp 2) rfl rfl E1.out) ?_ (openIn_value (some 49) (.pointer (some ⟨g, 0, none⟩)) rfl rfl rfl (fun c h => by cases h) rfl (by kernel_rfl) ?_ AllReadyIn.nil))
                · simp only [Act.put, List.setIfInBounds_toArray, List.set_cons_zero, List.set_cons_succ]
                  refine wpAnyIn_ready (rs := [6]) (by kernel_rfl) (by simp) ?_
                  refine (openIn_value (some 49) (.pointer (some ⟨g, 0, none⟩)) rfl rfl rfl (fun c h => by cases h) rfl (by kernel_rfl) ?_ AllReadyIn.nil)
                  simp only [Act.put, List.setIfInBounds_toArray, List.set_cons_zero, List.set_cons_succ]
                  refine wpAnyIn_ready (rs := [7]) (by kernel_rfl) (by simp) ?_
                  refine (openIn_value (some 50) (.pointer (some ⟨g, 2, none⟩)) rfl rfl rfl (fun c h => by cases h) rfl (by kernel_rfl) ?_ AllReadyIn.nil)
                  simp only [Act.put, List.setIfInBounds_toArray, List.set_cons_zero, List.set_cons_succ]
                  refine wpAnyIn_ready (rs := [8]) (by kernel_rfl) (by simp) ?_
                  refine (openIn_skip _ rfl rfl rfl (fun c h => by cases h) rfl (store4 (.tmp 50) rfl rfl rfl c2 f2) ?_ AllReadyIn.nil)
                  refine wpAnyIn_ready (rs := [9]) (by kernel_rfl) (by simp) ?_
                  refine (openIn_value (some 51) (.pointer (some ⟨g, 0, none⟩)) rfl rfl rfl (fun c h => by cases h) rfl (by kernel_rfl) ?_ AllReadyIn.nil)
                  simp only [Act.put, List.setIfInBounds_toArray, List.set_cons_zero, List.set_cons_succ]
                  refine wpAnyIn_ready (rs := [10]) (by kernel_rfl) (by simp) ?_
                  refine (openIn_value (some 52) (.pointer (some ⟨g, 3, none⟩)) rfl rfl rfl (fun c h => by cases h) rfl (by kernel_rfl) ?_ AllReadyIn.nil)
                  simp only [Act.put, List.setIfInBounds_toArray, List.set_cons_zero, List.set_cons_succ]
                  refine wpAnyIn_ready (rs := [11]) (by kernel_rfl) (by simp) ?_
                  refine (openIn_skip _ rfl rfl rfl (fun c h => by cases h) rfl (store3 (.tmp 52) rfl rfl rfl c3 f3b) ?_ AllReadyIn.nil)
                  refine wpAnyIn_done (by kernel_rfl) ?_ _
                  exact FIN.out _
                · simp only [Act.put, List.setIfInBounds_toArray, List.set_cons_zero, List.set_cons_succ]
                  refine wpAnyIn_ready (rs := [2, 7]) (by kernel_rfl) (by simp) ?_
                  refine (openIn_value (some 46) (.pointer (some ⟨g, 0, none⟩)) rfl rfl rfl (fun c h => by cases h) rfl (load25 (.tmp 2) rfl rfl E1.out) ?_ (openIn_value (some 50) (.pointer (some ⟨g, 2, none⟩)) rfl rfl rfl (fun c h => by cases h) rfl (by kernel_rfl) ?_ AllReadyIn.nil))
                  · simp only [Act.put, List.setIfInBounds_toArray, List.set_cons_zero, List.set_cons_succ]
                    refine wpAnyIn_ready (rs := [7]) (by kernel_rfl) (by simp) ?_
                    refine (openIn_value (some 50) (.pointer (some ⟨g, 2, none⟩)) rfl rfl rfl (fun c h => by cases h) rfl (by kernel_rfl) ?_ AllReadyIn.nil)
                    simp only [Act.put, List.setIfInBounds_toArray, List.set_cons_zero, List.set_cons_succ]
                    refine wpAnyIn_ready (rs := [8]) (by kernel_rfl) (by simp) ?_
                    refine (openIn_skip _ rfl rfl rfl (fun c h => by cases h) rfl (store4 (.tmp 50) rfl rfl rfl c2 f2) ?_ AllReadyIn.nil)
                    refine wpAnyIn_ready (rs := [9]) (by kernel_rfl) (by simp) ?_
                    refine (openIn_value (some 51) (.pointer (some ⟨g, 0, none⟩)) rfl rfl rfl (fun c h => by cases h) rfl (by kernel_rfl) ?_ AllReadyIn.nil)
                    simp only [Act.put, List.setIfInBounds_toArray, List.set_cons_zero, List.set_cons_succ]
                    refine wpAnyIn_ready (rs := [10]) (by kernel_rfl) (by simp) ?_
                    refine (openIn_value (some 52) (.pointer (some ⟨g, 3, none⟩)) rfl rfl rfl (fun c h => by cases h) rfl (by kernel_rfl) ?_ AllReadyIn.nil)
                    simp only [Act.put, List.setIfInBounds_toArray, List.set_cons_zero, List.set_cons_succ]
                    refine wpAnyIn_ready (rs := [11]) (by kernel_rfl) (by simp) ?_
                    refine (openIn_skip _ rfl rfl rfl (fun c h => by cases h) rfl (store3 (.tmp 52) rfl rfl rfl c3 f3b) ?_ AllReadyIn.nil)
                    refine wpAnyIn_done (by kernel_rfl) ?_ _
                    exact FIN.out _
                  · simp only [Act.put, List.setIfInBounds_toArray, List.set_cons_zero, List.set_cons_succ]
                    refine wpAnyIn_ready (rs := [2, 8]) (by kernel_rfl) (by simp) ?_
                    refine (openIn_value (some 46) (.pointer (some ⟨g, 0, none⟩)) rfl rfl rfl (fun c h => by cases h) rfl (load25 (.tmp 2) rfl rfl E1.out) ?_ (openIn_skip _ rfl rfl rfl (fun c h => by cases h) rfl (store4 (.tmp 50) rfl rfl rfl c2 f2) ?_ AllReadyIn.nil))
                    · simp only [Act.put, List.setIfInBounds_toArray, List.set_cons_zero, List.set_cons_succ]
                      refine wpAnyIn_ready (rs := [8]) (by kernel_rfl) (by simp) ?_
                      refine (openIn_skip _ rfl rfl rfl (fun c h => by cases h) rfl (store4 (.tmp 50) rfl rfl rfl c2 f2) ?_ AllReadyIn.nil)
                      refine wpAnyIn_ready (rs := [9]) (by kernel_rfl) (by simp) ?_
                      refine (openIn_value (some 51) (.pointer (some ⟨g, 0, none⟩)) rfl rfl rfl (fun c h => by cases h) rfl (by kernel_rfl) ?_ AllReadyIn.nil)
                      simp only [Act.put, List.setIfInBounds_toArray, List.set_cons_zero, List.set_cons_succ]
                      refine wpAnyIn_ready (rs := [10]) (by kernel_rfl) (by simp) ?_
                      refine (openIn_value (some 52) (.pointer (some ⟨g, 3, none⟩)) rfl rfl rfl (fun c h => by cases h) rfl (by kernel_rfl) ?_ AllReadyIn.nil)
                      simp only [Act.put, List.setIfInBounds_toArray, List.set_cons_zero, List.set_cons_succ]
                      refine wpAnyIn_ready (rs := [11]) (by kernel_rfl) (by simp) ?_
                      refine (openIn_skip _ rfl rfl rfl (fun c h => by cases h) rfl (store3 (.tmp 52) rfl rfl rfl c3 f3b) ?_ AllReadyIn.nil)
                      refine wpAnyIn_done (by kernel_rfl) ?_ _
                      exact FIN.out _
                    · refine wpAnyIn_ready (rs := [2]) (by kernel_rfl) (by simp) ?_
                      refine (openIn_value (some 46) (.pointer (some ⟨g, 0, none⟩)) rfl rfl rfl (fun c h => by cases h) rfl (load25 (.tmp 2) rfl rfl E2.out) ?_ AllReadyIn.nil)
                      simp only [Act.put, List.setIfInBounds_toArray, List.set_cons_zero, List.set_cons_succ]
                      refine wpAnyIn_ready (rs := [9]) (by kernel_rfl) (by simp) ?_
                      refine (openIn_value (some 51) (.pointer (some ⟨g, 0, none⟩)) rfl rfl rfl (fun c h => by cases h) rfl (by kernel_rfl) ?_ AllReadyIn.nil)
                      simp only [Act.put, List.setIfInBounds_toArray, List.set_cons_zero, List.set_cons_succ]
                      refine wpAnyIn_ready (rs := [10]) (by kernel_rfl) (by simp) ?_
                      refine (openIn_value (some 52) (.pointer (some ⟨g, 3, none⟩)) rfl rfl rfl (fun c h => by cases h) rfl (by kernel_rfl) ?_ AllReadyIn.nil)
                      simp only [Act.put, List.setIfInBounds_toArray, List.set_cons_zero, List.set_cons_succ]
                      refine wpAnyIn_ready (rs := [11]) (by kernel_rfl) (by simp) ?_
                      refine (openIn_skip _ rfl rfl rfl (fun c h => by cases h) rfl (store3 (.tmp 52) rfl rfl rfl c3 f3b) ?_ AllReadyIn.nil)
                      refine wpAnyIn_done (by kernel_rfl) ?_ _
                      exact FIN.out _
          · simp only [Act.put, List.setIfInBounds_toArray, List.set_cons_zero, List.set_cons_succ]
            refine wpAnyIn_ready (rs := [1, 4]) (by kernel_rfl) (by simp) ?_
            refine (openIn_value (some 45) (.pointer (some ⟨g, 0, none⟩)) rfl rfl rfl (fun c h => by cases h) rfl (load25 (.tmp 2) rfl rfl E0.out) ?_ (openIn_value (some 48) (.pointer (some ⟨g, 1, none⟩)) rfl rfl rfl (fun c h => by cases h) rfl (by kernel_rfl) ?_ AllReadyIn.nil))
            · simp only [Act.put, List.setIfInBounds_toArray, List.set_cons_zero, List.set_cons_succ]
              refine wpAnyIn_ready (rs := [4]) (by kernel_rfl) (by simp) ?_
              refine (openIn_value (some 48) (.pointer (some ⟨g, 1, none⟩)) rfl rfl rfl (fun c h => by cases h) rfl (by kernel_rfl) ?_ AllReadyIn.nil)
              simp only [Act.put, List.setIfInBounds_toArray, List.set_cons_zero, List.set_cons_succ]
              refine wpAnyIn_ready (rs := [5]) (by kernel_rfl) (by simp) ?_
              refine (openIn_skip _ rfl rfl rfl (fun c h => by cases h) rfl (store63 (.tmp 48) rfl rfl rfl c1 f1) ?_ AllReadyIn.nil)
              refine wpAnyIn_ready (rs := [6]) (by kernel_rfl) (by simp) ?_
              refine (openIn_value (some 49) (.pointer (some ⟨g, 0, none⟩)) rfl rfl rfl (fun c h => by cases h) rfl (by kernel_rfl) ?_ AllReadyIn.nil)
              simp only [Act.put, List.setIfInBounds_toArray, List.set_cons_zero, List.set_cons_succ]
              refine wpAnyIn_ready (rs := [7]) (by kernel_rfl) (by simp) ?_
              refine (openIn_value (some 50) (.pointer (some ⟨g, 2, none⟩)) rfl rfl rfl (fun c h => by cases h) rfl (by kernel_rfl) ?_ AllReadyIn.nil)
              simp only [Act.put, List.setIfInBounds_toArray, List.set_cons_zero, List.set_cons_succ]
              refine wpAnyIn_ready (rs := [8]) (by kernel_rfl) (by simp) ?_
              refine (openIn_skip _ rfl rfl rfl (fun c h => by cases h) rfl (store4 (.tmp 50) rfl rfl rfl c2 f2) ?_ AllReadyIn.nil)
              refine wpAnyIn_ready (rs := [9]) (by kernel_rfl) (by simp) ?_
              refine (openIn_value (some 51) (.pointer (some ⟨g, 0, none⟩)) rfl rfl rfl (fun c h => by cases h) rfl (by kernel_rfl) ?_ AllReadyIn.nil)
              simp only [Act.put, List.setIfInBounds_toArray, List.set_cons_zero, List.set_cons_succ]
              refine wpAnyIn_ready (rs := [10]) (by kernel_rfl) (by simp) ?_
              refine (openIn_value (some 52) (.pointer (some ⟨g, 3, none⟩)) rfl rfl rfl (fun c h => by cases h) rfl (by kernel_rfl) ?_ AllReadyIn.nil)
              simp only [Act.put, List.setIfInBounds_toArray, List.set_cons_zero, List.set_cons_succ]
              refine wpAnyIn_ready (rs := [11]) (by kernel_rfl) (by simp) ?_
              refine (openIn_skip _ rfl rfl rfl (fun c h => by cases h) rfl (store3 (.tmp 52) rfl rfl rfl c3 f3b) ?_ AllReadyIn.nil)
              refine wpAnyIn_done (by kernel_rfl) ?_ _
              exact FIN.out _
            · simp only [Act.put, List.setIfInBounds_toArray, List.set_cons_zero, List.set_cons_succ]
              refine wpAnyIn_ready (rs := [1, 5]) (by kernel_rfl) (by simp) ?_
              refine (openIn_value (some 45) (.pointer (some ⟨g, 0, none⟩)) rfl rfl rfl (fun c h => by cases h) rfl (load25 (.tmp 2) rfl rfl E0.out) ?_ (openIn_skip _ rfl rfl rfl (fun c h => by cases h) rfl (store63 (.tmp 48) rfl rfl rfl c1 f1) ?_ AllReadyIn.nil))
              · simp only [Act.put, List.setIfInBounds_toArray, List.set_cons_zero, List.set_cons_succ]
                refine wpAnyIn_ready (rs := [5]) (by kernel_rfl) (by simp) ?_
                refine (openIn_skip _ rfl rfl rfl (fun c h => by cases h) rfl (store63 (.tmp 48) rfl rfl rfl c1 f1) ?_ AllReadyIn.nil)
                refine wpAnyIn_ready (rs := [6]) (by kernel_rfl) (by simp) ?_
                refine (openIn_value (some 49) (.pointer (some ⟨g, 0, none⟩)) rfl rfl rfl (fun c h => by cases h) rfl (by kernel_rfl) ?_ AllReadyIn.nil)
                simp only [Act.put, List.setIfInBounds_toArray, List.set_cons_zero, List.set_cons_succ]
                refine wpAnyIn_ready (rs := [7]) (by kernel_rfl) (by simp) ?_
                refine (openIn_value (some 50) (.pointer (some ⟨g, 2, none⟩)) rfl rfl rfl (fun c h => by cases h) rfl (by kernel_rfl) ?_ AllReadyIn.nil)
                simp only [Act.put, List.setIfInBounds_toArray, List.set_cons_zero, List.set_cons_succ]
                refine wpAnyIn_ready (rs := [8]) (by kernel_rfl) (by simp) ?_
                refine (openIn_skip _ rfl rfl rfl (fun c h => by cases h) rfl (store4 (.tmp 50) rfl rfl rfl c2 f2) ?_ AllReadyIn.nil)
                refine wpAnyIn_ready (rs := [9]) (by kernel_rfl) (by simp) ?_
                refine (openIn_value (some 51) (.pointer (some ⟨g, 0, none⟩)) rfl rfl rfl (fun c h => by cases h) rfl (by kernel_rfl) ?_ AllReadyIn.nil)
                simp only [Act.put, List.setIfInBounds_toArray, List.set_cons_zero, List.set_cons_succ]
                refine wpAnyIn_ready (rs := [10]) (by kernel_rfl) (by simp) ?_
                refine (openIn_value (some 52) (.pointer (some ⟨g, 3, none⟩)) rfl rfl rfl (fun c h => by cases h) rfl (by kernel_rfl) ?_ AllReadyIn.nil)
                simp only [Act.put, List.setIfInBounds_toArray, List.set_cons_zero, List.set_cons_succ]
                refine wpAnyIn_ready (rs := [11]) (by kernel_rfl) (by simp) ?_
                refine (openIn_skip _ rfl rfl rfl (fun c h => by cases h) rfl (store3 (.tmp 52) rfl rfl rfl c3 f3b) ?_ AllReadyIn.nil)
                refine wpAnyIn_done (by kernel_rfl) ?_ _
                exact FIN.out _
              · refine wpAnyIn_ready (rs := [1]) (by kernel_rfl) (by simp) ?_
                refine (openIn_value (some 45) (.pointer (some ⟨g, 0, none⟩)) rfl rfl rfl (fun c h => by cases h) rfl (load25 (.tmp 2) rfl rfl E1.out) ?_ AllReadyIn.nil)
                simp only [Act.put, List.setIfInBounds_toArray, List.set_cons_zero, List.set_cons_succ]
                refine wpAnyIn_ready (rs := [6]) (by kernel_rfl) (by simp) ?_
                refine (openIn_value (some 49) (.pointer (some ⟨g, 0, none⟩)) rfl rfl rfl (fun c h => by cases h) rfl (by kernel_rfl) ?_ AllReadyIn.nil)
                simp only [Act.put, List.setIfInBounds_toArray, List.set_cons_zero, List.set_cons_succ]
                refine wpAnyIn_ready (rs := [7]) (by kernel_rfl) (by simp) ?_
                refine (openIn_value (some 50) (.pointer (some ⟨g, 2, none⟩)) rfl rfl rfl (fun c h => by cases h) rfl (by kernel_rfl) ?_ AllReadyIn.nil)
                simp only [Act.put, List.setIfInBounds_toArray, List.set_cons_zero, List.set_cons_succ]
                refine wpAnyIn_ready (rs := [8]) (by kernel_rfl) (by simp) ?_
                refine (openIn_skip _ rfl rfl rfl (fun c h => by cases h) rfl (store4 (.tmp 50) rfl rfl rfl c2 f2) ?_ AllReadyIn.nil)
                refine wpAnyIn_ready (rs := [9]) (by kernel_rfl) (by simp) ?_
                refine (openIn_value (some 51) (.pointer (some ⟨g, 0, none⟩)) rfl rfl rfl (fun c h => by cases h) rfl (by kernel_rfl) ?_ AllReadyIn.nil)
                simp only [Act.put, List.setIfInBounds_toArray, List.set_cons_zero, List.set_cons_succ]
                refine wpAnyIn_ready (rs := [10]) (by kernel_rfl) (by simp) ?_
                refine (openIn_value (some 52) (.pointer (some ⟨g, 3, none⟩)) rfl rfl rfl (fun c h => by cases h) rfl (by kernel_rfl) ?_ AllReadyIn.nil)
                simp only [Act.put, List.setIfInBounds_toArray, List.set_cons_zero, List.set_cons_succ]
                refine wpAnyIn_ready (rs := [11]) (by kernel_rfl) (by simp) ?_
                refine (openIn_skip _ rfl rfl rfl (fun c h => by cases h) rfl (store3 (.tmp 52) rfl rfl rfl c3 f3b) ?_ AllReadyIn.nil)
                refine wpAnyIn_done (by kernel_rfl) ?_ _
                exact FIN.out _
          · simp only [Act.put, List.setIfInBounds_toArray, List.set_cons_zero, List.set_cons_succ]
            refine wpAnyIn_ready (rs := [1, 2, 5]) (by kernel_rfl) (by simp) ?_
            refine (openIn_value (some 45) (.pointer (some ⟨g, 0, none⟩)) rfl rfl rfl (fun c h => by cases h) rfl (load25 (.tmp 2) rfl rfl E0.out) ?_ (openIn_value (some 46) (.pointer (some ⟨g, 0, none⟩)) rfl rfl rfl (fun c h => by cases h) rfl (load25 (.tmp 2) rfl rfl E0.out) ?_ (openIn_skip _ rfl rfl rfl (fun c h => by cases h) rfl (store63 (.tmp 48) rfl rfl rfl c1 f1) ?_ AllReadyIn.nil)))
            · simp only [Act.put, List.setIfInBounds_toArray, List.set_cons_zero, List.set_cons_succ]
              refine wpAnyIn_ready (rs := [2, 5]) (by kernel_rfl) (by simp) ?_
              refine (openIn_value (some 46) (.pointer (some ⟨g, 0, none⟩)) rfl rfl rfl (fun c h => by cases h) rfl (load25 (.tmp 2) rfl rfl E0.out) ?_ (openIn_skip _ rfl rfl rfl (fun c h => by cases h) rfl (store63 (.tmp 48) rfl rfl rfl c1 f1) ?_ AllReadyIn.nil))
              · simp only [Act.put, List.setIfInBounds_toArray, List.set_cons_zero, List.set_cons_succ]
                refine wpAnyIn_ready (rs := [5]) (by kernel_rfl) (by simp) ?_
                refine (openIn_skip _ rfl rfl rfl (fun c h => by cases h) rfl (store63 (.tmp 48) rfl rfl rfl c1 f1) ?_ AllReadyIn.nil)
                refine wpAnyIn_ready (rs := [6]) (by kernel_rfl) (by simp) ?_
                refine (openIn_value (some 49) (.pointer (some ⟨g, 0, none⟩)) rfl rfl rfl (fun c h => by cases h) rfl (by kernel_rfl) ?_ AllReadyIn.nil)
                simp only [Act.put, List.setIfInBounds_toArray, List.set_cons_zero, List.set_cons_succ]
                refine wpAnyIn_ready (rs := [7]) (by kernel_rfl) (by simp) ?_
                refine (openIn_value (some 50) (.pointer (some ⟨g, 2, none⟩)) rfl rfl rfl (fun c h => by cases h) rfl (by kernel_rfl) ?_ AllReadyIn.nil)
                simp only [Act.put, List.setIfInBounds_toArray, List.set_cons_zero, List.set_cons_succ]
                refine wpAnyIn_ready (rs := [8]) (by kernel_rfl) (by simp) ?_
                refine (openIn_skip _ rfl rfl rfl (fun c h => by cases h) rfl (store4 (.tmp 50) rfl rfl rfl c2 f2) ?_ AllReadyIn.nil)
                refine wpAnyIn_ready (rs := [9]) (by kernel_rfl) (by simp) ?_
                refine (openIn_value (some 51) (.pointer (some ⟨g, 0, none⟩)) rfl rfl rfl (fun c h => by cases h) rfl (by kernel_rfl) ?_ AllReadyIn.nil)
                simp only [Act.put, List.setIfInBounds_toArray, List.set_cons_zero, List.set_cons_succ]
                refine wpAnyIn_ready (rs := [10]) (by kernel_rfl) (by simp) ?_
                refine (openIn_value (some 52) (.pointer (some ⟨g, 3, none⟩)) rfl rfl rfl (fun c h => by cases h) rfl (by kernel_rfl) ?_ AllReadyIn.nil)
                simp only [Act.put, List.setIfInBounds_toArray, List.set_cons_zero, List.set_cons_succ]
                refine wpAnyIn_ready (rs := [11]) (by kernel_rfl) (by simp) ?_
                refine (openIn_skip _ rfl rfl rfl (fun c h => by cases h) rfl (store3 (.tmp 52) rfl rfl rfl c3 f3b) ?_ AllReadyIn.nil)
                refine wpAnyIn_done (by kernel_rfl) ?_ _
                exact FIN.out _
              · refine wpAnyIn_ready (rs := [2, 6]) (by kernel_rfl) (by simp) ?_
                refine (openIn_value (some 46) (.pointer (some ⟨g, 0, none⟩)) rfl rfl rfl (fun c h => by cases h) rfl (load25 (.tmp 2) rfl rfl E1.out) ?_ (openIn_value (some 49) (.pointer (some ⟨g, 0, none⟩)) rfl rfl rfl (fun c h => by cases h) rfl (by kernel_rfl) ?_ AllReadyIn.nil))
                · simp only [Act.put, List.setIfInBounds_toArray, List.set_cons_zero, List.set_cons_succ]
                  refine wpAnyIn_ready (rs := [6]) (by kernel_rfl) (by simp) ?_
                  refine (openIn_value (some 49) (.pointer (some ⟨g, 0, none⟩)) rfl rfl rfl (fun c h => by cases h) rfl (by kernel_rfl) ?_ AllReadyIn.nil)
                  simp only [Act.put, List.setIfInBounds_toArray, List.set_cons_zero, List.set_cons_succ]
                  refine wpAnyIn_ready (rs := [7]) (by kernel_rfl) (by simp) ?_
                  refine (openIn_value (some 50) (.pointer (some ⟨g, 2, none⟩)) rfl rfl rfl (fun c h => by cases h) rfl (by kernel_rfl) ?_ AllReadyIn.nil)
                  simp only [Act.put, List.setIfInBounds_toArray, List.set_cons_zero, List.set_cons_succ]
                  refine wpAnyIn_ready (rs := [8]) (by kernel_rfl) (by simp) ?_
                  refine (openIn_skip _ rfl rfl rfl (fun c h => by cases h) rfl (store4 (.tmp 50) rfl rfl rfl c2 f2) ?_ AllReadyIn.nil)
                  refine wpAnyIn_ready (rs := [9]) (by kernel_rfl) (by simp) ?_
                  refine (openIn_value (some 51) (.pointer (some ⟨g, 0, none⟩)) rfl rfl rfl (fun c h => by cases h) rfl (by kernel_rfl) ?_ AllReadyIn.nil)
                  simp only [Act.put, List.setIfInBounds_toArray, List.set_cons_zero, List.set_cons_succ]
                  refine wpAnyIn_ready (rs := [10]) (by kernel_rfl) (by simp) ?_
                  refine (openIn_value (some 52) (.pointer (some ⟨g, 3, none⟩)) rfl rfl rfl (fun c h => by cases h) rfl (by kernel_rfl) ?_ AllReadyIn.nil)
                  simp only [Act.put, List.setIfInBounds_toArray, List.set_cons_zero, List.set_cons_succ]
                  refine wpAnyIn_ready (rs := [11]) (by kernel_rfl) (by simp) ?_
                  refine (openIn_skip _ rfl rfl rfl (fun c h => by cases h) rfl (store3 (.tmp 52) rfl rfl rfl c3 f3b) ?_ AllReadyIn.nil)
                  refine wpAnyIn_done (by kernel_rfl) ?_ _
                  exact FIN.out _
                · simp only [Act.put, List.setIfInBounds_toArray, List.set_cons_zero, List.set_cons_succ]
                  refine wpAnyIn_ready (rs := [2, 7]) (by kernel_rfl) (by simp) ?_
                  refine (openIn_value (some 46) (.pointer (some ⟨g, 0, none⟩)) rfl rfl rfl (fun c h => by cases h) rfl (load25 (.tmp 2) rfl rfl E1.out) ?_ (openIn_value (some 50) (.pointer (some ⟨g, 2, none⟩)) rfl rfl rfl (fun c h => by cases h) rfl (by kernel_rfl) ?_ AllReadyIn.nil))
                  · simp only [Act.put, List.setIfInBounds_toArray, List.set_cons_zero, List.set_cons_succ]
                    refine wpAnyIn_ready (rs := [7]) (by kernel_rfl) (by simp) ?_
                    refine (openIn_value (some 50) (.pointer (some ⟨g, 2, none⟩)) rfl rfl rfl (fun c h => by cases h) rfl (by kernel_rfl) ?_ AllReadyIn.nil)
                    simp only [Act.put, List.setIfInBounds_toArray, List.set_cons_zero, List.set_cons_succ]
                    refine wpAnyIn_ready (rs := [8]) (by kernel_rfl) (by simp) ?_
                    refine (openIn_skip _ rfl rfl rfl (fun c h => by cases h) rfl (store4 (.tmp 50) rfl rfl rfl c2 f2) ?_ AllReadyIn.nil)
                    refine wpAnyIn_ready (rs := [9]) (by kernel_rfl) (by simp) ?_
                    refine (openIn_value (some 51) (.pointer (some ⟨g, 0, none⟩)) rfl rfl rfl (fun c h => by cases h) rfl (by kernel_rfl) ?_ AllReadyIn.nil)
                    simp only [Act.put, List.setIfInBounds_toArray, List.set_cons_zero, List.set_cons_succ]
                    refine wpAnyIn_ready (rs := [10]) (by kernel_rfl) (by simp) ?_
                    refine (openIn_value (some 52) (.pointer (some ⟨g, 3, none⟩)) rfl rfl rfl (fun c h => by cases h) rfl (by kernel_rfl) ?_ AllReadyIn.nil)
                    simp only [Act.put, List.setIfInBounds_toArray, List.set_cons_zero, List.set_cons_succ]
                    refine wpAnyIn_ready (rs := [11]) (by kernel_rfl) (by simp) ?_
                    refine (openIn_skip _ rfl rfl rfl (fun c h => by cases h) rfl (store3 (.tmp 52) rfl rfl rfl c3 f3b) ?_ AllReadyIn.nil)
                    refine wpAnyIn_done (by kernel_rfl) ?_ _
                    exact FIN.out _
                  · simp only [Act.put, List.setIfInBounds_toArray, List.set_cons_zero, List.set_cons_succ]
                    refine wpAnyIn_ready (rs := [2, 8]) (by kernel_rfl) (by simp) ?_
                    refine (openIn_value (some 46) (.pointer (some ⟨g, 0, none⟩)) rfl rfl rfl (fun c h => by cases h) rfl (load25 (.tmp 2) rfl rfl E1.out) ?_ (openIn_skip _ rfl rfl rfl (fun c h => by cases h) rfl (store4 (.tmp 50) rfl rfl rfl c2 f2) ?_ AllReadyIn.nil))
                    · simp only [Act.put, List.setIfInBounds_toArray, List.set_cons_zero, List.set_cons_succ]
                      refine wpAnyIn_ready (rs := [8]) (by kernel_rfl) (by simp) ?_
                      refine (openIn_skip _ rfl rfl rfl (fun c h => by cases h) rfl (store4 (.tmp 50) rfl rfl rfl c2 f2) ?_ AllReadyIn.nil)
                      refine wpAnyIn_ready (rs := [9]) (by kernel_rfl) (by simp) ?_
                      refine (openIn_value (some 51) (.pointer (some ⟨g, 0, none⟩)) rfl rfl rfl (fun c h => by cases h) rfl (by kernel_rfl) ?_ AllReadyIn.nil)
                      simp only [Act.put, List.setIfInBounds_toArray, List.set_cons_zero, List.set_cons_succ]
                      refine wpAnyIn_ready (rs := [10]) (by kernel_rfl) (by simp) ?_
                      refine (openIn_value (some 52) (.pointer (some ⟨g, 3, none⟩)) rfl rfl rfl (fun c h => by cases h) rfl (by kernel_rfl) ?_ AllReadyIn.nil)
                      simp only [Act.put, List.setIfInBounds_toArray, List.set_cons_zero, List.set_cons_succ]
                      refine wpAnyIn_ready (rs := [11]) (by kernel_rfl) (by simp) ?_
                      refine (openIn_skip _ rfl rfl rfl (fun c h => by cases h) rfl (store3 (.tmp 52) rfl rfl rfl c3 f3b) ?_ AllReadyIn.nil)
                      refine wpAnyIn_done (by kernel_rfl) ?_ _
                      exact FIN.out _
                    · refine wpAnyIn_ready (rs := [2]) (by kernel_rfl) (by simp) ?_
                      refine (openIn_value (some 46) (.pointer (some ⟨g, 0, none⟩)) rfl rfl rfl (fun c h => by cases h) rfl (load25 (.tmp 2) rfl rfl E2.out) ?_ AllReadyIn.nil)
                      simp only [Act.put, List.setIfInBounds_toArray, List.set_cons_zero, List.set_cons_succ]
                      refine wpAnyIn_ready (rs := [9]) (by kernel_rfl) (by simp) ?_
                      refine (openIn_value (some 51) (.pointer (some ⟨g, 0, none⟩)) rfl rfl rfl (fun c h => by cases h) rfl (by kernel_rfl) ?_ AllReadyIn.nil)
                      simp only [Act.put, List.setIfInBounds_toArray, List.set_cons_zero, List.set_cons_succ]
                      refine wpAnyIn_ready (rs := [10]) (by kernel_rfl) (by simp) ?_
                      refine (openIn_value (some 52) (.pointer (some ⟨g, 3, none⟩)) rfl rfl rfl (fun c h => by cases h) rfl (by kernel_rfl) ?_ AllReadyIn.nil)
                      simp only [Act.put, List.setIfInBounds_toArray, List.set_cons_zero, List.set_cons_succ]
                      refine wpAnyIn_ready (rs := [11]) (by kernel_rfl) (by simp) ?_
                      refine (openIn_skip _ rfl rfl rfl (fun c h => by cases h) rfl (store3 (.tmp 52) rfl rfl rfl c3 f3b) ?_ AllReadyIn.nil)
                      refine wpAnyIn_done (by kernel_rfl) ?_ _
                      exact FIN.out _
            · simp only [Act.put, List.setIfInBounds_toArray, List.set_cons_zero, List.set_cons_succ]
              refine wpAnyIn_ready (rs := [1, 5]) (by kernel_rfl) (by simp) ?_
              refine (openIn_value (some 45) (.pointer (some ⟨g, 0, none⟩)) rfl rfl rfl (fun c h => by cases h) rfl (load25 (.tmp 2) rfl rfl E0.out) ?_ (openIn_skip _ rfl rfl rfl (fun c h => by cases h) rfl (store63 (.tmp 48) rfl rfl rfl c1 f1) ?_ AllReadyIn.nil))
              · simp only [Act.put, List.setIfInBounds_toArray, List.set_cons_zero, List.set_cons_succ]
                refine wpAnyIn_ready (rs := [5]) (by kernel_rfl) (by simp) ?_
                refine (openIn_skip _ rfl rfl rfl (fun c h => by cases h) rfl (store63 (.tmp 48) rfl rfl rfl c1 f1) ?_ AllReadyIn.nil)
                refine wpAnyIn_ready (rs := [6]) (by kernel_rfl) (by simp) ?_
                refine (openIn_value (some 49) (.pointer (some ⟨g, 0, none⟩)) rfl rfl rfl (fun c h => by cases h) rfl (by kernel_rfl) ?_ AllReadyIn.nil)
                simp only [Act.put, List.setIfInBounds_toArray, List.set_cons_zero, List.set_cons_succ]
                refine wpAnyIn_ready (rs := [7]) (by kernel_rfl) (by simp) ?_
                refine (openIn_value (some 50) (.pointer (some ⟨g, 2, none⟩)) rfl rfl rfl (fun c h => by cases h) rfl (by kernel_rfl) ?_ AllReadyIn.nil)
                simp only [Act.put, List.setIfInBounds_toArray, List.set_cons_zero, List.set_cons_succ]
                refine wpAnyIn_ready (rs := [8]) (by kernel_rfl) (by simp) ?_
                refine (openIn_skip _ rfl rfl rfl (fun c h => by cases h) rfl (store4 (.tmp 50) rfl rfl rfl c2 f2) ?_ AllReadyIn.nil)
                refine wpAnyIn_ready (rs := [9]) (by kernel_rfl) (by simp) ?_
                refine (openIn_value (some 51) (.pointer (some ⟨g, 0, none⟩)) rfl rfl rfl (fun c h => by cases h) rfl (by kernel_rfl) ?_ AllReadyIn.nil)
                simp only [Act.put, List.setIfInBounds_toArray, List.set_cons_zero, List.set_cons_succ]
                refine wpAnyIn_ready (rs := [10]) (by kernel_rfl) (by simp) ?_
                refine (openIn_value (some 52) (.pointer (some ⟨g, 3, none⟩)) rfl rfl rfl (fun c h => by cases h) rfl (by kernel_rfl) ?_ AllReadyIn.nil)
                simp only [Act.put, List.setIfInBounds_toArray, List.set_cons_zero, List.set_cons_succ]
                refine wpAnyIn_ready (rs := [11]) (by kernel_rfl) (by simp) ?_
                refine (openIn_skip _ rfl rfl rfl (fun c h => by cases h) rfl (store3 (.tmp 52) rfl rfl rfl c3 f3b) ?_ AllReadyIn.nil)
                refine wpAnyIn_done (by kernel_rfl) ?_ _
                exact FIN.out _
              · refine wpAnyIn_ready (rs := [1]) (by kernel_rfl) (by simp) ?_
                refine (openIn_value (some 45) (.pointer (some ⟨g, 0, none⟩)) rfl rfl rfl (fun c h => by cases h) rfl (load25 (.tmp 2) rfl rfl E1.out) ?_ AllReadyIn.nil)
                simp only [Act.put, List.setIfInBounds_toArray, List.set_cons_zero, List.set_cons_succ]
                refine wpAnyIn_ready (rs := [6]) (by kernel_rfl) (by simp) ?_
                refine (openIn_value (some 49) (.pointer (some ⟨g, 0, none⟩)) rfl rfl rfl (fun c h => by cases h) rfl (by kernel_rfl) ?_ AllReadyIn.nil)
                simp only [Act.put, List.setIfInBounds_toArray, List.set_cons_zero, List.set_cons_succ]
                refine wpAnyIn_ready (rs := [7]) (by kernel_rfl) (by simp) ?_
                refine (openIn_value (some 50) (.pointer (some ⟨g, 2, none⟩)) rfl rfl rfl (fun c h => by cases h) rfl (by kernel_rfl) ?_ AllReadyIn.nil)
                simp only [Act.put, List.setIfInBounds_toArray, List.set_cons_zero, List.set_cons_succ]
                refine wpAnyIn_ready (rs := [8]) (by kernel_rfl) (by simp) ?_
                refine (openIn_skip _ rfl rfl rfl (fun c h => by cases h) rfl (store4 (.tmp 50) rfl rfl rfl c2 f2) ?_ AllReadyIn.nil)
                refine wpAnyIn_ready (rs := [9]) (by kernel_rfl) (by simp) ?_
                refine (openIn_value (some 51) (.pointer (some ⟨g, 0, none⟩)) rfl rfl rfl (fun c h => by cases h) rfl (by kernel_rfl) ?_ AllReadyIn.nil)
                simp only [Act.put, List.setIfInBounds_toArray, List.set_cons_zero, List.set_cons_succ]
                refine wpAnyIn_ready (rs := [10]) (by kernel_rfl) (by simp) ?_
                refine (openIn_value (some 52) (.pointer (some ⟨g, 3, none⟩)) rfl rfl rfl (fun c h => by cases h) rfl (by kernel_rfl) ?_ AllReadyIn.nil)
                simp only [Act.put, List.setIfInBounds_toArray, List.set_cons_zero, List.set_cons_succ]
                refine wpAnyIn_ready (rs := [11]) (by kernel_rfl) (by simp) ?_
                refine (openIn_skip _ rfl rfl rfl (fun c h => by cases h) rfl (store3 (.tmp 52) rfl rfl rfl c3 f3b) ?_ AllReadyIn.nil)
                refine wpAnyIn_done (by kernel_rfl) ?_ _
                exact FIN.out _
            · refine wpAnyIn_ready (rs := [1, 2]) (by kernel_rfl) (by simp) ?_
              refine (openIn_value (some 45) (.pointer (some ⟨g, 0, none⟩)) rfl rfl rfl (fun c h => by cases h) rfl (load25 (.tmp 2) rfl rfl E1.out) ?_ (openIn_value (some 46) (.pointer (some ⟨g, 0, none⟩)) rfl rfl rfl (fun c h => by cases h) rfl (load25 (.tmp 2) rfl rfl E1.out) ?_ AllReadyIn.nil))
              · simp only [Act.put, List.setIfInBounds_toArray, List.set_cons_zero, List.set_cons_succ]
                refine wpAnyIn_ready (rs := [2, 6]) (by kernel_rfl) (by simp) ?_
                refine (openIn_value (some 46) (.pointer (some ⟨g, 0, none⟩)) rfl rfl rfl (fun c h => by cases h) rfl (load25 (.tmp 2) rfl rfl E1.out) ?_ (openIn_value (some 49) (.pointer (some ⟨g, 0, none⟩)) rfl rfl rfl (fun c h => by cases h) rfl (by kernel_rfl) ?_ AllReadyIn.nil))
                · simp only [Act.put, List.setIfInBounds_toArray, List.set_cons_zero, List.set_cons_succ]
                  refine wpAnyIn_ready (rs := [6]) (by kernel_rfl) (by simp) ?_
                  refine (openIn_value (some 49) (.pointer (some ⟨g, 0, none⟩)) rfl rfl rfl (fun c h => by cases h) rfl (by kernel_rfl) ?_ AllReadyIn.nil)
                  simp only [Act.put, List.setIfInBounds_toArray, List.set_cons_zero, List.set_cons_succ]
                  refine wpAnyIn_ready (rs := [7]) (by kernel_rfl) (by simp) ?_
                  refine (openIn_value (some 50) (.pointer (some ⟨g, 2, none⟩)) rfl rfl rfl (fun c h => by cases h) rfl (by kernel_rfl) ?_ AllReadyIn.nil)
                  simp only [Act.put, List.setIfInBounds_toArray, List.set_cons_zero, List.set_cons_succ]
                  refine wpAnyIn_ready (rs := [8]) (by kernel_rfl) (by simp) ?_
                  refine (openIn_skip _ rfl rfl rfl (fun c h => by cases h) rfl (store4 (.tmp 50) rfl rfl rfl c2 f2) ?_ AllReadyIn.nil)
                  refine wpAnyIn_ready (rs := [9]) (by kernel_rfl) (by simp) ?_
                  refine (openIn_value (some 51) (.pointer (some ⟨g, 0, none⟩)) rfl rfl rfl (fun c h => by cases h) rfl (by kernel_rfl) ?_ AllReadyIn.nil)
                  simp only [Act.put, List.setIfInBounds_toArray, List.set_cons_zero, List.set_cons_succ]
                  refine wpAnyIn_ready (rs := [10]) (by kernel_rfl) (by simp) ?_
                  refine (openIn_value (some 52) (.pointer (some ⟨g, 3, none⟩)) rfl rfl rfl (fun c h => by cases h) rfl (by kernel_rfl) ?_ AllReadyIn.nil)
                  simp only [Act.put, List.setIfInBounds_toArray, List.set_cons_zero, List.set_cons_succ]
                  refine wpAnyIn_ready (rs := [11]) (by kernel_rfl) (by simp) ?_
                  refine (openIn_skip _ rfl rfl rfl (fun c h => by cases h) rfl (store3 (.tmp 52) rfl rfl rfl c3 f3b) ?_ AllReadyIn.nil)
                  refine wpAnyIn_done (by kernel_rfl) ?_ _
                  exact FIN.out _
                · simp only [Act.put, List.setIfInBounds_toArray, List.set_cons_zero, List.set_cons_succ]
                  refine wpAnyIn_ready (rs := [2, 7]) (by kernel_rfl) (by simp) ?_
                  refine (openIn_value (some 46) (.pointer (some ⟨g, 0, none⟩)) rfl rfl rfl (fun c h => by cases h) rfl (load25 (.tmp 2) rfl rfl E1.out) ?_ (openIn_value (some 50) (.pointer (some ⟨g, 2, none⟩)) rfl rfl rfl (fun c h => by cases h) rfl (by kernel_rfl) ?_ AllReadyIn.nil))
                  · simp only [Act.put, List.setIfInBounds_toArray, List.set_cons_zero, List.set_cons_succ]
                    refine wpAnyIn_ready (rs := [7]) (by kernel_rfl) (by simp) ?_
                    refine (openIn_value (some 50) (.pointer (some ⟨g, 2, none⟩)) rfl rfl rfl (fun c h => by cases h) rfl (by kernel_rfl) ?_ AllReadyIn.nil)
                    simp only [Act.put, List.setIfInBounds_toArray, List.set_cons_zero, List.set_cons_succ]
                    refine wpAnyIn_ready (rs := [8]) (by kernel_rfl) (by simp) ?_
                    refine (openIn_skip _ rfl rfl rfl (fun c h => by cases h) rfl (store4 (.tmp 50) rfl rfl rfl c2 f2) ?_ AllReadyIn.nil)
                    refine wpAnyIn_ready (rs := [9]) (by kernel_rfl) (by simp) ?_
                    refine (openIn_value (some 51) (.pointer (some ⟨g, 0, none⟩)) rfl rfl rfl (fun c h => by cases h) rfl (by kernel_rfl) ?_ AllReadyIn.nil)
                    simp only [Act.put, List.setIfInBounds_toArray, List.set_cons_zero, List.set_cons_succ]
                    refine wpAnyIn_ready (rs := [10]) (by kernel_rfl) (by simp) ?_
                    refine (openIn_value (some 52) (.pointer (some ⟨g, 3, none⟩)) rfl rfl rfl (fun c h => by cases h) rfl (by kernel_rfl) ?_ AllReadyIn.nil)
                    simp only [Act.put, List.setIfInBounds_toArray, List.set_cons_zero, List.set_cons_succ]
                    refine wpAnyIn_ready (rs := [11]) (by kernel_rfl) (by simp) ?_
                    refine (openIn_skip _ rfl rfl rfl (fun c h => by cases h) rfl (store3 (.tmp 52) rfl rfl rfl c3 f3b) ?_ AllReadyIn.nil)
                    refine wpAnyIn_done (by kernel_rfl) ?_ _
                    exact FIN.out _
                  · simp only [Act.put, List.setIfInBounds_toArray, List.set_cons_zero, List.set_cons_succ]
                    refine wpAnyIn_ready (rs := [2, 8]) (by kernel_rfl) (by simp) ?_
                    refine (openIn_value (some 46) (.pointer (some ⟨g, 0, none⟩)) rfl rfl rfl (fun c h => by cases h) rfl (load25 (.tmp 2) rfl rfl E1.out) ?_ (openIn_skip _ rfl rfl rfl (fun c h => by cases h) rfl (store4 (.tmp 50) rfl rfl rfl c2 f2) ?_ AllReadyIn.nil))
                    · simp only [Act.put, List.setIfInBounds_toArray, List.set_cons_zero, List.set_cons_succ]
                      refine wpAnyIn_ready (rs := [8]) (by kernel_rfl) (by simp) ?_
                      refine (openIn_skip _ rfl rfl rfl (fun c h => by cases h) rfl (store4 (.tmp 50) rfl rfl rfl c2 f2) ?_ AllReadyIn.nil)
                      refine wpAnyIn_ready (rs := [9]) (by kernel_rfl) (by simp) ?_
                      refine (openIn_value (some 51) (.pointer (some ⟨g, 0, none⟩)) rfl rfl rfl (fun c h => by cases h) rfl (by kernel_rfl) ?_ AllReadyIn.nil)
                      simp only [Act.put, List.setIfInBounds_toArray, List.set_cons_zero, List.set_cons_succ]
                      refine wpAnyIn_ready (rs := [10]) (by kernel_rfl) (by simp) ?_
                      refine (openIn_value (some 52) (.pointer (some ⟨g, 3, none⟩)) rfl rfl rfl (fun c h => by cases h) rfl (by kernel_rfl) ?_ AllReadyIn.nil)
                      simp only [Act.put, List.setIfInBounds_toArray, List.set_cons_zero, List.set_cons_succ]
                      refine wpAnyIn_ready (rs := [11]) (by kernel_rfl) (by simp) ?_
                      refine (openIn_skip _ rfl rfl rfl (fun c h => by cases h) rfl (store3 (.tmp 52) rfl rfl rfl c3 f3b) ?_ AllReadyIn.nil)
                      refine wpAnyIn_done (by kernel_rfl) ?_ _
                      exact FIN.out _
                    · refine wpAnyIn_ready (rs := [2]) (by kernel_rfl) (by simp) ?_
                      refine (openIn_value (some 46) (.pointer (some ⟨g, 0, none⟩)) rfl rfl rfl (fun c h => by cases h) rfl (load25 (.tmp 2) rfl rfl E2.out) ?_ AllReadyIn.nil)
                      simp only [Act.put, List.setIfInBounds_toArray, List.set_cons_zero, List.set_cons_succ]
                      refine wpAnyIn_ready (rs := [9]) (by kernel_rfl) (by simp) ?_
                      refine (openIn_value (some 51) (.pointer (some ⟨g, 0, none⟩)) rfl rfl rfl (fun c h => by cases h) rfl (by kernel_rfl) ?_ AllReadyIn.nil)
                      simp only [Act.put, List.setIfInBounds_toArray, List.set_cons_zero, List.set_cons_succ]
                      refine wpAnyIn_ready (rs := [10]) (by kernel_rfl) (by simp) ?_
                      refine (openIn_value (some 52) (.pointer (some ⟨g, 3, none⟩)) rfl rfl rfl (fun c h => by cases h) rfl (by kernel_rfl) ?_ AllReadyIn.nil)
                      simp only [Act.put, List.setIfInBounds_toArray, List.set_cons_zero, List.set_cons_succ]
                      refine wpAnyIn_ready (rs := [11]) (by kernel_rfl) (by simp) ?_
                      refine (openIn_skip _ rfl rfl rfl (fun c h => by cases h) rfl (store3 (.tmp 52) rfl rfl rfl c3 f3b) ?_ AllReadyIn.nil)
                      refine wpAnyIn_done (by kernel_rfl) ?_ _
                      exact FIN.out _
              · simp only [Act.put, List.setIfInBounds_toArray, List.set_cons_zero, List.set_cons_succ]
                refine wpAnyIn_ready (rs := [1]) (by kernel_rfl) (by simp) ?_
                refine (openIn_value (some 45) (.pointer (some ⟨g, 0, none⟩)) rfl rfl rfl (fun c h => by cases h) rfl (load25 (.tmp 2) rfl rfl E1.out) ?_ AllReadyIn.nil)
                simp only [Act.put, List.setIfInBounds_toArray, List.set_cons_zero, List.set_cons_succ]
                refine wpAnyIn_ready (rs := [6]) (by kernel_rfl) (by simp) ?_
                refine (openIn_value (some 49) (.pointer (some ⟨g, 0, none⟩)) rfl rfl rfl (fun c h => by cases h) rfl (by kernel_rfl) ?_ AllReadyIn.nil)
                simp only [Act.put, List.setIfInBounds_toArray, List.set_cons_zero, List.set_cons_succ]
                refine wpAnyIn_ready (rs := [7]) (by kernel_rfl) (by simp) ?_
                refine (openIn_value (some 50) (.pointer (some ⟨g, 2, none⟩)) rfl rfl rfl (fun c h => by cases h) rfl (by kernel_rfl) ?_ AllReadyIn.nil)
                simp only [Act.put, List.setIfInBounds_toArray, List.set_cons_zero, List.set_cons_succ]
                refine wpAnyIn_ready (rs := [8]) (by kernel_rfl) (by simp) ?_
                refine (openIn_skip _ rfl rfl rfl (fun c h => by cases h) rfl (store4 (.tmp 50) rfl rfl rfl c2 f2) ?_ AllReadyIn.nil)
                refine wpAnyIn_ready (rs := [9]) (by kernel_rfl) (by simp) ?_
                refine (openIn_value (some 51) (.pointer (some ⟨g, 0, none⟩)) rfl rfl rfl (fun c h => by cases h) rfl (by kernel_rfl) ?_ AllReadyIn.nil)
                simp only [Act.put, List.setIfInBounds_toArray, List.set_cons_zero, List.set_cons_succ]
                refine wpAnyIn_ready (rs := [10]) (by kernel_rfl) (by simp) ?_
                refine (openIn_value (some 52) (.pointer (some ⟨g, 3, none⟩)) rfl rfl rfl (fun c h => by cases h) rfl (by kernel_rfl) ?_ AllReadyIn.nil)
                simp only [Act.put, List.setIfInBounds_toArray, List.set_cons_zero, List.set_cons_succ]
                refine wpAnyIn_ready (rs := [11]) (by kernel_rfl) (by simp) ?_
                refine (openIn_skip _ rfl rfl rfl (fun c h => by cases h) rfl (store3 (.tmp 52) rfl rfl rfl c3 f3b) ?_ AllReadyIn.nil)
                refine wpAnyIn_done (by kernel_rfl) ?_ _
                exact FIN.out _
      · simp only [Act.put, List.setIfInBounds_toArray, List.set_cons_zero, List.set_cons_succ]
        refine wpAnyIn_ready (rs := [0, 2]) (by kernel_rfl) (by simp) ?_
        refine (openIn_value (some 44) (.pointer (some ⟨g, 0, none⟩)) rfl rfl rfl (fun c h => by cases h) rfl (load25 (.tmp 2) rfl rfl E0.out) ?_ (openIn_value (some 46) (.pointer (some ⟨g, 0, none⟩)) rfl rfl rfl (fun c h => by cases h) rfl (load25 (.tmp 2) rfl rfl E0.out) ?_ AllReadyIn.nil))
        · simp only [Act.put, List.setIfInBounds_toArray, List.set_cons_zero, List.set_cons_succ]
          refine wpAnyIn_ready (rs := [2, 3]) (by kernel_rfl) (by simp) ?_
          refine (openIn_value (some 46) (.pointer (some ⟨g, 0, none⟩)) rfl rfl rfl (fun c h => by cases h) rfl (load25 (.tmp 2) rfl rfl E0.out) ?_ (openIn_value (some 47) (.pointer (some ⟨g, 0, none⟩)) rfl rfl rfl (fun c h => by cases h) rfl (by kernel_rfl) ?_ AllReadyIn.nil))
          · simp only [Act.put, List.setIfInBounds_toArray, List.set_cons_zero, List.set_cons_succ]
            refine wpAnyIn_ready (rs := [3]) (by kernel_rfl) (by simp) ?_
            refine (openIn_value (some 47) (.pointer (some ⟨g, 0, none⟩)) rfl rfl rfl (fun c h => by cases h) rfl (by kernel_rfl) ?_ AllReadyIn.nil)
            simp only [Act.put, List.setIfInBounds_toArray, List.set_cons_zero, List.set_cons_succ]
            refine wpAnyIn_ready (rs := [4]) (by kernel_rfl) (by simp) ?_
            refine (openIn_value (some 48) (.pointer (some ⟨g, 1, none⟩)) rfl rfl rfl (fun c h => by cases h) rfl (by kernel_rfl) ?_ AllReadyIn.nil)
            simp only [Act.put, List.setIfInBounds_toArray, List.set_cons_zero, List.set_cons_succ]
            refine wpAnyIn_ready (rs := [5]) (by kernel_rfl) (by simp) ?_
            refine (openIn_skip _ rfl rfl rfl (fun c h => by cases h) rfl (store63 (.tmp 48) rfl rfl rfl c1 f1) ?_ AllReadyIn.nil)
            refine wpAnyIn_ready (rs := [6]) (by kernel_rfl) (by simp) ?_
            refine (openIn_value (some 49) (.pointer (some ⟨g, 0, none⟩)) rfl rfl rfl (fun c h => by cases h) rfl (by kernel_rfl) ?_ AllReadyIn.nil)
            simp only [Act.put, List.setIfInBounds_toArray, List.set_cons_zero, List.set_cons_succ]
            refine wpAnyIn_ready (rs := [7]) (by kernel_rfl) (by simp) ?_
            refine (openIn_value (some 50) (.pointer (some ⟨g, 2, none⟩)) rfl rfl rfl (fun c h => by cases h) rfl (by kernel_rfl) ?_ AllReadyIn.nil)
            simp only [Act.put, List.setIfInBounds_toArray, List.set_cons_zero, List.set_cons_succ]
            refine wpAnyIn_ready (rs := [8]) (by kernel_rfl) (by simp) ?_
            refine (openIn_skip _ rfl rfl rfl (fun c h => by cases h) rfl (store4 (.tmp 50) rfl rfl rfl c2 f2) ?_ AllReadyIn.nil)
            refine wpAnyIn_ready (rs := [9]) (by kernel_rfl) (by simp) ?_
            refine (openIn_value (some 51) (.pointer (some ⟨g, 0, none⟩)) rfl rfl rfl (fun c h => by cases h) rfl (by kernel_rfl) ?_ AllReadyIn.nil)
            simp only [Act.put, List.setIfInBounds_toArray, List.set_cons_zero, List.set_cons_succ]
            refine wpAnyIn_ready (rs := [10]) (by kernel_rfl) (by simp) ?_
            refine (openIn_value (some 52) (.pointer (some ⟨g, 3, none⟩)) rfl rfl rfl (fun c h => by cases h) rfl (by kernel_rfl) ?_ AllReadyIn.nil)
            simp only [Act.put, List.setIfInBounds_toArray, List.set_cons_zero, List.set_cons_succ]
            refine wpAnyIn_ready (rs := [11]) (by kernel_rfl) (by simp) ?_
            refine (openIn_skip _ rfl rfl rfl (fun c h => by cases h) rfl (store3 (.tmp 52) rfl rfl rfl c3 f3b) ?_ AllReadyIn.nil)
            refine wpAnyIn_done (by kernel_rfl) ?_ _
            exact FIN.out _
          · simp only [Act.put, List.setIfInBounds_toArray, List.set_cons_zero, List.set_cons_succ]
            refine wpAnyIn_ready (rs := [2, 4]) (by kernel_rfl) (by simp) ?_
            refine (openIn_value (some 46) (.pointer (some ⟨g, 0, none⟩)) rfl rfl rfl (fun c h => by cases h) rfl (load25 (.tmp 2) rfl rfl E0.out) ?_ (openIn_value (some 48) (.pointer (some ⟨g, 1, none⟩)) rfl rfl rfl (fun c h => by cases h) rfl (by kernel_rfl) ?_ AllReadyIn.nil))
            · simp only [Act.put, List.setIfInBounds_toArray, List.set_cons_zero, List.set_cons_succ]
              refine wpAnyIn_ready (rs := [4]) (by kernel_rfl) (by simp) ?_
              refine (openIn_value (some 48) (.pointer (some ⟨g, 1, none⟩)) rfl rfl rfl (fun c h => by cases h) rfl (by kernel_rfl) ?_ AllReadyIn.nil)
              simp only [Act.put, List.setIfInBounds_toArray, List.set_cons_zero, List.set_cons_succ]
              refine wpAnyIn_ready (rs := [5]) (by kernel_rfl) (by simp) ?_
              refine (openIn_skip _ rfl rfl rfl (fun c h => by cases h) rfl (store63 (.tmp 48) rfl rfl rfl c1 f1) ?_ AllReadyIn.nil)
              refine wpAnyIn_ready (rs := [6]) (by kernel_rfl) (by simp) ?_
              refine (openIn_value (some 49) (.pointer (some ⟨g, 0, none⟩)) rfl rfl rfl (fun c h => by cases h) rfl (by kernel_rfl) ?_ AllReadyIn.nil)
              simp only [Act.put, List.setIfInBounds_toArray, List.set_cons_zero, List.set_cons_succ]
              refine wpAnyIn_ready (rs := [7]) (by kernel_rfl) (by simp) ?_
              refine (openIn_value (some 50) (.pointer (some ⟨g, 2, none⟩)) rfl rfl rfl (fun c h => by cases h) rfl (by kernel_rfl) ?_ AllReadyIn.nil)
              simp only [Act.put, List.setIfInBounds_toArray, List.set_cons_zero, List.set_cons_succ]
              refine wpAnyIn_ready (rs := [8]) (by kernel_rfl) (by simp) ?_
              refine (openIn_skip _ rfl rfl rfl (fun c h => by cases h) rfl (store4 (.tmp 50) rfl rfl rfl c2 f2) ?_ AllReadyIn.nil)
              refine wpAnyIn_ready (rs := [9]) (by kernel_rfl) (by simp) ?_
              refine (openIn_value (some 51) (.pointer (some ⟨g, 0, none⟩)) rfl rfl rfl (fun c h => by cases h) rfl (by kernel_rfl) ?_ AllReadyIn.nil)
              simp only [Act.put, List.setIfInBounds_toArray, List.set_cons_zero, List.set_cons_succ]
              refine wpAnyIn_ready (rs := [10]) (by kernel_rfl) (by simp) ?_
              refine (openIn_value (some 52) (.pointer (some ⟨g, 3, none⟩)) rfl rfl rfl (fun c h => by cases h) rfl (by kernel_rfl) ?_ AllReadyIn.nil)
              simp only [Act.put, List.setIfInBounds_toArray, List.set_cons_zero, List.set_cons_succ]
              refine wpAnyIn_ready (rs := [11]) (by kernel_rfl) (by simp) ?_
              refine (openIn_skip _ rfl rfl rfl (fun c h => by cases h) rfl (store3 (.tmp 52) rfl rfl rfl c3 f3b) ?_ AllReadyIn.nil)
              refine wpAnyIn_done (by kernel_rfl) ?_ _
              exact FIN.out _
            · simp only [Act.put, List.setIfInBounds_toArray, List.set_cons_zero, List.set_cons_succ]
              refine wpAnyIn_ready (rs := [2, 5]) (by kernel_rfl) (by simp) ?_
              refine (openIn_value (some 46) (.pointer (some ⟨g, 0, none⟩)) rfl rfl rfl (fun c h => by cases h) rfl (load25 (.tmp 2) rfl rfl E0.out) ?_ (openIn_skip _ rfl rfl rfl (fun c h => by cases h) rfl (store63 (.tmp 48) rfl rfl rfl c1 f1) ?_ AllReadyIn.nil))
              · simp only [Act.put, List.setIfInBounds_toArray, List.set_cons_zero, List.set_cons_succ]
                refine wpAnyIn_ready (rs := [5]) (by kernel_rfl) (by simp) ?_
                refine (openIn_skip _ rfl rfl rfl (fun c h => by cases h) rfl (store63 (.tmp 48) rfl rfl rfl c1 f1) ?_ AllReadyIn.nil)
                refine wpAnyIn_ready (rs := [6]) (by kernel_rfl) (by simp) ?_
                refine (openIn_value (some 49) (.pointer (some ⟨g, 0, none⟩)) rfl rfl rfl (fun c h => by cases h) rfl (by kernel_rfl) ?_ AllReadyIn.nil)
                simp only [Act.put, List.setIfInBounds_toArray, List.set_cons_zero, List.set_cons_succ]
                refine wpAnyIn_ready (rs := [7]) (by kernel_rfl) (by simp) ?_
                refine (openIn_value (some 50) (.pointer (some ⟨g, 2, none⟩)) rfl rfl rfl (fun c h => by cases h) rfl (by kernel_rfl) ?_ AllReadyIn.nil)
                simp only [Act.put, List.setIfInBounds_toArray, List.set_cons_zero, List.set_cons_succ]
                refine wpAnyIn_ready (rs := [8]) (by kernel_rfl) (by simp) ?_
                refine (openIn_skip _ rfl rfl rfl (fun c h => by cases h) rfl (store4 (.tmp 50) rfl rfl rfl c2 f2) ?_ AllReadyIn.nil)
                refine wpAnyIn_ready (rs := [9]) (by kernel_rfl) (by simp) ?_
                refine (openIn_value (some 51) (.pointer (some ⟨g, 0, none⟩)) rfl rfl rfl (fun c h => by cases h) rfl (by kernel_rfl) ?_ AllReadyIn.nil)
                simp only [Act.put, List.setIfInBounds_toArray, List.set_cons_zero, List.set_cons_succ]
                refine wpAnyIn_ready (rs := [10]) (by kernel_rfl) (by simp) ?_
                refine (openIn_value (some 52) (.pointer (some ⟨g, 3, none⟩)) rfl rfl rfl (fun c h => by cases h) rfl (by kernel_rfl) ?_ AllReadyIn.nil)
                simp only [Act.put, List.setIfInBounds_toArray, List.set_cons_zero, List.set_cons_succ]
                refine wpAnyIn_ready (rs := [11]) (by kernel_rfl) (by simp) ?_
                refine (openIn_skip _ rfl rfl rfl (fun c h => by cases h) rfl (store3 (.tmp 52) rfl rfl rfl c3 f3b) ?_ AllReadyIn.nil)
                refine wpAnyIn_done (by kernel_rfl) ?_ _
                exact FIN.out _
              · refine wpAnyIn_ready (rs := [2, 6]) (by kernel_rfl) (by simp) ?_
                refine (openIn_value (some 46) (.pointer (some ⟨g, 0, none⟩)) rfl rfl rfl (fun c h => by cases h) rfl (load25 (.tmp 2) rfl rfl E1.out) ?_ (openIn_value (some 49) (.pointer (some ⟨g, 0, none⟩)) rfl rfl rfl (fun c h => by cases h) rfl (by kernel_rfl) ?_ AllReadyIn.nil))
                · simp only [Act.put, List.setIfInBounds_toArray, List.set_cons_zero, List.set_cons_succ]
                  refine wpAnyIn_ready (rs := [6]) (by kernel_rfl) (by simp) ?_
                  refine (openIn_value (some 49) (.pointer (some ⟨g, 0, none⟩)) rfl rfl rfl (fun c h => by cases h) rfl (by kernel_rfl) ?_ AllReadyIn.nil)
                  simp only [Act.put, List.setIfInBounds_toArray, List.set_cons_zero, List.set_cons_succ]
                  refine wpAnyIn_ready (rs := [7]) (by kernel_rfl) (by simp) ?_
                  refine (openIn_value (some 50) (.pointer (some ⟨g, 2, none⟩)) rfl rfl rfl (fun c h => by cases h) rfl (by kernel_rfl) ?_ AllReadyIn.nil)
                  simp only [Act.put, List.setIfInBounds_toArray, List.set_cons_zero, List.set_cons_succ]
                  refine wpAnyIn_ready (rs := [8]) (by kernel_rfl) (by simp) ?_
                  refine (openIn_skip _ rfl rfl rfl (fun c h => by cases h) rfl (store4 (.tmp 50) rfl rfl rfl c2 f2) ?_ AllReadyIn.nil)
                  refine wpAnyIn_ready (rs := [9]) (by kernel_rfl) (by simp) ?_
                  refine (openIn_value (some 51) (.pointer (some ⟨g, 0, none⟩)) rfl rfl rfl (fun c h => by cases h) rfl (by kernel_rfl) ?_ AllReadyIn.nil)
                  simp only [Act.put, List.setIfInBounds_toArray, List.set_cons_zero, List.set_cons_succ]
                  refine wpAnyIn_ready (rs := [10]) (by kernel_rfl) (by simp) ?_
                  refine (openIn_value (some 52) (.pointer (some ⟨g, 3, none⟩)) rfl rfl rfl (fun c h => by cases h) rfl (by kernel_rfl) ?_ AllReadyIn.nil)
                  simp only [Act.put, List.setIfInBounds_toArray, List.set_cons_zero, List.set_cons_succ]
                  refine wpAnyIn_ready (rs := [11]) (by kernel_rfl) (by simp) ?_
                  refine (openIn_skip _ rfl rfl rfl (fun c h => by cases h) rfl (store3 (.tmp 52) rfl rfl rfl c3 f3b) ?_ AllReadyIn.nil)
                  refine wpAnyIn_done (by kernel_rfl) ?_ _
                  exact FIN.out _
                · simp only [Act.put, List.setIfInBounds_toArray, List.set_cons_zero, List.set_cons_succ]
                  refine wpAnyIn_ready (rs := [2, 7]) (by kernel_rfl) (by simp) ?_
                  refine (openIn_value (some 46) (.pointer (some ⟨g, 0, none⟩)) rfl rfl rfl (fun c h => by cases h) rfl (load25 (.tmp 2) rfl rfl E1.out) ?_ (openIn_value (some 50) (.pointer (some ⟨g, 2, none⟩)) rfl rfl rfl (fun c h => by cases h) rfl (by kernel_rfl) ?_ AllReadyIn.nil))
                  · simp only [Act.put, List.setIfInBounds_toArray, List.set_cons_zero, List.set_cons_succ]
                    refine wpAnyIn_ready (rs := [7]) (by kernel_rfl) (by simp) ?_
                    refine (openIn_value (some 50) (.pointer (some ⟨g, 2, none⟩)) rfl rfl rfl (fun c h => by cases h) rfl (by kernel_rfl) ?_ AllReadyIn.nil)
                    simp only [Act.put, List.setIfInBounds_toArray, List.set_cons_zero, List.set_cons_succ]
                    refine wpAnyIn_ready (rs := [8]) (by kernel_rfl) (by simp) ?_
                    refine (openIn_skip _ rfl rfl rfl (fun c h => by cases h) rfl (store4 (.tmp 50) rfl rfl rfl c2 f2) ?_ AllReadyIn.nil)
                    refine wpAnyIn_ready (rs := [9]) (by kernel_rfl) (by simp) ?_
                    refine (openIn_value (some 51) (.pointer (some ⟨g, 0, none⟩)) rfl rfl rfl (fun c h => by cases h) rfl (by kernel_rfl) ?_ AllReadyIn.nil)
                    simp only [Act.put, List.setIfInBounds_toArray, List.set_cons_zero, List.set_cons_succ]
                    refine wpAnyIn_ready (rs := [10]) (by kernel_rfl) (by simp) ?_
                    refine (openIn_value (some 52) (.pointer (some ⟨g, 3, none⟩)) rfl rfl rfl (fun c h => by cases h) rfl (by kernel_rfl) ?_ AllReadyIn.nil)
                    simp only [Act.put, List.setIfInBounds_toArray, List.set_cons_zero, List.set_cons_succ]
                    refine wpAnyIn_ready (rs := [11]) (by kernel_rfl) (by simp) ?_
                    refine (openIn_skip _ rfl rfl rfl (fun c h => by cases h) rfl (store3 (.tmp 52) rfl rfl rfl c3 f3b) ?_ AllReadyIn.nil)
                    refine wpAnyIn_done (by kernel_rfl) ?_ _
                    exact FIN.out _
                  · simp only [Act.put, List.setIfInBounds_toArray, List.set_cons_zero, List.set_cons_succ]
                    refine wpAnyIn_ready (rs := [2, 8]) (by kernel_rfl) (by simp) ?_
                    refine (openIn_value (some 46) (.pointer (some ⟨g, 0, none⟩)) rfl rfl rfl (fun c h => by cases h) rfl (load25 (.tmp 2) rfl rfl E1.out) ?_ (openIn_skip _ rfl rfl rfl (fun c h => by cases h) rfl (store4 (.tmp 50) rfl rfl rfl c2 f2) ?_ AllReadyIn.nil))
                    · simp only [Act.put, List.setIfInBounds_toArray, List.set_cons_zero, List.set_cons_succ]
                      refine wpAnyIn_ready (rs := [8]) (by kernel_rfl) (by simp) ?_
                      refine (openIn_skip _ rfl rfl rfl (fun c h => by cases h) rfl (store4 (.tmp 50) rfl rfl rfl c2 f2) ?_ AllReadyIn.nil)
                      refine wpAnyIn_ready (rs := [9]) (by kernel_rfl) (by simp) ?_
                      refine (openIn_value (some 51) (.pointer (some ⟨g, 0, none⟩)) rfl rfl rfl (fun c h => by cases h) rfl (by kernel_rfl) ?_ AllReadyIn.nil)
                      simp only [Act.put, List.setIfInBounds_toArray, List.set_cons_zero, List.set_cons_succ]
                      refine wpAnyIn_ready (rs := [10]) (by kernel_rfl) (by simp) ?_
                      refine (openIn_value (some 52) (.pointer (some ⟨g, 3, none⟩)) rfl rfl rfl (fun c h => by cases h) rfl (by kernel_rfl) ?_ AllReadyIn.nil)
                      simp only [Act.put, List.setIfInBounds_toArray, List.set_cons_zero, List.set_cons_succ]
                      refine wpAnyIn_ready (rs := [11]) (by kernel_rfl) (by simp) ?_
                      refine (openIn_skip _ rfl rfl rfl (fun c h => by cases h) rfl (store3 (.tmp 52) rfl rfl rfl c3 f3b) ?_ AllReadyIn.nil)
                      refine wpAnyIn_done (by kernel_rfl) ?_ _
                      exact FIN.out _
                    · refine wpAnyIn_ready (rs := [2]) (by kernel_rfl) (by simp) ?_
                      refine (openIn_value (some 46) (.pointer (some ⟨g, 0, none⟩)) rfl rfl rfl (fun c h => by cases h) rfl (load25 (.tmp 2) rfl rfl E2.out) ?_ AllReadyIn.nil)
                      simp only [Act.put, List.setIfInBounds_toArray, List.set_cons_zero, List.set_cons_succ]
                      refine wpAnyIn_ready (rs := [9]) (by kernel_rfl) (by simp) ?_
                      refine (openIn_value (some 51) (.pointer (some ⟨g, 0, none⟩)) rfl rfl rfl (fun c h => by cases h) rfl (by kernel_rfl) ?_ AllReadyIn.nil)
                      simp only [Act.put, List.setIfInBounds_toArray, List.set_cons_zero, List.set_cons_succ]
                      refine wpAnyIn_ready (rs := [10]) (by kernel_rfl) (by simp) ?_
                      refine (openIn_value (some 52) (.pointer (some ⟨g, 3, none⟩)) rfl rfl rfl (fun c h => by cases h) rfl (by kernel_rfl) ?_ AllReadyIn.nil)
                      simp only [Act.put, List.setIfInBounds_toArray, List.set_cons_zero, List.set_cons_succ]
                      refine wpAnyIn_ready (rs := [11]) (by kernel_rfl) (by simp) ?_
                      refine (openIn_skip _ rfl rfl rfl (fun c h => by cases h) rfl (store3 (.tmp 52) rfl rfl rfl c3 f3b) ?_ AllReadyIn.nil)
                      refine wpAnyIn_done (by kernel_rfl) ?_ _
                      exact FIN.out _
        · simp only [Act.put, List.setIfInBounds_toArray, List.set_cons_zero, List.set_cons_succ]
          refine wpAnyIn_ready (rs := [0]) (by kernel_rfl) (by simp) ?_
          refine (openIn_value (some 44) (.pointer (some ⟨g, 0, none⟩)) rfl rfl rfl (fun c h => by cases h) rfl (load25 (.tmp 2) rfl rfl E0.out) ?_ AllReadyIn.nil)
          simp only [Act.put, List.setIfInBounds_toArray, List.set_cons_zero, List.set_cons_succ]
          refine wpAnyIn_ready (rs := [3]) (by kernel_rfl) (by simp) ?_
          refine (openIn_value (some 47) (.pointer (some ⟨g, 0, none⟩)) rfl rfl rfl (fun c h => by cases h) rfl (by kernel_rfl) ?_ AllReadyIn.nil)
          simp only [Act.put, List.setIfInBounds_toArray, List.set_cons_zero, List.set_cons_succ]
          refine wpAnyIn_ready (rs := [4]) (by kernel_rfl) (by simp) ?_
          refine (openIn_value (some 48) (.pointer (some ⟨g, 1, none⟩)) rfl rfl rfl (fun c h => by cases h) rfl (by kernel_rfl) ?_ AllReadyIn.nil)
          simp only [Act.put, List.setIfInBounds_toArray, List.set_cons_zero, List.set_cons_succ]
          refine wpAnyIn_ready (rs := [5]) (by kernel_rfl) (by simp) ?_
          refine (openIn_skip _ rfl rfl rfl (fun c h => by cases h) rfl (store63 (.tmp 48) rfl rfl rfl c1 f1) ?_ AllReadyIn.nil)
          refine wpAnyIn_ready (rs := [6]) (by kernel_rfl) (by simp) ?_
          refine (openIn_value (some 49) (.pointer (some ⟨g, 0, none⟩)) rfl rfl rfl (fun c h => by cases h) rfl (by kernel_rfl) ?_ AllReadyIn.nil)
          simp only [Act.put, List.setIfInBounds_toArray, List.set_cons_zero, List.set_cons_succ]
          refine wpAnyIn_ready (rs := [7]) (by kernel_rfl) (by simp) ?_
          refine (openIn_value (some 50) (.pointer (some ⟨g, 2, none⟩)) rfl rfl rfl (fun c h => by cases h) rfl (by kernel_rfl) ?_ AllReadyIn.nil)
          simp only [Act.put, List.setIfInBounds_toArray, List.set_cons_zero, List.set_cons_succ]
          refine wpAnyIn_ready (rs := [8]) (by kernel_rfl) (by simp) ?_
          refine (openIn_skip _ rfl rfl rfl (fun c h => by cases h) rfl (store4 (.tmp 50) rfl rfl rfl c2 f2) ?_ AllReadyIn.nil)
          refine wpAnyIn_ready (rs := [9]) (by kernel_rfl) (by simp) ?_
          refine (openIn_value (some 51) (.pointer (some ⟨g, 0, none⟩)) rfl rfl rfl (fun c h => by cases h) rfl (by kernel_rfl) ?_ AllReadyIn.nil)
          simp only [Act.put, List.setIfInBounds_toArray, List.set_cons_zero, List.set_cons_succ]
          refine wpAnyIn_ready (rs := [10]) (by kernel_rfl) (by simp) ?_
          refine (openIn_value (some 52) (.pointer (some ⟨g, 3, none⟩)) rfl rfl rfl (fun c h => by cases h) rfl (by kernel_rfl) ?_ AllReadyIn.nil)
          simp only [Act.put, List.setIfInBounds_toArray, List.set_cons_zero, List.set_cons_succ]
          refine wpAnyIn_ready (rs := [11]) (by kernel_rfl) (by simp) ?_
          refine (openIn_skip _ rfl rfl rfl (fun c h => by cases h) rfl (store3 (.tmp 52) rfl rfl rfl c3 f3b) ?_ AllReadyIn.nil)
          refine wpAnyIn_done (by kernel_rfl) ?_ _
          exact FIN.out _
      · simp only [Act.put, List.setIfInBounds_toArray, List.set_cons_zero, List.set_cons_succ]
        refine wpAnyIn_ready (rs := [0, 1]) (by kernel_rfl) (by simp) ?_
        refine (openIn_value (some 44) (.pointer (some ⟨g, 0, none⟩)) rfl rfl rfl (fun c h => by cases h) rfl (load25 (.tmp 2) rfl rfl E0.out) ?_ (openIn_value (some 45) (.pointer (some ⟨g, 0, none⟩)) rfl rfl rfl (fun c h => by cases h) rfl (load25 (.tmp 2) rfl rfl E0.out) ?_ AllReadyIn.nil))
        · simp only [Act.put, List.setIfInBounds_toArray, List.set_cons_zero, List.set_cons_succ]
          refine wpAnyIn_ready (rs := [1, 3]) (by kernel_rfl) (by simp) ?_
          refine (openIn_value (some 45) (.pointer (some ⟨g, 0, none⟩)) rfl rfl rfl (fun c h => by cases h) rfl (load25 (.tmp 2) rfl rfl E0.out) ?_ (openIn_value (some 47) (.pointer (some ⟨g, 0, none⟩)) rfl rfl rfl (fun c h => by cases h) rfl (by kernel_rfl) ?_ AllReadyIn.nil))
          · simp only [Act.put, List.setIfInBounds_toArray, List.set_cons_zero, List.set_cons_succ]
            refine wpAnyIn_ready (rs := [3]) (by kernel_rfl) (by simp) ?_
            refine (openIn_value (some 47) (.pointer (some ⟨g, 0, none⟩)) rfl rfl rfl (fun c h => by cases h) rfl (by kernel_rfl) ?_ AllReadyIn.nil)
            simp only [Act.put, List.setIfInBounds_toArray, List.set_cons_zero, List.set_cons_succ]
            refine wpAnyIn_ready (rs := [4]) (by kernel_rfl) (by simp) ?_
            refine (openIn_value (some 48) (.pointer (some ⟨g, 1, none⟩)) rfl rfl rfl (fun c h => by cases h) rfl (by kernel_rfl) ?_ AllReadyIn.nil)
            simp only [Act.put, List.setIfInBounds_toArray, List.set_cons_zero, List.set_cons_succ]
            refine wpAnyIn_ready (rs := [5]) (by kernel_rfl) (by simp) ?_
            refine (openIn_skip _ rfl rfl rfl (fun c h => by cases h) rfl (store63 (.tmp 48) rfl rfl rfl c1 f1) ?_ AllReadyIn.nil)
            refine wpAnyIn_ready (rs := [6]) (by kernel_rfl) (by simp) ?_
            refine (openIn_value (some 49) (.pointer (some ⟨g, 0, none⟩)) rfl rfl rfl (fun c h => by cases h) rfl (by kernel_rfl) ?_ AllReadyIn.nil)
            simp only [Act.put, List.setIfInBounds_toArray, List.set_cons_zero, List.set_cons_succ]
            refine wpAnyIn_ready (rs := [7]) (by kernel_rfl) (by simp) ?_
            refine (openIn_value (some 50) (.pointer (some ⟨g, 2, none⟩)) rfl rfl rfl (fun c h => by cases h) rfl (by kernel_rfl) ?_ AllReadyIn.nil)
            simp only [Act.put, List.setIfInBounds_toArray, List.set_cons_zero, List.set_cons_succ]
            refine wpAnyIn_ready (rs := [8]) (by kernel_rfl) (by simp) ?_
            refine (openIn_skip _ rfl rfl rfl (fun c h => by cases h) rfl (store4 (.tmp 50) rfl rfl rfl c2 f2) ?_ AllReadyIn.nil)
            refine wpAnyIn_ready (rs := [9]) (by kernel_rfl) (by simp) ?_
            refine (openIn_value (some 51) (.pointer (some ⟨g, 0, none⟩)) rfl rfl rfl (fun c h => by cases h) rfl (by kernel_rfl) ?_ AllReadyIn.nil)
            simp only [Act.put, List.setIfInBounds_toArray, List.set_cons_zero, List.set_cons_succ]
            refine wpAnyIn_ready (rs := [10]) (by kernel_rfl) (by simp) ?_
            refine (openIn_value (some 52) (.pointer (some ⟨g, 3, none⟩)) rfl rfl rfl (fun c h => by cases h) rfl (by kernel_rfl) ?_ AllReadyIn.nil)
            simp only [Act.put, List.setIfInBounds_toArray, List.set_cons_zero, List.set_cons_succ]
            refine wpAnyIn_ready (rs := [11]) (by kernel_rfl) (by simp) ?_
            refine (openIn_skip _ rfl rfl rfl (fun c h => by cases h) rfl (store3 (.tmp 52) rfl rfl rfl c3 f3b) ?_ AllReadyIn.nil)
            refine wpAnyIn_done (by kernel_rfl) ?_ _
            exact FIN.out _
          · simp only [Act.put, List.setIfInBounds_toArray, List.set_cons_zero, List.set_cons_succ]
            refine wpAnyIn_ready (rs := [1, 4]) (by kernel_rfl) (by simp) ?_
            refine (openIn_value (some 45) (.pointer (some ⟨g, 0, none⟩)) rfl rfl rfl (fun c h => by cases h) rfl (load25 (.tmp 2) rfl rfl E0.out) ?_ (openIn_value (some 48) (.pointer (some ⟨g, 1, none⟩)) rfl rfl rfl (fun c h => by cases h) rfl (by kernel_rfl) ?_ AllReadyIn.nil))
            · simp only [Act.put, List.setIfInBounds_toArray, List.set_cons_zero, List.set_cons_succ]
              refine wpAnyIn_ready (rs := [4]) (by kernel_rfl) (by simp) ?_
              refine (openIn_value (some 48) (.pointer (some ⟨g, 1, none⟩)) rfl rfl rfl (fun c h => by cases h) rfl (by kernel_rfl) ?_ AllReadyIn.nil)
              simp only [Act.put, List.setIfInBounds_toArray, List.set_cons_zero, List.set_cons_succ]
              refine wpAnyIn_ready (rs := [5]) (by kernel_rfl) (by simp) ?_
              refine (openIn_skip _ rfl rfl rfl (fun c h => by cases h) rfl (store63 (.tmp 48) rfl rfl rfl c1 f1) ?_ AllReadyIn.nil)
              refine wpAnyIn_ready (rs := [6]) (by kernel_rfl) (by simp) ?_
              refine (openIn_value (some 49) (.pointer (some ⟨g, 0, none⟩)) rfl rfl rfl (fun c h => by cases h) rfl (by kernel_rfl) ?_ AllReadyIn.nil)
              simp only [Act.put, List.setIfInBounds_toArray, List.set_cons_zero, List.set_cons_succ]
              refine wpAnyIn_ready (rs := [7]) (by kernel_rfl) (by simp) ?_
              refine (openIn_value (some 50) (.pointer (some ⟨g, 2, none⟩)) rfl rfl rfl (fun c h => by cases h) rfl (by kernel_rfl) ?_ AllReadyIn.nil)
              simp only [Act.put, List.setIfInBounds_toArray, List.set_cons_zero, List.set_cons_succ]
              refine wpAnyIn_ready (rs := [8]) (by kernel_rfl) (by simp) ?_
              refine (openIn_skip _ rfl rfl rfl (fun c h => by cases h) rfl (store4 (.tmp 50) rfl rfl rfl c2 f2) ?_ AllReadyIn.nil)
              refine wpAnyIn_ready (rs := [9]) (by kernel_rfl) (by simp) ?_
              refine (openIn_value (some 51) (.pointer (some ⟨g, 0, none⟩)) rfl rfl rfl (fun c h => by cases h) rfl (by kernel_rfl) ?_ AllReadyIn.nil)
              simp only [Act.put, List.setIfInBounds_toArray, List.set_cons_zero, List.set_cons_succ]
              refine wpAnyIn_ready (rs := [10]) (by kernel_rfl) (by simp) ?_
              refine (openIn_value (some 52) (.pointer (some ⟨g, 3, none⟩)) rfl rfl rfl (fun c h => by cases h) rfl (by kernel_rfl) ?_ AllReadyIn.nil)
              simp only [Act.put, List.setIfInBounds_toArray, List.set_cons_zero, List.set_cons_succ]
              refine wpAnyIn_ready (rs := [11]) (by kernel_rfl) (by simp) ?_
              refine (openIn_skip _ rfl rfl rfl (fun c h => by cases h) rfl (store3 (.tmp 52) rfl rfl rfl c3 f3b) ?_ AllReadyIn.nil)
              refine wpAnyIn_done (by kernel_rfl) ?_ _
              exact FIN.out _
            · simp only [Act.put, List.setIfInBounds_toArray, List.set_cons_zero, List.set_cons_succ]
              refine wpAnyIn_ready (rs := [1, 5]) (by kernel_rfl) (by simp) ?_
              refine (openIn_value (some 45) (.pointer (some ⟨g, 0, none⟩)) rfl rfl rfl (fun c h => by cases h) rfl (load25 (.tmp 2) rfl rfl E0.out) ?_ (openIn_skip _ rfl rfl rfl (fun c h => by cases h) rfl (store63 (.tmp 48) rfl rfl rfl c1 f1) ?_ AllReadyIn.nil))
              · simp only [Act.put, List.setIfInBounds_toArray, List.set_cons_zero, List.set_cons_succ]
                refine wpAnyIn_ready (rs := [5]) (by kernel_rfl) (by simp) ?_
                refine (openIn_skip _ rfl rfl rfl (fun c h => by cases h) rfl (store63 (.tmp 48) rfl rfl rfl c1 f1) ?_ AllReadyIn.nil)
                refine wpAnyIn_ready (rs := [6]) (by kernel_rfl) (by simp) ?_
                refine (openIn_value (some 49) (.pointer (some ⟨g, 0, none⟩)) rfl rfl rfl (fun c h => by cases h) rfl (by kernel_rfl) ?_ AllReadyIn.nil)
                simp only [Act.put, List.setIfInBounds_toArray, List.set_cons_zero, List.set_cons_succ]
                refine wpAnyIn_ready (rs := [7]) (by kernel_rfl) (by simp) ?_
                refine (openIn_value (some 50) (.pointer (some ⟨g, 2, none⟩)) rfl rfl rfl (fun c h => by cases h) rfl (by kernel_rfl) ?_ AllReadyIn.nil)
                simp only [Act.put, List.setIfInBounds_toArray, List.set_cons_zero, List.set_cons_succ]
                refine wpAnyIn_ready (rs := [8]) (by kernel_rfl) (by simp) ?_
                refine (openIn_skip _ rfl rfl rfl (fun c h => by cases h) rfl (store4 (.tmp 50) rfl rfl rfl c2 f2) ?_ AllReadyIn.nil)
                refine wpAnyIn_ready (rs := [9]) (by kernel_rfl) (by simp) ?_
                refine (openIn_value (some 51) (.pointer (some ⟨g, 0, none⟩)) rfl rfl rfl (fun c h => by cases h) rfl (by kernel_rfl) ?_ AllReadyIn.nil)
                simp only [Act.put, List.setIfInBounds_toArray, List.set_cons_zero, List.set_cons_succ]
                refine wpAnyIn_ready (rs := [10]) (by kernel_rfl) (by simp) ?_
                refine (openIn_value (some 52) (.pointer (some ⟨g, 3, none⟩)) rfl rfl rfl (fun c h => by cases h) rfl (by kernel_rfl) ?_ AllReadyIn.nil)
                simp only [Act.put, List.setIfInBounds_toArray, List.set_cons_zero, List.set_cons_succ]
                refine wpAnyIn_ready (rs := [11]) (by kernel_rfl) (by simp) ?_
                refine (openIn_skip _ rfl rfl rfl (fun c h => by cases h) rfl (store3 (.tmp 52) rfl rfl rfl c3 f3b) ?_ AllReadyIn.nil)
                refine wpAnyIn_done (by kernel_rfl) ?_ _
                exact FIN.out _
              · refine wpAnyIn_ready (rs := [1]) (by kernel_rfl) (by simp) ?_
                refine (openIn_value (some 45) (.pointer (some ⟨g, 0, none⟩)) rfl rfl rfl (fun c h => by cases h) rfl (load25 (.tmp 2) rfl rfl E1.out) ?_ AllReadyIn.nil)
                simp only [Act.put, List.setIfInBounds_toArray, List.set_cons_zero, List.set_cons_succ]
                refine wpAnyIn_ready (rs := [6]) (by kernel_rfl) (by simp) ?_
                refine (openIn_value (some 49) (.pointer (some ⟨g, 0, none⟩)) rfl rfl rfl (fun c h => by cases h) rfl (by kernel_rfl) ?_ AllReadyIn.nil)
                simp only [Act.put, List.setIfInBounds_toArray, List.set_cons_zero, List.set_cons_succ]
                refine wpAnyIn_ready (rs := [7]) (by kernel_rfl) (by simp) ?_
                refine (openIn_value (some 50) (.pointer (some ⟨g, 2, none⟩)) rfl rfl rfl (fun c h => by cases h) rfl (by kernel_rfl) ?_ AllReadyIn.nil)
                simp only [Act.put, List.setIfInBounds_toArray, List.set_cons_zero, List.set_cons_succ]
                refine wpAnyIn_ready (rs := [8]) (by kernel_rfl) (by simp) ?_
                refine (openIn_skip _ rfl rfl rfl (fun c h => by cases h) rfl (store4 (.tmp 50) rfl rfl rfl c2 f2) ?_ AllReadyIn.nil)
                refine wpAnyIn_ready (rs := [9]) (by kernel_rfl) (by simp) ?_
                refine (openIn_value (some 51) (.pointer (some ⟨g, 0, none⟩)) rfl rfl rfl (fun c h => by cases h) rfl (by kernel_rfl) ?_ AllReadyIn.nil)
                simp only [Act.put, List.setIfInBounds_toArray, List.set_cons_zero, List.set_cons_succ]
                refine wpAnyIn_ready (rs := [10]) (by kernel_rfl) (by simp) ?_
                refine (openIn_value (some 52) (.pointer (some ⟨g, 3, none⟩)) rfl rfl rfl (fun c h => by cases h) rfl (by kernel_rfl) ?_ AllReadyIn.nil)
                simp only [Act.put, List.setIfInBounds_toArray, List.set_cons_zero, List.set_cons_succ]
                refine wpAnyIn_ready (rs := [11]) (by kernel_rfl) (by simp) ?_
                refine (openIn_skip _ rfl rfl rfl (fun c h => by cases h) rfl (store3 (.tmp 52) rfl rfl rfl c3 f3b) ?_ AllReadyIn.nil)
                refine wpAnyIn_done (by kernel_rfl) ?_ _
                exact FIN.out _
        · simp only [Act.put, List.setIfInBounds_toArray, List.set_cons_zero, List.set_cons_succ]
          refine wpAnyIn_ready (rs := [0]) (by kernel_rfl) (by simp) ?_
          refine (openIn_value (some 44) (.pointer (some ⟨g, 0, none⟩)) rfl rfl rfl (fun c h => by cases h) rfl (load25 (.tmp 2) rfl rfl E0.out) ?_ AllReadyIn.nil)
          simp only [Act.put, List.setIfInBounds_toArray, List.set_cons_zero, List.set_cons_succ]
          refine wpAnyIn_ready (rs := [3]) (by kernel_rfl) (by simp) ?_
          refine (openIn_value (some 47) (.pointer (some ⟨g, 0, none⟩)) rfl rfl rfl (fun c h => by cases h) rfl (by kernel_rfl) ?_ AllReadyIn.nil)
          simp only [Act.put, List.setIfInBounds_toArray, List.set_cons_zero, List.set_cons_succ]
          refine wpAnyIn_ready (rs := [4]) (by kernel_rfl) (by simp) ?_
          refine (openIn_value (some 48) (.pointer (some ⟨g, 1, none⟩)) rfl rfl rfl (fun c h => by cases h) rfl (by kernel_rfl) ?_ AllReadyIn.nil)
          simp only [Act.put, List.setIfInBounds_toArray, List.set_cons_zero, List.set_cons_succ]
          refine wpAnyIn_ready (rs := [5]) (by kernel_rfl) (by simp) ?_
          refine (openIn_skip _ rfl rfl rfl (fun c h => by cases h) rfl (store63 (.tmp 48) rfl rfl rfl c1 f1) ?_ AllReadyIn.nil)
          refine wpAnyIn_ready (rs := [6]) (by kernel_rfl) (by simp) ?_
          refine (openIn_value (some 49) (.pointer (some ⟨g, 0, none⟩)) rfl rfl rfl (fun c h => by cases h) rfl (by kernel_rfl) ?_ AllReadyIn.nil)
          simp only [Act.put, List.setIfInBounds_toArray, List.set_cons_zero, List.set_cons_succ]
          refine wpAnyIn_ready (rs := [7]) (by kernel_rfl) (by simp) ?_
          refine (openIn_value (some 50) (.pointer (some ⟨g, 2, none⟩)) rfl rfl rfl (fun c h => by cases h) rfl (by kernel_rfl) ?_ AllReadyIn.nil)
          simp only [Act.put, List.setIfInBounds_toArray, List.set_cons_zero, List.set_cons_succ]
          refine wpAnyIn_ready (rs := [8]) (by kernel_rfl) (by simp) ?_
          refine (openIn_skip _ rfl rfl rfl (fun c h => by cases h) rfl (store4 (.tmp 50) rfl rfl rfl c2 f2) ?_ AllReadyIn.nil)
          refine wpAnyIn_ready (rs := [9]) (by kernel_rfl) (by simp) ?_
          refine (openIn_value (some 51) (.pointer (some ⟨g, 0, none⟩)) rfl rfl rfl (fun c h => by cases h) rfl (by kernel_rfl) ?_ AllReadyIn.nil)
          simp only [Act.put, List.setIfInBounds_toArray, List.set_cons_zero, List.set_cons_succ]
          refine wpAnyIn_ready (rs := [10]) (by kernel_rfl) (by simp) ?_
          refine (openIn_value (some 52) (.pointer (some ⟨g, 3, none⟩)) rfl rfl rfl (fun c h => by cases h) rfl (by kernel_rfl) ?_ AllReadyIn.nil)
          simp only [Act.put, List.setIfInBounds_toArray, List.set_cons_zero, List.set_cons_succ]
          refine wpAnyIn_ready (rs := [11]) (by kernel_rfl) (by simp) ?_
          refine (openIn_skip _ rfl rfl rfl (fun c h => by cases h) rfl (store3 (.tmp 52) rfl rfl rfl c3 f3b) ?_ AllReadyIn.nil)
          refine wpAnyIn_done (by kernel_rfl) ?_ _
          exact FIN.out _
    case stop2 =>
      rintro D2 c pre X _ _ h _
      exact h.elim
  case stop =>
    rintro D c pre W _ _ h _
    exact h.elim

/-- Crash, for every disk -/
theorem crash_k {g B base n K : Nat} {f : Nat → BitVec 8} {hv : Value} {hs : List Ent} {on : Bool} {lf : Int} (w : World) (hN : hs.length ≤ 70000) (KA : Option Addr) (kl kc : Nat) (ks : Nat → Int) (hks : Ints w B KA kl ks)
    (h : Dsk w g B base n K f hv hs on lf) :
    Calls Try.prog 26 #[.pointer (some ⟨g, 0, none⟩), .slice KA kl kc] w fun e w' => e = .returned (.tuple #[]) ∧ Dsk w' g B base n K (crashed kl ks hs f) (.slice none 0 0) [] true (-1) ∧ Two g B w w' := by
  refine (callsIn_wide (n := 9)).1 ?_
  cases hs with
  | nil =>
    obtain ⟨A, C, e⟩ : ∃ A C, hv = .slice A 0 C := by
      rcases h.held.2 with ⟨e, e0⟩ | ⟨gg, cap, cur, e, _⟩
      · exact ⟨none, 0, e⟩
      · exact ⟨_, _, e⟩
    subst e
    exact crashn_in .wide 9 trivial trivial trivial trivial trivial rfl (by decide) w KA kl kc h
  | cons d hs =>
    rcases h.held.2 with ⟨_, e0⟩ | ⟨gg, cap, cur, e, _⟩
    · cases e0
    · subst e
      exact crashk_in .wide 9 trivial trivial trivial trivial trivial trivial rfl (by decide) w rfl hN ⟨d, List.mem_cons_self⟩ KA kl kc ks hks h
end Go.Proofs.Ytibidljblkfciaa
