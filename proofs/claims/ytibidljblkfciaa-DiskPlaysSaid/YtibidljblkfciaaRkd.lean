/-
What is proved here: the document's own disk: Write of it, by a contract.
-/
import Derived.Test.YtibidljblkfciaaRkc
set_option linter.unusedSimpArgs false
namespace Go.Proofs.Ytibidljblkfciaa
open Go.Word Go.RowKit

theorem own84 {w : World} {base N i : Nat} {t : TypeId} {v : Value} {xs : List Value} {cs : Array Value} (h : w.ownsRow base 84 513 v N xs) (hl : Lies w i t cs) (ht : t ≠ 84) : v.ownBlock ≠ some i := own_type h hl ht
/-- one write more, and a step -/
theorem rdk_behind {w W1 W2 w7 : World} {r FB C0 n : Nat} {v v' : Value} {F : Bytes} {ws : List (Nat × Bytes)} {lf lf' : Int} {on' : Bool} {b : Nat} {q : Bytes} (h : Rdk w r FB C0 v n F ws true lf) (hb : b < n) (b1 : Below w.heap.size w W1)
    (ho : W2.ownsRow 0 84 513 v' (ws.length + 1) (ws.flatMap wrow ++ wrow (b, q))) (hg : W1.grownBy W2 v.ownBlock) (g7 : (W2.setCell ⟨r, 1, none⟩ v').grownBy w7 (some r)) (hl7 : Lies w7 r 77 #[.slice (some ⟨FB, 0, none⟩) n C0, v', .int .i64 lf', .bool (!on')]) :
    Rdk w7 r FB C0 v' n F (ws ++ [(b, q)]) on' lf' ∧ Keeps (fun i => i = r ∨ v.ownBlock = some i) w w7 := by
  have zs := b1.size
  have z2 := hg.size
  have z3 : (W2.setCell ⟨r, 1, none⟩ v').heap.size = W2.heap.size := by simp [World.setCell]
  have z7 := g7.size
  obtain ⟨o1, o2⟩ := rdk_own h
  have hrl := lies_lt h.self
  have hfl := lies_lt h.fast
  have s2 : Lies W2 r 77 _ := (hg.block r (by omega) (fun e => o1 e.symm)).trans (lies_below h.self b1 hrl)
  have f2 : Lies W2 FB 78 _ := (hg.block FB (by omega) (fun e => o2 e.symm)).trans (lies_below h.fast b1 hfl)
  have g2 : W2.grownBy w7 (some r) := ⟨g7.os, g7.tape, g7.output, by omega, fun i hi hne => (g7.block i (by omega) hne).trans (Below.heap_setCell W2 ⟨r, 1, none⟩ v' i (fun e => hne (by rw [e])))⟩
  refine ⟨{ self := hl7, fast := (g2.block FB (by omega) (fun e => h.apart (by injection e))).trans f2, held := ?_, most := h.most, ats := ?_, apart := h.apart }, ⟨g2.os.trans (hg.os.trans b1.os), g2.tape.trans (hg.tape.trans b1.tape), g2.output.trans (hg.output.trans b1.output), by omega, fun i hi hn => ?_⟩⟩
  · have e : (ws ++ [(b, q)]).flatMap wrow = ws.flatMap wrow ++ wrow (b, q) := by simp
    rw [List.length_append, e]
    exact World.ownsRow.kept ho g2 (.inr (own84 ho s2 (by decide)))
  · intro x hx
    rcases List.mem_append.1 hx with hx | hx
    · exact h.ats x hx
    · obtain rfl := List.mem_singleton.1 hx
      exact hb
  · rw [g2.block i (by omega) (fun e => hn (.inl (by injection e))), hg.block i (by omega) (fun e => hn (.inr e.symm)), b1.block i hi]

set_option maxRecDepth 100000 in
set_option maxHeartbeats 8000000 in
theorem rwrite_any {r FB C0 : Nat} {rv : Value} {n : Nat} {F : Bytes} {ws : List (Nat × Bytes)} {lf : Int} (b rb c : Nat) (q : Bytes) (w : World) (hb : b < n) (hN : ws.length < 65536) (h1 : -1 ≤ lf) (h2 : lf ≤ 9223372036854775807) (h0 : lf ≠ 0) (hq : Src8 w ⟨rb, 0, none⟩ q 512) (hrb : rb < w.heap.size) (h : Rdk w r FB C0 rv n F ws true lf) :
    Calls Try.prog 35 #[.pointer (some ⟨r, 0, none⟩), .int .i64 (b : Int), .slice (some ⟨rb, 0, none⟩) 512 c] w fun e w' => e = .returned (.int .i64 0) ∧ (∃ rv', Rdk w' r FB C0 rv' n F (ws ++ [(b, q)]) (stepOn true lf) (stepLf lf) ∧ (rv'.ownBlock = rv.ownBlock ∨ ∃ k, rv'.ownBlock = some k ∧ w.heap.size ≤ k)) ∧ Keeps (fun i => i = r ∨ rv.ownBlock = some i) w w' := by
  obtain ⟨A, C, rfl, hA⟩ := rdk_form h
  obtain ⟨N, hNe⟩ : ∃ N, N = ws.length := ⟨_, rfl⟩
  have hself := h.self
  have hown := rdk_own h
  rw [← hNe] at hself hA hN hown
  have hz := zero84
  have t1 : decide ((b : Int) < 0) = false := decide_eq_false (by omega)
  have t2 : decide (n ≤ b) = false := decide_eq_false (by omega)
  have t2' : decide ((n : Int) ≤ (b : Int)) = false := decide_eq_false (by omega)
  have t3 : decide (65536 ≤ N) = false := decide_eq_false (by omega)
  have t4 : decide ((65536 : Int) ≤ (N : Int)) = false := decide_eq_false (by omega)
  have d0 : w.cell? ⟨r, 0, none⟩ = some (.slice (some ⟨FB, 0, none⟩) n C0) := lies_cell hself 0
  have d1 : w.cell? ⟨r, 1, none⟩ = some (.slice A N C) := lies_cell hself 1
  have d3 : w.cell? ⟨r, 3, none⟩ = some (.bool false) := lies_cell hself 3
  have LN := Lib.hid (lies_new w 84 (wcel 0 nil8))
  have ES := Lib.hid (setRow_alloc w 84 (wcel 0 nil8) (wcel (b : Int) nil8))
  have H := Lib.hid h
  have HNE := Lib.hid hNe
  have HQ := Lib.hid hq
  have HOWN := Lib.hid hown
  have hrl := lies_lt hself
  clear h hself hNe hA hq hown
  go_enter Try.func35, Try.ntmps35
  go_upto_region 10 with (first
    | (refine wpList_store_row rfl 84 _ _ rfl w.heap.size (wcel (b : Int) nil8) rfl (by rw [← wcel_set0 0 (b : Int) nil8]; rfl) 84 _ LN.out (by rw [wcel_size]; exact size84) (by rw [wcel_size, wcel_size]) (wcel_one _ _) ?_; rw [ES.out]))
  clear hz t1 t2 t2' t3 t4 LN ES
  go_wp2
  go_loopw [8] (fun v wr => ∃ i : Nat, i ≤ 512 ∧ v = .int .i64 (i : Int) ∧ wr = w.alloc (.cells (wcel (b : Int) (mix q i)) 84)) (fun v _ => 512 - (intOf v).toNat)
  case atStart => exact ⟨0, by omega, rfl, by rw [mix_zero]⟩
  case round =>
    obtain ⟨i, hi, rfl, rfl⟩ := hrel
    by_cases hlt : i < 512
    · have li : (i : Int) < 512 := by omega
      have cq : (w.alloc (.cells (wcel (b : Int) (mix q i)) 84)).cell? ⟨rb, i, none⟩ = some (Y (q i)) := by
        have h1 := HQ.out i hlt
        rw [Addr.add_mid, Nat.zero_add] at h1
        exact (((Below.refl w.heap.size w).alloc (Nat.le_refl _) _).cell (p := ⟨rb, i, none⟩) hrb).trans h1
      have ln := lies_new w 84 (wcel (b : Int) (mix q i))
      have cc : (w.alloc (.cells (wcel (b : Int) (mix q i)) 84)).cell? ⟨w.heap.size, 1 + i, none⟩ = some (Y (mix q i i)) := by rw [lies_cell ln, wcel_at _ _ _ hlt]
      have ff := lies_free ln (1 + i)
      have HST := Lib.hid (wcel_step (b : Int) q i hlt)
      clear ln
      generalize wcel (b : Int) (mix q i) = cs at *
      generalize Y (mix q i i) = u at cc
      go_wp2_with (rw [store_ys]; go_simp)
      go_roundw
      case rel => exact ⟨i + 1, by omega, by go_num, by rw [← HST.out]⟩
      case measure => first | (simp [intOf]; done) | (simp [intOf]; omega)
    · obtain rfl : i = 512 := by omega
      rw [mix_all]
      have ex := lies_new w 84 (wcel (b : Int) q)
      have bx : Below w.heap.size w (w.alloc (.cells (wcel (b : Int) q) 84)) := (Below.refl _ _).alloc (Nat.le_refl _) _
      have zx : (w.alloc (.cells (wcel (b : Int) q) 84)).heap.size = w.heap.size + 1 := by simp
      generalize w.alloc (.cells (wcel (b : Int) q) 84) = X at ex bx zx ⊢
      obtain ⟨W1, hW1⟩ : ∃ W1, W1 = X.drew.alloc (.cells (wcel (b : Int) q) 84) := ⟨_, rfl⟩
      have bW1 : Below w.heap.size w W1 := by rw [hW1]; exact bx.drew.alloc (by show w.heap.size ≤ X.heap.size; omega) _
      have ln1 : Lies W1 X.heap.size 84 (wcel (b : Int) q) := by rw [hW1]; exact lies_new X.drew 84 _
      have hO1 : W1.ownsRow 0 84 513 (.slice A N C) N (ws.flatMap wrow) := by
        have := World.ownsRow.kept H.out.held ⟨bW1.os, bW1.tape, bW1.output, bW1.size, fun k hk _ => bW1.block k hk⟩ (row := none) (by cases hv' : Value.ownBlock (.slice A ws.length C) <;> simp)
        rw [← HNE.out] at this
        exact this
      obtain ⟨A', C', W2, hap, ho2, hg2, hk2⟩ := append75 (ad := ⟨X.heap.size, 0, none⟩) (c := 1) (news := wrow (b, q)) hO1 (wrow_length _) (fun j u hj => by
        rw [Addr.add_mid, Nat.zero_add, lies_cell ln1, ← Array.getElem?_toList]
        exact hj) (fun u hu => by
        simp only [wrow, List.mem_cons, List.mem_map] at hu
        rcases hu with rfl | ⟨j, _, rfl⟩ <;> rfl) (by omega) (Nat.zero_le _)
      obtain ⟨W3, hW3⟩ : ∃ W3, W3 = W2.setCell ⟨r, 1, none⟩ (.slice A' (N + 1) C') := ⟨_, rfl⟩
      have zW1 := bW1.size
      have lr2 : Lies W2 r 77 #[.slice (some ⟨FB, 0, none⟩) n C0, .slice A N C, .int .i64 lf, .bool (!true)] := (hg2.block r (by omega) (fun e => HOWN.out.1 e.symm)).trans (by
        have := lies_below H.out.self bW1 hrl
        rw [← HNE.out] at this
        exact this)
      have cW2 : W2.cell? ⟨r, 1, none⟩ = some (.slice A N C) := lies_cell lr2 1
      have fW2 := lies_free lr2 1
      have L3 := Lib.hid (show Lies W3 r 77 #[.slice (some ⟨FB, 0, none⟩) n C0, .slice A' (N + 1) C', .int .i64 lf, .bool (!true)] by rw [hW3]; exact lies_set lr2 1 _)
      obtain ⟨Wf, hWf⟩ : ∃ Wf : Array Bool → World, Wf = fun listed => cond (listed.getD 10 false) W3 (cond (listed.getD 7 false) W2 (cond (listed.getD 6 false) W1 X.drew)) := ⟨_, rfl⟩
      have hne : ∀ (listed : Array Bool) (i : Nat), i ≠ 6 → i ≠ 7 → i ≠ 10 → Wf (listed.setIfInBounds i true) = Wf listed := fun listed i h6 h7 h10 => by
        rw [hWf]
        show cond ((listed.setIfInBounds i true).getD 10 false) _ (cond ((listed.setIfInBounds i true).getD 7 false) _ (cond ((listed.setIfInBounds i true).getD 6 false) _ _)) = _
        rw [getD_set_ne false h6, getD_set_ne false h7, getD_set_ne false h10]
      have BEH := Lib.hid (fun (w7 : World) (g7 : W3.grownBy w7 (some r)) (hl7 : Lies w7 r 77 #[.slice (some ⟨FB, 0, none⟩) n C0, .slice A' (N + 1) C', .int .i64 (stepLf lf), .bool (!stepOn true lf)]) => rdk_behind (q := q) H.out hb bW1 (by rw [← HNE.out]; exact ho2) (by rw [← HNE.out]; exact hg2) (by rw [← hW3]; exact g7) hl7)
      have KK := Lib.hid (show Value.ownBlock (.slice A' (N + 1) C') = Value.ownBlock (.slice A ws.length C) ∨ ∃ k, Value.ownBlock (.slice A' (N + 1) C') = some k ∧ w.heap.size ≤ k by
        rw [← HNE.out]
        exact own_old hk2 zW1)
      go_wp2
      refine wp_region_any (by kernel_rfl) ?_
      have hstart : Wf (Array.replicate 11 false) = X.drew := by rw [hWf]; rfl
      change wpAny _ _ _ _ _ _ _ (World.drew X)
      rw [← hstart]
      refine every (own := ownAll _) (vals := fun j => match j with | 0 => .pointer (some ⟨r, 0, none⟩) | 1 => .pointer (some ⟨r, 0, none⟩) | 2 => .pointer (some ⟨r, 0, none⟩) | 3 => .pointer (some ⟨r, 1, none⟩) | 4 => .slice A N C | 5 => .agg (wcel (b : Int) q) | 6 => .slice (some ⟨X.heap.size, 0, none⟩) 1 1 | 7 => .slice A' (N + 1) C' | 8 => .pointer (some ⟨r, 0, none⟩) | 9 => .pointer (some ⟨r, 1, none⟩) | _ => undef) id Wf (acAll_of (by kernel_rfl)) (onAll_of (by kernel_rfl)) (dstAll_of (by kernel_rfl)) ?hop ?hend _ _ _ rfl (shut_none _) (of_decide_eq_true (by kernel_rfl)) (tabd_start (fun i => rep_false2 _ i))
      case hop =>
        intro j oi a listed hoi hun hsz hcl hdeps ht
        have hi11 : j < 11 := (Array.getElem?_eq_some_iff.1 hoi).1
        have n10 : listed.getD 7 false = false → listed.getD 10 false = false := fun h9 => by
          cases h : listed.getD 10 false with
          | false => rfl
          | true => have := hcl 10 _ rfl h ⟨7, .data⟩ (by simp) rfl; rw [h9] at this; cases this
        have n76 : listed.getD 6 false = false → listed.getD 7 false = false := fun h9 => by
          cases h : listed.getD 7 false with
          | false => rfl
          | true => have := hcl 7 _ rfl h ⟨6, .data⟩ (by simp) rfl; rw [h9] at this; cases this
        have n7 : listed.getD 4 false = false → listed.getD 7 false = false := fun h9 => by
          cases h : listed.getD 7 false with
          | false => rfl
          | true => have := hcl 7 _ rfl h ⟨4, .data⟩ (by simp) rfl; rw [h9] at this; cases this
        have n7b : listed.getD 5 false = false → listed.getD 7 false = false := fun h9 => n76 (by
          cases h : listed.getD 6 false with
          | false => rfl
          | true => have := hcl 6 _ rfl h ⟨5, .data⟩ (by simp) rfl; rw [h9] at this; cases this)
        have hXB : Below X.heap.size X W1 := by rw [hW1]; exact (Below.drew (Below.refl _ X)).alloc (Nat.le_refl _) _
        have hcell : listed.getD 7 false = false → (Wf listed).cell? ⟨r, 1, none⟩ = some (.slice A N C) := fun h7 => by
          have e : Wf listed = cond (listed.getD 6 false) W1 X.drew := by rw [hWf]; show cond (listed.getD 10 false) _ (cond (listed.getD 7 false) _ _) = _; rw [n10 h7, h7]; rfl
          rw [e]
          cases listed.getD 6 false with
          | false => exact (bx.cell (p := ⟨r, 1, none⟩) hrl).trans d1
          | true => exact (bW1.cell (p := ⟨r, 1, none⟩) hrl).trans d1
        have hlies : listed.getD 7 false = false → Lies (Wf listed) w.heap.size 84 (wcel (b : Int) q) := fun h7 => by
          have e : Wf listed = cond (listed.getD 6 false) W1 X.drew := by rw [hWf]; show cond (listed.getD 10 false) _ (cond (listed.getD 7 false) _ _) = _; rw [n10 h7, h7]; rfl
          rw [e]
          cases listed.getD 6 false with
          | false => exact lies_drew ex
          | true => exact lies_below ex hXB (lies_lt ex)
        have c11 : j = 0 ∨ j = 1 ∨ j = 2 ∨ j = 3 ∨ j = 4 ∨ j = 5 ∨ j = 6 ∨ j = 7 ∨ j = 8 ∨ j = 9 ∨ j = 10 := by omega
        obtain rfl | rfl | rfl | rfl | rfl | rfl | rfl | rfl | rfl | rfl | rfl := c11
        all_goals obtain rfl := Option.some.inj hoi
        · exact ⟨rfl, fun K hk => wp_valueW (move_op (.tmp 0) rfl ((tabd_old ht (t := 0) (of_decide_eq_true (by kernel_rfl)) (by kernel_rfl)).trans rfl)) (hne _ _ (by decide) (by decide) (by decide)) hk⟩
        · exact ⟨rfl, fun K hk => wp_valueW (move_op (.tmp 0) rfl ((tabd_old ht (t := 0) (of_decide_eq_true (by kernel_rfl)) (by kernel_rfl)).trans rfl)) (hne _ _ (by decide) (by decide) (by decide)) hk⟩
        · have d1 := hdeps ⟨1, .data⟩ (by simp) rfl
          exact ⟨rfl, fun K hk => wp_valueW (nil_op (.tmp 47) rfl (tabd_at ht (t := 47) (of_decide_eq_true (by kernel_rfl)) (by kernel_rfl) d1)) (hne _ _ (by decide) (by decide) (by decide)) hk⟩
        · have d1 := hdeps ⟨2, .data⟩ (by simp) rfl
          exact ⟨rfl, fun K hk => wp_valueW (field771 (.tmp 48) rfl (tabd_at ht (t := 48) (of_decide_eq_true (by kernel_rfl)) (by kernel_rfl) d1)) (hne _ _ (by decide) (by decide) (by decide)) hk⟩
        · have d1 := hdeps ⟨3, .data⟩ (by simp) rfl
          have h7 : listed.getD 7 false = false := n7 hun
          exact ⟨rfl, fun K hk => wp_valueW (load75 (.tmp 49) rfl (tabd_at ht (t := 49) (of_decide_eq_true (by kernel_rfl)) (by kernel_rfl) d1) (hcell h7)) (hne _ _ (by decide) (by decide) (by decide)) hk⟩
        · have h7 : listed.getD 7 false = false := n7b hun
          exact ⟨rfl, fun K hk => wp_valueW (load84 (.tmp 7) rfl ((tabd_old ht (t := 7) (of_decide_eq_true (by kernel_rfl)) (by kernel_rfl)).trans rfl) (hlies h7) (wcel_size _ _)) (hne _ _ (by decide) (by decide) (by decide)) hk⟩
        · have d1 := hdeps ⟨5, .data⟩ (by simp) rfl
          have h7 : listed.getD 7 false = false := n76 hun
          have eW : Wf listed = X.drew := by rw [hWf]; show cond (listed.getD 10 false) _ (cond (listed.getD 7 false) _ (cond (listed.getD 6 false) _ _)) = _; rw [n10 h7, h7, hun]; rfl
          have eW2 : Wf (listed.setIfInBounds 6 true) = W1 := by rw [hWf]; show cond ((listed.setIfInBounds 6 true).getD 10 false) _ (cond ((listed.setIfInBounds 6 true).getD 7 false) _ (cond ((listed.setIfInBounds 6 true).getD 6 false) _ _)) = _; rw [getD_set_ne false (by decide), n10 h7, getD_set_ne false (by decide), h7, getD_here (by rw [hsz]; exact hi11)]; rfl
          refine ⟨rfl, fun K hk => ?_⟩
          rw [eW2] at hk
          rw [eW]
          exact (show Oper.wp _ _ _ _ _ _ from by unfold Oper.wp; rw [build75 (.tmp 51) rfl (tabd_at ht (t := 51) (of_decide_eq_true (by kernel_rfl)) (by kernel_rfl) d1), ← hW1]; exact hk)
        · have d1 := hdeps ⟨4, .data⟩ (by simp) rfl
          have d2 := hdeps ⟨6, .data⟩ (by simp) rfl
          have eW : Wf listed = W1 := by rw [hWf]; show cond (listed.getD 10 false) _ (cond (listed.getD 7 false) _ (cond (listed.getD 6 false) _ _)) = _; rw [n10 hun, hun, d2]; rfl
          have eW2 : Wf (listed.setIfInBounds 7 true) = W2 := by rw [hWf]; show cond ((listed.setIfInBounds 7 true).getD 10 false) _ (cond ((listed.setIfInBounds 7 true).getD 7 false) _ (cond ((listed.setIfInBounds 7 true).getD 6 false) _ _)) = _; rw [getD_set_ne false (by decide), n10 hun, getD_here (by rw [hsz]; exact hi11)]; rfl
          refine ⟨rfl, fun K hk => ?_⟩
          rw [eW2] at hk
          rw [eW]
          exact (show Oper.wp _ _ _ _ _ _ from by unfold Oper.wp; rw [hap _ _ (.tmp 50) (.tmp 52) rfl (tabd_at ht (t := 50) (of_decide_eq_true (by kernel_rfl)) (by kernel_rfl) d1) (tabd_at ht (t := 52) (of_decide_eq_true (by kernel_rfl)) (by kernel_rfl) d2)]; exact hk)
        · have d1 := hdeps ⟨0, .data⟩ (by simp) rfl
          exact ⟨rfl, fun K hk => wp_valueW (nil_op (.tmp 46) rfl (tabd_at ht (t := 46) (of_decide_eq_true (by kernel_rfl)) (by kernel_rfl) d1)) (hne _ _ (by decide) (by decide) (by decide)) hk⟩
        · have d1 := hdeps ⟨8, .data⟩ (by simp) rfl
          exact ⟨rfl, fun K hk => wp_valueW (field771 (.tmp 54) rfl (tabd_at ht (t := 54) (of_decide_eq_true (by kernel_rfl)) (by kernel_rfl) d1)) (hne _ _ (by decide) (by decide) (by decide)) hk⟩
        · have d1 := hdeps ⟨9, .data⟩ (by simp) rfl
          have d2 := hdeps ⟨7, .data⟩ (by simp) rfl
          have eW : Wf listed = W2 := by rw [hWf]; show cond (listed.getD 10 false) _ (cond (listed.getD 7 false) _ (cond (listed.getD 6 false) _ _)) = _; rw [hun, d2]; rfl
          have eW2 : Wf (listed.setIfInBounds 10 true) = W3 := by rw [hWf]; show cond ((listed.setIfInBounds 10 true).getD 10 false) _ (cond ((listed.setIfInBounds 10 true).getD 7 false) _ (cond ((listed.setIfInBounds 10 true).getD 6 false) _ _)) = _; rw [getD_here (by rw [hsz]; exact hi11)]; rfl
          refine ⟨rfl, fun K hk => ?_⟩
          rw [eW2] at hk
          rw [eW]
          exact (show Oper.wp _ _ _ _ _ _ from by unfold Oper.wp; rw [store75 (.tmp 55) (.tmp 53) rfl (tabd_at ht (t := 55) (of_decide_eq_true (by kernel_rfl)) (by kernel_rfl) d1) (tabd_at ht (t := 53) (of_decide_eq_true (by kernel_rfl)) (by kernel_rfl) d2) cW2 fW2, ← hW3]; exact hk)
      case hend =>
        intro a listed hall ht
        have eW : Wf listed = W3 := by rw [hWf]; show cond (listed.getD 10 false) _ _ = _; rw [hall 10 (of_decide_eq_true (by kernel_rfl))]; rfl
        rw [eW, tabd_fill ht (fun t i ho => hall i (ownAll_lt ho))]
        change Exit.then _ _ Exit.normal { tmps := #[.pointer (some ⟨r, 0, none⟩), .int .i64 (b : Int), .slice (some ⟨rb, 0, none⟩) 512 c, undef, undef, undef, .int .i64 0, .pointer (some ⟨w.heap.size, 0, none⟩), .int .i64 ((512 : Nat) : Int), .pointer (some ⟨r, 0, none⟩), .pointer (some ⟨r, 0, none⟩), .pointer (some ⟨r, 3, none⟩), .bool false, .int .i64 (b : Int), .bool false, .bool false, .int .i64 (b : Int), .pointer (some ⟨r, 0, none⟩), .pointer (some ⟨r, 0, none⟩), .pointer (some ⟨r, 0, none⟩), .slice (some ⟨FB, 0, none⟩) n C0, .int .i64 (n : Int), .bool false, .bool false, .slice (some ⟨rb, 0, none⟩) 512 c, .int .i64 512, .bool false, .pointer (some ⟨r, 0, none⟩), .pointer (some ⟨r, 0, none⟩), .pointer (some ⟨r, 1, none⟩), .slice A N C, .int .i64 (N : Int), .bool false, .int .i64 (b : Int), .agg ((wcel 0 nil8).setIfInBounds 0 (.int .i64 (b : Int))), .int .i64 ((512 : Nat) : Int), .bool false, u37, u38, u39, u40, u41, u42, u43, u44, u45, .pointer (some ⟨r, 0, none⟩), .pointer (some ⟨r, 0, none⟩), .pointer (some ⟨r, 0, none⟩), .pointer (some ⟨r, 1, none⟩), .slice A N C, .agg (wcel (b : Int) q), .slice (some ⟨X.heap.size, 0, none⟩) 1 1, .slice A' (N + 1) C', .pointer (some ⟨r, 0, none⟩), .pointer (some ⟨r, 1, none⟩), undef, undef], defers := [] } W3
        clear hWf hne hstart hall ht eW hW1 hW3 hap ho2 hg2 hk2 lr2 cW2 fW2 hO1 ln1 bW1 bx ex
        go_wp2_with (go_at_call 44; (with_reducible refine (rstep_any r FB C0 n (.slice A' (N + 1) C') lf (!true) W3 h1 h2 h0 L3.out).mono ?_); rintro e w7 ⟨rfl, hl7, hg7⟩; have BE := Lib.hid (BEH.out w7 hg7 hl7); clear hl7 hg7)
        go_ret
        exact ⟨rfl, ⟨_, BE.out.1, KK.out⟩, BE.out.2⟩
end Go.Proofs.Ytibidljblkfciaa
