/-
What is proved here: the law that modes and directories do not matter to Match, by a contract.
-/
import Derived.Test.YtiglakhfkgeefaaMok
import Derived.Test.YtiglakhfkgeefaaMos
import Derived.StillTailTactics
set_option linter.unusedSimpArgs false
set_option linter.unusedVariables false
namespace Go.Proofs.Ytiglakhfkgeefaa
open Go.Pth Go.Tre Go.RowKit Go.Word Go.Shelf Go.Mat
theorem zero28 (w : World) : (zeroValue 28).run Try.prog w = .ok (.agg #[.slice none 0 0, .slice none 0 0, .slice none 0 0, .slice none 0 0, .slice none 0 0]) w := by kernel_rfl
set_option maxRecDepth 100000 in
set_option maxHeartbeats 16000000 in
theorem modes_law (NA FA MA GA LA : Option Addr) (nc fc mc gc lc : Nat) (ns ms : List Nd) (fs gs : List Fl) (ls : List Bt) (by_ : Int) (w : World) (hN : NodesAt w NA ns) (hF : FilesAt w FA fs) (hM : NodesAt w MA ms) (hG : FilesAt w GA gs) (hL : ListQ w LA ls)
    (h1 : Fits ns fs) (h2 : Fits ms gs) (h3 : FitsL ls) :
    Calls Try.prog 7 #[.agg #[.slice NA ns.length nc, .slice FA fs.length fc, .slice MA ms.length mc, .slice GA gs.length gc, .slice LA ls.length lc], .int .i64 by_] w fun e w' => e = .returned (.bool true) ∧ Below w.heap.size w w' := by
  have KM := Lib.hid (fun (W : World) (h : Below w.heap.size w W) => much_any NA FA MA GA LA nc fc mc gc lc ns ms fs gs ls W (nodesAt_below hN h) (filesAt_below hF h) (nodesAt_below hM h) (filesAt_below hG h) (listQ_below hL h) h1 h2 h3)
  have KO := Lib.hid (fun (W : World) (h : Below w.heap.size w W) (hs : Small ns fs) (ht : Small ms gs) (hl : SmallL ls) => match_ok NA FA MA GA LA nc fc mc gc lc ns ms fs gs ls W (nodesAt_below hN h) (filesAt_below hF h) (nodesAt_below hM h) (filesAt_below hG h) (listQ_below hL h) hs ht (by have := hl.1; omega) (fun x hx => by have := hl.2 x hx; omega))
  have KX := Lib.hid (fun (W : World) (h : Below w.heap.size w W) (hs : Small ns fs) (ht : Small ms gs) (hl : SmallL ls) => match_no NA FA MA GA LA nc fc mc gc lc ns ms fs gs ls W (nodesAt_below hN h) (filesAt_below hF h) (nodesAt_below hM h) (filesAt_below hG h) (listQ_below hL h) hs ht (by have := hl.1; omega) (fun x hx => by have := hl.2 x hx; omega))
  have KC1 := Lib.hid (fun (W : World) (h : Below w.heap.size w W) (hs : Small ns fs) => copy_any NA FA nc fc ns fs W (nodesAt_below hN h) (filesAt_below hF h) hs.1 hs.2.1 hs.2.2.2)
  have KC2 := Lib.hid (fun (W : World) (h : Below w.heap.size w W) (ht : Small ms gs) => copy_any MA GA mc gc ms gs W (nodesAt_below hM h) (filesAt_below hG h) ht.1 ht.2.1 ht.2.2.2)
  have KL := Lib.hid (fun (W : World) (h : Below w.heap.size w W) => listQ_below hL h)
  generalize hn : ns.length = n at *
  generalize hm : fs.length = m at *
  generalize hn2 : ms.length = n2 at *
  generalize hm2 : gs.length = m2 at *
  generalize hk : ls.length = k at *
  have NE := Lib.hid hn
  have ME := Lib.hid hm
  have NE2 := Lib.hid hn2
  have ME2 := Lib.hid hm2
  have LE := Lib.hid hk
  clear hN hF hM hG hL h1 h2 h3 hn hm hn2 hm2 hk
  have B0 := Lib.hid (show Below w.heap.size w (w.alloc (.cells #[.slice NA n nc, .slice FA m fc, .slice MA n2 mc, .slice GA m2 gc, .slice LA k lc] 28)) from (Below.refl _ _).alloc (Nat.le_refl _) _)
  have LX := Lib.hid (lies_new w 28 #[.slice NA n nc, .slice FA m fc, .slice MA n2 mc, .slice GA m2 gc, .slice LA k lc])
  go_enter Try.func7, Try.ntmps7
  go_upto_region 1 with (fail)
  generalize w.alloc (.cells #[.slice NA n nc, .slice FA m fc, .slice MA n2 mc, .slice GA m2 gc, .slice LA k lc] 28) = X at *
  have R5 : ∀ W, Lies W w.heap.size 28 #[.slice NA n nc, .slice FA m fc, .slice MA n2 mc, .slice GA m2 gc, .slice LA k lc] → Hid (W.rangeAt w.heap.size 0 [.slice NA n nc, .slice FA m fc, .slice MA n2 mc, .slice GA m2 gc, .slice LA k lc]) := fun W h => Lib.hid (five_range h)
  go_upto_region 2 with (go_at_call 9; (with_reducible refine (alive_any _).mono ?_); rintro e w1 ⟨rfl, hb⟩; have B1 := Lib.hid (B0.out.trans (hb.mono B0.out.size)); have L1 := Lib.hid (lies_below LX.out hb (lies_lt LX.out)); have Q1 := R5 _ L1.out; clear hb)
  go_upto_region 3 with (first
    | (refine wpList_load_mid rfl 28 _ rfl w.heap.size 0 rfl [.slice NA n nc, .slice FA m fc, .slice MA n2 mc, .slice GA m2 gc, .slice LA k lc] _ Q1.out Try.underlying28 rfl (by kernel_rfl) ?_)
    | (go_at_call 10; (with_reducible refine (KM.out _ B1.out).mono ?_); rintro e w2 ⟨⟨b, rfl, hs⟩, hb⟩; have B2 := Lib.hid (B1.out.trans (hb.mono B1.out.size)); have L2 := Lib.hid (lies_below L1.out hb (lies_lt L1.out)); have SB := Lib.hid hs; clear hb hs Q1))
  cases b with
  | true =>
    go_wp2
    go_ret
    exact ⟨rfl, B2.out⟩
  | false =>
    have S1 := Lib.hid (SB.out rfl)
    have P2 := Lib.hid (pair_range L2.out)
    have c4 := lies_cell L2.out 4
    simp only [List.getElem?_toArray, List.getElem?_cons_zero, List.getElem?_cons_succ] at c4
    clear SB KM
    by_cases he : errM ns fs ms gs ls ≠ 0
    · have HE := Lib.hid he
      clear he
      go_upto_region 6 with (first
        | (refine wpList_load_mid rfl 25 _ rfl w.heap.size 0 rfl [.slice NA n nc, .slice FA m fc] _ P2.out.1 Try.underlying25 rfl (by kernel_rfl) ?_)
        | (refine wpList_load_mid rfl 25 _ rfl w.heap.size 2 rfl [.slice MA n2 mc, .slice GA m2 gc] _ P2.out.2.1 Try.underlying25 rfl (by kernel_rfl) ?_)
        | (go_at_call 13; (with_reducible refine (KX.out _ B2.out S1.out.1 S1.out.2.1 S1.out.2.2 HE.out).mono ?_); rintro e w3 ⟨⟨E, rfl, hE, _⟩, hb⟩; have B3 := Lib.hid (B2.out.trans (hb.mono B2.out.size)); clear hb))
      have hE1 : (E != 0) = true := by simpa using hE
      have hE2 : (E == 0) = false := by simpa using hE
      go_wp2_with (go_at_call 18; (with_reducible refine (num_any _ _).mono ?_); rintro e w4 ⟨rfl, rfl⟩)
      go_ret
      exact ⟨rfl, B3.out⟩
    · have HE := Lib.hid (Decidable.not_not.1 he)
      clear he
      go_upto_region 6 with (first
        | (refine wpList_load_mid rfl 25 _ rfl w.heap.size 0 rfl [.slice NA n nc, .slice FA m fc] _ P2.out.1 Try.underlying25 rfl (by kernel_rfl) ?_)
        | (refine wpList_load_mid rfl 25 _ rfl w.heap.size 2 rfl [.slice MA n2 mc, .slice GA m2 gc] _ P2.out.2.1 Try.underlying25 rfl (by kernel_rfl) ?_)
        | (go_at_call 13; (with_reducible refine (KO.out _ B2.out S1.out.1 S1.out.2.1 S1.out.2.2 HE.out).mono ?_); rintro e w3 ⟨⟨gl, rfl, hgl⟩, hb⟩; have B3 := Lib.hid (B2.out.trans (hb.mono B2.out.size)); have L3 := Lib.hid (lies_below L2.out hb (lies_lt L2.out)); have GL := Lib.hid hgl; clear hb hgl c4 P2))
      go_upto_region 8 with (go_at_call 18; (with_reducible refine (num_any _ _).mono ?_); rintro e w4 ⟨rfl, rfl⟩)
      have KF : ∀ (lq : Array Bool) (pq kq : Nat) (uq : Value) (W W' : World), (pq ≠ 8) → W.grownBy W' none → ((fun (l_ : Array Bool) (j_ : Nat) (v_ : Value) (W : World) => match j_ with | 0 => v_ = .pointer (some ⟨w.heap.size, 0, none⟩) | 1 => v_ = .agg #[.slice NA n nc, .slice FA m fc] | 2 => (∃ A1 C1 G1 E1 D1, v_ = .agg #[.slice A1 n C1, .slice G1 m E1] ∧ (l_.getD 8 false = false → CopyAt W w3.heap.size (.slice A1 n C1) (.slice G1 m E1) D1 ns fs)) | 3 => v_ = .pointer (some ⟨w.heap.size, 2, none⟩) | 4 => v_ = .agg #[.slice MA n2 mc, .slice GA m2 gc] | 5 => (∃ A2 C2 G2 E2, v_ = .agg #[.slice A2 n2 C2, .slice G2 m2 E2] ∧ True) | 6 => (∃ v6, v_ = v6 ∧ True) | 7 => (∃ b, v_ = .pointer (some ⟨b, 0, none⟩) ∧ (l_.getD 8 false = false → (Lies W b 28 #[.slice none 0 0, .slice none 0 0, .slice none 0 0, .slice none 0 0, .slice none 0 0] ∧ w3.heap.size ≤ b))) | _ => True) : Array Bool → Nat → Value → World → Prop) lq kq uq W → ((fun (l_ : Array Bool) (j_ : Nat) (v_ : Value) (W : World) => match j_ with | 0 => v_ = .pointer (some ⟨w.heap.size, 0, none⟩) | 1 => v_ = .agg #[.slice NA n nc, .slice FA m fc] | 2 => (∃ A1 C1 G1 E1 D1, v_ = .agg #[.slice A1 n C1, .slice G1 m E1] ∧ (l_.getD 8 false = false → CopyAt W w3.heap.size (.slice A1 n C1) (.slice G1 m E1) D1 ns fs)) | 3 => v_ = .pointer (some ⟨w.heap.size, 2, none⟩) | 4 => v_ = .agg #[.slice MA n2 mc, .slice GA m2 gc] | 5 => (∃ A2 C2 G2 E2, v_ = .agg #[.slice A2 n2 C2, .slice G2 m2 E2] ∧ True) | 6 => (∃ v6, v_ = v6 ∧ True) | 7 => (∃ b, v_ = .pointer (some ⟨b, 0, none⟩) ∧ (l_.getD 8 false = false → (Lies W b 28 #[.slice none 0 0, .slice none 0 0, .slice none 0 0, .slice none 0 0, .slice none 0 0] ∧ w3.heap.size ≤ b))) | _ => True) : Array Bool → Nat → Value → World → Prop) (lq.setIfInBounds pq true) kq uq W' := fun lq pq kq uq W W' hp hg h => by
        have h8_ : (lq.setIfInBounds pq true).getD 8 false = lq.getD 8 false := by rw [getD_set_ne false (hp)]
        have kl : ∀ {g t cs}, Lies W g t cs → Lies W' g t cs := fun h => (hg.block _ (lies_lt h) (by simp)).trans h
        have ko : ∀ {B e z v k xs}, W.ownsRow B e z v k xs → W'.ownsRow B e z v k xs := fun {B e z v k xs} h => h.kept hg (by cases v.ownBlock <;> simp)
        match kq, h with
        | 0, h => exact h
        | 1, h => exact h
        | 2, ⟨A1, C1, G1, E1, D1, e, h⟩ => exact ⟨A1, C1, G1, E1, D1, e, fun h6 => by have h := h (by rw [← h8_]; exact h6); exact copy_kept h hg (fun r e => by cases e)⟩
        | 3, h => exact h
        | 4, h => exact h
        | 5, ⟨A2, C2, G2, E2, e, h⟩ => exact ⟨A2, C2, G2, E2, e, trivial⟩
        | 6, ⟨v6, e, h⟩ => exact ⟨v6, e, trivial⟩
        | 7, ⟨b, e, h⟩ => exact ⟨b, e, fun h6 => by have h := h (by rw [← h8_]; exact h6); exact ⟨kl h.1, h.2⟩⟩
        | _ + 8, _ => exact trivial
      have gr : ∀ W : World, W.grownBy W none := fun W => ⟨rfl, rfl, rfl, Nat.le_refl _, fun _ _ _ => rfl⟩
      have KP := fun (lq : Array Bool) (pq : Nat) (W : World) (hp : pq ≠ 8) => fun (kq : Nat) (uq : Value) (_ : kq ≠ pq) (_ : lq.getD kq false = true) (h : ((fun (l_ : Array Bool) (j_ : Nat) (v_ : Value) (W : World) => match j_ with | 0 => v_ = .pointer (some ⟨w.heap.size, 0, none⟩) | 1 => v_ = .agg #[.slice NA n nc, .slice FA m fc] | 2 => (∃ A1 C1 G1 E1 D1, v_ = .agg #[.slice A1 n C1, .slice G1 m E1] ∧ (l_.getD 8 false = false → CopyAt W w3.heap.size (.slice A1 n C1) (.slice G1 m E1) D1 ns fs)) | 3 => v_ = .pointer (some ⟨w.heap.size, 2, none⟩) | 4 => v_ = .agg #[.slice MA n2 mc, .slice GA m2 gc] | 5 => (∃ A2 C2 G2 E2, v_ = .agg #[.slice A2 n2 C2, .slice G2 m2 E2] ∧ True) | 6 => (∃ v6, v_ = v6 ∧ True) | 7 => (∃ b, v_ = .pointer (some ⟨b, 0, none⟩) ∧ (l_.getD 8 false = false → (Lies W b 28 #[.slice none 0 0, .slice none 0 0, .slice none 0 0, .slice none 0 0, .slice none 0 0] ∧ w3.heap.size ≤ b))) | _ => True) : Array Bool → Nat → Value → World → Prop) lq kq uq W) => KF lq pq kq uq W W hp (gr W) h
      have IV : ∀ (lq : Array Bool) (pq : Nat) (W W' : World) {vq : Nat → Value} {uq : Value}, (pq ≠ 2 ∧ pq ≠ 5 ∧ pq ≠ 6 ∧ pq ≠ 8) → W.grownBy W' none → lq.getD 8 false = false → ((fun (l_ : Array Bool) (V_ : Nat → Value) (WW : World) => (Below w3.heap.size w3 WW) ∧ (l_.getD 5 false = true → l_.getD 8 false = false → ∃ A1 C1 G1 E1 D1 A2 C2 G2 E2 D2 B2, V_ 2 = .agg #[.slice A1 n C1, .slice G1 m E1] ∧ V_ 5 = .agg #[.slice A2 n2 C2, .slice G2 m2 E2] ∧ Two WW w3.heap.size B2 (.slice A1 n C1) (.slice G1 m E1) D1 (.slice A2 n2 C2) (.slice G2 m2 E2) D2 ns fs ms gs ∧ (l_.getD 6 false = true → V_ 6 = .agg #[.slice A1 n C1, .slice G1 m E1, .slice A2 n2 C2, .slice G2 m2 E2, .slice none 0 0])) ∧ (l_.getD 8 false = true → ∃ A1 C1 G1 E1 D1 A2 C2 G2 E2 D2 B2 r, V_ 7 = .pointer (some ⟨r, 0, none⟩) ∧ Two WW w3.heap.size B2 (.slice A1 n C1) (.slice G1 m E1) D1 (.slice A2 n2 C2) (.slice G2 m2 E2) D2 ns fs ms gs ∧ Lies WW r 28 #[.slice A1 n C1, .slice G1 m E1, .slice A2 n2 C2, .slice G2 m2 E2, .slice none 0 0] ∧ w3.heap.size ≤ r)) : Array Bool → (Nat → Value) → World → Prop) lq vq W → ((fun (l_ : Array Bool) (V_ : Nat → Value) (WW : World) => (Below w3.heap.size w3 WW) ∧ (l_.getD 5 false = true → l_.getD 8 false = false → ∃ A1 C1 G1 E1 D1 A2 C2 G2 E2 D2 B2, V_ 2 = .agg #[.slice A1 n C1, .slice G1 m E1] ∧ V_ 5 = .agg #[.slice A2 n2 C2, .slice G2 m2 E2] ∧ Two WW w3.heap.size B2 (.slice A1 n C1) (.slice G1 m E1) D1 (.slice A2 n2 C2) (.slice G2 m2 E2) D2 ns fs ms gs ∧ (l_.getD 6 false = true → V_ 6 = .agg #[.slice A1 n C1, .slice G1 m E1, .slice A2 n2 C2, .slice G2 m2 E2, .slice none 0 0])) ∧ (l_.getD 8 false = true → ∃ A1 C1 G1 E1 D1 A2 C2 G2 E2 D2 B2 r, V_ 7 = .pointer (some ⟨r, 0, none⟩) ∧ Two WW w3.heap.size B2 (.slice A1 n C1) (.slice G1 m E1) D1 (.slice A2 n2 C2) (.slice G2 m2 E2) D2 ns fs ms gs ∧ Lies WW r 28 #[.slice A1 n C1, .slice G1 m E1, .slice A2 n2 C2, .slice G2 m2 E2, .slice none 0 0] ∧ w3.heap.size ≤ r)) : Array Bool → (Nat → Value) → World → Prop) (lq.setIfInBounds pq true) (upd vq pq uq) W' := fun lq pq W W' vq uq hp hg hn h => by
        have h5 : (lq.setIfInBounds pq true).getD 5 false = lq.getD 5 false := by rw [getD_set_ne false hp.2.1]
        have h6 : (lq.setIfInBounds pq true).getD 6 false = lq.getD 6 false := by rw [getD_set_ne false hp.2.2.1]
        have h8 : (lq.setIfInBounds pq true).getD 8 false = false := by rw [getD_set_ne false hp.2.2.2]; exact hn
        refine ⟨h.1.grown hg h.1.size (fun k e => by cases e), fun e5 _ => ?_, fun e => (by rw [h8] at e; cases e)⟩
        obtain ⟨A1, C1, G1, E1, D1, A2, C2, G2, E2, D2, B2, v2, v5, t, v6⟩ := h.2.1 (by rw [← h5]; exact e5) hn
        exact ⟨A1, C1, G1, E1, D1, A2, C2, G2, E2, D2, B2, by rw [upd_other (Ne.symm hp.1)]; exact v2, by rw [upd_other (Ne.symm hp.2.1)]; exact v5, two_kept t hg (fun r e => by cases e), fun e6 => by rw [upd_other (Ne.symm hp.2.2.1)]; exact v6 (by rw [← h6]; exact e6)⟩
      refine wp_region_any (by kernel_rfl) ?_
      refine every_factV (own := ownAll _) id ((fun (l_ : Array Bool) (j_ : Nat) (v_ : Value) (W : World) => match j_ with | 0 => v_ = .pointer (some ⟨w.heap.size, 0, none⟩) | 1 => v_ = .agg #[.slice NA n nc, .slice FA m fc] | 2 => (∃ A1 C1 G1 E1 D1, v_ = .agg #[.slice A1 n C1, .slice G1 m E1] ∧ (l_.getD 8 false = false → CopyAt W w3.heap.size (.slice A1 n C1) (.slice G1 m E1) D1 ns fs)) | 3 => v_ = .pointer (some ⟨w.heap.size, 2, none⟩) | 4 => v_ = .agg #[.slice MA n2 mc, .slice GA m2 gc] | 5 => (∃ A2 C2 G2 E2, v_ = .agg #[.slice A2 n2 C2, .slice G2 m2 E2] ∧ True) | 6 => (∃ v6, v_ = v6 ∧ True) | 7 => (∃ b, v_ = .pointer (some ⟨b, 0, none⟩) ∧ (l_.getD 8 false = false → (Lies W b 28 #[.slice none 0 0, .slice none 0 0, .slice none 0 0, .slice none 0 0, .slice none 0 0] ∧ w3.heap.size ≤ b))) | _ => True) : Array Bool → Nat → Value → World → Prop) ((fun (l_ : Array Bool) (V_ : Nat → Value) (WW : World) => (Below w3.heap.size w3 WW) ∧ (l_.getD 5 false = true → l_.getD 8 false = false → ∃ A1 C1 G1 E1 D1 A2 C2 G2 E2 D2 B2, V_ 2 = .agg #[.slice A1 n C1, .slice G1 m E1] ∧ V_ 5 = .agg #[.slice A2 n2 C2, .slice G2 m2 E2] ∧ Two WW w3.heap.size B2 (.slice A1 n C1) (.slice G1 m E1) D1 (.slice A2 n2 C2) (.slice G2 m2 E2) D2 ns fs ms gs ∧ (l_.getD 6 false = true → V_ 6 = .agg #[.slice A1 n C1, .slice G1 m E1, .slice A2 n2 C2, .slice G2 m2 E2, .slice none 0 0])) ∧ (l_.getD 8 false = true → ∃ A1 C1 G1 E1 D1 A2 C2 G2 E2 D2 B2 r, V_ 7 = .pointer (some ⟨r, 0, none⟩) ∧ Two WW w3.heap.size B2 (.slice A1 n C1) (.slice G1 m E1) D1 (.slice A2 n2 C2) (.slice G2 m2 E2) D2 ns fs ms gs ∧ Lies WW r 28 #[.slice A1 n C1, .slice G1 m E1, .slice A2 n2 C2, .slice G2 m2 E2, .slice none 0 0] ∧ w3.heap.size ≤ r)) : Array Bool → (Nat → Value) → World → Prop) (acAll_of (by kernel_rfl)) (onAll_of (by kernel_rfl)) (dstAll_of (by kernel_rfl)) ?hop ?hend _ _ _ _ (fun _ => undef) rfl (shut_none _) (of_decide_eq_true (by kernel_rfl)) (tabd_start (fun i => rep_false _ i)) (fun k hk => by rw [rep_false] at hk; cases hk) ⟨(Below.refl _ _).drew, fun e => (by rw [rep_false] at e; cases e), fun e => (by rw [rep_false] at e; cases e)⟩
      case hop =>
        intro j oi a w0 listed vals hoi hs hcl hun hdeps ht hF hI
        have hj : j < 9 := (Array.getElem?_eq_some_iff.1 hoi).1
        have cj : j = 0 ∨ j = 1 ∨ j = 2 ∨ j = 3 ∨ j = 4 ∨ j = 5 ∨ j = 6 ∨ j = 7 ∨ j = 8 := by omega
        obtain rfl | rfl | rfl | rfl | rfl | rfl | rfl | rfl | rfl := cj
        all_goals obtain rfl := Option.some.inj hoi
        · have e2 : a.eval (.tmp 2) = .pointer (some ⟨w.heap.size, 0, none⟩) := (tabd_old ht (t := 2) (of_decide_eq_true (by kernel_rfl)) (by kernel_rfl)).trans rfl
          refine .inl ⟨rfl, fun K hk => ?_⟩
          exact wp_val (v := .pointer (some ⟨w.heap.size, 0, none⟩)) (by clear hk hI hoi hdeps ht hF hcl hs KF KP IV; generalize a.eval = ρ at *; unfold execOp; simp only [e2]; go_simp) (hk _ _ rfl (KP listed 0 w0 (by decide)) (IV listed 0 w0 w0 (by decide) (gr w0) (by cases hh : listed.getD 8 false with | false => rfl | true => exact absurd (hcl 8 _ rfl hh ⟨0, .phase⟩ (by simp) rfl) (by simp [hun])) hI))
        · have d0 := hdeps ⟨0, .data⟩ (by simp) rfl
          have e36 : a.eval (.tmp 36) = .pointer (some ⟨w.heap.size, 0, none⟩) := (tabd_at ht (t := 36) (of_decide_eq_true (by kernel_rfl)) (by kernel_rfl) d0).trans (hF 0 d0)
          refine .inl ⟨rfl, fun K hk => ?_⟩
          have hL := lies_below L3.out hI.1 (lies_lt L3.out)
          have hc := (pair_range hL).1
          exact wp_val (v := .agg #[.slice NA n nc, .slice FA m fc]) (load_op 25 _ rfl w.heap.size 0 e36 _ _ hc Try.underlying25 rfl (by kernel_rfl)) (hk _ _ rfl (KP listed 1 w0 (by decide)) (IV listed 1 w0 w0 (by decide) (gr w0) (by cases hh : listed.getD 8 false with | false => rfl | true => exact absurd (hcl 8 _ rfl hh ⟨1, .phase⟩ (by simp) rfl) (by simp [hun])) hI))
        · have d1 := hdeps ⟨1, .data⟩ (by simp) rfl
          have e37 : a.eval (.tmp 37) = .agg #[.slice NA n nc, .slice FA m fc] := (tabd_at ht (t := 37) (of_decide_eq_true (by kernel_rfl)) (by kernel_rfl) d1).trans (hF 1 d1)
          have ef27 : a.eval (.func 27) = .func (.func 27) #[] #[] := rfl
          refine .inl ⟨rfl, fun K hk => ?_⟩
          have n5 : listed.getD 5 false = false := (by cases hh : listed.getD 5 false with | false => rfl | true => exact absurd (hcl 5 _ rfl hh ⟨2, .chain⟩ (by simp) rfl) (by simp [hun]))
          have n8 : listed.getD 8 false = false := (by cases hh : listed.getD 8 false with | false => rfl | true => exact absurd (hcl 8 _ rfl hh ⟨2, .phase⟩ (by simp) rfl) (by simp [hun]))
          have hR := KC1.out w0 (B3.out.trans (hI.1.mono B3.out.size)) S1.out.1
          refine wp_enter (by clear hk hI hoi hdeps ht hF hcl hs KF KP IV hR; generalize a.eval = ρ at *; unfold execOp; simp only [e37, ef27]; go_simp) hR ?_
          rintro e w2 ⟨vN, vF, D, rfl, h1, h2⟩
          obtain ⟨A1, C1, e1⟩ := own_slice h1.nodes
          obtain ⟨G1, E1, e2⟩ := own_slice h1.files
          rw [NE.out] at e1
          rw [ME.out] at e2
          subst e1 e2
          exact ⟨_, rfl, hk _ w2 ⟨A1, C1, G1, E1, D, rfl, fun _ => copy_mono h1 hI.1.size⟩ (fun k u _ _ h => KF listed 2 k u w0 w2 (by decide) (grown_of_below h2) h) ⟨hI.1.trans (h2.mono hI.1.size), fun e5 _ => (by rw [getD_set_ne false (by decide), n5] at e5; cases e5), fun e => (by rw [getD_set_ne false (by decide), n8] at e; cases e)⟩⟩
        · have e2 : a.eval (.tmp 2) = .pointer (some ⟨w.heap.size, 0, none⟩) := (tabd_old ht (t := 2) (of_decide_eq_true (by kernel_rfl)) (by kernel_rfl)).trans rfl
          refine .inl ⟨rfl, fun K hk => ?_⟩
          exact wp_val (v := .pointer (some ⟨w.heap.size, 2, none⟩)) (by clear hk hI hoi hdeps ht hF hcl hs KF KP IV; generalize a.eval = ρ at *; unfold execOp; simp only [e2]; go_simp) (hk _ _ rfl (KP listed 3 w0 (by decide)) (IV listed 3 w0 w0 (by decide) (gr w0) (by cases hh : listed.getD 8 false with | false => rfl | true => exact absurd (hcl 8 _ rfl hh ⟨3, .phase⟩ (by simp) rfl) (by simp [hun])) hI))
        · have d3 := hdeps ⟨3, .data⟩ (by simp) rfl
          have e39 : a.eval (.tmp 39) = .pointer (some ⟨w.heap.size, 2, none⟩) := (tabd_at ht (t := 39) (of_decide_eq_true (by kernel_rfl)) (by kernel_rfl) d3).trans (hF 3 d3)
          refine .inl ⟨rfl, fun K hk => ?_⟩
          have hL := lies_below L3.out hI.1 (lies_lt L3.out)
          have hc := (pair_range hL).2.1
          exact wp_val (v := .agg #[.slice MA n2 mc, .slice GA m2 gc]) (load_op 25 _ rfl w.heap.size 2 e39 _ _ hc Try.underlying25 rfl (by kernel_rfl)) (hk _ _ rfl (KP listed 4 w0 (by decide)) (IV listed 4 w0 w0 (by decide) (gr w0) (by cases hh : listed.getD 8 false with | false => rfl | true => exact absurd (hcl 8 _ rfl hh ⟨4, .phase⟩ (by simp) rfl) (by simp [hun])) hI))
        · have d4 := hdeps ⟨4, .data⟩ (by simp) rfl
          have d2 := hdeps ⟨2, .chain⟩ (by simp) rfl
          have e40 : a.eval (.tmp 40) = .agg #[.slice MA n2 mc, .slice GA m2 gc] := (tabd_at ht (t := 40) (of_decide_eq_true (by kernel_rfl)) (by kernel_rfl) d4).trans (hF 4 d4)
          have ef27 : a.eval (.func 27) = .func (.func 27) #[] #[] := rfl
          refine .inl ⟨rfl, fun K hk => ?_⟩
          have n6 : listed.getD 6 false = false := (by cases hh : listed.getD 6 false with | false => rfl | true => exact absurd (hcl 6 _ rfl hh ⟨5, .data⟩ (by simp) rfl) (by simp [hun]))
          have n8 : listed.getD 8 false = false := (by cases hh : listed.getD 8 false with | false => rfl | true => exact absurd (hcl 8 _ rfl hh ⟨5, .chain⟩ (by simp) rfl) (by simp [hun]))
          have hR := KC2.out w0 (B3.out.trans (hI.1.mono B3.out.size)) S1.out.2.1
          refine wp_enter (by clear hk hI hoi hdeps ht hF hcl hs KF KP IV hR; generalize a.eval = ρ at *; unfold execOp; simp only [e40, ef27]; go_simp) hR ?_
          rintro e w2 ⟨vN, vF, D2, rfl, h1, h2⟩
          obtain ⟨A2, C2, e1⟩ := own_slice h1.nodes
          obtain ⟨G2, E2, e2⟩ := own_slice h1.files
          rw [NE2.out] at e1
          rw [ME2.out] at e2
          subst e1 e2
          obtain ⟨A1, C1, G1, E1, D1, v2, hC⟩ := hF 2 d2
          have hc1 := hC n8
          exact ⟨_, rfl, hk _ w2 ⟨A2, C2, G2, E2, rfl, trivial⟩ (fun k u _ _ h => KF listed 5 k u w0 w2 (by decide) (grown_of_below h2) h) ⟨hI.1.trans (h2.mono hI.1.size), fun _ _ => ⟨A1, C1, G1, E1, D1, A2, C2, G2, E2, D2, w0.heap.size, (upd_other (by decide)).trans v2, upd_same _ _ _, ⟨copy_below hc1 h2, h1, loC_of hc1, hI.1.size⟩, fun e6 => (by rw [getD_set_ne false (by decide), n6] at e6; cases e6)⟩, fun e => (by rw [getD_set_ne false (by decide), n8] at e; cases e)⟩⟩
        · have d2 := hdeps ⟨2, .data⟩ (by simp) rfl
          have d5 := hdeps ⟨5, .data⟩ (by simp) rfl
          have f2 := hF 2 d2
          have e38 : a.eval (.tmp 38) = vals 2 := tabd_at ht (t := 38) (of_decide_eq_true (by kernel_rfl)) (by kernel_rfl) d2
          have f5 := hF 5 d5
          have e41 : a.eval (.tmp 41) = vals 5 := tabd_at ht (t := 41) (of_decide_eq_true (by kernel_rfl)) (by kernel_rfl) d5
          refine .inl ⟨rfl, fun K hk => ?_⟩
          have n8 : listed.getD 8 false = false := (by cases hh : listed.getD 8 false with | false => rfl | true => exact absurd (hcl 8 _ rfl hh ⟨6, .data⟩ (by simp) rfl) (by simp [hun]))
          obtain ⟨A1, C1, G1, E1, D1, A2, C2, G2, E2, D2, B2, v2, v5, t, v6⟩ := hI.2.1 d5 n8
          rw [v2] at e38
          rw [v5] at e41
          exact wp_val (v := .agg #[.slice A1 n C1, .slice G1 m E1, .slice A2 n2 C2, .slice G2 m2 E2, .slice none 0 0]) (by clear t v2 v5 v6 f2 f5; clear hk hI hoi hdeps ht hF hcl hs KF KP IV; generalize a.eval = ρ at *; unfold execOp; simp only [e38, e41]; go_simp) (hk _ _ ⟨_, rfl, trivial⟩ (fun k u _ _ h => KF listed 6 k u w0 w0 (by decide) (gr w0) h) ⟨hI.1, fun _ _ => ⟨A1, C1, G1, E1, D1, A2, C2, G2, E2, D2, B2, (upd_other (by decide)).trans v2, (upd_other (by decide)).trans v5, t, fun _ => upd_same _ _ _⟩, fun e => (by rw [getD_set_ne false (by decide), n8] at e; cases e)⟩)
        · refine .inl ⟨rfl, fun K hk => ?_⟩
          have hz := zero28
          exact wp_valT (v := .pointer (some ⟨w0.heap.size, 0, none⟩)) (w' := w0.alloc (.cells #[.slice none 0 0, .slice none 0 0, .slice none 0 0, .slice none 0 0, .slice none 0 0] 28)) (by clear hk hI hoi hdeps ht hF hcl hs KF KP IV; generalize a.eval = ρ at *; unfold execOp; go_simp) (hk _ _ ⟨_, rfl, fun _ => ⟨lies_new w0 28 _, hI.1.size⟩⟩ (fun k u _ _ h => KF listed 7 k u w0 _ (by decide) (World.grownBy_alloc w0 _ none) h) (IV listed 7 w0 _ (by decide) (World.grownBy_alloc w0 _ none) (by cases hh : listed.getD 8 false with | false => rfl | true => exact absurd (hcl 8 _ rfl hh ⟨7, .data⟩ (by simp) rfl) (by simp [hun])) hI))
        · have d7 := hdeps ⟨7, .data⟩ (by simp) rfl
          have d6 := hdeps ⟨6, .data⟩ (by simp) rfl
          have d5 := hdeps ⟨5, .chain⟩ (by simp) rfl
          have f7 := hF 7 d7
          have e9 : a.eval (.tmp 9) = vals 7 := tabd_at ht (t := 9) (of_decide_eq_true (by kernel_rfl)) (by kernel_rfl) d7
          have f6 := hF 6 d6
          have e42 : a.eval (.tmp 42) = vals 6 := tabd_at ht (t := 42) (of_decide_eq_true (by kernel_rfl)) (by kernel_rfl) d6
          refine .inl ⟨rfl, fun K hk => ?_⟩
          have PR := fun W' => show ∀ (kq : Nat) (uq : Value), kq ≠ 8 → listed.getD kq false = true → ((fun (l_ : Array Bool) (j_ : Nat) (v_ : Value) (W : World) => match j_ with | 0 => v_ = .pointer (some ⟨w.heap.size, 0, none⟩) | 1 => v_ = .agg #[.slice NA n nc, .slice FA m fc] | 2 => (∃ A1 C1 G1 E1 D1, v_ = .agg #[.slice A1 n C1, .slice G1 m E1] ∧ (l_.getD 8 false = false → CopyAt W w3.heap.size (.slice A1 n C1) (.slice G1 m E1) D1 ns fs)) | 3 => v_ = .pointer (some ⟨w.heap.size, 2, none⟩) | 4 => v_ = .agg #[.slice MA n2 mc, .slice GA m2 gc] | 5 => (∃ A2 C2 G2 E2, v_ = .agg #[.slice A2 n2 C2, .slice G2 m2 E2] ∧ True) | 6 => (∃ v6, v_ = v6 ∧ True) | 7 => (∃ b, v_ = .pointer (some ⟨b, 0, none⟩) ∧ (l_.getD 8 false = false → (Lies W b 28 #[.slice none 0 0, .slice none 0 0, .slice none 0 0, .slice none 0 0, .slice none 0 0] ∧ w3.heap.size ≤ b))) | _ => True) : Array Bool → Nat → Value → World → Prop) listed kq uq w0 → ((fun (l_ : Array Bool) (j_ : Nat) (v_ : Value) (W : World) => match j_ with | 0 => v_ = .pointer (some ⟨w.heap.size, 0, none⟩) | 1 => v_ = .agg #[.slice NA n nc, .slice FA m fc] | 2 => (∃ A1 C1 G1 E1 D1, v_ = .agg #[.slice A1 n C1, .slice G1 m E1] ∧ (l_.getD 8 false = false → CopyAt W w3.heap.size (.slice A1 n C1) (.slice G1 m E1) D1 ns fs)) | 3 => v_ = .pointer (some ⟨w.heap.size, 2, none⟩) | 4 => v_ = .agg #[.slice MA n2 mc, .slice GA m2 gc] | 5 => (∃ A2 C2 G2 E2, v_ = .agg #[.slice A2 n2 C2, .slice G2 m2 E2] ∧ True) | 6 => (∃ v6, v_ = v6 ∧ True) | 7 => (∃ b, v_ = .pointer (some ⟨b, 0, none⟩) ∧ (l_.getD 8 false = false → (Lies W b 28 #[.slice none 0 0, .slice none 0 0, .slice none 0 0, .slice none 0 0, .slice none 0 0] ∧ w3.heap.size ≤ b))) | _ => True) : Array Bool → Nat → Value → World → Prop) (listed.setIfInBounds 8 true) kq uq W' from
            (fun kq uq hkp hkl h => by
              have s_ : (listed.setIfInBounds 8 true).getD 8 false = true := getD_here (by rw [hs]; decide)
              match kq, hkp, hkl, h with
              | 0, _, _, h => exact h
              | 1, _, _, h => exact h
              | 2, _, _, ⟨A1, C1, G1, E1, D1, e, _⟩ => exact ⟨A1, C1, G1, E1, D1, e, fun h6 => by rw [s_] at h6; cases h6⟩
              | 3, _, _, h => exact h
              | 4, _, _, h => exact h
              | 5, _, _, h => exact h
              | 6, _, _, h => exact h
              | 7, _, _, ⟨b, e, _⟩ => exact ⟨b, e, fun h6 => by rw [s_] at h6; cases h6⟩
              | _ + 8, _, _, _ => exact trivial)
          obtain ⟨r, v7, h7⟩ := hF 7 d7
          obtain ⟨A1, C1, G1, E1, D1, A2, C2, G2, E2, D2, B2, v2, v5, t, v6⟩ := hI.2.1 d5 hun
          have hl := (h7 hun).1
          have hr := (h7 hun).2
          have hq := v6 d6
          rw [v7] at e9
          rw [hq] at e42
          have hgr : w0.grownBy (w0.setRow r #[.slice A1 n C1, .slice G1 m E1, .slice A2 n2 C2, .slice G2 m2 E2, .slice none 0 0]) (some r) := grown_setRow w0 r _
          exact wp_store_row 28 _ _ rfl r #[.slice A1 n C1, .slice G1 m E1, .slice A2 n2 C2, .slice G2 m2 E2, .slice none 0 0] e9 e42 28 #[.slice none 0 0, .slice none 0 0, .slice none 0 0, .slice none 0 0, .slice none 0 0] hl (by kernel_rfl) rfl (by simp [Value.oneCell']) (hk _ _ trivial (PR _) ⟨below_setRow hI.1 hr _, fun _ e => (by rw [getD_here (by rw [hs]; decide)] at e; cases e), fun _ => ⟨A1, C1, G1, E1, D1, A2, C2, G2, E2, D2, B2, r, (upd_other (by decide)).trans v7, two_kept t hgr (fun r' e => by injection e with e; subst e; exact ⟨_, 28, hl, by decide, by decide, by decide⟩), lies_setRow hl _, hr⟩⟩)
      case hend =>
        intro a w0 listed vals hall ht hF hI
        rw [tabd_fill ht (fun t i ho => hall i (ownAll_lt ho))]
        have g0 : vals 0 = .pointer (some ⟨w.heap.size, 0, none⟩) := hF 0 (by decide)
        have g1 : vals 1 = .agg #[.slice NA n nc, .slice FA m fc] := hF 1 (by decide)
        have g2 := hF 2 (by decide)
        have g3 : vals 3 = .pointer (some ⟨w.heap.size, 2, none⟩) := hF 3 (by decide)
        have g4 : vals 4 = .agg #[.slice MA n2 mc, .slice GA m2 gc] := hF 4 (by decide)
        have g5 := hF 5 (by decide)
        have g6 := hF 6 (by decide)
        have g7 := hF 7 (by decide)
        change Exit.then _ _ Exit.normal { tmps := (.agg #[.slice NA n nc, .slice FA m fc, .slice MA n2 mc, .slice GA m2 gc, .slice LA k lc] :: .int .i64 by_ :: .pointer (some ⟨w.heap.size, 0, none⟩) :: undef :: .bool false :: .bool true :: .bool false :: .slice (some ⟨gl, 0, none⟩) m2 m2 :: .int .i64 0 :: vals 7 :: undef :: undef :: undef :: undef :: .bool true :: .agg #[.slice NA n nc, .slice FA m fc, .slice MA n2 mc, .slice GA m2 gc, .slice LA k lc] :: .bool false :: .bool true :: .bool false :: .bool false :: .bool false :: .bool false :: undef :: .tuple #[.slice (some ⟨gl, 0, none⟩) m2 m2, .int .i64 0] :: .pointer (some ⟨w.heap.size, 0, none⟩) :: .agg #[.slice NA n nc, .slice FA m fc] :: .pointer (some ⟨w.heap.size, 2, none⟩) :: .agg #[.slice MA n2 mc, .slice GA m2 gc] :: .pointer (some ⟨w.heap.size, 4, none⟩) :: .slice LA k lc :: .tuple #[.slice (some ⟨gl, 0, none⟩) m2 m2, .int .i64 0] :: .slice (some ⟨gl, 0, none⟩) m2 m2 :: .int .i64 0 :: .int .i64 0 :: .int .i64 0 :: .bool false :: vals 0 :: vals 1 :: vals 2 :: vals 3 :: vals 4 :: vals 5 :: vals 6 :: undef :: undef :: undef :: undef :: undef :: undef :: undef :: undef :: undef :: undef :: undef :: undef :: undef :: undef :: undef :: undef :: undef :: undef :: undef :: undef :: undef :: undef :: undef :: undef :: undef :: undef :: undef :: undef :: undef :: undef :: undef :: undef :: undef :: undef :: undef :: undef :: undef :: undef :: undef :: undef :: undef :: undef :: undef :: undef :: undef :: undef :: undef :: undef :: undef :: undef :: undef :: undef :: undef :: undef :: undef :: undef :: undef :: undef :: []).toArray, defers := [] } w0
        simp only [g0, g1, g3, g4]
        clear ht hF KF KP IV
        obtain ⟨A1, C1, G1, E1, D1, A2, C2, G2, E2, D2, B2, r, v7, t, hl, hr⟩ := hI.2.2 (hall 8 (by decide))
        have TW := Lib.hid t
        have LR := Lib.hid hl
        have B8 := Lib.hid (B3.out.trans (hI.1.mono B3.out.size))
        have BX := Lib.hid hI.1
        have HR := Lib.hid hr
        rw [v7]
        clear hI hall v7 g2 g5 g6 g7 t hl hr
        generalize vals 2 = z2
        generalize vals 5 = z5
        generalize vals 6 = z6
        obtain ⟨mb, hmb⟩ : ∃ mb, mb = bits .and .i64 by_ 511 := ⟨_, rfl⟩
        have MB := Lib.hid (show 0 ≤ mb ∧ mb ≤ 511 by rw [hmb, and511]; omega)
        have HMB := Lib.hid hmb.symm
        clear hmb
        have mB : m ≤ 300 := by have := S1.out.1.2.1; have := ME.out; omega
        have m2B : m2 ≤ 300 := by have := S1.out.2.1.2.1; have := ME2.out; omega
        go_wp2
        go_loopw [10] (fun v10 wr => ∃ i : Nat, i ≤ m ∧ v10 = .int .i64 (i : Int) ∧ Below w3.heap.size w3 wr ∧ Two wr w3.heap.size B2 (.slice A1 n C1) (.slice G1 m E1) D1 (.slice A2 n2 C2) (.slice G2 m2 E2) D2 ns (remTo (fun x => bits .xor .i64 x mb) fs i) ms gs ∧ Lies wr r 28 #[.slice A1 n C1, .slice G1 m E1, .slice A2 n2 C2, .slice G2 m2 E2, .slice none 0 0]) (fun v10 _ => m - (intOf v10).toNat)
        case atStart => exact ⟨0, Nat.zero_le _, rfl, BX.out, by rw [remTo_zero]; exact TW.out, LR.out⟩
        case round =>
          obtain ⟨i, hi, rfl, hb, ht, hl⟩ := hrel
          have HB := Lib.hid hb
          have HT := Lib.hid ht
          have HL := Lib.hid hl
          have x1 := lies_cell hl 1
          simp only [List.getElem?_toArray, List.getElem?_cons_zero, List.getElem?_cons_succ] at x1
          clear hb ht hl
          by_cases hlt : i < m
          · have li : (i : Int) < (m : Int) := by omega
            have lf : i < fs.length := by have := ME.out; omega
            have cf := HT.out.a.files
            rw [remTo_len, ME.out] at cf
            obtain ⟨g, rfl⟩ := own_at cf (by omega : 0 < m)
            have f0 := (cf.cellAt (i * 2) (by omega)).trans (fcells_at D1 (remTo (fun x => bits .xor .i64 x mb) fs i) i (by rw [remTo_len]; exact lf)).1
            rw [remTo_at _ fs i lf] at f0
            have z0 := cf.frozenAt (i * 2)
            have gl3 := (own_lt cf rfl).1
            have rne : r ≠ g := fun e => by
              obtain ⟨_, cs, h2⟩ := own_heap cf g rfl
              have := HL.out
              unfold Lies at this
              rw [e, h2] at this
              injection this with this
              injection this with _ h4 _
              cases h4
            have NX := Lib.hid (show ∀ u : Int, u = bits .xor .i64 fs[i].mode mb → Below w3.heap.size w3 (wr.drew.setCell ⟨g, i * 2, none⟩ (.int .i64 u)) ∧ Two (wr.drew.setCell ⟨g, i * 2, none⟩ (.int .i64 u)) w3.heap.size B2 (.slice A1 n C1) (.slice (some ⟨g, 0, none⟩) m E1) D1 (.slice A2 n2 C2) (.slice G2 m2 E2) D2 ns (remTo (fun x => bits .xor .i64 x mb) fs (i + 1)) ms gs ∧ Lies (wr.drew.setCell ⟨g, i * 2, none⟩ (.int .i64 u)) r 28 #[.slice A1 n C1, .slice (some ⟨g, 0, none⟩) m E1, .slice A2 n2 C2, .slice G2 m2 E2, .slice none 0 0] from fun u hu => by
              refine ⟨below_setCell (p := ⟨g, i * 2, none⟩) HB.out.drew gl3 _, ?_, lies_far (p := ⟨g, i * 2, none⟩) (lies_drew HL.out) rne _⟩
              have t1 := two_mode1 (two_below HT.out (W' := wr.drew) (Below.refl _ _).drew) (by rw [remTo_len]; exact ME.out) (i := i) (by rw [remTo_len]; exact lf) u
              rw [remTo_at _ fs i lf, hu, remTo_succ (fun x => bits .xor .i64 x mb) fs i lf, ← hu] at t1
              exact t1)
            clear cf HT HL HB gl3 rne
            generalize fs[i].mode = md at *
            have hx := HMB.out
            go_upto_region 12 with (fail)
            go_still_tail 16, (by kernel_rfl)
            change wpList _ _ _ _ _ wr.drew
            go_wp2
            go_roundw
            case rel =>
              obtain ⟨n1, n2, n3⟩ := NX.out _ rfl
              exact ⟨i + 1, by omega, by go_num, n1, n2, n3⟩
            case measure => first | (simp [intOf]; done) | (simp [intOf]; omega)
          · have hi2 : i = m := by omega
            subst hi2
            have li : ¬ (i : Int) < (i : Int) := by omega
            have T1 := HT.out
            rw [← ME.out, remTo_all] at T1
            have T2 := Lib.hid T1
            have y1 := lies_cell HL.out 3
            simp only [List.getElem?_toArray, List.getElem?_cons_zero, List.getElem?_cons_succ] at y1
            clear T1 HT
            go_wp2
            go_loopw [11] (fun v11 wq => ∃ j : Nat, j ≤ m2 ∧ v11 = .int .i64 (j : Int) ∧ Below w3.heap.size w3 wq ∧ Two wq w3.heap.size B2 (.slice A1 n C1) (.slice G1 i E1) D1 (.slice A2 n2 C2) (.slice G2 m2 E2) D2 ns (remode (fun x => bits .xor .i64 x mb) fs) ms (remTo (fun _ => mb) gs j) ∧ Lies wq r 28 #[.slice A1 n C1, .slice G1 i E1, .slice A2 n2 C2, .slice G2 m2 E2, .slice none 0 0]) (fun v11 _ => m2 - (intOf v11).toNat)
            case atStart => exact ⟨0, Nat.zero_le _, rfl, HB.out, by rw [remTo_zero]; have := T2.out; rwa [ME.out] at this, HL.out⟩
            case round =>
              obtain ⟨j, hj, rfl, hb, ht, hl⟩ := hrel
              have QB := Lib.hid hb
              have QT := Lib.hid ht
              have QL := Lib.hid hl
              have x3 := lies_cell hl 3
              simp only [List.getElem?_toArray, List.getElem?_cons_zero, List.getElem?_cons_succ] at x3
              clear hb ht hl
              by_cases hlt2 : j < m2
              · have li2 : (j : Int) < (m2 : Int) := by omega
                have lf : j < gs.length := by have := ME2.out; omega
                have cf := QT.out.b.files
                rw [remTo_len, ME2.out] at cf
                obtain ⟨g, rfl⟩ := own_at cf (by omega : 0 < m2)
                have f0 := (cf.cellAt (j * 2) (by omega)).trans (fcells_at D2 (remTo (fun _ => mb) gs j) j (by rw [remTo_len]; exact lf)).1
                rw [remTo_at _ gs j lf] at f0
                have z0 := cf.frozenAt (j * 2)
                have gl3 := Nat.le_trans QT.out.le (own_lt cf rfl).1
                have rne : r ≠ g := fun e => by
                  obtain ⟨_, cs, h2⟩ := own_heap cf g rfl
                  have := QL.out
                  unfold Lies at this
                  rw [e, h2] at this
                  injection this with this
                  injection this with _ h4 _
                  cases h4
                have NX := Lib.hid (show Below w3.heap.size w3 (wr.setCell ⟨g, j * 2, none⟩ (.int .i64 mb)) ∧ Two (wr.setCell ⟨g, j * 2, none⟩ (.int .i64 mb)) w3.heap.size B2 (.slice A1 n C1) (.slice G1 i E1) D1 (.slice A2 n2 C2) (.slice (some ⟨g, 0, none⟩) m2 E2) D2 ns (remode (fun x => bits .xor .i64 x mb) fs) ms (remTo (fun _ => mb) gs (j + 1)) ∧ Lies (wr.setCell ⟨g, j * 2, none⟩ (.int .i64 mb)) r 28 #[.slice A1 n C1, .slice G1 i E1, .slice A2 n2 C2, .slice (some ⟨g, 0, none⟩) m2 E2, .slice none 0 0] from by
                  refine ⟨below_setCell (p := ⟨g, j * 2, none⟩) QB.out gl3 _, ?_, lies_far (p := ⟨g, j * 2, none⟩) QL.out rne _⟩
                  have t1 := two_mode2 QT.out (by rw [remTo_len]; exact ME2.out) (i := j) (by rw [remTo_len]; exact lf) mb
                  rw [remTo_at _ gs j lf] at t1
                  have t2 := remTo_succ (fun _ => mb) gs j lf
                  rw [t2] at t1
                  exact t1)
                clear cf QT QL QB gl3 rne
                generalize gs[j].mode = md at *
                have hx := HMB.out
                go_wp2
                go_roundw
                case rel =>
                  obtain ⟨n1, n2, n3⟩ := NX.out
                  exact ⟨j + 1, by omega, by go_num, n1, n2, n3⟩
                case measure => first | (simp [intOf]; done) | (simp [intOf]; omega)
              · have hj2 : j = m2 := by omega
                subst hj2
                have li2 : ¬ (j : Int) < (j : Int) := by omega
                have T3 := QT.out
                rw [← ME2.out, remTo_all] at T3
                obtain ⟨ea, eb, _, _⟩ := errM_zero.1 HE.out
                have o1 : ∀ x ∈ fs, okMode (bits .xor .i64 x.mode mb) = true := fun x hx => (okMode_iff _).2 (xor_small _ _ ((okMode_iff _).1 (loose_okMode (check_loose ea) x hx)) MB.out)
                have o2 : ∀ x ∈ gs, okMode mb = true := fun x hx => (okMode_iff _).2 MB.out
                have he2 := errM_remode (fun x => bits .xor .i64 x mb) (fun _ => mb) HE.out o1 o2
                have CN1 : NodesAt wr A1 ns := by obtain ⟨A, c, e, h⟩ := copy_nodes T3.a; injection e with e1 e2 e3; rw [e1]; exact h
                have CF1 : FilesAt wr G1 (remode (fun x => bits .xor .i64 x mb) fs) := by obtain ⟨A, c, e, h⟩ := copy_files T3.a; injection e with e1 e2 e3; rw [e1]; exact h
                have CN2 : NodesAt wr A2 ms := by obtain ⟨A, c, e, h⟩ := copy_nodes T3.b; injection e with e1 e2 e3; rw [e1]; exact h
                have CF2 : FilesAt wr G2 (remode (fun _ => mb) gs) := by obtain ⟨A, c, e, h⟩ := copy_files T3.b; injection e with e1 e2 e3; rw [e1]; exact h
                have BW := B3.out.trans (QB.out.mono B3.out.size)
                have KY := match_ok A1 G1 A2 G2 LA C1 E1 C2 E2 lc ns ms (remode (fun x => bits .xor .i64 x mb) fs) (remode (fun _ => mb) gs) ls wr CN1 CF1 CN2 CF2 (KL.out _ BW) (small_remode _ S1.out.1) (small_remode _ S1.out.2.1) (by have := S1.out.2.2.1; omega) (fun x hx => by have := S1.out.2.2.2 x hx; omega) he2
                rw [matchL_remode, remode_len, remode_len, NE.out, ME.out, NE2.out, ME2.out, LE.out] at KY
                have KY := Lib.hid KY
                have SS := Lib.hid (fun (W : World) (gm : Nat) (h1 : SrcR W gl (matchL ns fs ms gs ls).1) (h2 : SrcR W gm (matchL ns fs ms gs ls).1) => (show Calls Try.prog 19 #[.slice (some ⟨gl, 0, none⟩) j j, .slice (some ⟨gm, 0, none⟩) j j] W fun e w' => e = .returned (.bool true) ∧ Below W.heap.size W w' from by
                  have := sames_any gl gm j j (matchL ns fs ms gs ls).1 W h1 h2 (by rw [matchL_len, ME2.out]; omega)
                  rwa [matchL_len, ME2.out] at this))
                have BW := Lib.hid BW
                have L4 := lies_below L3.out QB.out (lies_lt L3.out)
                have c4 := lies_cell L4 4
                simp only [List.getElem?_toArray, List.getElem?_cons_zero, List.getElem?_cons_succ] at c4
                have P4 := Lib.hid (pair_range QL.out)
                have GK := Lib.hid (srcR_below GL.out (Nat.le_refl _) QB.out)
                clear he2 o1 o2 ea eb CN1 CF1 CN2 CF2 T3 L4
                go_upto_region 18 with (first
                  | (refine wpList_load_mid rfl 25 _ rfl r 0 rfl [.slice A1 n C1, .slice G1 i E1] _ P4.out.1 Try.underlying25 rfl (by kernel_rfl) ?_)
                  | (refine wpList_load_mid rfl 25 _ rfl r 2 rfl [.slice A2 n2 C2, .slice G2 j E2] _ P4.out.2.1 Try.underlying25 rfl (by kernel_rfl) ?_)
                  | (go_at_call 13; (with_reducible refine KY.out.mono ?_); rintro e w5 ⟨⟨gm, rfl, hgm⟩, hb⟩; have B5 := Lib.hid (BW.out.trans (hb.mono BW.out.size)); have GM := Lib.hid hgm; have G5 := Lib.hid (srcR_below GK.out (Nat.le_refl _) hb); clear hb hgm))
                go_wp2_with (first
                  | (go_at_call 18; (with_reducible refine (num_any _ _).mono ?_); rintro e w6 ⟨rfl, rfl⟩)
                  | (go_at_call 19; (with_reducible refine (SS.out _ _ G5.out GM.out).mono ?_); rintro e w7 ⟨rfl, hb⟩; have B7 := Lib.hid (B5.out.trans (hb.mono B5.out.size)); clear hb))
                go_ret
                exact ⟨rfl, B7.out⟩
end Go.Proofs.Ytiglakhfkgeefaa
