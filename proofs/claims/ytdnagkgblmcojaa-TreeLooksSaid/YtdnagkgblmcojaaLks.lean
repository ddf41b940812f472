/-
What is proved here: the law TreeLooks, by a contract.
-/
import Derived.Test.YtdnagkgblmcojaaNmk
import Derived.Test.YtdnagkgblmcojaaRlo
import Derived.Test.YtdnagkgblmcojaaBig
import Derived.Test.YtdnagkgblmcojaaAlv
set_option linter.unusedSimpArgs false
namespace Go.Proofs.Ytdnagkgblmcojaa
open Go.Pth Go.Tre Go.RowKit Go.Word Go.Shelf
attribute [local go_sem] guard_eq guard_ne st_eql st_neq

theorem eql_empty (t : TypeId) (a : Bt) : binOp .eql t (St a) (.string { data := #[] }) = pure (.bool (same a [])) := st_eql t a []
attribute [local go_sem] eql_empty
set_option maxRecDepth 100000 in
set_option maxHeartbeats 8000000 in
theorem looks_law (NA FA : Option Addr) (nc fc : Nat) (ns : List Nd) (fs : List Fl) (p : Bt) (q : Int) (w : World) (hN : NodesAt w NA ns) (hF : FilesAt w FA fs)
    (h1 : ns.length ≤ 140737488355328) (h2 : fs.length ≤ 140737488355328) (h3 : ∀ x ∈ ns, x.path.length ≤ 140737488355328) (h4 : ∀ x ∈ fs, x.data.length ≤ 140737488355328) :
    Calls Try.prog 3 #[.agg #[.slice NA ns.length nc, .slice FA fs.length fc], St p, .int .i64 q] w fun e w' => e = .returned (.bool true) ∧ Below w.heap.size w w' := by
  have L := lies_new w 25 #[.slice NA ns.length nc, .slice FA fs.length fc]
  have hB : Below w.heap.size w (w.alloc (.cells #[.slice NA ns.length nc, .slice FA fs.length fc] 25)) := (Below.refl _ _).alloc (Nat.le_refl _) _
  have KB := fun (W : World) (hb : Below w.heap.size w W) => Lib.hid (big_any NA FA nc fc ns fs W (nodesAt_below hN hb) (filesAt_below hF hb) h1 h2 h3 h4)
  have sp : Small ns fs → ∀ x ∈ ns, x.path.length ≤ 100000 := fun hs x hx => Nat.le_trans (hs.2.2.1 x hx) (by decide)
  have KF := fun (W : World) (hb : Below w.heap.size w W) (hs : Small ns fs) => Lib.hid (find_any NA FA nc fc ns fs p W (nodesAt_below hN hb) (filesAt_below hF hb) (sp hs))
  have KN := fun (W : World) (hb : Below w.heap.size w W) (hs : Small ns fs) => Lib.hid (names_any NA FA nc fc ns fs q W (nodesAt_below hN hb) (filesAt_below hF hb) (sp hs))
  have KK := fun (W : World) (hb : Below w.heap.size w W) (hs : Small ns fs) => Lib.hid (kids_any NA FA nc fc ns fs p W (nodesAt_below hN hb) (filesAt_below hF hb) (sp hs))
  have KL := fun (W : World) (hb : Below w.heap.size w W) (hs : Small ns fs) => Lib.hid (loose_ref NA FA nc fc ns fs W (nodesAt_below hN hb) (filesAt_below hF hb) (sp hs))
  have RF := fun (W : World) (hb : Below w.heap.size w W) (hs : Small ns fs) => Lib.hid (find_ref NA FA nc fc ns fs.length p W (Nat.le_trans hs.1 (by decide)) (nodesAt_below hN hb))
  have RN := fun (W : World) (hb : Below w.heap.size w W) (hs : Small ns fs) => Lib.hid (namesf_ref NA FA nc fc ns fs.length q W hs.1 (nodesAt_below hN hb))
  have RK := fun (W : World) (hb : Below w.heap.size w W) (hs : Small ns fs) => Lib.hid (kids_ref NA FA nc fc ns fs.length p W hs.1 (nodesAt_below hN hb) (sp hs))
  have RV := fun (W : World) (hb : Below w.heap.size w W) (hs : p.length ≤ 100000) => Lib.hid (valid_ref p W hs)
  have eF : looseE ns fs = 0 → lookI ns fs p = findI ns p := fun h => by unfold lookI; rw [if_pos h]
  have eN : looseE ns fs = 0 → namesT ns fs q = namesF ns q := fun h => by unfold namesT; rw [if_pos h]
  have eK : looseE ns fs = 0 → kidsT ns fs p = kidsP ns p := fun h => by unfold kidsT; rw [if_pos h]
  have nF : looseE ns fs ≠ 0 → lookI ns fs p = -1 := fun h => by unfold lookI; rw [if_neg h]
  have nN : looseE ns fs ≠ 0 → namesT ns fs q = [] := fun h => by unfold namesT; rw [if_neg h]
  have nK : looseE ns fs ≠ 0 → kidsT ns fs p = [] := fun h => by unfold kidsT; rw [if_neg h]
  have cN := namesF_count ns q
  have cK := kidsP_count ns p
  have zK := kidsP_none ns p
  generalize looseE ns fs = z at *
  generalize lookI ns fs p = F1 at *
  generalize findI ns p = F2 at *
  generalize namesT ns fs q = N1 at *
  generalize namesF ns q = N2 at *
  generalize kidsT ns fs p = K1 at *
  generalize kidsP ns p = K2 at *
  have SN := Lib.hid (show Small ns fs → N2.length ≤ 100000 from fun h => by have := h.1; omega)
  have SK := Lib.hid (show Small ns fs → K2.length ≤ 100000 from fun h => by have := h.1; omega)
  clear h1 h2 h3 h4 sp cN cK
  have x0 := lies_cell L 0
  have x1 := lies_cell L 1
  simp only [List.getElem?_toArray, List.getElem?_cons_zero, List.getElem?_cons_succ] at x0 x1
  have LX := Lib.hid L
  have HB := Lib.hid hB
  have lst := fun ty l w => len_stg ty l w
  clear L hB hN hF
  generalize ns.length = n at *
  generalize fs.length = f at *
  have after : ∀ W, Below (w.alloc (.cells #[.slice NA n nc, .slice FA f fc] 25)).heap.size (w.alloc (.cells #[.slice NA n nc, .slice FA f fc] 25)) W →
      Hid (W.cell? ⟨w.heap.size, 0, none⟩ = some (.slice NA n nc) ∧ W.cell? ⟨w.heap.size, 1, none⟩ = some (.slice FA f fc)) := fun W hb =>
    Lib.hid ⟨(hb.cell (p := ⟨w.heap.size, 0, none⟩) (lies_lt LX.out)).trans x0, (hb.cell (p := ⟨w.heap.size, 1, none⟩) (lies_lt LX.out)).trans x1⟩
  have HF := Lib.hid (And.intro eF nF)
  have HNN := Lib.hid (And.intro eN nN)
  have HKK := Lib.hid (And.intro eK nK)
  have HZ := Lib.hid zK
  clear eF eN eK nF nN nK zK
  go_enter Try.func3, Try.ntmps3
  go_upto_region 1 with (fail)
  generalize w.alloc (.cells #[.slice NA n nc, .slice FA f fc] 25) = X at *
  have up : ∀ W, Below X.heap.size X W → Below w.heap.size w W := fun W hb => HB.out.trans (hb.mono HB.out.size)
  go_upto_region 3 with (first
    | (go_at_call 8; (with_reducible refine (alive_any _).mono ?_); rintro e w1 ⟨rfl, hb⟩; obtain ⟨p0, p1⟩ := (after _ hb).out; have B1 := Lib.hid hb; clear hb)
    | (go_at_call 9; (with_reducible refine (KB _ (up _ B1.out)).out.mono ?_); rintro e w2 ⟨⟨b1, rfl, hs1⟩, hb⟩; have S1 := Lib.hid hs1; have B2 := Lib.hid (B1.out.trans (hb.mono B1.out.size)); clear hb hs1; obtain ⟨q0, q1⟩ := (after _ B2.out).out))
  cases b1 with
  | true =>
    go_wp2
    go_ret
    exact ⟨rfl, up _ B2.out⟩
  | false =>
    have SS := Lib.hid (S1.out rfl)
    clear S1 p0 p1 x0 x1
    by_cases h5 : 500 < p.length
    · have l5 : (500 : Int) < (p.length : Int) := by omega
      go_wp2
      go_ret
      exact ⟨rfl, up _ B2.out⟩
    · have l5 : ¬ (500 : Int) < (p.length : Int) := by omega
      have hpl := Lib.hid (show p.length ≤ 100000 by omega)
      by_cases hz : z = 0
      · subst hz
        have e1 := HF.out.1 rfl
        have e2 := HNN.out.1 rfl
        have e3 := HKK.out.1 rfl
        subst e1 e2 e3
        have SN1 := Lib.hid (SN.out SS.out)
        have SK1 := Lib.hid (SK.out SS.out)
        clear HF HNN HKK h5
        have TX := fun (A A' : Option Addr) (C C' b b' : Nat) (l : List Bt) (W : World) (g1 : Tx W b A l) (g2 : Tx W b' A' l) (g3 : l.length ≤ 100000) => Lib.hid (sameTexts_any A A' C C' b b' l W g1 g2 g3)
        by_cases he : p = []
        · have hs : same p [] = true := decide_eq_true he
          clear he hpl HZ
          go_wp2_with (first | (go_at_call 10; (with_reducible refine (KF _ (up _ B2.out) SS.out).out.mono ?_); rintro e b3 ⟨rfl, hb⟩; have B3 := Lib.hid (B2.out.trans (hb.mono B2.out.size)); clear hb; obtain ⟨b30, b31⟩ := (after _ B3.out).out) | (go_at_call 11; (with_reducible refine (KN _ (up _ B3.out) SS.out).out.mono ?_); rintro e b4 ⟨A1, C1, rfl, ht1, hb⟩; have T1 := Lib.hid ht1; have B4 := Lib.hid (B3.out.trans (hb.mono B3.out.size)); clear hb ht1; obtain ⟨b40, b41⟩ := (after _ B4.out).out) | (go_at_call 12; (with_reducible refine (KK _ (up _ B4.out) SS.out).out.mono ?_); rintro e b5 ⟨A2, C2, rfl, ht2, hb⟩; have T2 := Lib.hid ht2; have T1b := Lib.hid (tx_below T1.out hb); have B5 := Lib.hid (B4.out.trans (hb.mono B4.out.size)); clear hb ht2; obtain ⟨b50, b51⟩ := (after _ B5.out).out) | (go_at_call 13; (with_reducible refine (KL _ (up _ B5.out) SS.out).out.mono ?_); rintro e b6 ⟨rfl, hb⟩; have T1c := Lib.hid (tx_below T1b.out hb); have T2c := Lib.hid (tx_below T2.out hb); have B6 := Lib.hid (B5.out.trans (hb.mono B5.out.size)); clear hb; obtain ⟨b60, b61⟩ := (after _ B6.out).out) | (go_at_call 15; (with_reducible refine (RK _ (up _ B6.out) SS.out).out.mono ?_); rintro e b7 ⟨v3, rfl, ho3, hb⟩; obtain ⟨A3, C3, rfl, ht3⟩ := tx_own ho3; have T3 := Lib.hid ht3; have T1d := Lib.hid (tx_below T1c.out hb); have T2d := Lib.hid (tx_below T2c.out hb); have B7 := Lib.hid (B6.out.trans (hb.mono B6.out.size)); clear hb ho3 ht3; obtain ⟨b70, b71⟩ := (after _ B7.out).out) | (go_at_call 16; (with_reducible refine (RF _ (up _ B7.out) SS.out).out.mono ?_); rintro e b8 ⟨rfl, hb⟩; have T1e := Lib.hid (tx_below T1d.out hb); have T2e := Lib.hid (tx_below T2d.out hb); have T3e := Lib.hid (tx_below T3.out hb); have B8 := Lib.hid (B7.out.trans (hb.mono B7.out.size)); clear hb; obtain ⟨b80, b81⟩ := (after _ B8.out).out) | (go_at_call 18; (with_reducible refine (RN _ (up _ B8.out) SS.out).out.mono ?_); rintro e b9 ⟨v4, rfl, ho4, hb⟩; obtain ⟨A4, C4, rfl, ht4⟩ := tx_own ho4; have T4 := Lib.hid ht4; have T1f := Lib.hid (tx_below T1e.out hb); have T2f := Lib.hid (tx_below T2e.out hb); have T3f := Lib.hid (tx_below T3e.out hb); have B9 := Lib.hid (B8.out.trans (hb.mono B8.out.size)); clear hb ho4 ht4) | (go_at_call 17; (with_reducible refine (TX A1 A4 C1 C4 _ _ _ _ T1f.out T4.out SN1.out).out.mono ?_); rintro e c1 ⟨rfl, hb⟩; have T2g := Lib.hid (tx_below T2f.out hb); have T3g := Lib.hid (tx_below T3f.out hb); have B10 := Lib.hid (B9.out.trans (hb.mono B9.out.size)); clear hb) | (go_at_call 17; (with_reducible refine (TX A2 A3 C2 C3 _ _ _ _ T2g.out T3g.out SK1.out).out.mono ?_); rintro e c2 ⟨rfl, hb⟩; have B11 := Lib.hid (B10.out.trans (hb.mono B10.out.size)); clear hb))
          go_ret
          exact ⟨rfl, up _ B11.out⟩
        · have hs : same p [] = false := decide_eq_false he
          obtain ⟨v, hv⟩ : ∃ v, v = isPath p := ⟨_, rfl⟩
          have RV2 := fun (W : World) (hb : Below w.heap.size w W) => (show Hid (Calls Try.prog 14 #[St p] W fun e w' => e = .returned (.bool v) ∧ Below W.heap.size W w') by rw [hv]; exact RV W hb hpl.out)
          cases v with
          | true =>
            clear he hpl hv HZ
            go_wp2_with (first | (go_at_call 10; (with_reducible refine (KF _ (up _ B2.out) SS.out).out.mono ?_); rintro e b3 ⟨rfl, hb⟩; have B3 := Lib.hid (B2.out.trans (hb.mono B2.out.size)); clear hb; obtain ⟨b30, b31⟩ := (after _ B3.out).out) | (go_at_call 11; (with_reducible refine (KN _ (up _ B3.out) SS.out).out.mono ?_); rintro e b4 ⟨A1, C1, rfl, ht1, hb⟩; have T1 := Lib.hid ht1; have B4 := Lib.hid (B3.out.trans (hb.mono B3.out.size)); clear hb ht1; obtain ⟨b40, b41⟩ := (after _ B4.out).out) | (go_at_call 12; (with_reducible refine (KK _ (up _ B4.out) SS.out).out.mono ?_); rintro e b5 ⟨A2, C2, rfl, ht2, hb⟩; have T2 := Lib.hid ht2; have T1b := Lib.hid (tx_below T1.out hb); have B5 := Lib.hid (B4.out.trans (hb.mono B4.out.size)); clear hb ht2; obtain ⟨b50, b51⟩ := (after _ B5.out).out) | (go_at_call 13; (with_reducible refine (KL _ (up _ B5.out) SS.out).out.mono ?_); rintro e b6 ⟨rfl, hb⟩; have T1c := Lib.hid (tx_below T1b.out hb); have T2c := Lib.hid (tx_below T2.out hb); have B6 := Lib.hid (B5.out.trans (hb.mono B5.out.size)); clear hb; obtain ⟨b60, b61⟩ := (after _ B6.out).out) | (go_at_call 14; (with_reducible refine (RV2 _ (up _ B6.out)).out.mono ?_); rintro e bv ⟨rfl, hb⟩; have T1v := Lib.hid (tx_below T1c.out hb); have T2v := Lib.hid (tx_below T2c.out hb); have BV := Lib.hid (B6.out.trans (hb.mono B6.out.size)); clear hb; obtain ⟨bv0, bv1⟩ := (after _ BV.out).out) | (go_at_call 15; (with_reducible refine (RK _ (up _ BV.out) SS.out).out.mono ?_); rintro e b7 ⟨v3, rfl, ho3, hb⟩; obtain ⟨A3, C3, rfl, ht3⟩ := tx_own ho3; have T3 := Lib.hid ht3; have T1d := Lib.hid (tx_below T1v.out hb); have T2d := Lib.hid (tx_below T2v.out hb); have B7 := Lib.hid (BV.out.trans (hb.mono BV.out.size)); clear hb ho3 ht3; obtain ⟨b70, b71⟩ := (after _ B7.out).out) | (go_at_call 16; (with_reducible refine (RF _ (up _ B7.out) SS.out).out.mono ?_); rintro e b8 ⟨rfl, hb⟩; have T1e := Lib.hid (tx_below T1d.out hb); have T2e := Lib.hid (tx_below T2d.out hb); have T3e := Lib.hid (tx_below T3.out hb); have B8 := Lib.hid (B7.out.trans (hb.mono B7.out.size)); clear hb; obtain ⟨b80, b81⟩ := (after _ B8.out).out) | (go_at_call 18; (with_reducible refine (RN _ (up _ B8.out) SS.out).out.mono ?_); rintro e b9 ⟨v4, rfl, ho4, hb⟩; obtain ⟨A4, C4, rfl, ht4⟩ := tx_own ho4; have T4 := Lib.hid ht4; have T1f := Lib.hid (tx_below T1e.out hb); have T2f := Lib.hid (tx_below T2e.out hb); have T3f := Lib.hid (tx_below T3e.out hb); have B9 := Lib.hid (B8.out.trans (hb.mono B8.out.size)); clear hb ho4 ht4) | (go_at_call 17; (with_reducible refine (TX A1 A4 C1 C4 _ _ _ _ T1f.out T4.out SN1.out).out.mono ?_); rintro e c1 ⟨rfl, hb⟩; have T2g := Lib.hid (tx_below T2f.out hb); have T3g := Lib.hid (tx_below T3f.out hb); have B10 := Lib.hid (B9.out.trans (hb.mono B9.out.size)); clear hb) | (go_at_call 17; (with_reducible refine (TX A2 A3 C2 C3 _ _ _ _ T2g.out T3g.out SK1.out).out.mono ?_); rintro e c2 ⟨rfl, hb⟩; have B11 := Lib.hid (B10.out.trans (hb.mono B10.out.size)); clear hb))
            go_ret
            exact ⟨rfl, up _ B11.out⟩
          | false =>
            have e4 := HZ.out he hv.symm
            subst e4
            clear he hpl hv HZ
            have TXN := fun (A : Option Addr) (C b : Nat) (W : World) (g1 : Tx W b A []) => (show Hid (Calls Try.prog 17 #[.slice A 0 C, .slice none 0 0] W fun e w' => e = .returned (.bool true) ∧ Below W.heap.size W w') from Lib.hid (sameTexts_any A none C 0 b 0 [] W g1 (tx_nil _ _ _) (by simp)))
            simp only [List.length_nil] at KN KK
            go_wp2_with (first | (go_at_call 10; (with_reducible refine (KF _ (up _ B2.out) SS.out).out.mono ?_); rintro e b3 ⟨rfl, hb⟩; have B3 := Lib.hid (B2.out.trans (hb.mono B2.out.size)); clear hb; obtain ⟨b30, b31⟩ := (after _ B3.out).out) | (go_at_call 11; (with_reducible refine (KN _ (up _ B3.out) SS.out).out.mono ?_); rintro e b4 ⟨A1, C1, rfl, ht1, hb⟩; have T1 := Lib.hid ht1; have B4 := Lib.hid (B3.out.trans (hb.mono B3.out.size)); clear hb ht1; obtain ⟨b40, b41⟩ := (after _ B4.out).out) | (go_at_call 12; (with_reducible refine (KK _ (up _ B4.out) SS.out).out.mono ?_); rintro e b5 ⟨A2, C2, rfl, ht2, hb⟩; have T2 := Lib.hid ht2; have T1b := Lib.hid (tx_below T1.out hb); have B5 := Lib.hid (B4.out.trans (hb.mono B4.out.size)); clear hb ht2; obtain ⟨b50, b51⟩ := (after _ B5.out).out) | (go_at_call 13; (with_reducible refine (KL _ (up _ B5.out) SS.out).out.mono ?_); rintro e b6 ⟨rfl, hb⟩; have T1c := Lib.hid (tx_below T1b.out hb); have T2c := Lib.hid (tx_below T2.out hb); have B6 := Lib.hid (B5.out.trans (hb.mono B5.out.size)); clear hb; obtain ⟨b60, b61⟩ := (after _ B6.out).out) | (go_at_call 14; (with_reducible refine (RV2 _ (up _ B6.out)).out.mono ?_); rintro e bv ⟨rfl, hb⟩; have T1v := Lib.hid (tx_below T1c.out hb); have T2v := Lib.hid (tx_below T2c.out hb); have BV := Lib.hid (B6.out.trans (hb.mono B6.out.size)); clear hb; obtain ⟨bv0, bv1⟩ := (after _ BV.out).out) | (go_at_call 16; (with_reducible refine (RF _ (up _ BV.out) SS.out).out.mono ?_); rintro e b8 ⟨rfl, hb⟩; have T1e := Lib.hid (tx_below T1v.out hb); have T2e := Lib.hid (tx_below T2v.out hb); have B8 := Lib.hid (BV.out.trans (hb.mono BV.out.size)); clear hb; obtain ⟨b80, b81⟩ := (after _ B8.out).out) | (go_at_call 18; (with_reducible refine (RN _ (up _ B8.out) SS.out).out.mono ?_); rintro e b9 ⟨v4, rfl, ho4, hb⟩; obtain ⟨A4, C4, rfl, ht4⟩ := tx_own ho4; have T4 := Lib.hid ht4; have T1f := Lib.hid (tx_below T1e.out hb); have T2f := Lib.hid (tx_below T2e.out hb); have B9 := Lib.hid (B8.out.trans (hb.mono B8.out.size)); clear hb ho4 ht4) | (go_at_call 17; (with_reducible refine (TX A1 A4 C1 C4 _ _ _ _ T1f.out T4.out SN1.out).out.mono ?_); rintro e c1 ⟨rfl, hb⟩; have T2g := Lib.hid (tx_below T2f.out hb); have B10 := Lib.hid (B9.out.trans (hb.mono B9.out.size)); clear hb) | (go_at_call 17; (with_reducible refine (TXN A2 C2 _ c1 T2g.out).out.mono ?_); rintro e c2 ⟨rfl, hb⟩; have B11 := Lib.hid (B10.out.trans (hb.mono B10.out.size)); clear hb))
            go_ret
            exact ⟨rfl, up _ B11.out⟩
      · have e1 := HF.out.2 hz
        have e2 := HNN.out.2 hz
        have e3 := HKK.out.2 hz
        subst e1 e2 e3
        have hzb : (z == 0) = false := by simpa using hz
        have hzn : (z != 0) = true := by simpa using hz
        simp only [List.length_nil] at KN KK
        clear HF HNN HKK HZ h5 hpl
        go_wp2_with (first | (go_at_call 10; (with_reducible refine (KF _ (up _ B2.out) SS.out).out.mono ?_); rintro e b3 ⟨rfl, hb⟩; have B3 := Lib.hid (B2.out.trans (hb.mono B2.out.size)); clear hb; obtain ⟨b30, b31⟩ := (after _ B3.out).out) | (go_at_call 11; (with_reducible refine (KN _ (up _ B3.out) SS.out).out.mono ?_); rintro e b4 ⟨A1, C1, rfl, ht1, hb⟩; have T1 := Lib.hid ht1; have B4 := Lib.hid (B3.out.trans (hb.mono B3.out.size)); clear hb ht1; obtain ⟨b40, b41⟩ := (after _ B4.out).out) | (go_at_call 12; (with_reducible refine (KK _ (up _ B4.out) SS.out).out.mono ?_); rintro e b5 ⟨A2, C2, rfl, ht2, hb⟩; have T2 := Lib.hid ht2; have T1b := Lib.hid (tx_below T1.out hb); have B5 := Lib.hid (B4.out.trans (hb.mono B4.out.size)); clear hb ht2; obtain ⟨b50, b51⟩ := (after _ B5.out).out) | (go_at_call 13; (with_reducible refine (KL _ (up _ B5.out) SS.out).out.mono ?_); rintro e b6 ⟨rfl, hb⟩; have T1c := Lib.hid (tx_below T1b.out hb); have T2c := Lib.hid (tx_below T2.out hb); have B6 := Lib.hid (B5.out.trans (hb.mono B5.out.size)); clear hb; obtain ⟨b60, b61⟩ := (after _ B6.out).out))
        go_ret
        exact ⟨rfl, up _ B6.out⟩
end Go.Proofs.Ytdnagkgblmcojaa
