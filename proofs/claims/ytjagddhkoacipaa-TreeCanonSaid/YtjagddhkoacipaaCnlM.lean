/-
What is proved here: the law TreeCanon, by a contract.
-/
import Derived.Test.YtjagddhkoacipaaHd2M
import Derived.Test.YtjagddhkoacipaaStaM
import Derived.Test.YtjagddhkoacipaaLenM
set_option linter.unusedSimpArgs false
set_option linter.unusedVariables false
namespace Go.Proofs.Ytjagddhkoacipaa
open Go.Pth Go.Tre Go.RowKit Go.Word Go.Shelf
attribute [local go_sem] guard_eq guard_ne st_eql st_neq
theorem copy_same {w w' : World} {B : Nat} {vN vF : Value} {D : Nat → Value} {ns : List Nd} {fs : List Fl} (h : CopyAt w B vN vF D ns fs) (hk : ∀ r, B ≤ r → r < w.heap.size → w'.heap[r]? = w.heap[r]?) : CopyAt w' B vN vF D ns fs where
  nodes := own_same h.nodes (fun b e => hk b (h.nodes.lt b e).1 (h.nodes.lt b e).2)
  files := own_same h.files (fun b e => hk b (h.files.lt b e).1 (h.files.lt b e).2)
  data := fun i hi => by
    have h1 : World.ownsRow _ _ _ _ _ _ _ := h.data i hi
    exact own_same h1 (fun b e => hk b (h1.lt b e).1 (h1.lt b e).2)
  apart := h.apart
set_option maxRecDepth 100000 in
set_option maxHeartbeats 16000000 in
theorem canon_law (NA FA : Option Addr) (nc fc : Nat) (ns : List Nd) (fs : List Fl) (w : World) (hN : NodesAt w NA ns) (hF : FilesAt w FA fs)
    (h1 : ns.length ≤ 140737488355328) (h2 : fs.length ≤ 140737488355328) (h3 : ∀ x ∈ ns, x.path.length ≤ 140737488355328) (h4 : ∀ x ∈ fs, x.data.length ≤ 140737488355328) :
    Calls Try.prog 3 #[.agg #[.slice NA ns.length nc, .slice FA fs.length fc]] w fun e w' => e = .returned (.bool true) ∧ Below w.heap.size w w' := by
  have L := lies_new w 25 #[.slice NA ns.length nc, .slice FA fs.length fc]
  have hB : Below w.heap.size w (w.alloc (.cells #[.slice NA ns.length nc, .slice FA fs.length fc] 25)) := (Below.refl _ _).alloc (Nat.le_refl _) _
  have KB := fun (W : World) (hb : Below w.heap.size w W) => Lib.hid (big_any NA FA nc fc ns fs W (nodesAt_below hN hb) (filesAt_below hF hb) h1 h2 h3 h4)
  have sp : Small ns fs → ∀ x ∈ ns, x.path.length ≤ 100000 := fun hs x hx => Nat.le_trans (hs.2.2.1 x hx) (by decide)
  have KL := fun (W : World) (hb : Below w.heap.size w W) (hs : Small ns fs) => Lib.hid (lent_any NA FA nc fc ns fs W (nodesAt_below hN hb) (filesAt_below hF hb) (by have := hs.1; omega) (by have := hs.2.1; omega) (fun x hx => Nat.le_trans (hs.2.2.2 x hx) (by decide)))
  have KC := fun (W : World) (hb : Below w.heap.size w W) (hs : Small ns fs) => Lib.hid (canon_both NA FA nc fc ns fs W (nodesAt_below hN hb) (filesAt_below hF hb) (sp hs))
  have KCL := fun (W : World) (A1 A2 : Option Addr) (c1 c2 : Nat) (h : LentAt W A1 c1 A2 c2 ns fs) (hs : Small ns fs) => Lib.hid (canon_both A1 A2 c1 c2 ns fs W (lent_nodes h) (lent_files h) (sp hs))
  have KR := fun (W : World) (hb : Below w.heap.size w W) (hs : Small ns fs) => Lib.hid (refcanon_both NA FA nc fc ns fs W (nodesAt_below hN hb) (filesAt_below hF hb) (sp hs))
  have KST := fun (W : World) (A1 A2 : Option Addr) (c1 c2 : Nat) (h : LentAt W A1 c1 A2 c2 ns fs) (hb : Below w.heap.size w W) (hs : Small ns fs) => Lib.hid (stays_any A1 A2 NA FA c1 c2 nc fc ns fs W h (nodesAt_below hN hb) (filesAt_below hF hb) (by have := hs.1; omega) (by have := hs.2.1; omega) (fun x hx => Nat.le_trans (hs.2.2.2 x hx) (by decide)))
  clear h1 h2 h3 h4 sp
  have x0 := lies_cell L 0
  have x1 := lies_cell L 1
  simp only [List.getElem?_toArray, List.getElem?_cons_zero, List.getElem?_cons_succ] at x0 x1
  have LX := Lib.hid L
  have HB := Lib.hid hB
  clear L hB hN hF
  generalize ns.length = n at *
  generalize fs.length = m at *
  have after : ∀ W, Below (w.alloc (.cells #[.slice NA n nc, .slice FA m fc] 25)).heap.size (w.alloc (.cells #[.slice NA n nc, .slice FA m fc] 25)) W →
      Hid (W.cell? ⟨w.heap.size, 0, none⟩ = some (.slice NA n nc) ∧ W.cell? ⟨w.heap.size, 1, none⟩ = some (.slice FA m fc)) := fun W hb =>
    Lib.hid ⟨(hb.cell (p := ⟨w.heap.size, 0, none⟩) (lies_lt LX.out)).trans x0, (hb.cell (p := ⟨w.heap.size, 1, none⟩) (lies_lt LX.out)).trans x1⟩
  go_enter Try.func3, Try.ntmps3
  go_upto_region 1 with (fail)
  generalize w.alloc (.cells #[.slice NA n nc, .slice FA m fc] 25) = X at *
  have up : ∀ W, Below X.heap.size X W → Below w.heap.size w W := fun W hb => HB.out.trans (hb.mono HB.out.size)
  go_upto_region 3 with (first
    | (go_at_call 13; (with_reducible refine (alive_any _).mono ?_); rintro e w1 ⟨rfl, hb⟩; obtain ⟨p0, p1⟩ := (after _ hb).out; have B1 := Lib.hid hb; clear hb)
    | (go_at_call 14; (with_reducible refine (KB _ (up _ B1.out)).out.mono ?_); rintro e w2 ⟨⟨b1, rfl, hs1⟩, hb⟩; have S1 := Lib.hid hs1; have B2 := Lib.hid (B1.out.trans (hb.mono B1.out.size)); clear hb hs1; obtain ⟨q0, q1⟩ := (after _ B2.out).out))
  cases b1 with
  | true =>
    go_wp2
    go_ret
    exact ⟨rfl, up _ B2.out⟩
  | false =>
    have SS := Lib.hid (S1.out rfl)
    clear S1 p0 p1 x0 x1 KB
    go_upto_region 6 with (go_at_call 15; (with_reducible refine (KL _ (up _ B2.out) SS.out).out.mono ?_); rintro e w3 ⟨⟨A0, C0, A0', C0', rfl, hl⟩, hb⟩; have B3 := Lib.hid (B2.out.trans (hb.mono B2.out.size)); have L3 := Lib.hid hl; clear hb hl)
    have LT0 := Lib.hid (lies_new w3 25 #[.slice A0 n C0, .slice A0' m C0'])
    have b4 := (Below.refl w3.heap.size w3).alloc (Nat.le_refl _) (.cells #[.slice A0 n C0, .slice A0' m C0'] 25)
    have L4 := Lib.hid (lent_below L3.out b4)
    have B4 := Lib.hid (B3.out.alloc B3.out.size (.cells #[.slice A0 n C0, .slice A0' m C0'] 25))
    clear q0 q1 L3 b4 B3 KL
    generalize w3.alloc (.cells #[.slice A0 n C0, .slice A0' m C0'] 25) = W4 at *
    generalize w3.heap.size = T0 at *
    obtain ⟨q0, q1⟩ := (after _ B4.out).out
    have s0 := lies_cell LT0.out 0
    have s1 := lies_cell LT0.out 1
    simp only [List.getElem?_toArray, List.getElem?_cons_zero, List.getElem?_cons_succ] at s0 s1
    go_upto_region 7 with (go_at_call 16; (with_reducible refine (KCL _ A0 A0' C0 C0' L4.out SS.out).out.mono ?_); rintro e w5 ⟨⟨vN, vF, rfl, D1, us, vs, hC, hus, hvs⟩, hb⟩; obtain ⟨A1, C1, rfl⟩ := own_slice hC.nodes; obtain ⟨A2, C2, rfl⟩ := own_slice hC.files; have CC1 := Lib.hid hC; have HUS := Lib.hid hus; have HVS := Lib.hid hvs; have Q5 := Lib.hid hb; clear hb hC hus hvs)
    have b6 := (Below.refl w5.heap.size w5).alloc (Nat.le_refl _) (.cells #[.slice A1 us.length C1, .slice A2 vs.length C2] 25)
    have LT1 := Lib.hid (lies_new w5 25 #[.slice A1 us.length C1, .slice A2 vs.length C2])
    have CT1 := Lib.hid (copy_below CC1.out b6)
    have Q6 := Lib.hid (Q5.out.alloc Q5.out.size (.cells #[.slice A1 us.length C1, .slice A2 vs.length C2] 25))
    clear q0 q1 s0 s1 CC1 Q5 b6 KCL
    generalize w5.alloc (.cells #[.slice A1 us.length C1, .slice A2 vs.length C2] 25) = W6 at *
    generalize w5.heap.size = T1 at *
    have B6 := Lib.hid (B4.out.trans (Q6.out.mono B4.out.size))
    obtain ⟨q0, q1⟩ := (after _ B6.out).out
    go_upto_region 8 with (go_at_call 17; (with_reducible refine (KR _ (up _ B6.out) SS.out).out.mono ?_); rintro e w7 ⟨⟨vN3, vF3, rfl, D3, us3, vs3, hC, hus3, hvs3⟩, hb⟩; rw [← HUS.out] at hus3; rw [← HVS.out] at hvs3; subst hus3 hvs3; obtain ⟨A5, C5, rfl⟩ := own_slice hC.nodes; obtain ⟨A6, C6, rfl⟩ := own_slice hC.files; have CC3 := Lib.hid hC; have Q7 := Lib.hid hb; clear hb hC)
    have b8 := (Below.refl w7.heap.size w7).alloc (Nat.le_refl _) (.cells #[.slice A5 us3.length C5, .slice A6 vs3.length C6] 25)
    have LT3 := Lib.hid (lies_new w7 25 #[.slice A5 us3.length C5, .slice A6 vs3.length C6])
    have CT3 := Lib.hid (copy_below CC3.out b8)
    have ZT3 := Lib.hid Q7.out.size
    have Q8 := Lib.hid (Q7.out.alloc Q7.out.size (.cells #[.slice A5 us3.length C5, .slice A6 vs3.length C6] 25))
    clear q0 q1 CC3 Q7 b8
    generalize w7.alloc (.cells #[.slice A5 us3.length C5, .slice A6 vs3.length C6] 25) = W8 at *
    generalize w7.heap.size = T3 at *
    have LT1C := Lib.hid (lies_below LT1.out Q8.out (lies_lt LT1.out))
    have CT1C := Lib.hid (copy_below CT1.out Q8.out)
    have sm : us3.length ≤ 256 ∧ vs3.length ≤ 256 ∧ ∀ x ∈ vs3, x.data.length ≤ 8192 := by
      rw [HUS.out, HVS.out]
      by_cases hz : canonE ns fs = 0
      · rw [if_pos hz, if_pos hz]
        exact canon_small hz
      · rw [if_neg hz, if_neg hz]
        simp
    have SM := Lib.hid sm
    clear sm
    obtain ⟨NA1, nc1, e1, hN1⟩ := copy_nodes CT1C.out
    obtain ⟨FA1, fc1, e2, hF1⟩ := copy_files CT1C.out
    obtain ⟨NA3, nc3, e3, hN3⟩ := copy_nodes CT3.out
    obtain ⟨FA3, fc3, e4, hF3⟩ := copy_files CT3.out
    obtain ⟨rfl, rfl⟩ : A1 = NA1 ∧ C1 = nc1 := by injection e1 with h1 h2 h3; exact ⟨h1, h3⟩
    obtain ⟨rfl, rfl⟩ : A2 = FA1 ∧ C2 = fc1 := by injection e2 with h1 h2 h3; exact ⟨h1, h3⟩
    obtain ⟨rfl, rfl⟩ : A5 = NA3 ∧ C5 = nc3 := by injection e3 with h1 h2 h3; exact ⟨h1, h3⟩
    obtain ⟨rfl, rfl⟩ : A6 = FA3 ∧ C6 = fc3 := by injection e4 with h1 h2 h3; exact ⟨h1, h3⟩
    clear e1 e2 e3 e4
    have KE0 := exact_any A1 A2 A5 A6 C1 C2 C5 C6 us3 us3 vs3 vs3 _ hN1 hF1 hN3 hF3 (by have := SM.out; omega) (by have := SM.out; omega)
    rw [show exactB us3 vs3 us3 vs3 = true from by unfold exactB; simp] at KE0
    have KE := Lib.hid KE0
    clear KE0 hN1 hF1 hN3 hF3
    have zn : ∀ z : Int, (z != z) = false := fun z => by simp
    have zn := zn (canonE ns fs)
    have s0 := lies_cell LT1C.out 0
    have s1 := lies_cell LT1C.out 1
    have v0 := lies_cell LT3.out 0
    have v1 := lies_cell LT3.out 1
    simp only [List.getElem?_toArray, List.getElem?_cons_zero, List.getElem?_cons_succ] at s0 s1 v0 v1
    generalize hcz : canonE ns fs = cz at *
    have CZ := Lib.hid hcz
    clear hcz
    go_upto_region 10 with (first
      | (go_at_call 18; (with_reducible refine (num_any _ _).mono ?_); rintro e w3' ⟨rfl, rfl⟩)
      | (go_at_call 19; (with_reducible refine KE.out.mono ?_); rintro e w9 ⟨rfl, hb⟩; have Q9 := Lib.hid hb; clear hb))
    have LT1D := Lib.hid (lies_below LT1C.out Q9.out (lies_lt LT1C.out))
    have CT1D := Lib.hid (copy_below CT1C.out Q9.out)
    have CT3D := Lib.hid (copy_below CT3.out Q9.out)
    have LT3D := Lib.hid (lies_below LT3.out Q9.out (lies_lt LT3.out))
    have Z86 := Lib.hid Q8.out.size
    have Z98 := Lib.hid Q9.out.size
    have QB := Lib.hid (Q6.out.trans ((Q8.out.trans (Q9.out.mono Q8.out.size)).mono Q6.out.size))
    clear s0 s1 v0 v1 zn KE
    have KSP := Lib.hid (spoil_any W4.heap.size _ _ D1 us3 vs3 w9 CT1D.out QB.out.size (by have := SM.out; omega) (by have := SM.out; omega) (fun x hx => by have := SM.out.2.2 x hx; omega) (fun r => W6.heap.size ≤ r ∧ r < w9.heap.size) (fun r h => h.2) (fun r e h => by have := (CT1.out.nodes.lt r e).2; omega) (fun r e h => by have := (CT1.out.files.lt r e).2; omega) (fun i hi r e h => by have h1 : World.ownsRow _ _ _ _ _ _ _ := CT1.out.data i hi; have := (h1.lt r e).2; omega))
    have R1 := Lib.hid (lies_range LT1D.out)
    have T3lt := Lib.hid (Nat.lt_of_lt_of_le (lies_lt LT3.out) Q9.out.size)
    go_upto_region 11 with (first
      | (refine wpList_load_mid rfl 25 _ rfl T1 0 rfl [.slice A1 us3.length C1, .slice A2 vs3.length C2] _ R1.out Try.underlying25 rfl (by kernel_rfl) ?_)
      | (go_at_call 20; (with_reducible refine KSP.out.mono ?_); rintro e w10 ⟨rfl, hb, hk⟩; have Q10 := Lib.hid (QB.out.trans hb); have C10 := Lib.hid (copy_same CT3D.out (fun r h1 h2 => hk r ⟨h1, h2⟩)); have L10 := Lib.hid (show Lies w10 T3 25 #[.slice A5 us3.length C5, .slice A6 vs3.length C6] from (hk T3 ⟨ZT3.out, T3lt.out⟩).trans LT3D.out); clear hb hk))
    clear KSP R1 CT1 CT1C CT1D LT1 LT1C LT1D CT3 CT3D LT3 LT3D Z86 Z98 QB Q8 Q9 ZT3 T3lt Q6 B6
    have B10 := Lib.hid (B4.out.trans (Q10.out.mono B4.out.size))
    have L11 := Lib.hid (lent_below L4.out Q10.out)
    have LT0B := Lib.hid (lies_below LT0.out Q10.out (lies_lt LT0.out))
    obtain ⟨q0, q1⟩ := (after _ B10.out).out
    have s0 := lies_cell LT0B.out 0
    have s1 := lies_cell LT0B.out 1
    simp only [List.getElem?_toArray, List.getElem?_cons_zero, List.getElem?_cons_succ] at s0 s1
    go_upto_region 12 with (go_at_call 21; (with_reducible refine (KST _ A0 A0' C0 C0' L11.out (up _ B10.out) SS.out).out.mono ?_); rintro e w11 ⟨rfl, hb⟩; have Q11 := Lib.hid hb; have B11 := Lib.hid (B10.out.trans (hb.mono B10.out.size)); have C11 := Lib.hid (copy_below C10.out hb); have LL11 := Lib.hid (lies_below L10.out hb (lies_lt L10.out)); clear hb)
    clear q0 q1 s0 s1 LT0B LT0 L11 L4 KST C10 L10 Q11
    obtain ⟨q0, q1⟩ := (after _ B11.out).out
    go_upto_region 13 with (go_at_call 16; (with_reducible refine (KC _ (up _ B11.out) SS.out).out.mono ?_); rintro e w12 ⟨⟨vN4, vF4, rfl, D4, us4, vs4, hC, hus4, hvs4⟩, hb⟩; rw [← HUS.out] at hus4; rw [← HVS.out] at hvs4; subst hus4 hvs4; obtain ⟨A7, C7, rfl⟩ := own_slice hC.nodes; obtain ⟨A8, C8, rfl⟩ := own_slice hC.files; have CC4 := Lib.hid hC; have Q12 := Lib.hid hb; clear hb hC)
    have b13 := (Below.refl w12.heap.size w12).alloc (Nat.le_refl _) (.cells #[.slice A7 us4.length C7, .slice A8 vs4.length C8] 25)
    have LT4 := Lib.hid (lies_new w12 25 #[.slice A7 us4.length C7, .slice A8 vs4.length C8])
    have CT4 := Lib.hid (copy_below CC4.out b13)
    have Q13 := Lib.hid (Q12.out.alloc Q12.out.size (.cells #[.slice A7 us4.length C7, .slice A8 vs4.length C8] 25))
    clear q0 q1 CC4 Q12 b13
    generalize w12.alloc (.cells #[.slice A7 us4.length C7, .slice A8 vs4.length C8] 25) = W13 at *
    generalize w12.heap.size = T4 at *
    have C13 := Lib.hid (copy_below C11.out Q13.out)
    have L13 := Lib.hid (lies_below LL11.out Q13.out (lies_lt LL11.out))
    have B13 := Lib.hid (B11.out.trans (Q13.out.mono B11.out.size))
    obtain ⟨NA1, nc1, e1, hN1⟩ := copy_nodes CT4.out
    obtain ⟨FA1, fc1, e2, hF1⟩ := copy_files CT4.out
    obtain ⟨NA3, nc3, e3, hN3⟩ := copy_nodes C13.out
    obtain ⟨FA3, fc3, e4, hF3⟩ := copy_files C13.out
    obtain ⟨rfl, rfl⟩ : A7 = NA1 ∧ C7 = nc1 := by injection e1 with h1 h2 h3; exact ⟨h1, h3⟩
    obtain ⟨rfl, rfl⟩ : A8 = FA1 ∧ C8 = fc1 := by injection e2 with h1 h2 h3; exact ⟨h1, h3⟩
    obtain ⟨rfl, rfl⟩ : A5 = NA3 ∧ C5 = nc3 := by injection e3 with h1 h2 h3; exact ⟨h1, h3⟩
    obtain ⟨rfl, rfl⟩ : A6 = FA3 ∧ C6 = fc3 := by injection e4 with h1 h2 h3; exact ⟨h1, h3⟩
    clear e1 e2 e3 e4
    have KE0 := exact_any A7 A8 A5 A6 C7 C8 C5 C6 us4 us4 vs4 vs4 _ hN1 hF1 hN3 hF3 (by have := SM.out; omega) (by have := SM.out; omega)
    rw [show exactB us4 vs4 us4 vs4 = true from by unfold exactB; simp] at KE0
    have KE2 := Lib.hid KE0
    have s0 := lies_cell LT4.out 0
    have s1 := lies_cell LT4.out 1
    have v0 := lies_cell L13.out 0
    have v1 := lies_cell L13.out 1
    simp only [List.getElem?_toArray, List.getElem?_cons_zero, List.getElem?_cons_succ] at s0 s1 v0 v1
    clear KE0 hN1 hF1 hN3 hF3
    go_wp2_with (go_at_call 19; (with_reducible refine KE2.out.mono ?_); rintro e w14 ⟨rfl, hb⟩; have B14 := Lib.hid (B13.out.trans (hb.mono B13.out.size)); clear hb)
    go_ret
    exact ⟨rfl, up _ B14.out⟩
end Go.Proofs.Ytjagddhkoacipaa
