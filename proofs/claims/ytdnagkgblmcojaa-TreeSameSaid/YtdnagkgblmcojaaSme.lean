/-
What is proved here: the law TreeSame, by a contract.
-/
import Derived.Test.YtdnagkgblmcojaaRlo
import Derived.Test.YtdnagkgblmcojaaExa
import Derived.Test.YtdnagkgblmcojaaBig
import Derived.Test.YtdnagkgblmcojaaAlv
import Derived.Test.YtdnagkgblmcojaaOpx
import Derived.Deep.RegionHeld3
set_option linter.unusedSimpArgs false
namespace Go.Proofs.Ytdnagkgblmcojaa
open Go.Pth Go.Tre Go.RowKit Go.Word Go.Shelf

theorem range2 {w : World} {b : Nat} {u v : Value} (d1 : w.cell? ⟨b, 0, none⟩ = some u) (d2 : w.cell? ⟨b, 1, none⟩ = some v) : w.rangeAt b 0 [u, v] := fun j x hj => by
  match j, hj with
  | 0, hj => injection hj with hj; subst hj; exact d1
  | 1, hj => injection hj with hj; subst hj; exact d2
theorem same_of (ns ms : List Nd) (fs gs : List Fl) : sameT ns fs ms gs = (decide (looseE ns fs = 0) && (decide (looseE ms gs = 0) && exactB ns fs ms gs)) := by
  unfold sameT exactB
  by_cases h1 : ns = ms
  · by_cases h2 : fs = gs
    · subst h1 h2
      cases decide (looseE ns fs = 0) <;> rfl
    · simp [h2]
  · simp [h1]
theorem exact_symm (ns ms : List Nd) (fs gs : List Fl) : exactB ms gs ns fs = exactB ns fs ms gs := by
  unfold exactB
  have e1 : decide (ms = ns) = decide (ns = ms) := by congr 1; exact propext eq_comm
  have e2 : decide (gs = fs) = decide (fs = gs) := by congr 1; exact propext eq_comm
  rw [e1, e2]
theorem same_back (ns ms : List Nd) (fs gs : List Fl) : sameT ms gs ns fs = sameT ns fs ms gs := by
  rw [same_of, same_of, exact_symm]
  cases decide (looseE ns fs = 0) <;> cases decide (looseE ms gs = 0) <;> rfl
theorem same_self (ns : List Nd) (fs : List Fl) : sameT ns fs ns fs = decide (looseE ns fs = 0) := by
  unfold sameT
  simp
set_option maxRecDepth 100000 in
set_option maxHeartbeats 8000000 in
theorem same_law (NA FA MA GA : Option Addr) (nc fc mc gc : Nat) (ns ms : List Nd) (fs gs : List Fl) (w : World) (hN : NodesAt w NA ns) (hF : FilesAt w FA fs) (hM : NodesAt w MA ms) (hG : FilesAt w GA gs)
    (h1 : ns.length ≤ 140737488355328) (h2 : fs.length ≤ 140737488355328) (h3 : ∀ x ∈ ns, x.path.length ≤ 140737488355328) (h4 : ∀ x ∈ fs, x.data.length ≤ 140737488355328)
    (k1 : ms.length ≤ 140737488355328) (k2 : gs.length ≤ 140737488355328) (k3 : ∀ x ∈ ms, x.path.length ≤ 140737488355328) (k4 : ∀ x ∈ gs, x.data.length ≤ 140737488355328) :
    Calls Try.prog 4 #[.agg #[.slice NA ns.length nc, .slice FA fs.length fc], .agg #[.slice MA ms.length mc, .slice GA gs.length gc]] w fun e w' => e = .returned (.bool true) ∧ Below w.heap.size w w' := by
  have L1 := lies_alloc (lies_new w 25 #[.slice NA ns.length nc, .slice FA fs.length fc]) (.cells #[.slice MA ms.length mc, .slice GA gs.length gc] 25)
  have L2 := lies_new (w.alloc (.cells #[.slice NA ns.length nc, .slice FA fs.length fc] 25)) 25 #[.slice MA ms.length mc, .slice GA gs.length gc]
  rw [World.size_alloc] at L2
  have hB : Below w.heap.size w ((w.alloc (.cells #[.slice NA ns.length nc, .slice FA fs.length fc] 25)).alloc (.cells #[.slice MA ms.length mc, .slice GA gs.length gc] 25)) := ((Below.refl _ _).alloc (Nat.le_refl _) _).alloc (by simp) _
  have KB1 := fun (W : World) (hb : Below w.heap.size w W) => Lib.hid (big_any NA FA nc fc ns fs W (nodesAt_below hN hb) (filesAt_below hF hb) h1 h2 h3 h4)
  have KB2 := fun (W : World) (hb : Below w.heap.size w W) => Lib.hid (big_any MA GA mc gc ms gs W (nodesAt_below hM hb) (filesAt_below hG hb) k1 k2 k3 k4)
  have KL1 := fun (W : World) (hb : Below w.heap.size w W) (hs : Small ns fs) => Lib.hid (loose_ref NA FA nc fc ns fs W (nodesAt_below hN hb) (filesAt_below hF hb) (fun x hx => Nat.le_trans (hs.2.2.1 x hx) (by decide)))
  have KL2 := fun (W : World) (hb : Below w.heap.size w W) (hs : Small ms gs) => Lib.hid (loose_ref MA GA mc gc ms gs W (nodesAt_below hM hb) (filesAt_below hG hb) (fun x hx => Nat.le_trans (hs.2.2.1 x hx) (by decide)))
  have KE := fun (W : World) (hb : Below w.heap.size w W) (hs : Small ns fs) => Lib.hid (exact_any NA FA MA GA nc fc mc gc ns ms fs gs W (nodesAt_below hN hb) (filesAt_below hF hb) (nodesAt_below hM hb) (filesAt_below hG hb) (Nat.le_trans hs.1 (by decide)) (Nat.le_trans hs.2.1 (by decide)))
  have KS1 := fun (W : World) (hb : Below w.heap.size w W) (hs : Small ns fs) => Lib.hid (same_any NA FA MA GA nc fc mc gc ns ms fs gs W (nodesAt_below hN hb) (filesAt_below hF hb) (nodesAt_below hM hb) (filesAt_below hG hb) (fun x hx => Nat.le_trans (hs.2.2.1 x hx) (by decide)))
  have KS2 := fun (W : World) (hb : Below w.heap.size w W) (hs : Small ms gs) => Lib.hid (same_any MA GA NA FA mc gc nc fc ms ns gs fs W (nodesAt_below hM hb) (filesAt_below hG hb) (nodesAt_below hN hb) (filesAt_below hF hb) (fun x hx => Nat.le_trans (hs.2.2.1 x hx) (by decide)))
  have KS3 := fun (W : World) (hb : Below w.heap.size w W) (hs : Small ns fs) => Lib.hid (same_any NA FA NA FA nc fc nc fc ns ns fs fs W (nodesAt_below hN hb) (filesAt_below hF hb) (nodesAt_below hN hb) (filesAt_below hF hb) (fun x hx => Nat.le_trans (hs.2.2.1 x hx) (by decide)))
  simp only [same_back ns ms fs gs] at KS2
  simp only [same_of ns ms fs gs] at KS1 KS2
  simp only [same_self] at KS3
  generalize looseE ns fs = la at *
  generalize looseE ms gs = lb at *
  generalize exactB ns fs ms gs = ex at *
  clear h1 h2 h3 h4 k1 k2 k3 k4
  have x0 := lies_cell L1 0
  have x1 := lies_cell L1 1
  have y0 := lies_cell L2 0
  have y1 := lies_cell L2 1
  simp only [List.getElem?_toArray, List.getElem?_cons_zero, List.getElem?_cons_succ] at x0 x1 y0 y1
  have LX := Lib.hid L1
  have LY := Lib.hid L2
  have HB := Lib.hid hB
  clear L1 L2 hB hN hF hM hG
  generalize ns.length = n at *
  generalize ms.length = m at *
  generalize fs.length = f at *
  generalize gs.length = g at *
  have after : ∀ W, Below ((w.alloc (.cells #[.slice NA n nc, .slice FA f fc] 25)).alloc (.cells #[.slice MA m mc, .slice GA g gc] 25)).heap.size ((w.alloc (.cells #[.slice NA n nc, .slice FA f fc] 25)).alloc (.cells #[.slice MA m mc, .slice GA g gc] 25)) W →
      Hid (W.cell? ⟨w.heap.size, 0, none⟩ = some (.slice NA n nc) ∧ W.cell? ⟨w.heap.size, 1, none⟩ = some (.slice FA f fc) ∧ W.cell? ⟨w.heap.size + 1, 0, none⟩ = some (.slice MA m mc) ∧ W.cell? ⟨w.heap.size + 1, 1, none⟩ = some (.slice GA g gc)) := fun W hb =>
    Lib.hid ⟨(hb.cell (p := ⟨w.heap.size, 0, none⟩) (lies_lt LX.out)).trans x0, (hb.cell (p := ⟨w.heap.size, 1, none⟩) (lies_lt LX.out)).trans x1, (hb.cell (p := ⟨w.heap.size + 1, 0, none⟩) (lies_lt LY.out)).trans y0, (hb.cell (p := ⟨w.heap.size + 1, 1, none⟩) (lies_lt LY.out)).trans y1⟩
  go_enter Try.func4, Try.ntmps4
  go_upto_region 1 with (fail)
  generalize ((w.alloc (.cells #[.slice NA n nc, .slice FA f fc] 25)).alloc (.cells #[.slice MA m mc, .slice GA g gc] 25)) = X at *
  have up : ∀ W, Below X.heap.size X W → Below w.heap.size w W := fun W hb => HB.out.trans (hb.mono HB.out.size)
  go_upto_region 4 with (first
    | (go_at_call 8; (with_reducible refine (alive_any _).mono ?_); rintro e w1 ⟨rfl, hb⟩; obtain ⟨p0, p1, p2, p3⟩ := (after _ hb).out; have B1 := Lib.hid hb; clear hb)
    | (go_at_call 9; (with_reducible refine (KB1 _ (up _ B1.out)).out.mono ?_); rintro e w2 ⟨⟨b1, rfl, hs1⟩, hb⟩; have S1 := Lib.hid hs1; have B2 := Lib.hid (B1.out.trans (hb.mono B1.out.size)); clear hb hs1; obtain ⟨q0, q1, q2, q3⟩ := (after _ B2.out).out)
    | (go_at_call 9; (with_reducible refine (KB2 _ (up _ B2.out)).out.mono ?_); rintro e w3 ⟨⟨b2, rfl, hs2⟩, hb⟩; have S2 := Lib.hid hs2; have B3 := Lib.hid (B2.out.trans (hb.mono B2.out.size)); clear hb hs2; obtain ⟨r0, r1, r2, r3⟩ := (after _ B3.out).out))
  cases b1 with
  | true =>
    go_wp2
    go_ret
    exact ⟨rfl, up _ B3.out⟩
  | false =>
    cases b2 with
    | true =>
      go_wp2
      go_ret
      exact ⟨rfl, up _ B3.out⟩
    | false =>
      have SS1 := Lib.hid (S1.out rfl)
      have SS2 := Lib.hid (S2.out rfl)
      clear S1 S2 p0 p1 p2 p3 q0 q1 q2 q3 x0 x1 y0 y1
      obtain ⟨wv, hwv⟩ : ∃ wv, wv = (decide (la = 0) && (decide (lb = 0) && ex)) := ⟨_, rfl⟩
      obtain ⟨s3, hs3⟩ : ∃ s3, s3 = decide (la = 0) := ⟨_, rfl⟩
      rw [← hs3] at KS3
      rw [← hwv] at KS1 KS2
      by_cases ha : la = 0
      · have e3 : s3 = true := by rw [hs3, decide_eq_true ha]
        subst e3
        clear hs3
        subst ha
        by_cases hl : lb = 0
        · subst hl
          cases ex with
          | false =>
            have e1 : wv = false := by rw [hwv]; rfl
            subst e1
            clear hwv
            go_upto_region 7 with (first | (go_at_call 13; (with_reducible refine (KL1 _ (up _ B3.out) SS1.out).out.mono ?_); rintro e w4 ⟨rfl, hb⟩; have B4 := Lib.hid (B3.out.trans (hb.mono B3.out.size)); clear hb; obtain ⟨p0, p1, p2, p3⟩ := (after _ B4.out).out) | (go_at_call 13; (with_reducible refine (KL2 _ (up _ B4.out) SS2.out).out.mono ?_); rintro e w5 ⟨rfl, hb⟩; have B5 := Lib.hid (B4.out.trans (hb.mono B4.out.size)); clear hb; obtain ⟨q0, q1, q2, q3⟩ := (after _ B5.out).out) | (go_at_call 19; (with_reducible refine (KE _ (up _ B5.out) SS1.out).out.mono ?_); rintro e w6 ⟨rfl, hb⟩; have B6 := Lib.hid (B5.out.trans (hb.mono B5.out.size)); clear hb))
            refine wp_region_any (by kernel_rfl) ?_
            refine every_inv (own := ownAll _) (vals := fun j => match j with | 0 => .agg #[.slice NA n nc, .slice FA f fc] | 1 => .agg #[.slice MA m mc, .slice GA g gc] | 2 => .bool false | 3 => .bool false | 4 => .bool true | 5 => .bool true | 6 => .agg #[.slice MA m mc, .slice GA g gc] | 7 => .agg #[.slice NA n nc, .slice FA f fc] | 8 => .bool false | 9 => .bool false | 10 => .bool true | 11 => .bool true | 12 => .bool true | 13 => .agg #[.slice NA n nc, .slice FA f fc] | 14 => .agg #[.slice NA n nc, .slice FA f fc] | 15 => .bool true | 16 => .agg #[.slice NA n nc, .slice FA f fc] | 17 => .int .i64 0 | 18 => .bool true | 19 => .bool true | 20 => .bool true | 21 => .bool true | _ => undef) id (fun W => Below X.heap.size X W) (acAll_of (by kernel_rfl)) (onAll_of (by kernel_rfl)) (dstAll_of (by kernel_rfl)) ?hop ?hend _ _ _ _ rfl (of_decide_eq_true (by kernel_rfl)) (tabd_start (fun i => rep_false _ i)) (Lib.hid B6.out.drew).out
            case hop =>
              intro j oi a w0 listed hoi hdeps ht hI
              have hj : j < 22 := (Array.getElem?_eq_some_iff.1 hoi).1
              have cj : j = 0 ∨ j = 1 ∨ j = 2 ∨ j = 3 ∨ j = 4 ∨ j = 5 ∨ j = 6 ∨ j = 7 ∨ j = 8 ∨ j = 9 ∨ j = 10 ∨ j = 11 ∨ j = 12 ∨ j = 13 ∨ j = 14 ∨ j = 15 ∨ j = 16 ∨ j = 17 ∨ j = 18 ∨ j = 19 ∨ j = 20 ∨ j = 21 := by omega
              obtain rfl | rfl | rfl | rfl | rfl | rfl | rfl | rfl | rfl | rfl | rfl | rfl | rfl | rfl | rfl | rfl | rfl | rfl | rfl | rfl | rfl | rfl := cj
              all_goals obtain rfl := Option.some.inj hoi
              · have e2 : a.eval (.tmp 2) = .pointer (some ⟨w.heap.size, 0, none⟩) := (tabd_old ht (t := 2) (of_decide_eq_true (by kernel_rfl)) (by kernel_rfl)).trans rfl
                exact .inl ⟨rfl, fun K hk => wp_val (v := .agg #[.slice NA n nc, .slice FA f fc]) (have h := (after _ hI).out; load_op 25 (.tmp 2) rfl (w.heap.size) 0 e2 [.slice NA n nc, .slice FA f fc] _ (range2 h.1 h.2.1) Try.underlying25 rfl (by kernel_rfl)) (hk _ hI)⟩
              · have e3 : a.eval (.tmp 3) = .pointer (some ⟨w.heap.size + 1, 0, none⟩) := (tabd_old ht (t := 3) (of_decide_eq_true (by kernel_rfl)) (by kernel_rfl)).trans rfl
                exact .inl ⟨rfl, fun K hk => wp_val (v := .agg #[.slice MA m mc, .slice GA g gc]) (have h := (after _ hI).out; load_op 25 (.tmp 3) rfl (w.heap.size + 1) 0 e3 [.slice MA m mc, .slice GA g gc] _ (range2 h.2.2.1 h.2.2.2) Try.underlying25 rfl (by kernel_rfl)) (hk _ hI)⟩
              · have d0 := hdeps ⟨0, .data⟩ (by simp) rfl
                have d1 := hdeps ⟨1, .data⟩ (by simp) rfl
                have e36 : a.eval (.tmp 36) = .agg #[.slice NA n nc, .slice FA f fc] := tabd_at ht (t := 36) (of_decide_eq_true (by kernel_rfl)) (by kernel_rfl) d0
                have e37 : a.eval (.tmp 37) = .agg #[.slice MA m mc, .slice GA g gc] := tabd_at ht (t := 37) (of_decide_eq_true (by kernel_rfl)) (by kernel_rfl) d1
                have ef25 : a.eval (.func 20) = .func (.func 20) #[] #[] := rfl
                exact .inl ⟨rfl, fun K hk => wp_callI (v := .bool false) (by generalize a.eval = ρ at *; unfold execOp; simp only [e36, e37, ef25]; go_simp) ((KS1 _ (up _ hI) SS1.out).out.mono (fun _ _ h => ⟨h.1, hI.trans (h.2.mono hI.size)⟩)) hk⟩
              · have e8 : a.eval (.tmp 8) = .bool false := (tabd_old ht (t := 8) (of_decide_eq_true (by kernel_rfl)) (by kernel_rfl)).trans rfl
                exact .inl ⟨rfl, fun K hk => wp_val (v := .bool false) (by generalize a.eval = ρ at *; unfold execOp; simp only [e8]; go_simp) (hk _ hI)⟩
              · have d2 := hdeps ⟨2, .data⟩ (by simp) rfl
                have d3 := hdeps ⟨3, .data⟩ (by simp) rfl
                have e38 : a.eval (.tmp 38) = .bool false := tabd_at ht (t := 38) (of_decide_eq_true (by kernel_rfl)) (by kernel_rfl) d2
                have e39 : a.eval (.tmp 39) = .bool false := tabd_at ht (t := 39) (of_decide_eq_true (by kernel_rfl)) (by kernel_rfl) d3
                exact .inl ⟨rfl, fun K hk => wp_val (v := .bool true) (by generalize a.eval = ρ at *; unfold execOp; simp only [e38, e39]; go_simp) (hk _ hI)⟩
              · have d4 := hdeps ⟨4, .data⟩ (by simp) rfl
                have d2 := hdeps ⟨2, .chain⟩ (by simp) rfl
                have e40 : a.eval (.tmp 40) = .bool true := tabd_at ht (t := 40) (of_decide_eq_true (by kernel_rfl)) (by kernel_rfl) d4
                exact .inl ⟨rfl, fun K hk => wp_val (v := .bool true) (by generalize a.eval = ρ at *; unfold execOp; simp only [e40]; go_simp) (hk _ hI)⟩
              · have d5 := hdeps ⟨5, .guard⟩ (by simp) rfl
                have e3 : a.eval (.tmp 3) = .pointer (some ⟨w.heap.size + 1, 0, none⟩) := (tabd_old ht (t := 3) (of_decide_eq_true (by kernel_rfl)) (by kernel_rfl)).trans rfl
                exact .inl ⟨(tabd_wanted ht rfl rfl (of_decide_eq_true (by kernel_rfl)) (by kernel_rfl) d5 rfl), fun K hk => wp_val (v := .agg #[.slice MA m mc, .slice GA g gc]) (have h := (after _ hI).out; load_op 25 (.tmp 3) rfl (w.heap.size + 1) 0 e3 [.slice MA m mc, .slice GA g gc] _ (range2 h.2.2.1 h.2.2.2) Try.underlying25 rfl (by kernel_rfl)) (hk _ hI)⟩
              · have d5 := hdeps ⟨5, .guard⟩ (by simp) rfl
                have e2 : a.eval (.tmp 2) = .pointer (some ⟨w.heap.size, 0, none⟩) := (tabd_old ht (t := 2) (of_decide_eq_true (by kernel_rfl)) (by kernel_rfl)).trans rfl
                exact .inl ⟨(tabd_wanted ht rfl rfl (of_decide_eq_true (by kernel_rfl)) (by kernel_rfl) d5 rfl), fun K hk => wp_val (v := .agg #[.slice NA n nc, .slice FA f fc]) (have h := (after _ hI).out; load_op 25 (.tmp 2) rfl (w.heap.size) 0 e2 [.slice NA n nc, .slice FA f fc] _ (range2 h.1 h.2.1) Try.underlying25 rfl (by kernel_rfl)) (hk _ hI)⟩
              · have d6 := hdeps ⟨6, .data⟩ (by simp) rfl
                have d7 := hdeps ⟨7, .data⟩ (by simp) rfl
                have d5 := hdeps ⟨5, .chain⟩ (by simp) rfl
                have e42 : a.eval (.tmp 42) = .agg #[.slice MA m mc, .slice GA g gc] := tabd_at ht (t := 42) (of_decide_eq_true (by kernel_rfl)) (by kernel_rfl) d6
                have e43 : a.eval (.tmp 43) = .agg #[.slice NA n nc, .slice FA f fc] := tabd_at ht (t := 43) (of_decide_eq_true (by kernel_rfl)) (by kernel_rfl) d7
                have ef25 : a.eval (.func 20) = .func (.func 20) #[] #[] := rfl
                exact .inl ⟨(tabd_wanted ht rfl rfl (of_decide_eq_true (by kernel_rfl)) (by kernel_rfl) d5 rfl), fun K hk => wp_callI (v := .bool false) (by generalize a.eval = ρ at *; unfold execOp; simp only [e42, e43, ef25]; go_simp) ((KS2 _ (up _ hI) SS2.out).out.mono (fun _ _ h => ⟨h.1, hI.trans (h.2.mono hI.size)⟩)) hk⟩
              · have d5 := hdeps ⟨5, .guard⟩ (by simp) rfl
                have e8 : a.eval (.tmp 8) = .bool false := (tabd_old ht (t := 8) (of_decide_eq_true (by kernel_rfl)) (by kernel_rfl)).trans rfl
                exact .inl ⟨(tabd_wanted ht rfl rfl (of_decide_eq_true (by kernel_rfl)) (by kernel_rfl) d5 rfl), fun K hk => wp_val (v := .bool false) (by generalize a.eval = ρ at *; unfold execOp; simp only [e8]; go_simp) (hk _ hI)⟩
              · have d8 := hdeps ⟨8, .data⟩ (by simp) rfl
                have d9 := hdeps ⟨9, .data⟩ (by simp) rfl
                have d5 := hdeps ⟨5, .guard⟩ (by simp) rfl
                have e44 : a.eval (.tmp 44) = .bool false := tabd_at ht (t := 44) (of_decide_eq_true (by kernel_rfl)) (by kernel_rfl) d8
                have e45 : a.eval (.tmp 45) = .bool false := tabd_at ht (t := 45) (of_decide_eq_true (by kernel_rfl)) (by kernel_rfl) d9
                exact .inl ⟨(tabd_wanted ht rfl rfl (of_decide_eq_true (by kernel_rfl)) (by kernel_rfl) d5 rfl), fun K hk => wp_val (v := .bool true) (by generalize a.eval = ρ at *; unfold execOp; simp only [e44, e45]; go_simp) (hk _ hI)⟩
              · have d5 := hdeps ⟨5, .data⟩ (by simp) rfl
                have d10 := hdeps ⟨10, .data⟩ (by simp) rfl
                have e41 : a.eval (.tmp 41) = .bool true := tabd_at ht (t := 41) (of_decide_eq_true (by kernel_rfl)) (by kernel_rfl) d5
                have e46 : a.eval (.tmp 46) = .bool true := tabd_at ht (t := 46) (of_decide_eq_true (by kernel_rfl)) (by kernel_rfl) d10
                have ec2 : a.eval (.const (Value.bool false)) = (Value.bool false) := rfl
                exact .inl ⟨rfl, fun K hk => wp_val (v := .bool true) (by generalize a.eval = ρ at *; unfold execOp; simp only [e41, e46, ec2]; go_simp) (hk _ hI)⟩
              · have d11 := hdeps ⟨11, .data⟩ (by simp) rfl
                have d8 := hdeps ⟨8, .chain⟩ (by simp) rfl
                have e47 : a.eval (.tmp 47) = .bool true := tabd_at ht (t := 47) (of_decide_eq_true (by kernel_rfl)) (by kernel_rfl) d11
                exact .inl ⟨rfl, fun K hk => wp_val (v := .bool true) (by generalize a.eval = ρ at *; unfold execOp; simp only [e47]; go_simp) (hk _ hI)⟩
              · have d12 := hdeps ⟨12, .guard⟩ (by simp) rfl
                have e2 : a.eval (.tmp 2) = .pointer (some ⟨w.heap.size, 0, none⟩) := (tabd_old ht (t := 2) (of_decide_eq_true (by kernel_rfl)) (by kernel_rfl)).trans rfl
                exact .inl ⟨(tabd_wanted ht rfl rfl (of_decide_eq_true (by kernel_rfl)) (by kernel_rfl) d12 rfl), fun K hk => wp_val (v := .agg #[.slice NA n nc, .slice FA f fc]) (have h := (after _ hI).out; load_op 25 (.tmp 2) rfl (w.heap.size) 0 e2 [.slice NA n nc, .slice FA f fc] _ (range2 h.1 h.2.1) Try.underlying25 rfl (by kernel_rfl)) (hk _ hI)⟩
              · have d12 := hdeps ⟨12, .guard⟩ (by simp) rfl
                have e2 : a.eval (.tmp 2) = .pointer (some ⟨w.heap.size, 0, none⟩) := (tabd_old ht (t := 2) (of_decide_eq_true (by kernel_rfl)) (by kernel_rfl)).trans rfl
                exact .inl ⟨(tabd_wanted ht rfl rfl (of_decide_eq_true (by kernel_rfl)) (by kernel_rfl) d12 rfl), fun K hk => wp_val (v := .agg #[.slice NA n nc, .slice FA f fc]) (have h := (after _ hI).out; load_op 25 (.tmp 2) rfl (w.heap.size) 0 e2 [.slice NA n nc, .slice FA f fc] _ (range2 h.1 h.2.1) Try.underlying25 rfl (by kernel_rfl)) (hk _ hI)⟩
              · have d13 := hdeps ⟨13, .data⟩ (by simp) rfl
                have d14 := hdeps ⟨14, .data⟩ (by simp) rfl
                have d12 := hdeps ⟨12, .chain⟩ (by simp) rfl
                have e49 : a.eval (.tmp 49) = .agg #[.slice NA n nc, .slice FA f fc] := tabd_at ht (t := 49) (of_decide_eq_true (by kernel_rfl)) (by kernel_rfl) d13
                have e50 : a.eval (.tmp 50) = .agg #[.slice NA n nc, .slice FA f fc] := tabd_at ht (t := 50) (of_decide_eq_true (by kernel_rfl)) (by kernel_rfl) d14
                have ef25 : a.eval (.func 20) = .func (.func 20) #[] #[] := rfl
                exact .inl ⟨(tabd_wanted ht rfl rfl (of_decide_eq_true (by kernel_rfl)) (by kernel_rfl) d12 rfl), fun K hk => wp_callI (v := .bool true) (by generalize a.eval = ρ at *; unfold execOp; simp only [e49, e50, ef25]; go_simp) ((KS3 _ (up _ hI) SS1.out).out.mono (fun _ _ h => ⟨h.1, hI.trans (h.2.mono hI.size)⟩)) hk⟩
              · have d12 := hdeps ⟨12, .guard⟩ (by simp) rfl
                have e2 : a.eval (.tmp 2) = .pointer (some ⟨w.heap.size, 0, none⟩) := (tabd_old ht (t := 2) (of_decide_eq_true (by kernel_rfl)) (by kernel_rfl)).trans rfl
                exact .inl ⟨(tabd_wanted ht rfl rfl (of_decide_eq_true (by kernel_rfl)) (by kernel_rfl) d12 rfl), fun K hk => wp_val (v := .agg #[.slice NA n nc, .slice FA f fc]) (have h := (after _ hI).out; load_op 25 (.tmp 2) rfl (w.heap.size) 0 e2 [.slice NA n nc, .slice FA f fc] _ (range2 h.1 h.2.1) Try.underlying25 rfl (by kernel_rfl)) (hk _ hI)⟩
              · have d16 := hdeps ⟨16, .data⟩ (by simp) rfl
                have d15 := hdeps ⟨15, .chain⟩ (by simp) rfl
                have d12 := hdeps ⟨12, .guard⟩ (by simp) rfl
                have e52 : a.eval (.tmp 52) = .agg #[.slice NA n nc, .slice FA f fc] := tabd_at ht (t := 52) (of_decide_eq_true (by kernel_rfl)) (by kernel_rfl) d16
                have ef18 : a.eval (.func 13) = .func (.func 13) #[] #[] := rfl
                exact .inl ⟨(tabd_wanted ht rfl rfl (of_decide_eq_true (by kernel_rfl)) (by kernel_rfl) d12 rfl), fun K hk => wp_callI (v := .int .i64 0) (by generalize a.eval = ρ at *; unfold execOp; simp only [e52, ef18]; go_simp) ((KL1 _ (up _ hI) SS1.out).out.mono (fun _ _ h => ⟨h.1, hI.trans (h.2.mono hI.size)⟩)) hk⟩
              · have d17 := hdeps ⟨17, .data⟩ (by simp) rfl
                have d12 := hdeps ⟨12, .guard⟩ (by simp) rfl
                have e53 : a.eval (.tmp 53) = .int .i64 0 := tabd_at ht (t := 53) (of_decide_eq_true (by kernel_rfl)) (by kernel_rfl) d17
                have ec1 : a.eval (.const (Value.int IntKind.i64 0)) = (Value.int IntKind.i64 0) := rfl
                exact .inl ⟨(tabd_wanted ht rfl rfl (of_decide_eq_true (by kernel_rfl)) (by kernel_rfl) d12 rfl), fun K hk => wp_val (v := .bool true) (by generalize a.eval = ρ at *; unfold execOp; simp only [e53, ec1]; go_simp) (hk _ hI)⟩
              · have d15 := hdeps ⟨15, .data⟩ (by simp) rfl
                have d18 := hdeps ⟨18, .data⟩ (by simp) rfl
                have d12 := hdeps ⟨12, .guard⟩ (by simp) rfl
                have e51 : a.eval (.tmp 51) = .bool true := tabd_at ht (t := 51) (of_decide_eq_true (by kernel_rfl)) (by kernel_rfl) d15
                have e54 : a.eval (.tmp 54) = .bool true := tabd_at ht (t := 54) (of_decide_eq_true (by kernel_rfl)) (by kernel_rfl) d18
                exact .inl ⟨(tabd_wanted ht rfl rfl (of_decide_eq_true (by kernel_rfl)) (by kernel_rfl) d12 rfl), fun K hk => wp_val (v := .bool true) (by generalize a.eval = ρ at *; unfold execOp; simp only [e51, e54]; go_simp) (hk _ hI)⟩
              · have d12 := hdeps ⟨12, .data⟩ (by simp) rfl
                have d19 := hdeps ⟨19, .data⟩ (by simp) rfl
                have e48 : a.eval (.tmp 48) = .bool true := tabd_at ht (t := 48) (of_decide_eq_true (by kernel_rfl)) (by kernel_rfl) d12
                have e55 : a.eval (.tmp 55) = .bool true := tabd_at ht (t := 55) (of_decide_eq_true (by kernel_rfl)) (by kernel_rfl) d19
                have ec2 : a.eval (.const (Value.bool false)) = (Value.bool false) := rfl
                exact .inl ⟨rfl, fun K hk => wp_val (v := .bool true) (by generalize a.eval = ρ at *; unfold execOp; simp only [e48, e55, ec2]; go_simp) (hk _ hI)⟩
              · have d20 := hdeps ⟨20, .data⟩ (by simp) rfl
                have d17 := hdeps ⟨17, .chain⟩ (by simp) rfl
                have e56 : a.eval (.tmp 56) = .bool true := tabd_at ht (t := 56) (of_decide_eq_true (by kernel_rfl)) (by kernel_rfl) d20
                exact .inl ⟨rfl, fun K hk => wp_val (v := .bool true) (by generalize a.eval = ρ at *; unfold execOp; simp only [e56]; go_simp) (hk _ hI)⟩
            case hend =>
              intro a w0 listed hall ht hI
              rw [tabd_fill ht (fun t i ho => hall i (ownAll_lt ho))]
              change Exit.then _ _ Exit.normal { tmps := #[.agg #[.slice NA n nc, .slice FA f fc], .agg #[.slice MA m mc, .slice GA g gc], .pointer (some ⟨w.heap.size, 0, none⟩), .pointer (some ⟨w.heap.size + 1, 0, none⟩), .bool true, .bool true, .bool false, .bool false, .bool false, .bool true, .agg #[.slice NA n nc, .slice FA f fc], .bool false, .agg #[.slice MA m mc, .slice GA g gc], .bool false, .bool true, .bool false, .bool false, .bool false, .bool false, .bool false, .bool false, .bool false, undef, .agg #[.slice NA n nc, .slice FA f fc], .int .i64 0, .bool true, .bool true, .agg #[.slice MA m mc, .slice GA g gc], .int .i64 0, .bool true, .bool true, .bool true, .agg #[.slice NA n nc, .slice FA f fc], .agg #[.slice MA m mc, .slice GA g gc], .bool false, .bool false, .agg #[.slice NA n nc, .slice FA f fc], .agg #[.slice MA m mc, .slice GA g gc], .bool false, .bool false, .bool true, .bool true, .agg #[.slice MA m mc, .slice GA g gc], .agg #[.slice NA n nc, .slice FA f fc], .bool false, .bool false, .bool true, .bool true, .bool true, .agg #[.slice NA n nc, .slice FA f fc], .agg #[.slice NA n nc, .slice FA f fc], .bool true, .agg #[.slice NA n nc, .slice FA f fc], .int .i64 0, .bool true, .bool true, .bool true], defers := [] } w0
              clear hall ht
              go_wp2
              go_ret
              exact ⟨rfl, up _ hI⟩
          | true =>
            have e1 : wv = true := by rw [hwv]; rfl
            subst e1
            clear hwv
            go_upto_region 7 with (first | (go_at_call 13; (with_reducible refine (KL1 _ (up _ B3.out) SS1.out).out.mono ?_); rintro e w4 ⟨rfl, hb⟩; have B4 := Lib.hid (B3.out.trans (hb.mono B3.out.size)); clear hb; obtain ⟨p0, p1, p2, p3⟩ := (after _ B4.out).out) | (go_at_call 13; (with_reducible refine (KL2 _ (up _ B4.out) SS2.out).out.mono ?_); rintro e w5 ⟨rfl, hb⟩; have B5 := Lib.hid (B4.out.trans (hb.mono B4.out.size)); clear hb; obtain ⟨q0, q1, q2, q3⟩ := (after _ B5.out).out) | (go_at_call 19; (with_reducible refine (KE _ (up _ B5.out) SS1.out).out.mono ?_); rintro e w6 ⟨rfl, hb⟩; have B6 := Lib.hid (B5.out.trans (hb.mono B5.out.size)); clear hb))
            refine wp_region_any (by kernel_rfl) ?_
            refine every_inv (own := ownAll _) (vals := fun j => match j with | 0 => .agg #[.slice NA n nc, .slice FA f fc] | 1 => .agg #[.slice MA m mc, .slice GA g gc] | 2 => .bool true | 3 => .bool true | 4 => .bool true | 5 => .bool true | 6 => .agg #[.slice MA m mc, .slice GA g gc] | 7 => .agg #[.slice NA n nc, .slice FA f fc] | 8 => .bool true | 9 => .bool true | 10 => .bool true | 11 => .bool true | 12 => .bool true | 13 => .agg #[.slice NA n nc, .slice FA f fc] | 14 => .agg #[.slice NA n nc, .slice FA f fc] | 15 => .bool true | 16 => .agg #[.slice NA n nc, .slice FA f fc] | 17 => .int .i64 0 | 18 => .bool true | 19 => .bool true | 20 => .bool true | 21 => .bool true | _ => undef) id (fun W => Below X.heap.size X W) (acAll_of (by kernel_rfl)) (onAll_of (by kernel_rfl)) (dstAll_of (by kernel_rfl)) ?hop ?hend _ _ _ _ rfl (of_decide_eq_true (by kernel_rfl)) (tabd_start (fun i => rep_false _ i)) (Lib.hid B6.out.drew).out
            case hop =>
              intro j oi a w0 listed hoi hdeps ht hI
              have hj : j < 22 := (Array.getElem?_eq_some_iff.1 hoi).1
              have cj : j = 0 ∨ j = 1 ∨ j = 2 ∨ j = 3 ∨ j = 4 ∨ j = 5 ∨ j = 6 ∨ j = 7 ∨ j = 8 ∨ j = 9 ∨ j = 10 ∨ j = 11 ∨ j = 12 ∨ j = 13 ∨ j = 14 ∨ j = 15 ∨ j = 16 ∨ j = 17 ∨ j = 18 ∨ j = 19 ∨ j = 20 ∨ j = 21 := by omega
              obtain rfl | rfl | rfl | rfl | rfl | rfl | rfl | rfl | rfl | rfl | rfl | rfl | rfl | rfl | rfl | rfl | rfl | rfl | rfl | rfl | rfl | rfl := cj
              all_goals obtain rfl := Option.some.inj hoi
              · have e2 : a.eval (.tmp 2) = .pointer (some ⟨w.heap.size, 0, none⟩) := (tabd_old ht (t := 2) (of_decide_eq_true (by kernel_rfl)) (by kernel_rfl)).trans rfl
                exact .inl ⟨rfl, fun K hk => wp_val (v := .agg #[.slice NA n nc, .slice FA f fc]) (have h := (after _ hI).out; load_op 25 (.tmp 2) rfl (w.heap.size) 0 e2 [.slice NA n nc, .slice FA f fc] _ (range2 h.1 h.2.1) Try.underlying25 rfl (by kernel_rfl)) (hk _ hI)⟩
              · have e3 : a.eval (.tmp 3) = .pointer (some ⟨w.heap.size + 1, 0, none⟩) := (tabd_old ht (t := 3) (of_decide_eq_true (by kernel_rfl)) (by kernel_rfl)).trans rfl
                exact .inl ⟨rfl, fun K hk => wp_val (v := .agg #[.slice MA m mc, .slice GA g gc]) (have h := (after _ hI).out; load_op 25 (.tmp 3) rfl (w.heap.size + 1) 0 e3 [.slice MA m mc, .slice GA g gc] _ (range2 h.2.2.1 h.2.2.2) Try.underlying25 rfl (by kernel_rfl)) (hk _ hI)⟩
              · have d0 := hdeps ⟨0, .data⟩ (by simp) rfl
                have d1 := hdeps ⟨1, .data⟩ (by simp) rfl
                have e36 : a.eval (.tmp 36) = .agg #[.slice NA n nc, .slice FA f fc] := tabd_at ht (t := 36) (of_decide_eq_true (by kernel_rfl)) (by kernel_rfl) d0
                have e37 : a.eval (.tmp 37) = .agg #[.slice MA m mc, .slice GA g gc] := tabd_at ht (t := 37) (of_decide_eq_true (by kernel_rfl)) (by kernel_rfl) d1
                have ef25 : a.eval (.func 20) = .func (.func 20) #[] #[] := rfl
                exact .inl ⟨rfl, fun K hk => wp_callI (v := .bool true) (by generalize a.eval = ρ at *; unfold execOp; simp only [e36, e37, ef25]; go_simp) ((KS1 _ (up _ hI) SS1.out).out.mono (fun _ _ h => ⟨h.1, hI.trans (h.2.mono hI.size)⟩)) hk⟩
              · have e8 : a.eval (.tmp 8) = .bool true := (tabd_old ht (t := 8) (of_decide_eq_true (by kernel_rfl)) (by kernel_rfl)).trans rfl
                exact .inl ⟨rfl, fun K hk => wp_val (v := .bool true) (by generalize a.eval = ρ at *; unfold execOp; simp only [e8]; go_simp) (hk _ hI)⟩
              · have d2 := hdeps ⟨2, .data⟩ (by simp) rfl
                have d3 := hdeps ⟨3, .data⟩ (by simp) rfl
                have e38 : a.eval (.tmp 38) = .bool true := tabd_at ht (t := 38) (of_decide_eq_true (by kernel_rfl)) (by kernel_rfl) d2
                have e39 : a.eval (.tmp 39) = .bool true := tabd_at ht (t := 39) (of_decide_eq_true (by kernel_rfl)) (by kernel_rfl) d3
                exact .inl ⟨rfl, fun K hk => wp_val (v := .bool true) (by generalize a.eval = ρ at *; unfold execOp; simp only [e38, e39]; go_simp) (hk _ hI)⟩
              · have d4 := hdeps ⟨4, .data⟩ (by simp) rfl
                have d2 := hdeps ⟨2, .chain⟩ (by simp) rfl
                have e40 : a.eval (.tmp 40) = .bool true := tabd_at ht (t := 40) (of_decide_eq_true (by kernel_rfl)) (by kernel_rfl) d4
                exact .inl ⟨rfl, fun K hk => wp_val (v := .bool true) (by generalize a.eval = ρ at *; unfold execOp; simp only [e40]; go_simp) (hk _ hI)⟩
              · have d5 := hdeps ⟨5, .guard⟩ (by simp) rfl
                have e3 : a.eval (.tmp 3) = .pointer (some ⟨w.heap.size + 1, 0, none⟩) := (tabd_old ht (t := 3) (of_decide_eq_true (by kernel_rfl)) (by kernel_rfl)).trans rfl
                exact .inl ⟨(tabd_wanted ht rfl rfl (of_decide_eq_true (by kernel_rfl)) (by kernel_rfl) d5 rfl), fun K hk => wp_val (v := .agg #[.slice MA m mc, .slice GA g gc]) (have h := (after _ hI).out; load_op 25 (.tmp 3) rfl (w.heap.size + 1) 0 e3 [.slice MA m mc, .slice GA g gc] _ (range2 h.2.2.1 h.2.2.2) Try.underlying25 rfl (by kernel_rfl)) (hk _ hI)⟩
              · have d5 := hdeps ⟨5, .guard⟩ (by simp) rfl
                have e2 : a.eval (.tmp 2) = .pointer (some ⟨w.heap.size, 0, none⟩) := (tabd_old ht (t := 2) (of_decide_eq_true (by kernel_rfl)) (by kernel_rfl)).trans rfl
                exact .inl ⟨(tabd_wanted ht rfl rfl (of_decide_eq_true (by kernel_rfl)) (by kernel_rfl) d5 rfl), fun K hk => wp_val (v := .agg #[.slice NA n nc, .slice FA f fc]) (have h := (after _ hI).out; load_op 25 (.tmp 2) rfl (w.heap.size) 0 e2 [.slice NA n nc, .slice FA f fc] _ (range2 h.1 h.2.1) Try.underlying25 rfl (by kernel_rfl)) (hk _ hI)⟩
              · have d6 := hdeps ⟨6, .data⟩ (by simp) rfl
                have d7 := hdeps ⟨7, .data⟩ (by simp) rfl
                have d5 := hdeps ⟨5, .chain⟩ (by simp) rfl
                have e42 : a.eval (.tmp 42) = .agg #[.slice MA m mc, .slice GA g gc] := tabd_at ht (t := 42) (of_decide_eq_true (by kernel_rfl)) (by kernel_rfl) d6
                have e43 : a.eval (.tmp 43) = .agg #[.slice NA n nc, .slice FA f fc] := tabd_at ht (t := 43) (of_decide_eq_true (by kernel_rfl)) (by kernel_rfl) d7
                have ef25 : a.eval (.func 20) = .func (.func 20) #[] #[] := rfl
                exact .inl ⟨(tabd_wanted ht rfl rfl (of_decide_eq_true (by kernel_rfl)) (by kernel_rfl) d5 rfl), fun K hk => wp_callI (v := .bool true) (by generalize a.eval = ρ at *; unfold execOp; simp only [e42, e43, ef25]; go_simp) ((KS2 _ (up _ hI) SS2.out).out.mono (fun _ _ h => ⟨h.1, hI.trans (h.2.mono hI.size)⟩)) hk⟩
              · have d5 := hdeps ⟨5, .guard⟩ (by simp) rfl
                have e8 : a.eval (.tmp 8) = .bool true := (tabd_old ht (t := 8) (of_decide_eq_true (by kernel_rfl)) (by kernel_rfl)).trans rfl
                exact .inl ⟨(tabd_wanted ht rfl rfl (of_decide_eq_true (by kernel_rfl)) (by kernel_rfl) d5 rfl), fun K hk => wp_val (v := .bool true) (by generalize a.eval = ρ at *; unfold execOp; simp only [e8]; go_simp) (hk _ hI)⟩
              · have d8 := hdeps ⟨8, .data⟩ (by simp) rfl
                have d9 := hdeps ⟨9, .data⟩ (by simp) rfl
                have d5 := hdeps ⟨5, .guard⟩ (by simp) rfl
                have e44 : a.eval (.tmp 44) = .bool true := tabd_at ht (t := 44) (of_decide_eq_true (by kernel_rfl)) (by kernel_rfl) d8
                have e45 : a.eval (.tmp 45) = .bool true := tabd_at ht (t := 45) (of_decide_eq_true (by kernel_rfl)) (by kernel_rfl) d9
                exact .inl ⟨(tabd_wanted ht rfl rfl (of_decide_eq_true (by kernel_rfl)) (by kernel_rfl) d5 rfl), fun K hk => wp_val (v := .bool true) (by generalize a.eval = ρ at *; unfold execOp; simp only [e44, e45]; go_simp) (hk _ hI)⟩
              · have d5 := hdeps ⟨5, .data⟩ (by simp) rfl
                have d10 := hdeps ⟨10, .data⟩ (by simp) rfl
                have e41 : a.eval (.tmp 41) = .bool true := tabd_at ht (t := 41) (of_decide_eq_true (by kernel_rfl)) (by kernel_rfl) d5
                have e46 : a.eval (.tmp 46) = .bool true := tabd_at ht (t := 46) (of_decide_eq_true (by kernel_rfl)) (by kernel_rfl) d10
                have ec2 : a.eval (.const (Value.bool false)) = (Value.bool false) := rfl
                exact .inl ⟨rfl, fun K hk => wp_val (v := .bool true) (by generalize a.eval = ρ at *; unfold execOp; simp only [e41, e46, ec2]; go_simp) (hk _ hI)⟩
              · have d11 := hdeps ⟨11, .data⟩ (by simp) rfl
                have d8 := hdeps ⟨8, .chain⟩ (by simp) rfl
                have e47 : a.eval (.tmp 47) = .bool true := tabd_at ht (t := 47) (of_decide_eq_true (by kernel_rfl)) (by kernel_rfl) d11
                exact .inl ⟨rfl, fun K hk => wp_val (v := .bool true) (by generalize a.eval = ρ at *; unfold execOp; simp only [e47]; go_simp) (hk _ hI)⟩
              · have d12 := hdeps ⟨12, .guard⟩ (by simp) rfl
                have e2 : a.eval (.tmp 2) = .pointer (some ⟨w.heap.size, 0, none⟩) := (tabd_old ht (t := 2) (of_decide_eq_true (by kernel_rfl)) (by kernel_rfl)).trans rfl
                exact .inl ⟨(tabd_wanted ht rfl rfl (of_decide_eq_true (by kernel_rfl)) (by kernel_rfl) d12 rfl), fun K hk => wp_val (v := .agg #[.slice NA n nc, .slice FA f fc]) (have h := (after _ hI).out; load_op 25 (.tmp 2) rfl (w.heap.size) 0 e2 [.slice NA n nc, .slice FA f fc] _ (range2 h.1 h.2.1) Try.underlying25 rfl (by kernel_rfl)) (hk _ hI)⟩
              · have d12 := hdeps ⟨12, .guard⟩ (by simp) rfl
                have e2 : a.eval (.tmp 2) = .pointer (some ⟨w.heap.size, 0, none⟩) := (tabd_old ht (t := 2) (of_decide_eq_true (by kernel_rfl)) (by kernel_rfl)).trans rfl
                exact .inl ⟨(tabd_wanted ht rfl rfl (of_decide_eq_true (by kernel_rfl)) (by kernel_rfl) d12 rfl), fun K hk => wp_val (v := .agg #[.slice NA n nc, .slice FA f fc]) (have h := (after _ hI).out; load_op 25 (.tmp 2) rfl (w.heap.size) 0 e2 [.slice NA n nc, .slice FA f fc] _ (range2 h.1 h.2.1) Try.underlying25 rfl (by kernel_rfl)) (hk _ hI)⟩
              · have d13 := hdeps ⟨13, .data⟩ (by simp) rfl
                have d14 := hdeps ⟨14, .data⟩ (by simp) rfl
                have d12 := hdeps ⟨12, .chain⟩ (by simp) rfl
                have e49 : a.eval (.tmp 49) = .agg #[.slice NA n nc, .slice FA f fc] := tabd_at ht (t := 49) (of_decide_eq_true (by kernel_rfl)) (by kernel_rfl) d13
                have e50 : a.eval (.tmp 50) = .agg #[.slice NA n nc, .slice FA f fc] := tabd_at ht (t := 50) (of_decide_eq_true (by kernel_rfl)) (by kernel_rfl) d14
                have ef25 : a.eval (.func 20) = .func (.func 20) #[] #[] := rfl
                exact .inl ⟨(tabd_wanted ht rfl rfl (of_decide_eq_true (by kernel_rfl)) (by kernel_rfl) d12 rfl), fun K hk => wp_callI (v := .bool true) (by generalize a.eval = ρ at *; unfold execOp; simp only [e49, e50, ef25]; go_simp) ((KS3 _ (up _ hI) SS1.out).out.mono (fun _ _ h => ⟨h.1, hI.trans (h.2.mono hI.size)⟩)) hk⟩
              · have d12 := hdeps ⟨12, .guard⟩ (by simp) rfl
                have e2 : a.eval (.tmp 2) = .pointer (some ⟨w.heap.size, 0, none⟩) := (tabd_old ht (t := 2) (of_decide_eq_true (by kernel_rfl)) (by kernel_rfl)).trans rfl
                exact .inl ⟨(tabd_wanted ht rfl rfl (of_decide_eq_true (by kernel_rfl)) (by kernel_rfl) d12 rfl), fun K hk => wp_val (v := .agg #[.slice NA n nc, .slice FA f fc]) (have h := (after _ hI).out; load_op 25 (.tmp 2) rfl (w.heap.size) 0 e2 [.slice NA n nc, .slice FA f fc] _ (range2 h.1 h.2.1) Try.underlying25 rfl (by kernel_rfl)) (hk _ hI)⟩
              · have d16 := hdeps ⟨16, .data⟩ (by simp) rfl
                have d15 := hdeps ⟨15, .chain⟩ (by simp) rfl
                have d12 := hdeps ⟨12, .guard⟩ (by simp) rfl
                have e52 : a.eval (.tmp 52) = .agg #[.slice NA n nc, .slice FA f fc] := tabd_at ht (t := 52) (of_decide_eq_true (by kernel_rfl)) (by kernel_rfl) d16
                have ef18 : a.eval (.func 13) = .func (.func 13) #[] #[] := rfl
                exact .inl ⟨(tabd_wanted ht rfl rfl (of_decide_eq_true (by kernel_rfl)) (by kernel_rfl) d12 rfl), fun K hk => wp_callI (v := .int .i64 0) (by generalize a.eval = ρ at *; unfold execOp; simp only [e52, ef18]; go_simp) ((KL1 _ (up _ hI) SS1.out).out.mono (fun _ _ h => ⟨h.1, hI.trans (h.2.mono hI.size)⟩)) hk⟩
              · have d17 := hdeps ⟨17, .data⟩ (by simp) rfl
                have d12 := hdeps ⟨12, .guard⟩ (by simp) rfl
                have e53 : a.eval (.tmp 53) = .int .i64 0 := tabd_at ht (t := 53) (of_decide_eq_true (by kernel_rfl)) (by kernel_rfl) d17
                have ec1 : a.eval (.const (Value.int IntKind.i64 0)) = (Value.int IntKind.i64 0) := rfl
                exact .inl ⟨(tabd_wanted ht rfl rfl (of_decide_eq_true (by kernel_rfl)) (by kernel_rfl) d12 rfl), fun K hk => wp_val (v := .bool true) (by generalize a.eval = ρ at *; unfold execOp; simp only [e53, ec1]; go_simp) (hk _ hI)⟩
              · have d15 := hdeps ⟨15, .data⟩ (by simp) rfl
                have d18 := hdeps ⟨18, .data⟩ (by simp) rfl
                have d12 := hdeps ⟨12, .guard⟩ (by simp) rfl
                have e51 : a.eval (.tmp 51) = .bool true := tabd_at ht (t := 51) (of_decide_eq_true (by kernel_rfl)) (by kernel_rfl) d15
                have e54 : a.eval (.tmp 54) = .bool true := tabd_at ht (t := 54) (of_decide_eq_true (by kernel_rfl)) (by kernel_rfl) d18
                exact .inl ⟨(tabd_wanted ht rfl rfl (of_decide_eq_true (by kernel_rfl)) (by kernel_rfl) d12 rfl), fun K hk => wp_val (v := .bool true) (by generalize a.eval = ρ at *; unfold execOp; simp only [e51, e54]; go_simp) (hk _ hI)⟩
              · have d12 := hdeps ⟨12, .data⟩ (by simp) rfl
                have d19 := hdeps ⟨19, .data⟩ (by simp) rfl
                have e48 : a.eval (.tmp 48) = .bool true := tabd_at ht (t := 48) (of_decide_eq_true (by kernel_rfl)) (by kernel_rfl) d12
                have e55 : a.eval (.tmp 55) = .bool true := tabd_at ht (t := 55) (of_decide_eq_true (by kernel_rfl)) (by kernel_rfl) d19
                have ec2 : a.eval (.const (Value.bool false)) = (Value.bool false) := rfl
                exact .inl ⟨rfl, fun K hk => wp_val (v := .bool true) (by generalize a.eval = ρ at *; unfold execOp; simp only [e48, e55, ec2]; go_simp) (hk _ hI)⟩
              · have d20 := hdeps ⟨20, .data⟩ (by simp) rfl
                have d17 := hdeps ⟨17, .chain⟩ (by simp) rfl
                have e56 : a.eval (.tmp 56) = .bool true := tabd_at ht (t := 56) (of_decide_eq_true (by kernel_rfl)) (by kernel_rfl) d20
                exact .inl ⟨rfl, fun K hk => wp_val (v := .bool true) (by generalize a.eval = ρ at *; unfold execOp; simp only [e56]; go_simp) (hk _ hI)⟩
            case hend =>
              intro a w0 listed hall ht hI
              rw [tabd_fill ht (fun t i ho => hall i (ownAll_lt ho))]
              change Exit.then _ _ Exit.normal { tmps := #[.agg #[.slice NA n nc, .slice FA f fc], .agg #[.slice MA m mc, .slice GA g gc], .pointer (some ⟨w.heap.size, 0, none⟩), .pointer (some ⟨w.heap.size + 1, 0, none⟩), .bool true, .bool true, .bool false, .bool false, .bool true, .bool true, .agg #[.slice NA n nc, .slice FA f fc], .bool false, .agg #[.slice MA m mc, .slice GA g gc], .bool false, .bool true, .bool false, .bool false, .bool false, .bool false, .bool false, .bool false, .bool false, undef, .agg #[.slice NA n nc, .slice FA f fc], .int .i64 0, .bool true, .bool true, .agg #[.slice MA m mc, .slice GA g gc], .int .i64 0, .bool true, .bool true, .bool true, .agg #[.slice NA n nc, .slice FA f fc], .agg #[.slice MA m mc, .slice GA g gc], .bool true, .bool true, .agg #[.slice NA n nc, .slice FA f fc], .agg #[.slice MA m mc, .slice GA g gc], .bool true, .bool true, .bool true, .bool true, .agg #[.slice MA m mc, .slice GA g gc], .agg #[.slice NA n nc, .slice FA f fc], .bool true, .bool true, .bool true, .bool true, .bool true, .agg #[.slice NA n nc, .slice FA f fc], .agg #[.slice NA n nc, .slice FA f fc], .bool true, .agg #[.slice NA n nc, .slice FA f fc], .int .i64 0, .bool true, .bool true, .bool true], defers := [] } w0
              clear hall ht
              go_wp2
              go_ret
              exact ⟨rfl, up _ hI⟩
        · have hlb : (lb == 0) = false := by simpa using hl
          have e1 : wv = false := by rw [hwv, decide_eq_false hl]; rfl
          subst e1
          clear hwv
          go_upto_region 7 with (first | (go_at_call 13; (with_reducible refine (KL1 _ (up _ B3.out) SS1.out).out.mono ?_); rintro e w4 ⟨rfl, hb⟩; have B4 := Lib.hid (B3.out.trans (hb.mono B3.out.size)); clear hb; obtain ⟨p0, p1, p2, p3⟩ := (after _ B4.out).out) | (go_at_call 13; (with_reducible refine (KL2 _ (up _ B4.out) SS2.out).out.mono ?_); rintro e w5 ⟨rfl, hb⟩; have B5 := Lib.hid (B4.out.trans (hb.mono B4.out.size)); clear hb; obtain ⟨q0, q1, q2, q3⟩ := (after _ B5.out).out) | (go_at_call 19; (with_reducible refine (KE _ (up _ B5.out) SS1.out).out.mono ?_); rintro e w6 ⟨rfl, hb⟩; have B6 := Lib.hid (B5.out.trans (hb.mono B5.out.size)); clear hb))
          refine wp_region_any (by kernel_rfl) ?_
          refine every_inv (own := ownAll _) (vals := fun j => match j with | 0 => .agg #[.slice NA n nc, .slice FA f fc] | 1 => .agg #[.slice MA m mc, .slice GA g gc] | 2 => .bool false | 3 => .bool false | 4 => .bool true | 5 => .bool true | 6 => .agg #[.slice MA m mc, .slice GA g gc] | 7 => .agg #[.slice NA n nc, .slice FA f fc] | 8 => .bool false | 9 => .bool false | 10 => .bool true | 11 => .bool true | 12 => .bool true | 13 => .agg #[.slice NA n nc, .slice FA f fc] | 14 => .agg #[.slice NA n nc, .slice FA f fc] | 15 => .bool true | 16 => .agg #[.slice NA n nc, .slice FA f fc] | 17 => .int .i64 0 | 18 => .bool true | 19 => .bool true | 20 => .bool true | 21 => .bool true | _ => undef) id (fun W => Below X.heap.size X W) (acAll_of (by kernel_rfl)) (onAll_of (by kernel_rfl)) (dstAll_of (by kernel_rfl)) ?hop ?hend _ _ _ _ rfl (of_decide_eq_true (by kernel_rfl)) (tabd_start (fun i => rep_false _ i)) (Lib.hid B5.out.drew).out
          case hop =>
            intro j oi a w0 listed hoi hdeps ht hI
            have hj : j < 22 := (Array.getElem?_eq_some_iff.1 hoi).1
            have cj : j = 0 ∨ j = 1 ∨ j = 2 ∨ j = 3 ∨ j = 4 ∨ j = 5 ∨ j = 6 ∨ j = 7 ∨ j = 8 ∨ j = 9 ∨ j = 10 ∨ j = 11 ∨ j = 12 ∨ j = 13 ∨ j = 14 ∨ j = 15 ∨ j = 16 ∨ j = 17 ∨ j = 18 ∨ j = 19 ∨ j = 20 ∨ j = 21 := by omega
            obtain rfl | rfl | rfl | rfl | rfl | rfl | rfl | rfl | rfl | rfl | rfl | rfl | rfl | rfl | rfl | rfl | rfl | rfl | rfl | rfl | rfl | rfl := cj
            all_goals obtain rfl := Option.some.inj hoi
            · have e2 : a.eval (.tmp 2) = .pointer (some ⟨w.heap.size, 0, none⟩) := (tabd_old ht (t := 2) (of_decide_eq_true (by kernel_rfl)) (by kernel_rfl)).trans rfl
              exact .inl ⟨rfl, fun K hk => wp_val (v := .agg #[.slice NA n nc, .slice FA f fc]) (have h := (after _ hI).out; load_op 25 (.tmp 2) rfl (w.heap.size) 0 e2 [.slice NA n nc, .slice FA f fc] _ (range2 h.1 h.2.1) Try.underlying25 rfl (by kernel_rfl)) (hk _ hI)⟩
            · have e3 : a.eval (.tmp 3) = .pointer (some ⟨w.heap.size + 1, 0, none⟩) := (tabd_old ht (t := 3) (of_decide_eq_true (by kernel_rfl)) (by kernel_rfl)).trans rfl
              exact .inl ⟨rfl, fun K hk => wp_val (v := .agg #[.slice MA m mc, .slice GA g gc]) (have h := (after _ hI).out; load_op 25 (.tmp 3) rfl (w.heap.size + 1) 0 e3 [.slice MA m mc, .slice GA g gc] _ (range2 h.2.2.1 h.2.2.2) Try.underlying25 rfl (by kernel_rfl)) (hk _ hI)⟩
            · have d0 := hdeps ⟨0, .data⟩ (by simp) rfl
              have d1 := hdeps ⟨1, .data⟩ (by simp) rfl
              have e36 : a.eval (.tmp 36) = .agg #[.slice NA n nc, .slice FA f fc] := tabd_at ht (t := 36) (of_decide_eq_true (by kernel_rfl)) (by kernel_rfl) d0
              have e37 : a.eval (.tmp 37) = .agg #[.slice MA m mc, .slice GA g gc] := tabd_at ht (t := 37) (of_decide_eq_true (by kernel_rfl)) (by kernel_rfl) d1
              have ef25 : a.eval (.func 20) = .func (.func 20) #[] #[] := rfl
              exact .inl ⟨rfl, fun K hk => wp_callI (v := .bool false) (by generalize a.eval = ρ at *; unfold execOp; simp only [e36, e37, ef25]; go_simp) ((KS1 _ (up _ hI) SS1.out).out.mono (fun _ _ h => ⟨h.1, hI.trans (h.2.mono hI.size)⟩)) hk⟩
            · have e8 : a.eval (.tmp 8) = .bool false := (tabd_old ht (t := 8) (of_decide_eq_true (by kernel_rfl)) (by kernel_rfl)).trans rfl
              exact .inl ⟨rfl, fun K hk => wp_val (v := .bool false) (by generalize a.eval = ρ at *; unfold execOp; simp only [e8]; go_simp) (hk _ hI)⟩
            · have d2 := hdeps ⟨2, .data⟩ (by simp) rfl
              have d3 := hdeps ⟨3, .data⟩ (by simp) rfl
              have e38 : a.eval (.tmp 38) = .bool false := tabd_at ht (t := 38) (of_decide_eq_true (by kernel_rfl)) (by kernel_rfl) d2
              have e39 : a.eval (.tmp 39) = .bool false := tabd_at ht (t := 39) (of_decide_eq_true (by kernel_rfl)) (by kernel_rfl) d3
              exact .inl ⟨rfl, fun K hk => wp_val (v := .bool true) (by generalize a.eval = ρ at *; unfold execOp; simp only [e38, e39]; go_simp) (hk _ hI)⟩
            · have d4 := hdeps ⟨4, .data⟩ (by simp) rfl
              have d2 := hdeps ⟨2, .chain⟩ (by simp) rfl
              have e40 : a.eval (.tmp 40) = .bool true := tabd_at ht (t := 40) (of_decide_eq_true (by kernel_rfl)) (by kernel_rfl) d4
              exact .inl ⟨rfl, fun K hk => wp_val (v := .bool true) (by generalize a.eval = ρ at *; unfold execOp; simp only [e40]; go_simp) (hk _ hI)⟩
            · have d5 := hdeps ⟨5, .guard⟩ (by simp) rfl
              have e3 : a.eval (.tmp 3) = .pointer (some ⟨w.heap.size + 1, 0, none⟩) := (tabd_old ht (t := 3) (of_decide_eq_true (by kernel_rfl)) (by kernel_rfl)).trans rfl
              exact .inl ⟨(tabd_wanted ht rfl rfl (of_decide_eq_true (by kernel_rfl)) (by kernel_rfl) d5 rfl), fun K hk => wp_val (v := .agg #[.slice MA m mc, .slice GA g gc]) (have h := (after _ hI).out; load_op 25 (.tmp 3) rfl (w.heap.size + 1) 0 e3 [.slice MA m mc, .slice GA g gc] _ (range2 h.2.2.1 h.2.2.2) Try.underlying25 rfl (by kernel_rfl)) (hk _ hI)⟩
            · have d5 := hdeps ⟨5, .guard⟩ (by simp) rfl
              have e2 : a.eval (.tmp 2) = .pointer (some ⟨w.heap.size, 0, none⟩) := (tabd_old ht (t := 2) (of_decide_eq_true (by kernel_rfl)) (by kernel_rfl)).trans rfl
              exact .inl ⟨(tabd_wanted ht rfl rfl (of_decide_eq_true (by kernel_rfl)) (by kernel_rfl) d5 rfl), fun K hk => wp_val (v := .agg #[.slice NA n nc, .slice FA f fc]) (have h := (after _ hI).out; load_op 25 (.tmp 2) rfl (w.heap.size) 0 e2 [.slice NA n nc, .slice FA f fc] _ (range2 h.1 h.2.1) Try.underlying25 rfl (by kernel_rfl)) (hk _ hI)⟩
            · have d6 := hdeps ⟨6, .data⟩ (by simp) rfl
              have d7 := hdeps ⟨7, .data⟩ (by simp) rfl
              have d5 := hdeps ⟨5, .chain⟩ (by simp) rfl
              have e42 : a.eval (.tmp 42) = .agg #[.slice MA m mc, .slice GA g gc] := tabd_at ht (t := 42) (of_decide_eq_true (by kernel_rfl)) (by kernel_rfl) d6
              have e43 : a.eval (.tmp 43) = .agg #[.slice NA n nc, .slice FA f fc] := tabd_at ht (t := 43) (of_decide_eq_true (by kernel_rfl)) (by kernel_rfl) d7
              have ef25 : a.eval (.func 20) = .func (.func 20) #[] #[] := rfl
              exact .inl ⟨(tabd_wanted ht rfl rfl (of_decide_eq_true (by kernel_rfl)) (by kernel_rfl) d5 rfl), fun K hk => wp_callI (v := .bool false) (by generalize a.eval = ρ at *; unfold execOp; simp only [e42, e43, ef25]; go_simp) ((KS2 _ (up _ hI) SS2.out).out.mono (fun _ _ h => ⟨h.1, hI.trans (h.2.mono hI.size)⟩)) hk⟩
            · have d5 := hdeps ⟨5, .guard⟩ (by simp) rfl
              have e8 : a.eval (.tmp 8) = .bool false := (tabd_old ht (t := 8) (of_decide_eq_true (by kernel_rfl)) (by kernel_rfl)).trans rfl
              exact .inl ⟨(tabd_wanted ht rfl rfl (of_decide_eq_true (by kernel_rfl)) (by kernel_rfl) d5 rfl), fun K hk => wp_val (v := .bool false) (by generalize a.eval = ρ at *; unfold execOp; simp only [e8]; go_simp) (hk _ hI)⟩
            · have d8 := hdeps ⟨8, .data⟩ (by simp) rfl
              have d9 := hdeps ⟨9, .data⟩ (by simp) rfl
              have d5 := hdeps ⟨5, .guard⟩ (by simp) rfl
              have e44 : a.eval (.tmp 44) = .bool false := tabd_at ht (t := 44) (of_decide_eq_true (by kernel_rfl)) (by kernel_rfl) d8
              have e45 : a.eval (.tmp 45) = .bool false := tabd_at ht (t := 45) (of_decide_eq_true (by kernel_rfl)) (by kernel_rfl) d9
              exact .inl ⟨(tabd_wanted ht rfl rfl (of_decide_eq_true (by kernel_rfl)) (by kernel_rfl) d5 rfl), fun K hk => wp_val (v := .bool true) (by generalize a.eval = ρ at *; unfold execOp; simp only [e44, e45]; go_simp) (hk _ hI)⟩
            · have d5 := hdeps ⟨5, .data⟩ (by simp) rfl
              have d10 := hdeps ⟨10, .data⟩ (by simp) rfl
              have e41 : a.eval (.tmp 41) = .bool true := tabd_at ht (t := 41) (of_decide_eq_true (by kernel_rfl)) (by kernel_rfl) d5
              have e46 : a.eval (.tmp 46) = .bool true := tabd_at ht (t := 46) (of_decide_eq_true (by kernel_rfl)) (by kernel_rfl) d10
              have ec2 : a.eval (.const (Value.bool false)) = (Value.bool false) := rfl
              exact .inl ⟨rfl, fun K hk => wp_val (v := .bool true) (by generalize a.eval = ρ at *; unfold execOp; simp only [e41, e46, ec2]; go_simp) (hk _ hI)⟩
            · have d11 := hdeps ⟨11, .data⟩ (by simp) rfl
              have d8 := hdeps ⟨8, .chain⟩ (by simp) rfl
              have e47 : a.eval (.tmp 47) = .bool true := tabd_at ht (t := 47) (of_decide_eq_true (by kernel_rfl)) (by kernel_rfl) d11
              exact .inl ⟨rfl, fun K hk => wp_val (v := .bool true) (by generalize a.eval = ρ at *; unfold execOp; simp only [e47]; go_simp) (hk _ hI)⟩
            · have d12 := hdeps ⟨12, .guard⟩ (by simp) rfl
              have e2 : a.eval (.tmp 2) = .pointer (some ⟨w.heap.size, 0, none⟩) := (tabd_old ht (t := 2) (of_decide_eq_true (by kernel_rfl)) (by kernel_rfl)).trans rfl
              exact .inl ⟨(tabd_wanted ht rfl rfl (of_decide_eq_true (by kernel_rfl)) (by kernel_rfl) d12 rfl), fun K hk => wp_val (v := .agg #[.slice NA n nc, .slice FA f fc]) (have h := (after _ hI).out; load_op 25 (.tmp 2) rfl (w.heap.size) 0 e2 [.slice NA n nc, .slice FA f fc] _ (range2 h.1 h.2.1) Try.underlying25 rfl (by kernel_rfl)) (hk _ hI)⟩
            · have d12 := hdeps ⟨12, .guard⟩ (by simp) rfl
              have e2 : a.eval (.tmp 2) = .pointer (some ⟨w.heap.size, 0, none⟩) := (tabd_old ht (t := 2) (of_decide_eq_true (by kernel_rfl)) (by kernel_rfl)).trans rfl
              exact .inl ⟨(tabd_wanted ht rfl rfl (of_decide_eq_true (by kernel_rfl)) (by kernel_rfl) d12 rfl), fun K hk => wp_val (v := .agg #[.slice NA n nc, .slice FA f fc]) (have h := (after _ hI).out; load_op 25 (.tmp 2) rfl (w.heap.size) 0 e2 [.slice NA n nc, .slice FA f fc] _ (range2 h.1 h.2.1) Try.underlying25 rfl (by kernel_rfl)) (hk _ hI)⟩
            · have d13 := hdeps ⟨13, .data⟩ (by simp) rfl
              have d14 := hdeps ⟨14, .data⟩ (by simp) rfl
              have d12 := hdeps ⟨12, .chain⟩ (by simp) rfl
              have e49 : a.eval (.tmp 49) = .agg #[.slice NA n nc, .slice FA f fc] := tabd_at ht (t := 49) (of_decide_eq_true (by kernel_rfl)) (by kernel_rfl) d13
              have e50 : a.eval (.tmp 50) = .agg #[.slice NA n nc, .slice FA f fc] := tabd_at ht (t := 50) (of_decide_eq_true (by kernel_rfl)) (by kernel_rfl) d14
              have ef25 : a.eval (.func 20) = .func (.func 20) #[] #[] := rfl
              exact .inl ⟨(tabd_wanted ht rfl rfl (of_decide_eq_true (by kernel_rfl)) (by kernel_rfl) d12 rfl), fun K hk => wp_callI (v := .bool true) (by generalize a.eval = ρ at *; unfold execOp; simp only [e49, e50, ef25]; go_simp) ((KS3 _ (up _ hI) SS1.out).out.mono (fun _ _ h => ⟨h.1, hI.trans (h.2.mono hI.size)⟩)) hk⟩
            · have d12 := hdeps ⟨12, .guard⟩ (by simp) rfl
              have e2 : a.eval (.tmp 2) = .pointer (some ⟨w.heap.size, 0, none⟩) := (tabd_old ht (t := 2) (of_decide_eq_true (by kernel_rfl)) (by kernel_rfl)).trans rfl
              exact .inl ⟨(tabd_wanted ht rfl rfl (of_decide_eq_true (by kernel_rfl)) (by kernel_rfl) d12 rfl), fun K hk => wp_val (v := .agg #[.slice NA n nc, .slice FA f fc]) (have h := (after _ hI).out; load_op 25 (.tmp 2) rfl (w.heap.size) 0 e2 [.slice NA n nc, .slice FA f fc] _ (range2 h.1 h.2.1) Try.underlying25 rfl (by kernel_rfl)) (hk _ hI)⟩
            · have d16 := hdeps ⟨16, .data⟩ (by simp) rfl
              have d15 := hdeps ⟨15, .chain⟩ (by simp) rfl
              have d12 := hdeps ⟨12, .guard⟩ (by simp) rfl
              have e52 : a.eval (.tmp 52) = .agg #[.slice NA n nc, .slice FA f fc] := tabd_at ht (t := 52) (of_decide_eq_true (by kernel_rfl)) (by kernel_rfl) d16
              have ef18 : a.eval (.func 13) = .func (.func 13) #[] #[] := rfl
              exact .inl ⟨(tabd_wanted ht rfl rfl (of_decide_eq_true (by kernel_rfl)) (by kernel_rfl) d12 rfl), fun K hk => wp_callI (v := .int .i64 0) (by generalize a.eval = ρ at *; unfold execOp; simp only [e52, ef18]; go_simp) ((KL1 _ (up _ hI) SS1.out).out.mono (fun _ _ h => ⟨h.1, hI.trans (h.2.mono hI.size)⟩)) hk⟩
            · have d17 := hdeps ⟨17, .data⟩ (by simp) rfl
              have d12 := hdeps ⟨12, .guard⟩ (by simp) rfl
              have e53 : a.eval (.tmp 53) = .int .i64 0 := tabd_at ht (t := 53) (of_decide_eq_true (by kernel_rfl)) (by kernel_rfl) d17
              have ec1 : a.eval (.const (Value.int IntKind.i64 0)) = (Value.int IntKind.i64 0) := rfl
              exact .inl ⟨(tabd_wanted ht rfl rfl (of_decide_eq_true (by kernel_rfl)) (by kernel_rfl) d12 rfl), fun K hk => wp_val (v := .bool true) (by generalize a.eval = ρ at *; unfold execOp; simp only [e53, ec1]; go_simp) (hk _ hI)⟩
            · have d15 := hdeps ⟨15, .data⟩ (by simp) rfl
              have d18 := hdeps ⟨18, .data⟩ (by simp) rfl
              have d12 := hdeps ⟨12, .guard⟩ (by simp) rfl
              have e51 : a.eval (.tmp 51) = .bool true := tabd_at ht (t := 51) (of_decide_eq_true (by kernel_rfl)) (by kernel_rfl) d15
              have e54 : a.eval (.tmp 54) = .bool true := tabd_at ht (t := 54) (of_decide_eq_true (by kernel_rfl)) (by kernel_rfl) d18
              exact .inl ⟨(tabd_wanted ht rfl rfl (of_decide_eq_true (by kernel_rfl)) (by kernel_rfl) d12 rfl), fun K hk => wp_val (v := .bool true) (by generalize a.eval = ρ at *; unfold execOp; simp only [e51, e54]; go_simp) (hk _ hI)⟩
            · have d12 := hdeps ⟨12, .data⟩ (by simp) rfl
              have d19 := hdeps ⟨19, .data⟩ (by simp) rfl
              have e48 : a.eval (.tmp 48) = .bool true := tabd_at ht (t := 48) (of_decide_eq_true (by kernel_rfl)) (by kernel_rfl) d12
              have e55 : a.eval (.tmp 55) = .bool true := tabd_at ht (t := 55) (of_decide_eq_true (by kernel_rfl)) (by kernel_rfl) d19
              have ec2 : a.eval (.const (Value.bool false)) = (Value.bool false) := rfl
              exact .inl ⟨rfl, fun K hk => wp_val (v := .bool true) (by generalize a.eval = ρ at *; unfold execOp; simp only [e48, e55, ec2]; go_simp) (hk _ hI)⟩
            · have d20 := hdeps ⟨20, .data⟩ (by simp) rfl
              have d17 := hdeps ⟨17, .chain⟩ (by simp) rfl
              have e56 : a.eval (.tmp 56) = .bool true := tabd_at ht (t := 56) (of_decide_eq_true (by kernel_rfl)) (by kernel_rfl) d20
              exact .inl ⟨rfl, fun K hk => wp_val (v := .bool true) (by generalize a.eval = ρ at *; unfold execOp; simp only [e56]; go_simp) (hk _ hI)⟩
          case hend =>
            intro a w0 listed hall ht hI
            rw [tabd_fill ht (fun t i ho => hall i (ownAll_lt ho))]
            change Exit.then _ _ Exit.normal { tmps := #[.agg #[.slice NA n nc, .slice FA f fc], .agg #[.slice MA m mc, .slice GA g gc], .pointer (some ⟨w.heap.size, 0, none⟩), .pointer (some ⟨w.heap.size + 1, 0, none⟩), .bool true, .bool true, .bool false, .bool false, .bool false, .bool true, .agg #[.slice NA n nc, .slice FA f fc], .bool false, .agg #[.slice MA m mc, .slice GA g gc], .bool false, .bool true, .bool false, .bool false, .bool false, .bool false, .bool false, .bool false, .bool false, undef, .agg #[.slice NA n nc, .slice FA f fc], .int .i64 0, .bool true, .bool true, .agg #[.slice MA m mc, .slice GA g gc], .int .i64 lb, .bool false, .bool false, .bool false, undef, undef, undef, .bool false, .agg #[.slice NA n nc, .slice FA f fc], .agg #[.slice MA m mc, .slice GA g gc], .bool false, .bool false, .bool true, .bool true, .agg #[.slice MA m mc, .slice GA g gc], .agg #[.slice NA n nc, .slice FA f fc], .bool false, .bool false, .bool true, .bool true, .bool true, .agg #[.slice NA n nc, .slice FA f fc], .agg #[.slice NA n nc, .slice FA f fc], .bool true, .agg #[.slice NA n nc, .slice FA f fc], .int .i64 0, .bool true, .bool true, .bool true], defers := [] } w0
            clear hall ht
            go_wp2
            go_ret
            exact ⟨rfl, up _ hI⟩
      · have e3 : s3 = false := by rw [hs3, decide_eq_false ha]
        subst e3
        have e1 : wv = false := by rw [hwv, decide_eq_false ha]; rfl
        subst e1
        clear hs3 hwv
        have hab : (la == 0) = false := by simpa using ha
        go_upto_region 7 with (first | (go_at_call 13; (with_reducible refine (KL1 _ (up _ B3.out) SS1.out).out.mono ?_); rintro e w4 ⟨rfl, hb⟩; have B4 := Lib.hid (B3.out.trans (hb.mono B3.out.size)); clear hb; obtain ⟨p0, p1, p2, p3⟩ := (after _ B4.out).out) | (go_at_call 13; (with_reducible refine (KL2 _ (up _ B4.out) SS2.out).out.mono ?_); rintro e w5 ⟨rfl, hb⟩; have B5 := Lib.hid (B4.out.trans (hb.mono B4.out.size)); clear hb; obtain ⟨q0, q1, q2, q3⟩ := (after _ B5.out).out) | (go_at_call 19; (with_reducible refine (KE _ (up _ B5.out) SS1.out).out.mono ?_); rintro e w6 ⟨rfl, hb⟩; have B6 := Lib.hid (B5.out.trans (hb.mono B5.out.size)); clear hb))
        refine wp_region_any (by kernel_rfl) ?_
        refine every_inv (own := ownAll _) (vals := fun j => match j with | 0 => .agg #[.slice NA n nc, .slice FA f fc] | 1 => .agg #[.slice MA m mc, .slice GA g gc] | 2 => .bool false | 3 => .bool false | 4 => .bool true | 5 => .bool true | 6 => .agg #[.slice MA m mc, .slice GA g gc] | 7 => .agg #[.slice NA n nc, .slice FA f fc] | 8 => .bool false | 9 => .bool false | 10 => .bool true | 11 => .bool true | 12 => .bool true | 13 => .agg #[.slice NA n nc, .slice FA f fc] | 14 => .agg #[.slice NA n nc, .slice FA f fc] | 15 => .bool false | 16 => .agg #[.slice NA n nc, .slice FA f fc] | 17 => .int .i64 la | 18 => .bool false | 19 => .bool true | 20 => .bool true | 21 => .bool true | _ => undef) id (fun W => Below X.heap.size X W) (acAll_of (by kernel_rfl)) (onAll_of (by kernel_rfl)) (dstAll_of (by kernel_rfl)) ?hop ?hend _ _ _ _ rfl (of_decide_eq_true (by kernel_rfl)) (tabd_start (fun i => rep_false _ i)) (Lib.hid B4.out.drew).out
        case hop =>
          intro j oi a w0 listed hoi hdeps ht hI
          have hj : j < 22 := (Array.getElem?_eq_some_iff.1 hoi).1
          have cj : j = 0 ∨ j = 1 ∨ j = 2 ∨ j = 3 ∨ j = 4 ∨ j = 5 ∨ j = 6 ∨ j = 7 ∨ j = 8 ∨ j = 9 ∨ j = 10 ∨ j = 11 ∨ j = 12 ∨ j = 13 ∨ j = 14 ∨ j = 15 ∨ j = 16 ∨ j = 17 ∨ j = 18 ∨ j = 19 ∨ j = 20 ∨ j = 21 := by omega
          obtain rfl | rfl | rfl | rfl | rfl | rfl | rfl | rfl | rfl | rfl | rfl | rfl | rfl | rfl | rfl | rfl | rfl | rfl | rfl | rfl | rfl | rfl := cj
          all_goals obtain rfl := Option.some.inj hoi
          · have e2 : a.eval (.tmp 2) = .pointer (some ⟨w.heap.size, 0, none⟩) := (tabd_old ht (t := 2) (of_decide_eq_true (by kernel_rfl)) (by kernel_rfl)).trans rfl
            exact .inl ⟨rfl, fun K hk => wp_val (v := .agg #[.slice NA n nc, .slice FA f fc]) (have h := (after _ hI).out; load_op 25 (.tmp 2) rfl (w.heap.size) 0 e2 [.slice NA n nc, .slice FA f fc] _ (range2 h.1 h.2.1) Try.underlying25 rfl (by kernel_rfl)) (hk _ hI)⟩
          · have e3 : a.eval (.tmp 3) = .pointer (some ⟨w.heap.size + 1, 0, none⟩) := (tabd_old ht (t := 3) (of_decide_eq_true (by kernel_rfl)) (by kernel_rfl)).trans rfl
            exact .inl ⟨rfl, fun K hk => wp_val (v := .agg #[.slice MA m mc, .slice GA g gc]) (have h := (after _ hI).out; load_op 25 (.tmp 3) rfl (w.heap.size + 1) 0 e3 [.slice MA m mc, .slice GA g gc] _ (range2 h.2.2.1 h.2.2.2) Try.underlying25 rfl (by kernel_rfl)) (hk _ hI)⟩
          · have d0 := hdeps ⟨0, .data⟩ (by simp) rfl
            have d1 := hdeps ⟨1, .data⟩ (by simp) rfl
            have e36 : a.eval (.tmp 36) = .agg #[.slice NA n nc, .slice FA f fc] := tabd_at ht (t := 36) (of_decide_eq_true (by kernel_rfl)) (by kernel_rfl) d0
            have e37 : a.eval (.tmp 37) = .agg #[.slice MA m mc, .slice GA g gc] := tabd_at ht (t := 37) (of_decide_eq_true (by kernel_rfl)) (by kernel_rfl) d1
            have ef25 : a.eval (.func 20) = .func (.func 20) #[] #[] := rfl
            exact .inl ⟨rfl, fun K hk => wp_callI (v := .bool false) (by generalize a.eval = ρ at *; unfold execOp; simp only [e36, e37, ef25, hab]; go_simp) ((KS1 _ (up _ hI) SS1.out).out.mono (fun _ _ h => ⟨h.1, hI.trans (h.2.mono hI.size)⟩)) hk⟩
          · have e8 : a.eval (.tmp 8) = .bool false := (tabd_old ht (t := 8) (of_decide_eq_true (by kernel_rfl)) (by kernel_rfl)).trans rfl
            exact .inl ⟨rfl, fun K hk => wp_val (v := .bool false) (by generalize a.eval = ρ at *; unfold execOp; simp only [e8, hab]; go_simp) (hk _ hI)⟩
          · have d2 := hdeps ⟨2, .data⟩ (by simp) rfl
            have d3 := hdeps ⟨3, .data⟩ (by simp) rfl
            have e38 : a.eval (.tmp 38) = .bool false := tabd_at ht (t := 38) (of_decide_eq_true (by kernel_rfl)) (by kernel_rfl) d2
            have e39 : a.eval (.tmp 39) = .bool false := tabd_at ht (t := 39) (of_decide_eq_true (by kernel_rfl)) (by kernel_rfl) d3
            exact .inl ⟨rfl, fun K hk => wp_val (v := .bool true) (by generalize a.eval = ρ at *; unfold execOp; simp only [e38, e39, hab]; go_simp) (hk _ hI)⟩
          · have d4 := hdeps ⟨4, .data⟩ (by simp) rfl
            have d2 := hdeps ⟨2, .chain⟩ (by simp) rfl
            have e40 : a.eval (.tmp 40) = .bool true := tabd_at ht (t := 40) (of_decide_eq_true (by kernel_rfl)) (by kernel_rfl) d4
            exact .inl ⟨rfl, fun K hk => wp_val (v := .bool true) (by generalize a.eval = ρ at *; unfold execOp; simp only [e40, hab]; go_simp) (hk _ hI)⟩
          · have d5 := hdeps ⟨5, .guard⟩ (by simp) rfl
            have e3 : a.eval (.tmp 3) = .pointer (some ⟨w.heap.size + 1, 0, none⟩) := (tabd_old ht (t := 3) (of_decide_eq_true (by kernel_rfl)) (by kernel_rfl)).trans rfl
            exact .inl ⟨(tabd_wanted ht rfl rfl (of_decide_eq_true (by kernel_rfl)) (by kernel_rfl) d5 rfl), fun K hk => wp_val (v := .agg #[.slice MA m mc, .slice GA g gc]) (have h := (after _ hI).out; load_op 25 (.tmp 3) rfl (w.heap.size + 1) 0 e3 [.slice MA m mc, .slice GA g gc] _ (range2 h.2.2.1 h.2.2.2) Try.underlying25 rfl (by kernel_rfl)) (hk _ hI)⟩
          · have d5 := hdeps ⟨5, .guard⟩ (by simp) rfl
            have e2 : a.eval (.tmp 2) = .pointer (some ⟨w.heap.size, 0, none⟩) := (tabd_old ht (t := 2) (of_decide_eq_true (by kernel_rfl)) (by kernel_rfl)).trans rfl
            exact .inl ⟨(tabd_wanted ht rfl rfl (of_decide_eq_true (by kernel_rfl)) (by kernel_rfl) d5 rfl), fun K hk => wp_val (v := .agg #[.slice NA n nc, .slice FA f fc]) (have h := (after _ hI).out; load_op 25 (.tmp 2) rfl (w.heap.size) 0 e2 [.slice NA n nc, .slice FA f fc] _ (range2 h.1 h.2.1) Try.underlying25 rfl (by kernel_rfl)) (hk _ hI)⟩
          · have d6 := hdeps ⟨6, .data⟩ (by simp) rfl
            have d7 := hdeps ⟨7, .data⟩ (by simp) rfl
            have d5 := hdeps ⟨5, .chain⟩ (by simp) rfl
            have e42 : a.eval (.tmp 42) = .agg #[.slice MA m mc, .slice GA g gc] := tabd_at ht (t := 42) (of_decide_eq_true (by kernel_rfl)) (by kernel_rfl) d6
            have e43 : a.eval (.tmp 43) = .agg #[.slice NA n nc, .slice FA f fc] := tabd_at ht (t := 43) (of_decide_eq_true (by kernel_rfl)) (by kernel_rfl) d7
            have ef25 : a.eval (.func 20) = .func (.func 20) #[] #[] := rfl
            exact .inl ⟨(tabd_wanted ht rfl rfl (of_decide_eq_true (by kernel_rfl)) (by kernel_rfl) d5 rfl), fun K hk => wp_callI (v := .bool false) (by generalize a.eval = ρ at *; unfold execOp; simp only [e42, e43, ef25, hab]; go_simp) ((KS2 _ (up _ hI) SS2.out).out.mono (fun _ _ h => ⟨h.1, hI.trans (h.2.mono hI.size)⟩)) hk⟩
          · have d5 := hdeps ⟨5, .guard⟩ (by simp) rfl
            have e8 : a.eval (.tmp 8) = .bool false := (tabd_old ht (t := 8) (of_decide_eq_true (by kernel_rfl)) (by kernel_rfl)).trans rfl
            exact .inl ⟨(tabd_wanted ht rfl rfl (of_decide_eq_true (by kernel_rfl)) (by kernel_rfl) d5 rfl), fun K hk => wp_val (v := .bool false) (by generalize a.eval = ρ at *; unfold execOp; simp only [e8, hab]; go_simp) (hk _ hI)⟩
          · have d8 := hdeps ⟨8, .data⟩ (by simp) rfl
            have d9 := hdeps ⟨9, .data⟩ (by simp) rfl
            have d5 := hdeps ⟨5, .guard⟩ (by simp) rfl
            have e44 : a.eval (.tmp 44) = .bool false := tabd_at ht (t := 44) (of_decide_eq_true (by kernel_rfl)) (by kernel_rfl) d8
            have e45 : a.eval (.tmp 45) = .bool false := tabd_at ht (t := 45) (of_decide_eq_true (by kernel_rfl)) (by kernel_rfl) d9
            exact .inl ⟨(tabd_wanted ht rfl rfl (of_decide_eq_true (by kernel_rfl)) (by kernel_rfl) d5 rfl), fun K hk => wp_val (v := .bool true) (by generalize a.eval = ρ at *; unfold execOp; simp only [e44, e45, hab]; go_simp) (hk _ hI)⟩
          · have d5 := hdeps ⟨5, .data⟩ (by simp) rfl
            have d10 := hdeps ⟨10, .data⟩ (by simp) rfl
            have e41 : a.eval (.tmp 41) = .bool true := tabd_at ht (t := 41) (of_decide_eq_true (by kernel_rfl)) (by kernel_rfl) d5
            have e46 : a.eval (.tmp 46) = .bool true := tabd_at ht (t := 46) (of_decide_eq_true (by kernel_rfl)) (by kernel_rfl) d10
            have ec2 : a.eval (.const (Value.bool false)) = (Value.bool false) := rfl
            exact .inl ⟨rfl, fun K hk => wp_val (v := .bool true) (by generalize a.eval = ρ at *; unfold execOp; simp only [e41, e46, ec2, hab]; go_simp) (hk _ hI)⟩
          · have d11 := hdeps ⟨11, .data⟩ (by simp) rfl
            have d8 := hdeps ⟨8, .chain⟩ (by simp) rfl
            have e47 : a.eval (.tmp 47) = .bool true := tabd_at ht (t := 47) (of_decide_eq_true (by kernel_rfl)) (by kernel_rfl) d11
            exact .inl ⟨rfl, fun K hk => wp_val (v := .bool true) (by generalize a.eval = ρ at *; unfold execOp; simp only [e47, hab]; go_simp) (hk _ hI)⟩
          · have d12 := hdeps ⟨12, .guard⟩ (by simp) rfl
            have e2 : a.eval (.tmp 2) = .pointer (some ⟨w.heap.size, 0, none⟩) := (tabd_old ht (t := 2) (of_decide_eq_true (by kernel_rfl)) (by kernel_rfl)).trans rfl
            exact .inl ⟨(tabd_wanted ht rfl rfl (of_decide_eq_true (by kernel_rfl)) (by kernel_rfl) d12 rfl), fun K hk => wp_val (v := .agg #[.slice NA n nc, .slice FA f fc]) (have h := (after _ hI).out; load_op 25 (.tmp 2) rfl (w.heap.size) 0 e2 [.slice NA n nc, .slice FA f fc] _ (range2 h.1 h.2.1) Try.underlying25 rfl (by kernel_rfl)) (hk _ hI)⟩
          · have d12 := hdeps ⟨12, .guard⟩ (by simp) rfl
            have e2 : a.eval (.tmp 2) = .pointer (some ⟨w.heap.size, 0, none⟩) := (tabd_old ht (t := 2) (of_decide_eq_true (by kernel_rfl)) (by kernel_rfl)).trans rfl
            exact .inl ⟨(tabd_wanted ht rfl rfl (of_decide_eq_true (by kernel_rfl)) (by kernel_rfl) d12 rfl), fun K hk => wp_val (v := .agg #[.slice NA n nc, .slice FA f fc]) (have h := (after _ hI).out; load_op 25 (.tmp 2) rfl (w.heap.size) 0 e2 [.slice NA n nc, .slice FA f fc] _ (range2 h.1 h.2.1) Try.underlying25 rfl (by kernel_rfl)) (hk _ hI)⟩
          · have d13 := hdeps ⟨13, .data⟩ (by simp) rfl
            have d14 := hdeps ⟨14, .data⟩ (by simp) rfl
            have d12 := hdeps ⟨12, .chain⟩ (by simp) rfl
            have e49 : a.eval (.tmp 49) = .agg #[.slice NA n nc, .slice FA f fc] := tabd_at ht (t := 49) (of_decide_eq_true (by kernel_rfl)) (by kernel_rfl) d13
            have e50 : a.eval (.tmp 50) = .agg #[.slice NA n nc, .slice FA f fc] := tabd_at ht (t := 50) (of_decide_eq_true (by kernel_rfl)) (by kernel_rfl) d14
            have ef25 : a.eval (.func 20) = .func (.func 20) #[] #[] := rfl
            exact .inl ⟨(tabd_wanted ht rfl rfl (of_decide_eq_true (by kernel_rfl)) (by kernel_rfl) d12 rfl), fun K hk => wp_callI (v := .bool false) (by generalize a.eval = ρ at *; unfold execOp; simp only [e49, e50, ef25, hab]; go_simp) ((KS3 _ (up _ hI) SS1.out).out.mono (fun _ _ h => ⟨h.1, hI.trans (h.2.mono hI.size)⟩)) hk⟩
          · have d12 := hdeps ⟨12, .guard⟩ (by simp) rfl
            have e2 : a.eval (.tmp 2) = .pointer (some ⟨w.heap.size, 0, none⟩) := (tabd_old ht (t := 2) (of_decide_eq_true (by kernel_rfl)) (by kernel_rfl)).trans rfl
            exact .inl ⟨(tabd_wanted ht rfl rfl (of_decide_eq_true (by kernel_rfl)) (by kernel_rfl) d12 rfl), fun K hk => wp_val (v := .agg #[.slice NA n nc, .slice FA f fc]) (have h := (after _ hI).out; load_op 25 (.tmp 2) rfl (w.heap.size) 0 e2 [.slice NA n nc, .slice FA f fc] _ (range2 h.1 h.2.1) Try.underlying25 rfl (by kernel_rfl)) (hk _ hI)⟩
          · have d16 := hdeps ⟨16, .data⟩ (by simp) rfl
            have d15 := hdeps ⟨15, .chain⟩ (by simp) rfl
            have d12 := hdeps ⟨12, .guard⟩ (by simp) rfl
            have e52 : a.eval (.tmp 52) = .agg #[.slice NA n nc, .slice FA f fc] := tabd_at ht (t := 52) (of_decide_eq_true (by kernel_rfl)) (by kernel_rfl) d16
            have ef18 : a.eval (.func 13) = .func (.func 13) #[] #[] := rfl
            exact .inl ⟨(tabd_wanted ht rfl rfl (of_decide_eq_true (by kernel_rfl)) (by kernel_rfl) d12 rfl), fun K hk => wp_callI (v := .int .i64 la) (by generalize a.eval = ρ at *; unfold execOp; simp only [e52, ef18, hab]; go_simp) ((KL1 _ (up _ hI) SS1.out).out.mono (fun _ _ h => ⟨h.1, hI.trans (h.2.mono hI.size)⟩)) hk⟩
          · have d17 := hdeps ⟨17, .data⟩ (by simp) rfl
            have d12 := hdeps ⟨12, .guard⟩ (by simp) rfl
            have e53 : a.eval (.tmp 53) = .int .i64 la := tabd_at ht (t := 53) (of_decide_eq_true (by kernel_rfl)) (by kernel_rfl) d17
            have ec1 : a.eval (.const (Value.int IntKind.i64 0)) = (Value.int IntKind.i64 0) := rfl
            exact .inl ⟨(tabd_wanted ht rfl rfl (of_decide_eq_true (by kernel_rfl)) (by kernel_rfl) d12 rfl), fun K hk => wp_val (v := .bool false) (by generalize a.eval = ρ at *; unfold execOp; simp only [e53, ec1, hab]; go_simp) (hk _ hI)⟩
          · have d15 := hdeps ⟨15, .data⟩ (by simp) rfl
            have d18 := hdeps ⟨18, .data⟩ (by simp) rfl
            have d12 := hdeps ⟨12, .guard⟩ (by simp) rfl
            have e51 : a.eval (.tmp 51) = .bool false := tabd_at ht (t := 51) (of_decide_eq_true (by kernel_rfl)) (by kernel_rfl) d15
            have e54 : a.eval (.tmp 54) = .bool false := tabd_at ht (t := 54) (of_decide_eq_true (by kernel_rfl)) (by kernel_rfl) d18
            exact .inl ⟨(tabd_wanted ht rfl rfl (of_decide_eq_true (by kernel_rfl)) (by kernel_rfl) d12 rfl), fun K hk => wp_val (v := .bool true) (by generalize a.eval = ρ at *; unfold execOp; simp only [e51, e54, hab]; go_simp) (hk _ hI)⟩
          · have d12 := hdeps ⟨12, .data⟩ (by simp) rfl
            have d19 := hdeps ⟨19, .data⟩ (by simp) rfl
            have e48 : a.eval (.tmp 48) = .bool true := tabd_at ht (t := 48) (of_decide_eq_true (by kernel_rfl)) (by kernel_rfl) d12
            have e55 : a.eval (.tmp 55) = .bool true := tabd_at ht (t := 55) (of_decide_eq_true (by kernel_rfl)) (by kernel_rfl) d19
            have ec2 : a.eval (.const (Value.bool false)) = (Value.bool false) := rfl
            exact .inl ⟨rfl, fun K hk => wp_val (v := .bool true) (by generalize a.eval = ρ at *; unfold execOp; simp only [e48, e55, ec2, hab]; go_simp) (hk _ hI)⟩
          · have d20 := hdeps ⟨20, .data⟩ (by simp) rfl
            have d17 := hdeps ⟨17, .chain⟩ (by simp) rfl
            have e56 : a.eval (.tmp 56) = .bool true := tabd_at ht (t := 56) (of_decide_eq_true (by kernel_rfl)) (by kernel_rfl) d20
            exact .inl ⟨rfl, fun K hk => wp_val (v := .bool true) (by generalize a.eval = ρ at *; unfold execOp; simp only [e56, hab]; go_simp) (hk _ hI)⟩
        case hend =>
          intro a w0 listed hall ht hI
          rw [tabd_fill ht (fun t i ho => hall i (ownAll_lt ho))]
          change Exit.then _ _ Exit.normal { tmps := #[.agg #[.slice NA n nc, .slice FA f fc], .agg #[.slice MA m mc, .slice GA g gc], .pointer (some ⟨w.heap.size, 0, none⟩), .pointer (some ⟨w.heap.size + 1, 0, none⟩), .bool true, .bool true, .bool false, .bool false, .bool false, .bool true, .agg #[.slice NA n nc, .slice FA f fc], .bool false, .agg #[.slice MA m mc, .slice GA g gc], .bool false, .bool true, .bool false, .bool false, .bool false, .bool false, .bool false, .bool false, .bool false, undef, .agg #[.slice NA n nc, .slice FA f fc], .int .i64 la, .bool false, .bool false, undef, undef, undef, .bool false, .bool false, undef, undef, undef, .bool false, .agg #[.slice NA n nc, .slice FA f fc], .agg #[.slice MA m mc, .slice GA g gc], .bool false, .bool false, .bool true, .bool true, .agg #[.slice MA m mc, .slice GA g gc], .agg #[.slice NA n nc, .slice FA f fc], .bool false, .bool false, .bool true, .bool true, .bool true, .agg #[.slice NA n nc, .slice FA f fc], .agg #[.slice NA n nc, .slice FA f fc], .bool false, .agg #[.slice NA n nc, .slice FA f fc], .int .i64 la, .bool false, .bool true, .bool true], defers := [] } w0
          clear hall ht
          go_wp2
          go_ret
          exact ⟨rfl, up _ hI⟩
end Go.Proofs.Ytdnagkgblmcojaa
