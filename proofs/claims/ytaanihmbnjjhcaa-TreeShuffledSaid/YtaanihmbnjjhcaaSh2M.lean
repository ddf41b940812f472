/-
What is proved here: the law TreeShuffled, by a contract.
-/
import Derived.Test.YtaanihmbnjjhcaaSh1M
import Derived.Test.YtaanihmbnjjhcaaStcM
import Derived.Test.YtaanihmbnjjhcaaEfsM
import Derived.StillTailTactics
set_option linter.unusedSimpArgs false
set_option linter.unusedVariables false
namespace Go.Proofs.Ytaanihmbnjjhcaa
open Go.Pth Go.Tre Go.RowKit Go.Word Go.Shelf
attribute [local go_sem] guard_eq guard_ne st_eql st_neq

theorem range2s {w : World} {b : Nat} {u v : Value} (d1 : w.cell? ⟨b, 0, none⟩ = some u) (d2 : w.cell? ⟨b, 1, none⟩ = some v) : w.rangeAt b 0 [u, v] := fun j x hj => by
  match j, hj with
  | 0, hj => injection hj with hj; subst hj; exact d1
  | 1, hj => injection hj with hj; subst hj; exact d2
set_option maxRecDepth 100000 in
set_option maxHeartbeats 16000000 in
theorem shuffled_law (NA FA MA GA : Option Addr) (nc fc mc gc : Nat) (ns os : List Nd) (fs gs : List Fl) (by_ : Int) (w : World) (hN : NodesAt w NA ns) (hF : FilesAt w FA fs) (hM : NodesAt w MA os) (hG : FilesAt w GA gs)
    (h1 : ns.length ≤ 140737488355328) (h2 : fs.length ≤ 140737488355328) (h3 : ∀ x ∈ ns, x.path.length ≤ 140737488355328) (h4 : ∀ x ∈ fs, x.data.length ≤ 140737488355328)
    (k1 : os.length ≤ 140737488355328) (k2 : gs.length ≤ 140737488355328) (k3 : ∀ x ∈ os, x.path.length ≤ 140737488355328) (k4 : ∀ x ∈ gs, x.data.length ≤ 140737488355328) :
    Calls Try.prog 4 #[.agg #[.slice NA ns.length nc, .slice FA fs.length fc], .agg #[.slice MA os.length mc, .slice GA gs.length gc], .int .i64 by_] w fun e w' => e = .returned (.bool true) ∧ Below w.heap.size w w' := by
  have L1 := lies_alloc (lies_new w 25 #[.slice NA ns.length nc, .slice FA fs.length fc]) (.cells #[.slice MA os.length mc, .slice GA gs.length gc] 25)
  have L2 := lies_new (w.alloc (.cells #[.slice NA ns.length nc, .slice FA fs.length fc] 25)) 25 #[.slice MA os.length mc, .slice GA gs.length gc]
  rw [World.size_alloc] at L2
  have hB : Below w.heap.size w ((w.alloc (.cells #[.slice NA ns.length nc, .slice FA fs.length fc] 25)).alloc (.cells #[.slice MA os.length mc, .slice GA gs.length gc] 25)) := ((Below.refl _ _).alloc (Nat.le_refl _) _).alloc (by simp) _
  have KB1 := fun (W : World) (hb : Below w.heap.size w W) => Lib.hid (big_any NA FA nc fc ns fs W (nodesAt_below hN hb) (filesAt_below hF hb) h1 h2 h3 h4)
  have KB2 := fun (W : World) (hb : Below w.heap.size w W) => Lib.hid (big_any MA GA mc gc os gs W (nodesAt_below hM hb) (filesAt_below hG hb) k1 k2 k3 k4)
  have sp : Small ns fs → ∀ x ∈ ns, x.path.length ≤ 100000 := fun hs x hx => Nat.le_trans (hs.2.2.1 x hx) (by decide)
  have so : Small os gs → ∀ x ∈ os, x.path.length ≤ 100000 := fun hs x hx => Nat.le_trans (hs.2.2.1 x hx) (by decide)
  have KL := fun (W : World) (hb : Below w.heap.size w W) (hs : Small ns fs) => Lib.hid (loose_any NA FA nc fc ns fs W (nodesAt_below hN hb) (filesAt_below hF hb) (sp hs))
  have KY := fun (W : World) (hb : Below w.heap.size w W) (hs : Small ns fs) (hz : looseE ns fs = 0) => Lib.hid (bytes_yes NA FA nc fc ns fs W (nodesAt_below hN hb) (filesAt_below hF hb) (sp hs) hz)
  have KYO := fun (W : World) (hb : Below w.heap.size w W) (hs : Small os gs) (hz : looseE os gs = 0) => Lib.hid (bytes_yes MA GA mc gc os gs W (nodesAt_below hM hb) (filesAt_below hG hb) (so hs) hz)
  have KNO := fun (W : World) (hb : Below w.heap.size w W) (hs : Small os gs) (hz : looseE os gs ≠ 0) => Lib.hid (bytes_no MA GA mc gc os gs W (nodesAt_below hM hb) (filesAt_below hG hb) (so hs) hz)
  have KSO := fun (W : World) (hb : Below w.heap.size w W) (hs : Small ns fs) => Lib.hid (same_any NA FA MA GA nc fc mc gc ns os fs gs W (nodesAt_below hN hb) (filesAt_below hF hb) (nodesAt_below hM hb) (filesAt_below hG hb) (sp hs))
  have KS := fun (W : World) (A1 A2 : Option Addr) (c1 c2 : Nat) (us : List Nd) (vs : List Fl) (hb : Below w.heap.size w W) (hU : NodesAt W A1 us) (hV : FilesAt W A2 vs) (hs : ∀ x ∈ us, x.path.length ≤ 100000) => Lib.hid (same_any A1 A2 NA FA c1 c2 nc fc us ns vs fs W hU hV (nodesAt_below hN hb) (filesAt_below hF hb) hs)
  have HN := Lib.hid (nodesAt_below hN hB)
  have HF := Lib.hid (filesAt_below hF hB)
  clear h1 h2 h3 h4 k1 k2 k3 k4 sp so
  have x0 := lies_cell L1 0
  have x1 := lies_cell L1 1
  have y0 := lies_cell L2 0
  have y1 := lies_cell L2 1
  simp only [List.getElem?_toArray, List.getElem?_cons_zero, List.getElem?_cons_succ] at x0 x1 y0 y1
  have LX := Lib.hid L1
  have LY := Lib.hid L2
  have HB := Lib.hid hB
  clear L1 L2 hB hN hF hM hG
  generalize hne : ns.length = n at *
  generalize hme : fs.length = m at *
  generalize os.length = on at *
  generalize gs.length = gn at *
  have NE := Lib.hid hne.symm
  have ME := Lib.hid hme.symm
  clear hne hme
  have after : ∀ W, Below ((w.alloc (.cells #[.slice NA n nc, .slice FA m fc] 25)).alloc (.cells #[.slice MA on mc, .slice GA gn gc] 25)).heap.size ((w.alloc (.cells #[.slice NA n nc, .slice FA m fc] 25)).alloc (.cells #[.slice MA on mc, .slice GA gn gc] 25)) W →
      Hid (W.cell? ⟨w.heap.size, 0, none⟩ = some (.slice NA n nc) ∧ W.cell? ⟨w.heap.size, 1, none⟩ = some (.slice FA m fc) ∧ W.cell? ⟨w.heap.size + 1, 0, none⟩ = some (.slice MA on mc) ∧ W.cell? ⟨w.heap.size + 1, 1, none⟩ = some (.slice GA gn gc)) := fun W hb =>
    Lib.hid ⟨(hb.cell (p := ⟨w.heap.size, 0, none⟩) (lies_lt LX.out)).trans x0, (hb.cell (p := ⟨w.heap.size, 1, none⟩) (lies_lt LX.out)).trans x1, (hb.cell (p := ⟨w.heap.size + 1, 0, none⟩) (lies_lt LY.out)).trans y0, (hb.cell (p := ⟨w.heap.size + 1, 1, none⟩) (lies_lt LY.out)).trans y1⟩
  go_enter Try.func4, Try.ntmps4
  go_upto_region 1 with (fail)
  generalize ((w.alloc (.cells #[.slice NA n nc, .slice FA m fc] 25)).alloc (.cells #[.slice MA on mc, .slice GA gn gc] 25)) = X at *
  have up : ∀ W, Below X.heap.size X W → Below w.heap.size w W := fun W hb => HB.out.trans (hb.mono HB.out.size)
  go_upto_region 4 with (first
    | (go_at_call 8; (with_reducible refine (alive_any _).mono ?_); rintro e w1 ⟨rfl, hb⟩; obtain ⟨p0, p1, p2, p3⟩ := (after _ hb).out; have B1 := Lib.hid hb; clear hb)
    | (go_at_call 9; (with_reducible refine (KB1 _ (up _ B1.out)).out.mono ?_); rintro e w2 ⟨⟨b1, rfl, hs1⟩, hb⟩; have S1 := Lib.hid hs1; have B2 := Lib.hid (B1.out.trans (hb.mono B1.out.size)); clear hb hs1; obtain ⟨q0, q1, q2, q3⟩ := (after _ B2.out).out)
    | (go_at_call 9; (with_reducible refine (KB2 _ (up _ B2.out)).out.mono ?_); rintro e w3 ⟨⟨b2, rfl, hs2⟩, hb⟩; have S2 := Lib.hid hs2; have B3 := Lib.hid (B2.out.trans (hb.mono B2.out.size)); clear hb hs2; obtain ⟨r0, r1, r2, r3⟩ := (after _ B3.out).out))
  cases b1 with
  | true =>
    go_wp2
    go_ret
    exact ⟨rfl, up _ B3.out⟩
  | false =>
    cases b2 with
    | true =>
      go_wp2
      go_ret
      exact ⟨rfl, up _ B3.out⟩
    | false =>
      have SS := Lib.hid (S1.out rfl)
      have SO := Lib.hid (S2.out rfl)
      clear S1 S2 p0 p1 p2 p3 q0 q1 q2 q3 x0 x1 y0 y1 KB1 KB2
      by_cases hm0 : by_ < 0
      · go_wp2
        go_ret
        exact ⟨rfl, up _ B3.out⟩
      by_cases hz : looseE ns fs = 0
      · have LO := Lib.hid hz
        rw [hz] at KL
        have h256 : n ≤ 256 ∧ m ≤ 256 := by have := loose_small hz; have := NE.out; have := ME.out; omega
        have hn6 := h256.1
        have hm6 := h256.2
        clear hz h256
        obtain ⟨r, rfl⟩ : ∃ r : Nat, by_ = r := ⟨by_.toNat, by omega⟩
        go_upto_region 6 with (first
          | (go_at_call 17; (with_reducible refine (KL _ (up _ B3.out) SS.out).out.mono ?_); rintro e w4 ⟨rfl, hb⟩; have B4 := Lib.hid (B3.out.trans (hb.mono B3.out.size)); clear hb; obtain ⟨s0, s1, s2, s3⟩ := (after _ B4.out).out)
          | (go_at_call 13; (with_reducible refine (num_any _ _).mono ?_); rintro e w3' ⟨rfl, rfl⟩))
        go_upto_region 7 with (fail)
        have LT := Lib.hid (lies_new w4 25 #[.slice none 0 0, .slice none 0 0])
        have B5 := Lib.hid (B4.out.alloc B4.out.size (.cells #[.slice none 0 0, .slice none 0 0] 25))
        have ZT := Lib.hid B4.out.size
        clear s0 s1 s2 s3 r0 r1 r2 r3
        generalize w4.alloc (.cells #[.slice none 0 0, .slice none 0 0] 25) = W5 at *
        generalize w4.heap.size = T at *
        obtain ⟨q0, q1, q2, q3⟩ := (after _ B5.out).out
        obtain ⟨r1, hr1⟩ : ∃ r1, r1 = r % (n + 1) := ⟨_, rfl⟩
        obtain ⟨us, hus⟩ : ∃ us, us = ns.map (renT (backN m)) := ⟨_, rfl⟩
        have HR1 := Lib.hid hr1
        have US := Lib.hid hus
        have UL := Lib.hid (show us.length = n by rw [hus, List.length_map, ← NE.out])
        clear hr1 hus
        go_wp2
        go_loopw [12] (fun v12 wr => ∃ i : Nat, i ≤ n ∧ v12 = .int .i64 (i : Int) ∧ (∃ A C, Lies wr T 25 #[.slice A i C, .slice none 0 0] ∧ wr.ownsRow X.heap.size 39 3 (.slice A i C) i (ncells (turnedTo us r1 i))) ∧ Below X.heap.size X wr) (fun v12 _ => n - (intOf v12).toNat)
        case atStart => exact ⟨0, Nat.zero_le _, rfl, ⟨none, 0, LT.out, World.ownsRow_nil _ _ _ _⟩, B5.out⟩
        case round =>
          obtain ⟨i, hi, rfl, ⟨A1, C1, hL, hR⟩, hB⟩ := hrel
          have HLJ := Lib.hid hL
          have HRJ := Lib.hid hR
          have HBJ := Lib.hid hB
          clear hL hR hB LT B5 q0 q1 q2 q3
          obtain ⟨q0, q1, q2, q3⟩ := (after _ HBJ.out).out
          by_cases hlt : i < n
          · have li : (i : Int) < (n : Int) := by omega
            obtain ⟨k, hk⟩ : ∃ k, k = (i + r1) % n := ⟨_, rfl⟩
            have hkn : k < n := by rw [hk]; exact Nat.mod_lt _ (by omega)
            have lk : k < ns.length := by have := NE.out; omega
            have kn : (k : Int) < (n : Int) := by omega
            have hk1 : Int.tmod (r : Int) ((n : Int) + 1) = (r1 : Int) := by
              rw [Int.tmod_eq_emod_of_nonneg (by omega), HR1.out]
              exact (Int.natCast_emod r (n + 1)).symm
            have hk2 : Int.tmod ((i : Int) + (r1 : Int)) (n : Int) = (k : Int) := by
              rw [Int.tmod_eq_emod_of_nonneg (by omega), hk]
              exact (Int.natCast_emod (i + r1) n).symm
            have r1n : r1 ≤ 256 := by have := HR1.out; have : r % (n + 1) < n + 1 := Nat.mod_lt _ (by omega); omega
            have n0 : ((n : Int) == 0) = false := by simp; omega
            have n1 : (((n : Int) + 1) == 0) = false := by simp; omega
            have n2 : ¬ (n : Int) = 0 := by omega
            have n4 : ¬ n = 0 := by omega
            have hw1 : IntKind.i64.wrap ((n : Int) + 1) = (n : Int) + 1 := by rw [wrap_i64]; omega
            have hw2 : IntKind.i64.wrap ((i : Int) + (r1 : Int)) = (i : Int) + (r1 : Int) := by rw [wrap_i64]; omega
            have n3 : ¬ ((n : Int) + 1) = 0 := by omega
            have HK := Lib.hid hk
            clear hk
            obtain ⟨b, o, eA, hl, d1, d2, d3⟩ := HN.out k lk
            subst eA
            have UK := Lib.hid (back_get ns m k lk)
            have FX := Lib.hid (loose_files LO.out ns[k] (List.getElem_mem lk))
            have HBL := Lib.hid hl
            generalize ns[k] = x at *
            obtain ⟨p, f, md⟩ := x
            have d1 : X.cell? ⟨b, o + k * 3, none⟩ = some (St p) := d1
            have d2 : X.cell? ⟨b, o + k * 3 + 1, none⟩ = some (.int .i64 f) := d2
            have d3 : X.cell? ⟨b, o + k * 3 + 2, none⟩ = some (.int .i64 md) := d3
            have FX : Hid (f = -1 ∨ 0 ≤ f ∧ f < fs.length) := FX
            have D1 := Lib.hid (And.intro d1 (And.intro d2 d3))
            clear d1 d2 d3 hl
            go_upto_region 11 with (fail)
            have KF : ∀ (k' : Nat) (u : Value) (W W' : World), W.grownBy W' none → ((fun (j_ : Nat) (v : Value) (W : World) => match j_ with | 0 => v = .pointer (some ⟨w.heap.size, 0, none⟩) | 1 => v = .slice (some ⟨b, o, none⟩) n nc | 2 => v = .int .i64 (i : Int) | 3 => v = .int .i64 (r : Int) | 4 => v = .int .i64 (n : Int) | 5 => v = .int .i64 ((n : Int) + 1) | 6 => v = .int .i64 (r1 : Int) | 7 => v = .int .i64 ((i : Int) + (r1 : Int)) | 8 => v = .int .i64 (n : Int) | 9 => v = .int .i64 (k : Int) | 10 => v = .pointer (some ⟨b, o + k * 3, none⟩) | 11 => v = .agg #[St p, .int .i64 f, .int .i64 md] | 12 => (∃ T5, v = .pointer (some ⟨T5, 0, none⟩) ∧ Lies W T5 39 #[.string { data := #[] }, .int .i64 0, .int .i64 0] ∧ wr.heap.size ≤ T5) | _ => True) : Nat → Value → World → Prop) k' u W → ((fun (j_ : Nat) (v : Value) (W : World) => match j_ with | 0 => v = .pointer (some ⟨w.heap.size, 0, none⟩) | 1 => v = .slice (some ⟨b, o, none⟩) n nc | 2 => v = .int .i64 (i : Int) | 3 => v = .int .i64 (r : Int) | 4 => v = .int .i64 (n : Int) | 5 => v = .int .i64 ((n : Int) + 1) | 6 => v = .int .i64 (r1 : Int) | 7 => v = .int .i64 ((i : Int) + (r1 : Int)) | 8 => v = .int .i64 (n : Int) | 9 => v = .int .i64 (k : Int) | 10 => v = .pointer (some ⟨b, o + k * 3, none⟩) | 11 => v = .agg #[St p, .int .i64 f, .int .i64 md] | 12 => (∃ T5, v = .pointer (some ⟨T5, 0, none⟩) ∧ Lies W T5 39 #[.string { data := #[] }, .int .i64 0, .int .i64 0] ∧ wr.heap.size ≤ T5) | _ => True) : Nat → Value → World → Prop) k' u W' := fun k' u W W' hg h => by
              match k', h with
              | 0, h => exact h
              | 1, h => exact h
              | 2, h => exact h
              | 3, h => exact h
              | 4, h => exact h
              | 5, h => exact h
              | 6, h => exact h
              | 7, h => exact h
              | 8, h => exact h
              | 9, h => exact h
              | 10, h => exact h
              | 11, h => exact h
              | 12, ⟨T5, e, h1, h2⟩ => exact ⟨T5, e, (hg.block T5 (lies_lt h1) (by simp)).trans h1, h2⟩
              | _ + 13, _ => exact trivial
            refine wp_region_any (by kernel_rfl) ?_
            refine every_facts (own := ownAll _) id 13 ((fun (j_ : Nat) (v : Value) (W : World) => match j_ with | 0 => v = .pointer (some ⟨w.heap.size, 0, none⟩) | 1 => v = .slice (some ⟨b, o, none⟩) n nc | 2 => v = .int .i64 (i : Int) | 3 => v = .int .i64 (r : Int) | 4 => v = .int .i64 (n : Int) | 5 => v = .int .i64 ((n : Int) + 1) | 6 => v = .int .i64 (r1 : Int) | 7 => v = .int .i64 ((i : Int) + (r1 : Int)) | 8 => v = .int .i64 (n : Int) | 9 => v = .int .i64 (k : Int) | 10 => v = .pointer (some ⟨b, o + k * 3, none⟩) | 11 => v = .agg #[St p, .int .i64 f, .int .i64 md] | 12 => (∃ T5, v = .pointer (some ⟨T5, 0, none⟩) ∧ Lies W T5 39 #[.string { data := #[] }, .int .i64 0, .int .i64 0] ∧ wr.heap.size ≤ T5) | _ => True) : Nat → Value → World → Prop) (fun W => Below wr.heap.size wr W) (acAll_of (by kernel_rfl)) (onAll_of (by kernel_rfl)) (dstAll_of (by kernel_rfl)) ?hop ?hall ?hl ?hend _ _ _ _ (fun _ => undef) rfl (shut_none _) (fun _ => rep_false _ _) (of_decide_eq_true (by kernel_rfl)) (tabd_start (fun i => rep_false _ i)) (fun k hk => by rw [rep_false] at hk; cases hk) (Below.refl _ wr).drew
            case hop =>
              intro j oi a w0 listed vals hoi hjl hdeps ht hF hI
              have hj : j < 14 := (Array.getElem?_eq_some_iff.1 hoi).1
              have cj : j = 0 ∨ j = 1 ∨ j = 2 ∨ j = 3 ∨ j = 4 ∨ j = 5 ∨ j = 6 ∨ j = 7 ∨ j = 8 ∨ j = 9 ∨ j = 10 ∨ j = 11 ∨ j = 12 := by omega
              obtain rfl | rfl | rfl | rfl | rfl | rfl | rfl | rfl | rfl | rfl | rfl | rfl | rfl := cj
              all_goals obtain rfl := Option.some.inj hoi
              · have e3 : a.eval (.tmp 3) = .pointer (some ⟨w.heap.size, 0, none⟩) := (tabd_old ht (t := 3) (of_decide_eq_true (by kernel_rfl)) (by kernel_rfl)).trans rfl
                exact .inl ⟨rfl, fun K hk => wp_val (v := .pointer (some ⟨w.heap.size, 0, none⟩)) (by clear hk hI hoi hdeps ht hF; generalize a.eval = ρ at *; unfold execOp; simp only [e3]; go_simp) (hk _ _ rfl (fun _ _ _ h => h) hI)⟩
              · have d0 := hdeps ⟨0, .data⟩ (by simp) rfl
                have e53 : a.eval (.tmp 53) = .pointer (some ⟨w.heap.size, 0, none⟩) := (tabd_at ht (t := 53) (of_decide_eq_true (by kernel_rfl)) (by kernel_rfl) d0).trans (hF 0 d0)
                exact .inl ⟨rfl, fun K hk => wp_val (v := .slice (some ⟨b, o, none⟩) n nc) (by have hc := (after _ (HBJ.out.trans (hI.mono HBJ.out.size))).out.1; clear hk hI hoi hdeps ht hF; generalize a.eval = ρ at *; unfold execOp; simp only [e53]; go_simp) (hk _ _ rfl (fun _ _ _ h => h) hI)⟩
              · have e12 : a.eval (.tmp 12) = .int .i64 (i : Int) := (tabd_old ht (t := 12) (of_decide_eq_true (by kernel_rfl)) (by kernel_rfl)).trans rfl
                exact .inl ⟨rfl, fun K hk => wp_val (v := .int .i64 (i : Int)) (by clear hk hI hoi hdeps ht hF; generalize a.eval = ρ at *; unfold execOp; simp only [e12]; go_simp) (hk _ _ rfl (fun _ _ _ h => h) hI)⟩
              · have e2 : a.eval (.tmp 2) = .int .i64 (r : Int) := (tabd_old ht (t := 2) (of_decide_eq_true (by kernel_rfl)) (by kernel_rfl)).trans rfl
                exact .inl ⟨rfl, fun K hk => wp_val (v := .int .i64 (r : Int)) (by clear hk hI hoi hdeps ht hF; generalize a.eval = ρ at *; unfold execOp; simp only [e2]; go_simp) (hk _ _ rfl (fun _ _ _ h => h) hI)⟩
              · have e11 : a.eval (.tmp 11) = .int .i64 (n : Int) := (tabd_old ht (t := 11) (of_decide_eq_true (by kernel_rfl)) (by kernel_rfl)).trans rfl
                exact .inl ⟨rfl, fun K hk => wp_val (v := .int .i64 (n : Int)) (by clear hk hI hoi hdeps ht hF; generalize a.eval = ρ at *; unfold execOp; simp only [e11]; go_simp) (hk _ _ rfl (fun _ _ _ h => h) hI)⟩
              · have d4 := hdeps ⟨4, .data⟩ (by simp) rfl
                have e57 : a.eval (.tmp 57) = .int .i64 (n : Int) := (tabd_at ht (t := 57) (of_decide_eq_true (by kernel_rfl)) (by kernel_rfl) d4).trans (hF 4 d4)
                have ec1 : a.eval (.const (Value.int IntKind.i64 1)) = (Value.int IntKind.i64 1) := rfl
                exact .inl ⟨rfl, fun K hk => wp_val (v := .int .i64 ((n : Int) + 1)) (by clear hk hI hoi hdeps ht hF; generalize a.eval = ρ at *; unfold execOp; simp only [e57, ec1]; go_simp) (hk _ _ rfl (fun _ _ _ h => h) hI)⟩
              · have d3 := hdeps ⟨3, .data⟩ (by simp) rfl
                have d5 := hdeps ⟨5, .data⟩ (by simp) rfl
                have e56 : a.eval (.tmp 56) = .int .i64 (r : Int) := (tabd_at ht (t := 56) (of_decide_eq_true (by kernel_rfl)) (by kernel_rfl) d3).trans (hF 3 d3)
                have e58 : a.eval (.tmp 58) = .int .i64 ((n : Int) + 1) := (tabd_at ht (t := 58) (of_decide_eq_true (by kernel_rfl)) (by kernel_rfl) d5).trans (hF 5 d5)
                exact .inl ⟨rfl, fun K hk => wp_val (v := .int .i64 (r1 : Int)) (by clear hk hI hoi hdeps ht hF; generalize a.eval = ρ at *; unfold execOp; simp only [e56, e58]; go_simp) (hk _ _ rfl (fun _ _ _ h => h) hI)⟩
              · have d2 := hdeps ⟨2, .data⟩ (by simp) rfl
                have d6 := hdeps ⟨6, .data⟩ (by simp) rfl
                have e55 : a.eval (.tmp 55) = .int .i64 (i : Int) := (tabd_at ht (t := 55) (of_decide_eq_true (by kernel_rfl)) (by kernel_rfl) d2).trans (hF 2 d2)
                have e59 : a.eval (.tmp 59) = .int .i64 (r1 : Int) := (tabd_at ht (t := 59) (of_decide_eq_true (by kernel_rfl)) (by kernel_rfl) d6).trans (hF 6 d6)
                exact .inl ⟨rfl, fun K hk => wp_val (v := .int .i64 ((i : Int) + (r1 : Int))) (by clear hk hI hoi hdeps ht hF; generalize a.eval = ρ at *; unfold execOp; simp only [e55, e59]; go_simp) (hk _ _ rfl (fun _ _ _ h => h) hI)⟩
              · have e11 : a.eval (.tmp 11) = .int .i64 (n : Int) := (tabd_old ht (t := 11) (of_decide_eq_true (by kernel_rfl)) (by kernel_rfl)).trans rfl
                exact .inl ⟨rfl, fun K hk => wp_val (v := .int .i64 (n : Int)) (by clear hk hI hoi hdeps ht hF; generalize a.eval = ρ at *; unfold execOp; simp only [e11]; go_simp) (hk _ _ rfl (fun _ _ _ h => h) hI)⟩
              · have d7 := hdeps ⟨7, .data⟩ (by simp) rfl
                have d8 := hdeps ⟨8, .data⟩ (by simp) rfl
                have e60 : a.eval (.tmp 60) = .int .i64 ((i : Int) + (r1 : Int)) := (tabd_at ht (t := 60) (of_decide_eq_true (by kernel_rfl)) (by kernel_rfl) d7).trans (hF 7 d7)
                have e61 : a.eval (.tmp 61) = .int .i64 (n : Int) := (tabd_at ht (t := 61) (of_decide_eq_true (by kernel_rfl)) (by kernel_rfl) d8).trans (hF 8 d8)
                exact .inl ⟨rfl, fun K hk => wp_val (v := .int .i64 (k : Int)) (by clear hk hI hoi hdeps ht hF; generalize a.eval = ρ at *; unfold execOp; simp only [e60, e61]; go_simp) (hk _ _ rfl (fun _ _ _ h => h) hI)⟩
              · have d1 := hdeps ⟨1, .data⟩ (by simp) rfl
                have d9 := hdeps ⟨9, .data⟩ (by simp) rfl
                have e54 : a.eval (.tmp 54) = .slice (some ⟨b, o, none⟩) n nc := (tabd_at ht (t := 54) (of_decide_eq_true (by kernel_rfl)) (by kernel_rfl) d1).trans (hF 1 d1)
                have e62 : a.eval (.tmp 62) = .int .i64 (k : Int) := (tabd_at ht (t := 62) (of_decide_eq_true (by kernel_rfl)) (by kernel_rfl) d9).trans (hF 9 d9)
                exact .inl ⟨rfl, fun K hk => wp_val (v := .pointer (some ⟨b, o + k * 3, none⟩)) (by clear hk hI hoi hdeps ht hF; generalize a.eval = ρ at *; unfold execOp; simp only [e54, e62]; go_simp) (hk _ _ rfl (fun _ _ _ h => h) hI)⟩
              · have d10 := hdeps ⟨10, .data⟩ (by simp) rfl
                have e63 : a.eval (.tmp 63) = .pointer (some ⟨b, o + k * 3, none⟩) := (tabd_at ht (t := 63) (of_decide_eq_true (by kernel_rfl)) (by kernel_rfl) d10).trans (hF 10 d10)
                exact .inl ⟨rfl, fun K hk => wp_val (v := .agg #[St p, .int .i64 f, .int .i64 md]) (load_op 39 _ rfl b (o + k * 3) e63 [St p, .int .i64 f, .int .i64 md] _ (by have hx := HBJ.out.trans (hI.mono HBJ.out.size); exact node_range ((hx.cell (p := ⟨b, o + k * 3, none⟩) HBL.out).trans D1.out.1) ((hx.cell (p := ⟨b, o + k * 3 + 1, none⟩) HBL.out).trans D1.out.2.1) ((hx.cell (p := ⟨b, o + k * 3 + 2, none⟩) HBL.out).trans D1.out.2.2)) Try.underlying39 rfl (by kernel_rfl)) (hk _ _ rfl (fun _ _ _ h => h) hI)⟩
              · refine .inl ⟨rfl, fun K hk => ?_⟩
                refine wp_valT (v := .pointer (some ⟨w0.heap.size, 0, none⟩)) (w' := w0.alloc (.cells #[.string { data := #[] }, .int .i64 0, .int .i64 0] 39)) (by
                  clear hk hI hoi hdeps ht hF
                  generalize a.eval = ρ at *
                  unfold execOp
                  go_simp) ?_
                exact hk _ _ ⟨_, rfl, lies_new _ _ _, hI.size⟩ (fun k' u _ h => KF k' u w0 _ (World.grownBy_alloc w0 _ none) h) (hI.alloc hI.size _)
            case hend => intro a w0 listed vals _ _ _ _ h; exact absurd h (by decide)
            case hall =>
              intro listed hcl h i hi hne
              have hi : i < 14 := hi
              have ci : i = 0 ∨ i = 1 ∨ i = 2 ∨ i = 3 ∨ i = 4 ∨ i = 5 ∨ i = 6 ∨ i = 7 ∨ i = 8 ∨ i = 9 ∨ i = 10 ∨ i = 11 ∨ i = 12 := by omega
              obtain rfl | rfl | rfl | rfl | rfl | rfl | rfl | rfl | rfl | rfl | rfl | rfl | rfl := ci
              · exact h _ rfl ⟨0, .phase⟩ (by simp) rfl
              · exact h _ rfl ⟨1, .phase⟩ (by simp) rfl
              · exact h _ rfl ⟨2, .phase⟩ (by simp) rfl
              · exact h _ rfl ⟨3, .phase⟩ (by simp) rfl
              · exact h _ rfl ⟨4, .phase⟩ (by simp) rfl
              · exact h _ rfl ⟨5, .phase⟩ (by simp) rfl
              · exact h _ rfl ⟨6, .phase⟩ (by simp) rfl
              · exact h _ rfl ⟨7, .phase⟩ (by simp) rfl
              · exact h _ rfl ⟨8, .phase⟩ (by simp) rfl
              · exact h _ rfl ⟨9, .phase⟩ (by simp) rfl
              · exact h _ rfl ⟨10, .phase⟩ (by simp) rfl
              · exact h _ rfl ⟨11, .data⟩ (by simp) rfl
              · exact h _ rfl ⟨12, .data⟩ (by simp) rfl
            case hl =>
              intro a w0 listed vals ol hoi hall hdeps hun ht hF0 hI
              obtain rfl := Option.some.inj hoi
              have hF : ∀ k, listed.getD k false = true → k < 14 → k ≠ 13 → _ := fun k _ hk hne => hF0 k hk hne
              have e13 : a.eval (.tmp 13) = vals 12 := tabd_at ht (t := 13) (of_decide_eq_true (by kernel_rfl)) (by kernel_rfl) (hall 12 (by decide) (by decide))
              have e64 : a.eval (.tmp 64) = .agg #[St p, .int .i64 f, .int .i64 md] := (tabd_at ht (t := 64) (of_decide_eq_true (by kernel_rfl)) (by kernel_rfl) (hall 11 (by decide) (by decide))).trans (hF0 11 (by decide) (by decide))
              have g0 : vals 0 = .pointer (some ⟨w.heap.size, 0, none⟩) := hF0 0 (by decide) (by decide)
              have g1 : vals 1 = .slice (some ⟨b, o, none⟩) n nc := hF0 1 (by decide) (by decide)
              have g2 : vals 2 = .int .i64 (i : Int) := hF0 2 (by decide) (by decide)
              have g3 : vals 3 = .int .i64 (r : Int) := hF0 3 (by decide) (by decide)
              have g4 : vals 4 = .int .i64 (n : Int) := hF0 4 (by decide) (by decide)
              have g5 : vals 5 = .int .i64 ((n : Int) + 1) := hF0 5 (by decide) (by decide)
              have g6 : vals 6 = .int .i64 (r1 : Int) := hF0 6 (by decide) (by decide)
              have g7 : vals 7 = .int .i64 ((i : Int) + (r1 : Int)) := hF0 7 (by decide) (by decide)
              have g8 : vals 8 = .int .i64 (n : Int) := hF0 8 (by decide) (by decide)
              have g9 : vals 9 = .int .i64 (k : Int) := hF0 9 (by decide) (by decide)
              have g10 : vals 10 = .pointer (some ⟨b, o + k * 3, none⟩) := hF0 10 (by decide) (by decide)
              have g11 : vals 11 = .agg #[St p, .int .i64 f, .int .i64 md] := hF0 11 (by decide) (by decide)
              have g12 := hF0 12 (by decide) (by decide)
              clear hF
              obtain ⟨T5, e12, l12, hT5⟩ := g12
              refine ⟨rfl, fun K hk => wp_store_row 39 _ _ rfl T5 #[St p, .int .i64 f, .int .i64 md] (e13.trans e12) e64 39 _ l12 (by kernel_rfl) rfl (by simp [Value.oneCell', St]) (hk _ _ ?_)⟩
              have ha := tabd_fill ht (fun t i ho => hall i (ownAll_lt ho) (fun e => by subst e; have h9 : (none : Option Nat) = some t := ownAll_spec ho; cases h9))
              subst ha
              change Exit.then _ (Exit.inBlock _ (Exit.then _ _)) Exit.normal { tmps := (.agg #[.slice (some ⟨b, o, none⟩) n nc, .slice FA m fc] :: .agg #[.slice MA on mc, .slice GA gn gc] :: .int .i64 (r : Int) :: .pointer (some ⟨w.heap.size, 0, none⟩) :: .pointer (some ⟨w.heap.size + 1, 0, none⟩) :: undef :: .bool false :: .bool true :: .bool false :: .bool false :: .pointer (some ⟨T, 0, none⟩) :: .int .i64 (n : Int) :: .int .i64 (i : Int) :: vals 12 :: undef :: undef :: undef :: undef :: undef :: undef :: undef :: .bool true :: .agg #[.slice (some ⟨b, o, none⟩) n nc, .slice FA m fc] :: .bool false :: .agg #[.slice MA on mc, .slice GA gn gc] :: .bool false :: .bool true :: .bool false :: .bool false :: .bool false :: .bool false :: .bool false :: .bool false :: .bool false :: .bool false :: .int .i64 (r : Int) :: .bool false :: .bool false :: .bool false :: .agg #[.slice (some ⟨b, o, none⟩) n nc, .slice FA m fc] :: .int .i64 0 :: .int .i64 0 :: .bool false :: .bool false :: undef :: .pointer (some ⟨w.heap.size, 0, none⟩) :: .slice (some ⟨b, o, none⟩) n nc :: .int .i64 (n : Int) :: .int .i64 (i : Int) :: .int .i64 (n : Int) :: .bool true :: u51 :: u52 :: vals 0 :: vals 1 :: vals 2 :: vals 3 :: vals 4 :: vals 5 :: vals 6 :: vals 7 :: vals 8 :: vals 9 :: vals 10 :: vals 11 :: u65 :: u66 :: u67 :: u68 :: u69 :: u70 :: u71 :: u72 :: u73 :: u74 :: u75 :: u76 :: u77 :: u78 :: u79 :: u80 :: u81 :: undef :: undef :: undef :: undef :: undef :: undef :: undef :: undef :: undef :: undef :: undef :: undef :: undef :: undef :: undef :: undef :: undef :: undef :: undef :: undef :: undef :: undef :: undef :: undef :: undef :: undef :: undef :: undef :: undef :: undef :: undef :: undef :: undef :: undef :: undef :: undef :: undef :: undef :: undef :: undef :: undef :: undef :: undef :: undef :: undef :: undef :: undef :: undef :: undef :: undef :: undef :: undef :: undef :: undef :: undef :: undef :: []).toArray, defers := [] } _
              simp only [g0, g1, g2, g3, g4, g5, g6, g7, g8, g9, g10, g11]
              clear ht hall hdeps hun hF0
              rw [e12]
              have L5 := Lib.hid (lies_setRow l12 #[St p, .int .i64 f, .int .i64 md])
              have bY := below_setRow hI hT5 #[St p, .int .i64 f, .int .i64 md]
              have HRY := Lib.hid (ownsRow_below HRJ.out bY)
              have LTY := Lib.hid (lies_below HLJ.out bY (lies_lt HLJ.out))
              have BY := Lib.hid (HBJ.out.trans (bY.mono HBJ.out.size))
              have NR5 := Lib.hid (show (Value.slice A1 i C1).ownBlock ≠ some T5 from fun e => by
                obtain ⟨_, cs, h3⟩ := own_heap HRJ.out T5 e
                exact absurd (Array.getElem?_eq_some_iff.1 h3).1 (Nat.not_lt.2 hT5))
              have nT5 := Lib.hid (show T ≠ T5 from fun e => absurd (lies_lt HLJ.out) (by rw [e]; exact Nat.not_lt.2 hT5))
              have S5 := Lib.hid (show X.heap.size ≤ T5 from Nat.le_trans HBJ.out.size hT5)
              clear e12 l12 hI hT5 bY KF e13 e64 g0 g1 g2 g3 g4 g5 g6 g7 g8 g9 g10 g11 HRJ HLJ HBJ q0 q1 q2 q3
              generalize w0.setRow T5 #[St p, .int .i64 f, .int .i64 md] = Y at *
              obtain ⟨q0, q1, q2, q3⟩ := (after _ BY.out).out
              have l0 := lies_cell L5.out 0
              have l1 := lies_cell L5.out 1
              have l2 := lies_cell L5.out 2
              have f1 := lies_free L5.out 1
              simp only [List.getElem?_toArray, List.getElem?_cons_zero, List.getElem?_cons_succ] at l0 l1 l2
              obtain ⟨x', hx'⟩ : ∃ x', x' = renT (backN m) ⟨p, f, md⟩ := ⟨_, rfl⟩
              have NX : Hid (turnedTo us r1 (i + 1) = turnedTo us r1 i ++ [x']) := Lib.hid (by rw [turnedTo_succ, hx', ← UK.out, UL.out, ← HK.out, US.out])
              by_cases hf : f = -1
              · subst hf
                have e1 : x' = ⟨p, -1, md⟩ := by rw [hx']; rfl
                subst e1
                have TL := turnedTo_len us r1 i
                have HRY2 : Y.ownsRow X.heap.size 39 3 (.slice A1 i C1) (turnedTo us r1 i).length (ncells (turnedTo us r1 i)) := by rw [TL]; exact HRY.out
                obtain ⟨A2, C2, Z, hr, ho, hl, hl3, hb⟩ := row_node ⟨p, -1, md⟩ HRY2 LTY.out BY.out.size ZT.out (by rw [TL]; omega)
                rw [TL] at hr ho hl hb
                rw [← NX.out, turnedTo_len] at ho
                have HR2 := Lib.hid hr
                have HO2 := Lib.hid ho
                have HL2 := Lib.hid hl
                have HB2 := Lib.hid (BY.out.trans hb)
                have R5 := Lib.hid (lies_range3 L5.out)
                have t0 := lies_cell LTY.out 0
                have t1 := lies_cell LTY.out 1
                have z0 := lies_cell hl3 0
                have fz := lies_free hl3 0
                simp only [List.getElem?_toArray, List.getElem?_cons_zero, List.getElem?_cons_succ] at t0 t1 z0
                clear hr ho hl hl3 hb HRY2 TL
                go_wp2_with (first
                  | (refine wpList_load_mid rfl 39 _ rfl T5 0 rfl [St p, .int .i64 (-1), .int .i64 md] _ R5.out Try.underlying39 rfl (by kernel_rfl) ?_)
                  | (refine wpList_app_run rfl _ _ rfl rfl rfl HR2.out ?_))
                go_roundw
                case rel => exact ⟨i + 1, by omega, by go_num, ⟨A2, C2, HL2.out, HO2.out⟩, HB2.out⟩
                case measure => first | (simp [intOf]; done) | (simp [intOf]; omega)
              · have hf1 : (f != -1) = true := by simpa using hf
                have hf2 : (f == -1) = false := by simpa using hf
                obtain ⟨fi, rfl⟩ : ∃ fi : Nat, f = fi := ⟨f.toNat, by rcases FX.out with h | h <;> omega⟩
                have fl : (fi : Int) < (m : Int) := by have := ME.out; rcases FX.out with h | h <;> omega
                have e1 : x' = ⟨p, (m : Int) - 1 - (fi : Int), md⟩ := by
                  rw [hx', renT, if_neg hf]
                  rfl
                subst e1
                have hw3 : IntKind.i64.wrap ((m : Int) - 1) = (m : Int) - 1 := by rw [wrap_i64]; omega
                have hw4 : IntKind.i64.wrap ((m : Int) - 1 - (fi : Int)) = (m : Int) - 1 - (fi : Int) := by rw [wrap_i64]; omega
                have bs : Below X.heap.size Y (Y.setCell ⟨T5, 1, none⟩ (.int .i64 ((m : Int) - 1 - (fi : Int)))) := below_setCell (Below.refl _ _) S5.out _
                have L6 := lies_set L5.out 1 (.int .i64 ((m : Int) - 1 - (fi : Int)))
                have L6 : Lies (Y.setCell ⟨T5, 1, none⟩ (.int .i64 ((m : Int) - 1 - (fi : Int)))) T5 39 #[St p, .int .i64 ((m : Int) - 1 - (fi : Int)), .int .i64 md] := L6
                have LT6 := lies_far (p := ⟨T5, 1, none⟩) LTY.out nT5.out (.int .i64 ((m : Int) - 1 - (fi : Int)))
                have HR6 := HRY.out.kept (grown_setCell Y T5 1 (.int .i64 ((m : Int) - 1 - (fi : Int)))) (by
                  have nR := NR5.out
                  cases hv : (Value.slice A1 i C1).ownBlock with
                  | none => exact .inl rfl
                  | some b' => exact .inr (fun e => nR (hv.trans e)))
                have B6 := BY.out.trans bs
                go_upto_region 14 with (fail)
                have L5 := Lib.hid L6
                have LTY := Lib.hid LT6
                have HRY := Lib.hid HR6
                have BY := Lib.hid B6
                clear L6 LT6 HR6 B6 bs l0 l1 l2 f1 q0 q1 q2 q3
                generalize Y.setCell ⟨T5, 1, none⟩ (.int .i64 ((m : Int) - 1 - (fi : Int))) = Y at *
                have TL := turnedTo_len us r1 i
                have HRY2 : Y.ownsRow X.heap.size 39 3 (.slice A1 i C1) (turnedTo us r1 i).length (ncells (turnedTo us r1 i)) := by rw [TL]; exact HRY.out
                obtain ⟨A2, C2, Z, hr, ho, hl, hl3, hb⟩ := row_node ⟨p, (m : Int) - 1 - (fi : Int), md⟩ HRY2 LTY.out BY.out.size ZT.out (by rw [TL]; omega)
                rw [TL] at hr ho hl hb
                rw [← NX.out, turnedTo_len] at ho
                have HR2 := Lib.hid hr
                have HO2 := Lib.hid ho
                have HL2 := Lib.hid hl
                have HB2 := Lib.hid (BY.out.trans hb)
                have R5 := Lib.hid (lies_range3 L5.out)
                have t0 := lies_cell LTY.out 0
                have t1 := lies_cell LTY.out 1
                have z0 := lies_cell hl3 0
                have fz := lies_free hl3 0
                simp only [List.getElem?_toArray, List.getElem?_cons_zero, List.getElem?_cons_succ] at t0 t1 z0
                clear hr ho hl hl3 hb HRY2 TL
                go_wp2_with (first
                  | (refine wpList_load_mid rfl 39 _ rfl T5 0 rfl [St p, .int .i64 ((m : Int) - 1 - (fi : Int)), .int .i64 md] _ R5.out Try.underlying39 rfl (by kernel_rfl) ?_)
                  | (refine wpList_app_run rfl _ _ rfl rfl rfl HR2.out ?_))
                go_roundw
                case rel => exact ⟨i + 1, by omega, by go_num, ⟨A2, C2, HL2.out, HO2.out⟩, HB2.out⟩
                case measure => first | (simp [intOf]; done) | (simp [intOf]; omega)
          · have hin : i = n := by omega
            subst hin
            have li : ¬ (i : Int) < (i : Int) := by omega
            obtain ⟨D0, hD0, hS0⟩ := files_row HF.out
            have HD0 := Lib.hid hD0
            have HS0 := Lib.hid hS0
            clear hD0 hS0
            have t0 := lies_cell HLJ.out 0
            have t1 := lies_cell HLJ.out 1
            simp only [List.getElem?_toArray, List.getElem?_cons_zero, List.getElem?_cons_succ] at t0 t1
            have hwm : IntKind.i64.wrap ((m : Int) - 1) = (m : Int) - 1 := by rw [wrap_i64]; omega
            go_wp2
            go_loopw [14] (fun v14 wq => ∃ k : Nat, k ≤ m ∧ v14 = .int .i64 ((m : Int) - 1 - (k : Int)) ∧ (∃ A C, Lies wq T 25 #[.slice A1 i C1, .slice A k C] ∧ wq.ownsRow X.heap.size 42 2 (.slice A k C) k (fcells (fun q => D0 (m - 1 - q)) (fs.reverse.take k))) ∧ wq.ownsRow X.heap.size 39 3 (.slice A1 i C1) i (ncells (turnedTo us r1 i)) ∧ Below X.heap.size X wq) (fun v14 _ => (intOf v14 + 1).toNat)
            case atStart => exact ⟨0, Nat.zero_le _, by simp, ⟨none, 0, HLJ.out, World.ownsRow_nil _ _ _ _⟩, HRJ.out, HBJ.out⟩
            case round =>
              obtain ⟨k, hk, rfl, ⟨A2, C2, hL, hR⟩, hN2, hB⟩ := hrel
              have HLK := Lib.hid hL
              have HRK := Lib.hid hR
              have HNK := Lib.hid hN2
              have HBK := Lib.hid hB
              clear hL hR hN2 hB HLJ HRJ HBJ t0 t1 q0 q1 q2 q3
              obtain ⟨q0, q1, q2, q3⟩ := (after _ HBK.out).out
              have t0 := lies_cell HLK.out 0
              have t1 := lies_cell HLK.out 1
              simp only [List.getElem?_toArray, List.getElem?_cons_zero, List.getElem?_cons_succ] at t0 t1
              by_cases hkm : k < m
              · obtain ⟨q, hq⟩ : ∃ q, q = m - 1 - k := ⟨_, rfl⟩
                have hqi : (m : Int) - 1 - (k : Int) = (q : Int) := by omega
                have qm : q < m := by omega
                have qmi : (q : Int) < (m : Int) := by omega
                have lq : q < fs.length := by have := ME.out; omega
                rw [hqi]
                have hq0 : (0 : Int) ≤ (q : Int) := by omega
                have HQ := Lib.hid hq
                have HQI := Lib.hid hqi
                clear hq hqi
                go_upto_region 18 with (fail)
                have i1x := info_parts file_info2
                obtain ⟨i1, hj1, hz1, hs1, hb1⟩ := i1x
                obtain ⟨b, o, _, _, eA, hl, _, _, _⟩ := HF.out q lq
                subst eA
                have c0 := HS0.out ⟨b, o, none⟩ rfl (q * 2) _ (fcells_at D0 fs q lq).1
                have c1 := HS0.out ⟨b, o, none⟩ rfl (q * 2 + 1) _ (fcells_at D0 fs q lq).2
                rw [Addr.add_mid] at c0 c1
                rw [← Nat.add_assoc] at c1
                obtain ⟨DA, dc, eD, hbD⟩ := HD0.out q lq
                rw [eD] at c1
                have lk : k < fs.reverse.length := by rw [List.length_reverse]; have := ME.out; omega
                have TK : fs.reverse.take (k + 1) = fs.reverse.take k ++ [fs[q]] := by
                  rw [List.take_succ_eq_append_getElem lk, List.getElem_reverse]
                  congr 2
                  have := ME.out
                  have := HQ.out
                  congr 1
                  omega
                have lt : (fs.reverse.take k).length = k := by rw [List.length_take]; omega
                have SN : fcells (fun q => D0 (m - 1 - q)) (fs.reverse.take (k + 1)) = fcells (fun q => D0 (m - 1 - q)) (fs.reverse.take k) ++ [.int .i64 fs[q].mode, .slice DA fs[q].data.length dc] := by
                  rw [TK, fcells_snoc (fun q => D0 (m - 1 - q)) (fun q => D0 (m - 1 - q)) _ _ (fun _ _ => rfl), lt]
                  show _ ++ [_, D0 (m - 1 - k)] = _
                  rw [← HQ.out, eD]
                obtain ⟨fm, hfm⟩ : ∃ fm, fm = fs[q].mode := ⟨_, rfl⟩
                obtain ⟨dl, hdl⟩ : ∃ dl, dl = fs[q].data.length := ⟨_, rfl⟩
                rw [← hfm] at c0 SN
                rw [← hdl] at c1 SN
                have HSN := Lib.hid SN
                clear SN TK lt lk hfm hdl eD hbD
                have gA : wr.grownBy wr.drew none := ⟨rfl, rfl, rfl, Nat.le_refl _, fun _ _ _ => rfl⟩
                have gB : wr.grownBy (wr.drew.alloc (.cells #[.int .i64 fm, .slice DA dl dc] 42)) none := World.grownBy.trans gA (World.grownBy_alloc wr.drew (.cells #[.int .i64 fm, .slice DA dl dc] 42) none)
                have rB : (wr.drew.alloc (.cells #[.int .i64 fm, .slice DA dl dc] 42)).ownsRow X.heap.size 42 2 (.slice A2 k C2) k (fcells (fun q => D0 (m - 1 - q)) (fs.reverse.take k)) := HRK.out.kept gB (by cases (Value.slice A2 k C2).ownBlock <;> simp)
                have LB := lies_new wr.drew 42 #[.int .i64 fm, .slice DA dl dc]
                obtain ⟨vG, Z, hr, ho, hg, _⟩ := run_append_own (P := Try.prog) (wr.drew.alloc (.cells #[.int .i64 fm, .slice DA dl dc] 42)) X.heap.size 23 23 42 i1 _ 2 32 Try.underlying23 hj1 hz1 hs1 hb1 rfl (by decide) (.slice A2 k C2) k (fcells (fun q => D0 (m - 1 - q)) (fs.reverse.take k)) rB ⟨wr.drew.heap.size, 0, none⟩ 1 1 [.int .i64 fm, .slice DA dl dc] rfl (fun q u hq => by
                  match q, hq with
                  | 0, hq => injection hq with hq; subst hq; exact lies_cell LB 0
                  | 1, hq => injection hq with hq; subst hq; exact lies_cell LB 1
                  | q + 2, hq => simp at hq) (fun u hu => by simp at hu; rcases hu with h | h <;> subst h <;> rfl) (by unfold maxLen; omega) (by omega) (Nat.le_trans HBK.out.size gB.size)
                obtain ⟨Ag, Cg, rfl⟩ := own_slice ho
                rw [← HSN.out] at ho
                have gZ : wr.grownBy Z (Value.slice A2 k C2).ownBlock := (World.grownBy.but gB _).trans hg
                have blk : ∀ r, (Value.slice A2 k C2).ownBlock = some r → X.heap.size ≤ r ∧ ∃ cs, wr.heap[r]? = some (.cells cs 42 (0, 0)) := fun r e => own_heap HRK.out r e
                have TZ : Lies Z T 25 #[.slice A1 i C1, .slice A2 k C2] := (gZ.block T (lies_lt HLK.out) (fun e => by
                  obtain ⟨_, cs', h3⟩ := blk T e.symm
                  have h4 := (show wr.heap[T]? = _ from HLK.out).symm.trans h3
                  injection h4 with h4
                  injection h4 with _ h5 _
                  exact absurd h5 (by decide))).trans HLK.out
                have NZ := HNK.out.kept gZ (own_other HNK.out (fun r e => by obtain ⟨_, cs, h2⟩ := blk r e; exact ⟨cs, 42, h2, by decide⟩))
                have BZ : Below X.heap.size X Z := HBK.out.grown gZ HBK.out.size (fun r e => (blk r e).1)
                have BBB : Below X.heap.size X (wr.drew.alloc (.cells #[.int .i64 fm, .slice DA dl dc] 42)) := HBK.out.grown gB HBK.out.size (fun r e => by cases e)
                have BAA : Below X.heap.size X wr.drew := HBK.out.grown gA HBK.out.size (fun r e => by cases e)
                have BD := below_setCell BZ (p := ⟨T, 1, none⟩) ZT.out (.slice Ag (k + 1) Cg)
                have rg : ∀ W, Below X.heap.size X W → W.rangeAt b (o + q * 2) [.int .i64 fm, .slice DA dl dc] := fun W hb => file_range ((hb.cell (p := ⟨b, o + q * 2, none⟩) hl).trans c0) ((hb.cell (p := ⟨b, o + q * 2 + 1, none⟩) hl).trans c1)
                have LBT : Lies (wr.drew.alloc (.cells #[.int .i64 fm, .slice DA dl dc] 42)) T 25 #[.slice A1 i C1, .slice A2 k C2] := lies_alloc (show Lies wr.drew T 25 _ from HLK.out) _
                have F1 := Lib.hid (fun (l : Array Bool) (hl : l.getD 10 false = false) => stc_all (i := 7) (j := 8) (k := 10) (A := wr.drew) (B := wr.drew.alloc (.cells #[.int .i64 fm, .slice DA dl dc] 42)) (C := Z) (D := Z.setCell ⟨T, 1, none⟩ (.slice Ag (k + 1) Cg)) (l := l) (fun W => W.cell? ⟨T, 1, none⟩ = some (.slice A2 k C2)) (lies_cell (show Lies wr.drew T 25 _ from HLK.out) 1) (lies_cell LBT 1) (lies_cell TZ 1) (fun h => by rw [hl] at h; cases h))
                have F3 := Lib.hid (fun (l : Array Bool) (hl : l.getD 10 false = false) => stc_all (i := 7) (j := 8) (k := 10) (A := wr.drew) (B := wr.drew.alloc (.cells #[.int .i64 fm, .slice DA dl dc] 42)) (C := Z) (D := Z.setCell ⟨T, 1, none⟩ (.slice Ag (k + 1) Cg)) (l := l) (fun W => W.cell? ⟨w.heap.size, 1, none⟩ = some (.slice (some ⟨b, o, none⟩) m fc)) (after _ BAA).out.2.1 (after _ BBB).out.2.1 (after _ BZ).out.2.1 (fun h => by rw [hl] at h; cases h))
                have F6 := Lib.hid (fun (l : Array Bool) => stc_all (i := 7) (j := 8) (k := 10) (A := wr.drew) (B := wr.drew.alloc (.cells #[.int .i64 fm, .slice DA dl dc] 42)) (C := Z) (D := Z.setCell ⟨T, 1, none⟩ (.slice Ag (k + 1) Cg)) (l := l) (fun W => W.rangeAt b (o + q * 2) [.int .i64 fm, .slice DA dl dc]) (rg _ BAA) (rg _ BBB) (rg _ BZ) (fun _ => rg _ BD))
                have HR := Lib.hid hr
                have L6 := Lib.hid (lies_set TZ 1 (.slice Ag (k + 1) Cg))
                have O6 := Lib.hid (ho.kept (grown_setCell Z T 1 (.slice Ag (k + 1) Cg)) (own_other ho (fun r e => by injection e with e; subst e; exact ⟨_, 25, TZ, by decide⟩)))
                have N6 := Lib.hid (NZ.kept (grown_setCell Z T 1 (.slice Ag (k + 1) Cg)) (own_other NZ (fun r e => by injection e with e; subst e; exact ⟨_, 25, TZ, by decide⟩)))
                have B6 := Lib.hid BD
                have CZ := Lib.hid (lies_cell TZ 1)
                have FZ := Lib.hid (lies_free TZ 1)
                clear gA gB rB LB hr ho hg gZ blk TZ NZ BZ BBB BAA BD rg LBT c0 c1 hl t0 t1 q0 q1 q2 q3
                refine wp_region_any (by kernel_rfl) ?_
                refine every_at (own := ownAll _) (vals := fun k_ => match k_ with | 0 => .pointer (some ⟨T, 1, none⟩) | 1 => .slice A2 k C2 | 2 => .pointer (some ⟨w.heap.size, 1, none⟩) | 3 => .slice (some ⟨b, o, none⟩) m fc | 4 => .int .i64 (q : Int) | 5 => .pointer (some ⟨b, o + q * 2, none⟩) | 6 => .agg #[.int .i64 fm, .slice DA dl dc] | 7 => .slice (some ⟨wr.drew.heap.size, 0, none⟩) 1 1 | 8 => .slice Ag (k + 1) Cg | 9 => .pointer (some ⟨T, 1, none⟩) | 10 => undef | _ => undef) id (fun l W => W = (Stc 7 8 10 (wr.drew) (wr.drew.alloc (.cells #[.int .i64 fm, .slice DA dl dc] 42)) (Z) (Z.setCell ⟨T, 1, none⟩ (.slice Ag (k + 1) Cg))) l) (acAll_of (by kernel_rfl)) (onAll_of (by kernel_rfl)) (dstAll_of (by kernel_rfl)) ?hop ?hend _ _ _ _ rfl (shut_none _) (of_decide_eq_true (by kernel_rfl)) (tabd_start (fun i => rep_false _ i)) rfl
                case hop =>
                  intro x oi a w0 listed hoi hun hsz hcl hdeps ht hI
                  have hx : x < 11 := (Array.getElem?_eq_some_iff.1 hoi).1
                  have cx : x = 0 ∨ x = 1 ∨ x = 2 ∨ x = 3 ∨ x = 4 ∨ x = 5 ∨ x = 6 ∨ x = 7 ∨ x = 8 ∨ x = 9 ∨ x = 10 := by omega
                  have sz : listed.size = 11 := hsz
                  have uj : listed.getD 8 false = true → listed.getD 7 false = true := fun h => hcl 8 _ rfl h ⟨7, .data⟩ (by simp) rfl
                  have uk : listed.getD 10 false = true → listed.getD 8 false = true := fun h => hcl 10 _ rfl h ⟨8, .data⟩ (by simp) rfl
                  have ul1 : listed.getD 10 false = true → listed.getD 1 false = true := fun h => hcl 10 _ rfl h ⟨1, .phase⟩ (by simp) rfl
                  have ul3 : listed.getD 10 false = true → listed.getD 3 false = true := fun h => hcl 10 _ rfl h ⟨3, .phase⟩ (by simp) rfl
                  clear hcl
                  obtain rfl | rfl | rfl | rfl | rfl | rfl | rfl | rfl | rfl | rfl | rfl := cx
                  all_goals obtain rfl := Option.some.inj hoi
                  · have e10 : a.eval (.tmp 10) = .pointer (some ⟨T, 0, none⟩) := (tabd_old ht (t := 10) (of_decide_eq_true (by kernel_rfl)) (by kernel_rfl)).trans rfl
                    exact .inl ⟨rfl, fun K hk => wp_val (v := .pointer (some ⟨T, 1, none⟩)) (by generalize a.eval = ρ at *; unfold execOp; simp only [e10]; go_simp) (hk _ (hI.trans (stc_keep (by decide) (by decide) (by decide)).symm))⟩
                  · have d0 := hdeps ⟨0, .data⟩ (by simp) rfl
                    have e90 : a.eval (.tmp 90) = .pointer (some ⟨T, 1, none⟩) := tabd_at ht (t := 90) (of_decide_eq_true (by kernel_rfl)) (by kernel_rfl) d0
                    have h : w0.cell? ⟨T, 1, none⟩ = some (.slice A2 k C2) := by rw [hI]; exact F1.out listed (no_of ul1 (by simp [hun]))
                    exact .inl ⟨rfl, fun K hk => wp_val (v := .slice A2 k C2) (by clear hk hI hoi hdeps ht; generalize a.eval = ρ at *; unfold execOp; simp only [e90]; go_simp) (hk _ (hI.trans (stc_keep (by decide) (by decide) (by decide)).symm))⟩
                  · have e3 : a.eval (.tmp 3) = .pointer (some ⟨w.heap.size, 0, none⟩) := (tabd_old ht (t := 3) (of_decide_eq_true (by kernel_rfl)) (by kernel_rfl)).trans rfl
                    exact .inl ⟨rfl, fun K hk => wp_val (v := .pointer (some ⟨w.heap.size, 1, none⟩)) (by generalize a.eval = ρ at *; unfold execOp; simp only [e3]; go_simp) (hk _ (hI.trans (stc_keep (by decide) (by decide) (by decide)).symm))⟩
                  · have d2 := hdeps ⟨2, .data⟩ (by simp) rfl
                    have e92 : a.eval (.tmp 92) = .pointer (some ⟨w.heap.size, 1, none⟩) := tabd_at ht (t := 92) (of_decide_eq_true (by kernel_rfl)) (by kernel_rfl) d2
                    have h : w0.cell? ⟨w.heap.size, 1, none⟩ = some (.slice (some ⟨b, o, none⟩) m fc) := by rw [hI]; exact F3.out listed (no_of ul3 (by simp [hun]))
                    exact .inl ⟨rfl, fun K hk => wp_val (v := .slice (some ⟨b, o, none⟩) m fc) (by clear hk hI hoi hdeps ht; generalize a.eval = ρ at *; unfold execOp; simp only [e92]; go_simp) (hk _ (hI.trans (stc_keep (by decide) (by decide) (by decide)).symm))⟩
                  · have e14 : a.eval (.tmp 14) = .int .i64 (q : Int) := (tabd_old ht (t := 14) (of_decide_eq_true (by kernel_rfl)) (by kernel_rfl)).trans rfl
                    exact .inl ⟨rfl, fun K hk => wp_val (v := .int .i64 (q : Int)) (by generalize a.eval = ρ at *; unfold execOp; simp only [e14]; go_simp) (hk _ (hI.trans (stc_keep (by decide) (by decide) (by decide)).symm))⟩
                  · have d3 := hdeps ⟨3, .data⟩ (by simp) rfl
                    have d4 := hdeps ⟨4, .data⟩ (by simp) rfl
                    have e93 : a.eval (.tmp 93) = .slice (some ⟨b, o, none⟩) m fc := tabd_at ht (t := 93) (of_decide_eq_true (by kernel_rfl)) (by kernel_rfl) d3
                    have e94 : a.eval (.tmp 94) = .int .i64 (q : Int) := tabd_at ht (t := 94) (of_decide_eq_true (by kernel_rfl)) (by kernel_rfl) d4
                    exact .inl ⟨rfl, fun K hk => wp_val (v := .pointer (some ⟨b, o + q * 2, none⟩)) (by generalize a.eval = ρ at *; unfold execOp; simp only [e93, e94]; go_simp) (hk _ (hI.trans (stc_keep (by decide) (by decide) (by decide)).symm))⟩
                  · have d5 := hdeps ⟨5, .data⟩ (by simp) rfl
                    have e95 : a.eval (.tmp 95) = .pointer (some ⟨b, o + q * 2, none⟩) := tabd_at ht (t := 95) (of_decide_eq_true (by kernel_rfl)) (by kernel_rfl) d5
                    have h := F6.out listed
                    rw [← hI] at h
                    exact .inl ⟨rfl, fun K hk => wp_val (v := .agg #[.int .i64 fm, .slice DA dl dc]) (load_op 42 _ rfl b (o + q * 2) e95 [.int .i64 fm, .slice DA dl dc] _ h Try.underlying42 rfl (by kernel_rfl)) (hk _ (hI.trans (stc_keep (by decide) (by decide) (by decide)).symm))⟩
                  · have d6 := hdeps ⟨6, .data⟩ (by simp) rfl
                    have e96 : a.eval (.tmp 96) = .agg #[.int .i64 fm, .slice DA dl dc] := tabd_at ht (t := 96) (of_decide_eq_true (by kernel_rfl)) (by kernel_rfl) d6
                    have hst : (Stc 7 8 10 (wr.drew) (wr.drew.alloc (.cells #[.int .i64 fm, .slice DA dl dc] 42)) (Z) (Z.setCell ⟨T, 1, none⟩ (.slice Ag (k + 1) Cg))) listed = wr.drew ∧ (Stc 7 8 10 (wr.drew) (wr.drew.alloc (.cells #[.int .i64 fm, .slice DA dl dc] 42)) (Z) (Z.setCell ⟨T, 1, none⟩ (.slice Ag (k + 1) Cg))) (listed.setIfInBounds 7 true) = wr.drew.alloc (.cells #[.int .i64 fm, .slice DA dl dc] 42) := stc_0 (by decide) (by decide) uj uk (by omega) hun
                    have hw : wr.drew = w0 := (hI.trans hst.1).symm
                    subst hw
                    exact .inl ⟨rfl, fun K hk => wp_buildSlice 23 42 1 _ rfl #[.int .i64 fm, .slice DA dl dc] i1 _ Try.underlying23 hj1 hz1 (by rw [hs1]; decide) (by rw [hs1]; decide) (by rw [hs1]; simp only [List.map_toArray, List.map_cons, List.map_nil, e96]; kernel_rfl) (hk _ hst.2.symm)⟩
                  · have d1 := hdeps ⟨1, .data⟩ (by simp) rfl
                    have d7 := hdeps ⟨7, .data⟩ (by simp) rfl
                    have e91 : a.eval (.tmp 91) = .slice A2 k C2 := tabd_at ht (t := 91) (of_decide_eq_true (by kernel_rfl)) (by kernel_rfl) d1
                    have e97 : a.eval (.tmp 97) = .slice (some ⟨wr.drew.heap.size, 0, none⟩) 1 1 := tabd_at ht (t := 97) (of_decide_eq_true (by kernel_rfl)) (by kernel_rfl) d7
                    have hst : (Stc 7 8 10 (wr.drew) (wr.drew.alloc (.cells #[.int .i64 fm, .slice DA dl dc] 42)) (Z) (Z.setCell ⟨T, 1, none⟩ (.slice Ag (k + 1) Cg))) listed = wr.drew.alloc (.cells #[.int .i64 fm, .slice DA dl dc] 42) ∧ (Stc 7 8 10 (wr.drew) (wr.drew.alloc (.cells #[.int .i64 fm, .slice DA dl dc] 42)) (Z) (Z.setCell ⟨T, 1, none⟩ (.slice Ag (k + 1) Cg))) (listed.setIfInBounds 8 true) = Z := stc_1 (by decide) (by decide) uk (by omega) hun d7
                    have hw : wr.drew.alloc (.cells #[.int .i64 fm, .slice DA dl dc] 42) = w0 := (hI.trans hst.1).symm
                    subst hw
                    exact .inl ⟨rfl, fun K hk => wp_valT (v := .slice Ag (k + 1) Cg) (w' := Z) (app_op _ _ rfl e91 e97 HR.out) (hk _ hst.2.symm)⟩
                  · have e10 : a.eval (.tmp 10) = .pointer (some ⟨T, 0, none⟩) := (tabd_old ht (t := 10) (of_decide_eq_true (by kernel_rfl)) (by kernel_rfl)).trans rfl
                    exact .inl ⟨rfl, fun K hk => wp_val (v := .pointer (some ⟨T, 1, none⟩)) (by generalize a.eval = ρ at *; unfold execOp; simp only [e10]; go_simp) (hk _ (hI.trans (stc_keep (by decide) (by decide) (by decide)).symm))⟩
                  · have d9 := hdeps ⟨9, .data⟩ (by simp) rfl
                    have d8 := hdeps ⟨8, .data⟩ (by simp) rfl
                    have e98 : a.eval (.tmp 98) = .slice Ag (k + 1) Cg := tabd_at ht (t := 98) (of_decide_eq_true (by kernel_rfl)) (by kernel_rfl) d8
                    have e99 : a.eval (.tmp 99) = .pointer (some ⟨T, 1, none⟩) := tabd_at ht (t := 99) (of_decide_eq_true (by kernel_rfl)) (by kernel_rfl) d9
                    have hst : (Stc 7 8 10 (wr.drew) (wr.drew.alloc (.cells #[.int .i64 fm, .slice DA dl dc] 42)) (Z) (Z.setCell ⟨T, 1, none⟩ (.slice Ag (k + 1) Cg))) listed = Z ∧ (Stc 7 8 10 (wr.drew) (wr.drew.alloc (.cells #[.int .i64 fm, .slice DA dl dc] 42)) (Z) (Z.setCell ⟨T, 1, none⟩ (.slice Ag (k + 1) Cg))) (listed.setIfInBounds 10 true) = Z.setCell ⟨T, 1, none⟩ (.slice Ag (k + 1) Cg) := stc_2 (by decide) (by omega) hun d8
                    have hw : Z = w0 := (hI.trans hst.1).symm
                    subst hw
                    exact .inl ⟨rfl, fun K hk => wp_skipT (w' := Z.setCell ⟨T, 1, none⟩ (.slice Ag (k + 1) Cg)) (by have h1 := CZ.out; have h2 := FZ.out; simp only [List.getElem?_toArray, List.getElem?_cons_zero, List.getElem?_cons_succ] at h1; clear hk hst hI ht hoi hdeps; generalize a.eval = ρ at *; unfold execOp; simp only [e98, e99]; go_simp) (hk _ hst.2.symm)⟩
                case hend =>
                  intro a w0 listed hall ht hI
                  rw [tabd_fill ht (fun t i ho => hall i (ownAll_lt ho))]
                  have hw : w0 = _ := hI.trans (stc_end (hall 10 (of_decide_eq_true (by kernel_rfl))))
                  change Exit.inBlock _ (Exit.then _ _) Exit.normal { tmps := (.agg #[.slice NA i nc, .slice (some ⟨b, o, none⟩) m fc] :: .agg #[.slice MA on mc, .slice GA gn gc] :: .int .i64 (r : Int) :: .pointer (some ⟨w.heap.size, 0, none⟩) :: .pointer (some ⟨w.heap.size + 1, 0, none⟩) :: undef :: .bool false :: .bool true :: .bool false :: .bool false :: .pointer (some ⟨T, 0, none⟩) :: .int .i64 (i : Int) :: .int .i64 (i : Int) :: u13 :: .int .i64 (q : Int) :: undef :: undef :: undef :: undef :: undef :: undef :: .bool true :: .agg #[.slice NA i nc, .slice (some ⟨b, o, none⟩) m fc] :: .bool false :: .agg #[.slice MA on mc, .slice GA gn gc] :: .bool false :: .bool true :: .bool false :: .bool false :: .bool false :: .bool false :: .bool false :: .bool false :: .bool false :: .bool false :: .int .i64 (r : Int) :: .bool false :: .bool false :: .bool false :: .agg #[.slice NA i nc, .slice (some ⟨b, o, none⟩) m fc] :: .int .i64 0 :: .int .i64 0 :: .bool false :: .bool false :: undef :: .pointer (some ⟨w.heap.size, 0, none⟩) :: .slice NA i nc :: .int .i64 (i : Int) :: .int .i64 (i : Int) :: .int .i64 (i : Int) :: .bool false :: u51 :: u52 :: u53 :: u54 :: u55 :: u56 :: u57 :: u58 :: u59 :: u60 :: u61 :: u62 :: u63 :: u64 :: u65 :: u66 :: u67 :: u68 :: u69 :: u70 :: u71 :: u72 :: u73 :: u74 :: u75 :: u76 :: u77 :: u78 :: u79 :: u80 :: u81 :: .pointer (some ⟨w.heap.size, 1, none⟩) :: .slice (some ⟨b, o, none⟩) m fc :: .int .i64 (m : Int) :: .int .i64 ((m : Int) - 1) :: .int .i64 (q : Int) :: .bool true :: u88 :: u89 :: .pointer (some ⟨T, 1, none⟩) :: .slice A2 k C2 :: .pointer (some ⟨w.heap.size, 1, none⟩) :: .slice (some ⟨b, o, none⟩) m fc :: .int .i64 (q : Int) :: .pointer (some ⟨b, o + q * 2, none⟩) :: .agg #[.int .i64 fm, .slice DA dl dc] :: .slice (some ⟨wr.drew.heap.size, 0, none⟩) 1 1 :: .slice Ag (k + 1) Cg :: .pointer (some ⟨T, 1, none⟩) :: undef :: undef :: undef :: undef :: undef :: undef :: undef :: undef :: undef :: undef :: undef :: undef :: undef :: undef :: undef :: undef :: undef :: undef :: undef :: undef :: undef :: undef :: undef :: undef :: undef :: undef :: undef :: undef :: undef :: undef :: undef :: undef :: undef :: undef :: undef :: undef :: undef :: undef :: []).toArray, defers := [] } w0
                  clear hall ht hI
                  subst hw
                  clear HR F1 F3 F6 CZ FZ
                  generalize Z.setCell ⟨T, 1, none⟩ (.slice Ag (k + 1) Cg) = W6 at *
                  go_wp2
                  go_roundw
                  case rel => exact ⟨k + 1, by omega, by have := HQI.out; go_num, ⟨Ag, Cg, L6.out, O6.out⟩, N6.out, B6.out⟩
                  case measure => first | (simp [intOf]; done) | (simp [intOf]; omega)
              · have hkm2 : k = m := by omega
                have e1 : (m : Int) - 1 - (k : Int) = -1 := by omega
                rw [e1]
                rw [hkm2] at HRK HLK t1
                have UA : turnedTo us r1 i = turned us r1 := by rw [← turnedTo_all, UL.out]
                have lenU : (turned us r1).length = i := by rw [← UA, turnedTo_len]
                have VA : fs.reverse.take m = fs.reverse := List.take_of_length_le (by rw [List.length_reverse]; have := ME.out; omega)
                have hNr : NodesAt wr A1 (turned us r1) := nodes_row (n := i) (C := C1) (B := X.heap.size) (by rw [lenU, ← UA]; exact HNK.out)
                have hFr : FilesAt wr A2 fs.reverse := files_at (n := m) (C := C2) (B := X.heap.size) (D := fun q => D0 (m - 1 - q)) (by
                  rw [List.length_reverse, ← ME.out]
                  have := HRK.out
                  rw [VA] at this
                  exact this) (fun q hq => by
                  have hq' : q < fs.length := by rw [List.length_reverse] at hq; exact hq
                  obtain ⟨DA, dc, e, hb⟩ := HD0.out (m - 1 - q) (by have := ME.out; omega)
                  have eg : fs.reverse[q] = fs[m - 1 - q]'(by have := ME.out; omega) := by
                    rw [List.getElem_reverse]
                    congr 1
                    have := ME.out
                    omega
                  rw [eg]
                  exact ⟨DA, dc, e, bytesAt_below hb HBK.out⟩)
                have PS : ∀ x ∈ turned us r1, x.path.length ≤ 100000 := fun x hx => by
                  have h1 := (turned_perm us r1).subset hx
                  rw [US.out] at h1
                  obtain ⟨y, hy, rfl⟩ := List.mem_map.1 h1
                  have e : (renT (backN m) y).path = y.path := by unfold renT; split <;> rfl
                  rw [e]
                  exact Nat.le_trans (SS.out.2.2.1 y hy) (by decide)
                have PN : ∀ x ∈ ns, x.path.length ≤ 100000 := fun x hx => Nat.le_trans (SS.out.2.2.1 x hx) (by decide)
                have tb : tooB ns.length fs = false := by
                  have := loose_small LO.out
                  exact tooB_of this.1 this.2.1 this.2.2
                have K1 := canon_any A1 A2 C1 C2 (turned us r1) fs.reverse wr hNr hFr PS
                have e0 : canonE (turned us r1) fs.reverse = 0 := by rw [US.out, ME.out]; exact canon_back_code r1 LO.out tb
                have e1 : canonN (turned us r1) fs.reverse = ns ∧ canonF (turned us r1) fs.reverse = fs := by rw [US.out, ME.out]; exact canon_back r1 LO.out
                rw [e0, e1.1, e1.2, lenU, List.length_reverse, ← ME.out] at K1
                have KK1 := Lib.hid K1
                have HPN := Lib.hid PN
                clear K1 PS PN hNr hFr e0 e1 tb UA lenU VA
                go_upto_region 20 with (go_at_call 11; (with_reducible refine KK1.out.mono ?_); rintro e w6 ⟨⟨vN6, vF6, D6, rfl, hc6, _⟩, hb⟩; have C6 := Lib.hid (hc6 rfl); have Z6 := Lib.hid hb; clear hb hc6; obtain ⟨A6, E6, rfl⟩ := own_slice C6.out.nodes; obtain ⟨A7, E7, rfl⟩ := own_slice C6.out.files; rw [← NE.out, ← ME.out])
                have b7 : Below w6.heap.size w6 (w6.alloc (.cells #[.slice A6 i E6, .slice A7 m E7] 25)) := (Below.refl _ _).alloc (Nat.le_refl _) _
                have L7 := Lib.hid (lies_new w6 25 #[.slice A6 i E6, .slice A7 m E7])
                have C7 := Lib.hid (copy_below C6.out b7)
                have B7 := Lib.hid (HBK.out.trans ((Z6.out.trans (b7.mono Z6.out.size)).mono HBK.out.size))
                rw [← NE.out, ← ME.out] at C7
                clear C6 Z6 b7 q0 q1 q2 q3 t0 t1 KK1
                generalize w6.alloc (.cells #[.slice A6 i E6, .slice A7 m E7] 25) = W7 at *
                generalize w6.heap.size = T7 at *
                obtain ⟨q0, q1, q2, q3⟩ := (after _ B7.out).out
                have z0 := lies_cell L7.out 0
                have z1 := lies_cell L7.out 1
                simp only [List.getElem?_toArray, List.getElem?_cons_zero, List.getElem?_cons_succ] at z0 z1
                obtain ⟨NA7, nc7, e7, hN7⟩ := copy_nodes C7.out
                obtain ⟨FA7, fc7, e8, hF7⟩ := copy_files C7.out
                obtain ⟨rfl, rfl⟩ : A6 = NA7 ∧ E6 = nc7 := by injection e7 with h1 h2 h3; exact ⟨h1, h3⟩
                obtain ⟨rfl, rfl⟩ : A7 = FA7 ∧ E7 = fc7 := by injection e8 with h1 h2 h3; exact ⟨h1, h3⟩
                clear e7 e8
                have KSS := KS W7 A6 A7 E6 E7 ns fs (up _ B7.out) hN7 hF7 HPN.out
                rw [show sameT ns fs ns fs = true from by unfold sameT; simp [LO.out], ← NE.out, ← ME.out] at KSS
                clear hN7 hF7 KS C7
                go_upto_region 22 with (first
                  | (go_at_call 13; (with_reducible refine (num_any _ _).mono ?_); rintro e w3' ⟨rfl, rfl⟩)
                  | (go_at_call 18; (with_reducible refine KSS.out.mono ?_); rintro e w8 ⟨rfl, hb⟩; have B8 := Lib.hid (B7.out.trans (hb.mono B7.out.size)); clear hb))
                clear q0 q1 q2 q3 z0 z1
                obtain ⟨q0, q1, q2, q3⟩ := (after _ B8.out).out
                have KY2 := fun (W : World) (hb : Below w.heap.size w W) => KY W hb SS.out LO.out
                clear KY KSS
                by_cases hzo : looseE os gs = 0
                · have SB : sameT ns fs os gs = same (bytesT ns fs) (bytesT os gs) := by
                    unfold sameT same
                    by_cases h1 : ns = os ∧ fs = gs
                    · obtain ⟨rfl, rfl⟩ := h1
                      simp [LO.out]
                    · have h2 : bytesT ns fs ≠ bytesT os gs := fun e => h1 (bytes_inj LO.out hzo e)
                      rw [decide_eq_false h2]
                      by_cases h3 : ns = os
                      · have h4 : ¬ fs = gs := fun e => h1 ⟨h3, e⟩
                        simp [h4]
                      · simp [h3]
                  have KYO2 := fun (W : World) (hb : Below w.heap.size w W) => KYO W hb SO.out hzo
                  have KSO2 := fun (W : World) (hb : Below w.heap.size w W) => KSO W hb SS.out
                  rw [SB] at KSO2
                  clear KYO KSO KNO SB hzo
                  generalize bytesT ns fs = b1 at *
                  generalize bytesT os gs = b2 at *
                  go_upto_region 23 with (go_at_call 19; (with_reducible refine (KY2 _ (up _ B8.out)).out.mono ?_); rintro e w9 ⟨vb, rfl, ho, hb⟩; obtain ⟨DA9, dc9, rfl, hb9⟩ := own_bytes ho; have HB9 := Lib.hid hb9; have B9 := Lib.hid (B8.out.trans (hb.mono B8.out.size)); clear hb hb9 ho; obtain ⟨m0, m1, m2, m3⟩ := (after _ B9.out).out)
                  go_upto_region 24 with (go_at_call 19; (with_reducible refine (KYO2 _ (up _ B9.out)).out.mono ?_); rintro e w10 ⟨vc, rfl, ho, hb⟩; obtain ⟨DA10, dc10, rfl, hb10⟩ := own_bytes ho; have HB10 := Lib.hid hb10; have HB910 := Lib.hid (bytesAt_below HB9.out hb); have B10 := Lib.hid (B9.out.trans (hb.mono B9.out.size)); clear hb hb10 ho; obtain ⟨o0, o1, o2, o3⟩ := (after _ B10.out).out)
                  have cv1 := run_text48 DA9 b1 dc9 w10 HB910.out
                  have cv2 := run_text48 DA10 b2 dc10 w10 HB10.out
                  generalize hl1 : b1.length = l1 at *
                  generalize hl2 : b2.length = l2 at *
                  have BL1 := Lib.hid hl1
                  have BL2 := Lib.hid hl2
                  clear hl1 hl2 cv1 cv2 q0 q1 q2 q3 m0 m1 m2 m3 o0 o1 o2 o3
                  refine wp_region_any (by kernel_rfl) ?_
                  refine every_inv (own := ownAll _) (vals := fun j => match j with | 0 => .int .i64 0 | 1 => .int .i64 0 | 2 => .bool false | 3 => .bool false | 4 => .slice DA9 l1 dc9 | 5 => St b1 | 6 => .slice DA10 l2 dc10 | 7 => St b2 | 8 => .bool (same b1 b2) | 9 => .agg #[.slice NA i nc, .slice FA m fc] | 10 => .agg #[.slice MA on mc, .slice GA gn gc] | 11 => .bool (same b1 b2) | 12 => .bool true | 13 => .bool true | 14 => .bool true | _ => undef) id (fun W => Below w10.heap.size w10 W) (acAll_of (by kernel_rfl)) (onAll_of (by kernel_rfl)) (dstAll_of (by kernel_rfl)) ?hop ?hend _ _ _ _ rfl (of_decide_eq_true (by kernel_rfl)) (tabd_start (fun i => rep_false _ i)) (Below.refl _ w10).drew
                  case hop =>
                    intro j oi a w0 listed hoi hdeps ht hI
                    have hj : j < 15 := (Array.getElem?_eq_some_iff.1 hoi).1
                    have cj : j = 0 ∨ j = 1 ∨ j = 2 ∨ j = 3 ∨ j = 4 ∨ j = 5 ∨ j = 6 ∨ j = 7 ∨ j = 8 ∨ j = 9 ∨ j = 10 ∨ j = 11 ∨ j = 12 ∨ j = 13 ∨ j = 14 := by omega
                    obtain rfl | rfl | rfl | rfl | rfl | rfl | rfl | rfl | rfl | rfl | rfl | rfl | rfl | rfl | rfl := cj
                    all_goals obtain rfl := Option.some.inj hoi
                    · have e20 : a.eval (.tmp 20) = .int .i64 0 := (tabd_old ht (t := 20) (of_decide_eq_true (by kernel_rfl)) (by kernel_rfl)).trans rfl
                      exact .inl ⟨rfl, fun K hk => wp_val (v := .int .i64 0) (by generalize a.eval = ρ at *; unfold execOp; simp only [e20]; go_simp) (hk _ hI)⟩
                    · have d0 := hdeps ⟨0, .data⟩ (by simp) rfl
                      have e124 : a.eval (.tmp 124) = .int .i64 0 := tabd_at ht (t := 124) (of_decide_eq_true (by kernel_rfl)) (by kernel_rfl) d0
                      have ef13 : a.eval (.func 13) = .func (.func 13) #[] #[] := rfl
                      exact .inl ⟨rfl, fun K hk => wp_callI (v := .int .i64 0) (by generalize a.eval = ρ at *; unfold execOp; simp only [e124, ef13]; go_simp) ((num_any 0 w0).mono (fun _ _ h => ⟨h.1, h.2 ▸ hI⟩)) hk⟩
                    · have d1 := hdeps ⟨1, .data⟩ (by simp) rfl
                      have e125 : a.eval (.tmp 125) = .int .i64 0 := tabd_at ht (t := 125) (of_decide_eq_true (by kernel_rfl)) (by kernel_rfl) d1
                      have ec1 : a.eval (.const (Value.int IntKind.i64 0)) = (Value.int IntKind.i64 0) := rfl
                      exact .inl ⟨rfl, fun K hk => wp_val (v := .bool false) (by generalize a.eval = ρ at *; unfold execOp; simp only [e125, ec1]; go_simp) (hk _ hI)⟩
                    · have d2 := hdeps ⟨2, .data⟩ (by simp) rfl
                      have d1 := hdeps ⟨1, .chain⟩ (by simp) rfl
                      have e126 : a.eval (.tmp 126) = .bool false := tabd_at ht (t := 126) (of_decide_eq_true (by kernel_rfl)) (by kernel_rfl) d2
                      exact .inl ⟨rfl, fun K hk => wp_val (v := .bool false) (by generalize a.eval = ρ at *; unfold execOp; simp only [e126]; go_simp) (hk _ hI)⟩
                    · have d3 := hdeps ⟨3, .guard⟩ (by simp) rfl
                      have e17 : a.eval (.tmp 17) = .slice DA9 l1 dc9 := (tabd_old ht (t := 17) (of_decide_eq_true (by kernel_rfl)) (by kernel_rfl)).trans rfl
                      exact .inl ⟨(tabd_wanted ht rfl rfl (of_decide_eq_true (by kernel_rfl)) (by kernel_rfl) d3 rfl), fun K hk => wp_val (v := .slice DA9 l1 dc9) (by generalize a.eval = ρ at *; unfold execOp; simp only [e17]; go_simp) (hk _ hI)⟩
                    · have d4 := hdeps ⟨4, .data⟩ (by simp) rfl
                      have d3 := hdeps ⟨3, .guard⟩ (by simp) rfl
                      have e128 : a.eval (.tmp 128) = .slice DA9 l1 dc9 := tabd_at ht (t := 128) (of_decide_eq_true (by kernel_rfl)) (by kernel_rfl) d4
                      exact .inl ⟨(tabd_wanted ht rfl rfl (of_decide_eq_true (by kernel_rfl)) (by kernel_rfl) d3 rfl), fun K hk => wp_val (v := St b1) (by have hc := run_text48 DA9 b1 dc9 w0 (bytesAt_below HB910.out hI); rw [BL1.out] at hc; generalize a.eval = ρ at *; unfold execOp; simp only [e128]; go_simp) (hk _ hI)⟩
                    · have d3 := hdeps ⟨3, .guard⟩ (by simp) rfl
                      have e19 : a.eval (.tmp 19) = .slice DA10 l2 dc10 := (tabd_old ht (t := 19) (of_decide_eq_true (by kernel_rfl)) (by kernel_rfl)).trans rfl
                      exact .inl ⟨(tabd_wanted ht rfl rfl (of_decide_eq_true (by kernel_rfl)) (by kernel_rfl) d3 rfl), fun K hk => wp_val (v := .slice DA10 l2 dc10) (by generalize a.eval = ρ at *; unfold execOp; simp only [e19]; go_simp) (hk _ hI)⟩
                    · have d6 := hdeps ⟨6, .data⟩ (by simp) rfl
                      have d3 := hdeps ⟨3, .guard⟩ (by simp) rfl
                      have e130 : a.eval (.tmp 130) = .slice DA10 l2 dc10 := tabd_at ht (t := 130) (of_decide_eq_true (by kernel_rfl)) (by kernel_rfl) d6
                      exact .inl ⟨(tabd_wanted ht rfl rfl (of_decide_eq_true (by kernel_rfl)) (by kernel_rfl) d3 rfl), fun K hk => wp_val (v := St b2) (by have hc := run_text48 DA10 b2 dc10 w0 (bytesAt_below HB10.out hI); rw [BL2.out] at hc; generalize a.eval = ρ at *; unfold execOp; simp only [e130]; go_simp) (hk _ hI)⟩
                    · have d5 := hdeps ⟨5, .data⟩ (by simp) rfl
                      have d7 := hdeps ⟨7, .data⟩ (by simp) rfl
                      have d3 := hdeps ⟨3, .guard⟩ (by simp) rfl
                      have e129 : a.eval (.tmp 129) = St b1 := tabd_at ht (t := 129) (of_decide_eq_true (by kernel_rfl)) (by kernel_rfl) d5
                      have e131 : a.eval (.tmp 131) = St b2 := tabd_at ht (t := 131) (of_decide_eq_true (by kernel_rfl)) (by kernel_rfl) d7
                      exact .inl ⟨(tabd_wanted ht rfl rfl (of_decide_eq_true (by kernel_rfl)) (by kernel_rfl) d3 rfl), fun K hk => wp_val (v := .bool (same b1 b2)) (by generalize a.eval = ρ at *; unfold execOp; simp only [e129, e131]; go_simp) (hk _ hI)⟩
                    · have d3 := hdeps ⟨3, .guard⟩ (by simp) rfl
                      have e3 : a.eval (.tmp 3) = .pointer (some ⟨w.heap.size, 0, none⟩) := (tabd_old ht (t := 3) (of_decide_eq_true (by kernel_rfl)) (by kernel_rfl)).trans rfl
                      exact .inl ⟨(tabd_wanted ht rfl rfl (of_decide_eq_true (by kernel_rfl)) (by kernel_rfl) d3 rfl), fun K hk => wp_val (v := .agg #[.slice NA i nc, .slice FA m fc]) (load_op 25 _ rfl w.heap.size 0 e3 [.slice NA i nc, .slice FA m fc] _ (have h := (after _ (B10.out.trans (hI.mono B10.out.size))).out; range2s h.1 h.2.1) Try.underlying25 rfl (by kernel_rfl)) (hk _ hI)⟩
                    · have d3 := hdeps ⟨3, .guard⟩ (by simp) rfl
                      have e4 : a.eval (.tmp 4) = .pointer (some ⟨w.heap.size + 1, 0, none⟩) := (tabd_old ht (t := 4) (of_decide_eq_true (by kernel_rfl)) (by kernel_rfl)).trans rfl
                      exact .inl ⟨(tabd_wanted ht rfl rfl (of_decide_eq_true (by kernel_rfl)) (by kernel_rfl) d3 rfl), fun K hk => wp_val (v := .agg #[.slice MA on mc, .slice GA gn gc]) (load_op 25 _ rfl (w.heap.size + 1) 0 e4 [.slice MA on mc, .slice GA gn gc] _ (have h := (after _ (B10.out.trans (hI.mono B10.out.size))).out; range2s h.2.2.1 h.2.2.2) Try.underlying25 rfl (by kernel_rfl)) (hk _ hI)⟩
                    · have d9 := hdeps ⟨9, .data⟩ (by simp) rfl
                      have d10 := hdeps ⟨10, .data⟩ (by simp) rfl
                      have d3 := hdeps ⟨3, .chain⟩ (by simp) rfl
                      have e133 : a.eval (.tmp 133) = .agg #[.slice NA i nc, .slice FA m fc] := tabd_at ht (t := 133) (of_decide_eq_true (by kernel_rfl)) (by kernel_rfl) d9
                      have e134 : a.eval (.tmp 134) = .agg #[.slice MA on mc, .slice GA gn gc] := tabd_at ht (t := 134) (of_decide_eq_true (by kernel_rfl)) (by kernel_rfl) d10
                      have ef18 : a.eval (.func 18) = .func (.func 18) #[] #[] := rfl
                      exact .inl ⟨(tabd_wanted ht rfl rfl (of_decide_eq_true (by kernel_rfl)) (by kernel_rfl) d3 rfl), fun K hk => wp_callI (v := .bool (same b1 b2)) (by generalize a.eval = ρ at *; unfold execOp; simp only [e133, e134, ef18]; go_simp) ((KSO2 _ (up _ (B10.out.trans (hI.mono B10.out.size)))).out.mono (fun _ _ h => ⟨h.1, hI.trans (h.2.mono hI.size)⟩)) hk⟩
                    · have d8 := hdeps ⟨8, .data⟩ (by simp) rfl
                      have d11 := hdeps ⟨11, .data⟩ (by simp) rfl
                      have d3 := hdeps ⟨3, .guard⟩ (by simp) rfl
                      have e132 : a.eval (.tmp 132) = .bool (same b1 b2) := tabd_at ht (t := 132) (of_decide_eq_true (by kernel_rfl)) (by kernel_rfl) d8
                      have e135 : a.eval (.tmp 135) = .bool (same b1 b2) := tabd_at ht (t := 135) (of_decide_eq_true (by kernel_rfl)) (by kernel_rfl) d11
                      exact .inl ⟨(tabd_wanted ht rfl rfl (of_decide_eq_true (by kernel_rfl)) (by kernel_rfl) d3 rfl), fun K hk => wp_val (v := .bool true) (by generalize a.eval = ρ at *; unfold execOp; simp only [e132, e135]; go_simp) (hk _ hI)⟩
                    · have d3 := hdeps ⟨3, .data⟩ (by simp) rfl
                      have d12 := hdeps ⟨12, .data⟩ (by simp) rfl
                      have e127 : a.eval (.tmp 127) = .bool false := tabd_at ht (t := 127) (of_decide_eq_true (by kernel_rfl)) (by kernel_rfl) d3
                      have e136 : a.eval (.tmp 136) = .bool true := tabd_at ht (t := 136) (of_decide_eq_true (by kernel_rfl)) (by kernel_rfl) d12
                      have ec2 : a.eval (.const (Value.bool true)) = (Value.bool true) := rfl
                      exact .inl ⟨rfl, fun K hk => wp_val (v := .bool true) (by generalize a.eval = ρ at *; unfold execOp; simp only [e127, e136, ec2]; go_simp) (hk _ hI)⟩
                    · have d13 := hdeps ⟨13, .data⟩ (by simp) rfl
                      have d11 := hdeps ⟨11, .chain⟩ (by simp) rfl
                      have e137 : a.eval (.tmp 137) = .bool true := tabd_at ht (t := 137) (of_decide_eq_true (by kernel_rfl)) (by kernel_rfl) d13
                      exact .inl ⟨rfl, fun K hk => wp_val (v := .bool true) (by generalize a.eval = ρ at *; unfold execOp; simp only [e137]; go_simp) (hk _ hI)⟩
                  case hend =>
                    intro a w0 listed hall ht hI
                    rw [tabd_fill ht (fun t i ho => hall i (ownAll_lt ho))]
                    change Exit.then _ _ Exit.normal { tmps := (.agg #[.slice NA i nc, .slice FA m fc] :: .agg #[.slice MA on mc, .slice GA gn gc] :: .int .i64 (r : Int) :: .pointer (some ⟨w.heap.size, 0, none⟩) :: .pointer (some ⟨w.heap.size + 1, 0, none⟩) :: undef :: .bool true :: .bool true :: .bool false :: .bool false :: .pointer (some ⟨T, 0, none⟩) :: .int .i64 (i : Int) :: .int .i64 (i : Int) :: u13 :: .int .i64 (-1) :: .pointer (some ⟨T7, 0, none⟩) :: .int .i64 0 :: .slice DA9 l1 dc9 :: .int .i64 0 :: .slice DA10 l2 dc10 :: .int .i64 0 :: .bool true :: .agg #[.slice NA i nc, .slice FA m fc] :: .bool false :: .agg #[.slice MA on mc, .slice GA gn gc] :: .bool false :: .bool true :: .bool false :: .bool false :: .bool false :: .bool false :: .bool false :: .bool false :: .bool false :: .bool false :: .int .i64 (r : Int) :: .bool false :: .bool false :: .bool false :: .agg #[.slice NA i nc, .slice FA m fc] :: .int .i64 0 :: .int .i64 0 :: .bool false :: .bool false :: undef :: .pointer (some ⟨w.heap.size, 0, none⟩) :: .slice NA i nc :: .int .i64 (i : Int) :: .int .i64 (i : Int) :: .int .i64 (i : Int) :: .bool false :: u51 :: u52 :: u53 :: u54 :: u55 :: u56 :: u57 :: u58 :: u59 :: u60 :: u61 :: u62 :: u63 :: u64 :: u65 :: u66 :: u67 :: u68 :: u69 :: u70 :: u71 :: u72 :: u73 :: u74 :: u75 :: u76 :: u77 :: u78 :: u79 :: u80 :: u81 :: .pointer (some ⟨w.heap.size, 1, none⟩) :: .slice FA m fc :: .int .i64 (m : Int) :: .int .i64 ((m : Int) - 1) :: .int .i64 (-1) :: .bool false :: u88 :: u89 :: u90 :: u91 :: u92 :: u93 :: u94 :: u95 :: u96 :: u97 :: u98 :: u99 :: .tuple #[.agg #[.slice A6 i E6, .slice A7 m E7], .int .i64 0] :: .agg #[.slice A1 i C1, .slice A2 m C2] :: .tuple #[.agg #[.slice A6 i E6, .slice A7 m E7], .int .i64 0] :: .agg #[.slice A6 i E6, .slice A7 m E7] :: .int .i64 0 :: .int .i64 0 :: .int .i64 0 :: .bool false :: .bool false :: .agg #[.slice A6 i E6, .slice A7 m E7] :: .agg #[.slice NA i nc, .slice FA m fc] :: .bool true :: .bool false :: .bool false :: .tuple #[.slice DA9 l1 dc9, .int .i64 0] :: .agg #[.slice NA i nc, .slice FA m fc] :: .tuple #[.slice DA9 l1 dc9, .int .i64 0] :: .slice DA9 l1 dc9 :: .int .i64 0 :: .tuple #[.slice DA10 l2 dc10, .int .i64 0] :: .agg #[.slice MA on mc, .slice GA gn gc] :: .tuple #[.slice DA10 l2 dc10, .int .i64 0] :: .slice DA10 l2 dc10 :: .int .i64 0 :: .int .i64 0 :: .int .i64 0 :: .bool false :: .bool false :: .slice DA9 l1 dc9 :: St b1 :: .slice DA10 l2 dc10 :: St b2 :: .bool (same b1 b2) :: .agg #[.slice NA i nc, .slice FA m fc] :: .agg #[.slice MA on mc, .slice GA gn gc] :: .bool (same b1 b2) :: .bool true :: .bool true :: []).toArray, defers := [] } w0
                    clear hall ht
                    go_wp2
                    go_ret
                    exact ⟨rfl, up _ (B10.out.trans (hI.mono B10.out.size))⟩
                · have KNO2 := fun (W : World) (hb : Below w.heap.size w W) => KNO W hb SO.out hzo
                  clear KYO KSO KNO
                  generalize bytesT ns fs = b1 at *
                  generalize looseE os gs = z at *
                  have zn : (z != 0) = true := by simpa using hzo
                  have zb : (z == 0) = false := by simpa using hzo
                  clear hzo
                  go_upto_region 23 with (go_at_call 19; (with_reducible refine (KY2 _ (up _ B8.out)).out.mono ?_); rintro e w9 ⟨vb, rfl, ho, hb⟩; obtain ⟨DA9, dc9, rfl, hb9⟩ := own_bytes ho; have B9 := Lib.hid (B8.out.trans (hb.mono B8.out.size)); clear hb hb9 ho; obtain ⟨m0, m1, m2, m3⟩ := (after _ B9.out).out)
                  go_upto_region 24 with (go_at_call 19; (with_reducible refine (KNO2 _ (up _ B9.out)).out.mono ?_); rintro e w10 ⟨rfl, hb⟩; have B10 := Lib.hid (B9.out.trans (hb.mono B9.out.size)); clear hb; obtain ⟨o0, o1, o2, o3⟩ := (after _ B10.out).out)
                  clear q0 q1 q2 q3 m0 m1 m2 m3 o0 o1 o2 o3
                  refine wp_region_any (by kernel_rfl) ?_
                  refine every_inv (own := ownAll _) (vals := fun j => match j with | 0 => .int .i64 z | 1 => .int .i64 z | 2 => .bool true | 3 => .bool true | 4 => undef | 5 => undef | 6 => undef | 7 => undef | 8 => undef | 9 => undef | 10 => undef | 11 => undef | 12 => undef | 13 => .bool true | 14 => .bool true | _ => undef) id (fun W => Below w10.heap.size w10 W) (acAll_of (by kernel_rfl)) (onAll_of (by kernel_rfl)) (dstAll_of (by kernel_rfl)) ?hop ?hend _ _ _ _ rfl (of_decide_eq_true (by kernel_rfl)) (tabd_start (fun i => rep_false _ i)) (Below.refl _ w10).drew
                  case hop =>
                    intro j oi a w0 listed hoi hdeps ht hI
                    have hj : j < 15 := (Array.getElem?_eq_some_iff.1 hoi).1
                    have cj : j = 0 ∨ j = 1 ∨ j = 2 ∨ j = 3 ∨ j = 4 ∨ j = 5 ∨ j = 6 ∨ j = 7 ∨ j = 8 ∨ j = 9 ∨ j = 10 ∨ j = 11 ∨ j = 12 ∨ j = 13 ∨ j = 14 := by omega
                    obtain rfl | rfl | rfl | rfl | rfl | rfl | rfl | rfl | rfl | rfl | rfl | rfl | rfl | rfl | rfl := cj
                    all_goals obtain rfl := Option.some.inj hoi
                    · have e20 : a.eval (.tmp 20) = .int .i64 z := (tabd_old ht (t := 20) (of_decide_eq_true (by kernel_rfl)) (by kernel_rfl)).trans rfl
                      exact .inl ⟨rfl, fun K hk => wp_val (v := .int .i64 z) (by generalize a.eval = ρ at *; unfold execOp; simp only [e20, zn]; go_simp) (hk _ hI)⟩
                    · have d0 := hdeps ⟨0, .data⟩ (by simp) rfl
                      have e124 : a.eval (.tmp 124) = .int .i64 z := tabd_at ht (t := 124) (of_decide_eq_true (by kernel_rfl)) (by kernel_rfl) d0
                      have ef13 : a.eval (.func 13) = .func (.func 13) #[] #[] := rfl
                      exact .inl ⟨rfl, fun K hk => wp_callI (v := .int .i64 z) (by generalize a.eval = ρ at *; unfold execOp; simp only [e124, ef13, zn]; go_simp) ((num_any z w0).mono (fun _ _ h => ⟨h.1, h.2 ▸ hI⟩)) hk⟩
                    · have d1 := hdeps ⟨1, .data⟩ (by simp) rfl
                      have e125 : a.eval (.tmp 125) = .int .i64 z := tabd_at ht (t := 125) (of_decide_eq_true (by kernel_rfl)) (by kernel_rfl) d1
                      have ec1 : a.eval (.const (Value.int IntKind.i64 0)) = (Value.int IntKind.i64 0) := rfl
                      exact .inl ⟨rfl, fun K hk => wp_val (v := .bool true) (by generalize a.eval = ρ at *; unfold execOp; simp only [e125, ec1, zn]; go_simp) (hk _ hI)⟩
                    · have d2 := hdeps ⟨2, .data⟩ (by simp) rfl
                      have d1 := hdeps ⟨1, .chain⟩ (by simp) rfl
                      have e126 : a.eval (.tmp 126) = .bool true := tabd_at ht (t := 126) (of_decide_eq_true (by kernel_rfl)) (by kernel_rfl) d2
                      exact .inl ⟨rfl, fun K hk => wp_val (v := .bool true) (by generalize a.eval = ρ at *; unfold execOp; simp only [e126, zn]; go_simp) (hk _ hI)⟩
                    · have d3 := hdeps ⟨3, .guard⟩ (by simp) rfl
                      have e17 : a.eval (.tmp 17) = .slice DA9 (List.length b1) dc9 := (tabd_old ht (t := 17) (of_decide_eq_true (by kernel_rfl)) (by kernel_rfl)).trans rfl
                      exact .inr ⟨tabd_unwanted ht rfl rfl (of_decide_eq_true (by kernel_rfl)) (by kernel_rfl) d3 rfl (by decide), rfl⟩
                    · have d4 := hdeps ⟨4, .data⟩ (by simp) rfl
                      have d3 := hdeps ⟨3, .guard⟩ (by simp) rfl
                      have e128 : a.eval (.tmp 128) = undef := tabd_at ht (t := 128) (of_decide_eq_true (by kernel_rfl)) (by kernel_rfl) d4
                      exact .inr ⟨tabd_unwanted ht rfl rfl (of_decide_eq_true (by kernel_rfl)) (by kernel_rfl) d3 rfl (by decide), rfl⟩
                    · have d3 := hdeps ⟨3, .guard⟩ (by simp) rfl
                      have e19 : a.eval (.tmp 19) = .slice none 0 0 := (tabd_old ht (t := 19) (of_decide_eq_true (by kernel_rfl)) (by kernel_rfl)).trans rfl
                      exact .inr ⟨tabd_unwanted ht rfl rfl (of_decide_eq_true (by kernel_rfl)) (by kernel_rfl) d3 rfl (by decide), rfl⟩
                    · have d6 := hdeps ⟨6, .data⟩ (by simp) rfl
                      have d3 := hdeps ⟨3, .guard⟩ (by simp) rfl
                      have e130 : a.eval (.tmp 130) = undef := tabd_at ht (t := 130) (of_decide_eq_true (by kernel_rfl)) (by kernel_rfl) d6
                      exact .inr ⟨tabd_unwanted ht rfl rfl (of_decide_eq_true (by kernel_rfl)) (by kernel_rfl) d3 rfl (by decide), rfl⟩
                    · have d5 := hdeps ⟨5, .data⟩ (by simp) rfl
                      have d7 := hdeps ⟨7, .data⟩ (by simp) rfl
                      have d3 := hdeps ⟨3, .guard⟩ (by simp) rfl
                      have e129 : a.eval (.tmp 129) = undef := tabd_at ht (t := 129) (of_decide_eq_true (by kernel_rfl)) (by kernel_rfl) d5
                      have e131 : a.eval (.tmp 131) = undef := tabd_at ht (t := 131) (of_decide_eq_true (by kernel_rfl)) (by kernel_rfl) d7
                      exact .inr ⟨tabd_unwanted ht rfl rfl (of_decide_eq_true (by kernel_rfl)) (by kernel_rfl) d3 rfl (by decide), rfl⟩
                    · have d3 := hdeps ⟨3, .guard⟩ (by simp) rfl
                      have e3 : a.eval (.tmp 3) = .pointer (some ⟨w.heap.size, 0, none⟩) := (tabd_old ht (t := 3) (of_decide_eq_true (by kernel_rfl)) (by kernel_rfl)).trans rfl
                      exact .inr ⟨tabd_unwanted ht rfl rfl (of_decide_eq_true (by kernel_rfl)) (by kernel_rfl) d3 rfl (by decide), rfl⟩
                    · have d3 := hdeps ⟨3, .guard⟩ (by simp) rfl
                      have e4 : a.eval (.tmp 4) = .pointer (some ⟨w.heap.size + 1, 0, none⟩) := (tabd_old ht (t := 4) (of_decide_eq_true (by kernel_rfl)) (by kernel_rfl)).trans rfl
                      exact .inr ⟨tabd_unwanted ht rfl rfl (of_decide_eq_true (by kernel_rfl)) (by kernel_rfl) d3 rfl (by decide), rfl⟩
                    · have d9 := hdeps ⟨9, .data⟩ (by simp) rfl
                      have d10 := hdeps ⟨10, .data⟩ (by simp) rfl
                      have d3 := hdeps ⟨3, .chain⟩ (by simp) rfl
                      have e133 : a.eval (.tmp 133) = undef := tabd_at ht (t := 133) (of_decide_eq_true (by kernel_rfl)) (by kernel_rfl) d9
                      have e134 : a.eval (.tmp 134) = undef := tabd_at ht (t := 134) (of_decide_eq_true (by kernel_rfl)) (by kernel_rfl) d10
                      have ef18 : a.eval (.func 18) = .func (.func 18) #[] #[] := rfl
                      exact .inr ⟨tabd_unwanted ht rfl rfl (of_decide_eq_true (by kernel_rfl)) (by kernel_rfl) d3 rfl (by decide), rfl⟩
                    · have d8 := hdeps ⟨8, .data⟩ (by simp) rfl
                      have d11 := hdeps ⟨11, .data⟩ (by simp) rfl
                      have d3 := hdeps ⟨3, .guard⟩ (by simp) rfl
                      have e132 : a.eval (.tmp 132) = undef := tabd_at ht (t := 132) (of_decide_eq_true (by kernel_rfl)) (by kernel_rfl) d8
                      have e135 : a.eval (.tmp 135) = undef := tabd_at ht (t := 135) (of_decide_eq_true (by kernel_rfl)) (by kernel_rfl) d11
                      exact .inr ⟨tabd_unwanted ht rfl rfl (of_decide_eq_true (by kernel_rfl)) (by kernel_rfl) d3 rfl (by decide), rfl⟩
                    · have d3 := hdeps ⟨3, .data⟩ (by simp) rfl
                      have d12 := hdeps ⟨12, .data⟩ (by simp) rfl
                      have e127 : a.eval (.tmp 127) = .bool true := tabd_at ht (t := 127) (of_decide_eq_true (by kernel_rfl)) (by kernel_rfl) d3
                      have e136 : a.eval (.tmp 136) = undef := tabd_at ht (t := 136) (of_decide_eq_true (by kernel_rfl)) (by kernel_rfl) d12
                      have ec2 : a.eval (.const (Value.bool true)) = (Value.bool true) := rfl
                      exact .inl ⟨rfl, fun K hk => wp_val (v := .bool true) (by generalize a.eval = ρ at *; unfold execOp; simp only [e127, e136, ec2, zn]; go_simp) (hk _ hI)⟩
                    · have d13 := hdeps ⟨13, .data⟩ (by simp) rfl
                      have d11 := hdeps ⟨11, .chain⟩ (by simp) rfl
                      have e137 : a.eval (.tmp 137) = .bool true := tabd_at ht (t := 137) (of_decide_eq_true (by kernel_rfl)) (by kernel_rfl) d13
                      exact .inl ⟨rfl, fun K hk => wp_val (v := .bool true) (by generalize a.eval = ρ at *; unfold execOp; simp only [e137, zn]; go_simp) (hk _ hI)⟩
                  case hend =>
                    intro a w0 listed hall ht hI
                    rw [tabd_fill ht (fun t i ho => hall i (ownAll_lt ho))]
                    change Exit.then _ _ Exit.normal { tmps := (.agg #[.slice NA i nc, .slice FA m fc] :: .agg #[.slice MA on mc, .slice GA gn gc] :: .int .i64 (r : Int) :: .pointer (some ⟨w.heap.size, 0, none⟩) :: .pointer (some ⟨w.heap.size + 1, 0, none⟩) :: undef :: .bool true :: .bool true :: .bool false :: .bool false :: .pointer (some ⟨T, 0, none⟩) :: .int .i64 (i : Int) :: .int .i64 (i : Int) :: u13 :: .int .i64 (-1) :: .pointer (some ⟨T7, 0, none⟩) :: .int .i64 0 :: .slice DA9 (List.length b1) dc9 :: .int .i64 0 :: .slice none 0 0 :: .int .i64 z :: .bool true :: .agg #[.slice NA i nc, .slice FA m fc] :: .bool false :: .agg #[.slice MA on mc, .slice GA gn gc] :: .bool false :: .bool true :: .bool false :: .bool false :: .bool false :: .bool false :: .bool false :: .bool false :: .bool false :: .bool false :: .int .i64 (r : Int) :: .bool false :: .bool false :: .bool false :: .agg #[.slice NA i nc, .slice FA m fc] :: .int .i64 0 :: .int .i64 0 :: .bool false :: .bool false :: undef :: .pointer (some ⟨w.heap.size, 0, none⟩) :: .slice NA i nc :: .int .i64 (i : Int) :: .int .i64 (i : Int) :: .int .i64 (i : Int) :: .bool false :: u51 :: u52 :: u53 :: u54 :: u55 :: u56 :: u57 :: u58 :: u59 :: u60 :: u61 :: u62 :: u63 :: u64 :: u65 :: u66 :: u67 :: u68 :: u69 :: u70 :: u71 :: u72 :: u73 :: u74 :: u75 :: u76 :: u77 :: u78 :: u79 :: u80 :: u81 :: .pointer (some ⟨w.heap.size, 1, none⟩) :: .slice FA m fc :: .int .i64 (m : Int) :: .int .i64 ((m : Int) - 1) :: .int .i64 (-1) :: .bool false :: u88 :: u89 :: u90 :: u91 :: u92 :: u93 :: u94 :: u95 :: u96 :: u97 :: u98 :: u99 :: .tuple #[.agg #[.slice A6 i E6, .slice A7 m E7], .int .i64 0] :: .agg #[.slice A1 i C1, .slice A2 m C2] :: .tuple #[.agg #[.slice A6 i E6, .slice A7 m E7], .int .i64 0] :: .agg #[.slice A6 i E6, .slice A7 m E7] :: .int .i64 0 :: .int .i64 0 :: .int .i64 0 :: .bool false :: .bool false :: .agg #[.slice A6 i E6, .slice A7 m E7] :: .agg #[.slice NA i nc, .slice FA m fc] :: .bool true :: .bool false :: .bool false :: .tuple #[.slice DA9 (List.length b1) dc9, .int .i64 0] :: .agg #[.slice NA i nc, .slice FA m fc] :: .tuple #[.slice DA9 (List.length b1) dc9, .int .i64 0] :: .slice DA9 (List.length b1) dc9 :: .int .i64 0 :: .tuple #[.slice none 0 0, .int .i64 z] :: .agg #[.slice MA on mc, .slice GA gn gc] :: .tuple #[.slice none 0 0, .int .i64 z] :: .slice none 0 0 :: .int .i64 z :: .int .i64 z :: .int .i64 z :: .bool true :: .bool true :: undef :: undef :: undef :: undef :: undef :: undef :: undef :: undef :: undef :: .bool true :: []).toArray, defers := [] } w0
                    clear hall ht
                    go_wp2
                    go_ret
                    exact ⟨rfl, up _ (B10.out.trans (hI.mono B10.out.size))⟩
      · have hzn : (looseE ns fs != 0) = true := by simpa using hz
        have hzb : (looseE ns fs == 0) = false := by simpa using hz
        clear hz
        generalize looseE ns fs = z at *
        go_wp2_with (first
          | (go_at_call 17; (with_reducible refine (KL _ (up _ B3.out) SS.out).out.mono ?_); rintro e w4 ⟨rfl, hb⟩; have B4 := Lib.hid (B3.out.trans (hb.mono B3.out.size)); clear hb; obtain ⟨s0, s1, s2, s3⟩ := (after _ B4.out).out)
          | (go_at_call 13; (with_reducible refine (num_any _ _).mono ?_); rintro e w3' ⟨rfl, rfl⟩))
        go_ret
        exact ⟨rfl, up _ B4.out⟩
end Go.Proofs.Ytaanihmbnjjhcaa
