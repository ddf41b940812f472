/-
What is proved here: the law TreeParts, by a contract.
-/
import Derived.Test.YtdnagkgblmcojaaPar
import Derived.Test.YtdnagkgblmcojaaBig
import Derived.Test.YtdnagkgblmcojaaAlv
import Derived.Test.YtdnagkgblmcojaaOpx
import Derived.StillTailTactics
set_option linter.unusedSimpArgs false
namespace Go.Proofs.Ytdnagkgblmcojaa
open Go.Pth Go.Tre Go.RowKit Go.Word Go.Shelf
theorem st_geq (t : TypeId) (a b : Bt) : binOp .geq t (St a) (St b) = pure (.bool (!Op.bytesLess a b)) := by
  unfold St
  rw [binOp_string_geq, ByteArray.toList_mk, ByteArray.toList_mk]
theorem range2 {w : World} {b : Nat} {u v : Value} (d1 : w.cell? ⟨b, 0, none⟩ = some u) (d2 : w.cell? ⟨b, 1, none⟩ = some v) : w.rangeAt b 0 [u, v] := fun j x hj => by
  match j, hj with
  | 0, hj => injection hj with hj; subst hj; exact d1
  | 1, hj => injection hj with hj; subst hj; exact d2
attribute [local go_sem] guard_eq guard_ne st_eql st_neq st_geq

set_option maxRecDepth 100000 in
set_option maxHeartbeats 16000000 in
theorem parts_law (NA FA : Option Addr) (nc fc : Nat) (ns : List Nd) (fs : List Fl) (w : World) (hN : NodesAt w NA ns) (hF : FilesAt w FA fs)
    (h1 : ns.length ≤ 140737488355328) (h2 : fs.length ≤ 140737488355328) (h3 : ∀ x ∈ ns, x.path.length ≤ 140737488355328) (h4 : ∀ x ∈ fs, x.data.length ≤ 140737488355328) :
    Calls Try.prog 5 #[.agg #[.slice NA ns.length nc, .slice FA fs.length fc]] w fun e w' => e = .returned (.bool true) ∧ Below w.heap.size w w' := by
  have L := lies_new w 25 #[.slice NA ns.length nc, .slice FA fs.length fc]
  have hB : Below w.heap.size w (w.alloc (.cells #[.slice NA ns.length nc, .slice FA fs.length fc] 25)) := (Below.refl _ _).alloc (Nat.le_refl _) _
  have KB := fun (W : World) (hb : Below w.heap.size w W) => Lib.hid (big_any NA FA nc fc ns fs W (nodesAt_below hN hb) (filesAt_below hF hb) h1 h2 h3 h4)
  have sp : Small ns fs → ∀ x ∈ ns, x.path.length ≤ 100000 := fun hs x hx => Nat.le_trans (hs.2.2.1 x hx) (by decide)
  have KL := fun (W : World) (hb : Below w.heap.size w W) (hs : Small ns fs) => Lib.hid (loose_any NA FA nc fc ns fs W (nodesAt_below hN hb) (filesAt_below hF hb) (sp hs))
  have KF := fun (W : World) (p : Bt) (hb : Below w.heap.size w W) (hs : Small ns fs) => Lib.hid (find_any NA FA nc fc ns fs p W (nodesAt_below hN hb) (filesAt_below hF hb) (sp hs))
  have KN := fun (W : World) (q : Int) (hb : Below w.heap.size w W) (hs : Small ns fs) => Lib.hid (names_any NA FA nc fc ns fs q W (nodesAt_below hN hb) (filesAt_below hF hb) (sp hs))
  have KK := fun (W : World) (p : Bt) (hb : Below w.heap.size w W) (hs : Small ns fs) => Lib.hid (kids_any NA FA nc fc ns fs p W (nodesAt_below hN hb) (filesAt_below hF hb) (sp hs))
  have HN := Lib.hid (nodesAt_below hN hB)
  clear h1 h2 h3 h4 sp
  have x0 := lies_cell L 0
  have x1 := lies_cell L 1
  simp only [List.getElem?_toArray, List.getElem?_cons_zero, List.getElem?_cons_succ] at x0 x1
  have LX := Lib.hid L
  have HB := Lib.hid hB
  clear L hB hN hF
  have hn0 : ∃ n, n = ns.length := ⟨_, rfl⟩
  have hm0 : ∃ m, m = fs.length := ⟨_, rfl⟩
  have NM := Lib.hid (And.intro hn0 hm0)
  clear hn0 hm0
  generalize hne : ns.length = n at *
  generalize hme : fs.length = m at *
  have hne := hne.symm
  have hme := hme.symm
  clear NM
  have NE := Lib.hid hne
  have ME := Lib.hid hme
  clear hne hme
  have after : ∀ W, Below (w.alloc (.cells #[.slice NA n nc, .slice FA m fc] 25)).heap.size (w.alloc (.cells #[.slice NA n nc, .slice FA m fc] 25)) W →
      Hid (W.cell? ⟨w.heap.size, 0, none⟩ = some (.slice NA n nc) ∧ W.cell? ⟨w.heap.size, 1, none⟩ = some (.slice FA m fc)) := fun W hb =>
    Lib.hid ⟨(hb.cell (p := ⟨w.heap.size, 0, none⟩) (lies_lt LX.out)).trans x0, (hb.cell (p := ⟨w.heap.size, 1, none⟩) (lies_lt LX.out)).trans x1⟩
  go_enter Try.func5, Try.ntmps5
  go_upto_region 1 with (fail)
  generalize w.alloc (.cells #[.slice NA n nc, .slice FA m fc] 25) = X at *
  have up : ∀ W, Below X.heap.size X W → Below w.heap.size w W := fun W hb => HB.out.trans (hb.mono HB.out.size)
  go_upto_region 3 with (first
    | (go_at_call 8; (with_reducible refine (alive_any _).mono ?_); rintro e w1 ⟨rfl, hb⟩; obtain ⟨p0, p1⟩ := (after _ hb).out; have B1 := Lib.hid hb; clear hb)
    | (go_at_call 9; (with_reducible refine (KB _ (up _ B1.out)).out.mono ?_); rintro e w2 ⟨⟨b1, rfl, hs1⟩, hb⟩; have S1 := Lib.hid hs1; have B2 := Lib.hid (B1.out.trans (hb.mono B1.out.size)); clear hb hs1; obtain ⟨q0, q1⟩ := (after _ B2.out).out))
  cases b1 with
  | true =>
    go_wp2
    go_ret
    exact ⟨rfl, up _ B2.out⟩
  | false =>
    have SS := Lib.hid (S1.out rfl)
    clear S1 p0 p1 x0 x1
    by_cases hz : looseE ns fs = 0
    · have LO := Lib.hid hz
      rw [hz] at KL
      have h256 : n ≤ 256 ∧ m ≤ 256 := by have := loose_small hz; have := NE.out; have := ME.out; omega
      have hn6 := h256.1
      have hm6 := h256.2
      have KT := Lib.hid (kidsTo_all hz)
      have NT := Lib.hid (names_all hz)
      have hK := fun (W : World) (p : Bt) (hb : Below w.heap.size w W) => KK W p hb SS.out
      have hNn := fun (W : World) (q : Int) (hb : Below w.heap.size w W) => KN W q hb SS.out
      have hFf := fun (W : World) (p : Bt) (hb : Below w.heap.size w W) => KF W p hb SS.out
      simp only [show ∀ p, kidsT ns fs p = kidsP ns p from fun p => by unfold kidsT; rw [if_pos hz]] at hK
      simp only [show ∀ q, namesT ns fs q = namesF ns q from fun q => by unfold namesT; rw [if_pos hz]] at hNn
      simp only [show ∀ p, lookI ns fs p = findI ns p from fun p => by unfold lookI; rw [if_pos hz]] at hFf
      clear hz KK KN KF KB h256
      have KR := Lib.hid (fun (W : World) (hb : Below w.heap.size w W) => (show Hid (Calls Try.prog 12 #[.agg #[.slice NA n nc, .slice FA m fc], .string { data := #[] }] W fun e w' => ∃ A C, e = .returned (.slice A (kidsP ns []).length C) ∧ Tx w' W.heap.size A (kidsP ns []) ∧ Below W.heap.size W w') from hK W [] hb))
      go_upto_region 6 with (first
        | (go_at_call 22; (with_reducible refine (KL _ (up _ B2.out) SS.out).out.mono ?_); rintro e w3 ⟨rfl, hb⟩; have B3 := Lib.hid (B2.out.trans (hb.mono B2.out.size)); clear hb; obtain ⟨r0, r1⟩ := (after _ B3.out).out)
        | (go_at_call 21; (with_reducible refine (num_any _ _).mono ?_); rintro e w3' ⟨rfl, rfl⟩)
        | (go_at_call 12; (with_reducible refine (KR.out _ (up _ B3.out)).out.mono ?_); rintro e w4 ⟨A0, C0, rfl, _, hb⟩; have B4 := Lib.hid (B3.out.trans (hb.mono B3.out.size)); clear hb; obtain ⟨s0, s1⟩ := (after _ B4.out).out))
      have K0 := Lib.hid (show ((kidsP ns []).length : Int) = (kidsTo ns 0 : Int) by unfold kidsTo; simp)
      rw [K0.out]
      go_wp2
      go_loopw [5, 6] (fun v5 v6 wr => ∃ i : Nat, i ≤ n ∧ v6 = .int .i64 (i : Int) ∧ v5 = .int .i64 (kidsTo ns i : Int) ∧ Below X.heap.size X wr) (fun _ v6 _ => n - (intOf v6).toNat)
      case atStart => exact ⟨0, Nat.zero_le _, rfl, rfl, B4.out⟩
      case round =>
        obtain ⟨i, hi, rfl, rfl, hb⟩ := hrel
        have HBW := Lib.hid hb
        obtain ⟨c0, c1⟩ := (after _ hb).out
        clear hb
        by_cases hlt : i < n
        · have li : (i : Int) < (n : Int) := by omega
          have lf : i < ns.length := by have := NE.out; omega
          obtain ⟨b, o, eA, hl, d1, d2, d3⟩ := HN.out i lf
          subst eA
          have DX1 := d1
          have DX2 := d2
          have d1 := (HBW.out.cell (p := ⟨b, o + i * 3, none⟩) hl).trans d1
          have d2 := (HBW.out.cell (p := ⟨b, o + i * 3 + 1, none⟩) hl).trans d2
          have PF := Lib.hid (loose_find LO.out i lf)
          have KS := Lib.hid (kidsTo_succ ns i lf)
          have KM := Lib.hid (show kidsTo ns (i + 1) ≤ 256 by
            have h1 := kidsTo_mono ns (i + 1) (ns.length - (i + 1)) (by omega)
            rw [show i + 1 + (ns.length - (i + 1)) = ns.length by omega, KT.out] at h1
            have := NE.out
            omega)
          have NK := Lib.hid (fun hf => loose_nokids LO.out i lf hf)
          generalize ns[i] = x at *
          obtain ⟨p, f, md⟩ := x
          have D1 : Hid (X.cell? ⟨b, o + i * 3, none⟩ = some (St p)) := Lib.hid DX1
          have D2 : Hid (X.cell? ⟨b, o + i * 3 + 1, none⟩ = some (.int .i64 f)) := Lib.hid DX2
          clear DX1 DX2
          have d1 : wr.cell? ⟨b, o + i * 3, none⟩ = some (St p) := d1
          have d2 : wr.cell? ⟨b, o + i * 3 + 1, none⟩ = some (.int .i64 f) := d2
          have PF2 : Hid (findI ns p = (i : Int)) := PF
          have KS2 : Hid (kidsTo ns (i + 1) = kidsTo ns i + (kidsP ns p).length) := KS
          have NK2 : Hid (f ≠ -1 → kidsP ns p = []) := NK
          have BD := Lib.hid (Below.drew HBW.out)
          have KC := hK wr.drew p (up _ BD.out)
          obtain ⟨kl, hkl⟩ : ∃ kl, kl = (kidsP ns p).length := ⟨_, rfl⟩
          rw [← hkl] at KC KS2
          have KL0 := Lib.hid hkl
          have bnd : kidsTo ns i + kl ≤ 256 := by have := KM.out; have := KS2.out; omega
          clear hkl
          clear d3 PF KS NK
          go_upto_region 9 with (fail)
          go_still_tail 7, (by kernel_rfl)
          change wpList _ _ _ _ _ wr.drew
          generalize wr.drew = w5 at *
          go_upto_region 10 with (go_at_call 12; (with_reducible refine KC.out.mono ?_); rintro e w6 ⟨A1, C1, rfl, _, hb⟩; have B6 := Lib.hid (BD.out.trans (hb.mono BD.out.size)); clear hb; obtain ⟨t0, t1⟩ := (after _ B6.out).out)
          have KF1 := fun (W : World) (hb : Below w.heap.size w W) => hFf W p hb
          rw [PF2.out] at KF1
          have KF2 := fun (W : World) (hb : Below w.heap.size w W) => KF1 W hb
          clear KF1 t0 t1
          by_cases hf : f = -1
          · subst hf
            clear NK2
            refine wp_region_any (by kernel_rfl) ?_
            refine every_inv (own := ownAll _) (vals := fun j => match j with | 0 => .pointer (some ⟨w.heap.size, 0, none⟩) | 1 => .slice (some ⟨b, o, none⟩) n nc | 2 => .int .i64 (i : Int) | 3 => .pointer (some ⟨b, o + i * 3, none⟩) | 4 => .pointer (some ⟨b, o + i * 3 + 1, none⟩) | 5 => .int .i64 (-1) | 6 => .bool false | 7 => .bool false | 8 => undef | 9 => undef | 10 => undef | 11 => .bool false | 12 => .bool false | 13 => .agg #[.slice (some ⟨b, o, none⟩) n nc, .slice FA m fc] | 14 => .pointer (some ⟨w.heap.size, 0, none⟩) | 15 => .slice (some ⟨b, o, none⟩) n nc | 16 => .int .i64 (i : Int) | 17 => .pointer (some ⟨b, o + i * 3, none⟩) | 18 => .pointer (some ⟨b, o + i * 3, none⟩) | 19 => St p | 20 => .int .i64 (i : Int) | 21 => .int .i64 (i : Int) | 22 => .bool false | 23 => .bool false | _ => undef) id (fun W => Below X.heap.size X W) (acAll_of (by kernel_rfl)) (onAll_of (by kernel_rfl)) (dstAll_of (by kernel_rfl)) ?hop ?hend _ _ _ _ rfl (of_decide_eq_true (by kernel_rfl)) (tabd_start (fun i => rep_false _ i)) (Below.drew B6.out)
            case hop =>
              intro j oi a w0 listed hoi hdeps ht hI
              have hj : j < 24 := (Array.getElem?_eq_some_iff.1 hoi).1
              have cj : j = 0 ∨ j = 1 ∨ j = 2 ∨ j = 3 ∨ j = 4 ∨ j = 5 ∨ j = 6 ∨ j = 7 ∨ j = 8 ∨ j = 9 ∨ j = 10 ∨ j = 11 ∨ j = 12 ∨ j = 13 ∨ j = 14 ∨ j = 15 ∨ j = 16 ∨ j = 17 ∨ j = 18 ∨ j = 19 ∨ j = 20 ∨ j = 21 ∨ j = 22 ∨ j = 23 := by omega
              obtain rfl | rfl | rfl | rfl | rfl | rfl | rfl | rfl | rfl | rfl | rfl | rfl | rfl | rfl | rfl | rfl | rfl | rfl | rfl | rfl | rfl | rfl | rfl | rfl := cj
              all_goals obtain rfl := Option.some.inj hoi
              · have e1 : a.eval (.tmp 1) = .pointer (some ⟨w.heap.size, 0, none⟩) := (tabd_old ht (t := 1) (of_decide_eq_true (by kernel_rfl)) (by kernel_rfl)).trans rfl
                exact .inl ⟨rfl, fun K hk => wp_val (v := .pointer (some ⟨w.heap.size, 0, none⟩)) (by generalize a.eval = ρ at *; unfold execOp; simp only [e1]; go_simp) (hk _ hI)⟩
              · have d0 := hdeps ⟨0, .data⟩ (by simp) rfl
                have e47 : a.eval (.tmp 47) = .pointer (some ⟨w.heap.size, 0, none⟩) := tabd_at ht (t := 47) (of_decide_eq_true (by kernel_rfl)) (by kernel_rfl) d0
                exact .inl ⟨rfl, fun K hk => wp_val (v := .slice (some ⟨b, o, none⟩) n nc) (by have h := (after _ hI).out.1; clear hI hoi hdeps ht; generalize a.eval = ρ at *; unfold execOp; simp only [e47]; go_simp) (hk _ hI)⟩
              · have e6 : a.eval (.tmp 6) = .int .i64 (i : Int) := (tabd_old ht (t := 6) (of_decide_eq_true (by kernel_rfl)) (by kernel_rfl)).trans rfl
                exact .inl ⟨rfl, fun K hk => wp_val (v := .int .i64 (i : Int)) (by generalize a.eval = ρ at *; unfold execOp; simp only [e6]; go_simp) (hk _ hI)⟩
              · have d1 := hdeps ⟨1, .data⟩ (by simp) rfl
                have d2 := hdeps ⟨2, .data⟩ (by simp) rfl
                have e48 : a.eval (.tmp 48) = .slice (some ⟨b, o, none⟩) n nc := tabd_at ht (t := 48) (of_decide_eq_true (by kernel_rfl)) (by kernel_rfl) d1
                have e49 : a.eval (.tmp 49) = .int .i64 (i : Int) := tabd_at ht (t := 49) (of_decide_eq_true (by kernel_rfl)) (by kernel_rfl) d2
                exact .inl ⟨rfl, fun K hk => wp_val (v := .pointer (some ⟨b, o + i * 3, none⟩)) (by skip; clear hI hoi hdeps ht; generalize a.eval = ρ at *; unfold execOp; simp only [e48, e49]; go_simp) (hk _ hI)⟩
              · have d3 := hdeps ⟨3, .data⟩ (by simp) rfl
                have e50 : a.eval (.tmp 50) = .pointer (some ⟨b, o + i * 3, none⟩) := tabd_at ht (t := 50) (of_decide_eq_true (by kernel_rfl)) (by kernel_rfl) d3
                exact .inl ⟨rfl, fun K hk => wp_val (v := .pointer (some ⟨b, o + i * 3 + 1, none⟩)) (by generalize a.eval = ρ at *; unfold execOp; simp only [e50]; go_simp) (hk _ hI)⟩
              · have d4 := hdeps ⟨4, .data⟩ (by simp) rfl
                have e51 : a.eval (.tmp 51) = .pointer (some ⟨b, o + i * 3 + 1, none⟩) := tabd_at ht (t := 51) (of_decide_eq_true (by kernel_rfl)) (by kernel_rfl) d4
                exact .inl ⟨rfl, fun K hk => wp_val (v := .int .i64 (-1)) (by have h : w0.cell? ⟨b, o + i * 3 + 1, none⟩ = some (.int .i64 (-1)) := (hI.cell (p := ⟨b, o + i * 3 + 1, none⟩) hl).trans D2.out; clear hI hoi hdeps ht; generalize a.eval = ρ at *; unfold execOp; simp only [e51]; go_simp) (hk _ hI)⟩
              · have d5 := hdeps ⟨5, .data⟩ (by simp) rfl
                have e52 : a.eval (.tmp 52) = .int .i64 (-1) := tabd_at ht (t := 52) (of_decide_eq_true (by kernel_rfl)) (by kernel_rfl) d5
                have ec1 : a.eval (.const (Value.int IntKind.i64 (-1))) = (Value.int IntKind.i64 (-1)) := rfl
                exact .inl ⟨rfl, fun K hk => wp_val (v := .bool false) (by generalize a.eval = ρ at *; unfold execOp; simp only [e52, ec1]; go_simp) (hk _ hI)⟩
              · have d6 := hdeps ⟨6, .data⟩ (by simp) rfl
                have e53 : a.eval (.tmp 53) = .bool false := tabd_at ht (t := 53) (of_decide_eq_true (by kernel_rfl)) (by kernel_rfl) d6
                exact .inl ⟨rfl, fun K hk => wp_val (v := .bool false) (by generalize a.eval = ρ at *; unfold execOp; simp only [e53]; go_simp) (hk _ hI)⟩
              · have d7 := hdeps ⟨7, .guard⟩ (by simp) rfl
                have e7 : a.eval (.tmp 7) = .slice A1 kl C1 := (tabd_old ht (t := 7) (of_decide_eq_true (by kernel_rfl)) (by kernel_rfl)).trans rfl
                exact .inr ⟨tabd_unwanted ht rfl rfl (of_decide_eq_true (by kernel_rfl)) (by kernel_rfl) d7 rfl (by decide), rfl⟩
              · have d8 := hdeps ⟨8, .data⟩ (by simp) rfl
                have d7 := hdeps ⟨7, .guard⟩ (by simp) rfl
                have e55 : a.eval (.tmp 55) = undef := tabd_at ht (t := 55) (of_decide_eq_true (by kernel_rfl)) (by kernel_rfl) d8
                exact .inr ⟨tabd_unwanted ht rfl rfl (of_decide_eq_true (by kernel_rfl)) (by kernel_rfl) d7 rfl (by decide), rfl⟩
              · have d9 := hdeps ⟨9, .data⟩ (by simp) rfl
                have d7 := hdeps ⟨7, .guard⟩ (by simp) rfl
                have e56 : a.eval (.tmp 56) = undef := tabd_at ht (t := 56) (of_decide_eq_true (by kernel_rfl)) (by kernel_rfl) d9
                have ec1 : a.eval (.const (Value.int IntKind.i64 0)) = (Value.int IntKind.i64 0) := rfl
                exact .inr ⟨tabd_unwanted ht rfl rfl (of_decide_eq_true (by kernel_rfl)) (by kernel_rfl) d7 rfl (by decide), rfl⟩
              · have d7 := hdeps ⟨7, .data⟩ (by simp) rfl
                have d10 := hdeps ⟨10, .data⟩ (by simp) rfl
                have e54 : a.eval (.tmp 54) = .bool false := tabd_at ht (t := 54) (of_decide_eq_true (by kernel_rfl)) (by kernel_rfl) d7
                have e57 : a.eval (.tmp 57) = undef := tabd_at ht (t := 57) (of_decide_eq_true (by kernel_rfl)) (by kernel_rfl) d10
                have ec2 : a.eval (.const (Value.bool false)) = (Value.bool false) := rfl
                exact .inl ⟨rfl, fun K hk => wp_val (v := .bool false) (by generalize a.eval = ρ at *; unfold execOp; simp only [e54, e57, ec2]; go_simp) (hk _ hI)⟩
              · have d11 := hdeps ⟨11, .data⟩ (by simp) rfl
                have d7 := hdeps ⟨7, .chain⟩ (by simp) rfl
                have e58 : a.eval (.tmp 58) = .bool false := tabd_at ht (t := 58) (of_decide_eq_true (by kernel_rfl)) (by kernel_rfl) d11
                exact .inl ⟨rfl, fun K hk => wp_val (v := .bool false) (by generalize a.eval = ρ at *; unfold execOp; simp only [e58]; go_simp) (hk _ hI)⟩
              · have d12 := hdeps ⟨12, .guard⟩ (by simp) rfl
                have e1 : a.eval (.tmp 1) = .pointer (some ⟨w.heap.size, 0, none⟩) := (tabd_old ht (t := 1) (of_decide_eq_true (by kernel_rfl)) (by kernel_rfl)).trans rfl
                exact .inl ⟨(tabd_wanted ht rfl rfl (of_decide_eq_true (by kernel_rfl)) (by kernel_rfl) d12 rfl), fun K hk => wp_val (v := .agg #[.slice (some ⟨b, o, none⟩) n nc, .slice FA m fc]) (have h := (after _ hI).out; load_op 25 (.tmp 1) rfl (w.heap.size) 0 e1 [.slice (some ⟨b, o, none⟩) n nc, .slice FA m fc] _ (range2 h.1 h.2) Try.underlying25 rfl (by kernel_rfl)) (hk _ hI)⟩
              · have d12 := hdeps ⟨12, .guard⟩ (by simp) rfl
                have e1 : a.eval (.tmp 1) = .pointer (some ⟨w.heap.size, 0, none⟩) := (tabd_old ht (t := 1) (of_decide_eq_true (by kernel_rfl)) (by kernel_rfl)).trans rfl
                exact .inl ⟨(tabd_wanted ht rfl rfl (of_decide_eq_true (by kernel_rfl)) (by kernel_rfl) d12 rfl), fun K hk => wp_val (v := .pointer (some ⟨w.heap.size, 0, none⟩)) (by generalize a.eval = ρ at *; unfold execOp; simp only [e1]; go_simp) (hk _ hI)⟩
              · have d14 := hdeps ⟨14, .data⟩ (by simp) rfl
                have d12 := hdeps ⟨12, .guard⟩ (by simp) rfl
                have e61 : a.eval (.tmp 61) = .pointer (some ⟨w.heap.size, 0, none⟩) := tabd_at ht (t := 61) (of_decide_eq_true (by kernel_rfl)) (by kernel_rfl) d14
                exact .inl ⟨(tabd_wanted ht rfl rfl (of_decide_eq_true (by kernel_rfl)) (by kernel_rfl) d12 rfl), fun K hk => wp_val (v := .slice (some ⟨b, o, none⟩) n nc) (by have h := (after _ hI).out.1; clear hI hoi hdeps ht; generalize a.eval = ρ at *; unfold execOp; simp only [e61]; go_simp) (hk _ hI)⟩
              · have d12 := hdeps ⟨12, .guard⟩ (by simp) rfl
                have e6 : a.eval (.tmp 6) = .int .i64 (i : Int) := (tabd_old ht (t := 6) (of_decide_eq_true (by kernel_rfl)) (by kernel_rfl)).trans rfl
                exact .inl ⟨(tabd_wanted ht rfl rfl (of_decide_eq_true (by kernel_rfl)) (by kernel_rfl) d12 rfl), fun K hk => wp_val (v := .int .i64 (i : Int)) (by generalize a.eval = ρ at *; unfold execOp; simp only [e6]; go_simp) (hk _ hI)⟩
              · have d15 := hdeps ⟨15, .data⟩ (by simp) rfl
                have d16 := hdeps ⟨16, .data⟩ (by simp) rfl
                have d12 := hdeps ⟨12, .guard⟩ (by simp) rfl
                have e62 : a.eval (.tmp 62) = .slice (some ⟨b, o, none⟩) n nc := tabd_at ht (t := 62) (of_decide_eq_true (by kernel_rfl)) (by kernel_rfl) d15
                have e63 : a.eval (.tmp 63) = .int .i64 (i : Int) := tabd_at ht (t := 63) (of_decide_eq_true (by kernel_rfl)) (by kernel_rfl) d16
                exact .inl ⟨(tabd_wanted ht rfl rfl (of_decide_eq_true (by kernel_rfl)) (by kernel_rfl) d12 rfl), fun K hk => wp_val (v := .pointer (some ⟨b, o + i * 3, none⟩)) (by skip; clear hI hoi hdeps ht; generalize a.eval = ρ at *; unfold execOp; simp only [e62, e63]; go_simp) (hk _ hI)⟩
              · have d17 := hdeps ⟨17, .data⟩ (by simp) rfl
                have d12 := hdeps ⟨12, .guard⟩ (by simp) rfl
                have e64 : a.eval (.tmp 64) = .pointer (some ⟨b, o + i * 3, none⟩) := tabd_at ht (t := 64) (of_decide_eq_true (by kernel_rfl)) (by kernel_rfl) d17
                exact .inl ⟨(tabd_wanted ht rfl rfl (of_decide_eq_true (by kernel_rfl)) (by kernel_rfl) d12 rfl), fun K hk => wp_val (v := .pointer (some ⟨b, o + i * 3, none⟩)) (by generalize a.eval = ρ at *; unfold execOp; simp only [e64]; go_simp) (hk _ hI)⟩
              · have d18 := hdeps ⟨18, .data⟩ (by simp) rfl
                have d12 := hdeps ⟨12, .guard⟩ (by simp) rfl
                have e65 : a.eval (.tmp 65) = .pointer (some ⟨b, o + i * 3, none⟩) := tabd_at ht (t := 65) (of_decide_eq_true (by kernel_rfl)) (by kernel_rfl) d18
                exact .inl ⟨(tabd_wanted ht rfl rfl (of_decide_eq_true (by kernel_rfl)) (by kernel_rfl) d12 rfl), fun K hk => wp_val (v := St p) (by have h : w0.cell? ⟨b, o + i * 3, none⟩ = some (St p) := (hI.cell (p := ⟨b, o + i * 3, none⟩) hl).trans D1.out; clear hI hoi hdeps ht; generalize a.eval = ρ at *; unfold execOp; simp only [e65]; go_simp) (hk _ hI)⟩
              · have d13 := hdeps ⟨13, .data⟩ (by simp) rfl
                have d19 := hdeps ⟨19, .data⟩ (by simp) rfl
                have d12 := hdeps ⟨12, .chain⟩ (by simp) rfl
                have e60 : a.eval (.tmp 60) = .agg #[.slice (some ⟨b, o, none⟩) n nc, .slice FA m fc] := tabd_at ht (t := 60) (of_decide_eq_true (by kernel_rfl)) (by kernel_rfl) d13
                have e66 : a.eval (.tmp 66) = St p := tabd_at ht (t := 66) (of_decide_eq_true (by kernel_rfl)) (by kernel_rfl) d19
                have ef15 : a.eval (.func 10) = .func (.func 10) #[] #[] := rfl
                exact .inl ⟨(tabd_wanted ht rfl rfl (of_decide_eq_true (by kernel_rfl)) (by kernel_rfl) d12 rfl), fun K hk => wp_callI (v := .int .i64 (i : Int)) (by generalize a.eval = ρ at *; unfold execOp; simp only [e60, e66, ef15]; go_simp) ((KF2 _ (up _ hI)).out.mono (fun _ _ h => ⟨h.1, hI.trans (h.2.mono hI.size)⟩)) hk⟩
              · have d12 := hdeps ⟨12, .guard⟩ (by simp) rfl
                have e6 : a.eval (.tmp 6) = .int .i64 (i : Int) := (tabd_old ht (t := 6) (of_decide_eq_true (by kernel_rfl)) (by kernel_rfl)).trans rfl
                exact .inl ⟨(tabd_wanted ht rfl rfl (of_decide_eq_true (by kernel_rfl)) (by kernel_rfl) d12 rfl), fun K hk => wp_val (v := .int .i64 (i : Int)) (by generalize a.eval = ρ at *; unfold execOp; simp only [e6]; go_simp) (hk _ hI)⟩
              · have d20 := hdeps ⟨20, .data⟩ (by simp) rfl
                have d21 := hdeps ⟨21, .data⟩ (by simp) rfl
                have d12 := hdeps ⟨12, .guard⟩ (by simp) rfl
                have e67 : a.eval (.tmp 67) = .int .i64 (i : Int) := tabd_at ht (t := 67) (of_decide_eq_true (by kernel_rfl)) (by kernel_rfl) d20
                have e68 : a.eval (.tmp 68) = .int .i64 (i : Int) := tabd_at ht (t := 68) (of_decide_eq_true (by kernel_rfl)) (by kernel_rfl) d21
                exact .inl ⟨(tabd_wanted ht rfl rfl (of_decide_eq_true (by kernel_rfl)) (by kernel_rfl) d12 rfl), fun K hk => wp_val (v := .bool false) (by generalize a.eval = ρ at *; unfold execOp; simp only [e67, e68]; go_simp) (hk _ hI)⟩
              · have d12 := hdeps ⟨12, .data⟩ (by simp) rfl
                have d22 := hdeps ⟨22, .data⟩ (by simp) rfl
                have e59 : a.eval (.tmp 59) = .bool false := tabd_at ht (t := 59) (of_decide_eq_true (by kernel_rfl)) (by kernel_rfl) d12
                have e69 : a.eval (.tmp 69) = .bool false := tabd_at ht (t := 69) (of_decide_eq_true (by kernel_rfl)) (by kernel_rfl) d22
                have ec2 : a.eval (.const (Value.bool true)) = (Value.bool true) := rfl
                exact .inl ⟨rfl, fun K hk => wp_val (v := .bool false) (by generalize a.eval = ρ at *; unfold execOp; simp only [e59, e69, ec2]; go_simp) (hk _ hI)⟩
            case hend =>
              intro a w0 listed hall ht hI
              rw [tabd_fill ht (fun t i ho => hall i (ownAll_lt ho))]
              change Exit.then _ _ Exit.normal { tmps := #[.agg #[.slice (some ⟨b, o, none⟩) n nc, .slice FA m fc], .pointer (some ⟨w.heap.size, 0, none⟩), u2, .bool true, .bool false, .int .i64 (kidsTo ns i : Int), .int .i64 (i : Int), .slice A1 kl C1, undef, undef, undef, undef, undef, undef, .bool true, .agg #[.slice (some ⟨b, o, none⟩) n nc, .slice FA m fc], .bool false, .bool true, .bool false, .bool false, .bool false, .bool false, .bool false, .agg #[.slice (some ⟨b, o, none⟩) n nc, .slice FA m fc], .int .i64 0, .int .i64 0, .bool false, .bool false, undef, .agg #[.slice (some ⟨b, o, none⟩) n nc, .slice FA m fc], .slice A0 (kidsP ns []).length C0, .int .i64 (kidsTo ns 0 : Int), .int .i64 (i : Int), .pointer (some ⟨w.heap.size, 0, none⟩), .slice (some ⟨b, o, none⟩) n nc, .int .i64 (n : Int), .bool true, u37, u38, .agg #[.slice (some ⟨b, o, none⟩) n nc, .slice FA m fc], .pointer (some ⟨w.heap.size, 0, none⟩), .slice (some ⟨b, o, none⟩) n nc, .int .i64 (i : Int), .pointer (some ⟨b, o + i * 3, none⟩), .pointer (some ⟨b, o + i * 3, none⟩), St p, .slice A1 kl C1, .pointer (some ⟨w.heap.size, 0, none⟩), .slice (some ⟨b, o, none⟩) n nc, .int .i64 (i : Int), .pointer (some ⟨b, o + i * 3, none⟩), .pointer (some ⟨b, o + i * 3 + 1, none⟩), .int .i64 (-1), .bool false, .bool false, undef, undef, undef, .bool false, .bool false, .agg #[.slice (some ⟨b, o, none⟩) n nc, .slice FA m fc], .pointer (some ⟨w.heap.size, 0, none⟩), .slice (some ⟨b, o, none⟩) n nc, .int .i64 (i : Int), .pointer (some ⟨b, o + i * 3, none⟩), .pointer (some ⟨b, o + i * 3, none⟩), St p, .int .i64 (i : Int), .int .i64 (i : Int), .bool false, .bool false, u71, u72, u73, u74, undef, undef, undef, undef, undef, undef, undef, undef, undef, undef, undef, undef, undef, undef, undef, undef, undef, undef, undef, undef, undef, undef, undef, undef, undef, undef, undef, undef, undef, undef, undef, undef, undef, undef, undef, undef, undef, undef, undef, undef, undef, undef, undef, undef, undef, undef, undef, undef, undef, undef, undef, undef, undef, undef, undef, undef, undef, undef, undef, undef, undef, undef, undef, undef, undef, undef, undef, undef, undef, undef, undef, undef, undef, undef, undef, undef, undef, undef, undef, undef, undef, undef, undef, undef, undef], defers := [] } w0
              clear hall ht
              have HI := Lib.hid hI
              clear hI
              go_wp2
              go_roundw
              case rel => exact ⟨i + 1, by omega, by go_num, by rw [KS2.out]; go_num, HI.out⟩
              case measure => first | (simp [intOf]; done) | (simp [intOf]; omega)
          · have e0 : kl = 0 := by rw [KL0.out, NK2.out hf]; rfl
            subst e0
            have hfb : (f == -1) = false := by simpa using hf
            have hfn : (f != -1) = true := by simpa using hf
            refine wp_region_any (by kernel_rfl) ?_
            refine every_inv (own := ownAll _) (vals := fun j => match j with | 0 => .pointer (some ⟨w.heap.size, 0, none⟩) | 1 => .slice (some ⟨b, o, none⟩) n nc | 2 => .int .i64 (i : Int) | 3 => .pointer (some ⟨b, o + i * 3, none⟩) | 4 => .pointer (some ⟨b, o + i * 3 + 1, none⟩) | 5 => .int .i64 f | 6 => .bool true | 7 => .bool true | 8 => .slice A1 0 C1 | 9 => .int .i64 0 | 10 => .bool false | 11 => .bool false | 12 => .bool false | 13 => .agg #[.slice (some ⟨b, o, none⟩) n nc, .slice FA m fc] | 14 => .pointer (some ⟨w.heap.size, 0, none⟩) | 15 => .slice (some ⟨b, o, none⟩) n nc | 16 => .int .i64 (i : Int) | 17 => .pointer (some ⟨b, o + i * 3, none⟩) | 18 => .pointer (some ⟨b, o + i * 3, none⟩) | 19 => St p | 20 => .int .i64 (i : Int) | 21 => .int .i64 (i : Int) | 22 => .bool false | 23 => .bool false | _ => undef) id (fun W => Below X.heap.size X W) (acAll_of (by kernel_rfl)) (onAll_of (by kernel_rfl)) (dstAll_of (by kernel_rfl)) ?hop ?hend _ _ _ _ rfl (of_decide_eq_true (by kernel_rfl)) (tabd_start (fun i => rep_false _ i)) (Below.drew B6.out)
            case hop =>
              intro j oi a w0 listed hoi hdeps ht hI
              have hj : j < 24 := (Array.getElem?_eq_some_iff.1 hoi).1
              have cj : j = 0 ∨ j = 1 ∨ j = 2 ∨ j = 3 ∨ j = 4 ∨ j = 5 ∨ j = 6 ∨ j = 7 ∨ j = 8 ∨ j = 9 ∨ j = 10 ∨ j = 11 ∨ j = 12 ∨ j = 13 ∨ j = 14 ∨ j = 15 ∨ j = 16 ∨ j = 17 ∨ j = 18 ∨ j = 19 ∨ j = 20 ∨ j = 21 ∨ j = 22 ∨ j = 23 := by omega
              obtain rfl | rfl | rfl | rfl | rfl | rfl | rfl | rfl | rfl | rfl | rfl | rfl | rfl | rfl | rfl | rfl | rfl | rfl | rfl | rfl | rfl | rfl | rfl | rfl := cj
              all_goals obtain rfl := Option.some.inj hoi
              · have e1 : a.eval (.tmp 1) = .pointer (some ⟨w.heap.size, 0, none⟩) := (tabd_old ht (t := 1) (of_decide_eq_true (by kernel_rfl)) (by kernel_rfl)).trans rfl
                exact .inl ⟨rfl, fun K hk => wp_val (v := .pointer (some ⟨w.heap.size, 0, none⟩)) (by generalize a.eval = ρ at *; unfold execOp; simp only [e1]; go_simp) (hk _ hI)⟩
              · have d0 := hdeps ⟨0, .data⟩ (by simp) rfl
                have e47 : a.eval (.tmp 47) = .pointer (some ⟨w.heap.size, 0, none⟩) := tabd_at ht (t := 47) (of_decide_eq_true (by kernel_rfl)) (by kernel_rfl) d0
                exact .inl ⟨rfl, fun K hk => wp_val (v := .slice (some ⟨b, o, none⟩) n nc) (by have h := (after _ hI).out.1; clear hI hoi hdeps ht; generalize a.eval = ρ at *; unfold execOp; simp only [e47]; go_simp) (hk _ hI)⟩
              · have e6 : a.eval (.tmp 6) = .int .i64 (i : Int) := (tabd_old ht (t := 6) (of_decide_eq_true (by kernel_rfl)) (by kernel_rfl)).trans rfl
                exact .inl ⟨rfl, fun K hk => wp_val (v := .int .i64 (i : Int)) (by generalize a.eval = ρ at *; unfold execOp; simp only [e6]; go_simp) (hk _ hI)⟩
              · have d1 := hdeps ⟨1, .data⟩ (by simp) rfl
                have d2 := hdeps ⟨2, .data⟩ (by simp) rfl
                have e48 : a.eval (.tmp 48) = .slice (some ⟨b, o, none⟩) n nc := tabd_at ht (t := 48) (of_decide_eq_true (by kernel_rfl)) (by kernel_rfl) d1
                have e49 : a.eval (.tmp 49) = .int .i64 (i : Int) := tabd_at ht (t := 49) (of_decide_eq_true (by kernel_rfl)) (by kernel_rfl) d2
                exact .inl ⟨rfl, fun K hk => wp_val (v := .pointer (some ⟨b, o + i * 3, none⟩)) (by skip; clear hI hoi hdeps ht; generalize a.eval = ρ at *; unfold execOp; simp only [e48, e49]; go_simp) (hk _ hI)⟩
              · have d3 := hdeps ⟨3, .data⟩ (by simp) rfl
                have e50 : a.eval (.tmp 50) = .pointer (some ⟨b, o + i * 3, none⟩) := tabd_at ht (t := 50) (of_decide_eq_true (by kernel_rfl)) (by kernel_rfl) d3
                exact .inl ⟨rfl, fun K hk => wp_val (v := .pointer (some ⟨b, o + i * 3 + 1, none⟩)) (by generalize a.eval = ρ at *; unfold execOp; simp only [e50]; go_simp) (hk _ hI)⟩
              · have d4 := hdeps ⟨4, .data⟩ (by simp) rfl
                have e51 : a.eval (.tmp 51) = .pointer (some ⟨b, o + i * 3 + 1, none⟩) := tabd_at ht (t := 51) (of_decide_eq_true (by kernel_rfl)) (by kernel_rfl) d4
                exact .inl ⟨rfl, fun K hk => wp_val (v := .int .i64 f) (by have h : w0.cell? ⟨b, o + i * 3 + 1, none⟩ = some (.int .i64 f) := (hI.cell (p := ⟨b, o + i * 3 + 1, none⟩) hl).trans D2.out; clear hI hoi hdeps ht; generalize a.eval = ρ at *; unfold execOp; simp only [e51]; go_simp) (hk _ hI)⟩
              · have d5 := hdeps ⟨5, .data⟩ (by simp) rfl
                have e52 : a.eval (.tmp 52) = .int .i64 f := tabd_at ht (t := 52) (of_decide_eq_true (by kernel_rfl)) (by kernel_rfl) d5
                have ec1 : a.eval (.const (Value.int IntKind.i64 (-1))) = (Value.int IntKind.i64 (-1)) := rfl
                exact .inl ⟨rfl, fun K hk => wp_val (v := .bool true) (by generalize a.eval = ρ at *; unfold execOp; simp only [e52, ec1]; go_simp) (hk _ hI)⟩
              · have d6 := hdeps ⟨6, .data⟩ (by simp) rfl
                have e53 : a.eval (.tmp 53) = .bool true := tabd_at ht (t := 53) (of_decide_eq_true (by kernel_rfl)) (by kernel_rfl) d6
                exact .inl ⟨rfl, fun K hk => wp_val (v := .bool true) (by generalize a.eval = ρ at *; unfold execOp; simp only [e53]; go_simp) (hk _ hI)⟩
              · have d7 := hdeps ⟨7, .guard⟩ (by simp) rfl
                have e7 : a.eval (.tmp 7) = .slice A1 0 C1 := (tabd_old ht (t := 7) (of_decide_eq_true (by kernel_rfl)) (by kernel_rfl)).trans rfl
                exact .inl ⟨(tabd_wanted ht rfl rfl (of_decide_eq_true (by kernel_rfl)) (by kernel_rfl) d7 rfl), fun K hk => wp_val (v := .slice A1 0 C1) (by generalize a.eval = ρ at *; unfold execOp; simp only [e7]; go_simp) (hk _ hI)⟩
              · have d8 := hdeps ⟨8, .data⟩ (by simp) rfl
                have d7 := hdeps ⟨7, .guard⟩ (by simp) rfl
                have e55 : a.eval (.tmp 55) = .slice A1 0 C1 := tabd_at ht (t := 55) (of_decide_eq_true (by kernel_rfl)) (by kernel_rfl) d8
                exact .inl ⟨(tabd_wanted ht rfl rfl (of_decide_eq_true (by kernel_rfl)) (by kernel_rfl) d7 rfl), fun K hk => wp_val (v := .int .i64 0) (by generalize a.eval = ρ at *; unfold execOp; simp only [e55]; go_simp) (hk _ hI)⟩
              · have d9 := hdeps ⟨9, .data⟩ (by simp) rfl
                have d7 := hdeps ⟨7, .guard⟩ (by simp) rfl
                have e56 : a.eval (.tmp 56) = .int .i64 0 := tabd_at ht (t := 56) (of_decide_eq_true (by kernel_rfl)) (by kernel_rfl) d9
                have ec1 : a.eval (.const (Value.int IntKind.i64 0)) = (Value.int IntKind.i64 0) := rfl
                exact .inl ⟨(tabd_wanted ht rfl rfl (of_decide_eq_true (by kernel_rfl)) (by kernel_rfl) d7 rfl), fun K hk => wp_val (v := .bool false) (by generalize a.eval = ρ at *; unfold execOp; simp only [e56, ec1]; go_simp) (hk _ hI)⟩
              · have d7 := hdeps ⟨7, .data⟩ (by simp) rfl
                have d10 := hdeps ⟨10, .data⟩ (by simp) rfl
                have e54 : a.eval (.tmp 54) = .bool true := tabd_at ht (t := 54) (of_decide_eq_true (by kernel_rfl)) (by kernel_rfl) d7
                have e57 : a.eval (.tmp 57) = .bool false := tabd_at ht (t := 57) (of_decide_eq_true (by kernel_rfl)) (by kernel_rfl) d10
                have ec2 : a.eval (.const (Value.bool false)) = (Value.bool false) := rfl
                exact .inl ⟨rfl, fun K hk => wp_val (v := .bool false) (by generalize a.eval = ρ at *; unfold execOp; simp only [e54, e57, ec2]; go_simp) (hk _ hI)⟩
              · have d11 := hdeps ⟨11, .data⟩ (by simp) rfl
                have d7 := hdeps ⟨7, .chain⟩ (by simp) rfl
                have e58 : a.eval (.tmp 58) = .bool false := tabd_at ht (t := 58) (of_decide_eq_true (by kernel_rfl)) (by kernel_rfl) d11
                exact .inl ⟨rfl, fun K hk => wp_val (v := .bool false) (by generalize a.eval = ρ at *; unfold execOp; simp only [e58]; go_simp) (hk _ hI)⟩
              · have d12 := hdeps ⟨12, .guard⟩ (by simp) rfl
                have e1 : a.eval (.tmp 1) = .pointer (some ⟨w.heap.size, 0, none⟩) := (tabd_old ht (t := 1) (of_decide_eq_true (by kernel_rfl)) (by kernel_rfl)).trans rfl
                exact .inl ⟨(tabd_wanted ht rfl rfl (of_decide_eq_true (by kernel_rfl)) (by kernel_rfl) d12 rfl), fun K hk => wp_val (v := .agg #[.slice (some ⟨b, o, none⟩) n nc, .slice FA m fc]) (have h := (after _ hI).out; load_op 25 (.tmp 1) rfl (w.heap.size) 0 e1 [.slice (some ⟨b, o, none⟩) n nc, .slice FA m fc] _ (range2 h.1 h.2) Try.underlying25 rfl (by kernel_rfl)) (hk _ hI)⟩
              · have d12 := hdeps ⟨12, .guard⟩ (by simp) rfl
                have e1 : a.eval (.tmp 1) = .pointer (some ⟨w.heap.size, 0, none⟩) := (tabd_old ht (t := 1) (of_decide_eq_true (by kernel_rfl)) (by kernel_rfl)).trans rfl
                exact .inl ⟨(tabd_wanted ht rfl rfl (of_decide_eq_true (by kernel_rfl)) (by kernel_rfl) d12 rfl), fun K hk => wp_val (v := .pointer (some ⟨w.heap.size, 0, none⟩)) (by generalize a.eval = ρ at *; unfold execOp; simp only [e1]; go_simp) (hk _ hI)⟩
              · have d14 := hdeps ⟨14, .data⟩ (by simp) rfl
                have d12 := hdeps ⟨12, .guard⟩ (by simp) rfl
                have e61 : a.eval (.tmp 61) = .pointer (some ⟨w.heap.size, 0, none⟩) := tabd_at ht (t := 61) (of_decide_eq_true (by kernel_rfl)) (by kernel_rfl) d14
                exact .inl ⟨(tabd_wanted ht rfl rfl (of_decide_eq_true (by kernel_rfl)) (by kernel_rfl) d12 rfl), fun K hk => wp_val (v := .slice (some ⟨b, o, none⟩) n nc) (by have h := (after _ hI).out.1; clear hI hoi hdeps ht; generalize a.eval = ρ at *; unfold execOp; simp only [e61]; go_simp) (hk _ hI)⟩
              · have d12 := hdeps ⟨12, .guard⟩ (by simp) rfl
                have e6 : a.eval (.tmp 6) = .int .i64 (i : Int) := (tabd_old ht (t := 6) (of_decide_eq_true (by kernel_rfl)) (by kernel_rfl)).trans rfl
                exact .inl ⟨(tabd_wanted ht rfl rfl (of_decide_eq_true (by kernel_rfl)) (by kernel_rfl) d12 rfl), fun K hk => wp_val (v := .int .i64 (i : Int)) (by generalize a.eval = ρ at *; unfold execOp; simp only [e6]; go_simp) (hk _ hI)⟩
              · have d15 := hdeps ⟨15, .data⟩ (by simp) rfl
                have d16 := hdeps ⟨16, .data⟩ (by simp) rfl
                have d12 := hdeps ⟨12, .guard⟩ (by simp) rfl
                have e62 : a.eval (.tmp 62) = .slice (some ⟨b, o, none⟩) n nc := tabd_at ht (t := 62) (of_decide_eq_true (by kernel_rfl)) (by kernel_rfl) d15
                have e63 : a.eval (.tmp 63) = .int .i64 (i : Int) := tabd_at ht (t := 63) (of_decide_eq_true (by kernel_rfl)) (by kernel_rfl) d16
                exact .inl ⟨(tabd_wanted ht rfl rfl (of_decide_eq_true (by kernel_rfl)) (by kernel_rfl) d12 rfl), fun K hk => wp_val (v := .pointer (some ⟨b, o + i * 3, none⟩)) (by skip; clear hI hoi hdeps ht; generalize a.eval = ρ at *; unfold execOp; simp only [e62, e63]; go_simp) (hk _ hI)⟩
              · have d17 := hdeps ⟨17, .data⟩ (by simp) rfl
                have d12 := hdeps ⟨12, .guard⟩ (by simp) rfl
                have e64 : a.eval (.tmp 64) = .pointer (some ⟨b, o + i * 3, none⟩) := tabd_at ht (t := 64) (of_decide_eq_true (by kernel_rfl)) (by kernel_rfl) d17
                exact .inl ⟨(tabd_wanted ht rfl rfl (of_decide_eq_true (by kernel_rfl)) (by kernel_rfl) d12 rfl), fun K hk => wp_val (v := .pointer (some ⟨b, o + i * 3, none⟩)) (by generalize a.eval = ρ at *; unfold execOp; simp only [e64]; go_simp) (hk _ hI)⟩
              · have d18 := hdeps ⟨18, .data⟩ (by simp) rfl
                have d12 := hdeps ⟨12, .guard⟩ (by simp) rfl
                have e65 : a.eval (.tmp 65) = .pointer (some ⟨b, o + i * 3, none⟩) := tabd_at ht (t := 65) (of_decide_eq_true (by kernel_rfl)) (by kernel_rfl) d18
                exact .inl ⟨(tabd_wanted ht rfl rfl (of_decide_eq_true (by kernel_rfl)) (by kernel_rfl) d12 rfl), fun K hk => wp_val (v := St p) (by have h : w0.cell? ⟨b, o + i * 3, none⟩ = some (St p) := (hI.cell (p := ⟨b, o + i * 3, none⟩) hl).trans D1.out; clear hI hoi hdeps ht; generalize a.eval = ρ at *; unfold execOp; simp only [e65]; go_simp) (hk _ hI)⟩
              · have d13 := hdeps ⟨13, .data⟩ (by simp) rfl
                have d19 := hdeps ⟨19, .data⟩ (by simp) rfl
                have d12 := hdeps ⟨12, .chain⟩ (by simp) rfl
                have e60 : a.eval (.tmp 60) = .agg #[.slice (some ⟨b, o, none⟩) n nc, .slice FA m fc] := tabd_at ht (t := 60) (of_decide_eq_true (by kernel_rfl)) (by kernel_rfl) d13
                have e66 : a.eval (.tmp 66) = St p := tabd_at ht (t := 66) (of_decide_eq_true (by kernel_rfl)) (by kernel_rfl) d19
                have ef15 : a.eval (.func 10) = .func (.func 10) #[] #[] := rfl
                exact .inl ⟨(tabd_wanted ht rfl rfl (of_decide_eq_true (by kernel_rfl)) (by kernel_rfl) d12 rfl), fun K hk => wp_callI (v := .int .i64 (i : Int)) (by generalize a.eval = ρ at *; unfold execOp; simp only [e60, e66, ef15]; go_simp) ((KF2 _ (up _ hI)).out.mono (fun _ _ h => ⟨h.1, hI.trans (h.2.mono hI.size)⟩)) hk⟩
              · have d12 := hdeps ⟨12, .guard⟩ (by simp) rfl
                have e6 : a.eval (.tmp 6) = .int .i64 (i : Int) := (tabd_old ht (t := 6) (of_decide_eq_true (by kernel_rfl)) (by kernel_rfl)).trans rfl
                exact .inl ⟨(tabd_wanted ht rfl rfl (of_decide_eq_true (by kernel_rfl)) (by kernel_rfl) d12 rfl), fun K hk => wp_val (v := .int .i64 (i : Int)) (by generalize a.eval = ρ at *; unfold execOp; simp only [e6]; go_simp) (hk _ hI)⟩
              · have d20 := hdeps ⟨20, .data⟩ (by simp) rfl
                have d21 := hdeps ⟨21, .data⟩ (by simp) rfl
                have d12 := hdeps ⟨12, .guard⟩ (by simp) rfl
                have e67 : a.eval (.tmp 67) = .int .i64 (i : Int) := tabd_at ht (t := 67) (of_decide_eq_true (by kernel_rfl)) (by kernel_rfl) d20
                have e68 : a.eval (.tmp 68) = .int .i64 (i : Int) := tabd_at ht (t := 68) (of_decide_eq_true (by kernel_rfl)) (by kernel_rfl) d21
                exact .inl ⟨(tabd_wanted ht rfl rfl (of_decide_eq_true (by kernel_rfl)) (by kernel_rfl) d12 rfl), fun K hk => wp_val (v := .bool false) (by generalize a.eval = ρ at *; unfold execOp; simp only [e67, e68]; go_simp) (hk _ hI)⟩
              · have d12 := hdeps ⟨12, .data⟩ (by simp) rfl
                have d22 := hdeps ⟨22, .data⟩ (by simp) rfl
                have e59 : a.eval (.tmp 59) = .bool false := tabd_at ht (t := 59) (of_decide_eq_true (by kernel_rfl)) (by kernel_rfl) d12
                have e69 : a.eval (.tmp 69) = .bool false := tabd_at ht (t := 69) (of_decide_eq_true (by kernel_rfl)) (by kernel_rfl) d22
                have ec2 : a.eval (.const (Value.bool true)) = (Value.bool true) := rfl
                exact .inl ⟨rfl, fun K hk => wp_val (v := .bool false) (by generalize a.eval = ρ at *; unfold execOp; simp only [e59, e69, ec2]; go_simp) (hk _ hI)⟩
            case hend =>
              intro a w0 listed hall ht hI
              rw [tabd_fill ht (fun t i ho => hall i (ownAll_lt ho))]
              change Exit.then _ _ Exit.normal { tmps := #[.agg #[.slice (some ⟨b, o, none⟩) n nc, .slice FA m fc], .pointer (some ⟨w.heap.size, 0, none⟩), u2, .bool true, .bool false, .int .i64 (kidsTo ns i : Int), .int .i64 (i : Int), .slice A1 0 C1, undef, undef, undef, undef, undef, undef, .bool true, .agg #[.slice (some ⟨b, o, none⟩) n nc, .slice FA m fc], .bool false, .bool true, .bool false, .bool false, .bool false, .bool false, .bool false, .agg #[.slice (some ⟨b, o, none⟩) n nc, .slice FA m fc], .int .i64 0, .int .i64 0, .bool false, .bool false, undef, .agg #[.slice (some ⟨b, o, none⟩) n nc, .slice FA m fc], .slice A0 (kidsP ns []).length C0, .int .i64 (kidsTo ns 0 : Int), .int .i64 (i : Int), .pointer (some ⟨w.heap.size, 0, none⟩), .slice (some ⟨b, o, none⟩) n nc, .int .i64 (n : Int), .bool true, u37, u38, .agg #[.slice (some ⟨b, o, none⟩) n nc, .slice FA m fc], .pointer (some ⟨w.heap.size, 0, none⟩), .slice (some ⟨b, o, none⟩) n nc, .int .i64 (i : Int), .pointer (some ⟨b, o + i * 3, none⟩), .pointer (some ⟨b, o + i * 3, none⟩), St p, .slice A1 0 C1, .pointer (some ⟨w.heap.size, 0, none⟩), .slice (some ⟨b, o, none⟩) n nc, .int .i64 (i : Int), .pointer (some ⟨b, o + i * 3, none⟩), .pointer (some ⟨b, o + i * 3 + 1, none⟩), .int .i64 f, .bool true, .bool true, .slice A1 0 C1, .int .i64 0, .bool false, .bool false, .bool false, .agg #[.slice (some ⟨b, o, none⟩) n nc, .slice FA m fc], .pointer (some ⟨w.heap.size, 0, none⟩), .slice (some ⟨b, o, none⟩) n nc, .int .i64 (i : Int), .pointer (some ⟨b, o + i * 3, none⟩), .pointer (some ⟨b, o + i * 3, none⟩), St p, .int .i64 (i : Int), .int .i64 (i : Int), .bool false, .bool false, u71, u72, u73, u74, undef, undef, undef, undef, undef, undef, undef, undef, undef, undef, undef, undef, undef, undef, undef, undef, undef, undef, undef, undef, undef, undef, undef, undef, undef, undef, undef, undef, undef, undef, undef, undef, undef, undef, undef, undef, undef, undef, undef, undef, undef, undef, undef, undef, undef, undef, undef, undef, undef, undef, undef, undef, undef, undef, undef, undef, undef, undef, undef, undef, undef, undef, undef, undef, undef, undef, undef, undef, undef, undef, undef, undef, undef, undef, undef, undef, undef, undef, undef, undef, undef, undef, undef, undef, undef], defers := [] } w0
              clear hall ht
              have HI := Lib.hid hI
              clear hI
              go_wp2
              go_roundw
              case rel => exact ⟨i + 1, by omega, by go_num, by rw [KS2.out]; go_num, HI.out⟩
              case measure => first | (simp [intOf]; done) | (simp [intOf]; omega)
        · have li : ¬ (i : Int) < (n : Int) := by omega
          have KE := Lib.hid (show kidsTo ns i = n by rw [show i = ns.length by have := NE.out; omega, KT.out, ← NE.out])
          rw [KE.out]
          go_wp2
          go_loopw [8, 9] (fun v8 v9 wr => ∃ g : Nat, g ≤ m ∧ v9 = .int .i64 (g : Int) ∧ v8 = .int .i64 (namesTo ns g : Int) ∧ Below X.heap.size X wr) (fun _ v9 _ => m - (intOf v9).toNat)
          case atStart => exact ⟨0, Nat.zero_le _, rfl, rfl, HBW.out⟩
          case round =>
            obtain ⟨g, hg, rfl, rfl, hb⟩ := hrel
            have HBG := Lib.hid hb
            clear c0 c1
            obtain ⟨c0, c1⟩ := (after _ hb).out
            clear hb
            have NB := Lib.hid (show ∀ g', g' ≤ m → namesTo ns g' ≤ 256 from fun g' hg' => by
              have h1 := namesTo_mono ns g' (fs.length - g')
              rw [show g' + (fs.length - g') = fs.length by have := ME.out; omega] at h1
              have := NT.out
              have := NE.out
              omega)
            by_cases hlt2 : g < m
            · have lg : (g : Int) < (m : Int) := by omega
              have NS := Lib.hid (namesTo_succ ns g)
              have NPos := Lib.hid (namesF_pos LO.out g (by have := ME.out; omega))
              have NB1 := NB.out (g + 1) (by omega)
              have KC := hNn wr (g : Int) (up _ HBG.out)
              have NAT := Lib.hid (fun j hj => namesF_atD LO.out (g : Int) j hj)
              have NLT := Lib.hid (fun i j hij hj => namesF_ltD LO.out (g : Int) i j hij hj)
              generalize namesF ns (g : Int) = l at KC NS NPos NAT NLT
              have NB2 : namesTo ns g + l.length ≤ 256 := by have := NS.out; omega
              have NP1 : 1 ≤ l.length := NPos.out
              clear NB1 NPos
              go_upto_region 18 with (go_at_call 11; (with_reducible refine KC.out.mono ?_); rintro e w6 ⟨A1, C1, rfl, hT, hb⟩; have TT := Lib.hid hT; have B6 := Lib.hid (HBG.out.trans (hb.mono HBG.out.size)); clear hb hT)
              clear KC
              go_wp2
              go_loopw [11] (fun v11 wr => ∃ j : Nat, j ≤ l.length ∧ v11 = .int .i64 (j : Int) ∧ Below w6.heap.size w6 wr) (fun v11 _ => l.length - (intOf v11).toNat)
              case atStart => exact ⟨0, Nat.zero_le _, rfl, Below.refl _ _⟩
              case round =>
                obtain ⟨j, hj, rfl, hb⟩ := hrel
                have T7 := Lib.hid (tx_below TT.out hb)
                have B7 := Lib.hid (B6.out.trans (hb.mono B6.out.size))
                have HB7 := Lib.hid hb
                clear c0 c1
                obtain ⟨c0, c1⟩ := (after _ B7.out).out
                clear hb
                by_cases hlt3 : j < l.length
                · have lj : (j : Int) < (l.length : Int) := by omega
                  obtain ⟨gq, eq, _, cq⟩ := T7.out j hlt3
                  obtain ⟨Z, hz, zf, ze⟩ := NAT.out j hlt3
                  obtain ⟨b, o, eA, hlb, d1, d2, d3⟩ := HN.out Z hz
                  subst eA
                  have zl : (Z : Int) < (n : Int) := by have := NE.out; omega
                  have zn : decide ((Z : Int) < 0) = false := decide_eq_false (by omega)
                  have DZ := Lib.hid d2
                  have KC := hFf wr.drew (l.getD j []) (up _ (Below.drew B7.out))
                  rw [ze] at KC
                  have ZF := Lib.hid zf
                  rw [ZF.out] at DZ
                  have LT := Lib.hid (fun (i : Nat) (hij : i < j) => NLT.out i j hij hlt3)
                  obtain ⟨q, hq⟩ : ∃ q, q = l.getD j [] := ⟨_, rfl⟩
                  rw [← hq] at cq KC LT
                  clear hq
                  clear d1 d2 d3 zf ze
                  subst eq
                  go_upto_region 21 with (fail)
                  have BD := Lib.hid (Below.drew (Below.refl wr.heap.size wr))
                  have cq2 : wr.drew.cell? ⟨gq, j, none⟩ = some (St q) := cq
                  have SZ := Lib.hid (show wr.heap.size ≤ wr.drew.heap.size from Nat.le_refl _)
                  go_still_tail 5, (by kernel_rfl)
                  change wpList _ _ _ _ _ wr.drew
                  generalize wr.drew = w5 at *
                  go_upto_region 22 with (go_at_call 10; (with_reducible refine KC.out.mono ?_); rintro e w8 ⟨rfl, hb⟩; have H8 := Lib.hid (BD.out.trans (hb.mono SZ.out)); clear hb)
                  have B8 := Lib.hid (B7.out.trans (H8.out.mono B7.out.size))
                  obtain ⟨y0, y1⟩ := (after _ B8.out).out
                  have dz := (B8.out.cell (p := ⟨b, o + Z * 3 + 1, none⟩) hlb).trans DZ.out
                  have cq8 := (H8.out.cell (p := ⟨gq, j, none⟩) (block_lt_of_cell cq)).trans cq
                  have R9 := Lib.hid (HB7.out.trans (H8.out.mono HB7.out.size))
                  clear c0 c1 cq2 KC
                  by_cases hj0 : j = 0
                  · have j0 : decide ((0 : Int) < (j : Int)) = false := decide_eq_false (by omega)
                    have j0n : decide (0 < j) = false := decide_eq_false (by omega)
                    clear hj0
                    go_quiet (fail)
                    go_wp2
                    go_roundw
                    case rel => exact ⟨j + 1, by omega, by go_num, below_drewN R9.out _⟩
                    case measure => first | (simp [intOf]; done) | (simp [intOf]; omega)
                  · have j0 : (0 : Int) < (j : Int) := by omega
                    have j0n : 0 < j := by omega
                    obtain ⟨jp, hjp⟩ : ∃ jp, jp = j - 1 := ⟨_, rfl⟩
                    have hjl : jp < j := by omega
                    obtain ⟨gq2, eq2, _, cp⟩ := T7.out jp (by omega)
                    injection eq2 with eq2
                    injection eq2 with eq2 _ _
                    subst eq2
                    have hless := LT.out jp hjl
                    obtain ⟨q2, hq2⟩ : ∃ q2, q2 = l.getD jp [] := ⟨_, rfl⟩
                    rw [← hq2] at cp hless
                    have cp8 := (H8.out.cell (p := ⟨gq, jp, none⟩) (block_lt_of_cell cp)).trans cp
                    have wj : IntKind.i64.wrap ((j : Int) - 1) = (jp : Int) := by rw [IntWalk.i64_in _ (by omega)]; omega
                    have jpl : (jp : Int) < (l.length : Int) := by omega
                    have jp0 : (0 : Int) ≤ (jp : Int) := by omega
                    clear hq2 hj0 hjp hjl cp
                    go_quiet (fail)
                    go_wp2
                    go_roundw
                    case rel => exact ⟨j + 1, by omega, by go_num, below_drewN R9.out _⟩
                    case measure => first | (simp [intOf]; done) | (simp [intOf]; omega)
                · have lj : ¬ (j : Int) < (l.length : Int) := by omega
                  have lp : ¬ (l.length : Int) < 1 := by omega
                  go_wp2
                  go_roundw
                  case rel => exact ⟨g + 1, by omega, by go_num, by rw [NS.out]; go_num, B7.out⟩
                  case measure => first | (simp [intOf]; done) | (simp [intOf]; omega)
            · have lg : ¬ (g : Int) < (m : Int) := by omega
              obtain rfl : g = m := by omega
              go_wp2
              go_loopw [8, 13] (fun v8 v13 w8 => ∃ i2 : Nat, i2 ≤ n ∧ v13 = .int .i64 (i2 : Int) ∧ v8 = .int .i64 ((namesTo ns g + dirsTo ns i2 : Nat) : Int) ∧ w8 = wr) (fun _ v13 _ => n - (intOf v13).toNat)
              case atStart => exact ⟨0, Nat.zero_le _, rfl, by simp [dirsTo], rfl⟩
              case round =>
                obtain ⟨i2, hi2, rfl, rfl, rfl⟩ := hrel
                by_cases hlt4 : i2 < n
                · have l4 : (i2 : Int) < (n : Int) := by omega
                  have lf : i2 < ns.length := by have := NE.out; omega
                  obtain ⟨b, o, eA, hl, d1, d2, d3⟩ := HN.out i2 lf
                  subst eA
                  have d2 := (HBG.out.cell (p := ⟨b, o + i2 * 3 + 1, none⟩) hl).trans d2
                  have DS := Lib.hid (dirsTo_succ ns i2 lf)
                  have DM : namesTo ns g + dirsTo ns (i2 + 1) ≤ 256 := by
                    have h1 := dirsTo_mono ns (i2 + 1) (ns.length - (i2 + 1)) (by omega)
                    rw [show i2 + 1 + (ns.length - (i2 + 1)) = ns.length by omega] at h1
                    have h2 := NT.out
                    rw [← ME.out] at h2
                    have := NE.out
                    omega
                  clear d1 d3
                  generalize ns[i2] = x at *
                  obtain ⟨p, f, md⟩ := x
                  have d2 := show _ = some (Value.int .i64 f) from d2
                  have DS2 : Hid (dirsTo ns (i2 + 1) = dirsTo ns i2 + (if f = -1 then 1 else 0)) := DS
                  by_cases hf : f = -1
                  · subst hf
                    rw [if_pos rfl] at DS2
                    have DS3 : Hid (dirsTo ns (i2 + 1) = dirsTo ns i2 + 1) := Lib.hid DS2.out
                    have DM2 : namesTo ns g + dirsTo ns i2 + 1 ≤ 256 := by have := DS3.out; omega
                    clear DM
                    generalize hS : namesTo ns g + dirsTo ns i2 = S at *
                    have HS := Lib.hid hS
                    clear hS
                    go_wp2
                    go_roundw
                    case rel => exact ⟨i2 + 1, by omega, by go_num, by rw [DS3.out, ← Nat.add_assoc, HS.out]; go_num, trivial⟩
                    case measure => first | (simp [intOf]; done) | (simp [intOf]; omega)
                  · rw [if_neg hf] at DS2
                    have DS3 : Hid (dirsTo ns (i2 + 1) = dirsTo ns i2) := Lib.hid DS2.out
                    have hfb : (f == -1) = false := by simpa using hf
                    clear DM
                    go_wp2
                    go_roundw
                    case rel => exact ⟨i2 + 1, by omega, by go_num, by rw [DS3.out], trivial⟩
                    case measure => first | (simp [intOf]; done) | (simp [intOf]; omega)
                · have l4 : ¬ (i2 : Int) < (n : Int) := by omega
                  have DE := Lib.hid (show namesTo ns g + dirsTo ns i2 = n by
                    have h2 := NT.out
                    rw [← ME.out] at h2
                    rw [show i2 = ns.length by have := NE.out; omega, h2, ← NE.out])
                  rw [DE.out]
                  go_wp2
                  go_ret
                  exact ⟨rfl, up _ HBG.out⟩
    · have hzb : (looseE ns fs == 0) = false := by simpa using hz
      have hzn : (looseE ns fs != 0) = true := by simpa using hz
      clear hz
      generalize looseE ns fs = z at *
      go_wp2_with (first
        | (go_at_call 22; (with_reducible refine (KL _ (up _ B2.out) SS.out).out.mono ?_); rintro e w3 ⟨rfl, hb⟩; have B3 := Lib.hid (B2.out.trans (hb.mono B2.out.size)); clear hb)
        | (go_at_call 21; (with_reducible refine (num_any _ _).mono ?_); rintro e w3' ⟨rfl, rfl⟩))
      go_ret
      exact ⟨rfl, up _ B3.out⟩
end Go.Proofs.Ytdnagkgblmcojaa
