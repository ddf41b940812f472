/-
What is proved here: the law of a ring of renames, by a contract.
-/
import Derived.Test.YtpddamloajpiiaaGreatDoorCstM
import Derived.Deep.RegionLaw
import Derived.Deep.AppendLies
import Derived.Deep.Cut
import Derived.Deep.CutRange
set_option linter.unusedSimpArgs false
set_option linter.unusedVariables false
namespace Go.Proofs.YtpddamloajpiiaaGreatDoor
open Go.Cmp Go.RowKit Go.Cut Go.Pth Go.Word Go.Shelf
def abc : ByteArray := { data := #[97, 98, 99, 100, 101, 102, 103, 104, 105, 106, 107, 108, 109, 110, 111, 112, 113, 114, 115, 116, 117, 118, 119, 120, 121, 122] }
def let1 (k : Nat) : Bt := [UInt8.ofNat (97 + k)]
set_option maxRecDepth 100000 in
theorem cut_abc : ∀ (k : Nat), k < 26 → ∀ w : World, (Instr.slice 9 (.string { data := #[97, 98, 99, 100, 101, 102, 103, 104, 105, 106, 107, 108, 109, 110, 111, 112, 113, 114, 115, 116, 117, 118, 119, 120, 121, 122] }) (some (.int .i64 (k : Int))) (some (.int .i64 ((k : Int) + 1))) none).run Tryz.prog w = .ok (St (let1 k)) w
  | 0, _, w => by kernel_rfl
  | 1, _, w => by kernel_rfl
  | 2, _, w => by kernel_rfl
  | 3, _, w => by kernel_rfl
  | 4, _, w => by kernel_rfl
  | 5, _, w => by kernel_rfl
  | 6, _, w => by kernel_rfl
  | 7, _, w => by kernel_rfl
  | 8, _, w => by kernel_rfl
  | 9, _, w => by kernel_rfl
  | 10, _, w => by kernel_rfl
  | 11, _, w => by kernel_rfl
  | 12, _, w => by kernel_rfl
  | 13, _, w => by kernel_rfl
  | 14, _, w => by kernel_rfl
  | 15, _, w => by kernel_rfl
  | 16, _, w => by kernel_rfl
  | 17, _, w => by kernel_rfl
  | 18, _, w => by kernel_rfl
  | 19, _, w => by kernel_rfl
  | 20, _, w => by kernel_rfl
  | 21, _, w => by kernel_rfl
  | 22, _, w => by kernel_rfl
  | 23, _, w => by kernel_rfl
  | 24, _, w => by kernel_rfl
  | 25, _, w => by kernel_rfl
  | k + 26, h, _ => absurd h (by omega)
theorem at_end (l : List Ac) (x : Ac) (n j : Nat) (u : Value) (hl : l.length = n) (h : (acs [x])[j]? = some u) : (acs (l ++ [x]))[n * 5 + j]? = some u := by
  have e : acs (l ++ [x]) = acs l ++ acs [x] := by simp [acs]
  rw [e, List.getElem?_append_right (by rw [acs_len, hl]; omega), acs_len, hl, Nat.add_sub_cancel_left]
  exact h
theorem build_op {ρ : Operand → Value} {oi : Oper} {w : World} (t : TypeId) (parts : Array (Nat × Operand)) (ho : oi.op = .build t parts) (cells : Array Value) (hb : Tryz.prog.built t (parts.map fun (i, x) => (i, ρ x)).toList = some cells) : (execOp ρ oi).run Tryz.prog w = .ok (.value (.agg cells)) w := by
  unfold execOp
  simp only [ho, Sem.run_bind, run_build w t _ cells hb, Result.andThen_ok]
  try rfl
set_option maxRecDepth 100000 in
set_option maxHeartbeats 8000000 in
theorem ring_law (hS : SplitOK) (n f : Int) (w : World) (hT : Pow w) : Calls Tryz.prog 4 #[.int .i64 n, .int .i64 f] w fun e w' => e = .returned (.bool true) ∧ Below w.heap.size w w' := by
  have KA := Lib.hid (calive_any hS w hT)
  have HT := Lib.hid hT
  clear hT
  by_cases h1 : n < 2
  · go_enter Tryz.func4, Tryz.ntmps4
    go_wp2_with (go_at_call 6; (with_reducible refine KA.out.mono ?_); rintro e w1 ⟨rfl, hb⟩; have H1 := Lib.hid hb; clear hb)
    go_ret
    exact ⟨rfl, H1.out⟩
  by_cases h2 : n > 26
  · go_enter Tryz.func4, Tryz.ntmps4
    go_wp2_with (go_at_call 6; (with_reducible refine KA.out.mono ?_); rintro e w1 ⟨rfl, hb⟩; have H1 := Lib.hid hb; clear hb)
    go_ret
    exact ⟨rfl, H1.out⟩
  by_cases h3 : f < 0
  · go_enter Tryz.func4, Tryz.ntmps4
    go_wp2_with (go_at_call 6; (with_reducible refine KA.out.mono ?_); rintro e w1 ⟨rfl, hb⟩; have H1 := Lib.hid hb; clear hb)
    go_ret
    exact ⟨rfl, H1.out⟩
  obtain ⟨m, rfl⟩ : ∃ m : Nat, n = (m : Int) := ⟨n.toNat, by omega⟩
  have n1 : 2 ≤ m := by omega
  have n2 : m ≤ 26 := by omega
  have h3' : ¬ f < 0 := h3
  go_enter Tryz.func4, Tryz.ntmps4
  go_upto_region 4 with (go_at_call 6; (with_reducible refine KA.out.mono ?_); rintro e w1 ⟨rfl, hb⟩; have H1 := Lib.hid hb; clear hb)
  have M0 := Lib.hid (bk_start w1)
  clear h3 h3'
  go_wp2
  go_loopw [8, 6, 7] (fun v8 v6 v7 wr => ∃ (i : Nat) (av nv : Value) (vs : List Value) (l : List Ac), i ≤ m ∧ v8 = .int .i64 (i : Int) ∧ av = v6 ∧ nv = v7 ∧ BkM w1.heap.size av nv l (parR m i) vs wr ∧ Below w.heap.size w wr ∧ l = (List.range i).map (fun k => (⟨3, let1 k, let1 (nxtR m k), 0, 0⟩ : Ac))) (fun v8 _ _ _ => m - (intOf v8).toNat)
  case atStart => exact ⟨0, _, _, [], [], Nat.zero_le _, rfl, rfl, rfl, M0.out, H1.out, rfl⟩
  case round =>
    obtain ⟨i, av, nv, vs, l, hi, rfl, ho4, ho5, hM, hB, hl⟩ := hrel
    subst ho4 ho5
    have M1 := Lib.hid hM
    have HB := Lib.hid hB
    have HL := Lib.hid hl
    clear hM hB hl
    by_cases hlt : i < m
    · have li : (i : Int) < (m : Int) := by omega
      have hmod := nxtR_mod m i hlt
      have hnl : nxtR m i < m := by unfold nxtR; split <;> omega
      obtain ⟨nr, hnr⟩ : ∃ nr, nr = nxtR m i := ⟨_, rfl⟩
      rw [← hnr] at hmod hnl
      have HNR := Lib.hid hnr
      have m0 : (m : Int) ≠ 0 := by omega
      clear hnr
      have hc1 := cut_abc i (by omega)
      have hc2 := cut_abc nr (by omega)
      obtain ⟨ya, hya⟩ : ∃ t : ByteArray, .string t = St (let1 i) := ⟨_, rfl⟩
      obtain ⟨yb, hyb⟩ : ∃ t : ByteArray, .string t = St (let1 nr) := ⟨_, rfl⟩
      have hl1 : Lies (wr.drew.alloc (.cells #[.int .i64 3, .string ya, .string yb, .int .i64 0, .int .i64 0] 29)) wr.heap.size 29 #[.int .i64 3, St (let1 i), St (let1 nr), .int .i64 0, .int .i64 0] := by
        rw [← hya, ← hyb]
        exact lies_new wr.drew _ _
      have hw1 : IntKind.i64.wrap ((i : Int) + 1) = (i : Int) + 1 := by simp [IntKind.wrap, IntKind.bits, IntKind.signed]; omega
      have hw2 : IntKind.i64.wrap ((nr : Int) + 1) = (nr : Int) + 1 := by simp [IntKind.wrap, IntKind.bits, IntKind.signed]; omega
      rw [← hya] at hc1
      rw [← hyb] at hc2
      have hX1 : BkM w1.heap.size av nv l (parR m i) vs wr.drew := by
        have hb : But (fun _ => False) wr wr.drew := (But.refl _ wr).drew
        exact ⟨own_but M1.out.own hb (fun _ _ => id), own_but M1.out.row hb (fun _ _ => id), ⟨M1.out.rws.len, fun j => win_but (M1.out.rws.win j) hb (fun _ _ => id), M1.out.rws.sep⟩, M1.out.sz⟩
      have hll : l.length = i := by rw [HL.out]; simp
      obtain ⟨A5, C5, Z, hr, hO, hg⟩ := app_act (wr.drew.alloc (.cells #[.int .i64 3, .string ya, .string yb, .int .i64 0, .int .i64 0] 29)) w1.heap.size wr.heap.size av l ⟨3, let1 i, let1 nr, 0, 0⟩ (World.ownsRow.alloc hX1.own _) hl1 (by have := hX1.sz; simp at this ⊢; omega) (by omega)
      have hM2 := bk_act hX1 hO hg
      have hBZ : Below w.heap.size w Z := (HB.out.drew).trans ((((But.refl (fun k => some k = av.ownBlock) wr.drew).alloc _).trans (But.grown hg)).below HB.out.size (fun k hk => by have := (own_heap hX1.own k hk.symm).1; have := H1.out.size; omega))
      have hpr := parR_next m i
      rw [← HNR.out] at hpr
      have hrow2 : ((Z.alloc (.cells #[.int .i64 (nr : Int)] 3)).alloc (.cells #[.slice (some ⟨Z.heap.size, 0, none⟩) 1 1] 33)).ownsRow w1.heap.size 33 1 nv vs.length vs := World.ownsRow.alloc (World.ownsRow.alloc hM2.row _) _
      have hl2 := lies_new (Z.alloc (.cells #[.int .i64 (nr : Int)] 3)) 33 #[.slice (some ⟨Z.heap.size, 0, none⟩) 1 1]
      have c2 := lies_cell hl2 0
      rw [World.size_alloc] at c2
      simp only [List.getElem?_toArray, List.getElem?_cons_zero] at c2
      have hvl : vs.length = i := by rw [hX1.rws.len]; simp [parR]
      obtain ⟨A6, C6, Z2, hr2, hO2, hg2, _⟩ := row_slice _ w1.heap.size (Z.heap.size + 1) nv (.slice (some ⟨Z.heap.size, 0, none⟩) 1 1) vs.length vs hrow2 c2 rfl (by have := hM2.sz; simp; omega) (by omega)
      have hM3 := bk_row hM2 hO2 hg2
      rw [← hpr] at hM3
      have hB3 : Below w.heap.size w Z2 := hBZ.trans (((((But.refl (fun k => some k = nv.ownBlock) Z).alloc _).alloc _).trans (But.grown hg2)).below hBZ.size (fun k hk => by have := (own_heap hM2.row k hk.symm).1; have := H1.out.size; omega))
      have M3 := Lib.hid hM3
      have B3 := Lib.hid hB3
      have HL2 := Lib.hid (show l ++ [(⟨3, let1 i, let1 nr, 0, 0⟩ : Ac)] = (List.range (i + 1)).map (fun k => (⟨3, let1 k, let1 (nxtR m k), 0, 0⟩ : Ac)) by rw [HL.out, HNR.out, List.range_succ, List.map_append]; rfl)
      clear hX1 hl1 hO hM2 hBZ hpr hrow2 hl2 c2 hvl hO2 hM3 hB3 hg hg2 hya hyb hll
      obtain ⟨ia, hia, hza0, hza1, hza2⟩ := info_parts ac_info
      have HIA := Lib.hid hia
      have HZ0 := Lib.hid hza0
      have HZ1 := Lib.hid hza1
      clear hia hza0 hza1 hza2
      go_upto_region 10 with (fail)
      rw [hmod]
      clear hmod m0
      have KF : ∀ (lq : Array Bool) (pq kq : Nat) (uq : Value) (W W' : World), (True) → W.grownBy W' none → ((fun (l_ : Array Bool) (j_ : Nat) (v_ : Value) (W : World) => match j_ with | 0 => v_ = av | 1 => v_ = .int .i64 (i : Int) | 2 => v_ = .int .i64 (i : Int) | 3 => v_ = .int .i64 ((i : Int) + 1) | 4 => v_ = .string ya | 5 => v_ = .int .i64 (nr : Int) | 6 => v_ = .int .i64 (nr : Int) | 7 => v_ = .int .i64 ((nr : Int) + 1) | 8 => v_ = .string yb | 9 => v_ = .agg #[.int .i64 3, .string ya, .string yb, .int .i64 0, .int .i64 0] | 10 => v_ = .slice (some ⟨wr.heap.size, 0, none⟩) 1 1 | 11 => v_ = .slice A5 (l.length + 1) C5 | 12 => v_ = .slice A5 (l.length + 1) C5 | _ => True) : Array Bool → Nat → Value → World → Prop) lq kq uq W → ((fun (l_ : Array Bool) (j_ : Nat) (v_ : Value) (W : World) => match j_ with | 0 => v_ = av | 1 => v_ = .int .i64 (i : Int) | 2 => v_ = .int .i64 (i : Int) | 3 => v_ = .int .i64 ((i : Int) + 1) | 4 => v_ = .string ya | 5 => v_ = .int .i64 (nr : Int) | 6 => v_ = .int .i64 (nr : Int) | 7 => v_ = .int .i64 ((nr : Int) + 1) | 8 => v_ = .string yb | 9 => v_ = .agg #[.int .i64 3, .string ya, .string yb, .int .i64 0, .int .i64 0] | 10 => v_ = .slice (some ⟨wr.heap.size, 0, none⟩) 1 1 | 11 => v_ = .slice A5 (l.length + 1) C5 | 12 => v_ = .slice A5 (l.length + 1) C5 | _ => True) : Array Bool → Nat → Value → World → Prop) (lq.setIfInBounds pq true) kq uq W' := fun lq pq kq uq W W' hp hg h => by
        have kl : ∀ {g t cs}, Lies W g t cs → Lies W' g t cs := fun h => (hg.block _ (lies_lt h) (by simp)).trans h
        have ko : ∀ {B e z v k xs}, W.ownsRow B e z v k xs → W'.ownsRow B e z v k xs := fun {B e z v k xs} h => h.kept hg (by cases v.ownBlock <;> simp)
        match kq, h with
        | 0, h => exact h
        | 1, h => exact h
        | 2, h => exact h
        | 3, h => exact h
        | 4, h => exact h
        | 5, h => exact h
        | 6, h => exact h
        | 7, h => exact h
        | 8, h => exact h
        | 9, h => exact h
        | 10, h => exact h
        | 11, h => exact h
        | 12, h => exact h
        | _ + 13, _ => exact trivial
      have gr : ∀ W : World, W.grownBy W none := fun W => ⟨rfl, rfl, rfl, Nat.le_refl _, fun _ _ _ => rfl⟩
      have KP := fun (lq : Array Bool) (pq : Nat) (W : World) (hp : True) => fun (kq : Nat) (uq : Value) (_ : kq ≠ pq) (_ : lq.getD kq false = true) (h : ((fun (l_ : Array Bool) (j_ : Nat) (v_ : Value) (W : World) => match j_ with | 0 => v_ = av | 1 => v_ = .int .i64 (i : Int) | 2 => v_ = .int .i64 (i : Int) | 3 => v_ = .int .i64 ((i : Int) + 1) | 4 => v_ = .string ya | 5 => v_ = .int .i64 (nr : Int) | 6 => v_ = .int .i64 (nr : Int) | 7 => v_ = .int .i64 ((nr : Int) + 1) | 8 => v_ = .string yb | 9 => v_ = .agg #[.int .i64 3, .string ya, .string yb, .int .i64 0, .int .i64 0] | 10 => v_ = .slice (some ⟨wr.heap.size, 0, none⟩) 1 1 | 11 => v_ = .slice A5 (l.length + 1) C5 | 12 => v_ = .slice A5 (l.length + 1) C5 | _ => True) : Array Bool → Nat → Value → World → Prop) lq kq uq W) => KF lq pq kq uq W W hp (gr W) h
      have IV : ∀ (lq : Array Bool) (pq : Nat) (W W' : World), (pq ≠ 10 ∧ pq ≠ 11) → W = W' → ((fun (l_ : Array Bool) (W : World) => (l_.getD 10 false = false → W = wr.drew) ∧ (l_.getD 10 false = true → l_.getD 11 false = false → W = wr.drew.alloc (.cells #[.int .i64 3, .string ya, .string yb, .int .i64 0, .int .i64 0] 29)) ∧ (l_.getD 11 false = true → W = Z)) : Array Bool → World → Prop) lq W → ((fun (l_ : Array Bool) (W : World) => (l_.getD 10 false = false → W = wr.drew) ∧ (l_.getD 10 false = true → l_.getD 11 false = false → W = wr.drew.alloc (.cells #[.int .i64 3, .string ya, .string yb, .int .i64 0, .int .i64 0] 29)) ∧ (l_.getD 11 false = true → W = Z)) : Array Bool → World → Prop) (lq.setIfInBounds pq true) W' := fun lq pq W W' hp hg h => by
        have h10 : (lq.setIfInBounds pq true).getD 10 false = lq.getD 10 false := by rw [getD_set_ne false hp.1]
        have h11 : (lq.setIfInBounds pq true).getD 11 false = lq.getD 11 false := by rw [getD_set_ne false hp.2]
        subst hg
        exact ⟨fun e => h.1 (by rw [← h10]; exact e), fun e1 e2 => h.2.1 (by rw [← h10]; exact e1) (by rw [← h11]; exact e2), fun e => h.2.2 (by rw [← h11]; exact e)⟩
      refine wp_region_any (by kernel_rfl) ?_
      refine every_factI (own := ownAll _) id ((fun (l_ : Array Bool) (j_ : Nat) (v_ : Value) (W : World) => match j_ with | 0 => v_ = av | 1 => v_ = .int .i64 (i : Int) | 2 => v_ = .int .i64 (i : Int) | 3 => v_ = .int .i64 ((i : Int) + 1) | 4 => v_ = .string ya | 5 => v_ = .int .i64 (nr : Int) | 6 => v_ = .int .i64 (nr : Int) | 7 => v_ = .int .i64 ((nr : Int) + 1) | 8 => v_ = .string yb | 9 => v_ = .agg #[.int .i64 3, .string ya, .string yb, .int .i64 0, .int .i64 0] | 10 => v_ = .slice (some ⟨wr.heap.size, 0, none⟩) 1 1 | 11 => v_ = .slice A5 (l.length + 1) C5 | 12 => v_ = .slice A5 (l.length + 1) C5 | _ => True) : Array Bool → Nat → Value → World → Prop) ((fun (l_ : Array Bool) (W : World) => (l_.getD 10 false = false → W = wr.drew) ∧ (l_.getD 10 false = true → l_.getD 11 false = false → W = wr.drew.alloc (.cells #[.int .i64 3, .string ya, .string yb, .int .i64 0, .int .i64 0] 29)) ∧ (l_.getD 11 false = true → W = Z)) : Array Bool → World → Prop) (acAll_of (by kernel_rfl)) (onAll_of (by kernel_rfl)) (dstAll_of (by kernel_rfl)) ?hop ?hend _ _ _ _ (fun _ => undef) rfl (shut_none _) (of_decide_eq_true (by kernel_rfl)) (tabd_start (fun i => rep_false _ i)) (fun k hk => by rw [rep_false] at hk; cases hk) ⟨fun _ => rfl, fun e => (by rw [rep_false] at e; cases e), fun e => (by rw [rep_false] at e; cases e)⟩
      case hop =>
        intro j oi a w0 listed vals hoi hs hcl hun hdeps ht hF hI
        have hj : j < 13 := (Array.getElem?_eq_some_iff.1 hoi).1
        have cj : j = 0 ∨ j = 1 ∨ j = 2 ∨ j = 3 ∨ j = 4 ∨ j = 5 ∨ j = 6 ∨ j = 7 ∨ j = 8 ∨ j = 9 ∨ j = 10 ∨ j = 11 ∨ j = 12 := by omega
        obtain rfl | rfl | rfl | rfl | rfl | rfl | rfl | rfl | rfl | rfl | rfl | rfl | rfl := cj
        all_goals obtain rfl := Option.some.inj hoi
        · have e6 : a.eval (.tmp 6) = av := (tabd_unlisted ht (t := 6) (i := 12) (of_decide_eq_true (by kernel_rfl)) (by kernel_rfl) (by cases h : listed.getD 12 false with | false => rfl | true => exact absurd (hcl 12 _ rfl h ⟨0, .phase⟩ (by simp) rfl) (by simp [hun]))).trans rfl
          exact .inl ⟨rfl, fun K hk => wp_val (v := av) (by clear hk hI hoi hdeps ht hF hcl hs KF KP IV; generalize a.eval = ρ at *; unfold execOp; simp only [e6]; go_simp; try (intro hq_; exfalso; omega)) (hk _ _ rfl (KP listed 0 w0 (by decide)) (IV listed 0 w0 w0 (by decide) rfl hI))⟩
        · have e8 : a.eval (.tmp 8) = .int .i64 (i : Int) := (tabd_old ht (t := 8) (of_decide_eq_true (by kernel_rfl)) (by kernel_rfl)).trans rfl
          exact .inl ⟨rfl, fun K hk => wp_val (v := .int .i64 (i : Int)) (by clear hk hI hoi hdeps ht hF hcl hs KF KP IV; generalize a.eval = ρ at *; unfold execOp; simp only [e8]; go_simp; try (intro hq_; exfalso; omega)) (hk _ _ rfl (KP listed 1 w0 (by decide)) (IV listed 1 w0 w0 (by decide) rfl hI))⟩
        · have e8 : a.eval (.tmp 8) = .int .i64 (i : Int) := (tabd_old ht (t := 8) (of_decide_eq_true (by kernel_rfl)) (by kernel_rfl)).trans rfl
          exact .inl ⟨rfl, fun K hk => wp_val (v := .int .i64 (i : Int)) (by clear hk hI hoi hdeps ht hF hcl hs KF KP IV; generalize a.eval = ρ at *; unfold execOp; simp only [e8]; go_simp; try (intro hq_; exfalso; omega)) (hk _ _ rfl (KP listed 2 w0 (by decide)) (IV listed 2 w0 w0 (by decide) rfl hI))⟩
        · have d2 := hdeps ⟨2, .data⟩ (by simp) rfl
          have e42 : a.eval (.tmp 42) = .int .i64 (i : Int) := (tabd_at ht (t := 42) (of_decide_eq_true (by kernel_rfl)) (by kernel_rfl) d2).trans (hF 2 d2)
          have ec1 : a.eval (.const (Value.int IntKind.i64 1)) = (Value.int IntKind.i64 1) := rfl
          refine .inl ⟨rfl, fun K hk => ?_⟩
          exact wp_val (v := .int .i64 ((i : Int) + 1)) (by clear hk hI hoi hdeps ht hF hcl hs KF KP IV; generalize a.eval = ρ at *; unfold execOp; simp only [e42, ec1]; first | (go_simp; done) | (go_simp; simp [hw1]; done) | (go_simp; rw [hw1]; done) | (go_simp; trace_state; sorry)) (hk _ _ rfl (KP listed 3 w0 (by decide)) (IV listed 3 w0 w0 (by decide) rfl hI))
        · have d1 := hdeps ⟨1, .data⟩ (by simp) rfl
          have d3 := hdeps ⟨3, .data⟩ (by simp) rfl
          have e41 : a.eval (.tmp 41) = .int .i64 (i : Int) := (tabd_at ht (t := 41) (of_decide_eq_true (by kernel_rfl)) (by kernel_rfl) d1).trans (hF 1 d1)
          have e43 : a.eval (.tmp 43) = .int .i64 ((i : Int) + 1) := (tabd_at ht (t := 43) (of_decide_eq_true (by kernel_rfl)) (by kernel_rfl) d3).trans (hF 3 d3)
          have ec2 : a.eval (.const (Value.string { data := #[97, 98, 99, 100, 101, 102, 103, 104, 105, 106, 107, 108, 109, 110, 111, 112, 113, 114, 115, 116, 117, 118, 119, 120, 121, 122] })) = (Value.string { data := #[97, 98, 99, 100, 101, 102, 103, 104, 105, 106, 107, 108, 109, 110, 111, 112, 113, 114, 115, 116, 117, 118, 119, 120, 121, 122] }) := rfl
          refine .inl ⟨rfl, fun K hk => ?_⟩
          exact wp_val (v := .string ya) (by clear hk hI hoi hdeps ht hF hcl hs KF KP IV; generalize a.eval = ρ at *; unfold execOp; simp only [e41, e43, ec2]; first | (go_simp; done) | exact hc1 _ | (simp only [Sem.run_bind, hc1, Result.andThen_ok]; done) | (go_simp; trace_state; sorry)) (hk _ _ rfl (KP listed 4 w0 (by decide)) (IV listed 4 w0 w0 (by decide) rfl hI))
        · have e9 : a.eval (.tmp 9) = .int .i64 (nr : Int) := (tabd_old ht (t := 9) (of_decide_eq_true (by kernel_rfl)) (by kernel_rfl)).trans rfl
          exact .inl ⟨rfl, fun K hk => wp_val (v := .int .i64 (nr : Int)) (by clear hk hI hoi hdeps ht hF hcl hs KF KP IV; generalize a.eval = ρ at *; unfold execOp; simp only [e9]; go_simp; try (intro hq_; exfalso; omega)) (hk _ _ rfl (KP listed 5 w0 (by decide)) (IV listed 5 w0 w0 (by decide) rfl hI))⟩
        · have e9 : a.eval (.tmp 9) = .int .i64 (nr : Int) := (tabd_old ht (t := 9) (of_decide_eq_true (by kernel_rfl)) (by kernel_rfl)).trans rfl
          exact .inl ⟨rfl, fun K hk => wp_val (v := .int .i64 (nr : Int)) (by clear hk hI hoi hdeps ht hF hcl hs KF KP IV; generalize a.eval = ρ at *; unfold execOp; simp only [e9]; go_simp; try (intro hq_; exfalso; omega)) (hk _ _ rfl (KP listed 6 w0 (by decide)) (IV listed 6 w0 w0 (by decide) rfl hI))⟩
        · have d6 := hdeps ⟨6, .data⟩ (by simp) rfl
          have e46 : a.eval (.tmp 46) = .int .i64 (nr : Int) := (tabd_at ht (t := 46) (of_decide_eq_true (by kernel_rfl)) (by kernel_rfl) d6).trans (hF 6 d6)
          have ec1 : a.eval (.const (Value.int IntKind.i64 1)) = (Value.int IntKind.i64 1) := rfl
          refine .inl ⟨rfl, fun K hk => ?_⟩
          exact wp_val (v := .int .i64 ((nr : Int) + 1)) (by clear hk hI hoi hdeps ht hF hcl hs KF KP IV; generalize a.eval = ρ at *; unfold execOp; simp only [e46, ec1]; first | (go_simp; done) | (go_simp; simp [hw2]; done) | (go_simp; rw [hw2]; done) | (go_simp; trace_state; sorry)) (hk _ _ rfl (KP listed 7 w0 (by decide)) (IV listed 7 w0 w0 (by decide) rfl hI))
        · have d5 := hdeps ⟨5, .data⟩ (by simp) rfl
          have d7 := hdeps ⟨7, .data⟩ (by simp) rfl
          have e45 : a.eval (.tmp 45) = .int .i64 (nr : Int) := (tabd_at ht (t := 45) (of_decide_eq_true (by kernel_rfl)) (by kernel_rfl) d5).trans (hF 5 d5)
          have e47 : a.eval (.tmp 47) = .int .i64 ((nr : Int) + 1) := (tabd_at ht (t := 47) (of_decide_eq_true (by kernel_rfl)) (by kernel_rfl) d7).trans (hF 7 d7)
          have ec2 : a.eval (.const (Value.string { data := #[97, 98, 99, 100, 101, 102, 103, 104, 105, 106, 107, 108, 109, 110, 111, 112, 113, 114, 115, 116, 117, 118, 119, 120, 121, 122] })) = (Value.string { data := #[97, 98, 99, 100, 101, 102, 103, 104, 105, 106, 107, 108, 109, 110, 111, 112, 113, 114, 115, 116, 117, 118, 119, 120, 121, 122] }) := rfl
          refine .inl ⟨rfl, fun K hk => ?_⟩
          exact wp_val (v := .string yb) (by clear hk hI hoi hdeps ht hF hcl hs KF KP IV; generalize a.eval = ρ at *; unfold execOp; simp only [e45, e47, ec2]; first | (go_simp; done) | exact hc2 _ | (simp only [Sem.run_bind, hc2, Result.andThen_ok]; done) | (go_simp; trace_state; sorry)) (hk _ _ rfl (KP listed 8 w0 (by decide)) (IV listed 8 w0 w0 (by decide) rfl hI))
        · have d4 := hdeps ⟨4, .data⟩ (by simp) rfl
          have d8 := hdeps ⟨8, .data⟩ (by simp) rfl
          have e44 : a.eval (.tmp 44) = .string ya := (tabd_at ht (t := 44) (of_decide_eq_true (by kernel_rfl)) (by kernel_rfl) d4).trans (hF 4 d4)
          have e48 : a.eval (.tmp 48) = .string yb := (tabd_at ht (t := 48) (of_decide_eq_true (by kernel_rfl)) (by kernel_rfl) d8).trans (hF 8 d8)
          refine .inl ⟨rfl, fun K hk => ?_⟩
          have hbu : Tryz.prog.built 29 (#[(0, .int .i64 3), (1, .string ya), (2, .string yb)] : Array (Nat × Value)).toList = some #[.int .i64 3, .string ya, .string yb, .int .i64 0, .int .i64 0] := by kernel_rfl
          exact wp_valT (v := .agg #[.int .i64 3, .string ya, .string yb, .int .i64 0, .int .i64 0]) (build_op 29 _ rfl #[.int .i64 3, .string ya, .string yb, .int .i64 0, .int .i64 0] (by simp only [List.map_toArray, List.map_cons, List.map_nil, e44, e48]; exact hbu)) (hk _ _ rfl (KP listed 9 w0 (by decide)) (IV listed 9 w0 w0 (by decide) rfl hI))
        · have d9 := hdeps ⟨9, .data⟩ (by simp) rfl
          have e49 : a.eval (.tmp 49) = .agg #[.int .i64 3, .string ya, .string yb, .int .i64 0, .int .i64 0] := (tabd_at ht (t := 49) (of_decide_eq_true (by kernel_rfl)) (by kernel_rfl) d9).trans (hF 9 d9)
          refine .inl ⟨rfl, fun K hk => ?_⟩
          have PR := fun W' => show ∀ (kq : Nat) (uq : Value), kq ≠ 10 → listed.getD kq false = true → ((fun (l_ : Array Bool) (j_ : Nat) (v_ : Value) (W : World) => match j_ with | 0 => v_ = av | 1 => v_ = .int .i64 (i : Int) | 2 => v_ = .int .i64 (i : Int) | 3 => v_ = .int .i64 ((i : Int) + 1) | 4 => v_ = .string ya | 5 => v_ = .int .i64 (nr : Int) | 6 => v_ = .int .i64 (nr : Int) | 7 => v_ = .int .i64 ((nr : Int) + 1) | 8 => v_ = .string yb | 9 => v_ = .agg #[.int .i64 3, .string ya, .string yb, .int .i64 0, .int .i64 0] | 10 => v_ = .slice (some ⟨wr.heap.size, 0, none⟩) 1 1 | 11 => v_ = .slice A5 (l.length + 1) C5 | 12 => v_ = .slice A5 (l.length + 1) C5 | _ => True) : Array Bool → Nat → Value → World → Prop) listed kq uq w0 → ((fun (l_ : Array Bool) (j_ : Nat) (v_ : Value) (W : World) => match j_ with | 0 => v_ = av | 1 => v_ = .int .i64 (i : Int) | 2 => v_ = .int .i64 (i : Int) | 3 => v_ = .int .i64 ((i : Int) + 1) | 4 => v_ = .string ya | 5 => v_ = .int .i64 (nr : Int) | 6 => v_ = .int .i64 (nr : Int) | 7 => v_ = .int .i64 ((nr : Int) + 1) | 8 => v_ = .string yb | 9 => v_ = .agg #[.int .i64 3, .string ya, .string yb, .int .i64 0, .int .i64 0] | 10 => v_ = .slice (some ⟨wr.heap.size, 0, none⟩) 1 1 | 11 => v_ = .slice A5 (l.length + 1) C5 | 12 => v_ = .slice A5 (l.length + 1) C5 | _ => True) : Array Bool → Nat → Value → World → Prop) (listed.setIfInBounds 10 true) kq uq W' from
            (fun kq uq hkp hkl h => by
              have s_ : (listed.setIfInBounds 10 true).getD 10 false = true := getD_here (by rw [hs]; decide)
              match kq, hkp, hkl, h with
              | 0, _, _, h => exact h
              | 1, _, _, h => exact h
              | 2, _, _, h => exact h
              | 3, _, _, h => exact h
              | 4, _, _, h => exact h
              | 5, _, _, h => exact h
              | 6, _, _, h => exact h
              | 7, _, _, h => exact h
              | 8, _, _, h => exact h
              | 9, _, _, h => exact h
              | 10, hk, _, _ => exact absurd rfl hk
              | 11, _, _, h => exact h
              | 12, _, _, h => exact h
              | _ + 13, _, _, _ => exact trivial)
          have n11 : listed.getD 11 false = false := (by cases hh : listed.getD 11 false with | false => rfl | true => exact absurd (hcl 11 _ rfl hh ⟨10, .data⟩ (by simp) rfl) (by simp [hun]))
          have hw := hI.1 hun
          subst hw
          exact Go.wp_buildSlice 22 29 1 _ rfl #[.int .i64 3, .string ya, .string yb, .int .i64 0, .int .i64 0] ia _ Tryz.underlying22 HIA.out HZ0.out (by rw [HZ1.out]; decide) (by rw [HZ1.out]; decide) (by rw [HZ1.out]; simp only [List.map_toArray, List.map_cons, List.map_nil, e49]; kernel_rfl) (hk _ _ rfl (PR Z) ⟨fun e => (by rw [getD_here (by rw [hs]; decide)] at e; cases e), fun _ _ => rfl, fun e => (by rw [getD_set_ne false (by decide), n11] at e; cases e)⟩)
        · have d0 := hdeps ⟨0, .data⟩ (by simp) rfl
          have d10 := hdeps ⟨10, .data⟩ (by simp) rfl
          have e40 : a.eval (.tmp 40) = av := (tabd_at ht (t := 40) (of_decide_eq_true (by kernel_rfl)) (by kernel_rfl) d0).trans (hF 0 d0)
          have e50 : a.eval (.tmp 50) = .slice (some ⟨wr.heap.size, 0, none⟩) 1 1 := (tabd_at ht (t := 50) (of_decide_eq_true (by kernel_rfl)) (by kernel_rfl) d10).trans (hF 10 d10)
          refine .inl ⟨rfl, fun K hk => ?_⟩
          have PR := fun W' => show ∀ (kq : Nat) (uq : Value), kq ≠ 11 → listed.getD kq false = true → ((fun (l_ : Array Bool) (j_ : Nat) (v_ : Value) (W : World) => match j_ with | 0 => v_ = av | 1 => v_ = .int .i64 (i : Int) | 2 => v_ = .int .i64 (i : Int) | 3 => v_ = .int .i64 ((i : Int) + 1) | 4 => v_ = .string ya | 5 => v_ = .int .i64 (nr : Int) | 6 => v_ = .int .i64 (nr : Int) | 7 => v_ = .int .i64 ((nr : Int) + 1) | 8 => v_ = .string yb | 9 => v_ = .agg #[.int .i64 3, .string ya, .string yb, .int .i64 0, .int .i64 0] | 10 => v_ = .slice (some ⟨wr.heap.size, 0, none⟩) 1 1 | 11 => v_ = .slice A5 (l.length + 1) C5 | 12 => v_ = .slice A5 (l.length + 1) C5 | _ => True) : Array Bool → Nat → Value → World → Prop) listed kq uq w0 → ((fun (l_ : Array Bool) (j_ : Nat) (v_ : Value) (W : World) => match j_ with | 0 => v_ = av | 1 => v_ = .int .i64 (i : Int) | 2 => v_ = .int .i64 (i : Int) | 3 => v_ = .int .i64 ((i : Int) + 1) | 4 => v_ = .string ya | 5 => v_ = .int .i64 (nr : Int) | 6 => v_ = .int .i64 (nr : Int) | 7 => v_ = .int .i64 ((nr : Int) + 1) | 8 => v_ = .string yb | 9 => v_ = .agg #[.int .i64 3, .string ya, .string yb, .int .i64 0, .int .i64 0] | 10 => v_ = .slice (some ⟨wr.heap.size, 0, none⟩) 1 1 | 11 => v_ = .slice A5 (l.length + 1) C5 | 12 => v_ = .slice A5 (l.length + 1) C5 | _ => True) : Array Bool → Nat → Value → World → Prop) (listed.setIfInBounds 11 true) kq uq W' from
            (fun kq uq hkp hkl h => by
              have s_ : (listed.setIfInBounds 11 true).getD 11 false = true := getD_here (by rw [hs]; decide)
              match kq, hkp, hkl, h with
              | 0, _, _, h => exact h
              | 1, _, _, h => exact h
              | 2, _, _, h => exact h
              | 3, _, _, h => exact h
              | 4, _, _, h => exact h
              | 5, _, _, h => exact h
              | 6, _, _, h => exact h
              | 7, _, _, h => exact h
              | 8, _, _, h => exact h
              | 9, _, _, h => exact h
              | 10, _, _, h => exact h
              | 11, hk, _, _ => exact absurd rfl hk
              | 12, _, _, h => exact h
              | _ + 13, _, _, _ => exact trivial)
          have hw := hI.2.1 d10 hun
          subst hw
          exact wp_valT (v := .slice A5 (l.length + 1) C5) (w' := Z) (app_op _ _ rfl e40 e50 hr) (hk _ _ rfl (PR Z) ⟨fun e => (by rw [getD_set_ne false (by decide), d10] at e; cases e), fun _ e => (by rw [getD_here (by rw [hs]; decide)] at e; cases e), fun _ => rfl⟩)
        · have d11 := hdeps ⟨11, .data⟩ (by simp) rfl
          have e51 : a.eval (.tmp 51) = .slice A5 (l.length + 1) C5 := (tabd_at ht (t := 51) (of_decide_eq_true (by kernel_rfl)) (by kernel_rfl) d11).trans (hF 11 d11)
          exact .inl ⟨rfl, fun K hk => wp_val (v := .slice A5 (l.length + 1) C5) (by clear hk hI hoi hdeps ht hF hcl hs KF KP IV; generalize a.eval = ρ at *; unfold execOp; simp only [e51]; go_simp; try (intro hq_; exfalso; omega)) (hk _ _ rfl (KP listed 12 w0 (by decide)) (IV listed 12 w0 w0 (by decide) rfl hI))⟩
      case hend =>
        intro a w0 listed vals hall ht hF hI
        rw [tabd_fill ht (fun t i ho => hall i (ownAll_lt ho))]
        have g0 : vals 0 = av := hF 0 (by decide)
        have g1 : vals 1 = .int .i64 (i : Int) := hF 1 (by decide)
        have g2 : vals 2 = .int .i64 (i : Int) := hF 2 (by decide)
        have g3 : vals 3 = .int .i64 ((i : Int) + 1) := hF 3 (by decide)
        have g4 : vals 4 = .string ya := hF 4 (by decide)
        have g5 : vals 5 = .int .i64 (nr : Int) := hF 5 (by decide)
        have g6 : vals 6 = .int .i64 (nr : Int) := hF 6 (by decide)
        have g7 : vals 7 = .int .i64 ((nr : Int) + 1) := hF 7 (by decide)
        have g8 : vals 8 = .string yb := hF 8 (by decide)
        have g9 : vals 9 = .agg #[.int .i64 3, .string ya, .string yb, .int .i64 0, .int .i64 0] := hF 9 (by decide)
        have g10 : vals 10 = .slice (some ⟨wr.heap.size, 0, none⟩) 1 1 := hF 10 (by decide)
        have g11 : vals 11 = .slice A5 (l.length + 1) C5 := hF 11 (by decide)
        have g12 : vals 12 = .slice A5 (l.length + 1) C5 := hF 12 (by decide)
        change (Exit.then _ _) Exit.normal { tmps := (.int .i64 (m : Int) :: .int .i64 f :: undef :: undef :: .bool false :: .bool true :: vals 12 :: nv :: .int .i64 (i : Int) :: .int .i64 (nr : Int) :: undef :: undef :: undef :: undef :: undef :: .bool true :: .bool true :: .bool false :: .bool false :: .int .i64 (m : Int) :: .bool (decide ((m : Int) < 2)) :: .bool (decide ((m : Int) < 2)) :: .bool (decide ((m : Int) < 2)) :: .int .i64 (m : Int) :: .bool (decide (26 < (m : Int))) :: .bool (decide ((m : Int) < 2) || decide (26 < (m : Int))) :: .bool (decide ((m : Int) < 2) || decide (26 < (m : Int))) :: .int .i64 f :: .bool (decide (f < 0)) :: .bool (decide ((m : Int) < 2) || decide (26 < (m : Int)) || decide (f < 0)) :: undef :: .int .i64 (i : Int) :: .int .i64 (m : Int) :: .bool true :: u34 :: u35 :: .int .i64 (i : Int) :: .int .i64 ((i : Int) + 1) :: .int .i64 (m : Int) :: .int .i64 (nr : Int) :: vals 0 :: vals 1 :: vals 2 :: vals 3 :: vals 4 :: vals 5 :: vals 6 :: vals 7 :: vals 8 :: vals 9 :: vals 10 :: vals 11 :: u52 :: u53 :: u54 :: u55 :: u56 :: undef :: undef :: undef :: undef :: undef :: undef :: undef :: undef :: undef :: undef :: undef :: undef :: undef :: undef :: undef :: undef :: undef :: undef :: undef :: undef :: undef :: undef :: undef :: undef :: undef :: undef :: undef :: undef :: undef :: undef :: undef :: undef :: undef :: undef :: undef :: undef :: undef :: undef :: undef :: undef :: undef :: undef :: undef :: undef :: undef :: undef :: undef :: undef :: undef :: undef :: undef :: undef :: undef :: undef :: undef :: undef :: undef :: undef :: undef :: undef :: undef :: undef :: undef :: undef :: undef :: undef :: undef :: undef :: undef :: undef :: undef :: undef :: undef :: undef :: undef :: undef :: []).toArray, defers := [] } w0
        simp only [g0, g1, g2, g3, g4, g5, g6, g7, g8, g9, g10, g11, g12]
        clear ht hF KF KP IV
        have hZ := hI.2.2 (hall 11 (by decide))
        subst hZ
        clear hI hall
        have hr2z := hr2
        go_wp2_with (refine wpList_app_run (t1 := 23) (t2 := 23) rfl _ _ rfl rfl rfl hr2 ?_)
        go_roundw
        case rel => exact ⟨i + 1, _, _, _, _, by omega, by go_num, rfl, rfl, M3.out, B3.out, HL2.out⟩
        case measure => first | (simp [intOf]; done) | (simp [intOf]; omega)
    · obtain rfl : i = m := by omega
      have li : ¬ (i : Int) < (i : Int) := by omega
      have hM := M1.out
      rw [parR_end] at hM
      have hl := HL.out
      have hll : l.length = i := by rw [hl]; simp
      have h3 : ∀ a ∈ l, a.op = 3 := fun a ha => by
        rw [hl] at ha
        obtain ⟨k, _, rfl⟩ := List.mem_map.1 ha
        rfl
      have hbl : ∀ a ∈ l, a.p.length ≤ 100000 := fun a ha => by
        rw [hl] at ha
        obtain ⟨k, _, rfl⟩ := List.mem_map.1 ha
        exact (by decide : 1 ≤ 100000)
      obtain ⟨r, hr⟩ : ∃ r, l = (⟨3, [97], [98], 0, 0⟩ : Ac) :: r := by
        obtain ⟨q, rfl⟩ : ∃ q, i = q + 2 := ⟨i - 2, by omega⟩
        have e : nxtR (q + 2) 0 = 1 := by unfold nxtR; rw [if_pos (by omega)]
        refine ⟨((List.range (q + 1)).map Nat.succ).map fun k => (⟨3, let1 k, let1 (nxtR (q + 2) k), 0, 0⟩ : Ac), ?_⟩
        rw [hl, List.range_succ_eq_map, List.map_cons, e]
        rfl
      have KB := brk_ring hS hM hll (by omega) (by omega) hbl (pow_below HT.out HB.out)
      have K1 := Lib.hid (KB.mono fun e w' h => brk_out h n1 (by omega) hll h3 (by rw [hr]; exact kept_a))
      have hrl : r.length + 1 = i := by rw [← hll, hr]; rfl
      have HR := Lib.hid hr
      have HRL := Lib.hid hrl
      clear KB hM hbl hl hll h3 hr hrl
      have hw1 : IntKind.i64.wrap ((i : Int) + 1) = (i : Int) + 1 := by simp [IntKind.wrap, IntKind.bits, IntKind.signed]; omega
      have i0 : 0 ≤ (i : Int) := by omega
      have i1 : (i : Int) < (i : Int) + 1 := by omega
      go_wp2_with (first
        | (go_at_call 10; (with_reducible refine K1.out.mono ?_); rintro e w5 ⟨g, c, ng, nc, b, o, c2, A0, c0, hR⟩; obtain ⟨rfl, hac, hl5, hl6, hl7, hf5, hlow⟩ := hR; have HB1 := Lib.hid (HB.out.trans (hlow.mono HB.out.size)); rw [HR.out] at hac; have hat := fun j u h => hac (i * 5 + j) u (at_end _ _ i j u (by show (_ :: r).length = i; exact HRL.out) h); have k0 : w5.cell? ⟨g, 0, none⟩ = some (.int .i64 3) := hac 0 _ rfl; have k1 : w5.cell? ⟨g, 1, none⟩ = some (.string { data := #[97] }) := hac 1 _ rfl; have k2 : w5.cell? ⟨g, 2, none⟩ = some (.string { data := #[46, 116, 115, 45, 48] }) := hac 2 _ rfl; have k3 : w5.cell? ⟨g, 3, none⟩ = some (.int .i64 0) := hac 3 _ rfl; have k4 : w5.cell? ⟨g, 4, none⟩ = some (.int .i64 0) := hac 4 _ rfl; have j0 : w5.cell? ⟨g, i * 5, none⟩ = some (.int .i64 3) := hat 0 _ rfl; have j1 : w5.cell? ⟨g, i * 5 + 1, none⟩ = some (.string { data := #[46, 116, 115, 45, 48] }) := hat 1 _ rfl; have j2 : w5.cell? ⟨g, i * 5 + 2, none⟩ = some (.string { data := #[98] }) := hat 2 _ rfl; have j3 : w5.cell? ⟨g, i * 5 + 3, none⟩ = some (.int .i64 0) := hat 3 _ rfl; have j4 : w5.cell? ⟨g, i * 5 + 4, none⟩ = some (.int .i64 0) := hat 4 _ rfl; clear hac hat hlow)
        | (go_at_call 15; (with_reducible refine (cnum_any _ _).mono ?_); rintro e w6 ⟨rfl, h⟩; have h := h.symm; subst h))
      go_ret
      exact ⟨rfl, HB1.out⟩
end Go.Proofs.YtpddamloajpiiaaGreatDoor
