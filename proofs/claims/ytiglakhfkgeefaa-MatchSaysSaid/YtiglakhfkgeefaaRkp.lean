/-
What is proved here: the document's own Loose, by a contract. the document's own Kept and Check, by contracts.
-/
import Derived.Test.YtiglakhfkgeefaaFrm
import Derived.Test.YtiglakhfkgeefaaChk
set_option linter.unusedSimpArgs false
namespace Go.Proofs.Ytiglakhfkgeefaa
open Go.Pth Go.Tre Go.RowKit Go.Word Go.Shelf

set_option maxRecDepth 100000 in
set_option maxHeartbeats 4000000 in
theorem loose_ref (NA FA : Option Addr) (nc fc : Nat) (ns : List Nd) (fs : List Fl) (w : World) (hN : NodesAt w NA ns) (hF : FilesAt w FA fs) (hp : ∀ x ∈ ns, x.path.length ≤ 100000) :
    Calls Try.prog 39 #[.agg #[.slice NA ns.length nc, .slice FA fs.length fc]] w fun e w' => e = .returned (.int .i64 (looseE ns fs)) ∧ Below w.heap.size w w' := by
  have L := lies_new w 25 #[.slice NA ns.length nc, .slice FA fs.length fc]
  have hB : Below w.heap.size w (w.alloc (.cells #[.slice NA ns.length nc, .slice FA fs.length fc] 25)) := (Below.refl _ _).alloc (Nat.le_refl _) _
  have KB := Lib.hid (big_ref NA FA nc fc ns.length fs _ (filesAt_below hF hB))
  have KF := fun (W : World) (hb : Below w.heap.size w W) (h1 : ns.length ≤ 1000000) (h2 : fs.length ≤ 1000000) => Lib.hid (form_ref NA FA nc fc ns fs W (nodesAt_below hN hb) (filesAt_below hF hb) hp h1 h2)
  simp only [form_loose] at KF
  have x0 := lies_cell L 0
  have x1 := lies_cell L 1
  simp only [List.getElem?_toArray, List.getElem?_cons_zero, List.getElem?_cons_succ] at x0 x1
  have LX := Lib.hid L
  have HB := Lib.hid hB
  have hE : looseE ns fs = if tooB ns.length fs = true then 31 else if looseB ns fs = true then 0 else 30 := rfl
  rw [hE]
  have hs : tooB ns.length fs = false → ns.length ≤ 1000000 ∧ fs.length ≤ 1000000 := fun h => by
    unfold tooB at h
    simp only [Bool.or_eq_false_iff, decide_eq_false_iff_not] at h
    omega
  clear L hB hN hF hp hE
  generalize ns.length = n at *
  generalize fs.length = m at *
  generalize tooB n fs = t at *
  generalize looseB ns fs = l at *
  have after : ∀ W, Below (w.alloc (.cells #[.slice NA n nc, .slice FA m fc] 25)).heap.size (w.alloc (.cells #[.slice NA n nc, .slice FA m fc] 25)) W →
      Hid (W.cell? ⟨w.heap.size, 0, none⟩ = some (.slice NA n nc) ∧ W.cell? ⟨w.heap.size, 1, none⟩ = some (.slice FA m fc)) := fun W hb =>
    Lib.hid ⟨(hb.cell (p := ⟨w.heap.size, 0, none⟩) (lies_lt LX.out)).trans x0, (hb.cell (p := ⟨w.heap.size, 1, none⟩) (lies_lt LX.out)).trans x1⟩
  cases t with
  | true =>
    rw [if_pos rfl]
    clear hs
    go_enter Try.func39, Try.ntmps39
    go_wp2_with (go_at_call 54; (with_reducible refine KB.out.mono ?_); rintro e w1 ⟨rfl, hb⟩; have B1 := Lib.hid (HB.out.trans (hb.mono HB.out.size)); clear hb)
    go_ret
    exact ⟨rfl, B1.out⟩
  | false =>
    rw [if_neg (by decide)]
    obtain ⟨h1, h2⟩ := hs rfl
    clear hs
    cases l with
    | true =>
      rw [if_pos rfl]
      go_enter Try.func39, Try.ntmps39
      go_wp2_with (first
        | (go_at_call 54; (with_reducible refine KB.out.mono ?_); rintro e w1 ⟨rfl, hb⟩; obtain ⟨q0, q1⟩ := (after w1 hb).out; have B1 := Lib.hid (HB.out.trans (hb.mono HB.out.size)); clear hb)
        | (go_at_call 55; (with_reducible refine (KF _ B1.out h1 h2).out.mono ?_); rintro e w2 ⟨rfl, hb⟩; have B2 := Lib.hid (B1.out.trans (hb.mono B1.out.size)); clear hb))
      go_ret
      exact ⟨rfl, B2.out⟩
    | false =>
      rw [if_neg (by decide)]
      go_enter Try.func39, Try.ntmps39
      go_wp2_with (first
        | (go_at_call 54; (with_reducible refine KB.out.mono ?_); rintro e w1 ⟨rfl, hb⟩; obtain ⟨q0, q1⟩ := (after w1 hb).out; have B1 := Lib.hid (HB.out.trans (hb.mono HB.out.size)); clear hb)
        | (go_at_call 55; (with_reducible refine (KF _ B1.out h1 h2).out.mono ?_); rintro e w2 ⟨rfl, hb⟩; have B2 := Lib.hid (B1.out.trans (hb.mono B1.out.size)); clear hb))
      go_ret
      exact ⟨rfl, B2.out⟩
end Go.Proofs.Ytiglakhfkgeefaa
set_option linter.unusedSimpArgs false
set_option linter.unusedVariables false
namespace Go.Proofs.Ytiglakhfkgeefaa
open Go.Pth Go.Tre Go.RowKit Go.Word
attribute [local go_sem] guard_eq eql_dot eql_dots len_st eql_ts
theorem kept_short (x : Bt) (h : x.length < 3) : keptN x = false := by
  unfold keptN Lib.hasPrefix
  cases x with
  | nil => rfl
  | cons a r =>
    cases r with
    | nil => simp [List.isPrefixOf]
    | cons b r =>
      cases r with
      | nil => simp [List.isPrefixOf]
      | cons c r => simp at h; omega
theorem kept_take (x : Bt) (h : 3 ≤ x.length) : same (x.take 3) [46, 116, 115] = keptN x := by
  unfold same keptN Lib.hasPrefix
  match x, h with
  | a :: b :: c :: r, _ =>
    simp only [List.take_succ_cons, List.take_zero, List.isPrefixOf]
    rw [Bool.eq_iff_iff]
    simp only [decide_eq_true_eq, List.cons.injEq, and_true, Bool.and_eq_true, beq_iff_eq]
    constructor
    · rintro ⟨h1, h2, h3⟩
      exact ⟨h1.symm, h2.symm, h3.symm⟩
    · rintro ⟨h1, h2, h3⟩
      exact ⟨h1.symm, h2.symm, h3.symm⟩

set_option maxRecDepth 100000 in
set_option maxHeartbeats 4000000 in
theorem kept_ref (l : Bt) (w : World) (hl : l.length ≤ 100000) : Calls Try.prog 40 #[St l] w fun e w' => e = .returned (.bool (keptP l)) ∧ Below w.heap.size w w' := by
  have S := Lib.hid (names_ref l w hl)
  have h6 := names_six l
  have e0 : keptP l = (namesP l).any keptN := rfl
  rw [e0]
  generalize namesP l = ns at *
  clear e0 hl
  go_enter Try.func40, Try.ntmps40
  go_wp2_with (go_at_call 56; (with_reducible refine S.out.mono ?_); rintro e w1 ⟨A, C, rfl, ht, hb⟩; have H1 := Lib.hid hb; have HT := Lib.hid ht; clear hb ht)
  go_loopw [4] (fun x wr => ∃ i : Nat, i ≤ ns.length ∧ x = .int .i64 i ∧ w1 = wr ∧ (ns.take i).any keptN = false) (fun x _ => ns.length - (intOf x).toNat)
  case atStart => exact ⟨0, by omega, rfl, by trivial, rfl⟩
  case round =>
    obtain ⟨i, hil, rfl, rfl, hall⟩ := hrel
    by_cases hlt : i < ns.length
    · obtain ⟨g, rfl, _, hc⟩ := HT.out i hlt
      have e0 : ns.getD i [] = ns[i] := by simp [List.getD_eq_getElem?_getD, hlt]
      rw [e0] at hc
      have li : (i : Int) < (ns.length : Int) := by omega
      have hnx : (ns.take (i + 1)).any keptN = ((ns.take i).any keptN || keptN ns[i]) := by
        rw [List.take_succ_eq_append_getElem hlt, List.any_append]; simp
      have hbad : keptN ns[i] = true → ns.any keptN = true := fun h => by
        rw [List.any_eq_true]
        exact ⟨ns[i], List.getElem_mem hlt, h⟩
      have q2 : i + 1 ≤ ns.length := hlt
      generalize ns[i] = c at *
      by_cases h3 : c.length < 3
      · have hx := kept_short c h3
        rw [hall, hx] at hnx
        have HX := Lib.hid hnx
        have h3' : ¬ 3 ≤ (c.length : Int) := by omega
        clear hnx hbad hall hx e0
        go_wp2
        go_roundw
        case rel => exact ⟨i + 1, q2, by go_num, by trivial, HX.out⟩
        case measure => first | (simp [intOf]; done) | (simp [intOf]; omega)
      · have h3' : 3 ≤ (c.length : Int) := by omega
        have sl : ∀ w, (Instr.slice 9 (St c) none (some (.int .i64 3)) none).run Try.prog w = .ok (St (c.take 3)) w := fun w => run_to c 3 (by omega) w
        have hs := kept_take c (by omega)
        cases hx : keptN c with
        | true =>
          have HB := Lib.hid (hbad hx)
          rw [hx] at hs
          clear hnx hbad hall hx e0
          go_wp2
          go_ret
          exact ⟨by rw [HB.out]; rfl, H1.out⟩
        | false =>
          rw [hx] at hs
          rw [hall, hx] at hnx
          have HX := Lib.hid hnx
          clear hnx hbad hall hx e0
          go_wp2
          go_roundw
          case rel => exact ⟨i + 1, q2, by go_num, by trivial, HX.out⟩
          case measure => first | (simp [intOf]; done) | (simp [intOf]; omega)
    · have li : ¬ (i : Int) < (ns.length : Int) := by omega
      have HE := Lib.hid (show ns.any keptN = false by rw [List.take_of_length_le (by omega)] at hall; exact hall)
      clear hall
      go_wp2
      go_ret
      exact ⟨by rw [HE.out]; rfl, H1.out⟩
set_option maxRecDepth 100000 in
set_option maxHeartbeats 4000000 in
theorem check_ref (NA FA : Option Addr) (nc mc : Nat) (ns : List Nd) (fs : List Fl) (w : World) (hN : NodesAt w NA ns) (hF : FilesAt w FA fs) (hp : ∀ x ∈ ns, x.path.length ≤ 100000) :
    Calls Try.prog 20 #[.agg #[.slice NA ns.length nc, .slice FA fs.length mc]] w fun e w' => e = .returned (.int .i64 (checkE ns fs)) ∧ Below w.heap.size w w' := by
  have L := lies_new w 25 #[.slice NA ns.length nc, .slice FA fs.length mc]
  have hB : Below w.heap.size w (w.alloc (.cells #[.slice NA ns.length nc, .slice FA fs.length mc] 25)) := (Below.refl _ _).alloc (Nat.le_refl _) _
  have c0 : (w.alloc (.cells #[.slice NA ns.length nc, .slice FA fs.length mc] 25)).cell? ⟨w.heap.size, 0, none⟩ = some (.slice NA ns.length nc) := lies_cell L 0
  have LR := Lib.hid (show (w.alloc (.cells #[.slice NA ns.length nc, .slice FA fs.length mc] 25)).rangeAt w.heap.size 0 [.slice NA ns.length nc, .slice FA fs.length mc] from fun j v hj => by
    match j, hj with
    | 0, hj => injection hj with hj; subst hj; exact lies_cell L 0
    | 1, hj => injection hj with hj; subst hj; exact lies_cell L 1
    | j + 2, hj => simp at hj)
  have LS := Lib.hid (loose_ref NA FA nc mc ns fs _ (nodesAt_below hN hB) (filesAt_below hF hB) hp)
  obtain ⟨n, hn⟩ : ∃ n, n = ns.length := ⟨_, rfl⟩
  obtain ⟨m, hm⟩ : ∃ m, m = fs.length := ⟨_, rfl⟩
  obtain ⟨E, hE⟩ : ∃ E, E = checkE ns fs := ⟨_, rfl⟩
  obtain ⟨LE, hLE⟩ : ∃ LE, LE = looseE ns fs := ⟨_, rfl⟩
  have EE : E = if 128 < n then 31 else if LE ≠ 0 then LE else if anyKept ns then 30 else 0 := by rw [hE, hLE, hn]; rfl
  have EE := Lib.hid EE
  rw [← hn, ← hm] at c0 LR LS hB L ⊢
  rw [← hLE] at LS
  rw [← hE]
  have HN := Lib.hid hN
  have HP := Lib.hid hp
  have NN := Lib.hid hn
  have HB := Lib.hid hB
  have HL := Lib.hid L
  clear hN hF hp hn hm hE hLE hB L
  rename_i EE0
  clear EE0
  by_cases h128 : 128 < n
  · have hE : E = 31 := by rw [EE.out, if_pos h128]
    subst hE
    have l1 : (128 : Int) < (n : Int) := by omega
    go_enter Try.func20, Try.ntmps20
    go_wp2
    go_ret
    exact ⟨rfl, HB.out⟩
  have l1 : ¬ (128 : Int) < (n : Int) := by omega
  by_cases hl : LE ≠ 0
  · have hE : E = LE := by rw [EE.out, if_neg h128, if_pos hl]
    replace EE := trivial
    subst hE
    go_enter Try.func20, Try.ntmps20
    go_wp2_with (first
      | (refine wpList_load_mid rfl 25 _ rfl w.heap.size 0 rfl [.slice NA n nc, .slice FA m mc] _ LR.out Try.underlying25 rfl (by kernel_rfl) ?_)
      | (go_at_call 39; (with_reducible refine LS.out.mono ?_); rintro e w1 ⟨rfl, hb⟩; have B1 := Lib.hid (HB.out.trans (hb.mono HB.out.size)); clear hb))
    go_ret
    exact ⟨rfl, B1.out⟩
  obtain rfl : LE = 0 := by omega
  have EV := Lib.hid (show E = if anyKept ns then 30 else 0 by rw [EE.out, if_neg h128, if_neg hl])
  clear EE hl
  go_enter Try.func20, Try.ntmps20
  go_wp2_with (first
    | (refine wpList_load_mid rfl 25 _ rfl w.heap.size 0 rfl [.slice NA n nc, .slice FA m mc] _ LR.out Try.underlying25 rfl (by kernel_rfl) ?_)
    | (go_at_call 39; (with_reducible refine LS.out.mono ?_); rintro e w1 ⟨rfl, hb⟩; have B1 := Lib.hid (HB.out.trans (hb.mono HB.out.size)); have L1 := Lib.hid (lies_below HL.out hb (lies_lt HL.out)); clear hb))
  go_loopw [4, 5] (fun v4 _ wr => ∃ i : Nat, i ≤ n ∧ v4 = .int .i64 (i : Int) ∧ (ns.take i).any (fun x => keptP x.path) = false ∧ Below w1.heap.size w1 wr) (fun v4 _ _ => n - (intOf v4).toNat)
  case atStart => exact ⟨0, Nat.zero_le _, rfl, rfl, Below.refl _ _⟩
  case round =>
    obtain ⟨i, hi, rfl, hno, hW⟩ := hrel
    have NO := Lib.hid hno
    have HW := Lib.hid hW
    have x0 := lies_cell (lies_below L1.out hW (lies_lt L1.out)) 0
    simp only [List.getElem?_toArray, List.getElem?_cons_zero] at x0
    clear hno hW c0
    by_cases hlt : i < n
    · have li : (i : Int) < (n : Int) := by omega
      have lf : i < ns.length := by have := NN.out; omega
      obtain ⟨b, o, eA, hbl, e1, _, _⟩ := HN.out i lf
      subst eA
      have hc : wr.cell? ⟨b, o + i * 3, none⟩ = some (St ns[i].path) := (HW.out.cell (p := ⟨b, o + i * 3, none⟩) (Nat.lt_of_lt_of_le hbl B1.out.size)).trans ((B1.out.cell (p := ⟨b, o + i * 3, none⟩) hbl).trans e1)
      have KR := Lib.hid (kept_ref ns[i].path wr (HP.out _ (List.getElem_mem _)))
      have hnx : (ns.take (i + 1)).any (fun x => keptP x.path) = ((ns.take i).any (fun x => keptP x.path) || keptP ns[i].path) := by
        rw [List.take_succ_eq_append_getElem lf, List.any_append]; simp
      rw [NO.out] at hnx
      have hbad : keptP ns[i].path = true → anyKept ns = true := fun h => by
        unfold anyKept
        rw [List.any_eq_true]
        exact ⟨ns[i], List.getElem_mem lf, h⟩
      generalize ns[i].path = p at *
      clear e1
      cases hk : keptP p with
      | true =>
        have HE := Lib.hid (show E = 30 by rw [EV.out, if_pos (hbad hk)])
        rw [hk] at KR
        clear hnx hbad hk
        go_wp2_with (go_at_call 40; (with_reducible refine KR.out.mono ?_); rintro e w2 ⟨rfl, hb⟩; have B2 := Lib.hid (B1.out.trans ((HW.out.trans (hb.mono HW.out.size)).mono B1.out.size)); clear hb)
        go_ret
        exact ⟨by rw [HE.out]; rfl, B2.out⟩
      | false =>
        rw [hk] at KR hnx
        have NX := Lib.hid hnx
        clear hnx hbad hk
        go_wp2_with (go_at_call 40; (with_reducible refine KR.out.mono ?_); rintro e w2 ⟨rfl, hb⟩; have B2 := Lib.hid (HW.out.trans (hb.mono HW.out.size)); clear hb)
        go_roundw
        case rel => exact ⟨i + 1, by omega, by go_num, NX.out, B2.out⟩
        case measure => first | (simp [intOf]; done) | (simp [intOf]; omega)
    · have li : ¬ (i : Int) < (n : Int) := by omega
      have HE := Lib.hid (show E = 0 by
        have h2 := NO.out
        rw [List.take_of_length_le (by have := NN.out; omega)] at h2
        rw [EV.out]
        unfold anyKept
        rw [h2]
        rfl)
      go_wp2
      go_ret
      exact ⟨by rw [HE.out]; rfl, B1.out.trans (HW.out.mono B1.out.size)⟩
end Go.Proofs.Ytiglakhfkgeefaa
