/-
What is proved here: the law of what goes round without a rename, by a contract.
-/
import Derived.Test.YtpddamloajpiiaaGreatDoorCavM
set_option linter.unusedSimpArgs false
set_option linter.unusedVariables false
namespace Go.Proofs.YtpddamloajpiiaaGreatDoor
open Go.Cmp Go.RowKit Go.Cut Go.Pth Go.Word Go.Shelf
def nxtR (n k : Nat) : Nat := if k + 1 < n then k + 1 else 0
theorem nxtR_mod (n k : Nat) (h : k < n) : ((k : Int) + 1) % (n : Int) = (nxtR n k : Int) := by
  unfold nxtR
  by_cases e : k + 1 < n
  · rw [if_pos e, Int.emod_eq_of_lt (by omega) (by omega)]; rfl
  · have : k + 1 = n := by omega
    rw [if_neg e, show (k : Int) + 1 = (n : Int) by omega, Int.emod_self]; rfl
/-- the needs as far as they are laid -/
def parR (n i : Nat) : Gr := (List.range i).map fun k => [nxtR n k]
theorem parR_next (n i : Nat) : parR n (i + 1) = parR n i ++ [[nxtR n i]] := by
  unfold parR
  rw [List.range_succ, List.map_append]
  rfl
theorem parR_end (n : Nat) : parR n n = ring n := by
  unfold parR ring
  refine List.map_congr_left fun k hk => ?_
  unfold nxtR
  split <;> rfl
set_option maxRecDepth 100000 in
set_option maxHeartbeats 8000000 in
theorem stuck_law (hS : SplitOK) (A : Option Addr) (c : Nat) (xs : List Int) (w : World) (hI : IntsAt w A xs) (hT : Pow w) : Calls Tryz.prog 5 #[.slice A xs.length c] w fun e w' => e = .returned (.bool true) ∧ Below w.heap.size w w' := by
  have KA := Lib.hid (calive_any hS w hT)
  obtain ⟨n, hn⟩ : ∃ n, n = xs.length := ⟨_, rfl⟩
  have HN := Lib.hid hn
  have HI := Lib.hid hI
  have HT := Lib.hid hT
  rw [← hn]
  clear hI hT hn
  by_cases h1 : (n : Int) < 1
  · go_enter Tryz.func5, Tryz.ntmps5
    go_wp2_with (go_at_call 6; (with_reducible refine KA.out.mono ?_); rintro e w1 ⟨rfl, hb⟩; have H1 := Lib.hid hb; clear hb)
    go_ret
    exact ⟨rfl, H1.out⟩
  by_cases h2 : (n : Int) > 20
  · go_enter Tryz.func5, Tryz.ntmps5
    go_wp2_with (go_at_call 6; (with_reducible refine KA.out.mono ?_); rintro e w1 ⟨rfl, hb⟩; have H1 := Lib.hid hb; clear hb)
    go_ret
    exact ⟨rfl, H1.out⟩
  have n1 : 1 ≤ n := by omega
  have n2 : n ≤ 20 := by omega
  go_enter Tryz.func5, Tryz.ntmps5
  go_upto_region 4 with (go_at_call 6; (with_reducible refine KA.out.mono ?_); rintro e w1 ⟨rfl, hb⟩; have H1 := Lib.hid hb; clear hb)
  have M0 := Lib.hid (bk_start w1)
  go_wp2
  go_loopw [7, 4, 5, 6] (fun v7 v4 v5 v6 wr => ∃ (i : Nat) (av nv : Value) (vs : List Value) (l : List Ac) (b : Bool), i ≤ n ∧ v7 = .int .i64 (i : Int) ∧ av = v4 ∧ nv = v5 ∧ v6 = .bool b ∧ BkM w1.heap.size av nv l (parR n i) vs wr ∧ Below w.heap.size w wr ∧ l.length = i ∧ (∀ a ∈ l, a.p = [97] ∧ (b = false → a.op ≠ 3))) (fun v7 _ _ _ _ => n - (intOf v7).toNat)
  case atStart => exact ⟨0, _, _, [], [], false, Nat.zero_le _, rfl, rfl, rfl, rfl, M0.out, H1.out, rfl, fun a ha => by cases ha⟩
  case round =>
    obtain ⟨i, av, nv, vs, l, b, hi, rfl, ho4, ho5, rfl, hM, hB, hl, hla⟩ := hrel
    subst ho4 ho5
    have M1 := Lib.hid hM
    have HB := Lib.hid hB
    have HL := Lib.hid hl
    have HLA := Lib.hid hla
    clear hM hB hl hla
    by_cases hlt : i < n
    · have li : (i : Int) < (n : Int) := by omega
      obtain ⟨bb, o, eA, hbw, hcx⟩ := HI.out i (by rw [← HN.out]; exact hlt)
      replace hcx := (HB.out.cell (p := ⟨bb, o + i, none⟩) hbw).trans hcx
      obtain ⟨z, hz⟩ : ∃ z, z = xs[i]'(by rw [← HN.out]; exact hlt) := ⟨_, rfl⟩
      rw [← hz] at hcx
      replace hcx : wr.cell? ⟨bb, o + i, none⟩ = some (.int .i64 z) := hcx
      subst eA
      clear hz hbw
      go_upto_region 11 with (fail)
      clear hcx
      generalize wrap64 (1 + bits BinOp.and IntKind.i64 z 7) = q at *
      generalize bits BinOp.and IntKind.i64 z 7 = q7 at *
      have hX1 : BkM w1.heap.size av nv l (parR n i) vs wr := M1.out
      have hl1 : Lies (wr.alloc (.cells #[.int .i64 q, .string { data := #[97] }, .string { data := #[98] }, .int .i64 0, .int .i64 0] 29)) wr.heap.size 29 #[.int .i64 q, St [97], St [98], .int .i64 0, .int .i64 0] := lies_new _ _ _
      obtain ⟨A5, C5, Z, hr, hO, hg⟩ := app_act (wr.alloc (.cells #[.int .i64 q, .string { data := #[97] }, .string { data := #[98] }, .int .i64 0, .int .i64 0] 29)) w1.heap.size wr.heap.size av l ⟨q, [97], [98], 0, 0⟩ (World.ownsRow.alloc hX1.own _) hl1 (by have := hX1.sz; simp; omega) (by have := HL.out; omega)
      have hM2 := bk_act hX1 hO hg
      have hBZ : Below w.heap.size w Z := HB.out.trans ((((But.refl (fun k => some k = av.ownBlock) wr).alloc _).trans (But.grown hg)).below HB.out.size (fun k hk => by have := (own_heap hX1.own k hk.symm).1; have := H1.out.size; omega))
      have hmod := nxtR_mod n i hlt
      obtain ⟨nr, hnr⟩ : ∃ nr, nr = nxtR n i := ⟨_, rfl⟩
      have hpr := parR_next n i
      rw [← hnr] at hmod hpr
      have hrow2 : ((Z.alloc (.cells #[.int .i64 (nr : Int)] 3)).alloc (.cells #[.slice (some ⟨Z.heap.size, 0, none⟩) 1 1] 33)).ownsRow w1.heap.size 33 1 nv vs.length vs := World.ownsRow.alloc (World.ownsRow.alloc hM2.row _) _
      have hl2 := lies_new (Z.alloc (.cells #[.int .i64 (nr : Int)] 3)) 33 #[.slice (some ⟨Z.heap.size, 0, none⟩) 1 1]
      have c2 := lies_cell hl2 0
      rw [World.size_alloc] at c2
      simp only [List.getElem?_toArray, List.getElem?_cons_zero] at c2
      have hvl : vs.length = i := by rw [hX1.rws.len]; simp [parR]
      obtain ⟨A6, C6, Z2, hr2, hO2, hg2, _⟩ := row_slice _ w1.heap.size (Z.heap.size + 1) nv (.slice (some ⟨Z.heap.size, 0, none⟩) 1 1) vs.length vs hrow2 c2 rfl (by have := hM2.sz; simp; omega) (by omega)
      have hM3 := bk_row hM2 hO2 hg2
      rw [← hpr] at hM3
      have hB3 : Below w.heap.size w Z2 := hBZ.trans (((((But.refl (fun k => some k = nv.ownBlock) Z).alloc _).alloc _).trans (But.grown hg2)).below hBZ.size (fun k hk => by have := (own_heap hM2.row k hk.symm).1; have := H1.out.size; omega))
      have M3 := Lib.hid hM3
      have B3 := Lib.hid hB3
      have m0 : (n : Int) ≠ 0 := by omega
      have HNEW := Lib.hid (show ∀ b', b' = (b || decide (q = 3)) → ∀ a ∈ l ++ [(⟨q, [97], [98], 0, 0⟩ : Ac)], a.p = [97] ∧ (b' = false → a.op ≠ 3) from fun b' hb' a ha => by
        rcases List.mem_append.1 ha with e | e
        · refine ⟨(HLA.out a e).1, fun h => (HLA.out a e).2 ?_⟩
          subst hb'
          cases b with
          | false => rfl
          | true => simp at h
        · obtain rfl := List.mem_singleton.1 e
          refine ⟨rfl, fun h => ?_⟩
          subst hb'
          show q ≠ 3
          intro e3
          simp [e3] at h)
      clear hX1 hl1 hO hM2 hBZ hpr hrow2 hl2 c2 hvl hO2 hM3 hB3 hnr hg hg2
      have key : ∀ b', b' = (b || decide (q = 3)) → True := fun _ _ => trivial
      clear key
      cases b with
      | true =>
        go_upto_region 13 with (refine wpList_app_run (t1 := 22) (t2 := 22) rfl _ _ rfl rfl rfl hr ?_)
        go_wp2_with (refine wpList_app_run (t1 := 23) (t2 := 23) rfl _ _ rfl rfl rfl hr2 ?_)
        go_roundw
        case rel => exact ⟨i + 1, _, _, _, _, true, by omega, by go_num, rfl, rfl, rfl, M3.out, B3.out, by simp [HL.out], HNEW.out true rfl⟩
        case measure => first | (simp [intOf]; done) | (simp [intOf]; omega)
      | false =>
        by_cases h3 : q = 3
        · have e3 : (q == 3) = true := by simp [h3]
          have HN3 := Lib.hid (HNEW.out true (by rw [decide_eq_true h3]; rfl))
          clear h3
          go_upto_region 13 with (refine wpList_app_run (t1 := 22) (t2 := 22) rfl _ _ rfl rfl rfl hr ?_)
          go_wp2_with (refine wpList_app_run (t1 := 23) (t2 := 23) rfl _ _ rfl rfl rfl hr2 ?_)
          go_roundw
          case rel => exact ⟨i + 1, _, _, _, _, true, by omega, by go_num, rfl, rfl, rfl, M3.out, B3.out, by simp [HL.out], HN3.out⟩
          case measure => first | (simp [intOf]; done) | (simp [intOf]; omega)
        · have e3 : (q == 3) = false := by simp [h3]
          have HN3 := Lib.hid (HNEW.out false (by rw [decide_eq_false h3]; rfl))
          clear h3
          go_upto_region 13 with (refine wpList_app_run (t1 := 22) (t2 := 22) rfl _ _ rfl rfl rfl hr ?_)
          go_wp2_with (refine wpList_app_run (t1 := 23) (t2 := 23) rfl _ _ rfl rfl rfl hr2 ?_)
          go_roundw
          case rel => exact ⟨i + 1, _, _, _, _, false, by omega, by go_num, rfl, rfl, rfl, M3.out, B3.out, by simp [HL.out], HN3.out⟩
          case measure => first | (simp [intOf]; done) | (simp [intOf]; omega)
    · obtain rfl : i = n := by omega
      have li : ¬ (i : Int) < (i : Int) := by omega
      have hM := M1.out
      rw [parR_end] at hM
      have hbl : ∀ a ∈ l, a.p.length ≤ 100000 := fun a ha => by rw [(HLA.out a ha).1]; decide
      have KB := brk_ring hS hM HL.out n1 (by omega) hbl (pow_below HT.out HB.out)
      cases b with
      | true =>
        have K1 := Lib.hid (KB.mono fun e w' h => brk_some h)
        clear KB hM hbl
        go_wp2_with (go_at_call 10; (with_reducible refine K1.out.mono ?_); rintro e w5 ⟨_, _, _, _, _, _, _, _, rfl, hb⟩; have B5 := Lib.hid (HB.out.trans (hb.mono HB.out.size)); clear hb)
        go_ret
        exact ⟨rfl, B5.out⟩
      | false =>
        have K1 := Lib.hid (KB.mono fun e w' h => brk_stuck h n1 HL.out (fun a ha => (HLA.out a ha).2 rfl))
        clear KB hM hbl
        unfold nilV at K1
        go_wp2_with (first
          | (go_at_call 10; (with_reducible refine K1.out.mono ?_); rintro e w5 ⟨rfl, hb⟩; have B5 := Lib.hid (HB.out.trans (hb.mono HB.out.size)); clear hb)
          | (go_at_call 15; (with_reducible refine (cnum_any _ _).mono ?_); rintro e w6 ⟨rfl, h⟩; have h := h.symm; subst h))
        go_ret
        exact ⟨rfl, B5.out⟩
end Go.Proofs.YtpddamloajpiiaaGreatDoor
