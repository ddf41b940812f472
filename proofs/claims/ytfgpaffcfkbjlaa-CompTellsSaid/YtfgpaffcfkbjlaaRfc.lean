/-
What is proved here: the document's own Components, by a contract.
-/
import Derived.Test.YtfgpaffcfkbjlaaRfr
import Derived.Test.YtfgpaffcfkbjlaaOrd
set_option linter.unusedSimpArgs false
set_option linter.unusedVariables false
namespace Go.Proofs.Ytfgpaffcfkbjlaa
open Go.Cmp Go.RowKit
theorem len_nx2 {G : Gr} (hW : ∀ l ∈ G, l.length ≤ 1024) (i : Nat) : (nx G i).length ≤ 1024 := by
  rcases Nat.lt_or_ge i G.length with hi | hi
  · exact hW _ (nx_mem hi)
  · have e : nx G i = [] := by unfold nx; rw [List.getD_eq_getElem?_getD, List.getElem?_eq_none hi]; rfl
    rw [e]; simp
/-- where a number may go on: to its own component, or to one that is told -/
def PasP (to' : List Nat) (told : List Bool) (x y : Nat) : Prop := to'.getD y 0 = x ∨ told.getD (to'.getD y 0) false = true
def Rd1 (G : Gr) (to' : List Nat) (told : List Bool) (x : Nat) (R : List Nat) (k : Nat) : Prop := ∀ a (h : a < R.length), a < k → ∀ y ∈ nx G R[a], PasP to' told x y
def Rd2 (G : Gr) (to' : List Nat) (told : List Bool) (x : Nat) (l : List Nat) (j : Nat) : Prop := ∀ b (h : b < l.length), b < j → PasP to' told x l[b]
theorem rd1_up {G : Gr} {to' : List Nat} {told : List Bool} {x : Nat} {R : List Nat} {k : Nat} (hk : k < R.length) : Rd1 G to' told x R (k + 1) ↔ Rd1 G to' told x R k ∧ Rd2 G to' told x (nx G R[k]) (nx G R[k]).length := by
  constructor
  · intro h
    exact ⟨fun a ha hak => h a ha (by omega), fun b hb _ => h k hk (by omega) _ (List.getElem_mem hb)⟩
  · rintro ⟨h1, h2⟩ a ha hak y hy
    by_cases e : a = k
    · subst e
      obtain ⟨b, hb, rfl⟩ := List.getElem_of_mem hy
      exact h2 b hb hb
    · exact h1 a ha (by omega) y hy
theorem rd2_up {G : Gr} {to' : List Nat} {told : List Bool} {x : Nat} {l : List Nat} {j : Nat} (hj : j < l.length) : Rd2 G to' told x l (j + 1) ↔ Rd2 G to' told x l j ∧ PasP to' told x l[j] := by
  constructor
  · intro h
    exact ⟨fun b hb hbj => h b hb (by omega), h j hj (by omega)⟩
  · rintro ⟨h1, h2⟩ b hb hbj
    by_cases e : b = j
    · subst e; exact h2
    · exact h1 b hb (by omega)
theorem rd1_cand {G : Gr} {to' : List Nat} {told : List Bool} {x : Nat} (h1 : to'.getD x 0 = x) (h2 : told.getD x false = false) : Cand G to' told x ↔ Rd1 G to' told x (memL to' x) (memL to' x).length := by
  constructor
  · rintro ⟨_, _, h⟩ a ha _ y hy
    exact h _ (List.getElem_mem ha) y hy
  · intro h
    refine ⟨h1, h2, fun u hu y hy => ?_⟩
    obtain ⟨a, ha, rfl⟩ := List.getElem_of_mem hu
    exact h a ha ha y hy
/-- the search so far: nothing that may be told, or the first that may -/
def Fnd1 (G : Gr) (to' : List Nat) (told : List Bool) (n x : Nat) (v : Value) : Prop := (v = .int .i64 (-1) ∧ ∀ y, y < x → ¬ Cand G to' told y) ∨ (∃ y : Nat, v = .int .i64 (y : Int) ∧ y < n ∧ Cand G to' told y ∧ ∀ z, z < y → ¬ Cand G to' told z)
set_option maxRecDepth 100000 in
set_option maxHeartbeats 8000000 in
theorem refcomps_any (LA : Option Addr) (lc : Nat) (G S T : Gr) (out : List Nat) (hG : Ok G) (hn : G.length ≤ 1024) (hg : ∀ l ∈ G, l.length ≤ 1024) (hC : Cmps G S T out) (w : World) (hL : LsAt w LA (zg G)) :
    Calls Try.prog 17 #[.slice LA G.length lc] w fun e w' => ∃ v es, e = .returned v ∧ es.map Ent.r = toldL S out ∧ MoM w v es w' := by
  have KP := Lib.hid (parts_any LA lc G hG hn hg w hL)
  have HC := Lib.hid hC
  have HG := Lib.hid hG
  have HGS := Lib.hid hg
  have HL := Lib.hid hL
  obtain ⟨n, hnn⟩ : ∃ n, n = G.length := ⟨_, rfl⟩
  have HN := Lib.hid hnn
  have mk1 := fun W => mk_marks W n (by omega)
  have hol : out.length ≤ G.length := by
    rw [cmps_len hC]
    exact groups_len hC.grp
  rw [← hnn] at hn KP hol ⊢
  clear hL hG hg hnn hC
  go_enter Try.func17, Try.ntmps17
  go_upto_region 2 with (go_at_call 19; (with_reducible refine KP.out.mono ?_); rintro e w6 ⟨T6, to6, C6, A6, bs, ms, rfl, hT, hlT, hAl⟩; have HT := Lib.hid hT; have HLT := Lib.hid hlT; have HB6 := Lib.hid hAl.low; clear hT hlT hAl)
  rw [← HN.out]
  have TL := Lib.hid (lies_lt HLT.out)
  have M0 := Lib.hid (show MoM w6 (.slice none 0 0) [] (w6.alloc (.cells (bRow (List.replicate n false)) 4)) from ⟨⟨World.ownsRow_nil _ _ _ _, (fun e he => by cases he), .nil⟩, below_alloc _ _⟩)
  have D0 := Lib.hid (show Lies (w6.alloc (.cells (bRow (List.replicate n false)) 4)) w6.heap.size 4 (bRow (List.replicate n false)) from lies_new _ _ _)
  have P0 := Lib.hid (show ToldP S G.length out 0 (List.replicate n false) by rw [HN.out]; exact toldP_0 out)
  go_upto_region 3 with (fail)
  generalize w6.alloc (.cells (bRow (List.replicate n false)) 4) = X at *
  go_upto_region 4 with (fail)
  clear mk1 KP
  go_loopw [6] (fun v6 wr => ∃ (p : Nat) (es : List Ent) (told : List Bool), p ≤ out.length ∧ Hid (slen v6 = p) ∧ Hid (es.map Ent.r = (toldL S out).take p) ∧ MoM w6 v6 es wr ∧ Lies wr w6.heap.size 4 (bRow told) ∧ ToldP S G.length out p told) (fun v6 _ => out.length + 1 - slen v6)
  case atStart => exact ⟨0, [], _, Nat.zero_le _, (rfl : _ = _), (rfl : _ = _), M0.out, D0.out, P0.out⟩
  case round =>
    obtain ⟨p, es, told, hp, hsl, hrr, hM, hD, hP⟩ := hrel
    have HSL := Lib.hid hsl.out
    have HRR := Lib.hid hrr
    have HM := Lib.hid hM
    have HD := Lib.hid hD
    have HP := Lib.hid hP
    have HPL := Lib.hid hp
    obtain ⟨A4, C4, h4⟩ := own_slice hM.grp.row
    subst h4
    have hel : es.length = p := by
      have := congrArg List.length hrr.out
      rw [List.length_map, List.length_take] at this
      have h2 : (toldL S out).length = out.length := by simp [toldL]
      omega
    have HEL := Lib.hid hel
    have EB := Lib.hid (show es.length ≤ 1000000 by omega)
    clear hrr hM hel hsl hD hP
    have DL := Lib.hid (lies_lt HD.out)
    have LY := Lib.hid (fun (W : World) (hb : Below wr.heap.size wr W) => lsAt_below HL.out (HB6.out.trans ((HM.out.low.trans (hb.mono HM.out.low.size)).mono HB6.out.size)))
    have TY := Lib.hid (fun (W : World) (hb : Below wr.heap.size wr W) => show Lies W T6 3 (nRow to6) from lies_below HLT.out (HM.out.low.trans (hb.mono HM.out.low.size)) TL.out)
    have DY := Lib.hid (fun (W : World) (hb : Below wr.heap.size wr W) => show Lies W w6.heap.size 4 (bRow told) from lies_below HD.out hb DL.out)
    have BY0 := Lib.hid (Below.refl wr.heap.size wr)
    generalize wr = Y at *
    go_upto_region 6 with (fail)
    go_loopw [7, 8] (fun v7 v8 wq => ∃ x : Nat, x ≤ n ∧ v8 = .int .i64 (x : Int) ∧ Hid (Fnd1 G to6 told n x v7) ∧ Below Y.heap.size Y wq) (fun _ v8 _ => n - (intOf v8).toNat)
    case atStart => exact ⟨0, Nat.zero_le _, rfl, (.inl ⟨rfl, fun y hy => absurd hy (Nat.not_lt_zero y)⟩ : Fnd1 _ _ _ _ _ _), BY0.out⟩
    case round =>
      obtain ⟨x, hx, rfl, hfnd, hBZ⟩ := hrel
      have BZ := Lib.hid hBZ
      clear hBZ
      rcases hfnd.out with ⟨rfl, hno⟩ | ⟨y, rfl, hyn, hcy, hyl⟩
      · have HNO := Lib.hid hno
        clear hfnd hno
        by_cases hxn : x < n
        · have lx : (x : Int) < (n : Int) := by omega
          have hxG : x < G.length := by rw [← HN.out]; exact hxn
          have c1 := (lies_cell (TY.out _ BZ.out) x).trans (nRow_at (l := to6) (v := x) (by rw [HT.out.1]; exact hxG))
          have c2 := (lies_cell (DY.out _ BZ.out) x).trans (bRow_at (m := told) (v := x) (by rw [HP.out.1]; exact hxG))
          obtain ⟨t, ht⟩ : ∃ t, t = to6.getD x 0 := ⟨_, rfl⟩
          rw [← ht] at c1
          have HTT := Lib.hid ht
          clear ht
          by_cases htx : t = x
          · have hb : ((t : Int) == (x : Int)) = true := by simp [htx]
            have hbn : ((t : Int) != (x : Int)) = false := by simp [htx]
            have HTX := Lib.hid (show to6.getD x 0 = x by rw [← HTT.out]; exact htx)
            clear htx
            cases h2 : told.getD x false with
            | true =>
              have NC := Lib.hid (show Hid (Fnd1 G to6 told n (x + 1) (.int .i64 (-1))) from (.inl ⟨rfl, fun y hy hc => by
                by_cases e : y = x
                · subst e; have := hc.2.1; rw [h2] at this; cases this
                · exact HNO.out y (by omega) hc⟩ : Fnd1 _ _ _ _ _ _))
              rw [h2] at c2
              clear h2
              go_wp2
              go_roundw
              case rel => exact ⟨x + 1, by omega, by go_num, NC.out, BZ.out⟩
              case measure => first | (simp [intOf]; done) | (simp [intOf]; omega)
            | false =>
              have H2 := Lib.hid h2
              rw [h2] at c2
              have KMB := Lib.hid (members_pos T6 n to6 x wr (TY.out _ BZ.out) (by rw [HT.out.1, ← HN.out]; exact hn) (memL_pos (by rw [HT.out.1]; exact hxG) HTX.out))
              rw [HT.out.1, ← HN.out] at KMB
              obtain ⟨R, hR⟩ : ∃ R, R = memL to6 x := ⟨_, rfl⟩
              rw [← hR] at KMB
              have HR := Lib.hid hR
              obtain ⟨r0, hr0⟩ : ∃ r0, r0 = R.length := ⟨_, rfl⟩
              have HR0 := Lib.hid hr0
              rw [← hr0] at KMB
              have r0b : r0 ≤ 1024 := by
                rw [hr0, hR]
                have h9 := List.length_filter_le (fun v => to6.getD v 0 == x) (List.range to6.length)
                have h8 := HT.out.1
                rw [List.length_range] at h9
                have h7 := HN.out
                show ((List.range to6.length).filter fun v => to6.getD v 0 == x).length ≤ 1024
                omega
              clear h2 hr0 hR
              go_upto_region 12 with (go_at_call 26; (with_reducible refine KMB.out.mono ?_); rintro e w9 ⟨g13, C13, rfl, o9, b9⟩; have I9 := Lib.hid (ownI_ints o9).2; have B9 := Lib.hid (BZ.out.trans (b9.mono BZ.out.size)); clear o9 b9)
              clear KMB c1 c2 hb hbn
              have RD0 := Lib.hid (show Hid (true = true ↔ Rd1 G to6 told x R 0) from (⟨fun _ a _ h => absurd h (Nat.not_lt_zero a), fun _ => rfl⟩ : _ ↔ _))
              go_loopw [9, 11] (fun v9 v11 wv => ∃ (k : Nat) (rd : Bool), k ≤ r0 ∧ v11 = .int .i64 (k : Int) ∧ v9 = .bool rd ∧ wv = w9 ∧ Hid (rd = true ↔ Rd1 G to6 told x R k)) (fun _ v11 _ => r0 - (intOf v11).toNat)
              case atStart => exact ⟨0, true, Nat.zero_le _, rfl, rfl, (by first | rfl | trivial), RD0.out⟩
              case round =>
                obtain ⟨k, rd, hk, rfl, rfl, rfl, hrd⟩ := hrel
                have HRD := Lib.hid hrd
                clear hrd
                by_cases hkr : k < r0
                · have lk : (k : Int) < (r0 : Int) := by omega
                  have hkR : k < R.length := by rw [← HR0.out]; exact hkr
                  obtain ⟨b1, o1, e1, _, cR⟩ := I9.out k (by rw [zs_len]; exact hkR)
                  injection e1 with e1
                  injection e1 with e1 e2
                  subst e1 e2
                  rw [show (zs R)[k]'(by rw [zs_len]; exact hkR) = ((R[k] : Nat) : Int) by simp [zs]] at cR
                  unfold iV at cR
                  rw [Nat.zero_add] at cR
                  have huG : R[k] < G.length := by
                    have h9 : R[k] ∈ memL to6 x := by rw [← HR.out]; exact List.getElem_mem hkR
                    have := (mem_memL.1 h9).1
                    rw [HT.out.1] at this
                    exact this
                  obtain ⟨b, o, A', c', eA, hbl, cc, _, hI⟩ := zrow_at (LY.out _ B9.out) huG
                  have UP := Lib.hid (rd1_up (G := G) (to' := to6) (told := told) (x := x) hkR)
                  have hmb := len_nx2 HGS.out R[k]
                  obtain ⟨u, hu⟩ : ∃ u, u = R[k] := ⟨_, rfl⟩
                  rw [← hu] at cR huG cc hI UP hmb
                  obtain ⟨l, hl⟩ : ∃ l, l = nx G u := ⟨_, rfl⟩
                  have HLL := Lib.hid hl
                  rw [← hl] at cc hI UP hmb
                  obtain ⟨m, hm⟩ : ∃ m, m = l.length := ⟨_, rfl⟩
                  have HMM := Lib.hid hm
                  rw [← hm] at cc hmb UP
                  have HI := Lib.hid hI
                  have ui : (u : Int) < (n : Int) := by have := HN.out; omega
                  subst eA
                  clear hu hl hm hI hbl huG
                  go_upto_region 15 with (fail)
                  go_loopw [9, 12] (fun v9 v12 wv => ∃ (j : Nat) (rd2 : Bool), j ≤ m ∧ v12 = .int .i64 (j : Int) ∧ v9 = .bool rd2 ∧ wv = wr ∧ Hid (rd2 = true ↔ Rd1 G to6 told x R k ∧ Rd2 G to6 told x l j)) (fun _ v12 _ => m - (intOf v12).toNat)
                  case atStart => exact ⟨0, rd, Nat.zero_le _, rfl, rfl, (by first | rfl | trivial), (⟨fun h => ⟨HRD.out.out.1 h, fun b _ h => absurd h (Nat.not_lt_zero b)⟩, fun h => HRD.out.out.2 h.1⟩ : _ ↔ _)⟩
                  case round =>
                    obtain ⟨j, rd2, hj, rfl, rfl, rfl, hrd2⟩ := hrel
                    have HRD2 := Lib.hid hrd2
                    clear hrd2
                    by_cases hjm : j < m
                    · have lj : (j : Int) < (m : Int) := by omega
                      have hjl : j < l.length := by rw [← HMM.out]; exact hjm
                      obtain ⟨b', o', eA', hbl', cc'⟩ := HI.out j (by rw [zs_len]; exact hjl)
                      rw [show (zs l)[j]'(by rw [zs_len]; exact hjl) = ((l[j] : Nat) : Int) by simp [zs]] at cc'
                      unfold iV at cc'
                      have hyG : l[j] < G.length := (nx_lt HG.out (by rw [← HLL.out]; exact List.getElem_mem hjl)).1
                      have c3 := (lies_cell (TY.out _ B9.out) l[j]).trans (nRow_at (l := to6) (v := l[j]) (by rw [HT.out.1]; exact hyG))
                      have ht2 := (HT.out.2 l[j] hyG).1
                      have UP2 := Lib.hid (rd2_up (G := G) (to' := to6) (told := told) (x := x) hjl)
                      unfold PasP at UP2
                      obtain ⟨y, hy⟩ : ∃ y, y = l[j] := ⟨_, rfl⟩
                      rw [← hy] at cc' hyG c3 ht2 UP2
                      obtain ⟨t2, ht2e⟩ : ∃ t2, t2 = to6.getD y 0 := ⟨_, rfl⟩
                      rw [← ht2e] at c3 ht2 UP2
                      have c4 := (lies_cell (DY.out _ B9.out) t2).trans (bRow_at (m := told) (v := t2) (by rw [HP.out.1]; omega))
                      have yi : (y : Int) < (n : Int) := by have := HN.out; omega
                      have t2i : (t2 : Int) < (n : Int) := by have := HN.out; omega
                      subst eA'
                      clear hy ht2e hbl' hyG ht2
                      cases rd2 with
                      | false =>
                        have NX := Lib.hid (show Hid (false = true ↔ Rd1 G to6 told x R k ∧ Rd2 G to6 told x l (j + 1)) from (⟨(fun h => by cases h), fun h => HRD2.out.out.2 ⟨h.1, (UP2.out.1 h.2).1⟩⟩ : _ ↔ _))
                        go_wp2
                        go_roundw
                        case rel => exact ⟨j + 1, _, by omega, by go_num, rfl, (by first | rfl | trivial), NX.out⟩
                        case measure => first | (simp [intOf]; done) | (simp [intOf]; omega)
                      | true =>
                        by_cases h3 : t2 = x
                        · have hb3 : ((t2 : Int) == (x : Int)) = true := by simp [h3]
                          have NX := Lib.hid (show Hid (true = true ↔ Rd1 G to6 told x R k ∧ Rd2 G to6 told x l (j + 1)) from (⟨fun h => ⟨(HRD2.out.out.1 h).1, UP2.out.2 ⟨(HRD2.out.out.1 h).2, .inl h3⟩⟩, fun _ => rfl⟩ : _ ↔ _))
                          clear h3
                          go_wp2
                          go_roundw
                          case rel => exact ⟨j + 1, _, by omega, by go_num, rfl, (by first | rfl | trivial), NX.out⟩
                          case measure => first | (simp [intOf]; done) | (simp [intOf]; omega)
                        · have hb3 : ((t2 : Int) == (x : Int)) = false := by rw [beq_eq_false_iff_ne]; omega
                          cases h4 : told.getD t2 false with
                          | true =>
                            have NX := Lib.hid (show Hid (true = true ↔ Rd1 G to6 told x R k ∧ Rd2 G to6 told x l (j + 1)) from (⟨fun h => ⟨(HRD2.out.out.1 h).1, UP2.out.2 ⟨(HRD2.out.out.1 h).2, .inr h4⟩⟩, fun _ => rfl⟩ : _ ↔ _))
                            rw [h4] at c4
                            clear h3 h4
                            go_wp2
                            go_roundw
                            case rel => exact ⟨j + 1, _, by omega, by go_num, rfl, (by first | rfl | trivial), NX.out⟩
                            case measure => first | (simp [intOf]; done) | (simp [intOf]; omega)
                          | false =>
                            have NX := Lib.hid (show Hid (false = true ↔ Rd1 G to6 told x R k ∧ Rd2 G to6 told x l (j + 1)) from (⟨(fun h => by cases h), fun h => by
                              rcases (UP2.out.1 h.2).2 with h9 | h9
                              · exact absurd h9 h3
                              · rw [h4] at h9; exact h9⟩ : _ ↔ _))
                            rw [h4] at c4
                            clear h3 h4
                            go_wp2
                            go_roundw
                            case rel => exact ⟨j + 1, _, by omega, by go_num, rfl, (by first | rfl | trivial), NX.out⟩
                            case measure => first | (simp [intOf]; done) | (simp [intOf]; omega)
                    · obtain rfl : j = m := by omega
                      have lj : ¬ (j : Int) < (j : Int) := by omega
                      have NX := Lib.hid (show Hid (rd2 = true ↔ Rd1 G to6 told x R (k + 1)) from (HRD2.out.out.trans UP.out.symm : _ ↔ _))
                      go_wp2
                      go_roundw
                      case rel => exact ⟨k + 1, rd2, by omega, by go_num, rfl, (by first | rfl | trivial), NX.out⟩
                      case measure => first | (simp [intOf]; done) | (simp [intOf]; omega)
                · obtain rfl : k = r0 := by omega
                  have lk : ¬ (k : Int) < (k : Int) := by omega
                  have CX := Lib.hid (show rd = true ↔ Cand G to6 told x by
                    rw [rd1_cand HTX.out H2.out, ← HR.out, ← HR0.out]
                    exact HRD.out.out)
                  cases rd with
                  | true =>
                    have NC := Lib.hid (show Hid (Fnd1 G to6 told n (x + 1) (.int .i64 (x : Int))) from (.inr ⟨x, rfl, hxn, CX.out.1 rfl, HNO.out⟩ : Fnd1 _ _ _ _ _ _))
                    have BZ := B9
                    go_wp2
                    go_roundw
                    case rel => exact ⟨x + 1, by omega, by go_num, NC.out, BZ.out⟩
                    case measure => first | (simp [intOf]; done) | (simp [intOf]; omega)
                  | false =>
                    have NC := Lib.hid (show Hid (Fnd1 G to6 told n (x + 1) (.int .i64 (-1))) from (.inl ⟨rfl, fun y hy hc => by
                      by_cases e : y = x
                      · subst e; have := CX.out.2 hc; cases this
                      · exact HNO.out y (by omega) hc⟩ : Fnd1 _ _ _ _ _ _))
                    have BZ := B9
                    go_wp2
                    go_roundw
                    case rel => exact ⟨x + 1, by omega, by go_num, NC.out, BZ.out⟩
                    case measure => first | (simp [intOf]; done) | (simp [intOf]; omega)
          · have hb : ((t : Int) == (x : Int)) = false := by rw [beq_eq_false_iff_ne]; omega
            have hbn : ((t : Int) != (x : Int)) = true := by rw [bne_iff_ne]; omega
            have NC := Lib.hid (show Hid (Fnd1 G to6 told n (x + 1) (.int .i64 (-1))) from (.inl ⟨rfl, fun y hy hc => by
              by_cases e : y = x
              · subst e; exact htx (by rw [HTT.out]; exact hc.1)
              · exact HNO.out y (by omega) hc⟩ : Fnd1 _ _ _ _ _ _))
            clear htx
            go_wp2
            go_roundw
            case rel => exact ⟨x + 1, by omega, by go_num, NC.out, BZ.out⟩
            case measure => first | (simp [intOf]; done) | (simp [intOf]; omega)
        · obtain rfl : x = n := by omega
          have lx : ¬ (x : Int) < (x : Int) := by omega
          have hpe : p = out.length := by
            rcases Nat.lt_or_ge p out.length with h | h
            · have h9 := cand_next HG.out HC.out HT.out HP.out h
              have h8 := HC.out.grp.lt _ (nx_mem (cmps_lt HC.out _ (List.getElem_mem h))) _ (hd_mem HC.out.grp (cmps_lt HC.out _ (List.getElem_mem h)))
              exact absurd h9.1 (HNO.out _ (by rw [HN.out]; exact h8))
            · omega
          go_wp2
          go_ret
          have e9 := HRR.out.out
          rw [hpe, show out.length = (toldL S out).length by simp [toldL], List.take_length] at e9
          have hm := moM_base HM.out HB6.out
          exact ⟨_, rfl, es, e9, ⟨⟨own_but hm.grp.row (But.of_below (P := fun _ => False) BZ.out) (fun _ _ => id), fun e he => own_but (hm.grp.own e he) (But.of_below (P := fun _ => False) BZ.out) (fun _ _ => id), hm.grp.sep⟩, hm.low.trans (BZ.out.mono hm.low.size)⟩⟩
      · have yi : (y : Int) < (n : Int) := by omega
        have yn : ¬ (y : Int) < 0 := by omega
        have hyG : y < G.length := by rw [← HN.out]; exact hyn
        have hpl : p < out.length := by
          rcases Nat.lt_or_ge p out.length with h | h
          · exact h
          · have hpe : p = out.length := by have := HPL.out; omega
            have h9 := HP.out
            rw [hpe] at h9
            exact absurd hcy (cand_none HG.out HC.out HT.out h9 hyG)
        have hyh : y = hd S out[p] := by
          have h9 := cand_next HG.out HC.out HT.out HP.out hpl
          rcases Nat.lt_trichotomy y (hd S out[p]) with h | h | h
          · exact absurd hcy (h9.2 y h)
          · exact h
          · exact absurd h9.1 (hyl _ h)
        have hgl := cmps_lt HC.out _ (List.getElem_mem hpl)
        have TKS := Lib.hid (show (toldL S out).take (p + 1) = (toldL S out).take p ++ [memL to6 y] by
          have h9 : p < (toldL S out).length := by simpa [toldL] using hpl
          rw [List.take_succ_eq_append_getElem h9]
          congr 2
          rw [hyh, memL_hd HC.out.grp HT.out hgl]
          simp [toldL])
        have HPN := Lib.hid (show ToldP S G.length out (p + 1) (told.set y true) by rw [hyh]; exact toldP_next HC.out HP.out hpl)
        have HTY := Lib.hid (show to6.getD y 0 = y from hcy.1)
        have c2 := (lies_cell (DY.out _ BZ.out) y).trans (bRow_at (m := told) (v := y) (by rw [HP.out.1]; exact hyG))
        have f2 := lies_free (DY.out _ BZ.out) y
        have hbW : But (· = w6.heap.size) wr (wr.setCell ⟨w6.heap.size, y, none⟩ (.bool true)) := (But.refl (· = w6.heap.size) wr).setCell (p := ⟨w6.heap.size, y, none⟩) (fun _ => rfl) _
        have DD := Lib.hid (show Lies (wr.setCell ⟨w6.heap.size, y, none⟩ (.bool true)) w6.heap.size 4 (bRow (told.set y true)) by have := lies_set (DY.out _ BZ.out) y (.bool true); rwa [bRow_set] at this)
        have HM2 := Lib.hid (show MoM w6 (.slice A4 es.length C4) es (wr.setCell ⟨w6.heap.size, y, none⟩ (.bool true)) from ⟨⟨own_but (own_but HM.out.grp.row (But.of_below (P := fun _ => False) BZ.out) (fun _ _ => id)) hbW (fun k hk e => by subst e; exact own_ne (own_but HM.out.grp.row (But.of_below (P := fun _ => False) BZ.out) (fun _ _ => id)) (DY.out _ BZ.out) (by decide) hk), fun e he => own_but (own_but (HM.out.grp.own e he) (But.of_below (P := fun _ => False) BZ.out) (fun _ _ => id)) hbW (fun k hk e2 => by subst e2; exact own_ne (own_but (HM.out.grp.own e he) (But.of_below (P := fun _ => False) BZ.out) (fun _ _ => id)) (DY.out _ BZ.out) (by decide) hk), HM.out.grp.sep⟩, (HM.out.low.trans (BZ.out.mono HM.out.low.size)).trans (hbW.below (by have := HM.out.low.size; have := BZ.out.size; omega) (fun k hk => by omega))⟩)
        have TT2 := Lib.hid (show Lies (wr.setCell ⟨w6.heap.size, y, none⟩ (.bool true)) T6 3 (nRow to6) from hbW.lies (TY.out _ BZ.out) (fun e => by have := TL.out; omega))
        have HSP := Lib.hid (show p + 1 ≤ out.length from hpl)
        clear hfnd hcy hyl hyh hbW hgl hpl
        by_cases hxn : (x : Int) < (n : Int)
        · go_upto_region 24 with (fail)
          generalize wr.setCell ⟨w6.heap.size, y, none⟩ (.bool true) = Z at *
          have HM := HM2
          have KMB := Lib.hid (members_pos T6 n to6 y Z TT2.out (by rw [HT.out.1, ← HN.out]; exact hn) (memL_pos (by rw [HT.out.1]; exact hyG) HTY.out))
          rw [HT.out.1, ← HN.out] at KMB
          obtain ⟨r0, hr0⟩ : ∃ r0, r0 = (memL to6 y).length := ⟨_, rfl⟩
          have HR0 := Lib.hid hr0
          rw [← hr0] at KMB
          clear hr0
          go_wp2_with (first
            | (go_at_call 26; (with_reducible refine KMB.out.mono ?_); rintro e w9 ⟨g13, C13, rfl, o9, b9⟩; have O9 := Lib.hid o9; have BF9 := Lib.hid (But.of_below (P := fun _ => False) b9); clear o9 b9; have H13 := Lib.hid (show .slice (some ⟨g13, 0, none⟩) r0 C13 = Ent.rv ⟨0, some ⟨g13, 0, none⟩, memL to6 y, C13⟩ by unfold Ent.rv; rw [HR0.out]); have A1 := Lib.hid ((own_but HM.out.grp.row BF9.out (fun _ _ => id)).alloc (.cells #[.slice (some ⟨g13, 0, none⟩) r0 C13] 33)); have LN := Lib.hid (lies_new w9 33 #[.slice (some ⟨g13, 0, none⟩) r0 C13]); have SZ := Lib.hid (show w6.heap.size ≤ (w9.alloc (.cells #[.slice (some ⟨g13, 0, none⟩) r0 C13] 33)).heap.size by have := HM.out.low.size; have := BF9.out.size; simp; omega); have M9 := Lib.hid (fun (GB GC : Nat) (w3 : World) (ho : w3.ownsRow w6.heap.size 33 1 (.slice (some ⟨GB, 0, none⟩) (es.length + 1) GC) (es.length + 1) (es.map Ent.rv ++ [.slice (some ⟨g13, 0, none⟩) r0 C13])) (hg : (w9.alloc (.cells #[.slice (some ⟨g13, 0, none⟩) r0 C13] 33)).grownBy w3 (Value.slice A4 es.length C4).ownBlock) => mo_put (e := ⟨0, some ⟨g13, 0, none⟩, memL to6 y, C13⟩) HM.out BF9.out (by rw [← H13.out]; exact O9.out) (by rw [← H13.out]; exact ho) hg); have G9 := Lib.hid (fun (w3 : World) (hg : (w9.alloc (.cells #[.slice (some ⟨g13, 0, none⟩) r0 C13] 33)).grownBy w3 (Value.slice A4 es.length C4).ownBlock) => show But (fun k => some k = (Value.slice A4 es.length C4).ownBlock) Z w3 from ((BF9.out.alloc (.cells #[.slice (some ⟨g13, 0, none⟩) r0 C13] 33)).mono (P' := fun k => some k = (Value.slice A4 es.length C4).ownBlock) (fun _ _ h => h.elim)).trans (But.grown hg)); have RR := Lib.hid (show Hid ((es ++ [(⟨0, some ⟨g13, 0, none⟩, memL to6 y, C13⟩ : Ent)]).map Ent.r = (toldL S out).take (p + 1)) from (by rw [List.map_append, HRR.out.out, TKS.out]; rfl : _ = _)))
            | (refine wpList_app_slice rfl _ _ rfl w6.heap.size w9.heap.size (.slice (some ⟨g13, 0, none⟩) r0 C13) (.slice A4 es.length C4) es.length (es.map Ent.rv) rfl A1.out rfl LN.out rfl EB.out SZ.out ?_; intro GB GC w3 g1 g2 g3; have M4 := Lib.hid (M9.out GB GC w3 g1 g2); have G4 := Lib.hid (G9.out w3 g2); clear g1 g2 g3))
          go_roundw
          case rel => exact ⟨p + 1, _, _, HSP.out, (by have := HEL.out; simp [slen]; exact this : _ = _), RR.out, M4.out, G4.out.lies DD.out (fun e => own_ne HM2.out.grp.row DD.out (by decide) e.symm), HPN.out⟩
          case measure =>
            have h9 := HEL.out
            have h8 := HPL.out
            simp only [slen]
            omega
        · go_upto_region 24 with (fail)
          generalize wr.setCell ⟨w6.heap.size, y, none⟩ (.bool true) = Z at *
          have HM := HM2
          have KMB := Lib.hid (members_pos T6 n to6 y Z TT2.out (by rw [HT.out.1, ← HN.out]; exact hn) (memL_pos (by rw [HT.out.1]; exact hyG) HTY.out))
          rw [HT.out.1, ← HN.out] at KMB
          obtain ⟨r0, hr0⟩ : ∃ r0, r0 = (memL to6 y).length := ⟨_, rfl⟩
          have HR0 := Lib.hid hr0
          rw [← hr0] at KMB
          clear hr0
          go_wp2_with (first
            | (go_at_call 26; (with_reducible refine KMB.out.mono ?_); rintro e w9 ⟨g13, C13, rfl, o9, b9⟩; have O9 := Lib.hid o9; have BF9 := Lib.hid (But.of_below (P := fun _ => False) b9); clear o9 b9; have H13 := Lib.hid (show .slice (some ⟨g13, 0, none⟩) r0 C13 = Ent.rv ⟨0, some ⟨g13, 0, none⟩, memL to6 y, C13⟩ by unfold Ent.rv; rw [HR0.out]); have A1 := Lib.hid ((own_but HM.out.grp.row BF9.out (fun _ _ => id)).alloc (.cells #[.slice (some ⟨g13, 0, none⟩) r0 C13] 33)); have LN := Lib.hid (lies_new w9 33 #[.slice (some ⟨g13, 0, none⟩) r0 C13]); have SZ := Lib.hid (show w6.heap.size ≤ (w9.alloc (.cells #[.slice (some ⟨g13, 0, none⟩) r0 C13] 33)).heap.size by have := HM.out.low.size; have := BF9.out.size; simp; omega); have M9 := Lib.hid (fun (GB GC : Nat) (w3 : World) (ho : w3.ownsRow w6.heap.size 33 1 (.slice (some ⟨GB, 0, none⟩) (es.length + 1) GC) (es.length + 1) (es.map Ent.rv ++ [.slice (some ⟨g13, 0, none⟩) r0 C13])) (hg : (w9.alloc (.cells #[.slice (some ⟨g13, 0, none⟩) r0 C13] 33)).grownBy w3 (Value.slice A4 es.length C4).ownBlock) => mo_put (e := ⟨0, some ⟨g13, 0, none⟩, memL to6 y, C13⟩) HM.out BF9.out (by rw [← H13.out]; exact O9.out) (by rw [← H13.out]; exact ho) hg); have G9 := Lib.hid (fun (w3 : World) (hg : (w9.alloc (.cells #[.slice (some ⟨g13, 0, none⟩) r0 C13] 33)).grownBy w3 (Value.slice A4 es.length C4).ownBlock) => show But (fun k => some k = (Value.slice A4 es.length C4).ownBlock) Z w3 from ((BF9.out.alloc (.cells #[.slice (some ⟨g13, 0, none⟩) r0 C13] 33)).mono (P' := fun k => some k = (Value.slice A4 es.length C4).ownBlock) (fun _ _ h => h.elim)).trans (But.grown hg)); have RR := Lib.hid (show Hid ((es ++ [(⟨0, some ⟨g13, 0, none⟩, memL to6 y, C13⟩ : Ent)]).map Ent.r = (toldL S out).take (p + 1)) from (by rw [List.map_append, HRR.out.out, TKS.out]; rfl : _ = _)))
            | (refine wpList_app_slice rfl _ _ rfl w6.heap.size w9.heap.size (.slice (some ⟨g13, 0, none⟩) r0 C13) (.slice A4 es.length C4) es.length (es.map Ent.rv) rfl A1.out rfl LN.out rfl EB.out SZ.out ?_; intro GB GC w3 g1 g2 g3; have M4 := Lib.hid (M9.out GB GC w3 g1 g2); have G4 := Lib.hid (G9.out w3 g2); clear g1 g2 g3))
          go_roundw
          case rel => exact ⟨p + 1, _, _, HSP.out, (by have := HEL.out; simp [slen]; exact this : _ = _), RR.out, M4.out, G4.out.lies DD.out (fun e => own_ne HM2.out.grp.row DD.out (by decide) e.symm), HPN.out⟩
          case measure =>
            have h9 := HEL.out
            have h8 := HPL.out
            simp only [slen]
            omega
end Go.Proofs.Ytfgpaffcfkbjlaa
