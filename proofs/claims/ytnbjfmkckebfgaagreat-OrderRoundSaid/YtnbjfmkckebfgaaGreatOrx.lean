/-
What is proved here: order's row, by a contract.
-/
import Derived.Test.YtnbjfmkckebfgaaGreatOrw
set_option linter.unusedSimpArgs false
set_option linter.unusedVariables false
namespace Go.Proofs.YtnbjfmkckebfgaaGreat
open Go.Cmp Go.RowKit
theorem relF_val : ∀ (l : List Nat) (s : List Nat × List Int) (y : Nat), s.2.getD y 0 - (l.length : Int) ≤ (l.foldl relF s).2.getD y 0 ∧ (l.foldl relF s).2.getD y 0 ≤ s.2.getD y 0
  | [], s, y => by simp
  | x :: r, s, y => by
    rw [List.foldl_cons]
    have h := relF_val r (relF s x) y
    have h2 : s.2.getD y 0 - 1 ≤ (relF s x).2.getD y 0 ∧ (relF s x).2.getD y 0 ≤ s.2.getD y 0 := by
      show s.2.getD y 0 - 1 ≤ (s.2.set x (s.2.getD x 0 - 1)).getD y 0 ∧ (s.2.set x (s.2.getD x 0 - 1)).getD y 0 ≤ s.2.getD y 0
      rw [getD_setV]
      split
      · rename_i hh
        obtain ⟨rfl, _⟩ := hh
        exact ⟨Int.le_refl _, by omega⟩
      · exact ⟨by omega, Int.le_refl _⟩
    simp only [List.length_cons]
    omega
theorem relF_step (l : List Nat) (s : List Nat × List Int) (j : Nat) (h : j < l.length) : (l.take (j + 1)).foldl relF s = relF ((l.take j).foldl relF s) l[j] := by
  rw [List.take_succ_eq_append_getElem h, List.foldl_append]
  rfl
theorem relF_eta (a : List Nat) (b : List Int) (n : Nat) : relF (a, b) n = (if b.getD n 0 - 1 = 0 then a ++ [n] else a, b.set n (b.getD n 0 - 1)) := rfl
def RowE (G : Gr) (g : Nat) (w : World) (e : Ending) (w' : World) : Prop := ∃ ov, e = .returned ov ∧ OwnI w' w.heap.size ov (zs (simO G G.length).out) ∧ But (· = g) w w'
set_option maxRecDepth 100000 in
set_option maxHeartbeats 8000000 in
theorem row_any (LA : Option Addr) (lc : Nat) (G : Gr) (hG : Ok G) (hn : G.length ≤ 1024) (hg : ∀ l ∈ G, l.length ≤ 1024) (g : Nat) (w : World) (hL : LsAt w LA (zg G)) (hl : Lies w g 51 #[.slice none 0 0, .func (.func 14) #[] #[]])
    (hr : ∀ k, k < G.length → 0 < (simO G k).ready.length) (hb : ∀ k, k ≤ G.length → (simO G k).ready.length ≤ 10000000) (hx : ∀ k, k < G.length → (simO G k).ready.getD (fstP (simO G k).ready) 0 < G.length) (hT : ∀ x y, y ∈ nx (trI G G.length) x → y < G.length) (hTb : ∀ x, (nx (trI G G.length) x).length ≤ 10000000) (hob : ∀ k, k < G.length → ∀ y, -100000000 ≤ (simO G k).opn.getD y 0 ∧ (simO G k).opn.getD y 0 ≤ 100000000) :
    Calls Tryz.prog 11 #[.slice LA G.length lc, .func (.func 15) #[.pointer (some ⟨g, 0, none⟩)] #[], .func (.func 16) #[.pointer (some ⟨g, 0, none⟩)] #[]] w (RowE G g w) := by
  obtain ⟨n, hnn⟩ : ∃ n, n = G.length := ⟨_, rfl⟩
  have KT := Lib.hid (oturned_any LA lc G hG hn hg w hL)
  have HR := Lib.hid hr
  have HBG := Lib.hid hb
  have HX := Lib.hid hx
  have HT := Lib.hid hT
  have HTB := Lib.hid hTb
  have HOB := Lib.hid hob
  have HL := Lib.hid hl
  have HN := Lib.hid hnn
  have HG := Lib.hid hG
  unfold OtE at KT
  rw [← hnn] at KT HR HBG HX HT HTB HOB hn ⊢
  clear hG hg hL hl hr hb hx hT hTb hob hnn
  go_enter Tryz.func11, Tryz.ntmps11
  go_upto_region 2 with (go_at_call 27; (with_reducible refine KT.out.mono ?_); rintro e w1 ⟨R, O, vs, rfl, hM⟩; have HM := Lib.hid hM; clear hM)
  have hlg : Lies w1 g 51 #[.slice none 0 0, .func (.func 14) #[] #[]] := lies_below HL.out HM.out.low (lies_lt HL.out)
  have hOX : O < w1.heap.size := lies_lt HM.out.opn
  have M0 := Lib.hid (show RwM w1 O g (.slice none 0 0) (rdy0 G 0) (opn0 G) (.slice none 0 0) [] w1 from ⟨But.refl _ _, HM.out.opn, ⟨hlg, ownI_nil _ _⟩, ownI_nil _ _, fun k hk => by cases hk⟩)
  have HOX := Lib.hid hOX
  have O0 := Lib.hid (show (opn0 G).length = n by rw [HN.out]; simp [opn0])
  clear hlg hOX
  go_upto_region 3 with (fail)
  go_loopw [22] (fun v22 wr => ∃ (i : Nat) (v : Value), i ≤ n ∧ v22 = .int .i64 (i : Int) ∧ RwM w1 O g v (rdy0 G i) (opn0 G) (.slice none 0 0) [] wr) (fun v22 _ => n - (intOf v22).toNat)
  case atStart => exact ⟨0, _, Nat.zero_le _, rfl, M0.out⟩
  case round =>
    obtain ⟨i, v, hi, rfl, hM⟩ := hrel
    have M1 := Lib.hid hM
    clear hM
    by_cases hlt : i < n
    · have li : (i : Int) < (n : Int) := by omega
      have ci := (lies_cell M1.out.opn i).trans (oRow_at _ _ (by rw [O0.out]; exact hlt))
      have hop : (opn0 G).getD i 0 = ((nx G i).length : Int) := by
        have hi2 : i < G.length := by rw [← HN.out]; exact hlt
        unfold opn0 nx
        rw [List.getD_eq_getElem?_getD, List.getElem?_map, List.getD_eq_getElem?_getD, List.getElem?_eq_getElem hi2]
        rfl
      rw [hop] at ci
      have hs := rdy0_succ G i
      have HS := Lib.hid hs
      have hrl : (rdy0 G i).length ≤ i := by
        have := List.length_filter_le (fun j => decide ((nx G j).length = 0)) (List.range i)
        rw [List.length_range] at this
        exact this
      obtain ⟨z, hz⟩ : ∃ z, z = (nx G i).length := ⟨_, rfl⟩
      rw [← hz] at ci HS
      clear hop hs hz
      by_cases h0 : z = 0
      · subst h0
        have e0 : (((0 : Nat) : Int) == 0) = true := by decide
        rw [if_pos rfl] at HS
        have KP := Lib.hid (lput_any w1.heap.size g v (rdy0 G i) i wr M1.out.lin (by omega) M1.out.low.size)
        clear hrl
        go_wp2_with (go_at_call 15; (with_reducible refine KP.out.mono ?_); rintro e w2 ⟨rfl, hE⟩; have HE := Lib.hid (rw_line M1.out HOX.out hE); clear hE)
        obtain ⟨v', hM'⟩ := HE.out
        go_roundw
        case rel => exact ⟨i + 1, v', by omega, by go_num, by rw [HS.out]; exact hM'⟩
        case measure => first | (simp [intOf]; done) | (simp [intOf]; omega)
      · have e0 : ((z : Int) == 0) = false := by simp; omega
        rw [if_neg h0] at HS
        clear hrl h0
        go_wp2
        go_roundw
        case rel => exact ⟨i + 1, v, by omega, by go_num, by rw [HS.out]; exact M1.out⟩
        case measure => first | (simp [intOf]; done) | (simp [intOf]; omega)
    · obtain rfl : i = n := by omega
      have li : ¬ (i : Int) < (i : Int) := by omega
      go_upto_region 10 with (fail)
      have M2 := Lib.hid (show RwM w1 O g v (simO G 0).ready (simO G 0).opn (.slice none 0 0) (simO G 0).out wr by have := M1.out; rw [HN.out] at this; exact this)
      clear M1
      go_loopw [35, 11] (fun v35 v11 wq => ∃ (k : Nat) (v ov : Value), k ≤ i ∧ v35 = .int .i64 (k : Int) ∧ ov = v11 ∧ RwM w1 O g v (simO G k).ready (simO G k).opn ov (simO G k).out wq) (fun v35 _ _ => i - (intOf v35).toNat)
      case atStart => exact ⟨0, v, _, Nat.zero_le _, rfl, rfl, M2.out⟩
      case round =>
        obtain ⟨k, v, ov, hk, rfl, ho, hM⟩ := hrel
        subst ho
        have M3 := Lib.hid hM
        clear hM
        by_cases hlt : k < i
        · have lk : (k : Int) < (i : Int) := by omega
          have KK := Lib.hid (ltake_any w1.heap.size g v (simO G k).ready wr M3.out.lin (HR.out k hlt) (by have := HBG.out k hk; omega))
          have hxx := HX.out k hlt
          obtain ⟨x, hx⟩ : ∃ x, x = (simO G k).ready.getD (fstP (simO G k).ready) 0 := ⟨_, rfl⟩
          rw [← hx] at KK hxx
          have HXE := Lib.hid hx
          have xi : (x : Int) < (i : Int) := by omega
          clear hx
          go_upto_region 12 with (go_at_call 16; (with_reducible refine KK.out.mono ?_); rintro e w2 ⟨rfl, hE⟩; have HE := Lib.hid (rw_line M3.out HOX.out hE); clear hE)
          obtain ⟨v', hM'⟩ := HE.out
          have M4 := Lib.hid hM'
          clear hM' HE
          have LN := Lib.hid (lies_new w2 3 #[iV x])
          have OL := Lib.hid (show OwnI (w2.alloc (.cells #[iV x] 3)) w1.heap.size ov (zs (simO G k).out) from World.ownsRow.alloc M4.out.row _)
          have SZ := Lib.hid (show w1.heap.size ≤ (w2.alloc (.cells #[iV x] 3)).heap.size by have := M4.out.low.size; simp; omega)
          have LB := Lib.hid (show (zs (simO G k).out).length ≤ 100000000 by rw [zs_len, simO_out]; omega)
          unfold iV at *
          go_upto_region 13 with (refine wpList_app_at rfl _ _ rfl w1.heap.size w2.heap.size x ov (zs (simO G k).out) rfl OL.out rfl LN.out LB.out SZ.out ?_; intro G' C w3 h1 h2 h3; have M5 := Lib.hid (rw_out M4.out HOX.out (by rw [zs_len] at h1; exact h1) h2 h3); rw [zs_len]; clear h1 h2 h3)
          obtain ⟨ov', hov⟩ : ∃ ov', ov' = Value.slice (some ⟨G', 0, none⟩) ((simO G k).out.length + 1) C := ⟨_, rfl⟩
          rw [← hov] at M5
          have HOV := Lib.hid hov
          obtain ⟨A3, cc, e3, c4, o4, va⟩ := otM_at HM.out (v := x) (by rw [trI_len, ← HN.out]; exact hxx)
          have hRg : R ≠ g := fun e => by
            have h4 := HM.out.row
            have h5 := M0.out.lin.box
            unfold Lies at h4 h5
            rw [e, h5] at h4
            injection h4 with h4
            injection h4 with _ h4 _
            cases h4
          have hRO := HM.out.ne
          have hro := HM.out.ro
          have AS : ∀ (W : World), But (fun q => q = g ∨ q = O) w1 W → W.cell? ⟨R, x, none⟩ = some (.slice A3 (nx (trI G i) x).length cc) ∧ IntsAt W A3 (zs (nx (trI G i) x)) := fun W hb => by
            refine ⟨?_, ?_⟩
            · rw [lies_cell (hb.lies HM.out.row (fun e => e.elim hRg hRO)) x, ← lies_cell HM.out.row x]
              exact c4
            · have h1 := own_but o4 hb (fun q hq e => by
                have h2 := own_heap o4 q hq
                rcases e with e | e
                · exact own_ne o4 M0.out.lin.box (by decide) (e ▸ hq)
                · omega)
              rw [e3] at h1
              exact (ownI_ints h1).2
          have HAS := Lib.hid AS
          obtain ⟨T, hT⟩ : ∃ T, T = nx (trI G i) x := ⟨_, rfl⟩
          have HTE := Lib.hid hT
          rw [← hT] at HAS AS
          have TLT := Lib.hid (show ∀ y ∈ T, y < i from fun y hy => HT.out x y (by rw [← hT]; exact hy))
          have TBG := Lib.hid (show T.length ≤ 10000000 by rw [hT]; exact HTB.out x)
          obtain ⟨m, hm⟩ : ∃ m, m = T.length := ⟨_, rfl⟩
          have ME := Lib.hid hm
          have hm2 : m ≤ 10000000 := by rw [hm]; exact TBG.out
          have ch := (AS w3 M5.out.low).1
          rw [← hm] at ch
          obtain ⟨s0, hs0⟩ : ∃ s0 : List Nat × List Int, s0 = ((simO G k).ready.eraseIdx (fstP (simO G k).ready), (simO G k).opn) := ⟨_, rfl⟩
          have HS0 := Lib.hid hs0
          have S1 := Lib.hid (show s0.1.length ≤ 10000000 by
            have h1 := HBG.out k hk
            have h2 : ((simO G k).ready.eraseIdx (fstP (simO G k).ready)).length ≤ (simO G k).ready.length := by rw [List.length_eraseIdx]; split <;> omega
            rw [hs0]
            exact Nat.le_trans h2 h1)
          have S2 := Lib.hid (show s0.2.length = i by rw [hs0, HN.out]; exact simO_len G k)
          have S3 := Lib.hid (show ∀ y, -100000000 ≤ s0.2.getD y 0 ∧ s0.2.getD y 0 ≤ 100000000 by rw [hs0]; exact HOB.out k hlt)
          have M6 := Lib.hid (show RwM w1 O g v' s0.1 s0.2 ov' ((simO G k).out ++ [x]) w3 by rw [hs0]; exact M5.out)
          clear AS hRg hRO hro c4 o4 e3 va hT hm hs0 M5 M4 LN OL SZ LB hov KK
          go_upto_region 14 with (fail)
          clear ch
          go_loopw [48] (fun v48 wz => ∃ (j : Nat) (v : Value), j ≤ m ∧ v48 = .int .i64 (j : Int) ∧ RwM w1 O g v ((T.take j).foldl relF s0).1 ((T.take j).foldl relF s0).2 ov' ((simO G k).out ++ [x]) wz) (fun v48 _ => m - (intOf v48).toNat)
          case atStart => exact ⟨0, v', Nat.zero_le _, rfl, M6.out⟩
          case round =>
            obtain ⟨j, v2, hj, rfl, hM⟩ := hrel
            have M7 := Lib.hid hM
            clear hM
            by_cases hjl : j < m
            · have lj : (j : Int) < (m : Int) := by omega
              have hjT : j < T.length := by rw [← ME.out]; exact hjl
              obtain ⟨b2, o2, eA, hb2, c3⟩ := (HAS.out wr M7.out.low).2 j (by simpa using hjT)
              have ez : (zs T)[j]'(by simpa using hjT) = (T[j] : Int) := by simp [zs]
              rw [ez] at c3
              have hyi : T[j] < i := TLT.out _ (List.getElem_mem hjT)
              have hst := relF_step T s0 j hjT
              obtain ⟨y, hy⟩ : ∃ y, y = T[j] := ⟨_, rfl⟩
              rw [← hy] at c3 hyi hst
              replace c3 : wr.cell? ⟨b2, o2 + j, none⟩ = some (.int .i64 (y : Int)) := c3
              obtain ⟨s1, hs1⟩ : ∃ s1, s1 = (T.take j).foldl relF s0 := ⟨_, rfl⟩
              have hl1 : s1.2.length = i := by rw [hs1, relF_len]; exact S2.out
              have hb1 : s1.1.length ≤ 20000000 := by
                have h1 := relF_big (T.take j) s0
                have h2 := S1.out
                have h3 : (T.take j).length ≤ T.length := by rw [List.length_take]; omega
                have h4 := TBG.out
                rw [hs1]; omega
              have hv1 := relF_val (T.take j) s0 y
              have hv2 := S3.out y
              have hv3 : ((T.take j).length : Int) ≤ 10000000 := by
                have h3 : (T.take j).length ≤ T.length := by rw [List.length_take]; omega
                have h4 := TBG.out
                omega
              rw [← hs1] at M7 hst hv1
              have ETA := relF_eta s1.1 s1.2 y
              rw [show (s1.1, s1.2) = s1 from rfl] at ETA
              rw [ETA] at hst
              have co := (lies_cell M7.out.opn y).trans (oRow_at _ _ (by rw [hl1]; exact hyi))
              have fo := lies_free M7.out.opn y
              obtain ⟨z, hz⟩ : ∃ z, z = s1.2.getD y 0 := ⟨_, rfl⟩
              rw [← hz] at co hst hv1
              obtain ⟨d, hd⟩ : ∃ d, d = z - 1 := ⟨_, rfl⟩
              have wr1 : IntKind.i64.wrap (z - 1) = d := by
                rw [hd]
                simp [IntKind.wrap, IntKind.bits, IntKind.signed]
                omega
              have wr2 : wrap64 (z - 1) = d := by unfold wrap64; omega
              rw [← hd] at hst
              have M8 := Lib.hid (rw_open M7.out HOX.out y d)
              have HST := Lib.hid hst
              have HB1 := Lib.hid hb1
              have HLY := Lib.hid (show y < s1.2.length by rw [hl1]; exact hyi)
              have yi : (y : Int) < (i : Int) := by omega
              subst eA
              clear hst hy hs1 hl1 hb1 hv1 hv2 hv3 ETA hz hd ez hb2 hjT hyi
              go_upto_region 17 with (fail)
              clear wr1 wr2 co fo c3
              generalize wr.setCell ⟨O, y, none⟩ (.int .i64 d) = W4 at *
              have co := lies_cell M8.out.opn y
              have hdd : (oRow (s1.2.set y d))[y]? = some (.int .i64 d) := by
                have hyl : y < s1.2.length := by have := M7.out.opn; have h2 := HLY.out; exact h2
                rw [oRow_at _ _ (by simpa using hyl), getD_setV, if_pos ⟨rfl, hyl⟩]
              rw [hdd] at co
              clear hdd
              by_cases h0 : d = 0
              · have e0 : (d == 0) = true := by simp [h0]
                rw [if_pos h0] at HST
                have KP := Lib.hid (lput_any w1.heap.size g v2 s1.1 y W4 M8.out.lin (by have := HB1.out; omega) M8.out.low.size)
                clear h0
                go_wp2_with (go_at_call 15; (with_reducible refine KP.out.mono ?_); rintro e w5 ⟨rfl, hE⟩; have HE := Lib.hid (rw_line M8.out HOX.out hE); clear hE)
                obtain ⟨v3, hM'⟩ := HE.out
                go_roundw
                case rel => exact ⟨j + 1, v3, by omega, by go_num, by rw [HST.out]; exact hM'⟩
                case measure => first | (simp [intOf]; done) | (simp [intOf]; omega)
              · have e0 : (d == 0) = false := by simp [h0]
                rw [if_neg h0] at HST
                clear h0
                go_wp2
                go_roundw
                case rel => exact ⟨j + 1, v2, by omega, by go_num, by rw [HST.out]; exact M8.out⟩
                case measure => first | (simp [intOf]; done) | (simp [intOf]; omega)
            · obtain rfl : j = m := by omega
              have lj : ¬ (j : Int) < (j : Int) := by omega
              have hend : simO G (k + 1) = ⟨((T.take j).foldl relF s0).1, ((T.take j).foldl relF s0).2, (simO G k).out ++ [x]⟩ := by
                rw [simO]
                unfold nextO
                simp only []
                rw [← HN.out, ← HXE.out, ← HTE.out, ← HS0.out, ME.out, List.take_length]
              have HEND := Lib.hid hend
              clear hend
              go_wp2
              go_roundw
              case rel => exact ⟨k + 1, v2, ov', by omega, by go_num, HOV.out, by rw [HEND.out]; exact M7.out⟩
              case measure => first | (simp [intOf]; done) | (simp [intOf]; omega)
        · obtain rfl : k = i := by omega
          have lk : ¬ (k : Int) < (k : Int) := by omega
          go_wp2
          go_ret
          refine ⟨ov, rfl, ?_, ?_⟩
          · have := M3.out.row
            rw [← HN.out]
            exact own_base this (fun b hb => by have := (own_heap this b hb).1; have := HM.out.low.size; omega)
          · exact ⟨M3.out.low.os.trans HM.out.low.os, M3.out.low.tape.trans HM.out.low.tape, M3.out.low.output.trans HM.out.low.output, Nat.le_trans HM.out.low.size M3.out.low.size, fun b hb hp => (M3.out.low.block b (Nat.lt_of_lt_of_le hb HM.out.low.size) (fun e => e.elim hp (fun e => by have := HM.out.ro.2.1; omega))).trans (HM.out.low.block b hb)⟩
end Go.Proofs.YtnbjfmkckebfgaaGreat
