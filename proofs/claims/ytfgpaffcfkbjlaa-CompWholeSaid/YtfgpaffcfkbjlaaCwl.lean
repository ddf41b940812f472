/-
What is proved here: law CompWhole, by a contract.
-/
import Derived.Test.YtfgpaffcfkbjlaaPrt
import Derived.Test.YtfgpaffcfkbjlaaPmo
import Derived.Test.YtfgpaffcfkbjlaaMuc
import Derived.Test.YtfgpaffcfkbjlaaLiv
import Derived.BigQuiet
import Derived.Deep.QuietTactic
set_option linter.unusedSimpArgs false
set_option linter.unusedVariables false
namespace Go.Proofs.Ytfgpaffcfkbjlaa
open Go.Cmp Go.RowKit
/-- the places told, in memory -/
structure AtM (w2 : World) (G L : Gr) (i k : Nat) (f : List Nat) (W : World) : Prop where
  lies : Lies W w2.heap.size 3 (nRow f)
  inv : AtI G L i k f
  low : Below w2.heap.size w2 W
  sz : w2.heap.size + 1 ≤ W.heap.size
theorem atM_0 (w2 : World) (G L : Gr) : AtM w2 G L 0 0 (List.replicate G.length 0) (w2.alloc (.cells (Array.replicate G.length (.int .i64 0)) 3)) :=
  ⟨by rw [nRow_rep]; exact lies_new _ _ _, atI_0 G L, below_alloc _ _, by simp⟩
theorem atM_drewN {w2 W : World} {G L : Gr} {i k : Nat} {f : List Nat} (h : AtM w2 G L i k f W) (q : Nat) : AtM w2 G L i k f (W.drewN q) := ⟨lies_drewN h.lies q, h.inv, below_drewN h.low q, h.sz⟩
theorem atM_set {w2 W : World} {G L : Gr} (hW : Wl G L) {i k : Nat} {f : List Nat} (h : AtM w2 G L i k f W) (hk : k < (nx L i).length) : AtM w2 G L i (k + 1) (f.set (nx L i)[k] (i + 1)) (W.setCell ⟨w2.heap.size, (nx L i)[k], none⟩ (.int .i64 ((i : Int) + 1))) := by
  refine ⟨?_, atI_set hW h.inv hk, h.low.setCell (p := ⟨w2.heap.size, (nx L i)[k], none⟩) (Nat.le_refl _) _, by simpa [World.setCell] using h.sz⟩
  have := lies_set h.lies (nx L i)[k] (.int .i64 ((i + 1 : Nat) : Int))
  rw [nRow_set] at this
  rw [show (i : Int) + 1 = ((i + 1 : Nat) : Int) by omega]
  exact this
theorem much_no {G : Gr} (h : muchP (zg G) = false) : G.length ≤ 80 ∧ ∀ i, (nx G i).length ≤ 3000 := by
  unfold muchP at h
  rw [Bool.or_eq_false_iff] at h
  have h1 := of_decide_eq_false h.1
  have h2 := of_decide_eq_false h.2
  rw [zg_len] at h1 h2
  refine ⟨by omega, fun i => ?_⟩
  rcases Nat.lt_or_ge i G.length with hi | hi
  · have hz : i < (zg G).length := by rw [zg_len]; exact hi
    have h3 := cst_succ hz
    have h4 := cst_mono (zg G) (i := i + 1) (j := (zg G).length) (by omega) (Nat.le_refl _)
    have e : (zg G)[i].length = (nx G i).length := by rw [zg_at hz, zs_len]
    rw [zg_len] at h4
    omega
  · have e : nx G i = [] := by unfold nx; rw [List.getD_eq_getElem?_getD, List.getElem?_eq_none hi]; rfl
    rw [e]; simp
/-- what Components tells, as lists -/
theorem cps_told {G : Gr} {w w' : World} {e : Ending} (h : CpsE G w e w') : ∃ (A : Option Addr) (C : Nat) (L : Gr), e = .returned (.tuple #[.slice A L.length C, .int .i64 0]) ∧ Wl G L ∧ LsAt w' A (zg L) ∧ Below w.heap.size w w' := by
  obtain ⟨A, C, es, T, out, rfl, hC, hG, hB⟩ := h
  have e1 : (out.map fun k => es.getD k dE).map Ent.r = toldL (es.map Ent.r) out := by
    unfold toldL
    rw [List.map_map]
    refine List.map_congr_left fun k hk => ?_
    show (es.getD k dE).r = nx (es.map Ent.r) k
    unfold nx
    rw [List.getD_eq_getElem?_getD, List.getD_eq_getElem?_getD, List.getElem?_map]
    cases es[k]? <;> rfl
  refine ⟨A, C, toldL (es.map Ent.r) out, by simp [toldL], wl_of hC, ?_, hB⟩
  rw [← e1]
  exact grps_ls hG
theorem len_nx {G : Gr} {i : Nat} (hW : ∀ l ∈ G, l.length ≤ 1024) : (nx G i).length ≤ 1024 := by
  rcases Nat.lt_or_ge i G.length with hi | hi
  · exact hW _ (nx_mem hi)
  · have e : nx G i = [] := by unfold nx; rw [List.getD_eq_getElem?_getD, List.getElem?_eq_none hi]; rfl
    rw [e]; simp
theorem sum_mem {L : Gr} {i : Nat} (h : i < L.length) : ((L.take i).map List.length).sum + (nx L i).length ≤ (L.map List.length).sum := by
  have h1 := sum_take h
  have h2 : ∀ j, ((L.take j).map List.length).sum ≤ (L.map List.length).sum := fun j => by
    conv => rhs; rw [← List.take_append_drop j L, List.map_append, List.sum_append]
    omega
  have := h2 (i + 1)
  omega
theorem wl_K {G L : Gr} (hW : Wl G L) : L.length ≤ G.length := by
  rw [← hW.sm]
  have : ∀ M : List (List Nat), (∀ l ∈ M, l ≠ []) → M.length ≤ (M.map List.length).sum := fun M => by
    induction M with
    | nil => intro _; simp
    | cons a t ih =>
      intro h
      have h1 := ih (fun l hl => h l (List.mem_cons_of_mem _ hl))
      have h2 : 0 < a.length := List.length_pos_iff.2 (h a (by simp))
      simp only [List.length_cons, List.map_cons, List.sum_cons]
      omega
  refine this L fun l hl => ?_
  obtain ⟨i, hi, rfl⟩ := List.getElem_of_mem hl
  have := hW.ne i hi
  unfold nx at this
  rwa [List.getD_eq_getElem?_getD, List.getElem?_eq_getElem hi] at this
set_option maxRecDepth 100000 in
set_option maxHeartbeats 8000000 in
theorem cwhole_main (LA : Option Addr) (lc : Nat) (G : Gr) (hG : Ok G) (hgs : ∀ l ∈ G, l.length ≤ 1024) (hm : muchP (zg G) = false) (w : World) (hL : LsAt w LA (zg G)) : Calls Try.prog 4 #[.slice LA G.length lc] w fun e w' => e = .returned (.bool true) ∧ Below w.heap.size w w' := by
  obtain ⟨hn, hs⟩ := much_no hm
  have HGS := Lib.hid hgs
  have HG := Lib.hid hG
  have HL := Lib.hid hL
  have KM := Lib.hid (fun (W : World) (hb : Below w.heap.size w W) => much_any LA lc (zg G) W (lsAt_below hL hb) (by rw [zg_len]; omega) (fun l hl => by
    obtain ⟨l', hl', rfl⟩ := List.mem_map.1 hl
    rw [zs_len]
    have := hgs l' hl'
    omega))
  rw [hm, zg_len] at KM
  have KC := Lib.hid (fun (W : World) (hb : Below w.heap.size w W) => comps_any LA lc G hG (by omega) hgs W (lsAt_below hL hb))
  have KP := Lib.hid (fun (W : World) (hb : Below w.heap.size w W) => parts_any LA lc G hG (by omega) hgs W (lsAt_below hL hb))
  obtain ⟨n, hnn⟩ : ∃ n, n = G.length := ⟨_, rfl⟩
  have HN := Lib.hid hnn
  have mk1 := fun W => mk_ints W n (by omega)
  rw [← hnn] at hn KM KC KP ⊢
  clear hL hG hgs hnn hm hs
  go_enter Try.func4, Try.ntmps4
  go_upto_region 8 with (first
    | (go_at_call 7; (with_reducible refine (alive_any _).mono ?_); rintro e w1 ⟨rfl, hb⟩; have B1 := Lib.hid hb; clear hb)
    | (go_at_call 8; (with_reducible refine (KM.out _ B1.out).mono ?_); rintro e wm ⟨rfl, rfl⟩)
    | (go_at_call 10; (with_reducible refine (KC.out _ B1.out).mono ?_); intro e w2 h; obtain ⟨A5, C5, L, rfl, hW, hA, hb⟩ := cps_told h; have HW := Lib.hid hW; have HA := Lib.hid hA; have B2 := Lib.hid (B1.out.trans (hb.mono B1.out.size)); clear hW hA hb h)
    | (go_at_call 15; (with_reducible refine (num_any _ _).mono ?_); rintro e w5 ⟨rfl, rfl⟩))
  have M0 := Lib.hid (atM_0 w5 G L)
  rw [← HN.out] at M0
  go_upto_region 11 with (fail)
  generalize w5.alloc (.cells (Array.replicate n (.int .i64 0)) 3) = X at *
  have hKn : L.length ≤ n := by rw [HN.out]; exact wl_K HW.out
  obtain ⟨K, hK⟩ : ∃ K, K = L.length := ⟨_, rfl⟩
  have HK := Lib.hid hK
  rw [← hK] at hKn ⊢
  clear hK mk1
  go_loopw [8, 9] (fun v8 v9 wr => ∃ (i : Nat) (f : List Nat), i ≤ K ∧ v9 = .int .i64 (i : Int) ∧ v8 = .int .i64 ((((L.take i).map List.length).sum : Nat) : Int) ∧ AtM w5 G L i 0 f wr) (fun _ v9 _ => K - (intOf v9).toNat)
  case atStart => exact ⟨0, _, Nat.zero_le _, rfl, rfl, M0.out⟩
  case round =>
    obtain ⟨i, f, hi, rfl, rfl, hM⟩ := hrel
    have HM := Lib.hid hM
    clear hM
    by_cases hlt : i < K
    · have li : (i : Int) < (K : Int) := by omega
      have hiL : i < L.length := by rw [← HK.out]; exact hlt
      obtain ⟨b, o, A', c', eA, hbl, cc, _, hI⟩ := zrow_at HA.out hiL
      have hmn := sum_mem hiL
      rw [HW.out.sm, ← HN.out] at hmn
      have SS := Lib.hid (sum_take hiL)
      obtain ⟨S, hS⟩ : ∃ S, S = ((L.take i).map List.length).sum := ⟨_, rfl⟩
      obtain ⟨m, hm⟩ : ∃ m, m = (nx L i).length := ⟨_, rfl⟩
      rw [← hS, ← hm] at hmn SS
      rw [← hS]
      rw [← hm] at cc
      have HI := Lib.hid hI
      have HMM := Lib.hid hm
      have HCC := Lib.hid cc
      have HBL := Lib.hid hbl
      subst eA
      clear hS hm hI cc hbl
      go_upto_region 14 with (fail)
      go_loopw [8, 10] (fun v8 v10 wq => ∃ (k : Nat) (f : List Nat), k ≤ m ∧ v10 = .int .i64 (k : Int) ∧ v8 = .int .i64 ((S + k : Nat) : Int) ∧ AtM w5 G L i k f wq) (fun _ v10 _ => m - (intOf v10).toNat)
      case atStart => exact ⟨0, f, Nat.zero_le _, rfl, rfl, HM.out⟩
      case round =>
        obtain ⟨k, f2, hk, rfl, rfl, hM2⟩ := hrel
        have HM2 := Lib.hid hM2
        clear hM2
        have cc := (HM2.out.low.cell (p := ⟨b, o + i, none⟩) HBL.out).trans HCC.out
        by_cases hkm : k < m
        · have lk : (k : Int) < (m : Int) := by omega
          have hkl : k < (nx L i).length := by rw [← HMM.out]; exact hkm
          obtain ⟨b', o', eA', hbl', cc'⟩ := HI.out k (by rw [zs_len]; exact hkl)
          rw [show (zs (nx L i))[k]'(by rw [zs_len]; exact hkl) = (((nx L i)[k] : Nat) : Int) by simp [zs]] at cc'
          unfold iV at cc'
          have hvn : (nx L i)[k] < n := by rw [HN.out]; exact HW.out.lt i _ (List.getElem_mem hkl)
          have NX := Lib.hid (fun q => atM_set HW.out (atM_drewN HM2.out q) hkl)
          have cT := (lies_cell HM2.out.lies (nx L i)[k]).trans (nRow_at (by rw [HM2.out.inv.len, ← HN.out]; exact hvn))
          rw [atI_free HW.out HM2.out.inv hkl] at cT
          have fT := lies_free HM2.out.lies (nx L i)[k]
          replace cc' := (HM2.out.low.cell (p := ⟨b', o' + k, none⟩) hbl').trans cc'
          have hup := Lib.hid (fun (k' : Nat) (h : k = k' + 1) => show ∃ v' : Nat, w5.cell? ⟨b', o' + k', none⟩ = some (.int .i64 ((v' : Nat) : Int)) ∧ v' < (nx L i)[k] ∧ True from by
            have hk' : k' < (nx L i).length := by omega
            obtain ⟨b2, o2, e2, _, c2⟩ := HI.out k' (by rw [zs_len]; exact hk')
            rw [eA'] at e2
            injection e2 with e2
            injection e2 with e3 e4
            subst e3 e4
            rw [show (zs (nx L i))[k']'(by rw [zs_len]; exact hk') = (((nx L i)[k'] : Nat) : Int) by simp [zs]] at c2
            exact ⟨_, c2, List.pairwise_iff_getElem.1 (HW.out.up i) k' k hk' hkl (by omega), trivial⟩)
          obtain ⟨v, hv⟩ : ∃ v, v = (nx L i)[k] := ⟨_, rfl⟩
          rw [← hv] at cc' hvn NX cT fT hup
          have vi : (v : Int) < (n : Int) := by omega
          have v0 : ¬ (v : Int) < 0 := by omega
          have v1 : ¬ (n : Int) ≤ (v : Int) := by omega
          have HLO := Lib.hid HM2.out.low
          have HBL' := Lib.hid hbl'
          have hSk : S + k ≤ 80 := by omega
          have hi80 : i ≤ 80 := by omega
          subst eA'
          clear hv hbl'
          rcases Nat.eq_zero_or_pos k with h0 | h0
          · subst h0
            have m0 : 0 < m := by omega
            have m0i : (0 : Int) < (m : Int) := by omega
            have cc0 := cc'
            rw [Nat.add_zero] at cc0
            go_upto_region 16 with (fail)
            go_quiet (fail)
            go_wp2
            go_roundw
            case rel => exact ⟨1, _, by omega, by go_num, by go_num, NX.out nq⟩
            case measure => first | (simp [intOf]; done) | (simp [intOf]; omega)
          · obtain ⟨k', rfl⟩ : ∃ k', k = k' + 1 := ⟨k - 1, by omega⟩
            obtain ⟨v', cp, hv', _⟩ := hup.out k' rfl
            have hv'i : (v' : Int) < (v : Int) := by omega
            have kp : (0 : Int) < ((k' + 1 : Nat) : Int) := by omega
            have ks : ((k' + 1 : Nat) : Int) - 1 = (k' : Int) := by omega
            have kl : (k' : Int) < (m : Int) := by omega
            replace cp := (HLO.out.cell (p := ⟨b', o' + k', none⟩) HBL'.out).trans cp
            have v2 : ¬ (v : Int) ≤ (v' : Int) := by omega
            go_upto_region 16 with (fail)
            go_quiet (fail)
            go_wp2
            go_roundw
            case rel => exact ⟨k' + 1 + 1, _, by omega, by go_num, by go_num, NX.out nq⟩
            case measure => first | (simp [intOf]; done) | (simp [intOf]; omega)
        · obtain rfl : k = m := by omega
          have lk : ¬ (k : Int) < (k : Int) := by omega
          have NX := Lib.hid (show AtM w5 G L (i + 1) 0 f2 wr from ⟨HM2.out.lies, atI_next (by rw [← HMM.out]; exact HM2.out.inv), HM2.out.low, HM2.out.sz⟩)
          go_wp2
          go_roundw
          case rel => exact ⟨i + 1, f2, by omega, by go_num, by rw [SS.out], NX.out⟩
          case measure => first | (simp [intOf]; done) | (simp [intOf]; omega)
    · obtain rfl : i = K := by omega
      have li : ¬ (i : Int) < (i : Int) := by omega
      have hsum : ((L.take i).map List.length).sum = n := by
        have hk := HK.out
        rw [hk, List.take_length, HW.out.sm, ← HN.out]
      rw [hsum]
      clear hsum
      have HIN := Lib.hid HM.out.inv
      have HLW := Lib.hid HM.out.lies
      have HBW := Lib.hid (B2.out.trans (HM.out.low.mono B2.out.size))
      have HB5 := Lib.hid HM.out.low
      have HAX := Lib.hid (lsAt_below HA.out HM.out.low)
      have TN : w5.heap.size < wr.heap.size := by have := HM.out.sz; omega
      have HTN := Lib.hid TN
      clear HM M0 TN
      generalize w5.heap.size = T at *
      go_upto_region 23 with (fail)
      go_loopw [11] (fun v11 wq => ∃ j q : Nat, j ≤ n ∧ v11 = .int .i64 (j : Int) ∧ wq = wr.drewN q) (fun v11 _ => n - (intOf v11).toNat)
      case atStart => exact ⟨0, 0, Nat.zero_le _, rfl, rfl⟩
      case round =>
        obtain ⟨j, q, hj, rfl, rfl⟩ := hrel
        by_cases hjn : j < n
        · have lj : (j : Int) < (n : Int) := by omega
          have hjG : j < G.length := by rw [← HN.out]; exact hjn
          obtain ⟨b, o, A', c', eA, hbl, cc, _, hI⟩ := zrow_at (lsAt_below HL.out HBW.out) hjG
          obtain ⟨m, hm⟩ : ∃ m, m = (nx G j).length := ⟨_, rfl⟩
          rw [← hm] at cc
          have hmb : m ≤ 1024 := by rw [hm]; exact len_nx HGS.out
          have HI := Lib.hid hI
          have HMM := Lib.hid hm
          subst eA
          have cj := (lies_cell HLW.out j).trans (nRow_at (by rw [HIN.out.len]; exact hjG))
          have HJ := Lib.hid hjG
          obtain ⟨fj, hfj⟩ : ∃ fj, fj = f.getD j 0 := ⟨_, rfl⟩
          rw [← hfj] at cj
          have HFJ := Lib.hid hfj
          clear hm hI hbl hjG hfj
          go_upto_region 26 with (fail)
          go_loopw [12] (fun v12 wq => ∃ k q : Nat, k ≤ m ∧ v12 = .int .i64 (k : Int) ∧ wq = wr.drewN q) (fun v12 _ => m - (intOf v12).toNat)
          case atStart => exact ⟨0, q, Nat.zero_le _, rfl, rfl⟩
          case round =>
            obtain ⟨k, q2, hk, rfl, rfl⟩ := hrel
            by_cases hkm : k < m
            · have lk : (k : Int) < (m : Int) := by omega
              have hkl : k < (nx G j).length := by rw [← HMM.out]; exact hkm
              obtain ⟨b', o', eA', hbl', cc'⟩ := HI.out k (by rw [zs_len]; exact hkl)
              rw [show (zs (nx G j))[k]'(by rw [zs_len]; exact hkl) = (((nx G j)[k] : Nat) : Int) by simp [zs]] at cc'
              unfold iV at cc'
              have hvG : (nx G j)[k] < G.length := (nx_lt HG.out (List.getElem_mem hkl)).1
              have cv := (lies_cell HLW.out (nx G j)[k]).trans (nRow_at (by rw [HIN.out.len]; exact hvG))
              have hle := atI_end HW.out (by rw [← HK.out]; exact HIN.out) HJ.out (List.getElem_mem hkl) hvG
              rw [← HN.out] at hvG
              obtain ⟨v, hv⟩ : ∃ v, v = (nx G j)[k] := ⟨_, rfl⟩
              rw [← hv] at cc' hvG cv hle
              rw [← HFJ.out] at hle
              obtain ⟨fv, hfv⟩ : ∃ fv, fv = f.getD v 0 := ⟨_, rfl⟩
              rw [← hfv] at cv hle
              have vi : (v : Int) < (n : Int) := by omega
              have ngt : ¬ (fj : Int) < (fv : Int) := by omega
              subst eA'
              clear hv hfv hle hbl'
              go_upto_region 28 with (fail)
              go_quiet (fail)
              go_wp2
              go_roundw
              case rel => exact ⟨k + 1, _, by omega, by go_num, rfl⟩
              case measure => first | (simp [intOf]; done) | (simp [intOf]; omega)
            · obtain rfl : k = m := by omega
              have lk : ¬ (k : Int) < (k : Int) := by omega
              go_wp2
              go_roundw
              case rel => exact ⟨j + 1, q2, by omega, by go_num, rfl⟩
              case measure => first | (simp [intOf]; done) | (simp [intOf]; omega)
        · obtain rfl : j = n := by omega
          have lj : ¬ (j : Int) < (j : Int) := by omega
          have KP1 := Lib.hid (KP.out (wr.drewN q) (below_drewN HBW.out q))
          have HA2 := Lib.hid (show LsAt (wr.drewN q) A5 (zg L) from HAX.out)
          have HBQ := Lib.hid (below_drewN HBW.out q)
          clear KP
          go_upto_region 30 with (fail)
          generalize wr.drewN q = Z at *
          go_upto_region 32 with (go_at_call 19; (with_reducible refine KP1.out.mono ?_); rintro e w6 ⟨T6, to6, C6, A6, bs, ms, rfl, _, _, hAl⟩; have HAl := Lib.hid hAl; clear hAl)
          have HA6 := Lib.hid (lsAt_below HA2.out HAl.out.low)
          have HB6 := Lib.hid (HBQ.out.trans (HAl.out.low.mono HBQ.out.size))
          clear HAX HA2 HBQ KP1
          rw [← HN.out]
          go_loopw [15] (fun v15 wq => ∃ x q : Nat, x ≤ i ∧ v15 = .int .i64 (x : Int) ∧ wq = w6.drewN q) (fun v15 _ => i - (intOf v15).toNat)
          case atStart => exact ⟨0, 0, Nat.zero_le _, rfl, rfl⟩
          case round =>
            obtain ⟨x, q, hx, rfl, rfl⟩ := hrel
            by_cases hxi : x < i
            · have lx : (x : Int) < (i : Int) := by omega
              have hxL : x < L.length := by rw [← HK.out]; exact hxi
              obtain ⟨b, o, A', c', eA, hbl, cc, _, hI⟩ := zrow_at HA6.out hxL
              obtain ⟨m, hm⟩ : ∃ m, m = (nx L x).length := ⟨_, rfl⟩
              rw [← hm] at cc
              have hmb : m ≤ 80 := by
                have := sum_mem hxL
                rw [HW.out.sm, ← HN.out, ← hm] at this
                omega
              have HI := Lib.hid hI
              have HMM := Lib.hid hm
              subst eA
              clear hm hI hbl
              go_upto_region 35 with (fail)
              go_loopw [16] (fun v16 wq => ∃ k q : Nat, k ≤ m ∧ v16 = .int .i64 (k : Int) ∧ wq = w6.drewN q) (fun v16 _ => m - (intOf v16).toNat)
              case atStart => exact ⟨0, q, Nat.zero_le _, rfl, rfl⟩
              case round =>
                obtain ⟨k, q2, hk, rfl, rfl⟩ := hrel
                by_cases hkm : k < m
                · have lk : (k : Int) < (m : Int) := by omega
                  have hkl : k < (nx L x).length := by rw [← HMM.out]; exact hkm
                  obtain ⟨b', o', eA', hbl', cc'⟩ := HI.out k (by rw [zs_len]; exact hkl)
                  rw [show (zs (nx L x))[k]'(by rw [zs_len]; exact hkl) = (((nx L x)[k] : Nat) : Int) by simp [zs]] at cc'
                  unfold iV at cc'
                  have hvn : (nx L x)[k] < j := by rw [HN.out]; exact HW.out.lt x _ (List.getElem_mem hkl)
                  obtain ⟨gA, bv, mv, eG, cv, rv, hvc⟩ := alM_at HAl.out (k := (nx L x)[k]) (by rw [← HN.out]; exact hvn)
                  rw [← HN.out] at cv
                  have HRV := Lib.hid rv
                  have HVC := Lib.hid hvc
                  have HMK := Lib.hid (List.getElem_mem hkl)
                  have HNE := Lib.hid (fun (k2 : Nat) (h2 : k2 < k) (h3 : k2 < (nx L x).length) => List.pairwise_iff_getElem.1 (HW.out.up x) k2 k h3 hkl h2)
                  obtain ⟨v, hv⟩ : ∃ v, v = (nx L x)[k] := ⟨_, rfl⟩
                  rw [← hv] at cc' hvn cv HRV HMK HNE
                  have vi : (v : Int) < (j : Int) := by omega
                  subst eA'
                  subst eG
                  clear hv hbl' rv hvc
                  go_upto_region 38 with (fail)
                  go_loopw [17] (fun v17 wq => ∃ k2 q : Nat, k2 ≤ k ∧ v17 = .int .i64 (k2 : Int) ∧ wq = w6.drewN q) (fun v17 _ => k - (intOf v17).toNat)
                  case atStart => exact ⟨0, q2, Nat.zero_le _, rfl, rfl⟩
                  case round =>
                    obtain ⟨k2, q3, hk2, rfl, rfl⟩ := hrel
                    by_cases hkk : k2 < k
                    · have lkk : (k2 : Int) < (k : Int) := by omega
                      have lk2 : (k2 : Int) < (m : Int) := by omega
                      have hk2l : k2 < (nx L x).length := by rw [← HMM.out]; omega
                      obtain ⟨b2, o2, e2, _, c2⟩ := HI.out k2 (by rw [zs_len]; exact hk2l)
                      injection e2 with e2
                      injection e2 with e3 e4
                      subst e3 e4
                      rw [show (zs (nx L x))[k2]'(by rw [zs_len]; exact hk2l) = (((nx L x)[k2] : Nat) : Int) by simp [zs]] at c2
                      unfold iV at c2
                      have hun : (nx L x)[k2] < j := by rw [HN.out]; exact HW.out.lt x _ (List.getElem_mem hk2l)
                      obtain ⟨gA2, bu, mu, eG2, cu, ru, huc⟩ := alM_at HAl.out (k := (nx L x)[k2]) (by rw [← HN.out]; exact hun)
                      rw [← HN.out] at cu
                      injection eG2 with eG2
                      injection eG2 with eg
                      subst eg
                      have hne := HNE.out k2 hkk hk2l
                      have hr := (HW.out.rch x v (nx L x)[k2] HMK.out).1 (List.getElem_mem hk2l)
                      have r1 := (HRV.out.2 _).2 (r1_of hr.1 (by omega))
                      have r2 := (ru.2 _).2 (r1_of hr.2 (by omega))
                      have d1 := HVC.out (nx L x)[k2] (by rw [← HN.out]; exact hun)
                      have d2 := huc v (by rw [← HN.out]; exact hvn)
                      rw [r1] at d1
                      rw [r2] at d2
                      obtain ⟨u, hu⟩ : ∃ u, u = (nx L x)[k2] := ⟨_, rfl⟩
                      rw [← hu] at c2 hun cu d1
                      have ui : (u : Int) < (j : Int) := by omega
                      clear hu hne hr r1 r2 ru huc
                      go_upto_region 40 with (fail)
                      go_quiet (fail)
                      go_wp2
                      go_roundw
                      case rel => exact ⟨k2 + 1, _, by omega, by go_num, rfl⟩
                      case measure => first | (simp [intOf]; done) | (simp [intOf]; omega)
                    · obtain rfl : k2 = k := by omega
                      have lkk : ¬ (k2 : Int) < (k2 : Int) := by omega
                      go_wp2
                      go_roundw
                      case rel => exact ⟨k2 + 1, q3, by omega, by go_num, rfl⟩
                      case measure => first | (simp [intOf]; done) | (simp [intOf]; omega)
                · obtain rfl : k = m := by omega
                  have lk : ¬ (k : Int) < (k : Int) := by omega
                  go_wp2
                  go_roundw
                  case rel => exact ⟨x + 1, q2, by omega, by go_num, rfl⟩
                  case measure => first | (simp [intOf]; done) | (simp [intOf]; omega)
            · obtain rfl : x = i := by omega
              have lx : ¬ (x : Int) < (x : Int) := by omega
              go_wp2
              go_ret
              exact ⟨rfl, below_drewN HB6.out q⟩
set_option maxRecDepth 100000 in
theorem cwhole_any (A : Option Addr) (c : Nat) (N : List (List Int)) (w : World) (hL : LsAt w A N) (hn : N.length ≤ 1000000000000000) (hs : ∀ l ∈ N, l.length ≤ 1000000000000000) : Calls Try.prog 4 #[.slice A N.length c] w fun e w' => e = .returned (.bool true) ∧ Below w.heap.size w w' := by
  have KM := Lib.hid (fun (W : World) (hb : Below w.heap.size w W) => much_any A c N W (lsAt_below hL hb) hn hs)
  cases hm : muchP N with
  | true =>
    rw [hm] at KM
    generalize N.length = n at *
    clear hL hs hm
    go_enter Try.func4, Try.ntmps4
    go_wp2_with (first
      | (go_at_call 7; (with_reducible refine (alive_any _).mono ?_); rintro e w1 ⟨rfl, hb⟩; have B1 := Lib.hid hb; clear hb)
      | (go_at_call 8; (with_reducible refine (KM.out _ B1.out).mono ?_); rintro e wm ⟨rfl, rfl⟩))
    go_ret
    exact ⟨rfl, B1.out⟩
  | false =>
    by_cases hc : chk N = 0
    · obtain ⟨G, rfl, hG, h1, h2⟩ := zg_of hc
      rw [zg_len]
      exact cwhole_main A c G hG h2 hm w hL
    · obtain ⟨m1, m2⟩ : N.length ≤ 1000000000 ∧ ∀ l ∈ N, l.length ≤ 1000000000 := by
        unfold muchP at hm
        rw [Bool.or_eq_false_iff] at hm
        have h1 := of_decide_eq_false hm.1
        have h2 := of_decide_eq_false hm.2
        refine ⟨by omega, fun l hl => ?_⟩
        obtain ⟨i, hi, rfl⟩ := List.getElem_of_mem hl
        have h3 := cst_succ hi
        have h4 := cst_mono N (i := i + 1) (j := N.length) (by omega) (Nat.le_refl _)
        omega
      have KC := Lib.hid (fun (W : World) (hb : Below w.heap.size w W) => comps_bad A c N W (lsAt_below hL hb) m1 m2 hc)
      rw [hm] at KM
      have hz : (chk N != 0) = true := by simp [hc]
      generalize chk N = z at *
      generalize N.length = n at *
      clear hL hs hm hc m2
      go_enter Try.func4, Try.ntmps4
      go_wp2_with (first
        | (go_at_call 7; (with_reducible refine (alive_any _).mono ?_); rintro e w1 ⟨rfl, hb⟩; have B1 := Lib.hid hb; clear hb)
        | (go_at_call 8; (with_reducible refine (KM.out _ B1.out).mono ?_); rintro e wm ⟨rfl, rfl⟩)
        | (go_at_call 10; (with_reducible refine (KC.out _ B1.out).mono ?_); rintro e w2 ⟨rfl, hb⟩; have B2 := Lib.hid (B1.out.trans (hb.mono B1.out.size)); clear hb)
        | (go_at_call 15; (with_reducible refine (num_any _ _).mono ?_); rintro e w5 ⟨rfl, rfl⟩))
      go_ret
      exact ⟨rfl, B2.out⟩
end Go.Proofs.Ytfgpaffcfkbjlaa
