/-
What is proved here: the document's own look whether two trees are the same in every field, by a contract.
-/
import Derived.Test.YtdnagkgblmcojaaRft
set_option linter.unusedSimpArgs false
namespace Go.Proofs.Ytdnagkgblmcojaa
open Go.Pth Go.Tre Go.RowKit Go.Word Go.Shelf
attribute [local go_sem] guard_eq guard_ne st_eql st_neq

def exactB (ns : List Nd) (fs : List Fl) (ms : List Nd) (gs : List Fl) : Bool := decide (ns = ms) && decide (fs = gs)
set_option maxRecDepth 100000 in
set_option maxHeartbeats 4000000 in
theorem exact_any (NA FA MA GA : Option Addr) (nc fc mc gc : Nat) (ns ms : List Nd) (fs gs : List Fl) (w : World) (hN : NodesAt w NA ns) (hF : FilesAt w FA fs) (hM : NodesAt w MA ms) (hG : FilesAt w GA gs) (h1 : ns.length ≤ 1000000) (h2 : fs.length ≤ 1000000) :
    Calls Try.prog 19 #[.agg #[.slice NA ns.length nc, .slice FA fs.length fc], .agg #[.slice MA ms.length mc, .slice GA gs.length gc]] w fun e w' => e = .returned (.bool (exactB ns fs ms gs)) ∧ Below w.heap.size w w' := by
  obtain ⟨n, hne⟩ : ∃ n, n = ns.length := ⟨_, rfl⟩
  obtain ⟨m, hme⟩ : ∃ m, m = ms.length := ⟨_, rfl⟩
  obtain ⟨f, hfe⟩ : ∃ f, f = fs.length := ⟨_, rfl⟩
  obtain ⟨g, hge⟩ : ∃ g, g = gs.length := ⟨_, rfl⟩
  rw [← hne] at h1
  rw [← hfe] at h2
  rw [← hne, ← hme, ← hfe, ← hge]
  have L1 := lies_alloc (lies_new w 25 #[.slice NA n nc, .slice FA f fc]) (.cells #[.slice MA m mc, .slice GA g gc] 25)
  have L2 := lies_new (w.alloc (.cells #[.slice NA n nc, .slice FA f fc] 25)) 25 #[.slice MA m mc, .slice GA g gc]
  rw [World.size_alloc] at L2
  have hB : Below w.heap.size w ((w.alloc (.cells #[.slice NA n nc, .slice FA f fc] 25)).alloc (.cells #[.slice MA m mc, .slice GA g gc] 25)) := ((Below.refl _ _).alloc (Nat.le_refl _) _).alloc (by simp) _
  have HN := Lib.hid (nodesAt_below hN hB)
  have HM := Lib.hid (nodesAt_below hM hB)
  have HF := Lib.hid (filesAt_below hF hB)
  have HG := Lib.hid (filesAt_below hG hB)
  have NE := Lib.hid hne
  have ME := Lib.hid hme
  have FE := Lib.hid hfe
  have GE := Lib.hid hge
  obtain ⟨r, hr⟩ : ∃ r, r = exactB ns fs ms gs := ⟨_, rfl⟩
  rw [← hr]
  have RE := Lib.hid hr
  have x0 := lies_cell L1 0
  have x1 := lies_cell L1 1
  have y0 := lies_cell L2 0
  have y1 := lies_cell L2 1
  simp only [List.getElem?_toArray, List.getElem?_cons_zero, List.getElem?_cons_succ] at x0 x1 y0 y1
  have HB := Lib.hid hB
  clear L1 L2 hB hN hF hM hG hne hme hfe hge hr
  by_cases hnm : ¬ n = m
  · have hr := Lib.hid (show r = false by
      rw [RE.out]; unfold exactB
      rw [decide_eq_false (fun e : ns = ms => hnm (by rw [NE.out, ME.out, e])), Bool.false_and])
    have l1 : ¬ (n : Int) = (m : Int) := by omega
    go_enter Try.func19, Try.ntmps19
    go_wp2
    go_ret
    rw [hr.out]
    exact ⟨rfl, HB.out⟩
  obtain rfl := Decidable.not_not.1 hnm
  by_cases hfg : ¬ f = g
  · have hr := Lib.hid (show r = false by
      rw [RE.out]; unfold exactB
      rw [decide_eq_false (fun e : fs = gs => hfg (by rw [FE.out, GE.out, e])), Bool.and_false])
    have l1 : ¬ (f : Int) = (g : Int) := by omega
    go_enter Try.func19, Try.ntmps19
    go_wp2
    go_ret
    rw [hr.out]
    exact ⟨rfl, HB.out⟩
  obtain rfl := Decidable.not_not.1 hfg
  clear hnm hfg
  go_enter Try.func19, Try.ntmps19
  go_wp2
  generalize (w.alloc (.cells #[.slice NA n nc, .slice FA f fc] 25)).alloc (.cells #[.slice MA n mc, .slice GA f gc] 25) = X at *
  go_loopw [5] (fun v5 wr => ∃ i : Nat, i ≤ n ∧ v5 = .int .i64 (i : Int) ∧ ns.take i = ms.take i ∧ ∃ k, wr = X.drewN k) (fun v5 _ => n - (intOf v5).toNat)
  case atStart => exact ⟨0, Nat.zero_le _, rfl, by simp, 0, rfl⟩
  case round =>
    obtain ⟨i, hi, rfl, hno, kk, rfl⟩ := hrel
    have NO := Lib.hid hno
    clear hno
    have z0 : (X.drewN kk).cell? ⟨w.heap.size, 0, none⟩ = some (.slice NA n nc) := x0
    have z1 : (X.drewN kk).cell? ⟨w.heap.size, 1, none⟩ = some (.slice FA f fc) := x1
    have z2 : (X.drewN kk).cell? ⟨w.heap.size + 1, 0, none⟩ = some (.slice MA n mc) := y0
    have z3 : (X.drewN kk).cell? ⟨w.heap.size + 1, 1, none⟩ = some (.slice GA f gc) := y1
    by_cases hlt : i < n
    · have li : (i : Int) < (n : Int) := by omega
      have lf : i < ns.length := by have := NE.out; omega
      have lm : i < ms.length := by have := ME.out; omega
      obtain ⟨b, o, eA, hl, d1, d2, d3⟩ := HN.out i lf
      obtain ⟨b', o', eB, hl', f1, f2, f3⟩ := HM.out i lm
      subst eA eB
      have TK := Lib.hid (take_eq ns ms i NO.out lf lm)
      have EQ := Lib.hid (eqNd_iff ns[i] ms[i])
      have RN := Lib.hid (show ns = ms → ns[i] = ms[i] from fun e => by subst e; rfl)
      generalize ns[i] = x at *
      generalize ms[i] = y at *
      obtain ⟨p, fx, md⟩ := x
      obtain ⟨q, gx, k⟩ := y
      have d1 : (X.drewN kk).cell? ⟨b, o + i * 3, none⟩ = some (St p) := d1
      have d2 : (X.drewN kk).cell? ⟨b, o + i * 3 + 1, none⟩ = some (.int .i64 fx) := d2
      have d3 : (X.drewN kk).cell? ⟨b, o + i * 3 + 2, none⟩ = some (.int .i64 md) := d3
      have f1 : (X.drewN kk).cell? ⟨b', o' + i * 3, none⟩ = some (St q) := f1
      have f2 : (X.drewN kk).cell? ⟨b', o' + i * 3 + 1, none⟩ = some (.int .i64 gx) := f2
      have f3 : (X.drewN kk).cell? ⟨b', o' + i * 3 + 2, none⟩ = some (.int .i64 k) := f3
      have hE := fun W => neq_node p q fx gx md k W
      have hG := fun x y W => guard_node .neq x y #[St p, .int .i64 fx, .int .i64 md] #[St q, .int .i64 gx, .int .i64 k] W
      have EQ2 : Hid (eqNd p q fx gx md k = decide ((⟨p, fx, md⟩ : Nd) = ⟨q, gx, k⟩)) := EQ
      generalize eqNd p q fx gx md k = s at hE EQ2
      obtain ⟨Y, hY⟩ : ∃ Y, Y = X.drewN kk := ⟨_, rfl⟩
      rw [← hY] at z0 z1 z2 z3 d1 d2 d3 f1 f2 f3 ⊢
      have HY := Lib.hid hY
      clear hY
      go_wp2
      go_quiet (fail)
      go_wp2
      · rename_i hd
        have hs : s = false := by simpa using hd
        go_ret
        have hr : r = false := by
          rw [RE.out]
          unfold exactB
          rw [decide_eq_false (fun e => ?_), Bool.false_and]
          have h1 := EQ2.out
          rw [hs, decide_eq_true (RN.out e)] at h1
          cases h1
        rw [hr]
        exact ⟨rfl, by rw [HY.out]; exact below_drewN (below_drewN HB.out _) _⟩
      · rename_i hd
        have hs : s = true := by simpa using hd
        have hxy : (⟨p, fx, md⟩ : Nd) = ⟨q, gx, k⟩ := of_decide_eq_true (by rw [← EQ2.out]; exact hs)
        exact ⟨⟨i + 1, by omega, by go_num, TK.out.2 hxy, _, by rw [HY.out, World.drewN_drewN]⟩, by first | (simp [intOf]; done) | (simp [intOf]; omega)⟩
    · have li : ¬ (i : Int) < (n : Int) := by omega
      have EN := Lib.hid (show ns = ms by
        have h1 := NO.out
        rwa [List.take_of_length_le (by have := NE.out; omega), List.take_of_length_le (by have := ME.out; omega)] at h1)
      clear z0 z1 z2 z3
      go_wp2
      go_loopw [6] (fun v6 wr => ∃ j : Nat, j ≤ f ∧ v6 = .int .i64 (j : Int) ∧ fs.take j = gs.take j ∧ ∃ k, wr = X.drewN k) (fun v6 _ => f - (intOf v6).toNat)
      case atStart => exact ⟨0, Nat.zero_le _, rfl, by simp, kk, rfl⟩
      case round =>
        obtain ⟨j, hj, rfl, hno, k2, rfl⟩ := hrel
        have NO2 := Lib.hid hno
        clear hno
        have z0 : (X.drewN k2).cell? ⟨w.heap.size, 0, none⟩ = some (.slice NA n nc) := x0
        have z1 : (X.drewN k2).cell? ⟨w.heap.size, 1, none⟩ = some (.slice FA f fc) := x1
        have z2 : (X.drewN k2).cell? ⟨w.heap.size + 1, 0, none⟩ = some (.slice MA n mc) := y0
        have z3 : (X.drewN k2).cell? ⟨w.heap.size + 1, 1, none⟩ = some (.slice GA f gc) := y1
        by_cases hlt2 : j < f
        · have li2 : (j : Int) < (f : Int) := by omega
          have lf : j < fs.length := by have := FE.out; omega
          have lm : j < gs.length := by have := GE.out; omega
          obtain ⟨b, o, DA, dc, eA, hl, d1, d2, d3⟩ := HF.out j lf
          obtain ⟨b', o', DB, dd, eB, hl', f1, f2, f3⟩ := HG.out j lm
          subst eA eB
          have TK := Lib.hid (take_eq fs gs j NO2.out lf lm)
          have RN := Lib.hid (show fs = gs → fs[j] = gs[j] from fun e => by subst e; rfl)
          generalize fs[j] = x at *
          generalize gs[j] = y at *
          obtain ⟨md, a⟩ := x
          obtain ⟨k, c⟩ := y
          have d1 : (X.drewN k2).cell? ⟨b, o + j * 2, none⟩ = some (.int .i64 md) := d1
          have d2 : (X.drewN k2).cell? ⟨b, o + j * 2 + 1, none⟩ = some (.slice DA a.length dc) := d2
          have f1 : (X.drewN k2).cell? ⟨b', o' + j * 2, none⟩ = some (.int .i64 k) := f1
          have f2 : (X.drewN k2).cell? ⟨b', o' + j * 2 + 1, none⟩ = some (.slice DB c.length dd) := f2
          have t1 : ∀ q, (convert 42 9 (.slice DA a.length dc)).run Try.prog ((X.drewN k2).drewN q) = .ok (St a) ((X.drewN k2).drewN q) := fun q => run_text48 DA a dc ((X.drewN k2).drewN q) d3
          have t2 : ∀ q, (convert 42 9 (.slice DB c.length dd)).run Try.prog ((X.drewN k2).drewN q) = .ok (St c) ((X.drewN k2).drewN q) := fun q => run_text48 DB c dd ((X.drewN k2).drewN q) f3
          have RN2 : Hid (fs = gs → (⟨md, a⟩ : Fl) = ⟨k, c⟩) := RN
          have TK2 : Hid (fs.take (j + 1) = gs.take (j + 1) ↔ (⟨md, a⟩ : Fl) = ⟨k, c⟩) := TK
          clear d3 f3 RN TK
          generalize a.length = na at *
          generalize c.length = nb at *
          obtain ⟨Y, hY⟩ : ∃ Y, Y = X.drewN k2 := ⟨_, rfl⟩
          rw [← hY] at z0 z1 z2 z3 d1 d2 f1 f2 t1 t2 ⊢
          have HY := Lib.hid hY
          have bad : (⟨md, a⟩ : Fl) ≠ ⟨k, c⟩ → r = false := fun h => by
            rw [RE.out]
            unfold exactB
            rw [decide_eq_false (fun e => h (RN2.out e)), Bool.and_false]
          have BAD := Lib.hid bad
          clear hY bad
          by_cases hm : md = k
          · by_cases hac : a = c
            · have ho : other a c = false := decide_eq_false (by simp [hac])
              have hxy : (⟨md, a⟩ : Fl) = ⟨k, c⟩ := by rw [hm, hac]
              clear hac
              go_wp2
              go_quiet (fail)
              go_wp2
              exact ⟨⟨j + 1, by omega, by go_num, TK2.out.2 hxy, _, by rw [HY.out, World.drewN_drewN]⟩, by first | (simp [intOf]; done) | (simp [intOf]; omega)⟩
            · have ho : other a c = true := decide_eq_true hac
              have HR := Lib.hid (BAD.out (fun e => hac (by injection e)))
              clear hac
              go_wp2
              go_quiet (fail)
              go_wp2
              go_ret
              rw [HR.out]
              exact ⟨rfl, by rw [HY.out]; exact below_drewN (below_drewN HB.out _) _⟩
          · have HR := Lib.hid (BAD.out (fun e => hm (by injection e)))
            go_wp2
            go_quiet (fail)
            go_wp2
            go_ret
            rw [HR.out]
            exact ⟨rfl, by rw [HY.out]; exact below_drewN (below_drewN HB.out _) _⟩
        · have li2 : ¬ (j : Int) < (f : Int) := by omega
          have EF := Lib.hid (show fs = gs by
            have h1 := NO2.out
            rwa [List.take_of_length_le (by have := FE.out; omega), List.take_of_length_le (by have := GE.out; omega)] at h1)
          have HR := Lib.hid (show r = true by rw [RE.out]; unfold exactB; rw [decide_eq_true EN.out, decide_eq_true EF.out]; rfl)
          go_wp2
          go_ret
          rw [HR.out]
          exact ⟨rfl, below_drewN HB.out _⟩
end Go.Proofs.Ytdnagkgblmcojaa
