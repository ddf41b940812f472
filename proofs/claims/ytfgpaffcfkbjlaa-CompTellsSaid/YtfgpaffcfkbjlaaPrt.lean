/-
What is proved here: the document's own parts: of each number its component's least number, and what each reaches, by a contract.
-/
import Derived.Test.YtfgpaffcfkbjlaaPts
import Derived.Test.YtfgpaffcfkbjlaaRec
import Derived.Deep.AppendLies
set_option linter.unusedSimpArgs false
set_option linter.unusedVariables false
namespace Go.Proofs.Ytfgpaffcfkbjlaa
open Go.Cmp Go.RowKit
theorem marks_info : (Try.prog.info? 37).map (fun i => (i.zero, i.size, i.bytes)) = some (some (.slice none 0 0), 1, 24) := by kernel_rfl
set_option maxRecDepth 100000 in
/-- one row of marks more behind a row of such of one's own -/
theorem wpList_app_marks {w : World} {ops : Array Oper} {rest : List Oper} {o : Oper} {a : Act} {Q : Exit → Act → World → Prop} (hgd : o.guard = none) (s x : Operand)
    (ho : o.op = .call { callee := .builtin .append, args := #[s, x], argTypes := #[34, 34] }) (B g : Nat) (u v : Value) (n : Nat) (xs : List Value) (hs : a.eval s = v) (hown : w.ownsRow B 37 1 v n xs) (hx : a.eval x = .slice (some ⟨g, 0, none⟩) 1 1) (hg : Lies w g 37 #[u]) (hu : u.oneCell' = true)
    (hb : n ≤ 1000000) (hbase : B ≤ w.heap.size)
    (h : ∀ G cap w', w'.ownsRow B 37 1 (.slice (some ⟨G, 0, none⟩) (n + 1) cap) (n + 1) (xs ++ [u]) → w.grownBy w' v.ownBlock → wpList Try.prog ops Q rest (a.put o.dst (.slice (some ⟨G, 0, none⟩) (n + 1) cap)) w') : wpList Try.prog ops Q (o :: rest) a w := by
  obtain ⟨i0, hi, hz0, hz1, hz2⟩ := info_parts marks_info
  refine wpList_append_lies w hgd s x 34 ho B 37 i0 (.slice none 0 0) 1 24 Try.underlying34 hi hz0 hz1 hz2 rfl (by decide) v n xs hs hown ⟨g, 0, none⟩ 1 1 [u] hx (by simp) (fun j y hj => by
    match j, hj with
    | 0, hj => injection hj with hj; subst hj; exact lies_cell hg 0
    | j + 1, hj => simp at hj) (fun y hy => by simp at hy; subst hy; exact hu) (by decide) (by unfold maxLen; omega) (by omega) hbase w.heap.size rfl (fun G cap w' h1 h2 h3 _ => h G cap w' h1 h2)
def mkS (n b : Nat) : Value := .slice (some ⟨b, 0, none⟩) n n
/-- what each of the first i numbers reaches, in memory -/
structure AlM (w : World) (G : Gr) (i : Nat) (v4 : Value) (bs : List Nat) (ms : List (List Bool)) (W : World) : Prop where
  own : W.ownsRow w.heap.size 37 1 v4 i (bs.map (mkS G.length))
  len : bs.length = i
  lms : ms.length = i
  row : ∀ k, k < i → Lies W (bs.getD k 0) 4 (bRow (ms.getD k [])) ∧ Rea G k (ms.getD k [])
  low : Below w.heap.size w W
theorem alM_0 (w : World) (G : Gr) : AlM w G 0 (.slice none 0 0) [] [] w := ⟨World.ownsRow_nil _ _ _ _, rfl, rfl, (fun k hk => absurd hk (Nat.not_lt_zero k)), Below.refl _ _⟩
theorem alM_snoc {w W w1 w2 : World} {G : Gr} {i : Nat} {v4 v' : Value} {bs : List Nat} {ms : List (List Bool)} (h : AlM w G i v4 bs ms W) {m : List Bool} (hb : Below W.heap.size W w1) (hm : Lies w1 W.heap.size 4 (bRow m)) (hr : Rea G i m) {o : Obj} (hg : (w1.alloc o).grownBy w2 v4.ownBlock)
    (ho : w2.ownsRow w.heap.size 37 1 v' (i + 1) (bs.map (mkS G.length) ++ [mkS G.length W.heap.size])) : AlM w G (i + 1) v' (bs ++ [W.heap.size]) (ms ++ [m]) w2 := by
  have hB : But (fun k => some k = v4.ownBlock) w1 w2 := ((But.refl _ w1).alloc o).trans (But.grown hg)
  have hP : ∀ k, some k = v4.ownBlock → w.heap.size ≤ k ∧ k < W.heap.size := fun k hk => ⟨(own_heap h.own k hk.symm).1, (own_heap h.own k hk.symm).2.1⟩
  have hne : ∀ k cs, Lies W k 4 cs → ¬ some k = v4.ownBlock := fun k cs hl e => own_ne h.own hl (by decide) e.symm
  have hls := lies_lt hm
  refine ⟨by rw [List.map_append]; exact ho, by simp [h.len], by simp [h.lms], fun k hk => ?_, (h.low.trans (hb.mono h.low.size)).trans (hB.below (by have := h.low.size; have := hb.size; omega) (fun k hk => (hP k hk).1))⟩
  rw [getD_app, getD_app, h.len, h.lms]
  by_cases hki : k < i
  · rw [if_pos hki, if_pos hki]
    obtain ⟨h1, h2⟩ := h.row k hki
    exact ⟨hB.lies (lies_below h1 hb (lies_lt h1)) (hne _ _ h1), h2⟩
  · obtain rfl : k = i := by omega
    rw [if_neg hki, if_neg hki, if_pos rfl, if_pos rfl]
    exact ⟨hB.lies hm (fun e => by have := (hP _ e).2; omega), hr⟩
def nRow (l : List Nat) : Array Value := ((zs l).map iV).toArray
theorem nRow_at {l : List Nat} {v : Nat} (h : v < l.length) : (nRow l)[v]? = some (.int .i64 (l.getD v 0 : Int)) := by
  unfold nRow zs
  rw [List.getElem?_toArray, List.getElem?_map, List.getElem?_map, List.getElem?_eq_getElem h, List.getD_eq_getElem?_getD, List.getElem?_eq_getElem h]
  rfl
theorem nRow_set (l : List Nat) (v x : Nat) : (nRow l).setIfInBounds v (.int .i64 (x : Int)) = nRow (l.set v x) := by
  unfold nRow zs
  rw [List.setIfInBounds_toArray, List.map_set, List.map_set]
  rfl
theorem nRow_rep (n : Nat) : Array.replicate n (.int .i64 0) = nRow (List.replicate n 0) := by
  rw [← List.toArray_replicate]
  simp [nRow, zs, iV]
/-- the least numbers of the first i, in block T -/
structure ToM (X : World) (G : Gr) (T i : Nat) (to' : List Nat) (W : World) : Prop where
  lies : Lies W T 3 (nRow to')
  len : to'.length = G.length
  lst : ∀ j, j < i → Lst G j (to'.getD j 0)
  but : But (· = T) X W
theorem toM_set {X W : World} {G : Gr} {T i x : Nat} {to' : List Nat} (h : ToM X G T i to' W) (hi : i < G.length) (hx : Lst G i x) : ToM X G T (i + 1) (to'.set i x) (W.setCell ⟨T, i, none⟩ (.int .i64 (x : Int))) := by
  refine ⟨by have := lies_set h.lies i (.int .i64 (x : Int)); rwa [nRow_set] at this, by rw [List.length_set]; exact h.len, fun j hj => ?_, h.but.setCell (p := ⟨T, i, none⟩) (fun _ => rfl) _⟩
  rw [getD_setV]
  by_cases e : i = j
  · subst e; rw [if_pos ⟨rfl, by rw [h.len]; exact hi⟩]; exact hx
  · rw [if_neg (fun y => e y.1)]; exact h.lst j (by omega)
theorem toM_put {X W : World} {G : Gr} {T i : Nat} {to' : List Nat} (h : ToM X G T i to' W) (hi : i < G.length) (x : Nat) : ToM X G T i (to'.set i x) (W.setCell ⟨T, i, none⟩ (.int .i64 (x : Int))) := by
  refine ⟨by have := lies_set h.lies i (.int .i64 (x : Int)); rwa [nRow_set] at this, by rw [List.length_set]; exact h.len, fun j hj => ?_, h.but.setCell (p := ⟨T, i, none⟩) (fun _ => rfl) _⟩
  rw [getD_setV, if_neg (fun y => by omega)]
  exact h.lst j hj
theorem toM_up {X W : World} {G : Gr} {T i : Nat} {to' : List Nat} (h : ToM X G T i to' W) (hx : Lst G i (to'.getD i 0)) : ToM X G T (i + 1) to' W :=
  ⟨h.lies, h.len, fun j hj => by
    by_cases e : j = i
    · rw [e]; exact hx
    · exact h.lst j (by omega), h.but⟩
/-- what Parts tells -/
def PtsE (G : Gr) (w : World) (e : Ending) (w' : World) : Prop := ∃ (T : Nat) (to' : List Nat) (C : Nat) (A : Option Addr) (bs : List Nat) (ms : List (List Bool)), e = .returned (.tuple #[.slice (some ⟨T, 0, none⟩) G.length G.length, .slice A G.length C]) ∧ Tos G to' ∧ Lies w' T 3 (nRow to') ∧ AlM w G G.length (.slice A G.length C) bs ms w'
theorem alM_but {w W W' : World} {G : Gr} {i T : Nat} {v4 : Value} {bs : List Nat} {ms : List (List Bool)} (h : AlM w G i v4 bs ms W) (hT : w.heap.size ≤ T) {cs : Array Value} (hl : Lies W T 3 cs) (hb : But (· = T) W W') : AlM w G i v4 bs ms W' :=
  ⟨own_but h.own hb (fun k hk e => by subst e; exact own_ne h.own hl (by decide) hk), h.len, h.lms, fun k hk => ⟨hb.lies (h.row k hk).1 (fun e => by
    have := (h.row k hk).1
    rw [e] at this
    unfold Lies at hl this
    rw [hl] at this
    injection this with this
    injection this with _ t _
    cases t), (h.row k hk).2⟩, h.low.trans (hb.below h.low.size (fun k hk => by omega))⟩
theorem alM_alloc {w W : World} {G : Gr} {i : Nat} {v4 : Value} {bs : List Nat} {ms : List (List Bool)} (h : AlM w G i v4 bs ms W) (o : Obj) : AlM w G i v4 bs ms (W.alloc o) :=
  ⟨h.own.alloc o, h.len, h.lms, fun k hk => ⟨lies_alloc (h.row k hk).1 o, (h.row k hk).2⟩, h.low.alloc h.low.size _⟩
/-- the cells of what is reached -/
theorem alM_at {w W : World} {G : Gr} {i : Nat} {A : Option Addr} {C : Nat} {bs : List Nat} {ms : List (List Bool)} (h : AlM w G i (.slice A i C) bs ms W) {k : Nat} (hk : k < i) : ∃ g b m, A = some ⟨g, 0, none⟩ ∧ W.cell? ⟨g, k, none⟩ = some (.slice (some ⟨b, 0, none⟩) G.length G.length) ∧ Rea G k m ∧ ∀ j, j < G.length → W.cell? ⟨b, j, none⟩ = some (.bool (m.getD j false)) := by
  obtain ⟨g, cap, hv, hBg, hgl⟩ := World.ownsRow.form h.own (by omega)
  injection hv with e1 e2 e3
  subst e1 e3
  obtain ⟨h1, h2⟩ := h.row k hk
  refine ⟨g, bs.getD k 0, ms.getD k [], rfl, ?_, h2, fun j hj => ?_⟩
  · rw [h.own.cellAt k (by omega), List.getElem?_map, List.getElem?_eq_getElem (by rw [h.len]; exact hk), List.getD_eq_getElem?_getD, List.getElem?_eq_getElem (by rw [h.len]; exact hk)]
    rfl
  · rw [lies_cell h1, bRow_at (by rw [h2.1]; exact hj)]
set_option maxRecDepth 100000 in
set_option maxHeartbeats 4000000 in
theorem parts_any (LA : Option Addr) (lc : Nat) (G : Gr) (hG : Ok G) (hn : G.length ≤ 1024) (hg : ∀ l ∈ G, l.length ≤ 1024) (w : World) (hL : LsAt w LA (zg G)) : Calls Try.prog 19 #[.slice LA G.length lc] w (PtsE G w) := by
  have KR := Lib.hid (fun (f : Nat) (hf : f < G.length) (W : World) (hb : Below w.heap.size w W) => reach_any LA lc G hG hn hg f hf W (lsAt_below hL hb))
  obtain ⟨n, hnn⟩ : ∃ n, n = G.length := ⟨_, rfl⟩
  have HN := Lib.hid hnn
  have mk1 := fun W => mk_ints W n (by omega)
  have M0 := Lib.hid (alM_0 w G)
  rw [← hnn] at KR hn ⊢
  clear hL hG hg hnn
  go_enter Try.func19, Try.ntmps19
  go_upto_region 3 with (fail)
  go_loopw [4, 5] (fun v4 v5 wr => ∃ (i : Nat) (bs : List Nat) (ms : List (List Bool)), i ≤ n ∧ v5 = .int .i64 (i : Int) ∧ AlM w G i v4 bs ms wr) (fun _ v5 _ => n - (intOf v5).toNat)
  case atStart => exact ⟨0, [], [], Nat.zero_le _, rfl, M0.out⟩
  case round =>
    obtain ⟨i, bs, ms, hi, rfl, hM⟩ := hrel
    have HM := Lib.hid hM
    obtain ⟨A4, C4, h4⟩ := own_slice hM.own
    subst h4
    clear hM
    by_cases hlt : i < n
    · have li : (i : Int) < (n : Int) := by omega
      have KR1 := Lib.hid (KR.out i hlt wr HM.out.low)
      have hn6 : i ≤ 1000000 := by omega
      go_wp2_with (first
        | (go_at_call 27; (with_reducible refine KR1.out.mono ?_); rintro e w1 ⟨m, rfl, hr, hm, hb⟩; have A1 := Lib.hid ((own_but HM.out.own (But.of_below (P := fun _ => False) hb) (fun _ _ => id)).alloc (.cells #[.slice (some ⟨wr.heap.size, 0, none⟩) n n] 37)); have LN := Lib.hid (lies_new w1 37 #[.slice (some ⟨wr.heap.size, 0, none⟩) n n]); have SZ := Lib.hid (show w.heap.size ≤ (w1.alloc (.cells #[.slice (some ⟨wr.heap.size, 0, none⟩) n n] 37)).heap.size by have := HM.out.low.size; have := hb.size; simp; omega); have M2 := Lib.hid (fun (v' : Value) (w2 : World) (hg : (w1.alloc (.cells #[.slice (some ⟨wr.heap.size, 0, none⟩) n n] 37)).grownBy w2 (Value.slice A4 i C4).ownBlock) (ho : w2.ownsRow w.heap.size 37 1 v' (i + 1) (bs.map (mkS G.length) ++ [mkS G.length wr.heap.size])) => alM_snoc HM.out hb hm hr hg ho); clear hr hm hb)
        | (refine wpList_app_marks rfl _ _ rfl w.heap.size w1.heap.size (.slice (some ⟨wr.heap.size, 0, none⟩) n n) (.slice A4 i C4) i (bs.map (mkS G.length)) rfl A1.out rfl LN.out rfl hn6 SZ.out ?_; intro GB GC w3 g1 g2; have M4 := Lib.hid (M2.out _ w3 g2 (by rw [show mkS G.length wr.heap.size = .slice (some ⟨wr.heap.size, 0, none⟩) n n by rw [HN.out]; rfl]; exact g1)); clear g1 g2))
      go_roundw
      case rel => exact ⟨i + 1, _, _, by omega, by go_num, M4.out⟩
      case measure => first | (simp [intOf]; done) | (simp [intOf]; omega)
    · obtain rfl : i = n := by omega
      have li : ¬ (i : Int) < (i : Int) := by omega
      go_upto_region 7 with (fail)
      generalize hX : wr.alloc (.cells (Array.replicate i (.int .i64 0)) 3) = X at *
      have HA := Lib.hid (show AlM w G i (.slice A4 i C4) bs ms X by rw [← hX]; exact alM_alloc HM.out _)
      have HT0 := Lib.hid (show ToM X G wr.heap.size 0 (List.replicate i 0) X by
        refine ⟨?_, by rw [List.length_replicate]; exact HN.out, (fun j hj => absurd hj (Nat.not_lt_zero j)), But.refl _ _⟩
        rw [← hX, nRow_rep]
        exact lies_new _ _ _)
      have HTW := Lib.hid (show w.heap.size ≤ wr.heap.size from HM.out.low.size)
      clear hX mk1
      generalize wr.heap.size = T at *
      go_upto_region 8 with (fail)
      go_loopw [7] (fun v7 wq => ∃ (j : Nat) (to' : List Nat), j ≤ i ∧ v7 = .int .i64 (j : Int) ∧ ToM X G T j to' wq) (fun v7 _ => i - (intOf v7).toNat)
      case atStart => exact ⟨0, _, Nat.zero_le _, rfl, HT0.out⟩
      case round =>
        obtain ⟨j, to', hj, rfl, hT⟩ := hrel
        have HT := Lib.hid hT
        clear hT
        by_cases hjl : j < i
        · have lj : (j : Int) < (i : Int) := by omega
          have hjG : j < G.length := by rw [← HN.out]; exact hjl
          have c1 := (lies_cell HT.out.lies j).trans (nRow_at (by rw [HT.out.len]; exact hjG))
          have f1 := lies_free HT.out.lies j
          go_upto_region 11 with (fail)
          generalize hY : wr.setCell ⟨T, j, none⟩ (.int .i64 (j : Int)) = Y at *
          have HY := Lib.hid (show ToM X G T j (to'.set j j) Y by rw [← hY]; exact toM_put HT.out hjG j)
          have AY := Lib.hid (alM_but HA.out HTW.out HT0.out.lies HY.out.but)
          obtain ⟨gA, bj, mj, eA, cA, rj, hjc⟩ := alM_at AY.out hjl
          have RJ := Lib.hid rj
          have HJC := Lib.hid hjc
          subst eA
          clear hY c1 f1 rj hjc
          go_upto_region 12 with (fail)
          go_loopw [8] (fun v8 wq => ∃ k : Nat, k ≤ j ∧ v8 = .int .i64 (k : Int) ∧ wq = Y ∧ Hid (∀ q, q < k → ¬ (R1 G j q ∧ R1 G q j))) (fun v8 _ => j - (intOf v8).toNat)
          case atStart => exact ⟨0, Nat.zero_le _, rfl, rfl, fun q hq => absurd hq (Nat.not_lt_zero q)⟩
          case round =>
            obtain ⟨k, hk, rfl, rfl, hno⟩ := hrel
            by_cases hkj : k < j
            · have lk : (k : Int) < (j : Int) := by omega
              have lki : (k : Int) < (i : Int) := by omega
              have hki : k < i := by omega
              obtain ⟨gA2, bk, mk', eA2, cA2, rk, hkc⟩ := alM_at AY.out hki
              injection eA2 with eA2
              injection eA2 with eg
              subst eg
              have c2 := HJC.out k (by rw [← HN.out]; exact hki)
              have c3 := hkc j (by rw [← HN.out]; exact hjl)
              have RK := Lib.hid rk
              rw [← HN.out] at cA cA2
              have NX := Lib.hid (fun (hh : ¬ (R1 G j k ∧ R1 G k j)) => show Hid (∀ q, q < k + 1 → ¬ (R1 G j q ∧ R1 G q j)) from fun q hq => by
                by_cases e : q = k
                · rw [e]; exact hh
                · exact hno.out q (by omega))
              have HNO := Lib.hid hno
              clear hno rk hkc
              cases h1 : mj.getD k false with
              | false =>
                have H1 := Lib.hid h1
                rw [h1] at c2
                clear h1 c3
                go_wp2
                go_roundw
                case rel => exact ⟨k + 1, by omega, by go_num, (by first | rfl | trivial), NX.out (fun hh => by have := (RJ.out.2 k).2 hh.1; rw [H1.out] at this; cases this)⟩
                case measure => first | (simp [intOf]; done) | (simp [intOf]; omega)
              | true =>
                cases h2 : mk'.getD j false with
                | false =>
                  have H2 := Lib.hid h2
                  rw [h1] at c2
                  rw [h2] at c3
                  clear h1 h2
                  go_wp2
                  go_roundw
                  case rel => exact ⟨k + 1, by omega, by go_num, (by first | rfl | trivial), NX.out (fun hh => by have := (RK.out.2 j).2 hh.2; rw [H2.out] at this; cases this)⟩
                  case measure => first | (simp [intOf]; done) | (simp [intOf]; omega)
                | true =>
                  have HL2 := Lib.hid (lst_at hkj ((RJ.out.2 k).1 h1) ((RK.out.2 j).1 h2) HNO.out.out)
                  rw [h1] at c2
                  rw [h2] at c3
                  have c1 := (lies_cell HY.out.lies j).trans (nRow_at (by rw [HY.out.len]; exact hjG))
                  have f1 := lies_free HY.out.lies j
                  have NT := Lib.hid (toM_set HY.out hjG HL2.out)
                  clear h1 h2
                  go_wp2
                  go_roundw
                  case rel => exact ⟨j + 1, _, by omega, by go_num, NT.out⟩
                  case measure => first | (simp [intOf]; done) | (simp [intOf]; omega)
            · obtain rfl : k = j := by omega
              have lk : ¬ (k : Int) < (k : Int) := by omega
              have NT := Lib.hid (toM_up HY.out (by rw [getD_setV, if_pos ⟨rfl, by rw [HT.out.len]; exact hjG⟩]; exact lst_self hno.out))
              go_wp2
              go_roundw
              case rel => exact ⟨k + 1, _, by omega, by go_num, NT.out⟩
              case measure => first | (simp [intOf]; done) | (simp [intOf]; omega)
        · obtain rfl : j = i := by omega
          have lj : ¬ (j : Int) < (j : Int) := by omega
          go_wp2
          go_ret2
          have hNN := HN.out
          subst hNN
          exact ⟨T, to', C4, A4, bs, ms, rfl, ⟨HT.out.len, HT.out.lst⟩, HT.out.lies, alM_but HA.out HTW.out HT0.out.lies HT.out.but⟩
end Go.Proofs.Ytfgpaffcfkbjlaa
