/-
What is proved here: package tree's Loose, by a contract.
-/
import Derived.Test.YtdnagkgblmcojaaLse
set_option linter.unusedSimpArgs false
namespace Go.Proofs.Ytdnagkgblmcojaa
open Go.Pth Go.Tre Go.RowKit Go.Word
attribute [local go_sem] st_leq

theorem wpList_lookup_eq {P : Program} {w : World} {ops : Array Oper} {rest : List Oper} {o : Oper} {a : Act} {Q : Exit → Act → World → Prop} (hg : o.guard = none) (m x : Operand) (t : TypeId) (hop : o.op = Op.lookup t m x true)
    (mv xv v : Value) (hm : a.eval m = mv) (hx : a.eval x = xv) (hr : (Instr.lookup t mv xv true).run P w = .ok v w) (h : wpList P ops Q rest (a.put o.dst v) w) : wpList P ops Q (o :: rest) a w := by
  refine wpList_plain hg fun K' hK' => ?_
  unfold Oper.wp
  simp [execOp, hop, hm, hx, hr, Result.andThen]
  exact hK' _ _ h
theorem wpList_put_eq {P : Program} {w w' : World} {ops : Array Oper} {rest : List Oper} {o : Oper} {a : Act} {Q : Exit → Act → World → Prop} (hg : o.guard = none) (m x y : Operand) (t : TypeId) (hop : o.op = Op.mapUpdate t m x y)
    (mv xv yv : Value) (hm : a.eval m = mv) (hx : a.eval x = xv) (hy : a.eval y = yv) (hr : (Instr.mapUpdate t mv xv yv).run P w = .ok () w') (h : wpList P ops Q rest (a.put o.dst undef) w') : wpList P ops Q (o :: rest) a w := by
  refine wpList_plain hg fun K' hK' => ?_
  unfold Oper.wp
  simp [execOp, hop, hm, hx, hy, hr, Result.andThen]
  exact hK' _ _ h
theorem setRow_alloc (w : World) (t : TypeId) (c cs : Array Value) : (w.alloc (.cells c t)).setRow w.heap.size cs = w.alloc (.cells cs t) := by
  unfold World.setRow World.alloc
  congr 1
  refine Array.ext_getElem? fun i => ?_
  simp only [Array.getElem?_modify, Array.getElem?_push]
  by_cases h : w.heap.size = i
  · subst h; simp
  · rw [if_neg h]
    by_cases h2 : i = w.heap.size
    · exact absurd h2.symm h
    · simp [h2]
theorem walk_none {D : Bt → Bool} {l : Bt} {k : Int} {x : Nd} {r : List Nd} (h : nodeT D l k x = none) : walkT D l k (x :: r) = none := by unfold walkT; rw [h]
theorem walk_some {D D' : Bt → Bool} {l l' : Bt} {k k' : Int} {x : Nd} {r : List Nd} (h : nodeT D l k x = some (D', l', k')) : walkT D l k (x :: r) = walkT D' l' k' r := by
  conv => lhs; unfold walkT
  rw [h]
section
variable {D : Bt → Bool} {l p : Bt} {k f md : Int}
theorem step_le (h : leB p l = true) : nodeT D l k ⟨p, f, md⟩ = none := by unfold nodeT; rw [if_pos (Or.inl h)]
theorem step_path (h : isPath p = false) : nodeT D l k ⟨p, f, md⟩ = none := by unfold nodeT; rw [if_pos (Or.inr h)]
theorem step_up (h1 : leB p l = false) (h2 : isPath p = true) (h : D (upP p) = false) : nodeT D l k ⟨p, f, md⟩ = none := by unfold nodeT; rw [if_neg (by simp [h1, h2]), if_pos h]
theorem step_dir (h1 : leB p l = false) (h2 : isPath p = true) (h3 : D (upP p) = true) (h4 : f = -1) (h5 : okMode md = true) : nodeT D l k ⟨p, f, md⟩ = some (fun y => y == p || D y, p, k) := by
  unfold nodeT; rw [if_neg (by simp [h1, h2]), if_neg (by simp [h3]), if_pos ⟨h4, h5⟩]
theorem step_name (h1 : leB p l = false) (h2 : isPath p = true) (h3 : D (upP p) = true) (h4 : f ≠ -1) (h5 : nameB ⟨p, f, md⟩ = true) (h6 : f ≤ k) : nodeT D l k ⟨p, f, md⟩ = some (D, p, max k (f + 1)) := by
  unfold nodeT; rw [if_neg (by simp [h1, h2]), if_neg (by simp [h3]), if_neg (fun h => h4 h.1), if_pos ⟨h5, h6⟩]
theorem step_bad (h1 : leB p l = false) (h2 : isPath p = true) (h3 : D (upP p) = true) (h4 : ¬ (f = -1 ∧ okMode md = true)) (h5 : ¬ (nameB ⟨p, f, md⟩ = true ∧ f ≤ k)) : nodeT D l k ⟨p, f, md⟩ = none := by
  unfold nodeT; rw [if_neg (by simp [h1, h2]), if_neg (by simp [h3]), if_neg h4, if_neg h5]
end
theorem upP_len (l : Bt) : (upP l).length ≤ l.length := by
  unfold upP up
  split
  · split
    · simp
    · simp only [List.length_take]; omega
  · simp
/-- what holds at the label: it is not loose -/
def NoL (E : Int) (w : World) (k : Nat) (a : Act) (w' : World) : Prop := k = 0 ∧ E = 30 ∧ Below w.heap.size w w' ∧ ∃ u : Nat → Value, a = { tmps := List.toArray (u 0 :: u 1 :: u 2 :: u 3 :: u 4 :: u 5 :: u 6 :: u 7 :: u 8 :: u 9 :: u 10 :: u 11 :: u 12 :: u 13 :: u 14 :: u 15 :: u 16 :: u 17 :: u 18 :: u 19 :: u 20 :: u 21 :: u 22 :: u 23 :: u 24 :: u 25 :: u 26 :: u 27 :: u 28 :: u 29 :: u 30 :: u 31 :: u 32 :: u 33 :: u 34 :: u 35 :: u 36 :: u 37 :: u 38 :: u 39 :: u 40 :: u 41 :: u 42 :: u 43 :: u 44 :: u 45 :: u 46 :: u 47 :: u 48 :: u 49 :: u 50 :: u 51 :: u 52 :: u 53 :: u 54 :: u 55 :: u 56 :: u 57 :: u 58 :: u 59 :: u 60 :: u 61 :: u 62 :: u 63 :: u 64 :: u 65 :: u 66 :: u 67 :: u 68 :: u 69 :: u 70 :: u 71 :: u 72 :: u 73 :: u 74 :: u 75 :: u 76 :: u 77 :: u 78 :: u 79 :: u 80 :: u 81 :: []), defers := [] }
theorem nol_mk {E : Int} {w w' : World} (a : Act) (h1 : E = 30) (h2 : Below w.heap.size w w') (h : a = { tmps := List.toArray (a.tmps.getD 0 undef :: a.tmps.getD 1 undef :: a.tmps.getD 2 undef :: a.tmps.getD 3 undef :: a.tmps.getD 4 undef :: a.tmps.getD 5 undef :: a.tmps.getD 6 undef :: a.tmps.getD 7 undef :: a.tmps.getD 8 undef :: a.tmps.getD 9 undef :: a.tmps.getD 10 undef :: a.tmps.getD 11 undef :: a.tmps.getD 12 undef :: a.tmps.getD 13 undef :: a.tmps.getD 14 undef :: a.tmps.getD 15 undef :: a.tmps.getD 16 undef :: a.tmps.getD 17 undef :: a.tmps.getD 18 undef :: a.tmps.getD 19 undef :: a.tmps.getD 20 undef :: a.tmps.getD 21 undef :: a.tmps.getD 22 undef :: a.tmps.getD 23 undef :: a.tmps.getD 24 undef :: a.tmps.getD 25 undef :: a.tmps.getD 26 undef :: a.tmps.getD 27 undef :: a.tmps.getD 28 undef :: a.tmps.getD 29 undef :: a.tmps.getD 30 undef :: a.tmps.getD 31 undef :: a.tmps.getD 32 undef :: a.tmps.getD 33 undef :: a.tmps.getD 34 undef :: a.tmps.getD 35 undef :: a.tmps.getD 36 undef :: a.tmps.getD 37 undef :: a.tmps.getD 38 undef :: a.tmps.getD 39 undef :: a.tmps.getD 40 undef :: a.tmps.getD 41 undef :: a.tmps.getD 42 undef :: a.tmps.getD 43 undef :: a.tmps.getD 44 undef :: a.tmps.getD 45 undef :: a.tmps.getD 46 undef :: a.tmps.getD 47 undef :: a.tmps.getD 48 undef :: a.tmps.getD 49 undef :: a.tmps.getD 50 undef :: a.tmps.getD 51 undef :: a.tmps.getD 52 undef :: a.tmps.getD 53 undef :: a.tmps.getD 54 undef :: a.tmps.getD 55 undef :: a.tmps.getD 56 undef :: a.tmps.getD 57 undef :: a.tmps.getD 58 undef :: a.tmps.getD 59 undef :: a.tmps.getD 60 undef :: a.tmps.getD 61 undef :: a.tmps.getD 62 undef :: a.tmps.getD 63 undef :: a.tmps.getD 64 undef :: a.tmps.getD 65 undef :: a.tmps.getD 66 undef :: a.tmps.getD 67 undef :: a.tmps.getD 68 undef :: a.tmps.getD 69 undef :: a.tmps.getD 70 undef :: a.tmps.getD 71 undef :: a.tmps.getD 72 undef :: a.tmps.getD 73 undef :: a.tmps.getD 74 undef :: a.tmps.getD 75 undef :: a.tmps.getD 76 undef :: a.tmps.getD 77 undef :: a.tmps.getD 78 undef :: a.tmps.getD 79 undef :: a.tmps.getD 80 undef :: a.tmps.getD 81 undef :: []), defers := [] }) : NoL E w 0 a w' := ⟨rfl, h1, h2, fun n => a.tmps.getD n undef, h⟩

set_option maxRecDepth 100000 in
set_option maxHeartbeats 8000000 in
theorem loose_any (NA FA : Option Addr) (nc mc : Nat) (ns : List Nd) (fs : List Fl) (w : World) (hN : NodesAt w NA ns) (hF : FilesAt w FA fs) (hp : ∀ x ∈ ns, x.path.length ≤ 100000) :
    Calls Try.prog 22 #[.agg #[.slice NA ns.length nc, .slice FA fs.length mc]] w fun e w' => e = .returned (.int .i64 (looseE ns fs)) ∧ Below w.heap.size w w' := by
  have hmm := @run_makeMap Try.prog
  obtain ⟨n, hn⟩ : ∃ n, n = ns.length := ⟨_, rfl⟩
  obtain ⟨m, hm⟩ : ∃ m, m = fs.length := ⟨_, rfl⟩
  obtain ⟨E, hE⟩ : ∃ E, E = looseE ns fs := ⟨_, rfl⟩
  have L0 := lies_new w 25 #[.slice NA ns.length nc, .slice FA fs.length mc]
  have hb0 : Below w.heap.size w (w.alloc (.cells #[.slice NA ns.length nc, .slice FA fs.length mc] 25)) := (Below.refl _ _).alloc (Nat.le_refl _) _
  have K := Lib.hid (tooGreat_any NA FA ns.length nc mc fs _ (filesAt_below hF hb0))
  rw [← hn, ← hm] at K L0 hb0
  rw [← hn, ← hm, ← hE]
  have c0 : (w.alloc (.cells #[.slice NA n nc, .slice FA m mc] 25)).cell? ⟨w.heap.size, 0, none⟩ = some (.slice NA n nc) := lies_cell L0 0
  have c1 : (w.alloc (.cells #[.slice NA n nc, .slice FA m mc] 25)).cell? ⟨w.heap.size, 1, none⟩ = some (.slice FA m mc) := lies_cell L0 1
  have HN := Lib.hid hN
  have HF := Lib.hid hF
  have HP := Lib.hid hp
  have L0 := Lib.hid L0
  have HB0 := Lib.hid hb0
  have NN := Lib.hid hn
  have MM := Lib.hid hm
  have EE := Lib.hid hE
  clear hN hF hp hb0 hn hm hE
  go_enter Try.func22, Try.ntmps22
  go_wp2
  obtain ⟨W1, hW1⟩ : ∃ W1, W1 = w.alloc (.cells #[.slice NA n nc, .slice FA m mc] 25) := ⟨_, rfl⟩
  rw [← hW1] at c0 c1 L0 HB0 K ⊢
  have Z1 := Lib.hid (show W1.heap.size = w.heap.size + 1 by rw [hW1]; simp)
  clear hW1
  cases ht : tooB n fs with
  | true =>
    rw [ht] at K
    have HE := Lib.hid (show E = 31 by rw [EE.out]; unfold looseE; rw [← NN.out, ht]; rfl)
    clear ht
    refine wp_scope_labels (NoL E w) (fun _ _ _ => 0) ?_ ?_
    · rintro k a wr ⟨rfl, h1, h2, u, rfl⟩
      refine ⟨_, rfl, ?_⟩
      go_wp2
      change bodyPost Try.prog Try.f22 (fun e w' => e = .returned (.int .i64 E) ∧ Below w.heap.size w w') .ret _ _
      go_ret
      exact ⟨by rw [h1]; rfl, h2⟩
    · intro h
      clear h
      go_wp2_with (go_at_call 38; (with_reducible refine K.out.mono ?_); rintro e w2 ⟨rfl, hb⟩; have H2 := Lib.hid (HB0.out.trans (hb.mono HB0.out.size)); clear hb)
      change bodyPost Try.prog Try.f22 (fun e w' => e = .returned (.int .i64 E) ∧ Below w.heap.size w w') .ret _ _
      go_ret
      exact ⟨by rw [HE.out]; rfl, H2.out⟩
  | false =>
    rw [ht] at K
    have hn256 : n ≤ 256 := by
      unfold tooB at ht
      simp at ht
      omega
    have hm256 : m ≤ 256 := by
      unfold tooB at ht
      simp at ht
      have := MM.out
      omega
    obtain ⟨R, hR⟩ : ∃ R, R = walkT root [] 0 ns := ⟨_, rfl⟩
    have HNO := Lib.hid (show R = none → E = 30 from fun h => by rw [EE.out]; unfold looseE; rw [← NN.out, ht]; unfold looseB; rw [← hR, h]; rfl)
    have HYES := Lib.hid (show ∀ k, R = some k → E = if decide (k = m) && !anyWrong fs then 0 else 30 from fun k h => by rw [EE.out]; unfold looseE; rw [← NN.out, ht]; unfold looseB; rw [← hR, h, MM.out]; rfl)
    have HR := Lib.hid hR
    clear ht hR
    refine wp_scope_labels (NoL E w) (fun _ _ _ => 0) ?_ ?_
    · rintro k a wr ⟨rfl, h1, h2, u, rfl⟩
      refine ⟨_, rfl, ?_⟩
      go_wp2
      change bodyPost Try.prog Try.f22 (fun e w' => e = .returned (.int .i64 E) ∧ Below w.heap.size w w') .ret _ _
      go_ret
      exact ⟨by rw [h1]; rfl, h2⟩
    · intro h
      clear h
      go_upto_region 3 with (go_at_call 38; (with_reducible refine K.out.mono ?_); rintro e w2 ⟨rfl, hb⟩; have H2 := Lib.hid hb; clear hb)
      clear c0 c1
      obtain ⟨w3, hr3, hs3, hg3⟩ := set_put (set_made w2) [] (by simp) (by omega)
      have hr3 : (Instr.mapUpdate 61 (.map (some w2.heap.size)) (.string { data := #[] }) (.agg #[])).run Try.prog (w2.alloc (.map #[] 0)) = .ok () w3 := hr3
      have S3 := Lib.hid hs3
      have b23 : Below W1.heap.size W1 w3 := by
        have b2 := (H2.out).alloc H2.out.size (.map #[] 0)
        exact b2.grown hg3 b2.size (fun j hj => by injection hj with hj; rw [← hj]; exact H2.out.size)
      have B3 := Lib.hid b23
      have L3 := Lib.hid (lies_below L0.out b23 (lies_lt L0.out))
      have c0 : w3.cell? ⟨w.heap.size, 0, none⟩ = some (.slice NA n nc) := lies_cell L3.out 0
      have MB := Lib.hid (show W1.heap.size ≤ w2.heap.size from H2.out.size)
      clear hs3 hg3 b23
      go_wp2
      go_loopw [4, 5, 18] (fun v4 v5 v18 wr => ∃ (i : Nat) (D : Bt → Bool) (last : Bt) (k : Int), i ≤ n ∧ v4 = St last ∧ v5 = .int .i64 k ∧ v18 = .int .i64 (i : Int) ∧ (0 ≤ k ∧ k ≤ i) ∧ SetAt wr w2.heap.size (i + 1) D ∧ walkT D last k (ns.drop i) = R ∧ Below W1.heap.size W1 wr) (fun _ _ v18 _ => n - (intOf v18).toNat)
      case atStart => exact ⟨0, root, [], 0, Nat.zero_le _, rfl, rfl, rfl, ⟨by omega, by omega⟩, S3.out, by rw [HR.out]; rfl, B3.out⟩
      case round =>
        obtain ⟨i, D, last, k, hi, rfl, rfl, rfl, ⟨hk0, hki⟩, hset, hs, hb⟩ := hrel
        have HS := Lib.hid hset
        have HB := Lib.hid hb
        have HBW := Lib.hid (HB0.out.trans (hb.mono HB0.out.size))
        clear hset hb c0
        by_cases hlt : i < n
        · have li : (i : Int) < (n : Int) := by omega
          have lf : i < ns.length := by have := NN.out; omega
          obtain ⟨b, o, eA, hl, e1, e2, e3⟩ := HN.out i lf
          rw [List.drop_eq_getElem_cons lf] at hs
          have hpl := HP.out ns[i] (List.getElem_mem _)
          subst eA
          have d1 := (HBW.out.cell (p := ⟨b, o + i * 3, none⟩) hl).trans e1
          have d2 := (HBW.out.cell (p := ⟨b, o + i * 3 + 1, none⟩) hl).trans e2
          have d3 := (HBW.out.cell (p := ⟨b, o + i * 3 + 2, none⟩) hl).trans e3
          clear e1 e2 e3
          generalize ns[i] = x at *
          obtain ⟨p, f, md⟩ := x
          have LM := Lib.hid (show wr.rangeAt b (o + i * 3) [St p, .int .i64 f, .int .i64 md] from fun j v hj => by
            match j, hj with
            | 0, hj => injection hj with hj; subst hj; exact d1
            | 1, hj => injection hj with hj; subst hj; exact d2
            | 2, hj => injection hj with hj; subst hj; exact d3
            | j + 3, hj => simp at hj)
          have HPL := Lib.hid (show p.length ≤ 100000 from hpl)
          have HSS := Lib.hid hs
          clear d1 d2 d3 hpl hs
          have LN := Lib.hid (lies_new wr 41 #[.string { data := #[] }, .int .i64 0, .int .i64 0])
          have ES := Lib.hid (setRow_alloc wr 41 #[.string { data := #[] }, .int .i64 0, .int .i64 0] #[St p, .int .i64 f, .int .i64 md])
          go_upto_region 8 with (first
            | (refine wpList_load_mid rfl 41 _ rfl b (o + i * 3) rfl [St p, .int .i64 f, .int .i64 md] _ LM.out Try.underlying41 rfl (by kernel_rfl) ?_)
            | (refine wpList_store_row rfl 41 _ _ rfl wr.heap.size #[St p, .int .i64 f, .int .i64 md] rfl rfl 41 _ LN.out (by kernel_rfl) rfl (by simp [Value.oneCell', St]) ?_; rw [ES.out]))
          obtain ⟨wx, hwx⟩ : ∃ wx, wx = wr.alloc (.cells #[St p, .int .i64 f, .int .i64 md] 41) := ⟨_, rfl⟩
          rw [← hwx]
          have Lx := Lib.hid (show Lies wx wr.heap.size 41 #[St p, .int .i64 f, .int .i64 md] by rw [hwx]; exact lies_new _ _ _)
          have Sx := Lib.hid (show SetAt wx w2.heap.size (i + 1) D by rw [hwx]; exact set_below HS.out ((Below.refl _ _).alloc (Nat.le_refl _) _))
          have Bx := Lib.hid (show Below W1.heap.size W1 wx by rw [hwx]; exact HB.out.alloc HB.out.size _)
          clear hwx LN ES LM
          have x0 : wx.cell? ⟨wr.heap.size, 0, none⟩ = some (St p) := lies_cell Lx.out 0
          have V := Lib.hid (valid_any p wx HPL.out)
          cases h1 : leB p last with
          | true =>
            have HE := Lib.hid (HNO.out (by rw [← HSS.out]; exact walk_none (step_le h1)))
            clear V
            go_wp2
            go_step3
            exact nol_mk _ HE.out (HB0.out.trans (Bx.out.mono HB0.out.size)) rfl
          | false =>
            cases h2 : isPath p with
            | false =>
              rw [h2] at V
              have HE := Lib.hid (HNO.out (by rw [← HSS.out]; exact walk_none (step_path h2)))
              go_wp2_with (go_at_call 39; (with_reducible refine V.out.mono ?_); rintro e w4 ⟨rfl, hb⟩; have H4 := Lib.hid hb; clear hb)
              go_step3
              exact nol_mk _ HE.out (HB0.out.trans ((Bx.out.trans (H4.out.mono Bx.out.size)).mono HB0.out.size)) rfl
            | true =>
              rw [h2] at V
              go_upto_region 9 with (go_at_call 39; (with_reducible refine V.out.mono ?_); rintro e w4 ⟨rfl, hb⟩; have H4 := Lib.hid hb; clear hb)
              clear x0
              have x0 : w4.cell? ⟨wr.heap.size, 0, none⟩ = some (St p) := lies_cell (lies_below Lx.out H4.out (lies_lt Lx.out)) 0
              have V2 := Lib.hid (parent_any p w4 HPL.out)
              have S4 := Lib.hid (set_below Sx.out H4.out)
              have HUP := Lib.hid (Nat.le_trans (upP_len p) HPL.out)
              cases h3 : D (upP p) with
              | false =>
                have HE := Lib.hid (HNO.out (by rw [← HSS.out]; exact walk_none (step_up h1 h2 h3)))
                have LK := fun w5 (hb : Below w4.heap.size w4 w5) => Lib.hid (set_look (set_below S4.out hb) (upP p) HUP.out)
                rw [h3] at LK
                generalize upP p = up at *
                go_wp2_with (first
                  | (go_at_call 29; (with_reducible refine V2.out.mono ?_); rintro e w5 ⟨rfl, hb⟩; have H5 := Lib.hid hb; clear hb)
                  | (at_lookup; refine wpList_lookup_eq rfl _ _ 61 rfl (.map (some w2.heap.size)) (St up) (.tuple #[.agg #[], .bool false]) rfl rfl (LK _ H5.out).out ?_))
                go_step3
                exact nol_mk _ HE.out (HB0.out.trans (((Bx.out.trans (H4.out.mono Bx.out.size)).trans ((H5.out.alloc H5.out.size _).mono (Nat.le_trans Bx.out.size H4.out.size))).mono HB0.out.size)) rfl
              | true =>
                have LK := fun w5 (hb : Below w4.heap.size w4 w5) => Lib.hid (set_look (set_below S4.out hb) (upP p) HUP.out)
                rw [h3] at LK
                have HUD := Lib.hid h3
                generalize upP p = up at V2 LK
                go_upto_region 11 with (first
                  | (go_at_call 29; (with_reducible refine V2.out.mono ?_); rintro e w5 ⟨rfl, hb⟩; have H5 := Lib.hid hb; clear hb)
                  | (at_lookup; refine wpList_lookup_eq rfl _ _ 61 rfl (.map (some w2.heap.size)) (St up) (.tuple #[.agg #[], .bool true]) rfl rfl (LK _ H5.out).out ?_))
                obtain ⟨w6, hw6⟩ : ∃ w6, w6 = w5.alloc (.cells #[] 60) := ⟨_, rfl⟩
                rw [← hw6]
                have b46 : Below w4.heap.size w4 w6 := by rw [hw6]; exact H5.out.alloc H5.out.size _
                have S6 := Lib.hid (set_below S4.out b46)
                have L6 := Lib.hid (lies_below (lies_below Lx.out H4.out (lies_lt Lx.out)) b46 (Nat.lt_of_lt_of_le (lies_lt Lx.out) H4.out.size))
                have B6 := Lib.hid ((Bx.out.trans (H4.out.mono Bx.out.size)).trans (b46.mono (Nat.le_trans Bx.out.size H4.out.size)))
                have BW := Lib.hid (HB0.out.trans (B6.out.mono HB0.out.size))
                have MBL := Lib.hid (set_lt HS.out)
                clear hw6 b46 x0 LK V2 V
                have y0 : w6.cell? ⟨wr.heap.size, 0, none⟩ = some (St p) := lies_cell L6.out 0
                have y1 : w6.cell? ⟨wr.heap.size, 1, none⟩ = some (.int .i64 f) := lies_cell L6.out 1
                have y2 : w6.cell? ⟨wr.heap.size, 2, none⟩ = some (.int .i64 md) := lies_cell L6.out 2
                have LM := Lib.hid (show w6.rangeAt wr.heap.size 0 [St p, .int .i64 f, .int .i64 md] from fun j v hj => by
                  match j, hj with
                  | 0, hj => injection hj with hj; subst hj; exact y0
                  | 1, hj => injection hj with hj; subst hj; exact y1
                  | 2, hj => injection hj with hj; subst hj; exact y2
                  | j + 3, hj => simp at hj)
                have IM := Lib.hid (fun W => isMode_any md W)
                have IN := Lib.hid (fun W => isName_any p f md W)
                by_cases hf : f = -1
                · subst hf
                  cases h5 : okMode md with
                  | true =>
                    rw [h5] at IM
                    obtain ⟨w7, hr7, hs7, hg7⟩ := set_put S6.out p HPL.out (by omega)
                    have R7 := Lib.hid hr7
                    have S7 := Lib.hid hs7
                    have y7 : w7.cell? ⟨wr.heap.size, 0, none⟩ = some (St p) := (World.cell?_of_block (a := ⟨wr.heap.size, 0, none⟩) (hg7.block wr.heap.size (lies_lt L6.out) (fun e => by injection e with e; have := MBL.out; omega))).trans y0
                    have B7 := Lib.hid (B6.out.grown hg7 B6.out.size (fun j hj => by injection hj with hj; rw [← hj]; exact MB.out))
                    have HW := Lib.hid ((walk_some (step_dir h1 h2 HUD.out rfl h5)).symm.trans HSS.out)
                    clear hr7 hs7 hg7 IN
                    go_wp2_with (first
                      | (go_at_call 40; (with_reducible refine (IM.out _).mono ?_); rintro e w8 ⟨rfl, rfl⟩)
                      | (at_mapUpdate; refine wpList_put_eq rfl _ _ _ 61 rfl (.map (some w2.heap.size)) (St p) (.agg #[]) rfl rfl rfl R7.out ?_))
                    go_roundw
                    case rel => exact ⟨i + 1, _, p, k, by omega, rfl, rfl, by go_num, ⟨by omega, by omega⟩, S7.out, HW.out, B7.out⟩
                    case measure => first | (simp [intOf]; done) | (simp [intOf]; omega)
                  | false =>
                    rw [h5] at IM
                    have hn5 : nameB ⟨p, -1, md⟩ = false := decide_eq_false (by show ¬ ((0 : Int) ≤ -1 ∧ md = 0); omega)
                    rw [hn5] at IN
                    have HE := Lib.hid (HNO.out (by rw [← HSS.out]; exact walk_none (step_bad h1 h2 HUD.out (by simp [h5]) (by simp [hn5]))))
                    go_wp2_with (first
                      | (go_at_call 40; (with_reducible refine (IM.out _).mono ?_); rintro e w8 ⟨rfl, rfl⟩)
                      | (refine wpList_load_mid rfl 41 _ rfl wr.heap.size 0 rfl [St p, .int .i64 (-1), .int .i64 md] _ LM.out Try.underlying41 rfl (by kernel_rfl) ?_)
                      | (go_at_call 41; (with_reducible refine (IN.out _).mono ?_); rintro e w8 ⟨rfl, hb⟩; have H8 := Lib.hid hb; clear hb))
                    go_step3
                    exact nol_mk _ HE.out (BW.out.trans (H8.out.mono BW.out.size)) rfl
                · have hfn : (f == -1) = false := by simpa using hf
                  cases h5 : nameB ⟨p, f, md⟩ with
                  | true =>
                    rw [h5] at IN
                    have h0f : 0 ≤ f := (of_decide_eq_true h5).1
                    by_cases h6 : f ≤ k
                    · have wf1 : wrap64 (f + 1) = f + 1 := wrap_in _ (by omega) (by omega)
                      have HW := Lib.hid ((walk_some (step_name h1 h2 HUD.out hf h5 h6)).symm.trans HSS.out)
                      obtain ⟨k', hk'⟩ : ∃ k', k' = max k (f + 1) := ⟨_, rfl⟩
                      have hk1 : 0 ≤ k' := by omega
                      have hk2 : k' ≤ i + 1 := by omega
                      rw [← hk'] at HW
                      have KK := Lib.hid hk'
                      clear IM hk'
                      go_wp2_with (first
                        | (refine wpList_load_mid rfl 41 _ rfl wr.heap.size 0 rfl [St p, .int .i64 f, .int .i64 md] _ LM.out Try.underlying41 rfl (by kernel_rfl) ?_)
                        | (go_at_call 41; (with_reducible refine (IN.out _).mono ?_); rintro e w8 ⟨rfl, hb⟩; have H8 := Lib.hid hb; have z0 := lies_cell (lies_below L6.out hb (lies_lt L6.out)) 0; have z1 := lies_cell (lies_below L6.out hb (lies_lt L6.out)) 1; clear hb))
                      go_roundw
                      case rel => exact ⟨i + 1, D, p, k', by omega, rfl, by rw [KK.out], by go_num, ⟨hk1, by omega⟩, set_mono (set_below S6.out H8.out) (by omega), HW.out, B6.out.trans (H8.out.mono B6.out.size)⟩
                      case measure => first | (simp [intOf]; done) | (simp [intOf]; omega)
                    · have HE := Lib.hid (HNO.out (by rw [← HSS.out]; exact walk_none (step_bad h1 h2 HUD.out (by simp [hf]) (by simp [h6]))))
                      clear IM
                      go_wp2_with (first
                        | (refine wpList_load_mid rfl 41 _ rfl wr.heap.size 0 rfl [St p, .int .i64 f, .int .i64 md] _ LM.out Try.underlying41 rfl (by kernel_rfl) ?_)
                        | (go_at_call 41; (with_reducible refine (IN.out _).mono ?_); rintro e w8 ⟨rfl, hb⟩; have H8 := Lib.hid hb; have z0 := lies_cell (lies_below L6.out hb (lies_lt L6.out)) 0; have z1 := lies_cell (lies_below L6.out hb (lies_lt L6.out)) 1; clear hb))
                      go_step3
                      exact nol_mk _ HE.out (BW.out.trans (H8.out.mono BW.out.size)) rfl
                  | false =>
                    rw [h5] at IN
                    have HE := Lib.hid (HNO.out (by rw [← HSS.out]; exact walk_none (step_bad h1 h2 HUD.out (by simp [hf]) (by simp [h5]))))
                    clear IM
                    go_wp2_with (first
                      | (refine wpList_load_mid rfl 41 _ rfl wr.heap.size 0 rfl [St p, .int .i64 f, .int .i64 md] _ LM.out Try.underlying41 rfl (by kernel_rfl) ?_)
                      | (go_at_call 41; (with_reducible refine (IN.out _).mono ?_); rintro e w8 ⟨rfl, hb⟩; have H8 := Lib.hid hb; clear hb))
                    go_step3
                    exact nol_mk _ HE.out (BW.out.trans (H8.out.mono BW.out.size)) rfl
        · have li : ¬ (i : Int) < (n : Int) := by omega
          have hin : ns.drop i = [] := List.drop_eq_nil_of_le (by have := NN.out; omega)
          rw [hin] at hs
          have HY := Lib.hid (HYES.out k hs.symm)
          clear hin hs
          have L6 := lies_below L0.out HB.out (lies_lt L0.out)
          have x1 : wr.cell? ⟨w.heap.size, 1, none⟩ = some (.slice FA m mc) := lies_cell L6 1
          have WC := Lib.hid (wrong_contains FA mc fs wr (by have := MM.out; omega) (filesAt_below HF.out HBW.out))
          rw [← MM.out] at WC
          have WC2 := Lib.hid (show Calls Try.prog 42 #[.slice FA m mc, .func (.func 43) #[] #[]] wr fun e w' => e = .returned (.bool (anyWrong fs)) ∧ Below wr.heap.size wr w' from WC.out)
          clear WC L6
          by_cases hkm : k = (m : Int)
          · have t1 : decide (k = (m : Int)) = true := decide_eq_true hkm
            cases hw : anyWrong fs with
            | true =>
              rw [hw] at WC2
              have HE := Lib.hid (show E = 30 by rw [HY.out, t1, hw]; rfl)
              clear t1
              subst hkm
              go_wp2_with (go_at_call 42; (with_reducible refine WC2.out.mono ?_); rintro e w8 ⟨rfl, hb⟩; have H8 := Lib.hid hb; clear hb)
              go_step3
              exact nol_mk _ HE.out (HBW.out.trans (H8.out.mono HBW.out.size)) rfl
            | false =>
              rw [hw] at WC2
              have HE := Lib.hid (show E = 0 by rw [HY.out, t1, hw]; rfl)
              clear t1
              subst hkm
              go_wp2_with (go_at_call 42; (with_reducible refine WC2.out.mono ?_); rintro e w8 ⟨rfl, hb⟩; have H8 := Lib.hid hb; clear hb)
              change bodyPost Try.prog Try.f22 (fun e w' => e = .returned (.int .i64 E) ∧ Below w.heap.size w w') .ret _ _
              go_ret
              exact ⟨by rw [HE.out]; rfl, HBW.out.trans (H8.out.mono HBW.out.size)⟩
          · have t1 : decide (k = (m : Int)) = false := decide_eq_false hkm
            have HE := Lib.hid (show E = 30 by rw [HY.out, t1]; rfl)
            have hkb : (k == (m : Int)) = false := by simpa using hkm
            clear t1
            go_wp2
            go_step3
            exact nol_mk _ HE.out HBW.out rfl
end Go.Proofs.Ytdnagkgblmcojaa
