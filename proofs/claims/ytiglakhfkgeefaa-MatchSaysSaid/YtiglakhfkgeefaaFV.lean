/-
What is proved here: a tree's files put on a shelf, by a contract. a range over a list's contents from the last to the first, and the first place of each content, by contracts. the names of each file of a tree, by a contract. the names of each file of a tree, by a contract. regions whose order is open, by facts and an invariant that speaks of the values too: of whatever program.
-/
import Derived.Test.YtiglakhfkgeefaaFls
import Derived.Sort.CutIn
import Derived.Laws.OwnMore
set_option linter.unusedSimpArgs false
set_option linter.unusedVariables false
namespace Go.Word
theorem wpIn_skipv {F : Fence} {n : Nat} {P : Program} {Q : Exit → Act → World → Prop} {a : Act} {w w' : World} {K : Act → World → Prop} {oi : Oper} (hnd : ∀ c, oi.op ≠ .defer c) (hab : oi.about P w a.eval = none) (hr : (execOp a.eval oi).run P w = .ok .skip w') (h : K (a.put oi.dst undef) w') : Oper.wpIn F n P oi a w K Q :=
  ⟨fun f hf => (by rw [hab] at hf; cases hf), by rw [Oper.semAt_eq _ _ _ hnd, hr]; exact h⟩
theorem wpIn_turnv {F : Fence} {n : Nat} {P : Program} {Q : Exit → Act → World → Prop} {a : Act} {w w' : World} {K : Act → World → Prop} {oi : Oper} {v : Value} (hnd : ∀ c, oi.op ≠ .defer c) (hab : oi.about P w a.eval = none) (hr : (execOp a.eval oi).run P w = .ok (.value v) w') (h : K (a.put oi.dst v) w') : Oper.wpIn F n P oi a w K Q :=
  wpIn_turn hnd (fun f hf => by rw [hab] at hf; cases hf) hr h
end Go.Word
namespace Go.Mat
open Go.Pth Go.Tre
def shelfStep (F : Bt → List Int) (k : TxK) : Bt → List Int := updF F k.1.2 (F k.1.2 ++ [(k.1.1 : Int)])
def shelfP (pre : List TxK) : Bt → List Int := pre.foldl shelfStep (fun _ => [])
theorem shelfP_snoc (pre : List TxK) (k : TxK) : shelfP (pre ++ [k]) = shelfStep (shelfP pre) k := by unfold shelfP; rw [List.foldl_append]; rfl
end Go.Mat
namespace Go.Proofs.Ytiglakhfkgeefaa
open Go.Pth Go.Tre Go.RowKit Go.Word Go.Shelf Go.Mat
attribute [local go_sem] Oper.semAt_some
theorem texts_in (n : Nat) (x y : Value) (w : World) :
    CallsIn .wide n Try.prog 33 #[.agg #[x, y]] w fun e w' => e = .returned (.func (.func 52) #[] #[.pointer (some ⟨w.heap.size, 0, none⟩)]) ∧ w' = w.alloc (.cells #[x, y] 25) := by
  refine callsIn_of_wp Try.func33 rfl trivial ?_ rfl
  simp only [Try.ntmps33, List.size_toArray, List.length_cons, List.length_nil, Nat.reduceAdd, Nat.reduceSub, Array.replicate_succ, Array.replicate_zero, List.push_toArray, List.append_toArray, List.nil_append, List.cons_append]
  gi_wp2
  go_ret
  exact ⟨rfl, rfl⟩
/-- kept by what turns blocks that are no cells, from B on -/
theorem shelf_ownFrom {w w' : World} {base b n B : Nat} {F : Bt → List Int} {row : Option Nat} (h : ShelfAt w base b n F) (hg : w.grownBy w' row) (hr : ∀ r, row = some r → B ≤ r ∧ ∃ o : Obj, w.heap[r]? = some o ∧ o.isCells = false) (hb : b < B) : ShelfAt w' base b n F :=
  shelf_other h hg (fun e => by have := (hr b e).1; omega) (fun r e cs h5 => by
    obtain ⟨_, o, ho, hc⟩ := hr r e
    rw [h5] at ho
    injection ho with ho
    subst ho
    cases hc)
theorem lies_ownFrom {w w' : World} {g B : Nat} {t : TypeId} {cs : Array Value} {row : Option Nat} (h : Lies w g t cs) (hg : w.grownBy w' row) (hr : ∀ r, row = some r → B ≤ r ∧ ∃ o : Obj, w.heap[r]? = some o ∧ o.isCells = false) : Lies w' g t cs :=
  (hg.block g (lies_lt h) (fun e => by
    obtain ⟨_, o, ho, hc⟩ := hr g e.symm
    rw [show _ = _ from h] at ho
    injection ho with ho
    subst ho
    cases hc)).trans h
theorem int_info : (Try.prog.info? 3).map (fun i => (i.zero, i.size, i.bytes)) = some (some (.int .i64 0), 1, 8) := by kernel_rfl
set_option maxRecDepth 100000 in
/-- one number more behind a row of the shelf -/
theorem app_int (W : World) (base : Nat) (v : Value) (zs : List Int) (z : Int) (h : W.ownsInts base 3 .i64 v zs) (hB : base ≤ W.heap.size) (hl : zs.length ≤ 100000) (hz : (Lit.int .i64 z).wf = true) :
    ∃ v' Z, (Builtin.append_ #[94, 94] 94 #[v, .slice (some ⟨W.heap.size, 0, none⟩) 1 1]).run Try.prog (W.alloc (.cells #[.int .i64 z] 3)) = .ok v' Z ∧ Z.ownsInts base 3 .i64 v' (zs ++ [z]) ∧ (W.alloc (.cells #[.int .i64 z] 3)).grownBy Z v.ownBlock ∧ (v'.ownBlock = v.ownBlock ∨ ∃ g, v'.ownBlock = some g ∧ W.heap.size ≤ g) := by
  obtain ⟨i0, hi, hz0, hz1, hz2⟩ := info_parts int_info
  have h1 := h.alloc (.cells #[.int .i64 z] 3)
  have L := lies_new W 3 #[.int .i64 z]
  obtain ⟨v', Z, hr, ho, hg, _, hc⟩ := run_append_own_at (P := Try.prog) (W.alloc (.cells #[.int .i64 z] 3)) base 94 94 3 i0 (.int .i64 0) 1 8 Try.underlying94 hi hz0 hz1 hz2 rfl (by decide) v zs.length (zs.map (Value.int .i64)) h1.1 ⟨W.heap.size, 0, none⟩ 1 1 [.int .i64 z] rfl (fun q u hq => by
    match q, hq with
    | 0, hq => injection hq with hq; subst hq; exact lies_cell L 0
    | q + 1, hq => simp at hq) (fun u hu => by simp at hu; subst hu; rfl) (by unfold maxLen; omega) (by omega) (by simp; omega)
  refine ⟨v', Z, hr, ⟨by rw [List.length_append, List.map_append]; exact ho, fun y hy => ?_⟩, hg, ?_⟩
  · rcases List.mem_append.1 hy with h | h
    · exact h1.2 y h
    · rw [List.mem_singleton.1 h]; exact hz
  · rcases hc with hc | hc
    · exact .inl hc
    · exact .inr ⟨_, hc, by simp⟩
/-- what the loop that shelves keeps -/
def ShvI (w : World) (TV : Array Value) (pre : List TxK) (W : World) : Prop := ShelfAt W (w.heap.size + 2) (w.heap.size + 1) pre.length (shelfP pre) ∧ Lies W (w.heap.size + 2) 83 #[.map (some (w.heap.size + 1))] ∧ Lies W (w.heap.size + 3) 25 TV ∧ Below w.heap.size w W ∧ w.heap.size + 4 ≤ W.heap.size
def ShvQ (w : World) (i : Nat) : Prop := i < w.heap.size ∨ i = w.heap.size + 3
theorem shv_ownFrom (w : World) (TV : Array Value) : OwnFrom (w.heap.size + 4) (ShvI w TV) := fun s W W' row ⟨h1, h2, h3, h4, h5⟩ hg hr =>
  ⟨shelf_ownFrom h1 hg hr (by omega), lies_ownFrom h2 hg hr, lies_ownFrom h3 hg hr, h4.grown hg (Nat.le_trans (by omega) h5) (fun k e => by have := (hr k e).1; omega), Nat.le_trans h5 hg.size⟩
set_option maxRecDepth 100000 in
theorem shelve_round (w W : World) (TV : Array Value) (pre : List TxK) (x : TxK) (h : ShvI w TV pre W) (hpre : pre.length ≤ 1000) :
    ∃ v v' Z w2, (∀ W' : World, W'.heap[w.heap.size + 1]? = W.heap[w.heap.size + 1]? → (Instr.lookup 83 (.map (some (w.heap.size + 1))) (St x.1.2) false).run Try.prog W' = .ok v W') ∧
      (Builtin.append_ #[94, 94] 94 #[v, .slice (some ⟨W.heap.size, 0, none⟩) 1 1]).run Try.prog ((W.drewN 1).alloc (.cells #[.int .i64 (x.1.1 : Int)] 3)) = .ok v' Z ∧ (Instr.mapUpdate 83 (.map (some (w.heap.size + 1))) (St x.1.2) v').run Try.prog Z = .ok () w2 ∧
      Lies ((W.drewN 1).alloc (.cells #[.int .i64 (x.1.1 : Int)] 3)) (w.heap.size + 2) 83 #[.map (some (w.heap.size + 1))] ∧ Lies Z (w.heap.size + 2) 83 #[.map (some (w.heap.size + 1))] ∧ ((W.drewN 1).alloc (.cells #[.int .i64 (x.1.1 : Int)] 3)).heap[w.heap.size + 1]? = W.heap[w.heap.size + 1]? ∧ Z.heap[w.heap.size + 1]? = W.heap[w.heap.size + 1]? ∧
      ShvI w TV (pre ++ [x]) w2 ∧ KQ (ShvQ w) W w2 ∧ KeepsFrom (w.heap.size + 4) W w2 := by
  obtain ⟨h1, h2, h3, h4, h5⟩ := h
  have hx1 := x.2.1
  obtain ⟨v, hlook, ho, hlen, hput, _⟩ := shelf_look h1 x.1.2 x.2.2 (by omega)
  have gA : W.grownBy (W.drewN 1) none := ⟨rfl, rfl, rfl, Nat.le_refl _, fun _ _ _ => rfl⟩
  have hoA : (W.drewN 1).ownsInts (w.heap.size + 2) 3 .i64 v (shelfP pre x.1.2) := ho.kept gA (by cases v.ownBlock <;> simp)
  obtain ⟨v', Z, hr, hoz, hgz, hvz⟩ := app_int (W.drewN 1) (w.heap.size + 2) v _ (x.1.1 : Int) hoA (by show _ ≤ W.heap.size; omega) (by omega) (wf_int (by omega) (by omega))
  have gB : W.grownBy ((W.drewN 1).alloc (.cells #[.int .i64 (x.1.1 : Int)] 3)) none := ⟨rfl, rfl, rfl, by simp, fun i hi _ => heap_alloc_old (W.drewN 1) _ hi⟩
  have gZ : W.grownBy Z v.ownBlock := ⟨hgz.os.trans gB.os, hgz.tape.trans gB.tape, hgz.output.trans gB.output, Nat.le_trans gB.size hgz.size, fun i hi hne => (hgz.block i (Nat.lt_of_lt_of_le hi gB.size) hne).trans (gB.block i hi (by simp))⟩
  obtain ⟨w2, hm, hs2, hg2⟩ := hput Z v' _ gZ hoz (by simp) (by rw [List.length_append]; simp; omega) (by rcases hvz with e | ⟨g, e, hg⟩; exact .inl e; exact .inr ⟨g, e, hg⟩)
  have hv : ∀ r, v.ownBlock = some r → w.heap.size + 2 ≤ r ∧ ∃ cs, W.heap[r]? = some (.cells cs 3 (0, 0)) := fun r e => by
    refine ⟨(ho.1.lt r e).1, ?_⟩
    rcases ho.1.2 with ⟨e1, _⟩ | ⟨g, cap, cur, e1, _, h6, _⟩
    · rw [e1] at e; simp [Value.ownBlock] at e
    · rw [e1] at e
      simp only [Value.ownBlock, Option.some.injEq] at e
      subst e
      exact ⟨_, h6⟩
  have kl : ∀ {g t cs}, Lies W g t cs → t ≠ 3 → Lies Z g t cs := fun {g t cs} hl ht => (gZ.block g (lies_lt hl) (fun e => by
    obtain ⟨_, cs', h6⟩ := hv g e.symm
    rw [show _ = _ from hl] at h6
    injection h6 with h6
    injection h6 with _ h6 _
    exact ht h6)).trans hl
  have kl2 : ∀ {g t cs}, Lies Z g t cs → g ≠ w.heap.size + 1 → Lies w2 g t cs := fun {g t cs} hl ht => (hg2.block g (lies_lt hl) (fun e => ht (by injection e))).trans hl
  have hb1 := (shelf_lt h1).1
  have zb : Z.heap[w.heap.size + 1]? = W.heap[w.heap.size + 1]? := gZ.block _ hb1 (fun e => by have := (hv _ e.symm).1; omega)
  have bz : Below w.heap.size w Z := h4.grown gZ (by omega) (fun k e => by have := (hv k e).1; omega)
  refine ⟨v, v', Z, w2, hlook, hr, hm, (gB.block _ (lies_lt h2) (by simp)).trans h2, kl h2 (by decide), gB.block _ hb1 (by simp), zb, ⟨?_, kl2 (kl h2 (by decide)) (by omega), kl2 (kl h3 (by decide)) (by omega), bz.grown hg2 (Nat.le_trans (by omega) gZ.size) (fun k e => by injection e with e; omega), Nat.le_trans h5 (Nat.le_trans gZ.size hg2.size)⟩, ⟨fun i hi => ?_, Nat.le_trans gZ.size hg2.size⟩, ⟨Nat.le_trans gZ.size hg2.size, fun k o hB hk hc => ?_⟩⟩
  · rw [shelfP_snoc, List.length_append]
    exact hs2
  · have hi2 : i < W.heap.size := by rcases hi with hi | hi <;> omega
    have hne : some i ≠ v.ownBlock := fun e => by
      obtain ⟨a1, cs, h6⟩ := hv i e.symm
      rcases hi with hi | hi
      · omega
      · subst hi
        rw [show _ = _ from h3] at h6
        injection h6 with h6
        injection h6 with _ h6 _
        cases h6
    exact (hg2.block i (Nat.lt_of_lt_of_le hi2 gZ.size) (fun e => by injection e with e; rcases hi with hi | hi <;> omega)).trans (gZ.block i hi2 hne)
  · have hk2 := (Array.getElem?_eq_some_iff.1 hk).1
    have hne : some k ≠ v.ownBlock := fun e => by
      obtain ⟨_, cs, h6⟩ := hv k e.symm
      rw [hk] at h6
      injection h6 with h6
      subst h6
      cases hc
    exact ((hg2.block k (Nat.lt_of_lt_of_le hk2 gZ.size) (fun e => by injection e with e; omega)).trans (gZ.block k hk2 hne)).trans hk
set_option maxRecDepth 100000 in
set_option maxHeartbeats 4000000 in
theorem shelve_in (n : Nat) (hn : 4 ≤ n) (vN FA : Option Addr) (nl nc fc : Nat) (fs : List Fl) (w : World) (hF : FilesAt w FA fs) (hd : ∀ x ∈ fs, x.data.length ≤ 100000) (hn0 : fs.length ≤ 1000) :
    CallsIn .wide n Try.prog 42 #[.agg #[.slice vN nl nc, .slice FA fs.length fc]] w fun e W' => e = .returned (.map (some (w.heap.size + 1))) ∧ ShelfAt W' (w.heap.size + 2) (w.heap.size + 1) fs.length (shelfP (txL (fs.map Fl.data))) ∧ Below w.heap.size w W' := by
  have h1 : 1 ≤ n := by omega
  have hmm := @run_makeMap Try.prog
  refine callsIn_of_wp_marks Try.func42 rfl trivial ?_ rfl
  simp only [Try.ntmps42, List.size_toArray, List.length_cons, List.length_nil, Nat.reduceAdd, Nat.reduceSub, Array.replicate_succ, Array.replicate_zero, List.push_toArray, List.append_toArray, List.nil_append, List.cons_append]
  obtain ⟨TV, hTV⟩ : ∃ TV : Array Value, TV = #[.slice vN nl nc, .slice FA fs.length fc] := ⟨_, rfl⟩
  have x0 : (w.alloc (.cells #[.slice vN nl nc, .slice FA fs.length fc] 25)).cell? ⟨w.heap.size, 0, none⟩ = some (.slice vN nl nc) := lies_cell (lies_new w 25 _) 0
  have x1 : (w.alloc (.cells #[.slice vN nl nc, .slice FA fs.length fc] 25)).cell? ⟨w.heap.size, 1, none⟩ = some (.slice FA fs.length fc) := lies_cell (lies_new w 25 _) 1
  have lt0 : w.heap.size < (w.alloc (.cells #[.slice vN nl nc, .slice FA fs.length fc] 25)).heap.size := by simp
  have y0 := fun o => (((Below.refl _ (w.alloc (.cells #[.slice vN nl nc, .slice FA fs.length fc] 25))).alloc (Nat.le_refl _) o).cell (p := ⟨w.heap.size, 0, none⟩) lt0).trans x0
  have y1 := fun o => (((Below.refl _ (w.alloc (.cells #[.slice vN nl nc, .slice FA fs.length fc] 25))).alloc (Nat.le_refl _) o).cell (p := ⟨w.heap.size, 1, none⟩) lt0).trans x1
  gi_upto_region 2 with (fail)
  have S0 := shelf_grown0 (shelf_made (w.alloc (.cells #[.slice vN nl nc, .slice FA fs.length fc] 25))) (World.grownBy_alloc _ (.cells #[.map (some (w.heap.size + 1))] 83) none)
  have L0 := lies_new ((w.alloc (.cells #[.slice vN nl nc, .slice FA fs.length fc] 25)).alloc (.map #[] 0)) 83 #[.map (some (w.heap.size + 1))]
  have B0 : Below w.heap.size w (((w.alloc (.cells #[.slice vN nl nc, .slice FA fs.length fc] 25)).alloc (.map #[] 0)).alloc (.cells #[.map (some (w.heap.size + 1))] 83)) := (((Below.refl _ w).alloc (Nat.le_refl _) _).alloc (by simp) _).alloc (by simp; omega) _
  have z0 : (((w.alloc (.cells #[.slice vN nl nc, .slice FA fs.length fc] 25)).alloc (.map #[] 0)).alloc (.cells #[.map (some (w.heap.size + 1))] 83)).heap.size = w.heap.size + 3 := by simp
  have T0 := lies_alloc (lies_alloc (lies_new w 25 #[.slice vN nl nc, .slice FA fs.length fc]) (.map #[] 0)) (.cells #[.map (some (w.heap.size + 1))] 83)
  rw [World.size_alloc] at S0 L0
  rw [World.size_alloc] at L0
  have q0 := lies_cell T0 0
  have q1 := lies_cell T0 1
  simp only [List.getElem?_toArray, List.getElem?_cons_zero, List.getElem?_cons_succ] at q0 q1
  clear x0 x1 lt0 y0 y1
  generalize ((w.alloc (.cells #[.slice vN nl nc, .slice FA fs.length fc] 25)).alloc (.map #[] 0)).alloc (.cells #[.map (some (w.heap.size + 1))] 83) = X0 at *
  gi_wp2_with (refine ⟨trivial, ?_⟩; gi_at_call 33; refine (texts_in (n - 1) _ _ _).mono ?_; rintro e w' ⟨rfl, rfl⟩)
  have LT := lies_new X0 25 #[.slice vN nl nc, .slice FA fs.length fc]
  rw [z0] at LT
  have II : ShvI w #[.slice vN nl nc, .slice FA fs.length fc] [] (X0.alloc (.cells #[.slice vN nl nc, .slice FA fs.length fc] 25)) :=
    ⟨shelf_grown0 S0 (World.grownBy_alloc _ _ none), lies_alloc L0 _, LT, B0.alloc (by omega) _, by simp; omega⟩
  have zX : (X0.alloc (.cells #[.slice vN nl nc, .slice FA fs.length fc] 25)).heap.size = w.heap.size + 4 := by simp; omega
  have bX : Below w.heap.size w (X0.alloc (.cells #[.slice vN nl nc, .slice FA fs.length fc] 25)) := II.2.2.2.1
  have FX := filesQ_of (Q := ShvQ w) hF (fun i hi => .inl hi)
  have FX2 : FilesQ (X0.alloc (.cells #[.slice vN nl nc, .slice FA fs.length fc] 25)) (fun i => i < w.heap.size) FA fs := filesQ_same (filesQ_of (Q := fun i => i < w.heap.size) hF (fun i hi => hi)) (fun i hi => bX.block i hi)
  have FX3 : FilesQ (X0.alloc (.cells #[.slice vN nl nc, .slice FA fs.length fc] 25)) (ShvQ w) FA fs := fun i hi => by
    obtain ⟨b, o, DA, dc, e, hl, h1, h2, h3⟩ := FX2 i hi
    exact ⟨b, o, DA, dc, e, .inl hl, h1, h2, fun j hj => by obtain ⟨b', o', e', hl', hc'⟩ := h3 j hj; exact ⟨b', o', e', .inl hl', hc'⟩⟩
  generalize X0.alloc (.cells #[.slice vN nl nc, .slice FA fs.length fc] 25) = X at *
  clear S0 L0 B0 T0 q0 q1 FX FX2
  have II2 := Lib.hid II
  refine wpIn_rangeFunc_ownG rfl h1 (gf := 52) (lb := #[.pointer (some ⟨w.heap.size + 3, 0, none⟩)]) rfl trivial (enters_of Try.func52 (by kernel_rfl) rfl)
    (texts_stops (n - 1) (by omega) fs hd hn0 (w.heap.size + 3) (ShvQ w) FA fc X (lies_cell LT 1) (.inr rfl) (fun i hi => by rcases hi with hi | hi <;> omega) FX3) kq_t (kq_b (fun i hi => by rcases hi with hi | hi <;> omega)) (Below.refl _ _) (fun _ => rfl)
    (ShvI w #[.slice vN nl nc, .slice FA fs.length fc]) (fun _ _ _ => False) (by rw [zX]; exact shv_ownFrom w _) (fun _ _ _ _ _ hs _ _ => hs) II2.out
    (fun x => { tmps := #[.agg #[.slice vN nl nc, .slice FA fs.length fc], .pointer (some ⟨w.heap.size, 0, none⟩), .map none, .pointer (some ⟨w.heap.size + 1 + 1, 0, none⟩), .int .i64 (x.1.1 : Int), St x.1.2, .map (some (w.heap.size + 1)), .agg #[.slice vN nl nc, .slice FA fs.length fc], .func (.func 52) #[] #[.pointer (some ⟨w.heap.size + 3, 0, none⟩)], .int .i64 (x.1.1 : Int), St x.1.2, undef, undef, undef, undef, undef, undef, undef, undef, undef], defers := [] })
    ?assign ?body ?done ?stop
  case assign =>
    intro l x W K hK
    dsimp only [encX]
    gi_wp2
    exact hK
  case body =>
    rintro lp pre x W hI hlt
    rw [zX]
    obtain ⟨v, v', Z, w2, hlook, happ, hput, hB2, hZ2, hB1, hZ1, hI2, hKQ, hKF⟩ := shelve_round w W _ pre x hI (by omega)
    have L2 := Lib.hid hI.2.1
    obtain ⟨SZ, hSZ⟩ : ∃ SZ, SZ = W.heap.size := ⟨_, rfl⟩
    rw [← hSZ] at happ
    clear II LT FX3
    gi_wp2
    have KF : ∀ (lq : Array Bool) (pq kq : Nat) (uq : Value) (W W' : World), (True) → W.grownBy W' none → ((fun (l_ : Array Bool) (j_ : Nat) (v_ : Value) (WW : World) => match j_ with | 0 => v_ = .map (some (w.heap.size + 1)) | 1 => v_ = St x.1.2 | 2 => v_ = .map (some (w.heap.size + 1)) | 3 => v_ = St x.1.2 | 4 => v_ = v | 5 => v_ = .int .i64 (x.1.1 : Int) | 6 => v_ = .slice (some ⟨SZ, 0, none⟩) 1 1 | 7 => v_ = v' | _ => True) : Array Bool → Nat → Value → World → Prop) lq kq uq W → ((fun (l_ : Array Bool) (j_ : Nat) (v_ : Value) (WW : World) => match j_ with | 0 => v_ = .map (some (w.heap.size + 1)) | 1 => v_ = St x.1.2 | 2 => v_ = .map (some (w.heap.size + 1)) | 3 => v_ = St x.1.2 | 4 => v_ = v | 5 => v_ = .int .i64 (x.1.1 : Int) | 6 => v_ = .slice (some ⟨SZ, 0, none⟩) 1 1 | 7 => v_ = v' | _ => True) : Array Bool → Nat → Value → World → Prop) (lq.setIfInBounds pq true) kq uq W' := fun lq pq kq uq W W' hp hg h => by
      have kl : ∀ {g t cs}, Lies W g t cs → Lies W' g t cs := fun h => (hg.block _ (lies_lt h) (by simp)).trans h
      have ko : ∀ {B e z v k xs}, W.ownsRow B e z v k xs → W'.ownsRow B e z v k xs := fun {B e z v k xs} h => h.kept hg (by cases v.ownBlock <;> simp)
      match kq, h with
      | 0, h => exact h
      | 1, h => exact h
      | 2, h => exact h
      | 3, h => exact h
      | 4, h => exact h
      | 5, h => exact h
      | 6, h => exact h
      | 7, h => exact h
      | _ + 8, _ => exact trivial
    have gr : ∀ W : World, W.grownBy W none := fun W => ⟨rfl, rfl, rfl, Nat.le_refl _, fun _ _ _ => rfl⟩
    have KP := fun (lq : Array Bool) (pq : Nat) (W : World) (hp : True) => fun (kq : Nat) (uq : Value) (_ : kq ≠ pq) (_ : lq.getD kq false = true) (h : ((fun (l_ : Array Bool) (j_ : Nat) (v_ : Value) (WW : World) => match j_ with | 0 => v_ = .map (some (w.heap.size + 1)) | 1 => v_ = St x.1.2 | 2 => v_ = .map (some (w.heap.size + 1)) | 3 => v_ = St x.1.2 | 4 => v_ = v | 5 => v_ = .int .i64 (x.1.1 : Int) | 6 => v_ = .slice (some ⟨SZ, 0, none⟩) 1 1 | 7 => v_ = v' | _ => True) : Array Bool → Nat → Value → World → Prop) lq kq uq W) => KF lq pq kq uq W W hp (gr W) h
    have IV : ∀ (lq : Array Bool) (pq : Nat) (X Y : World), (pq ≠ 6 ∧ pq ≠ 7 ∧ pq ≠ 8) → X = Y → ((fun (l_ : Array Bool) (WW : World) => (l_.getD 6 false = false → WW = W.drewN 1) ∧ (l_.getD 6 false = true → l_.getD 7 false = false → WW = (W.drewN 1).alloc (.cells #[.int .i64 (x.1.1 : Int)] 3)) ∧ (l_.getD 7 false = true → l_.getD 8 false = false → WW = Z) ∧ (l_.getD 8 false = true → WW = w2)) : Array Bool → World → Prop) lq X → ((fun (l_ : Array Bool) (WW : World) => (l_.getD 6 false = false → WW = W.drewN 1) ∧ (l_.getD 6 false = true → l_.getD 7 false = false → WW = (W.drewN 1).alloc (.cells #[.int .i64 (x.1.1 : Int)] 3)) ∧ (l_.getD 7 false = true → l_.getD 8 false = false → WW = Z) ∧ (l_.getD 8 false = true → WW = w2)) : Array Bool → World → Prop) (lq.setIfInBounds pq true) Y := fun lq pq X Y hp hg h => by
      subst hg
      have h6 : (lq.setIfInBounds pq true).getD 6 false = lq.getD 6 false := by rw [getD_set_ne false hp.1]
      have h7 : (lq.setIfInBounds pq true).getD 7 false = lq.getD 7 false := by rw [getD_set_ne false hp.2.1]
      have h8 : (lq.setIfInBounds pq true).getD 8 false = lq.getD 8 false := by rw [getD_set_ne false hp.2.2]
      exact ⟨fun e => h.1 (by rw [← h6]; exact e), fun e e' => h.2.1 (by rw [← h6]; exact e) (by rw [← h7]; exact e'), fun e e' => h.2.2.1 (by rw [← h7]; exact e) (by rw [← h8]; exact e'), fun e => h.2.2.2 (by rw [← h8]; exact e)⟩
    refine wpIn_region_any (by kernel_rfl) ?_
    refine every_factI_in (own := ownAll _) id ((fun (l_ : Array Bool) (j_ : Nat) (v_ : Value) (WW : World) => match j_ with | 0 => v_ = .map (some (w.heap.size + 1)) | 1 => v_ = St x.1.2 | 2 => v_ = .map (some (w.heap.size + 1)) | 3 => v_ = St x.1.2 | 4 => v_ = v | 5 => v_ = .int .i64 (x.1.1 : Int) | 6 => v_ = .slice (some ⟨SZ, 0, none⟩) 1 1 | 7 => v_ = v' | _ => True) : Array Bool → Nat → Value → World → Prop) ((fun (l_ : Array Bool) (WW : World) => (l_.getD 6 false = false → WW = W.drewN 1) ∧ (l_.getD 6 false = true → l_.getD 7 false = false → WW = (W.drewN 1).alloc (.cells #[.int .i64 (x.1.1 : Int)] 3)) ∧ (l_.getD 7 false = true → l_.getD 8 false = false → WW = Z) ∧ (l_.getD 8 false = true → WW = w2)) : Array Bool → World → Prop) (acAll_of (by kernel_rfl)) (onAll_of (by kernel_rfl)) (dstAll_of (by kernel_rfl)) ?hop ?hend _ _ _ _ (fun _ => undef) rfl (shut_none _) (of_decide_eq_true (by kernel_rfl)) (tabd_start (fun i => rep_false _ i)) (fun k hk => by rw [rep_false] at hk; cases hk) ⟨fun _ => rfl, fun e => (by rw [rep_false] at e; cases e), fun e => (by rw [rep_false] at e; cases e), fun e => (by rw [rep_false] at e; cases e)⟩
    case hop =>
      intro j oi a w0 listed vals hoi hs hcl hun hdeps ht hF hI
      have hj : j < 9 := (Array.getElem?_eq_some_iff.1 hoi).1
      have cj : j = 0 ∨ j = 1 ∨ j = 2 ∨ j = 3 ∨ j = 4 ∨ j = 5 ∨ j = 6 ∨ j = 7 ∨ j = 8 := by omega
      obtain rfl | rfl | rfl | rfl | rfl | rfl | rfl | rfl | rfl := cj
      all_goals obtain rfl := Option.some.inj hoi
      · have e3 : a.eval (.tmp 3) = .pointer (some ⟨w.heap.size + 1 + 1, 0, none⟩) := (tabd_old ht (t := 3) (of_decide_eq_true (by kernel_rfl)) (by kernel_rfl)).trans rfl
        refine .inl ⟨rfl, fun K hk => ?_⟩
        have hbx : w0.cell? ⟨w.heap.size + 1 + 1, 0, none⟩ = some (.map (some (w.heap.size + 1))) := by
          have n8 : listed.getD 8 false = false := (by cases hh : listed.getD 8 false with | false => rfl | true => exact absurd (hcl 8 _ rfl hh ⟨0, .data⟩ (by simp) rfl) (by simp [hun]))
          cases h7 : listed.getD 7 false with
          | true => rw [hI.2.2.1 h7 n8]; exact lies_cell hZ2 0
          | false =>
            cases h6 : listed.getD 6 false with
            | true => rw [hI.2.1 h6 h7]; exact lies_cell hB2 0
            | false => rw [hI.1 h6]; exact lies_cell (show Lies (W.drewN 1) _ 83 _ from L2.out) 0
        exact wpIn_value (v := .map (some (w.heap.size + 1))) (fun c h => by cases h) rfl (by clear hk hI hoi hdeps ht hF hcl hs KF KP IV; generalize a.eval = ρ at *; unfold execOp; simp only [e3]; go_simp) (hk _ _ rfl (KP listed 0 w0 trivial) (IV listed 0 w0 w0 (by decide) rfl hI))
      · have e5 : a.eval (.tmp 5) = St x.1.2 := (tabd_old ht (t := 5) (of_decide_eq_true (by kernel_rfl)) (by kernel_rfl)).trans rfl
        exact .inl ⟨rfl, fun K hk => wpIn_value (v := St x.1.2) (fun c h => by cases h) rfl (by clear hk hI hoi hdeps ht hF hcl hs KF KP IV; generalize a.eval = ρ at *; unfold execOp; simp only [e5]; go_simp; try (intro hq_; exfalso; omega)) (hk _ _ rfl (KP listed 1 w0 trivial) (IV listed 1 w0 w0 (by decide) rfl hI))⟩
      · have e3 : a.eval (.tmp 3) = .pointer (some ⟨w.heap.size + 1 + 1, 0, none⟩) := (tabd_old ht (t := 3) (of_decide_eq_true (by kernel_rfl)) (by kernel_rfl)).trans rfl
        refine .inl ⟨rfl, fun K hk => ?_⟩
        have hbx : w0.cell? ⟨w.heap.size + 1 + 1, 0, none⟩ = some (.map (some (w.heap.size + 1))) := by
          have n8 : listed.getD 8 false = false := (by cases hh : listed.getD 8 false with | false => rfl | true => exact absurd (hcl 8 _ rfl hh ⟨2, .phase⟩ (by simp) rfl) (by simp [hun]))
          cases h7 : listed.getD 7 false with
          | true => rw [hI.2.2.1 h7 n8]; exact lies_cell hZ2 0
          | false =>
            cases h6 : listed.getD 6 false with
            | true => rw [hI.2.1 h6 h7]; exact lies_cell hB2 0
            | false => rw [hI.1 h6]; exact lies_cell (show Lies (W.drewN 1) _ 83 _ from L2.out) 0
        exact wpIn_value (v := .map (some (w.heap.size + 1))) (fun c h => by cases h) rfl (by clear hk hI hoi hdeps ht hF hcl hs KF KP IV; generalize a.eval = ρ at *; unfold execOp; simp only [e3]; go_simp) (hk _ _ rfl (KP listed 2 w0 trivial) (IV listed 2 w0 w0 (by decide) rfl hI))
      · have e5 : a.eval (.tmp 5) = St x.1.2 := (tabd_old ht (t := 5) (of_decide_eq_true (by kernel_rfl)) (by kernel_rfl)).trans rfl
        exact .inl ⟨rfl, fun K hk => wpIn_value (v := St x.1.2) (fun c h => by cases h) rfl (by clear hk hI hoi hdeps ht hF hcl hs KF KP IV; generalize a.eval = ρ at *; unfold execOp; simp only [e5]; go_simp; try (intro hq_; exfalso; omega)) (hk _ _ rfl (KP listed 3 w0 trivial) (IV listed 3 w0 w0 (by decide) rfl hI))⟩
      · have d2 := hdeps ⟨2, .data⟩ (by simp) rfl
        have d3 := hdeps ⟨3, .data⟩ (by simp) rfl
        have e13 : a.eval (.tmp 13) = .map (some (w.heap.size + 1)) := (tabd_at ht (t := 13) (of_decide_eq_true (by kernel_rfl)) (by kernel_rfl) d2).trans (hF 2 d2)
        have e14 : a.eval (.tmp 14) = St x.1.2 := (tabd_at ht (t := 14) (of_decide_eq_true (by kernel_rfl)) (by kernel_rfl) d3).trans (hF 3 d3)
        refine .inl ⟨rfl, fun K hk => ?_⟩
        have n7 : listed.getD 7 false = false := (by cases hh : listed.getD 7 false with | false => rfl | true => exact absurd (hcl 7 _ rfl hh ⟨4, .data⟩ (by simp) rfl) (by simp [hun]))
        have hbk : w0.heap[w.heap.size + 1]? = W.heap[w.heap.size + 1]? := by
          cases h6 : listed.getD 6 false with
          | true => rw [hI.2.1 h6 n7]; exact hB1
          | false => rw [hI.1 h6]; rfl
        have hlk := hlook w0 hbk
        exact wpIn_value (v := v) (fun c h => by cases h) rfl (by clear hk hI hoi hdeps ht hF hcl hs KF KP IV; generalize a.eval = ρ at *; unfold execOp; simp only [e13, e14]; go_simp) (hk _ _ rfl (KP listed 4 w0 trivial) (IV listed 4 w0 w0 (by decide) rfl hI))
      · have e4 : a.eval (.tmp 4) = .int .i64 (x.1.1 : Int) := (tabd_old ht (t := 4) (of_decide_eq_true (by kernel_rfl)) (by kernel_rfl)).trans rfl
        exact .inl ⟨rfl, fun K hk => wpIn_value (v := .int .i64 (x.1.1 : Int)) (fun c h => by cases h) rfl (by clear hk hI hoi hdeps ht hF hcl hs KF KP IV; generalize a.eval = ρ at *; unfold execOp; simp only [e4]; go_simp; try (intro hq_; exfalso; omega)) (hk _ _ rfl (KP listed 5 w0 trivial) (IV listed 5 w0 w0 (by decide) rfl hI))⟩
      · have d5 := hdeps ⟨5, .data⟩ (by simp) rfl
        have e16 : a.eval (.tmp 16) = .int .i64 (x.1.1 : Int) := (tabd_at ht (t := 16) (of_decide_eq_true (by kernel_rfl)) (by kernel_rfl) d5).trans (hF 5 d5)
        refine .inl ⟨rfl, fun K hk => ?_⟩
        have PR := fun W' => show ∀ (kq : Nat) (uq : Value), kq ≠ 6 → listed.getD kq false = true → ((fun (l_ : Array Bool) (j_ : Nat) (v_ : Value) (WW : World) => match j_ with | 0 => v_ = .map (some (w.heap.size + 1)) | 1 => v_ = St x.1.2 | 2 => v_ = .map (some (w.heap.size + 1)) | 3 => v_ = St x.1.2 | 4 => v_ = v | 5 => v_ = .int .i64 (x.1.1 : Int) | 6 => v_ = .slice (some ⟨SZ, 0, none⟩) 1 1 | 7 => v_ = v' | _ => True) : Array Bool → Nat → Value → World → Prop) listed kq uq w0 → ((fun (l_ : Array Bool) (j_ : Nat) (v_ : Value) (WW : World) => match j_ with | 0 => v_ = .map (some (w.heap.size + 1)) | 1 => v_ = St x.1.2 | 2 => v_ = .map (some (w.heap.size + 1)) | 3 => v_ = St x.1.2 | 4 => v_ = v | 5 => v_ = .int .i64 (x.1.1 : Int) | 6 => v_ = .slice (some ⟨SZ, 0, none⟩) 1 1 | 7 => v_ = v' | _ => True) : Array Bool → Nat → Value → World → Prop) (listed.setIfInBounds 6 true) kq uq W' from
          (fun kq uq hkp hkl h => by
            have s_ : (listed.setIfInBounds 6 true).getD 6 false = true := getD_here (by rw [hs]; decide)
            match kq, hkp, hkl, h with
            | 0, _, _, h => exact h
            | 1, _, _, h => exact h
            | 2, _, _, h => exact h
            | 3, _, _, h => exact h
            | 4, _, _, h => exact h
            | 5, _, _, h => exact h
            | 6, hk, _, _ => exact absurd rfl hk
            | 7, _, _, h => exact h
            | _ + 8, _, _, _ => exact trivial)
        have n6 : listed.getD 6 false = false := hun
        have n7 : listed.getD 7 false = false := (by cases hh : listed.getD 7 false with | false => rfl | true => exact absurd (hcl 7 _ rfl hh ⟨6, .data⟩ (by simp) rfl) (by simp [hun]))
        have n8 : listed.getD 8 false = false := (by cases hh : listed.getD 8 false with | false => rfl | true => exact absurd (hcl 8 _ rfl hh ⟨6, .phase⟩ (by simp) rfl) (by simp [hun]))
        have hw := hI.1 n6
        obtain ⟨i0, hi0, hz0, hz1, hz2⟩ := info_parts int_info
        refine wpIn_turnv (v := .slice (some ⟨SZ, 0, none⟩) 1 1) (w' := (W.drewN 1).alloc (.cells #[.int .i64 (x.1.1 : Int)] 3)) (fun c h => by cases h) rfl (by
          rw [hw, hSZ]
          clear hk hI hoi hdeps ht hF hcl hs KF KP IV PR
          generalize a.eval = ρ at *
          unfold execOp
          simp only [e16]
          go_simp) (hk _ _ rfl (PR w0) ⟨fun e => (by rw [getD_here (by rw [hs]; decide)] at e; cases e), fun _ _ => rfl, fun e => (by rw [getD_set_ne false (by decide), n7] at e; cases e), fun e => (by rw [getD_set_ne false (by decide), n8] at e; cases e)⟩)
      · have d4 := hdeps ⟨4, .data⟩ (by simp) rfl
        have d6 := hdeps ⟨6, .data⟩ (by simp) rfl
        have e15 : a.eval (.tmp 15) = v := (tabd_at ht (t := 15) (of_decide_eq_true (by kernel_rfl)) (by kernel_rfl) d4).trans (hF 4 d4)
        have e17 : a.eval (.tmp 17) = .slice (some ⟨SZ, 0, none⟩) 1 1 := (tabd_at ht (t := 17) (of_decide_eq_true (by kernel_rfl)) (by kernel_rfl) d6).trans (hF 6 d6)
        refine .inl ⟨rfl, fun K hk => ?_⟩
        have PR := fun W' => show ∀ (kq : Nat) (uq : Value), kq ≠ 7 → listed.getD kq false = true → ((fun (l_ : Array Bool) (j_ : Nat) (v_ : Value) (WW : World) => match j_ with | 0 => v_ = .map (some (w.heap.size + 1)) | 1 => v_ = St x.1.2 | 2 => v_ = .map (some (w.heap.size + 1)) | 3 => v_ = St x.1.2 | 4 => v_ = v | 5 => v_ = .int .i64 (x.1.1 : Int) | 6 => v_ = .slice (some ⟨SZ, 0, none⟩) 1 1 | 7 => v_ = v' | _ => True) : Array Bool → Nat → Value → World → Prop) listed kq uq w0 → ((fun (l_ : Array Bool) (j_ : Nat) (v_ : Value) (WW : World) => match j_ with | 0 => v_ = .map (some (w.heap.size + 1)) | 1 => v_ = St x.1.2 | 2 => v_ = .map (some (w.heap.size + 1)) | 3 => v_ = St x.1.2 | 4 => v_ = v | 5 => v_ = .int .i64 (x.1.1 : Int) | 6 => v_ = .slice (some ⟨SZ, 0, none⟩) 1 1 | 7 => v_ = v' | _ => True) : Array Bool → Nat → Value → World → Prop) (listed.setIfInBounds 7 true) kq uq W' from
          (fun kq uq hkp hkl h => by
            have s_ : (listed.setIfInBounds 7 true).getD 7 false = true := getD_here (by rw [hs]; decide)
            match kq, hkp, hkl, h with
            | 0, _, _, h => exact h
            | 1, _, _, h => exact h
            | 2, _, _, h => exact h
            | 3, _, _, h => exact h
            | 4, _, _, h => exact h
            | 5, _, _, h => exact h
            | 6, _, _, h => exact h
            | 7, hk, _, _ => exact absurd rfl hk
            | _ + 8, _, _, _ => exact trivial)
        have h6 := hdeps ⟨6, .data⟩ (by simp) rfl
        have n8 : listed.getD 8 false = false := (by cases hh : listed.getD 8 false with | false => rfl | true => exact absurd (hcl 8 _ rfl hh ⟨7, .data⟩ (by simp) rfl) (by simp [hun]))
        have hw := hI.2.1 h6 hun
        have ha := happ
        rw [← hw] at ha
        exact wpIn_turnv (v := v') (w' := Z) (fun c h => by cases h) rfl (app_op _ _ rfl e15 e17 ha) (hk _ _ rfl (PR w0) ⟨fun e => (by rw [getD_set_ne false (by decide), h6] at e; cases e), fun _ e => (by rw [getD_here (by rw [hs]; decide)] at e; cases e), fun _ _ => rfl, fun e => (by rw [getD_set_ne false (by decide), n8] at e; cases e)⟩)
      · have d0 := hdeps ⟨0, .data⟩ (by simp) rfl
        have d1 := hdeps ⟨1, .data⟩ (by simp) rfl
        have d7 := hdeps ⟨7, .data⟩ (by simp) rfl
        have e11 : a.eval (.tmp 11) = .map (some (w.heap.size + 1)) := (tabd_at ht (t := 11) (of_decide_eq_true (by kernel_rfl)) (by kernel_rfl) d0).trans (hF 0 d0)
        have e12 : a.eval (.tmp 12) = St x.1.2 := (tabd_at ht (t := 12) (of_decide_eq_true (by kernel_rfl)) (by kernel_rfl) d1).trans (hF 1 d1)
        have e18 : a.eval (.tmp 18) = v' := (tabd_at ht (t := 18) (of_decide_eq_true (by kernel_rfl)) (by kernel_rfl) d7).trans (hF 7 d7)
        refine .inl ⟨rfl, fun K hk => ?_⟩
        have PR := fun W' => show ∀ (kq : Nat) (uq : Value), kq ≠ 8 → listed.getD kq false = true → ((fun (l_ : Array Bool) (j_ : Nat) (v_ : Value) (WW : World) => match j_ with | 0 => v_ = .map (some (w.heap.size + 1)) | 1 => v_ = St x.1.2 | 2 => v_ = .map (some (w.heap.size + 1)) | 3 => v_ = St x.1.2 | 4 => v_ = v | 5 => v_ = .int .i64 (x.1.1 : Int) | 6 => v_ = .slice (some ⟨SZ, 0, none⟩) 1 1 | 7 => v_ = v' | _ => True) : Array Bool → Nat → Value → World → Prop) listed kq uq w0 → ((fun (l_ : Array Bool) (j_ : Nat) (v_ : Value) (WW : World) => match j_ with | 0 => v_ = .map (some (w.heap.size + 1)) | 1 => v_ = St x.1.2 | 2 => v_ = .map (some (w.heap.size + 1)) | 3 => v_ = St x.1.2 | 4 => v_ = v | 5 => v_ = .int .i64 (x.1.1 : Int) | 6 => v_ = .slice (some ⟨SZ, 0, none⟩) 1 1 | 7 => v_ = v' | _ => True) : Array Bool → Nat → Value → World → Prop) (listed.setIfInBounds 8 true) kq uq W' from
          (fun kq uq hkp hkl h => by
            have s_ : (listed.setIfInBounds 8 true).getD 8 false = true := getD_here (by rw [hs]; decide)
            match kq, hkp, hkl, h with
            | 0, _, _, h => exact h
            | 1, _, _, h => exact h
            | 2, _, _, h => exact h
            | 3, _, _, h => exact h
            | 4, _, _, h => exact h
            | 5, _, _, h => exact h
            | 6, _, _, h => exact h
            | 7, _, _, h => exact h
            | _ + 8, _, _, _ => exact trivial)
        have h7 := hdeps ⟨7, .data⟩ (by simp) rfl
        have h6 := hcl 7 _ rfl h7 ⟨6, .data⟩ (by simp) rfl
        have hw := hI.2.2.1 h7 hun
        have hp := hput
        rw [← hw] at hp
        refine wpIn_skipv (w' := w2) (fun c h => by cases h) rfl (by
          clear hk hI hoi hdeps ht hF hcl hs KF KP IV PR
          generalize a.eval = ρ at *
          unfold execOp
          simp only [e11, e12, e18]
          go_simp) (hk _ _ trivial (PR w0) ⟨fun e => (by rw [getD_set_ne false (by decide), h6] at e; cases e), fun _ e => (by rw [getD_set_ne false (by decide), h7] at e; cases e), fun _ e => (by rw [getD_here (by rw [hs]; decide)] at e; cases e), fun _ => rfl⟩)
    case hend =>
      intro a w0 listed vals hall ht hF hI
      rw [tabd_fill ht (fun t i ho => hall i (ownAll_lt ho))]
      have g0 : vals 0 = .map (some (w.heap.size + 1)) := hF 0 (by decide)
      have g1 : vals 1 = St x.1.2 := hF 1 (by decide)
      have g2 : vals 2 = .map (some (w.heap.size + 1)) := hF 2 (by decide)
      have g3 : vals 3 = St x.1.2 := hF 3 (by decide)
      have g4 : vals 4 = v := hF 4 (by decide)
      have g5 : vals 5 = .int .i64 (x.1.1 : Int) := hF 5 (by decide)
      have g6 : vals 6 = .slice (some ⟨SZ, 0, none⟩) 1 1 := hF 6 (by decide)
      have g7 : vals 7 = v' := hF 7 (by decide)
      change Exit.inBlock _ (ownPostG _ _ _ _ _ _) Exit.normal { tmps := #[.agg #[.slice vN nl nc, .slice FA fs.length fc], .pointer (some ⟨w.heap.size, 0, none⟩), .map none, .pointer (some ⟨w.heap.size + 1 + 1, 0, none⟩), .int .i64 (x.1.1 : Int), St x.1.2, .map (some (w.heap.size + 1)), .agg #[.slice vN nl nc, .slice FA fs.length fc], .func (.func 52) #[] #[.pointer (some ⟨w.heap.size + 3, 0, none⟩)], .int .i64 (x.1.1 : Int), St x.1.2, vals 0, vals 1, vals 2, vals 3, vals 4, vals 5, vals 6, vals 7, undef], defers := [] } w0
      simp only [g0, g1, g2, g3, g4, g5, g6, g7]
      clear ht hF KF KP IV
      obtain rfl := hI.2.2.2 (hall 8 (by decide))
      exact ⟨hKF, hKQ, hI2⟩
  case done =>
    rintro D ys W hD rfl hI hK
    have hc := lies_cell hI.2.1 0
    simp only [List.getElem?_toArray, List.getElem?_cons_zero] at hc
    have HI := Lib.hid hI
    clear II LT FX3
    gi_wp2
    refine ⟨by simp, .inl ⟨_, _, rfl, run_takeDeferred hK, ?_⟩⟩
    have hI3 := shv_ownFrom w _ (txL (fs.map Fl.data)) W _ (some D) HI.out (grownBy_putObj' W D (.deferred none)) (fun r e => by cases e; exact ⟨by rw [zX] at hD; exact hD, _, hK, rfl⟩)
    refine ⟨.map (some (w.heap.size + 1)), ?_, rfl, ?_, hI3.2.2.2.1⟩
    · simp [results, Try.f42, go_sem]
    · have h9 := hI3.1
      have e : (txL (fs.map Fl.data)).length = fs.length := by unfold txL; rw [txTo_len, List.length_map]
      rw [e] at h9
      exact h9
  case stop =>
    rintro D c pre W _ _ h _
    exact h.elim
theorem shelve_any (vN FA : Option Addr) (nl nc fc : Nat) (fs : List Fl) (w : World) (hF : FilesAt w FA fs) (hd : ∀ x ∈ fs, x.data.length ≤ 100000) (hn0 : fs.length ≤ 1000) :
    Calls Try.prog 42 #[.agg #[.slice vN nl nc, .slice FA fs.length fc]] w fun e W' => e = .returned (.map (some (w.heap.size + 1))) ∧ ShelfAt W' (w.heap.size + 2) (w.heap.size + 1) fs.length (shelfP (txL (fs.map Fl.data))) ∧ Below w.heap.size w W' :=
  (callsIn_wide (n := 4)).1 (shelve_in 4 (by omega) vN FA nl nc fc fs w hF hd hn0)
end Go.Proofs.Ytiglakhfkgeefaa
set_option linter.unusedSimpArgs false
set_option linter.unusedVariables false
namespace Go.Mat
open Go.Pth Go.Tre
abbrev BkK := { i : Nat // i ≤ 100000 }
def bkK (i : Nat) : BkK := ⟨min i 100000, by omega⟩
def bkTo (n k : Nat) : List BkK := (List.range k).map fun j => bkK (n - 1 - j)
theorem bkTo_succ (n k : Nat) : bkTo n (k + 1) = bkTo n k ++ [bkK (n - 1 - k)] := by
  unfold bkTo
  rw [List.range_succ, List.map_append]
  rfl
theorem bkTo_len (n k : Nat) : (bkTo n k).length = k := by simp [bkTo]
theorem bkK_val (i : Nat) (h : i ≤ 100000) : (bkK i).1 = i := Nat.min_eq_left h
def placeStep (ls : List Bt) (F : Bt → Option Int) (k : BkK) : Bt → Option Int := updF F (ls.getD k.1 []) (some (k.1 : Int))
def placesP (ls : List Bt) (pre : List BkK) : Bt → Option Int := pre.foldl (placeStep ls) (fun _ => none)
theorem placesP_snoc (ls : List Bt) (pre : List BkK) (k : BkK) : placesP ls (pre ++ [k]) = placeStep ls (placesP ls pre) k := by unfold placesP; rw [List.foldl_append]; rfl
def stockF (ls : List Bt) : Bt → Option Int := placesP ls (bkTo ls.length ls.length)
end Go.Mat
namespace Go.Proofs.Ytiglakhfkgeefaa
open Go.Pth Go.Tre Go.RowKit Go.Word Go.Shelf Go.Mat
attribute [local go_sem] Oper.semAt_some
def encB (DA : Nat → Option Addr) (dl dc : Nat → Nat) (k : BkK) : Array Value := #[.int .i64 (k.1 : Int), .slice (DA k.1) (dl k.1) (dc k.1)]
set_option maxRecDepth 100000 in
set_option maxHeartbeats 4000000 in
theorem back_stops (nn : Nat) (hnn : 1 ≤ nn) (n : Nat) (hn0 : n ≤ 100000) (Bs b o c : Nat) (A : Option Addr) (DA : Nat → Option Addr) (dl dc : Nat → Nat) (Q : Nat → Prop) (w : World)
    (hb1 : w.cell? ⟨Bs, 0, none⟩ = some (.slice A n c)) (hQB : Q Bs) (hQ : ∀ i, Q i → i < w.heap.size) (hF : ∀ i, i < n → A = some ⟨b, o, none⟩ ∧ Q b ∧ w.cell? ⟨b, o + i, none⟩ = some (.slice (DA i) (dl i) (dc i))) :
    SeqStopsK .wide nn Try.prog 80 #[.pointer (some ⟨Bs, 0, none⟩)] (encB DA dl dc) (KQ Q) (fun ys => ys = bkTo n n) (fun _ => True) n w := fun lp J Jx W hW hJ _ hY h0 => by
  have cB0 := (hW.cell (p := ⟨Bs, 0, none⟩) (hQ Bs hQB)).trans hb1
  have hKW : ∀ i, Q i → W.heap[i]? = w.heap[i]? := fun i hi => hW.block i (hQ i hi)
  have CB := Lib.hid cB0
  have HB := Lib.hid hQB
  have HF := Lib.hid (fun i (hi : i < n) => show A = some ⟨b, o, none⟩ ∧ Q b ∧ W.cell? ⟨b, o + i, none⟩ = some (.slice (DA i) (dl i) (dc i)) from by
    obtain ⟨e, hq, hc⟩ := hF i hi
    exact ⟨e, hq, (World.cell?_of_block (a := ⟨b, o + i, none⟩) (hKW b hq)).trans hc⟩)
  have w1 : wrap64 ((n : Int) - 1) = (n : Int) - 1 := by unfold wrap64; omega
  clear hb1 hF hKW hQ hQB
  refine callsIn_of_wp Try.func80 rfl trivial ?_ rfl
  simp only [Try.ntmps80, List.size_toArray, List.length_cons, List.length_nil, Nat.reduceAdd, Nat.reduceSub, Array.replicate_succ, Array.replicate_zero, List.push_toArray, List.append_toArray, List.nil_append, List.cons_append]
  gi_wp2
  gi_loopw [3] (fun v3 wr => ∃ k : Nat, k ≤ n ∧ v3 = .int .i64 ((n : Int) - 1 - (k : Int)) ∧ J (bkTo n k) wr ∧ (∀ i, Q i → wr.heap[i]? = W.heap[i]?) ∧ W.heap.size ≤ wr.heap.size) (fun v3 _ => (intOf v3 + 1).toNat)
  case atStart => exact ⟨0, Nat.zero_le _, by simp, by simpa [bkTo] using h0, fun _ _ => rfl, Nat.le_refl _⟩
  case round =>
    obtain ⟨k, hk, rfl, hJr, hK, hz⟩ := hrel
    have HJR := Lib.hid hJr
    have HK := Lib.hid hK
    have HZ := Lib.hid hz
    have cB1 := (World.cell?_of_block (a := ⟨Bs, 0, none⟩) (hK Bs HB.out)).trans CB.out
    clear cB0 hJr hK hz
    by_cases hlt : k < n
    · obtain ⟨i, hi⟩ : ∃ i : Nat, i = n - 1 - k := ⟨_, rfl⟩
      have ei : (n : Int) - 1 - (k : Int) = (i : Int) := by omega
      have hin : i < n := by omega
      obtain ⟨eA, hq, hc⟩ := HF.out i hin
      subst eA
      have d1 := (World.cell?_of_block (a := ⟨b, o + i, none⟩) (HK.out b hq)).trans hc
      have FD := Lib.hid (bkTo_succ n k)
      have FV := Lib.hid (bkK_val i (by omega))
      rw [← hi] at FD
      have li : (i : Int) < (n : Int) := by omega
      have l0 : (0 : Int) ≤ (i : Int) := by omega
      have w2 : wrap64 ((i : Int) - 1) = (i : Int) - 1 := by unfold wrap64; omega
      obtain ⟨fn, tmps, assign, body, hy, hR⟩ := hY (bkTo n k) (bkK i) _ HJR.out (by rw [bkTo_len]; exact hlt)
      dsimp only [encB] at hy
      rw [FV.out] at hy
      rw [ei]
      have EI := Lib.hid ei
      have HI := Lib.hid hi
      generalize DA i = da at *
      generalize dl i = dn at *
      generalize dc i = dk at *
      clear hc ei hi
      gi_wp2
      refine hR.mono ?_
      rintro e W4 (⟨rfl, hJ4, hk4⟩ | ⟨rfl, hJx4⟩)
      · have J4 := Lib.hid (show J (bkTo n (k + 1)) W4 by rw [FD.out]; exact hJ4)
        have KH4 := Lib.hid (show ∀ i, Q i → W4.heap[i]? = W.heap[i]? from fun i h1 => (hk4.1 i h1).trans (HK.out i h1))
        have Z4 := Lib.hid (Nat.le_trans HZ.out hk4.2)
        clear hJ4 hk4
        gi_wp2
        go_roundw
        case rel => exact ⟨k + 1, by omega, by have := EI.out; congr 1; omega, J4.out, KH4.out, Z4.out⟩
        case measure => first | (simp [intOf]; done) | (simp [intOf]; omega)
      · gi_wp2
        refine bodyPost_ret (results_none rfl _ _ _) rfl ?_
        exact ⟨⟨_, rfl⟩, .inr ⟨_, trivial, hJx4⟩⟩
    · obtain rfl : k = n := by omega
      have e1 : (k : Int) - 1 - (k : Int) = -1 := by omega
      rw [e1]
      gi_wp2
      go_end0
      exact ⟨⟨_, rfl⟩, .inl ⟨_, rfl, HJR.out⟩⟩
theorem back_in (n : Nat) (A : Option Addr) (k c : Nat) (w : World) :
    CallsIn .wide n Try.prog 62 #[.slice A k c] w fun e w' => e = .returned (.func (.func 80) #[] #[.pointer (some ⟨w.heap.size, 0, none⟩)]) ∧ w' = w.alloc (.cells #[.slice A k c] 26) := by
  refine callsIn_of_wp Try.func62 rfl trivial ?_ rfl
  simp only [Try.ntmps62, List.size_toArray, List.length_cons, List.length_nil, Nat.reduceAdd, Nat.reduceSub, Array.replicate_succ, Array.replicate_zero, List.push_toArray, List.append_toArray, List.nil_append, List.cons_append]
  gi_wp2
  go_ret
  exact ⟨rfl, rfl⟩
/-- what the loop over a stock keeps -/
def PlcI (w : World) (ls : List Bt) (pre : List BkK) (W : World) : Prop := NumM W w.heap.size pre.length (placesP ls pre) ∧ Lies W (w.heap.size + 1) 85 #[.map (some w.heap.size)] ∧ Below w.heap.size w W ∧ w.heap.size + 3 ≤ W.heap.size ∧ (∀ i, i = w.heap.size + 2 → ∃ cs, Lies W i 26 cs)
def PlcQ (w : World) (i : Nat) : Prop := i < w.heap.size ∨ i = w.heap.size + 2
theorem plc_ownFrom (w : World) (ls : List Bt) : OwnFrom (w.heap.size + 3) (PlcI w ls) := fun s W W' row ⟨h1, h2, h3, h4, h5⟩ hg hr =>
  ⟨numM_same h1 (hg.block _ (numM_lt h1) (fun e => by have := (hr _ e.symm).1; omega)), lies_ownFrom h2 hg hr, h3.grown hg (Nat.le_trans (by omega) h4) (fun k e => by have := (hr k e).1; omega), Nat.le_trans h4 hg.size, fun i hi => by obtain ⟨cs, h⟩ := h5 i hi; exact ⟨cs, lies_ownFrom h hg hr⟩⟩
def ListQ (w : World) (A : Option Addr) (ls : List Bt) : Prop := ∀ i (h : i < ls.length), ∃ b o DA dc, A = some ⟨b, o, none⟩ ∧ b < w.heap.size ∧
  w.cell? ⟨b, o + i, none⟩ = some (.slice DA ls[i].length dc) ∧ BytesAt w DA ls[i]
theorem listQ_below {w w' : World} {A : Option Addr} {ls : List Bt} (h : ListQ w A ls) (hb : Below w.heap.size w w') : ListQ w' A ls := fun i hi => by
  obtain ⟨b, o, DA, dc, e, hl, h1, h3⟩ := h i hi
  exact ⟨b, o, DA, dc, e, Nat.lt_of_lt_of_le hl hb.size, (hb.cell (p := ⟨b, o + i, none⟩) hl).trans h1, bytesAt_below h3 hb⟩
set_option maxRecDepth 100000 in
set_option maxHeartbeats 4000000 in
theorem places_in (n : Nat) (hn : 4 ≤ n) (A : Option Addr) (c : Nat) (ls : List Bt) (w : World) (hL : ListQ w A ls) (hd : ∀ x ∈ ls, x.length ≤ 100000) (hn0 : ls.length ≤ 80000) :
    CallsIn .wide n Try.prog 45 #[.slice A ls.length c] w fun e W' => e = .returned (.map (some w.heap.size)) ∧ NumM W' w.heap.size ls.length (stockF ls) ∧ Below w.heap.size w W' := by
  have h1 : 1 ≤ n := by omega
  have hmm := @run_makeMap Try.prog
  -- the slices, as functions of their places
  have hsl : ∃ (b o : Nat) (DA : Nat → Option Addr) (dc : Nat → Nat), ∀ i (h : i < ls.length), A = some ⟨b, o, none⟩ ∧ b < w.heap.size ∧ w.cell? ⟨b, o + i, none⟩ = some (.slice (DA i) (ls.getD i []).length (dc i)) ∧ BytesAt w (DA i) (ls.getD i []) := by
    by_cases h0 : 0 < ls.length
    · obtain ⟨b, o, _, _, e, _⟩ := hL 0 h0
      have hL2 : ∀ i (hi : i < ls.length), ∃ DA dc, b < w.heap.size ∧ w.cell? ⟨b, o + i, none⟩ = some (.slice DA (ls.getD i []).length dc) ∧ BytesAt w DA (ls.getD i []) := fun i hi => by
        obtain ⟨b', o', DA, dc, e', s2, s3, s4⟩ := hL i hi
        rw [e] at e'
        injection e' with e'
        injection e' with a1 a2 _
        subst a1 a2
        have e2 : ls.getD i [] = ls[i] := by simp [List.getD_eq_getElem?_getD, List.getElem?_eq_getElem hi]
        exact ⟨DA, dc, s2, by rw [e2]; exact s3, by rw [e2]; exact s4⟩
      refine ⟨b, o, fun i => if h : i < ls.length then Classical.choose (hL2 i h) else none, fun i => if h : i < ls.length then Classical.choose (Classical.choose_spec (hL2 i h)) else 0, fun i hi => ?_⟩
      simp only [dif_pos hi]
      exact ⟨e, Classical.choose_spec (Classical.choose_spec (hL2 i hi))⟩
    · exact ⟨0, 0, fun _ => none, fun _ => 0, fun i hi => absurd hi (by omega)⟩
  obtain ⟨b, o, DA, dc, hsl⟩ := hsl
  have HD := Lib.hid (show ∀ i, (ls.getD i []).length ≤ 100000 from fun i => by
    by_cases hi : i < ls.length
    · rw [show ls.getD i [] = ls[i] by simp [List.getD_eq_getElem?_getD, List.getElem?_eq_getElem hi]]
      exact hd _ (List.getElem_mem hi)
    · rw [List.getD_eq_getElem?_getD, List.getElem?_eq_none (by omega)]; simp)
  obtain ⟨m, hme⟩ : ∃ m, m = ls.length := ⟨_, rfl⟩
  have ME := Lib.hid hme
  rw [← hme] at hn0 hsl ⊢
  have HS := Lib.hid hsl
  clear hL hd hme hsl
  refine callsIn_of_wp_marks Try.func45 rfl trivial ?_ rfl
  simp only [Try.ntmps45, List.size_toArray, List.length_cons, List.length_nil, Nat.reduceAdd, Nat.reduceSub, Array.replicate_succ, Array.replicate_zero, List.push_toArray, List.append_toArray, List.nil_append, List.cons_append]
  gi_wp2_with (refine ⟨trivial, ?_⟩; gi_at_call 62; refine (back_in (n - 1) _ _ _ _).mono ?_; rintro e w' ⟨rfl, rfl⟩)
  have N0 := numM_same (numM_same (numM_made w) (heap_alloc_old (w.alloc (.map #[] 0)) (.cells #[.map (some w.heap.size)] 85) (by simp))) (heap_alloc_old ((w.alloc (.map #[] 0)).alloc (.cells #[.map (some w.heap.size)] 85)) (.cells #[.slice A m c] 26) (by simp; omega))
  have L0 := lies_alloc (lies_new (w.alloc (.map #[] 0)) 85 #[.map (some w.heap.size)]) (.cells #[.slice A m c] 26)
  have LT := lies_new ((w.alloc (.map #[] 0)).alloc (.cells #[.map (some w.heap.size)] 85)) 26 #[.slice A m c]
  have B0 : Below w.heap.size w (((w.alloc (.map #[] 0)).alloc (.cells #[.map (some w.heap.size)] 85)).alloc (.cells #[.slice A m c] 26)) := (((Below.refl _ w).alloc (Nat.le_refl _) _).alloc (by simp) _).alloc (by simp; omega) _
  have zX : (((w.alloc (.map #[] 0)).alloc (.cells #[.map (some w.heap.size)] 85)).alloc (.cells #[.slice A m c] 26)).heap.size = w.heap.size + 3 := by simp
  rw [World.size_alloc] at L0 LT
  rw [World.size_alloc] at LT
  generalize ((w.alloc (.map #[] 0)).alloc (.cells #[.map (some w.heap.size)] 85)).alloc (.cells #[.slice A m c] 26) = X at *
  have II := Lib.hid (show PlcI w ls [] X from ⟨N0, L0, B0, by omega, fun i hi => ⟨_, hi ▸ LT⟩⟩)
  have BX := Lib.hid B0
  refine wpIn_rangeFunc_ownG rfl h1 (gf := 80) (lb := #[.pointer (some ⟨w.heap.size + 2, 0, none⟩)]) rfl trivial (enters_of Try.func80 (by kernel_rfl) rfl)
    (back_stops (n - 1) (by omega) m (by omega) (w.heap.size + 2) b o c A DA (fun i => (ls.getD i []).length) dc (PlcQ w) X (lies_cell LT 0) (.inr rfl) (fun i hi => by rcases hi with hi | hi <;> omega) (fun i hi => by obtain ⟨e, hb, hc, _⟩ := HS.out i hi; exact ⟨e, .inl hb, (BX.out.cell (p := ⟨b, o + i, none⟩) hb).trans hc⟩)) kq_t (kq_b (fun i hi => by rcases hi with hi | hi <;> omega)) (Below.refl _ _) (fun _ => rfl)
    (PlcI w ls) (fun _ _ _ => False) (zX.symm ▸ plc_ownFrom w ls) (fun _ _ _ _ _ hs _ _ => hs) II.out
    (fun x => { tmps := #[.slice A m c, undef, .map none, .pointer (some ⟨w.heap.size + 1, 0, none⟩), .int .i64 (x.1 : Int), .slice (DA x.1) (ls.getD x.1 []).length (dc x.1), .map (some w.heap.size), .slice A m c, .func (.func 80) #[] #[.pointer (some ⟨w.heap.size + 2, 0, none⟩)], .int .i64 (x.1 : Int), .slice (DA x.1) (ls.getD x.1 []).length (dc x.1), undef, undef, undef, undef, undef], defers := [] })
    ?assign ?body ?done ?stop
  case assign =>
    intro l x W K hK
    dsimp only [encB]
    gi_wp2
    exact hK
  case body =>
    rintro lp pre x W ⟨h1', h2', h3', h4', h5'⟩ hlt
    rw [zX]
    have hby : BytesAt W (DA x.1) (ls.getD x.1 []) := by
      by_cases hi : x.1 < m
      · exact bytesAt_below (HS.out x.1 hi).2.2.2 h3'
      · rw [show ls.getD x.1 [] = [] by rw [List.getD_eq_getElem?_getD, List.getElem?_eq_none (by have := ME.out; omega)]; rfl]
        exact fun j hj => by cases hj
    have cv := run_text47 (DA x.1) (ls.getD x.1 []) (dc x.1) W hby
    obtain ⟨w2, hp, hN2, hg2⟩ := numM_put h1' (ls.getD x.1 []) (HD.out x.1) (by omega) (x.1 : Int) (wf_int (by omega) (by have := x.2; omega))
    have P2 := Lib.hid hp
    have c3 := lies_cell h2' 0
    simp only [List.getElem?_toArray, List.getElem?_cons_zero] at c3
    have hfin : PlcI w ls (pre ++ [x]) w2 := ⟨by rw [placesP_snoc, List.length_append]; exact hN2, (hg2.block _ (lies_lt h2') (fun e => by injection e with e; omega)).trans h2', h3'.grown hg2 (by omega) (fun k e => by injection e with e; omega), Nat.le_trans h4' hg2.size, fun i hi => by obtain ⟨cs, h⟩ := h5' i hi; exact ⟨cs, (hg2.block _ (lies_lt h) (fun e => by injection e with e; omega)).trans h⟩⟩
    have FI := Lib.hid hfin
    have KQ2 := Lib.hid (show KQ (PlcQ w) W w2 from ⟨fun i hi => hg2.block i (by rcases hi with hi | hi <;> omega) (fun e => by injection e with e; rcases hi with hi | hi <;> omega), hg2.size⟩)
    have KF2 := Lib.hid (KeepsFrom.of_grownBy (B := w.heap.size + 3) hg2 (fun j e => by injection e with e; omega))
    clear h1' h2' h3' h4' h5' hby hp hN2 hg2 hfin N0 L0 LT B0
    generalize (ls.getD x.1 []).length = dn at *
    gi_wp2_with (gi_at_mapUpdate; refine wpListIn_put_eq rfl _ _ _ 85 rfl (.map (some w.heap.size)) (St (ls.getD x.1 [])) (.int .i64 (x.1 : Int)) rfl rfl rfl P2.out ?_)
    exact ⟨KF2.out, KQ2.out, FI.out⟩
  case done =>
    rintro D ys W hD rfl hI hK
    have hc := lies_cell hI.2.1 0
    simp only [List.getElem?_toArray, List.getElem?_cons_zero] at hc
    have HI := Lib.hid hI
    clear N0 L0 LT B0
    gi_wp2
    refine ⟨by simp, .inl ⟨_, _, rfl, run_takeDeferred hK, ?_⟩⟩
    have hI3 := plc_ownFrom w ls (bkTo m m) W _ (some D) HI.out (grownBy_putObj' W D (.deferred none)) (fun r e => by cases e; exact ⟨by rw [zX] at hD; exact hD, _, hK, rfl⟩)
    refine ⟨.map (some w.heap.size), ?_, rfl, ?_, hI3.2.2.1⟩
    · simp [results, Try.f45, go_sem]
    · have h9 := hI3.1
      rw [bkTo_len] at h9
      unfold stockF
      rw [← ME.out]
      exact h9
  case stop =>
    rintro D c pre W _ _ h _
    exact h.elim
theorem places_any (A : Option Addr) (c : Nat) (ls : List Bt) (w : World) (hL : ListQ w A ls) (hd : ∀ x ∈ ls, x.length ≤ 100000) (hn0 : ls.length ≤ 80000) :
    Calls Try.prog 45 #[.slice A ls.length c] w fun e W' => e = .returned (.map (some w.heap.size)) ∧ NumM W' w.heap.size ls.length (stockF ls) ∧ Below w.heap.size w W' :=
  (callsIn_wide (n := 4)).1 (places_in 4 (by omega) A c ls w hL hd hn0)
end Go.Proofs.Ytiglakhfkgeefaa
set_option linter.unusedSimpArgs false
set_option linter.unusedVariables false
namespace Go.Mat
open Go.Pth Go.Tre
def nameStep (N : Nat → List Bt) (x : Nd) : Nat → List Bt := if 0 ≤ x.file then fun f => if f = x.file.toNat then N f ++ [x.path] else N f else N
def namesM (ns : List Nd) : Nat → List Bt := ns.foldl nameStep (fun _ => [])
theorem namesM_succ (ns : List Nd) (i : Nat) (h : i < ns.length) : namesM (ns.take (i + 1)) = nameStep (namesM (ns.take i)) ns[i] := by
  unfold namesM
  rw [List.take_succ_eq_append_getElem h, List.foldl_append]
  rfl
theorem namesM_len (ns : List Nd) (f : Nat) : (namesM ns f).length ≤ ns.length := by
  have go : ∀ (l : List Nd) (N : Nat → List Bt), (l.foldl nameStep N f).length ≤ (N f).length + l.length := by
    intro l
    induction l with
    | nil => intro N; simp
    | cons x r ih =>
      intro N
      rw [List.foldl_cons]
      refine Nat.le_trans (ih _) ?_
      have : (nameStep N x f).length ≤ (N f).length + 1 := by
        unfold nameStep
        split
        · by_cases e : f = x.file.toNat
          · simp [e]
          · simp [e]
        · omega
      simp only [List.length_cons]
      omega
  have := go ns (fun _ => [])
  unfold namesM
  simpa using this
end Go.Mat
namespace Go.Proofs.Ytiglakhfkgeefaa
open Go.Pth Go.Tre Go.RowKit Go.Word Go.Shelf Go.Mat
theorem strn_info : (Try.prog.info? 9).map (fun i => (i.zero, i.size, i.bytes)) = some (some (.string { data := #[] }), 1, 16) := by kernel_rfl
theorem texts_info : (Try.prog.info? 56).map (fun i => (i.zero, i.size, i.bytes)) = some (some (.slice none 0 0), 1, 24) := by kernel_rfl
/-- a list of lists of texts: one row of slices in block g, each with a row of its own from 'base' on -/
def NmsAt (w : World) (g base k : Nat) (nm : Nat → List Bt) : Prop := ∃ cs : Array Value, Lies w g 56 cs ∧ cs.size = k ∧ (∀ f, f < k → w.ownsRow base 9 1 (cs.getD f undef) (nm f).length ((nm f).map St)) ∧ ∀ f h, f < k → h < k → f ≠ h → (cs.getD f undef).ownBlock = none ∨ (cs.getD f undef).ownBlock ≠ (cs.getD h undef).ownBlock
theorem nms_at {w : World} {g base k : Nat} {nm : Nat → List Bt} (h : NmsAt w g base k nm) (f : Nat) (hf : f < k) : ∃ A C, w.cell? ⟨g, f, none⟩ = some (.slice A (nm f).length C) ∧ TextsAt w A (nm f) := by
  obtain ⟨cs, hl, hs, hr, _⟩ := h
  have ho := hr f hf
  have hc := lies_cell hl f
  rw [Array.getElem?_eq_getElem (by omega)] at hc
  have e : cs.getD f undef = cs[f] := by simp [Array.getD, show f < cs.size by omega]
  rw [e] at ho
  rcases ho.2 with ⟨e1, e0⟩ | ⟨q, cap, cur, e1, hq, hb, _⟩
  · rw [e1] at hc
    refine ⟨none, 0, by rw [hc, e0], fun j hj => by omega⟩
  · rw [e1] at hc ho
    refine ⟨_, _, hc, fun j hj => ⟨q, 0, rfl, (Array.getElem?_eq_some_iff.1 hb).1, ?_⟩⟩
    rw [Nat.zero_add, ho.cellAt j (by omega)]
    simp [hj]
theorem nms_lt {w : World} {g base k : Nat} {nm : Nat → List Bt} (h : NmsAt w g base k nm) : g < w.heap.size := by
  obtain ⟨cs, hl, _⟩ := h
  exact lies_lt hl
theorem nms_grown0 {w w' : World} {g base k : Nat} {nm : Nat → List Bt} (h : NmsAt w g base k nm) (hg : w.grownBy w' none) : NmsAt w' g base k nm := by
  obtain ⟨cs, hl, hs, hr, ha⟩ := h
  exact ⟨cs, (hg.block g (lies_lt hl) (by simp)).trans hl, hs, fun f hf => (hr f hf).kept hg (by cases (cs.getD f undef).ownBlock <;> simp), ha⟩
def NmI (w : World) (k : Nat) (nm : Nat → List Bt) (W : World) : Prop := NmsAt W (w.heap.size + 1) (w.heap.size + 2) k nm ∧ Below w.heap.size w W ∧ w.heap.size + 2 ≤ W.heap.size
set_option maxRecDepth 100000 in
theorem names_round (w X : World) (k nb : Nat) (nm : Nat → List Bt) (p : Bt) (fn : Nat) (md : Int) (h : NmI w k nm X) (hf : fn < k) (hl : (nm fn).length ≤ 100000) (hb : Lies X nb 60 #[St p, .int .i64 (fn : Int), .int .i64 md]) (hnb : nb ≠ w.heap.size + 1) (hp : p.length ≤ 100000) :
    ∃ A C A' C' Z, X.cell? ⟨w.heap.size + 1, fn, none⟩ = some (.slice A (nm fn).length C) ∧ (Builtin.append_ #[56, 56] 56 #[.slice A (nm fn).length C, .slice (some ⟨X.heap.size, 0, none⟩) 1 1]).run Try.prog ((X.drewN 1).alloc (.cells #[St p] 9)) = .ok (.slice A' ((nm fn).length + 1) C') Z ∧
      Lies ((X.drewN 1).alloc (.cells #[St p] 9)) nb 60 #[St p, .int .i64 (fn : Int), .int .i64 md] ∧ Lies Z nb 60 #[St p, .int .i64 (fn : Int), .int .i64 md] ∧ ((X.drewN 1).alloc (.cells #[St p] 9)).cell? ⟨w.heap.size + 1, fn, none⟩ = some (.slice A (nm fn).length C) ∧ (∃ u, Z.cell? ⟨w.heap.size + 1, fn, none⟩ = some u) ∧ Z.frozen? ⟨w.heap.size + 1, fn, none⟩ = false ∧
      NmI w k (fun f => if f = fn then nm f ++ [p] else nm f) (Z.setCell ⟨w.heap.size + 1, fn, none⟩ (.slice A' ((nm fn).length + 1) C')) := by
  obtain ⟨⟨cs, hl1, hs, hr, ha⟩, hB, hsz⟩ := h
  have ho := hr fn hf
  have e : cs.getD fn undef = cs[fn] := by simp [Array.getD, show fn < cs.size by omega]
  have hc := lies_cell hl1 fn
  rw [Array.getElem?_eq_getElem (by omega)] at hc
  obtain ⟨A, C, ev⟩ : ∃ A C, cs.getD fn undef = .slice A (nm fn).length C := by
    rcases ho.2 with ⟨e1, e0⟩ | ⟨q, cap, cur, e1, _⟩
    · exact ⟨none, 0, by rw [e1, e0]⟩
    · exact ⟨_, _, e1⟩
  rw [← e, ev] at hc
  have gB : X.grownBy ((X.drewN 1).alloc (.cells #[St p] 9)) none := ⟨rfl, rfl, rfl, by simp, fun i hi _ => heap_alloc_old (X.drewN 1) _ hi⟩
  have hoB := ho.kept gB (by cases (cs.getD fn undef).ownBlock <;> simp)
  rw [ev] at hoB
  obtain ⟨i0, hi, hz0, hz1, hz2⟩ := info_parts strn_info
  have L := lies_new (X.drewN 1) 9 #[St p]
  obtain ⟨v', Z, hrun, hoz, hgz, _, hvz⟩ := run_append_own_at (P := Try.prog) ((X.drewN 1).alloc (.cells #[St p] 9)) (w.heap.size + 2) 56 56 9 i0 (.string { data := #[] }) 1 16 Try.underlying56 hi hz0 hz1 hz2 rfl (by decide) (.slice A (nm fn).length C) (nm fn).length ((nm fn).map St) hoB ⟨X.heap.size, 0, none⟩ 1 1 [St p] rfl (fun q u hq => by
    match q, hq with
    | 0, hq => injection hq with hq; subst hq; exact lies_cell L 0
    | q + 1, hq => simp at hq) (fun u hu => by simp at hu; subst hu; rfl) (by unfold maxLen; omega) (by omega) (by simp; omega)
  obtain ⟨A', C', rfl⟩ : ∃ A' C', v' = .slice A' ((nm fn).length + 1) C' := by
    rcases hoz.2 with ⟨e1, e0⟩ | ⟨q, cap, cur, e1, _⟩
    · omega
    · exact ⟨_, _, e1⟩
  have hv : ∀ r, (Value.slice A (nm fn).length C).ownBlock = some r → w.heap.size + 2 ≤ r ∧ ∃ cs', X.heap[r]? = some (.cells cs' 9 (0, 0)) := fun r er => by
    rw [← ev] at er
    refine ⟨(ho.lt r er).1, ?_⟩
    rcases ho.2 with ⟨e1, _⟩ | ⟨q, cap, cur, e1, _, h6, _⟩
    · rw [e1] at er; simp [Value.ownBlock] at er
    · rw [e1] at er
      simp only [Value.ownBlock, Option.some.injEq] at er
      subst er
      exact ⟨_, h6⟩
  have gZ : X.grownBy Z (Value.slice A (nm fn).length C).ownBlock := ⟨hgz.os.trans gB.os, hgz.tape.trans gB.tape, hgz.output.trans gB.output, Nat.le_trans gB.size hgz.size, fun i hi hne => (hgz.block i (Nat.lt_of_lt_of_le hi gB.size) hne).trans (gB.block i hi (by simp))⟩
  have kl : ∀ {g t cs'}, Lies X g t cs' → t ≠ 9 → Lies Z g t cs' := fun {g t cs'} hl ht => (gZ.block g (lies_lt hl) (fun e => by
    obtain ⟨_, cs'', h6⟩ := hv g e.symm
    rw [show _ = _ from hl] at h6
    injection h6 with h6
    injection h6 with _ h6 _
    exact ht h6)).trans hl
  have hlB := (gB.block _ (lies_lt hl1) (by simp)).trans hl1
  have hcB : ((X.drewN 1).alloc (.cells #[St p] 9)).cell? ⟨w.heap.size + 1, fn, none⟩ = some (.slice A (nm fn).length C) := (World.cell?_of_block (a := ⟨w.heap.size + 1, fn, none⟩) (gB.block _ (lies_lt hl1) (by simp))).trans hc
  have hlZ := kl hl1 (by decide)
  have gS : Z.grownBy (Z.setCell ⟨w.heap.size + 1, fn, none⟩ (.slice A' ((nm fn).length + 1) C')) (some (w.heap.size + 1)) :=
    ⟨rfl, rfl, rfl, by simp, fun i hi hne => heap_setCell_other Z ⟨w.heap.size + 1, fn, none⟩ i _ (fun e => hne (by rw [e]))⟩
  refine ⟨A, C, A', C', Z, hc, hrun, (gB.block _ (lies_lt hb) (by simp)).trans hb, kl hb (by decide), hcB, ⟨_, by rw [lies_cell hlZ, Array.getElem?_eq_getElem (by omega)]⟩, lies_free hlZ fn, ⟨cs.setIfInBounds fn (.slice A' ((nm fn).length + 1) C'), lies_set hlZ fn _, by simp [hs], fun f hfk => ?_, fun f h hfk hhk hne => ?_⟩, (hB.grown gZ (by omega) (fun r er => by have := (hv r er).1; omega)).grown gS (Nat.le_trans (by omega) gZ.size) (fun r er => by injection er with er; omega), Nat.le_trans hsz (Nat.le_trans gZ.size gS.size)⟩
  · by_cases ef : f = fn
    · subst ef
      have e5 : (cs.setIfInBounds f (.slice A' ((nm f).length + 1) C')).getD f undef = .slice A' ((nm f).length + 1) C' := by simp [Array.getD, show f < cs.size by omega]
      rw [e5]
      simp only [reduceIte]
      rw [List.length_append, List.map_append]
      exact hoz.kept gS (by
        cases hv' : (Value.slice A' ((nm f).length + 1) C').ownBlock with
        | none => exact .inl rfl
        | some r => exact .inr (fun e => by have := (hoz.lt r hv').1; injection e with e; omega))
    · have e5 : (cs.setIfInBounds fn (.slice A' ((nm fn).length + 1) C')).getD f undef = cs.getD f undef := by
        rw [Array.getD_eq_getD_getElem?, Array.getD_eq_getD_getElem?, Array.getElem?_setIfInBounds_ne (Ne.symm ef)]
      rw [e5]
      simp only [ef, reduceIte]
      have h7 := (hr f hfk).kept gZ (by rw [← ev]; exact ha f fn hfk hf ef)
      exact h7.kept gS (by
        cases hv' : (cs.getD f undef).ownBlock with
        | none => exact .inl rfl
        | some r => exact .inr (fun e => by have := (h7.lt r hv').1; injection e with e; omega))
  · have newb : ∀ f, f < k → f ≠ fn → (cs.getD f undef).ownBlock = none ∨ (cs.getD f undef).ownBlock ≠ (Value.slice A' ((nm fn).length + 1) C').ownBlock := fun f hfk ef => by
      rcases hvz with e6 | e6
      · rw [e6, ← ev]; exact ha f fn hfk hf ef
      · rw [e6]
        cases hv' : (cs.getD f undef).ownBlock with
        | none => exact .inl rfl
        | some r => exact .inr (fun e => by have := ((hr f hfk).lt r hv').2; injection e with e; simp at e; omega)
    have at1 : ∀ f, f ≠ fn → (cs.setIfInBounds fn (.slice A' ((nm fn).length + 1) C')).getD f undef = cs.getD f undef := fun f ef => by
      rw [Array.getD_eq_getD_getElem?, Array.getD_eq_getD_getElem?, Array.getElem?_setIfInBounds_ne (Ne.symm ef)]
    have at2 : (cs.setIfInBounds fn (.slice A' ((nm fn).length + 1) C')).getD fn undef = .slice A' ((nm fn).length + 1) C' := by simp [Array.getD, show fn < cs.size by omega]
    by_cases e1 : f = fn
    · subst e1
      rw [at2, at1 h (Ne.symm hne)]
      have := newb h hhk (Ne.symm hne)
      cases h8 : (Value.slice A' ((nm f).length + 1) C').ownBlock with
      | none => exact .inl rfl
      | some r =>
        refine .inr (fun e => ?_)
        rcases this with h9 | h9
        · rw [h9] at e; cases e
        · exact h9 (by rw [h8, e])
    · rw [at1 f e1]
      by_cases e2 : h = fn
      · subst e2
        rw [at2]
        exact newb f hfk e1
      · rw [at1 h e2]
        exact ha f h hfk hhk hne
end Go.Proofs.Ytiglakhfkgeefaa
set_option linter.unusedSimpArgs false
set_option linter.unusedVariables false
namespace Go.Proofs.Ytiglakhfkgeefaa
open Go.Pth Go.Tre Go.RowKit Go.Word Go.Shelf Go.Mat
theorem made_lists (w : World) (k : Nat) (hk : k ≤ 1000) : (Instr.makeSlice 87 (.int .i64 (k : Int)) (.int .i64 (k : Int))).run Try.prog w = .ok (.slice (some ⟨w.heap.size, 0, none⟩) k k) (w.alloc (.cells (madeCells #[.slice none 0 0] k) 56)) := by
  obtain ⟨i, hi, hz, hs, hb⟩ := info_parts texts_info
  have h := run_make (P := Try.prog) w 87 56 i (.slice none 0 0) Try.underlying87 hi hz .i64 .i64 k k (by omega) (Int.le_refl _) (by rw [hb]; omega) (by omega)
  rw [hs, Nat.mul_one] at h
  exact h
theorem nms_made (w : World) (k : Nat) : NmsAt (w.alloc (.cells (madeCells #[.slice none 0 0] k) 56)) w.heap.size (w.heap.size + 1) k (fun _ => []) := by
  refine ⟨_, lies_new w 56 _, size_madeCells _ _, fun f hf => ?_, fun f h hf hh hne => ?_⟩
  · have e : (madeCells #[.slice none 0 0] k).getD f undef = .slice none 0 0 := by
      have : f < (madeCells #[.slice none 0 0] k).size := by rw [size_madeCells]; exact hf
      simp [Array.getD, madeCells, hf, Nat.mod_one]
    rw [e]
    exact World.ownsRow_nil _ _ _ _
  · have e : (madeCells #[.slice none 0 0] k).getD f undef = .slice none 0 0 := by
      have : f < (madeCells #[.slice none 0 0] k).size := by rw [size_madeCells]; exact hf
      simp [Array.getD, madeCells, hf, Nat.mod_one]
    rw [e]
    exact .inl rfl
theorem node_of_lies {w : World} {g : Nat} {t : TypeId} {x y z : Value} (h : Lies w g t #[x, y, z]) : w.cell? ⟨g, 0, none⟩ = some x ∧ w.cell? ⟨g, 1, none⟩ = some y ∧ w.cell? ⟨g, 2, none⟩ = some z := by
  have a := lies_cell h 0
  have b := lies_cell h 1
  have c := lies_cell h 2
  simp only [List.getElem?_toArray, List.getElem?_cons_zero, List.getElem?_cons_succ] at a b c
  exact ⟨a, b, c⟩
set_option maxRecDepth 100000 in
set_option maxHeartbeats 1000000 in
theorem names_any (NA FA : Option Addr) (nc fc : Nat) (ns : List Nd) (fs : List Fl) (w : World) (hN : NodesAt w NA ns) (hn0 : ns.length ≤ 1000) (hk0 : fs.length ≤ 1000) (hp : ∀ x ∈ ns, x.path.length ≤ 100000) (hfl : ∀ x ∈ ns, -1 ≤ x.file ∧ x.file < fs.length) :
    Calls Try.prog 44 #[.agg #[.slice NA ns.length nc, .slice FA fs.length fc]] w fun e w' => (e = .returned (.slice (some ⟨w.heap.size + 1, 0, none⟩) fs.length fs.length) ∧ NmsAt w' (w.heap.size + 1) (w.heap.size + 2) fs.length (namesM ns)) ∧ Below w.heap.size w w' := by
  obtain ⟨n, hne⟩ : ∃ n, n = ns.length := ⟨_, rfl⟩
  obtain ⟨k, hke⟩ : ∃ k, k = fs.length := ⟨_, rfl⟩
  have NE := Lib.hid hne
  have HN := Lib.hid hN
  have HP := Lib.hid hp
  have HF := Lib.hid (show ∀ x ∈ ns, -1 ≤ x.file ∧ x.file < (k : Int) by rw [hke]; exact hfl)
  rw [← hne] at hn0 ⊢
  rw [← hke] at hk0 ⊢
  have g1 : Below w.heap.size w (w.alloc (.cells #[.slice NA n nc, .slice FA k fc] 25)) := (Below.refl _ _).alloc (Nat.le_refl _) _
  have L1 := lies_new w 25 #[.slice NA n nc, .slice FA k fc]
  have c1 : (w.alloc (.cells #[.slice NA n nc, .slice FA k fc] 25)).cell? ⟨w.heap.size, 1, none⟩ = some (.slice FA k fc) := lies_cell L1 1
  have x0 : ((w.alloc (.cells #[.slice NA n nc, .slice FA k fc] 25)).alloc (.cells (madeCells #[.slice none 0 0] k) 56)).cell? ⟨w.heap.size, 0, none⟩ = some (.slice NA n nc) := lies_cell (lies_alloc L1 _) 0
  have N0 := nms_made (w.alloc (.cells #[.slice NA n nc, .slice FA k fc] 25)) k
  have MD := made_lists (w.alloc (.cells #[.slice NA n nc, .slice FA k fc] 25)) k hk0
  have B0 := Lib.hid (g1.alloc (by simp) (.cells (madeCells #[.slice none 0 0] k) 56))
  have Z0 := Lib.hid (show ((w.alloc (.cells #[.slice NA n nc, .slice FA k fc] 25)).alloc (.cells (madeCells #[.slice none 0 0] k) 56)).heap.size = w.heap.size + 2 by simp)
  rw [World.size_alloc] at N0 MD
  have N0 := Lib.hid N0
  clear hN hp hfl hne hke g1 L1
  go_enter Try.func44, Try.ntmps44
  go_wp2
  go_loopw [5, 13] (fun _ v13 wr => ∃ i : Nat, i ≤ n ∧ v13 = .int .i64 (i : Int) ∧ NmI w k (namesM (ns.take i)) wr) (fun _ v13 _ => n - (intOf v13).toNat)
  case atStart => exact ⟨0, Nat.zero_le _, rfl, by simpa [namesM] using N0.out, B0.out, by rw [Z0.out]; omega⟩
  case round =>
    obtain ⟨i, hi, rfl, hM⟩ := hrel
    have HM := Lib.hid hM
    have HB := Lib.hid hM.2.1
    clear hM x0
    by_cases hlt : i < n
    · have li : (i : Int) < (n : Int) := by omega
      have lf : i < ns.length := by have := NE.out; omega
      obtain ⟨b, o, eA, hbl, e1, e2, e3⟩ := HN.out i lf
      have hpl := HP.out ns[i] (List.getElem_mem _)
      have hfb := HF.out ns[i] (List.getElem_mem _)
      subst eA
      have d1 := (HB.out.cell (p := ⟨b, o + i * 3, none⟩) hbl).trans e1
      have d2 := (HB.out.cell (p := ⟨b, o + i * 3 + 1, none⟩) hbl).trans e2
      have d3 := (HB.out.cell (p := ⟨b, o + i * 3 + 2, none⟩) hbl).trans e3
      have NS := Lib.hid (namesM_succ ns i lf)
      have NL := Lib.hid (fun f => show (namesM (ns.take i) f).length ≤ 1000 from Nat.le_trans (namesM_len _ f) (by rw [List.length_take]; omega))
      clear e1 e2 e3
      generalize ns[i] = x at *
      obtain ⟨p, f, md⟩ := x
      have LM := Lib.hid (node_range (p := p) d1 d2 d3)
      have LN := Lib.hid (lies_new wr 60 #[.string { data := #[] }, .int .i64 0, .int .i64 0])
      have ES := Lib.hid (setRow_alloc wr 60 #[.string { data := #[] }, .int .i64 0, .int .i64 0] #[St p, .int .i64 f, .int .i64 md])
      have LL := lies_new wr 60 #[St p, .int .i64 f, .int .i64 md]
      obtain ⟨y0, y1, y2⟩ := node_of_lies LL
      have LM2 := Lib.hid (node_range (w := wr.alloc (.cells #[St p, .int .i64 f, .int .i64 md] 60)) (b := wr.heap.size) (o := 0) (p := p) y0 y1 y2)
      have HPL := Lib.hid (show p.length ≤ 100000 from hpl)
      have IS := Lib.hid (isn_any p f md (wr.alloc (.cells #[St p, .int .i64 f, .int .i64 md] 60)))
      have bX := Lib.hid ((Below.refl wr.heap.size wr).alloc (Nat.le_refl _) (.cells #[St p, .int .i64 f, .int .i64 md] 60))
      have LH := Lib.hid LL
      clear d1 d2 d3 hpl y0 y1 y2 LL
      by_cases hf : 0 ≤ f
      · have dt : decide (0 ≤ f) = true := decide_eq_true hf
        rw [dt] at IS
        obtain ⟨fn, rfl⟩ : ∃ fn : Nat, f = (fn : Int) := ⟨f.toNat, by omega⟩
        have hfn : fn < k := by have : (fn : Int) < (k : Int) := hfb.2; omega
        have NS2 := Lib.hid (show namesM (ns.take (i + 1)) = (fun f => if f = fn then namesM (ns.take i) f ++ [p] else namesM (ns.take i) f) by rw [NS.out]; exact if_pos hf)
        clear dt hfb hf
        go_wp2_with (first
          | (refine wpList_load_mid rfl 60 _ rfl b (o + i * 3) rfl [St p, .int .i64 fn, .int .i64 md] _ LM.out Try.underlying60 rfl (by kernel_rfl) ?_)
          | (refine wpList_store_row rfl 60 _ _ rfl wr.heap.size #[St p, .int .i64 fn, .int .i64 md] rfl rfl 60 _ LN.out (by kernel_rfl) rfl (by simp [Value.oneCell', St]) ?_; rw [ES.out])
          | (refine wpList_load_mid rfl 60 _ rfl wr.heap.size 0 rfl [St p, .int .i64 fn, .int .i64 md] _ LM2.out Try.underlying60 rfl (by kernel_rfl) ?_)
          | (go_at_call 61; (with_reducible refine IS.out.mono ?_); rintro e w1 ⟨rfl, hb⟩; have B1 := Lib.hid hb; have L1 := Lib.hid (lies_below LH.out hb (lies_lt LH.out)); have I1 : NmI w k (namesM (ns.take i)) w1 := ⟨nms_grown0 (nms_grown0 HM.out.1 (grown_of_below bX.out)) (grown_of_below hb), HB.out.trans ((bX.out.trans (hb.mono bX.out.size)).mono HB.out.size), Nat.le_trans HM.out.2.2 (Nat.le_trans bX.out.size hb.size)⟩; obtain ⟨A, C, A', C', Z, hc, happ, hLB, hLZ, hcB, hcZ, hfz, hI2⟩ := names_round w w1 k wr.heap.size _ p fn md I1 hfn (Nat.le_trans (NL.out fn) (by omega)) L1.out (by have := HM.out.2.2; omega) HPL.out; have I2 := Lib.hid hI2; clear hb I1 hI2))
        obtain ⟨nl, hnl⟩ : ∃ nl, nl = (namesM (ns.take i) fn).length := ⟨_, rfl⟩
        rw [← hnl] at hc happ hcB I2
        obtain ⟨UV, hUV⟩ : ∃ UV, UV = Value.slice A' (nl + 1) C' := ⟨_, rfl⟩
        rw [← hUV] at happ I2
        obtain ⟨SZ, hSZ⟩ : ∃ SZ, SZ = w1.heap.size := ⟨_, rfl⟩
        rw [← hSZ] at happ
        have hcA : (w1.drewN 1).cell? ⟨w.heap.size + 1, fn, none⟩ = some (.slice A nl C) := hc
        obtain ⟨hA0, hA1, _⟩ := node_of_lies (show Lies (w1.drewN 1) _ _ _ from L1.out)
        obtain ⟨hB0, hB1, _⟩ := node_of_lies hLB
        obtain ⟨hZ0, hZ1, _⟩ := node_of_lies hLZ
        obtain ⟨WA, hWA⟩ : ∃ WA, WA = w1.drewN 1 := ⟨_, rfl⟩
        obtain ⟨WB, hWB⟩ : ∃ WB, WB = (w1.drewN 1).alloc (.cells #[St p] 9) := ⟨_, rfl⟩
        obtain ⟨WD, hWD⟩ : ∃ WD, WD = Z.setCell ⟨w.heap.size + 1, fn, none⟩ UV := ⟨_, rfl⟩
        rw [← hWB] at hB0 hB1 hcB happ
        rw [← hWA] at hA0 hA1 hcA
        rw [← hWD] at I2
        clear hc hLB hLZ
        obtain ⟨uZ, hcZ⟩ := hcZ
        have KF : ∀ (lq : Array Bool) (pq kq : Nat) (uq : Value) (W W' : World), (True) → W.grownBy W' none → ((fun (l_ : Array Bool) (j_ : Nat) (v_ : Value) (W : World) => match j_ with | 0 => v_ = .slice (some ⟨w.heap.size + 1, 0, none⟩) k k | 1 => v_ = .pointer (some ⟨wr.heap.size, 1, none⟩) | 2 => v_ = .int .i64 (fn : Int) | 3 => v_ = .slice (some ⟨w.heap.size + 1, 0, none⟩) k k | 4 => v_ = .pointer (some ⟨wr.heap.size, 1, none⟩) | 5 => v_ = .int .i64 (fn : Int) | 6 => v_ = .pointer (some ⟨w.heap.size + 1, fn, none⟩) | 7 => v_ = .slice A nl C | 8 => v_ = .pointer (some ⟨wr.heap.size, 0, none⟩) | 9 => v_ = St p | 10 => v_ = .slice (some ⟨SZ, 0, none⟩) 1 1 | 11 => v_ = UV | 12 => v_ = .pointer (some ⟨w.heap.size + 1, fn, none⟩) | _ => True) : Array Bool → Nat → Value → World → Prop) lq kq uq W → ((fun (l_ : Array Bool) (j_ : Nat) (v_ : Value) (W : World) => match j_ with | 0 => v_ = .slice (some ⟨w.heap.size + 1, 0, none⟩) k k | 1 => v_ = .pointer (some ⟨wr.heap.size, 1, none⟩) | 2 => v_ = .int .i64 (fn : Int) | 3 => v_ = .slice (some ⟨w.heap.size + 1, 0, none⟩) k k | 4 => v_ = .pointer (some ⟨wr.heap.size, 1, none⟩) | 5 => v_ = .int .i64 (fn : Int) | 6 => v_ = .pointer (some ⟨w.heap.size + 1, fn, none⟩) | 7 => v_ = .slice A nl C | 8 => v_ = .pointer (some ⟨wr.heap.size, 0, none⟩) | 9 => v_ = St p | 10 => v_ = .slice (some ⟨SZ, 0, none⟩) 1 1 | 11 => v_ = UV | 12 => v_ = .pointer (some ⟨w.heap.size + 1, fn, none⟩) | _ => True) : Array Bool → Nat → Value → World → Prop) (lq.setIfInBounds pq true) kq uq W' := fun lq pq kq uq W W' hp hg h => by
          have kl : ∀ {g t cs}, Lies W g t cs → Lies W' g t cs := fun h => (hg.block _ (lies_lt h) (by simp)).trans h
          have ko : ∀ {B e z v k xs}, W.ownsRow B e z v k xs → W'.ownsRow B e z v k xs := fun {B e z v k xs} h => h.kept hg (by cases v.ownBlock <;> simp)
          match kq, h with
          | 0, h => exact h
          | 1, h => exact h
          | 2, h => exact h
          | 3, h => exact h
          | 4, h => exact h
          | 5, h => exact h
          | 6, h => exact h
          | 7, h => exact h
          | 8, h => exact h
          | 9, h => exact h
          | 10, h => exact h
          | 11, h => exact h
          | 12, h => exact h
          | _ + 13, _ => exact trivial
        have gr : ∀ W : World, W.grownBy W none := fun W => ⟨rfl, rfl, rfl, Nat.le_refl _, fun _ _ _ => rfl⟩
        have KP := fun (lq : Array Bool) (pq : Nat) (W : World) (hp : True) => fun (kq : Nat) (uq : Value) (_ : kq ≠ pq) (_ : lq.getD kq false = true) (h : ((fun (l_ : Array Bool) (j_ : Nat) (v_ : Value) (W : World) => match j_ with | 0 => v_ = .slice (some ⟨w.heap.size + 1, 0, none⟩) k k | 1 => v_ = .pointer (some ⟨wr.heap.size, 1, none⟩) | 2 => v_ = .int .i64 (fn : Int) | 3 => v_ = .slice (some ⟨w.heap.size + 1, 0, none⟩) k k | 4 => v_ = .pointer (some ⟨wr.heap.size, 1, none⟩) | 5 => v_ = .int .i64 (fn : Int) | 6 => v_ = .pointer (some ⟨w.heap.size + 1, fn, none⟩) | 7 => v_ = .slice A nl C | 8 => v_ = .pointer (some ⟨wr.heap.size, 0, none⟩) | 9 => v_ = St p | 10 => v_ = .slice (some ⟨SZ, 0, none⟩) 1 1 | 11 => v_ = UV | 12 => v_ = .pointer (some ⟨w.heap.size + 1, fn, none⟩) | _ => True) : Array Bool → Nat → Value → World → Prop) lq kq uq W) => KF lq pq kq uq W W hp (gr W) h
        have IV : ∀ (lq : Array Bool) (pq : Nat) (X Y : World), (pq ≠ 10 ∧ pq ≠ 11 ∧ pq ≠ 13) → X = Y → ((fun (l_ : Array Bool) (WW : World) => WW = Stc 10 11 13 WA WB Z WD l_) : Array Bool → World → Prop) lq X → ((fun (l_ : Array Bool) (WW : World) => WW = Stc 10 11 13 WA WB Z WD l_) : Array Bool → World → Prop) (lq.setIfInBounds pq true) Y := fun lq pq X Y hp hg h => by
          subst hg
          show X = _
          rw [stc_keep hp.1 hp.2.1 hp.2.2]
          exact h
        refine wp_region_any (by kernel_rfl) ?_
        refine every_factI (own := ownAll _) id ((fun (l_ : Array Bool) (j_ : Nat) (v_ : Value) (W : World) => match j_ with | 0 => v_ = .slice (some ⟨w.heap.size + 1, 0, none⟩) k k | 1 => v_ = .pointer (some ⟨wr.heap.size, 1, none⟩) | 2 => v_ = .int .i64 (fn : Int) | 3 => v_ = .slice (some ⟨w.heap.size + 1, 0, none⟩) k k | 4 => v_ = .pointer (some ⟨wr.heap.size, 1, none⟩) | 5 => v_ = .int .i64 (fn : Int) | 6 => v_ = .pointer (some ⟨w.heap.size + 1, fn, none⟩) | 7 => v_ = .slice A nl C | 8 => v_ = .pointer (some ⟨wr.heap.size, 0, none⟩) | 9 => v_ = St p | 10 => v_ = .slice (some ⟨SZ, 0, none⟩) 1 1 | 11 => v_ = UV | 12 => v_ = .pointer (some ⟨w.heap.size + 1, fn, none⟩) | _ => True) : Array Bool → Nat → Value → World → Prop) ((fun (l_ : Array Bool) (WW : World) => WW = Stc 10 11 13 WA WB Z WD l_) : Array Bool → World → Prop) (acAll_of (by kernel_rfl)) (onAll_of (by kernel_rfl)) (dstAll_of (by kernel_rfl)) ?hop ?hend _ _ _ _ (fun _ => undef) rfl (shut_none _) (of_decide_eq_true (by kernel_rfl)) (tabd_start (fun i => rep_false _ i)) (fun k hk => by rw [rep_false] at hk; cases hk) (show _ = _ from by unfold Stc; simp only [rep_false, Bool.false_eq_true, if_false]; exact hWA.symm)
        case hop =>
          intro j oi a w0 listed vals hoi hs hcl hun hdeps ht hF hI
          have hj : j < 14 := (Array.getElem?_eq_some_iff.1 hoi).1
          have cj : j = 0 ∨ j = 1 ∨ j = 2 ∨ j = 3 ∨ j = 4 ∨ j = 5 ∨ j = 6 ∨ j = 7 ∨ j = 8 ∨ j = 9 ∨ j = 10 ∨ j = 11 ∨ j = 12 ∨ j = 13 := by omega
          obtain rfl | rfl | rfl | rfl | rfl | rfl | rfl | rfl | rfl | rfl | rfl | rfl | rfl | rfl := cj
          all_goals obtain rfl := Option.some.inj hoi
          · have e3 : a.eval (.tmp 3) = .slice (some ⟨w.heap.size + 1, 0, none⟩) k k := (tabd_old ht (t := 3) (of_decide_eq_true (by kernel_rfl)) (by kernel_rfl)).trans rfl
            exact .inl ⟨rfl, fun K hk => wp_val (v := .slice (some ⟨w.heap.size + 1, 0, none⟩) k k) (by clear hk hI hoi hdeps ht hF hcl hs KF KP IV; generalize a.eval = ρ at *; unfold execOp; simp only [e3]; go_simp; try (intro hq_; exfalso; omega)) (hk _ _ rfl (KP listed 0 w0 trivial) (IV listed 0 w0 w0 (by decide) rfl hI))⟩
          · have e5 : a.eval (.tmp 5) = .pointer (some ⟨wr.heap.size, 0, none⟩) := (tabd_old ht (t := 5) (of_decide_eq_true (by kernel_rfl)) (by kernel_rfl)).trans rfl
            exact .inl ⟨rfl, fun K hk => wp_val (v := .pointer (some ⟨wr.heap.size, 1, none⟩)) (by clear hk hI hoi hdeps ht hF hcl hs KF KP IV; generalize a.eval = ρ at *; unfold execOp; simp only [e5]; go_simp; try (intro hq_; exfalso; omega)) (hk _ _ rfl (KP listed 1 w0 trivial) (IV listed 1 w0 w0 (by decide) rfl hI))⟩
          · have d1 := hdeps ⟨1, .data⟩ (by simp) rfl
            have e20 : a.eval (.tmp 20) = .pointer (some ⟨wr.heap.size, 1, none⟩) := (tabd_at ht (t := 20) (of_decide_eq_true (by kernel_rfl)) (by kernel_rfl) d1).trans (hF 1 d1)
            refine .inl ⟨rfl, fun K hk => ?_⟩
            have n13 : listed.getD 13 false = false := (by cases hh : listed.getD 13 false with | false => rfl | true => exact absurd (hcl 13 _ rfl hh ⟨2, .phase⟩ (by simp) rfl) (by simp [hun]))
            have hbx : w0.cell? ⟨wr.heap.size, 1, none⟩ = some (.int .i64 (fn : Int)) := by
              rw [show w0 = _ from hI]
              exact stc_all (fun W => W.cell? ⟨wr.heap.size, 1, none⟩ = some (.int .i64 (fn : Int))) hA1 hB1 hZ1 (fun h => by rw [n13] at h; cases h)
            exact wp_val (v := .int .i64 (fn : Int)) (by clear hk hI hoi hdeps ht hF hcl hs KF KP IV; generalize a.eval = ρ at *; unfold execOp; simp only [e20]; go_simp) (hk _ _ rfl (KP listed 2 w0 trivial) (IV listed 2 w0 w0 (by decide) rfl hI))
          · have e3 : a.eval (.tmp 3) = .slice (some ⟨w.heap.size + 1, 0, none⟩) k k := (tabd_old ht (t := 3) (of_decide_eq_true (by kernel_rfl)) (by kernel_rfl)).trans rfl
            exact .inl ⟨rfl, fun K hk => wp_val (v := .slice (some ⟨w.heap.size + 1, 0, none⟩) k k) (by clear hk hI hoi hdeps ht hF hcl hs KF KP IV; generalize a.eval = ρ at *; unfold execOp; simp only [e3]; go_simp; try (intro hq_; exfalso; omega)) (hk _ _ rfl (KP listed 3 w0 trivial) (IV listed 3 w0 w0 (by decide) rfl hI))⟩
          · have e5 : a.eval (.tmp 5) = .pointer (some ⟨wr.heap.size, 0, none⟩) := (tabd_old ht (t := 5) (of_decide_eq_true (by kernel_rfl)) (by kernel_rfl)).trans rfl
            exact .inl ⟨rfl, fun K hk => wp_val (v := .pointer (some ⟨wr.heap.size, 1, none⟩)) (by clear hk hI hoi hdeps ht hF hcl hs KF KP IV; generalize a.eval = ρ at *; unfold execOp; simp only [e5]; go_simp; try (intro hq_; exfalso; omega)) (hk _ _ rfl (KP listed 4 w0 trivial) (IV listed 4 w0 w0 (by decide) rfl hI))⟩
          · have d4 := hdeps ⟨4, .data⟩ (by simp) rfl
            have e23 : a.eval (.tmp 23) = .pointer (some ⟨wr.heap.size, 1, none⟩) := (tabd_at ht (t := 23) (of_decide_eq_true (by kernel_rfl)) (by kernel_rfl) d4).trans (hF 4 d4)
            refine .inl ⟨rfl, fun K hk => ?_⟩
            have n13 : listed.getD 13 false = false := (by cases hh : listed.getD 13 false with | false => rfl | true => exact absurd (hcl 13 _ rfl hh ⟨5, .phase⟩ (by simp) rfl) (by simp [hun]))
            have hbx : w0.cell? ⟨wr.heap.size, 1, none⟩ = some (.int .i64 (fn : Int)) := by
              rw [show w0 = _ from hI]
              exact stc_all (fun W => W.cell? ⟨wr.heap.size, 1, none⟩ = some (.int .i64 (fn : Int))) hA1 hB1 hZ1 (fun h => by rw [n13] at h; cases h)
            exact wp_val (v := .int .i64 (fn : Int)) (by clear hk hI hoi hdeps ht hF hcl hs KF KP IV; generalize a.eval = ρ at *; unfold execOp; simp only [e23]; go_simp) (hk _ _ rfl (KP listed 5 w0 trivial) (IV listed 5 w0 w0 (by decide) rfl hI))
          · have d3 := hdeps ⟨3, .data⟩ (by simp) rfl
            have d5 := hdeps ⟨5, .data⟩ (by simp) rfl
            have e22 : a.eval (.tmp 22) = .slice (some ⟨w.heap.size + 1, 0, none⟩) k k := (tabd_at ht (t := 22) (of_decide_eq_true (by kernel_rfl)) (by kernel_rfl) d3).trans (hF 3 d3)
            have e24 : a.eval (.tmp 24) = .int .i64 (fn : Int) := (tabd_at ht (t := 24) (of_decide_eq_true (by kernel_rfl)) (by kernel_rfl) d5).trans (hF 5 d5)
            exact .inl ⟨rfl, fun K hk => wp_val (v := .pointer (some ⟨w.heap.size + 1, fn, none⟩)) (by clear hk hI hoi hdeps ht hF hcl hs KF KP IV; generalize a.eval = ρ at *; unfold execOp; simp only [e22, e24]; go_simp; try (intro hq_; exfalso; omega)) (hk _ _ rfl (KP listed 6 w0 trivial) (IV listed 6 w0 w0 (by decide) rfl hI))⟩
          · have d6 := hdeps ⟨6, .data⟩ (by simp) rfl
            have e25 : a.eval (.tmp 25) = .pointer (some ⟨w.heap.size + 1, fn, none⟩) := (tabd_at ht (t := 25) (of_decide_eq_true (by kernel_rfl)) (by kernel_rfl) d6).trans (hF 6 d6)
            refine .inl ⟨rfl, fun K hk => ?_⟩
            have n13 : listed.getD 13 false = false := (by cases hh : listed.getD 13 false with | false => rfl | true => exact absurd (hcl 13 _ rfl hh ⟨7, .phase⟩ (by simp) rfl) (by simp [hun]))
            have n11 : listed.getD 11 false = false := (by cases hh : listed.getD 11 false with | false => rfl | true => exact absurd (hcl 11 _ rfl hh ⟨7, .data⟩ (by simp) rfl) (by simp [hun]))
            have hbx : w0.cell? ⟨w.heap.size + 1, fn, none⟩ = some (.slice A nl C) := by
              rw [show w0 = _ from hI]
              unfold Stc
              rw [if_neg (by simp [n13]), if_neg (by simp [n11])]
              split
              · exact hcB
              · exact hcA
            exact wp_val (v := .slice A nl C) (by clear hk hI hoi hdeps ht hF hcl hs KF KP IV; generalize a.eval = ρ at *; unfold execOp; simp only [e25]; go_simp) (hk _ _ rfl (KP listed 7 w0 trivial) (IV listed 7 w0 w0 (by decide) rfl hI))
          · have e5 : a.eval (.tmp 5) = .pointer (some ⟨wr.heap.size, 0, none⟩) := (tabd_old ht (t := 5) (of_decide_eq_true (by kernel_rfl)) (by kernel_rfl)).trans rfl
            exact .inl ⟨rfl, fun K hk => wp_val (v := .pointer (some ⟨wr.heap.size, 0, none⟩)) (by clear hk hI hoi hdeps ht hF hcl hs KF KP IV; generalize a.eval = ρ at *; unfold execOp; simp only [e5]; go_simp; try (intro hq_; exfalso; omega)) (hk _ _ rfl (KP listed 8 w0 trivial) (IV listed 8 w0 w0 (by decide) rfl hI))⟩
          · have d8 := hdeps ⟨8, .data⟩ (by simp) rfl
            have e27 : a.eval (.tmp 27) = .pointer (some ⟨wr.heap.size, 0, none⟩) := (tabd_at ht (t := 27) (of_decide_eq_true (by kernel_rfl)) (by kernel_rfl) d8).trans (hF 8 d8)
            refine .inl ⟨rfl, fun K hk => ?_⟩
            have n13 : listed.getD 13 false = false := (by cases hh : listed.getD 13 false with | false => rfl | true => exact absurd (hcl 13 _ rfl hh ⟨9, .phase⟩ (by simp) rfl) (by simp [hun]))
            have hbx : w0.cell? ⟨wr.heap.size, 0, none⟩ = some (St p) := by
              rw [show w0 = _ from hI]
              exact stc_all (fun W => W.cell? ⟨wr.heap.size, 0, none⟩ = some (St p)) hA0 hB0 hZ0 (fun h => by rw [n13] at h; cases h)
            exact wp_val (v := St p) (by clear hk hI hoi hdeps ht hF hcl hs KF KP IV; generalize a.eval = ρ at *; unfold execOp; simp only [e27]; go_simp) (hk _ _ rfl (KP listed 9 w0 trivial) (IV listed 9 w0 w0 (by decide) rfl hI))
          · have d9 := hdeps ⟨9, .data⟩ (by simp) rfl
            have e28 : a.eval (.tmp 28) = St p := (tabd_at ht (t := 28) (of_decide_eq_true (by kernel_rfl)) (by kernel_rfl) d9).trans (hF 9 d9)
            refine .inl ⟨rfl, fun K hk => ?_⟩
            have PR := fun W' => show ∀ (kq : Nat) (uq : Value), kq ≠ 10 → listed.getD kq false = true → ((fun (l_ : Array Bool) (j_ : Nat) (v_ : Value) (W : World) => match j_ with | 0 => v_ = .slice (some ⟨w.heap.size + 1, 0, none⟩) k k | 1 => v_ = .pointer (some ⟨wr.heap.size, 1, none⟩) | 2 => v_ = .int .i64 (fn : Int) | 3 => v_ = .slice (some ⟨w.heap.size + 1, 0, none⟩) k k | 4 => v_ = .pointer (some ⟨wr.heap.size, 1, none⟩) | 5 => v_ = .int .i64 (fn : Int) | 6 => v_ = .pointer (some ⟨w.heap.size + 1, fn, none⟩) | 7 => v_ = .slice A nl C | 8 => v_ = .pointer (some ⟨wr.heap.size, 0, none⟩) | 9 => v_ = St p | 10 => v_ = .slice (some ⟨SZ, 0, none⟩) 1 1 | 11 => v_ = UV | 12 => v_ = .pointer (some ⟨w.heap.size + 1, fn, none⟩) | _ => True) : Array Bool → Nat → Value → World → Prop) listed kq uq w0 → ((fun (l_ : Array Bool) (j_ : Nat) (v_ : Value) (W : World) => match j_ with | 0 => v_ = .slice (some ⟨w.heap.size + 1, 0, none⟩) k k | 1 => v_ = .pointer (some ⟨wr.heap.size, 1, none⟩) | 2 => v_ = .int .i64 (fn : Int) | 3 => v_ = .slice (some ⟨w.heap.size + 1, 0, none⟩) k k | 4 => v_ = .pointer (some ⟨wr.heap.size, 1, none⟩) | 5 => v_ = .int .i64 (fn : Int) | 6 => v_ = .pointer (some ⟨w.heap.size + 1, fn, none⟩) | 7 => v_ = .slice A nl C | 8 => v_ = .pointer (some ⟨wr.heap.size, 0, none⟩) | 9 => v_ = St p | 10 => v_ = .slice (some ⟨SZ, 0, none⟩) 1 1 | 11 => v_ = UV | 12 => v_ = .pointer (some ⟨w.heap.size + 1, fn, none⟩) | _ => True) : Array Bool → Nat → Value → World → Prop) (listed.setIfInBounds 10 true) kq uq W' from
              (fun kq uq hkp hkl h => by
                have s_ : (listed.setIfInBounds 10 true).getD 10 false = true := getD_here (by rw [hs]; decide)
                match kq, hkp, hkl, h with
                | 0, _, _, h => exact h
                | 1, _, _, h => exact h
                | 2, _, _, h => exact h
                | 3, _, _, h => exact h
                | 4, _, _, h => exact h
                | 5, _, _, h => exact h
                | 6, _, _, h => exact h
                | 7, _, _, h => exact h
                | 8, _, _, h => exact h
                | 9, _, _, h => exact h
                | 10, hk, _, _ => exact absurd rfl hk
                | 11, _, _, h => exact h
                | 12, _, _, h => exact h
                | _ + 13, _, _, _ => exact trivial)
            obtain ⟨s0, s1⟩ := stc_0 (A := WA) (B := WB) (C := Z) (D := WD) (l := listed) (i := 10) (j := 11) (k := 13) (by decide) (by decide) (fun hh => (hcl 11 _ rfl hh ⟨10, .data⟩ (by simp) rfl)) (fun hh => (hcl 13 _ rfl hh ⟨11, .data⟩ (by simp) rfl)) (by rw [hs]; decide) hun
            have hw : w0 = WA := (show w0 = _ from hI).trans s0
            obtain ⟨i0, hi0, hz0, hz1, hz2⟩ := info_parts strn_info
            refine wp_valT (v := .slice (some ⟨SZ, 0, none⟩) 1 1) (w' := WB) (by
              rw [hw, hSZ, hWA, hWB]
              clear hk hI hoi hdeps ht hF hcl hs KF KP IV PR s0 s1
              generalize a.eval = ρ at *
              unfold St at e28 ⊢
              unfold execOp
              simp only [e28]
              go_simp) (hk _ _ rfl (PR w0) (show WB = _ from s1.symm))
          · have d7 := hdeps ⟨7, .data⟩ (by simp) rfl
            have d10 := hdeps ⟨10, .data⟩ (by simp) rfl
            have e26 : a.eval (.tmp 26) = .slice A nl C := (tabd_at ht (t := 26) (of_decide_eq_true (by kernel_rfl)) (by kernel_rfl) d7).trans (hF 7 d7)
            have e29 : a.eval (.tmp 29) = .slice (some ⟨SZ, 0, none⟩) 1 1 := (tabd_at ht (t := 29) (of_decide_eq_true (by kernel_rfl)) (by kernel_rfl) d10).trans (hF 10 d10)
            refine .inl ⟨rfl, fun K hk => ?_⟩
            have PR := fun W' => show ∀ (kq : Nat) (uq : Value), kq ≠ 11 → listed.getD kq false = true → ((fun (l_ : Array Bool) (j_ : Nat) (v_ : Value) (W : World) => match j_ with | 0 => v_ = .slice (some ⟨w.heap.size + 1, 0, none⟩) k k | 1 => v_ = .pointer (some ⟨wr.heap.size, 1, none⟩) | 2 => v_ = .int .i64 (fn : Int) | 3 => v_ = .slice (some ⟨w.heap.size + 1, 0, none⟩) k k | 4 => v_ = .pointer (some ⟨wr.heap.size, 1, none⟩) | 5 => v_ = .int .i64 (fn : Int) | 6 => v_ = .pointer (some ⟨w.heap.size + 1, fn, none⟩) | 7 => v_ = .slice A nl C | 8 => v_ = .pointer (some ⟨wr.heap.size, 0, none⟩) | 9 => v_ = St p | 10 => v_ = .slice (some ⟨SZ, 0, none⟩) 1 1 | 11 => v_ = UV | 12 => v_ = .pointer (some ⟨w.heap.size + 1, fn, none⟩) | _ => True) : Array Bool → Nat → Value → World → Prop) listed kq uq w0 → ((fun (l_ : Array Bool) (j_ : Nat) (v_ : Value) (W : World) => match j_ with | 0 => v_ = .slice (some ⟨w.heap.size + 1, 0, none⟩) k k | 1 => v_ = .pointer (some ⟨wr.heap.size, 1, none⟩) | 2 => v_ = .int .i64 (fn : Int) | 3 => v_ = .slice (some ⟨w.heap.size + 1, 0, none⟩) k k | 4 => v_ = .pointer (some ⟨wr.heap.size, 1, none⟩) | 5 => v_ = .int .i64 (fn : Int) | 6 => v_ = .pointer (some ⟨w.heap.size + 1, fn, none⟩) | 7 => v_ = .slice A nl C | 8 => v_ = .pointer (some ⟨wr.heap.size, 0, none⟩) | 9 => v_ = St p | 10 => v_ = .slice (some ⟨SZ, 0, none⟩) 1 1 | 11 => v_ = UV | 12 => v_ = .pointer (some ⟨w.heap.size + 1, fn, none⟩) | _ => True) : Array Bool → Nat → Value → World → Prop) (listed.setIfInBounds 11 true) kq uq W' from
              (fun kq uq hkp hkl h => by
                have s_ : (listed.setIfInBounds 11 true).getD 11 false = true := getD_here (by rw [hs]; decide)
                match kq, hkp, hkl, h with
                | 0, _, _, h => exact h
                | 1, _, _, h => exact h
                | 2, _, _, h => exact h
                | 3, _, _, h => exact h
                | 4, _, _, h => exact h
                | 5, _, _, h => exact h
                | 6, _, _, h => exact h
                | 7, _, _, h => exact h
                | 8, _, _, h => exact h
                | 9, _, _, h => exact h
                | 10, _, _, h => exact h
                | 11, hk, _, _ => exact absurd rfl hk
                | 12, _, _, h => exact h
                | _ + 13, _, _, _ => exact trivial)
            obtain ⟨s0, s1⟩ := stc_1 (A := WA) (B := WB) (C := Z) (D := WD) (l := listed) (i := 10) (j := 11) (k := 13) (by decide) (by decide) (fun hh => (hcl 13 _ rfl hh ⟨11, .data⟩ (by simp) rfl)) (by rw [hs]; decide) hun d10
            have hw : w0 = WB := (show w0 = _ from hI).trans s0
            have ha := happ
            rw [← hw] at ha
            exact wp_valT (v := UV) (w' := Z) (app_op _ _ rfl e26 e29 ha) (hk _ _ rfl (PR w0) (show Z = _ from s1.symm))
          · have d0 := hdeps ⟨0, .data⟩ (by simp) rfl
            have d2 := hdeps ⟨2, .data⟩ (by simp) rfl
            have e19 : a.eval (.tmp 19) = .slice (some ⟨w.heap.size + 1, 0, none⟩) k k := (tabd_at ht (t := 19) (of_decide_eq_true (by kernel_rfl)) (by kernel_rfl) d0).trans (hF 0 d0)
            have e21 : a.eval (.tmp 21) = .int .i64 (fn : Int) := (tabd_at ht (t := 21) (of_decide_eq_true (by kernel_rfl)) (by kernel_rfl) d2).trans (hF 2 d2)
            exact .inl ⟨rfl, fun K hk => wp_val (v := .pointer (some ⟨w.heap.size + 1, fn, none⟩)) (by clear hk hI hoi hdeps ht hF hcl hs KF KP IV; generalize a.eval = ρ at *; unfold execOp; simp only [e19, e21]; go_simp; try (intro hq_; exfalso; omega)) (hk _ _ rfl (KP listed 12 w0 trivial) (IV listed 12 w0 w0 (by decide) rfl hI))⟩
          · have d12 := hdeps ⟨12, .data⟩ (by simp) rfl
            have d11 := hdeps ⟨11, .data⟩ (by simp) rfl
            have e30 : a.eval (.tmp 30) = UV := (tabd_at ht (t := 30) (of_decide_eq_true (by kernel_rfl)) (by kernel_rfl) d11).trans (hF 11 d11)
            have e31 : a.eval (.tmp 31) = .pointer (some ⟨w.heap.size + 1, fn, none⟩) := (tabd_at ht (t := 31) (of_decide_eq_true (by kernel_rfl)) (by kernel_rfl) d12).trans (hF 12 d12)
            refine .inl ⟨rfl, fun K hk => ?_⟩
            have PR := fun W' => show ∀ (kq : Nat) (uq : Value), kq ≠ 13 → listed.getD kq false = true → ((fun (l_ : Array Bool) (j_ : Nat) (v_ : Value) (W : World) => match j_ with | 0 => v_ = .slice (some ⟨w.heap.size + 1, 0, none⟩) k k | 1 => v_ = .pointer (some ⟨wr.heap.size, 1, none⟩) | 2 => v_ = .int .i64 (fn : Int) | 3 => v_ = .slice (some ⟨w.heap.size + 1, 0, none⟩) k k | 4 => v_ = .pointer (some ⟨wr.heap.size, 1, none⟩) | 5 => v_ = .int .i64 (fn : Int) | 6 => v_ = .pointer (some ⟨w.heap.size + 1, fn, none⟩) | 7 => v_ = .slice A nl C | 8 => v_ = .pointer (some ⟨wr.heap.size, 0, none⟩) | 9 => v_ = St p | 10 => v_ = .slice (some ⟨SZ, 0, none⟩) 1 1 | 11 => v_ = UV | 12 => v_ = .pointer (some ⟨w.heap.size + 1, fn, none⟩) | _ => True) : Array Bool → Nat → Value → World → Prop) listed kq uq w0 → ((fun (l_ : Array Bool) (j_ : Nat) (v_ : Value) (W : World) => match j_ with | 0 => v_ = .slice (some ⟨w.heap.size + 1, 0, none⟩) k k | 1 => v_ = .pointer (some ⟨wr.heap.size, 1, none⟩) | 2 => v_ = .int .i64 (fn : Int) | 3 => v_ = .slice (some ⟨w.heap.size + 1, 0, none⟩) k k | 4 => v_ = .pointer (some ⟨wr.heap.size, 1, none⟩) | 5 => v_ = .int .i64 (fn : Int) | 6 => v_ = .pointer (some ⟨w.heap.size + 1, fn, none⟩) | 7 => v_ = .slice A nl C | 8 => v_ = .pointer (some ⟨wr.heap.size, 0, none⟩) | 9 => v_ = St p | 10 => v_ = .slice (some ⟨SZ, 0, none⟩) 1 1 | 11 => v_ = UV | 12 => v_ = .pointer (some ⟨w.heap.size + 1, fn, none⟩) | _ => True) : Array Bool → Nat → Value → World → Prop) (listed.setIfInBounds 13 true) kq uq W' from
              (fun kq uq hkp hkl h => by
                have s_ : (listed.setIfInBounds 13 true).getD 13 false = true := getD_here (by rw [hs]; decide)
                match kq, hkp, hkl, h with
                | 0, _, _, h => exact h
                | 1, _, _, h => exact h
                | 2, _, _, h => exact h
                | 3, _, _, h => exact h
                | 4, _, _, h => exact h
                | 5, _, _, h => exact h
                | 6, _, _, h => exact h
                | 7, _, _, h => exact h
                | 8, _, _, h => exact h
                | 9, _, _, h => exact h
                | 10, _, _, h => exact h
                | 11, _, _, h => exact h
                | 12, _, _, h => exact h
                | _ + 13, _, _, _ => exact trivial)
            obtain ⟨s0, s1⟩ := stc_2 (A := WA) (B := WB) (C := Z) (D := WD) (l := listed) (i := 10) (j := 11) (k := 13) (by decide) (by rw [hs]; decide) hun d11
            have hw : w0 = Z := (show w0 = _ from hI).trans s0
            refine wp_skipT (w' := WD) (by
              rw [hw, hWD]
              rw [hUV] at e30 ⊢
              clear hk hI hoi hdeps ht hF hcl hs KF KP IV PR s0 s1
              generalize a.eval = ρ at *
              unfold execOp
              simp only [e30, e31]
              go_simp) (hk _ _ trivial (PR w0) (show WD = _ from s1.symm))
        case hend =>
          intro a w0 listed vals hall ht hF hI
          rw [tabd_fill ht (fun t i ho => hall i (ownAll_lt ho))]
          have g0 : vals 0 = .slice (some ⟨w.heap.size + 1, 0, none⟩) k k := hF 0 (by decide)
          have g1 : vals 1 = .pointer (some ⟨wr.heap.size, 1, none⟩) := hF 1 (by decide)
          have g2 : vals 2 = .int .i64 (fn : Int) := hF 2 (by decide)
          have g3 : vals 3 = .slice (some ⟨w.heap.size + 1, 0, none⟩) k k := hF 3 (by decide)
          have g4 : vals 4 = .pointer (some ⟨wr.heap.size, 1, none⟩) := hF 4 (by decide)
          have g5 : vals 5 = .int .i64 (fn : Int) := hF 5 (by decide)
          have g6 : vals 6 = .pointer (some ⟨w.heap.size + 1, fn, none⟩) := hF 6 (by decide)
          have g7 : vals 7 = .slice A nl C := hF 7 (by decide)
          have g8 : vals 8 = .pointer (some ⟨wr.heap.size, 0, none⟩) := hF 8 (by decide)
          have g9 : vals 9 = St p := hF 9 (by decide)
          have g10 : vals 10 = .slice (some ⟨SZ, 0, none⟩) 1 1 := hF 10 (by decide)
          have g11 : vals 11 = UV := hF 11 (by decide)
          have g12 : vals 12 = .pointer (some ⟨w.heap.size + 1, fn, none⟩) := hF 12 (by decide)
          change Exit.inBlock _ (Exit.then _ _) Exit.normal { tmps := #[.agg #[.slice (some ⟨b, o, none⟩) n nc, .slice FA k fc], .pointer (some ⟨w.heap.size, 0, none⟩), .slice none 0 0, .slice (some ⟨w.heap.size + 1, 0, none⟩) k k, undef, .pointer (some ⟨wr.heap.size, 0, none⟩), .pointer (some ⟨w.heap.size, 1, none⟩), .slice FA k fc, .int .i64 (k : Int), .slice (some ⟨w.heap.size + 1, 0, none⟩) k k, .pointer (some ⟨w.heap.size, 0, none⟩), .slice (some ⟨b, o, none⟩) n nc, .int .i64 (n : Int), .int .i64 (i : Int), .bool true, .pointer (some ⟨b, o + i * 3, none⟩), .agg #[St p, .int .i64 (fn : Int), .int .i64 md], .agg #[St p, .int .i64 (fn : Int), .int .i64 md], .bool true, vals 0, vals 1, vals 2, vals 3, vals 4, vals 5, vals 6, vals 7, vals 8, vals 9, vals 10, vals 11, vals 12, u32, undef], defers := [] } w0
          simp only [g0, g1, g2, g3, g4, g5, g6, g7, g8, g9, g10, g11, g12]
          clear ht hF KF KP IV
          have hE : w0 = WD := (show w0 = _ from hI).trans (stc_end (hall 13 (by decide)))
          rw [hE]
          clear hI hall hE hWA hWB hWD hUV
          go_wp2
          go_roundw
          case rel => exact ⟨i + 1, by omega, by go_num, by rw [NS2.out]; exact I2.out⟩
          case measure => first | (simp [intOf]; done) | (simp [intOf]; omega)
      · have dt : decide (0 ≤ f) = false := decide_eq_false hf
        rw [dt] at IS
        have NS2 := Lib.hid (show namesM (ns.take (i + 1)) = namesM (ns.take i) by rw [NS.out]; exact if_neg hf)
        clear dt
        go_wp2_with (first
          | (refine wpList_load_mid rfl 60 _ rfl b (o + i * 3) rfl [St p, .int .i64 f, .int .i64 md] _ LM.out Try.underlying60 rfl (by kernel_rfl) ?_)
          | (refine wpList_store_row rfl 60 _ _ rfl wr.heap.size #[St p, .int .i64 f, .int .i64 md] rfl rfl 60 _ LN.out (by kernel_rfl) rfl (by simp [Value.oneCell', St]) ?_; rw [ES.out])
          | (refine wpList_load_mid rfl 60 _ rfl wr.heap.size 0 rfl [St p, .int .i64 f, .int .i64 md] _ LM2.out Try.underlying60 rfl (by kernel_rfl) ?_)
          | (go_at_call 61; (with_reducible refine IS.out.mono ?_); rintro e w1 ⟨rfl, hb⟩; have B1 := Lib.hid hb; have I1 : NmI w k (namesM (ns.take i)) w1 := ⟨nms_grown0 (nms_grown0 HM.out.1 (grown_of_below bX.out)) (grown_of_below hb), HB.out.trans ((bX.out.trans (hb.mono bX.out.size)).mono HB.out.size), Nat.le_trans HM.out.2.2 (Nat.le_trans bX.out.size hb.size)⟩; have I2 := Lib.hid I1; clear hb I1))
        go_roundw
        case rel => exact ⟨i + 1, by omega, by go_num, by rw [NS2.out]; exact I2.out⟩
        case measure => first | (simp [intOf]; done) | (simp [intOf]; omega)
    · obtain rfl : i = n := by omega
      have li : ¬ ((i : Int) < (i : Int)) := by omega
      have ei : ns.take i = ns := List.take_of_length_le (by have := NE.out; omega)
      rw [ei] at HM
      go_wp2
      go_ret
      exact ⟨⟨rfl, HM.out.1⟩, HB.out⟩
end Go.Proofs.Ytiglakhfkgeefaa
set_option linter.unusedSimpArgs false
set_option linter.unusedVariables false
namespace Go.Word
section
variable {P : Program} {md : Region.Mode} {ops : Array Oper} {Q : Exit → Act → World → Prop} {own : Nat → Option Nat} {vals : Nat → Value} {a0 : Act}
theorem every_factV (rank : Nat → Nat) (F : Array Bool → Nat → Value → World → Prop) (Inv : Array Bool → (Nat → Value) → World → Prop)
    (hac : ∀ (i : Nat) (oi : Oper), ops[i]? = some oi → ∀ e ∈ oi.after, Region.binds md e = true → rank e.on < rank i)
    (hon : ∀ (i : Nat) (oi : Oper), ops[i]? = some oi → ∀ e ∈ oi.after, e.on < ops.size)
    (hdst : ∀ i oi, ops[i]? = some oi → (oi.dst = none ∧ ∀ t, own t ≠ some i) ∨ ∃ d, oi.dst = some d ∧ d < a0.tmps.size ∧ own d = some i ∧ ∀ t, own t = some i → t = d)
    (hop : ∀ i oi a w listed vals, ops[i]? = some oi → listed.size = ops.size → Shut md ops listed → listed.getD i false = false → (∀ e ∈ oi.after, Region.binds md e = true → listed.getD e.on false = true) → Tabd own vals a0 listed a → (∀ k, listed.getD k false = true → F listed k (vals k) w) → Inv listed vals w →
      (Region.wanted oi (yielded ops a.tmps) = true ∧ ∀ K : Act → World → Prop, (∀ v w', F (listed.setIfInBounds i true) i v w' → (∀ k u, k ≠ i → listed.getD k false = true → F listed k u w → F (listed.setIfInBounds i true) k u w') → Inv (listed.setIfInBounds i true) (upd vals i v) w' → K (a.put oi.dst v) w') → Oper.wp P oi a w K Q) ∨
      (Region.wanted oi (yielded ops a.tmps) = false ∧ F (listed.setIfInBounds i true) i undef w ∧ (∀ k u, k ≠ i → listed.getD k false = true → F listed k u w → F (listed.setIfInBounds i true) k u w) ∧ Inv (listed.setIfInBounds i true) (upd vals i undef) w))
    (hend : ∀ a w listed vals, (∀ i, i < ops.size → listed.getD i false = true) → Tabd own vals a0 listed a → (∀ k, k < ops.size → F listed k (vals k) w) → Inv listed vals w → Q .normal a w) :
    ∀ (fuel : Nat) (listed : Array Bool) (a : Act) (w : World) (vals : Nat → Value), listed.size = ops.size → Shut md ops listed → listed.toList.count false ≤ fuel → Tabd own vals a0 listed a → (∀ k, listed.getD k false = true → F listed k (vals k) w) → Inv listed vals w → wpAny P md ops Q fuel listed a w := by
  intro fuel
  induction fuel with
  | zero =>
    intro listed a w vals hs hcl hc ht hF hI
    have hr : Region.ready md ops listed = [] := List.eq_nil_iff_forall_not_mem.2 fun j hj => by
      obtain ⟨hun, oj, hoj, _⟩ := mem_ready.1 hj
      have hjlt : j < ops.size := (Array.getElem?_eq_some_iff.1 hoj).1
      have := count_pos (by omega) hun
      omega
    have ha := all_listed hac hs hon hr
    exact ⟨hr, hend a w listed vals ha ht (fun k hk => hF k (ha k hk)) hI⟩
  | succ fuel ih =>
    intro listed a w vals hs hcl hc ht hF hI
    refine ⟨fun hr => ?_, fun i hi => ?_⟩
    · have ha := all_listed hac hs hon hr
      exact hend a w listed vals ha ht (fun k hk => hF k (ha k hk)) hI
    obtain ⟨hun, oi, hoi, hdeps⟩ := mem_ready.1 hi
    have hilt : i < ops.size := (Array.getElem?_eq_some_iff.1 hoi).1
    have hun2 : listed.getD i false = false := by
      rw [Array.getD_eq_getD_getElem?, Array.getElem?_eq_getElem (by omega)] at hun ⊢
      simpa using hun
    have next : ∀ v w', F (listed.setIfInBounds i true) i v w' → (∀ k u, k ≠ i → listed.getD k false = true → F listed k u w → F (listed.setIfInBounds i true) k u w') → Inv (listed.setIfInBounds i true) (upd vals i v) w' → wpAny P md ops Q fuel (listed.setIfInBounds i true) (a.put oi.dst v) w' := fun v w' h1 h2 h3 => by
      have ht1 := tabd_upd v ht hun2
      have hv : upd vals i v i = v := upd_same vals i v
      have ht' : Tabd own (upd vals i v) a0 (listed.setIfInBounds i true) (a.put oi.dst v) := by
        rcases hdst i oi hoi with ⟨hd, hno⟩ | ⟨d, hd, hdl, hod, hinj⟩
        · have := tabd_skip ht1 hno
          rw [hv] at this
          rw [hd]; exact this
        · have := tabd_put ht1 (by omega) hdl hod hinj
          rw [hv] at this
          rw [hd]; exact this
      refine ih _ _ _ (upd vals i v) (by simp [hs]) (shut_set hcl hs hoi hdeps) (count_set (by omega) hun hc) ht' (fun k hk => ?_) h3
      by_cases e : k = i
      · subst e
        rw [hv]; exact h1
      · rw [upd_other e]
        rw [getD_set_ne false (Ne.symm e)] at hk
        exact h2 k _ e hk (hF k hk)
    unfold wpOp
    rw [hoi]
    rcases hop i oi a w listed vals hoi hs hcl hun2 hdeps ht hF hI with ⟨hw, hK⟩ | ⟨hw, hv, hk, hI2⟩
    · simp only [hw, if_true]
      exact .inl (hK _ next)
    · simp only [hw, Bool.false_eq_true, if_false]
      exact next undef w hv hk hI2
end
end Go.Word
