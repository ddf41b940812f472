/-
What is proved here: what is taken off a shelf, by a contract. what keeping a file turns: the closure keep, by a contract. the third time that files are sought, by a contract. whether a row of numbers has one, by a contract. two sources compared. the second time that files are sought, by a contract. the first time that files are sought, by their names, by a contract.
-/
import Derived.Test.YtiglakhfkgeefaaMps
import Derived.Shelf.SlicesE.DeleteFunc
import Derived.Sort.OwnSortedInts
import Derived.Great.Walk
import Derived.Laws.Rows
import Derived.Laws.StructEq
set_option linter.unusedSimpArgs false
set_option linter.unusedVariables false
namespace Go.Proofs.Ytiglakhfkgeefaa
open Go.Pth Go.Tre Go.RowKit Go.Word Go.Mat
def del_ren : Go.Shelf.Ren := ⟨fun | 6 => 81 | 10 => 63 | n => n, fun | 22 => 94 | 23 => 3 | 25 => 105 | n => n, fun n => n⟩
theorem delLay : Go.Proofs.SlLaysH.n10 Try.prog del_ren := {
  mixed := by kernel_rfl
  f6 := ⟨Try.f81.name, by decide, Try.func81.trans (congrArg some (by kernel_rfl))⟩
  f10 := ⟨Try.f63.name, by decide, Try.func63.trans (congrArg some (by kernel_rfl))⟩
  t0 := Try.underlying0
  a0 := Try.isAgg0
  z0 := Try.sizeOf0
  v0 := Try.zeroValue0
  t3 := Try.underlying3
  a3 := Try.isAgg3
  z3 := Try.sizeOf3
  v3 := Try.zeroValue3
  t4 := Try.underlying4
  a4 := Try.isAgg4
  z4 := Try.sizeOf4
  v4 := Try.zeroValue4
  t22 := Try.underlying94
  a22 := Try.isAgg94
  z22 := Try.sizeOf94
  v22 := Try.zeroValue94
  a23 := Try.isAgg3
  z23 := Try.sizeOf3
  t25 := Try.underlying105
  a25 := Try.isAgg105
  z25 := Try.sizeOf105
  v25 := Try.zeroValue105 }
/-- the closure of take -/
theorem takeP_any (f x : Int) (B : Nat) (W : World) (hc : W.cell? ⟨B, 0, none⟩ = some (.int .i64 f)) : FnGives Try.prog 64 #[.pointer (some ⟨B, 0, none⟩)] #[.int .i64 x] (.bool (x == f)) W := by
  show Calls Try.prog 64 #[.int .i64 x, .pointer (some ⟨B, 0, none⟩)] W _
  go_enter Try.func64, Try.ntmps64
  go_wp2
  all_goals (go_ret; exact ⟨by simp_all, 0, rfl⟩)
theorem takeP_at (f : Int) (B : Nat) (w : World) (hB : B < w.heap.size) (hc : w.cell? ⟨B, 0, none⟩ = some (.int .i64 f)) : PredAt Try.prog 64 #[.pointer (some ⟨B, 0, none⟩)] (Value.int .i64) (fun x => x == f) w :=
  fun W x hb => takeP_any f x B W ((hb.cell (p := ⟨B, 0, none⟩) hB).trans hc)
theorem takeP_over (f : Int) (B blk off size : Nat) (w : World) (hB : B < w.heap.size) (hne : B ≠ blk) (hc : w.cell? ⟨B, 0, none⟩ = some (.int .i64 f)) : PredOver Try.prog 64 #[.pointer (some ⟨B, 0, none⟩)] (Value.int .i64) (fun x => x == f) blk off size w :=
  fun n os dk x _ => takeP_any f x B _ (by
    unfold sortWorld
    rw [Sort.cell?_grow _ _ _ (by show B < (Sort.putRow _ _ _ _ _).heap.size; rw [Sort.size_putRow]; exact hB), Sort.cell?_putRow_other _ _ blk off _ _ (Or.inl hne)]
    exact hc)
def cutN (zs : List Int) (f : Int) : List Int := zs.filter fun x => !(x == f)
theorem cutN_len (zs : List Int) (f : Int) : (cutN zs f).length ≤ zs.length := List.length_filter_le _ _
/-- a row from which a number is struck: the slice that is left, and the whole row, with noughts behind -/
theorem strike_any (f : Int) (B base : Nat) (v : Value) (zs : List Int) (w : World) (ho : w.ownsInts base 3 .i64 v zs) (hne : zs ≠ []) (hB : B < w.heap.size) (hBv : v.ownBlock ≠ some B) (hc : w.cell? ⟨B, 0, none⟩ = some (.int .i64 f)) (hn : zs.length ≤ 100000) :
    Calls Try.prog 63 #[v, .func (.func 64) #[] #[.pointer (some ⟨B, 0, none⟩)]] w fun e w' => ∃ v' zs1, e = .returned v' ∧ w'.ownsInts base 3 .i64 v' (cutN zs f) ∧ v'.ownBlock = v.ownBlock ∧ w'.ownsInts base 3 .i64 v zs1 ∧ zs1.length = zs.length ∧ w.grownBy w' v.ownBlock ∧ (∃ A C, v' = .slice A (cutN zs f).length C) := by
  obtain ⟨⟨hl, hr⟩, hwf⟩ := ho
  rcases hr with ⟨_, h0⟩ | ⟨g, cap, cur, rfl, hg, hb, hcap, hmax, hsz, htk⟩
  · exact absurd (List.length_eq_zero_iff.1 h0) hne
  have hgB : B ≠ g := fun e => hBv (by rw [e]; rfl)
  have hH := holds_of_blockI (ss := zs) hb (by rw [Nat.mul_one] at htk; exact htk)
  have eg : ∀ args w, (callFunc 64 args).run Try.prog w = .ok (.enter 64 args) w := enters_of Try.func64 (by kernel_rfl) rfl
  have hcon := AnyE.slices_DeleteFunc delLay (Value.int .i64) (fun _ => rfl) (fun x => x == f) 64 #[.pointer (some ⟨B, 0, none⟩)] eg 0 Try.zeroValue3 g 0 cap zs.toArray w
    (takeP_at f B w hB hc) (takeP_over f B g 0 zs.toArray.size w hB hgB hc) hH (by simp; omega) (by simp; exact hcap)
  have hfl := cutN_len zs f
  change Calls Try.prog 63 _ _ _ at hcon
  simp only [List.size_toArray] at hcon
  change Calls Try.prog 63 _ w (fun e w' => e = .returned (.slice (some ⟨g, 0, none⟩) (cutN zs f).length cap) ∧ ∃ q, w' = Sort.putRow (Value.int .i64) (Sort.ahead w q) g 0 (cutN zs f ++ List.replicate (zs.length - (cutN zs f).length) 0).toArray) at hcon
  refine hcon.mono ?_
  rintro e w' ⟨rfl, q, rfl⟩
  have hts : (cutN zs f ++ List.replicate (zs.length - (cutN zs f).length) (0 : Int)).length = zs.length := by simp only [List.length_append, List.length_replicate]; omega
  obtain ⟨ts, hte⟩ : ∃ ts, ts = cutN zs f ++ List.replicate (zs.length - (cutN zs f).length) (0 : Int) := ⟨_, rfl⟩
  have htk2 : ts.take (cutN zs f).length = cutN zs f := by rw [hte, List.take_left]
  have wfz : (Lit.int .i64 0).wf = true := by decide
  have wf1 : ∀ z ∈ ts, (Lit.int .i64 z).wf = true := fun z hz => by
    rw [hte] at hz
    rcases List.mem_append.1 hz with h | h
    · exact hwf z ((List.mem_filter.1 h).1)
    · rw [(List.mem_replicate.1 h).2]; exact wfz
  rw [← hte] at hts ⊢
  have hrow := ownsRow_sortedI (w := w) (n := q) (os := #[]) (ts := ts) hts hg hb hcap hmax hsz
  have hgr := grownBy_sortedI (w := w) (g := g) (n := q) (os := #[]) ts.toArray
  rw [Sort.grow_empty] at hrow hgr
  have hblk := heap_sortedI (n := q) (os := #[]) ts.toArray hb
  rw [Sort.grow_empty] at hblk
  refine ⟨_, ts, rfl, ⟨⟨by simp, .inr ⟨g, cap, _, rfl, hg, hblk, by omega, hmax, by simp [Sort.putCells, hsz], ?_⟩⟩, fun z hz => hwf z ((List.mem_filter.1 hz).1)⟩, rfl, ⟨by rw [hts]; exact hrow, wf1⟩, hts, hgr, ⟨_, _, rfl⟩⟩
  have h5 := take_putCellsI cur ts (by rw [hts, hsz]; omega)
  have h6 := congrArg (List.take (cutN zs f).length) h5
  rw [List.take_take, Nat.min_eq_left (by omega), ← List.map_take, htk2] at h6
  rw [Nat.mul_one]
  exact h6
theorem wpList_del_eq {P : Program} {w w' : World} {ops : Array Oper} {rest : List Oper} {o : Oper} {a : Act} {Q : Exit → Act → World → Prop} {t k : TypeId} (hg : o.guard = none) (m x : Operand) (hop : o.op = Op.call { callee := Callee.builtin Builtin.delete, args := #[m, x], argTypes := #[t, k] })
    (mv xv : Value) (hm : a.eval m = mv) (hx : a.eval x = xv) (hr : (Builtin.delete_ #[t, k] o.type #[mv, xv]).run P w = .ok (.tuple #[]) w') (h : wpList P ops Q rest (a.put o.dst (.tuple #[])) w') : wpList P ops Q (o :: rest) a w := by
  refine wpList_plain hg fun K' hK' => ?_
  have e : (execOp a.eval o).run P w = .ok (.value (.tuple #[])) w' := by
    unfold execOp
    simp only [hop, resolve, invoke, builtin, Sem.run_bind, Sem.run_pure, Result.andThen_ok, List.map_toArray, List.map_cons, List.map_nil, hm, hx, hr]
  unfold Oper.wp
  rw [e]
  exact hK' _ _ h
theorem look_f {P : Program} {w : World} {ops : Array Oper} {rest : List Oper} {o : Oper} {a : Act} {Q : Exit → Act → World → Prop} (hg : o.guard = none) (m x : Operand) (t : TypeId) (hop : o.op = Op.lookup t m x false)
    (mv xv v : Value) (hm : a.eval m = mv) (hx : a.eval x = xv) (hr : (Instr.lookup t mv xv false).run P w = .ok v w) (h : wpList P ops Q rest (a.put o.dst v) w) : wpList P ops Q (o :: rest) a w := by
  refine wpList_plain hg fun K' hK' => ?_
  unfold Oper.wp
  simp [execOp, hop, hm, hx, hr, Result.andThen]
  exact hK' _ _ h
/-- all but the map and rows of numbers beyond the base is as it was -/
structure KT (w w' : World) (base b : Nat) : Prop where
  os : w'.os = w.os
  tape : w'.tape = w.tape
  output : w'.output = w.output
  size : w.heap.size ≤ w'.heap.size
  block : ∀ i, i < w.heap.size → i ≠ b → (i < base ∨ ∀ cs, w.heap[i]? ≠ some (.cells cs 3 (0, 0))) → w'.heap[i]? = w.heap[i]?
set_option maxRecDepth 100000 in
set_option maxHeartbeats 1000000 in
theorem take_any (base b n : Nat) (F : Bt → List Int) (l : Bt) (f : Int) (w : World) (h : ShelfAt w base b n F) (hl : l.length ≤ 100000) (hn : n ≤ 90000) (hne : F l ≠ []) :
    Calls Try.prog 47 #[.map (some b), St l, .int .i64 f] w fun e w' => e = .returned (.tuple #[]) ∧ ShelfAt w' base b (n + 1) (updF F l (cutN (F l) f)) ∧ KT w w' base b := by
  have g0 := World.grownBy_alloc w (.cells #[.int .i64 f] 3) none
  obtain ⟨v, hlook, ho, hlen, hput, hdel⟩ := shelf_look h l hl (by omega)
  have hbl := shelf_lt h
  have LK := Lib.hid (hlook (w.alloc (.cells #[.int .i64 f] 3)) (heap_alloc_old w _ hbl.1))
  have c0 := lies_cell (lies_new w 3 #[.int .i64 f]) 0
  simp only [List.getElem?_toArray, List.getElem?_cons_zero] at c0
  have hvl : ∀ r, v.ownBlock = some r → base ≤ r ∧ r < w.heap.size := fun r e => ho.1.lt r e
  have hv3 : ∀ r, v.ownBlock = some r → ∃ cs, w.heap[r]? = some (.cells cs 3 (0, 0)) := fun r e => by
    rcases ho.1.2 with ⟨e1, _⟩ | ⟨g, cap, cur, e1, _, h5, _⟩
    · rw [e1] at e; simp [Value.ownBlock] at e
    · rw [e1] at e
      simp only [Value.ownBlock, Option.some.injEq] at e
      subst e
      exact ⟨_, h5⟩
  have hBv : v.ownBlock ≠ some w.heap.size := fun e => by have := (hvl _ e).2; omega
  have SK := Lib.hid (strike_any f w.heap.size base v (F l) _ (ho.alloc _) hne (by simp) hBv c0 (by omega))
  have HP := Lib.hid hput
  have HD := Lib.hid hdel
  have HL := Lib.hid hlen
  have H0 := Lib.hid g0
  have HV := Lib.hid hvl
  have H3 := Lib.hid hv3
  have HB := Lib.hid hbl
  have trans0 : ∀ {w1 w2 : World} {row : Option Nat}, w.grownBy w1 none → w1.grownBy w2 row → w.grownBy w2 row := fun h k => ⟨k.os.trans h.os, k.tape.trans h.tape, k.output.trans h.output, Nat.le_trans h.size k.size, fun i hi hn => (k.block i (Nat.lt_of_lt_of_le hi h.size) hn).trans (h.block i hi (by simp))⟩
  have HT : Hid (∀ (w1 w2 : World) (row : Option Nat), w.grownBy w1 none → w1.grownBy w2 row → w.grownBy w2 row) := Lib.hid (fun w1 w2 row h k => trans0 h k)
  have kt : ∀ {w1 w2 : World}, w.grownBy w1 v.ownBlock → w1.grownBy w2 (some b) → KT w w2 base b := fun h k => ⟨k.os.trans h.os, k.tape.trans h.tape, k.output.trans h.output, Nat.le_trans h.size k.size, fun i hi hb hw => (k.block i (Nat.lt_of_lt_of_le hi h.size) (fun e => hb (by injection e))).trans (h.block i hi (fun e => by
    rcases hw with hw | hw
    · have := (hvl i e.symm).1; omega
    · obtain ⟨cs, h9⟩ := hv3 i e.symm
      exact hw cs h9))⟩
  have HK : Hid (∀ (w1 w2 : World), w.grownBy w1 v.ownBlock → w1.grownBy w2 (some b) → KT w w2 base b) := Lib.hid (fun w1 w2 h k => kt h k)
  clear hlook ho hlen hput hdel hbl g0 hvl hv3 hBv h trans0 kt
  go_enter Try.func47, Try.ntmps47
  go_upto_region 2 with (first
    | (refine look_f rfl _ _ 83 rfl (.map (some b)) (St l) v rfl rfl LK.out ?_)
    | (go_at_call 63; (with_reducible refine SK.out.mono ?_); rintro e w1 ⟨v', zs1, rfl, ho', hob, ho1, hz1, hg1, A', C', rfl⟩; have O' := Lib.hid ho'; have OB := Lib.hid hob; have O1 := Lib.hid ho1; have Z1 := Lib.hid hz1; have G1 := Lib.hid (HT.out _ _ _ H0.out hg1); clear ho' hob ho1 hz1 hg1))
  by_cases hz : cutN (F l) f = []
  · obtain ⟨w2, hr, hs, hg⟩ := HD.out w1 zs1 G1.out O1.out (by rw [Z1.out]; exact HL.out)
    have R := Lib.hid hr
    have S := Lib.hid hs
    have K := Lib.hid (HK.out _ _ G1.out hg)
    have hz0 : (cutN (F l) f).length = 0 := by rw [hz]; rfl
    have HZ := Lib.hid hz
    clear hr hs hg hz
    rw [hz0]
    go_wp2_with (refine wpList_del_eq rfl _ _ rfl (.map (some b)) (St l) rfl rfl R.out ?_)
    refine bodyPost_ret (results_none rfl _ _ _) rfl ?_
    exact ⟨rfl, shelf_mono (by rw [HZ.out]; exact S.out) (Nat.le_succ n), K.out⟩
  · obtain ⟨w2, hr, hs, hg⟩ := HP.out w1 _ (cutN (F l) f) G1.out O'.out hz (by have := cutN_len (F l) f; have := HL.out; omega) (.inl OB.out)
    have R := Lib.hid hr
    have S := Lib.hid hs
    have K := Lib.hid (HK.out _ _ G1.out hg)
    have hz0 : ¬ ((cutN (F l) f).length : Int) = 0 := fun e => hz (List.length_eq_zero_iff.1 (by omega))
    have hz1 : (((cutN (F l) f).length : Int) == 0) = false := by simpa using hz0
    clear hr hs hg hz
    generalize (cutN (F l) f).length = k at *
    go_wp2_with (refine wpList_put_eq rfl _ _ _ 83 rfl (.map (some b)) (St l) (.slice A' k C') rfl rfl rfl R.out ?_)
    exact Go.Great.bodyPost_end0 rfl rfl ⟨rfl, S.out, K.out⟩
end Go.Proofs.Ytiglakhfkgeefaa
set_option linter.unusedSimpArgs false
set_option linter.unusedVariables false
namespace Go.Mat
open Go.Pth
def strikeN (zs : List Int) (f : Int) : List Int := zs.filter fun x => !(x == f)
/-- what the three times turn: the shelf, and of each text the first file that is no copy -/
structure MS where
  F : Bt → List Int
  f1 : Bt → Option Int
def firstS (f1 : Bt → Option Int) (text : Bt) (file : Int) : Bt → Option Int := match f1 text with
  | none => updF f1 text (some file)
  | some at_ => if file < at_ then updF f1 text (some file) else f1
def keepS (s : MS) (file : Int) (text : Bt) (from_ : Int) : MS := ⟨updF s.F text (strikeN (s.F text) from_), firstS s.f1 text file⟩
end Go.Mat
namespace Go.Proofs.Ytiglakhfkgeefaa
open Go.Pth Go.Tre Go.RowKit Go.Word Go.Mat
/-- all but the two maps and rows of numbers beyond the base is as it was -/
structure KM (w w' : World) (base mF m1 : Nat) : Prop where
  os : w'.os = w.os
  tape : w'.tape = w.tape
  output : w'.output = w.output
  size : w.heap.size ≤ w'.heap.size
  block : ∀ i, i < w.heap.size → i ≠ mF → i ≠ m1 → (i < base ∨ ∀ cs, w.heap[i]? ≠ some (.cells cs 3 (0, 0))) → w'.heap[i]? = w.heap[i]?
section
variable {w w1 w2 : World} {base mF m1 : Nat}
theorem km_refl (w : World) (base mF m1 : Nat) : KM w w base mF m1 := ⟨rfl, rfl, rfl, Nat.le_refl _, fun _ _ _ _ _ => rfl⟩
theorem km_kt (h : KT w w1 base mF) : KM w w1 base mF m1 := ⟨h.os, h.tape, h.output, h.size, fun i hi h1 _ h3 => h.block i hi h1 h3⟩
theorem km_grown0 (h : w.grownBy w1 none) : KM w w1 base mF m1 := ⟨h.os, h.tape, h.output, h.size, fun i hi _ _ _ => h.block i hi (by simp)⟩
theorem km_map (h : w.grownBy w1 (some m1)) : KM w w1 base mF m1 := ⟨h.os, h.tape, h.output, h.size, fun i hi _ h2 _ => h.block i hi (fun e => h2 (by injection e))⟩
theorem km_trans (h : KM w w1 base mF m1) (k : KM w1 w2 base mF m1) : KM w w2 base mF m1 := ⟨k.os.trans h.os, k.tape.trans h.tape, k.output.trans h.output, Nat.le_trans h.size k.size, fun i hi h1 h2 h3 =>
  have e := h.block i hi h1 h2 h3
  (k.block i (Nat.lt_of_lt_of_le hi h.size) h1 h2 (by rw [e]; exact h3)).trans e⟩
theorem km_below {B : Nat} (h : KM w w1 base mF m1) (h1 : B ≤ mF) (h2 : B ≤ m1) (h3 : B ≤ base) (hB : B ≤ w.heap.size) : Below B w w1 := ⟨h.os, h.tape, h.output, h.size, fun i hi => h.block i (by omega) (by omega) (by omega) (.inl (by omega))⟩
theorem km_lies (h : KM w w1 base mF m1) {g : Nat} {t : TypeId} {cs : Array Value} (hl : Lies w g t cs) (ht : t ≠ 3) (h1 : g ≠ mF) (h2 : g ≠ m1) : Lies w1 g t cs :=
  (h.block g (lies_lt hl) h1 h2 (.inr (fun c e => by rw [show _ = _ from hl] at e; injection e with e; injection e with _ e _; exact ht e))).trans hl
theorem km_num (h : KM w w1 base mF m1) {b n : Nat} {G : Bt → Option Int} (hn : NumM w b n G) (h1 : b ≠ mF) (h2 : b ≠ m1) : NumM w1 b n G := by
  obtain ⟨q, hq, hw⟩ := numM_walk hn
  exact numM_same hn (h.block b (numM_lt hn) h1 h2 (.inr (fun cs e => by rw [hq] at e; injection e with e; subst e; cases hw)))
end
/-- a new block that takes a value, and its own row: whatever lay before -/
theorem km_setRow {w w1 : World} {base mF m1 g : Nat} (h : KM w w1 base mF m1) (hg : w.heap.size ≤ g) (cs : Array Value) : KM w (w1.setRow g cs) base mF m1 :=
  ⟨h.os, h.tape, h.output, by simpa using h.size, fun i hi h1 h2 h3 => (setRow_other w1 g i cs (by omega)).trans (h.block i hi h1 h2 h3)⟩
theorem numM_mono {w : World} {b n n' : Nat} {G : Bt → Option Int} (h : NumM w b n G) (hn : n ≤ n') : NumM w b n' G := by
  obtain ⟨D, h1, h2⟩ := h
  exact ⟨D, h1.mono hn, h2⟩
theorem zero54 (w : World) : (zeroValue 54).run Try.prog w = .ok (.agg #[.int .i64 0, .int .i64 0, .int .i64 0]) w := by kernel_rfl
def srcV (k f r : Int) : Value := .agg #[.int .i64 k, .int .i64 f, .int .i64 r]
set_option maxRecDepth 100000 in
set_option maxHeartbeats 1000000 in
theorem keep_any (b7 b10 base mF m1 n n1 : Nat) (s : MS) (file : Int) (l : Bt) (fr : Int) (w : World) (h7 : Lies w b7 83 #[.map (some mF)]) (h10 : Lies w b10 85 #[.map (some m1)]) (hS : ShelfAt w base mF n s.F) (hN : NumM w m1 n1 s.f1)
    (hd1 : m1 ≠ mF) (hd7 : b7 ≠ mF ∧ b7 ≠ m1) (hd10 : b10 ≠ mF ∧ b10 ≠ m1) (hl : l.length ≤ 100000) (hn : n ≤ 80000) (hn1 : n1 ≤ 80000) (hne : s.F l ≠ []) (hf : 0 ≤ file ∧ file ≤ 1000000) :
    Calls Try.prog 46 #[.int .i64 file, St l, .int .i64 fr, .pointer (some ⟨b7, 0, none⟩), .pointer (some ⟨b10, 0, none⟩)] w fun e w' => e = .returned (srcV 1 fr 0) ∧ ShelfAt w' base mF (n + 1) (keepS s file l fr).F ∧ NumM w' m1 (n1 + 1) (keepS s file l fr).f1 ∧ KM w w' base mF m1 := by
  have hz := zero54
  have g0 := World.grownBy_alloc w (.cells #[.int .i64 0, .int .i64 0, .int .i64 0] 54) none
  have LR := lies_new w 54 #[.int .i64 0, .int .i64 0, .int .i64 0]
  have l7 := lies_alloc h7 (.cells #[.int .i64 0, .int .i64 0, .int .i64 0] 54)
  have l10 := lies_alloc h10 (.cells #[.int .i64 0, .int .i64 0, .int .i64 0] 54)
  have TK := Lib.hid (take_any base mF n s.F l fr _ (shelf_grown0 hS g0) hl (by omega) hne)
  have NU := Lib.hid (numM_same hN (heap_alloc_old w (.cells #[.int .i64 0, .int .i64 0, .int .i64 0] 54) (numM_lt hN)))
  have x7 := lies_cell l7 0
  simp only [List.getElem?_toArray, List.getElem?_cons_zero] at x7
  have L10 := Lib.hid l10
  have HR := Lib.hid LR
  have hmF := (shelf_lt hS).1
  have K0 := Lib.hid (km_grown0 (base := base) (mF := mF) (m1 := m1) g0)
  have R0 := Lib.hid (show w.heap.size ≠ mF ∧ w.heap.size ≠ m1 from ⟨by omega, by have := numM_lt hN; omega⟩)
  have WF := Lib.hid (wf_int (z := file) (by omega) (by omega))
  clear h7 h10 hS hN l7 l10 LR g0 hmF
  go_enter Try.func46, Try.ntmps46
  go_upto_region 2 with (go_at_call 47; (with_reducible refine TK.out.mono ?_); rintro e w1 ⟨rfl, hs, hk⟩; have S1 := Lib.hid hs; have K1 := Lib.hid (km_trans K0.out (km_kt (m1 := m1) hk)); have N1 := Lib.hid (km_num (km_kt (m1 := mF) hk) NU.out hd1 hd1); have M1 := Lib.hid (km_lies (km_kt (m1 := mF) hk) L10.out (by decide) hd10.1 hd10.1); have Q1 := Lib.hid (km_lies (km_kt (m1 := mF) hk) HR.out (by decide) R0.out.1 R0.out.1); clear hs hk)
  obtain ⟨c, hr, hc⟩ := numM_look N1.out l hl
  have x10 := lies_cell M1.out 0
  simp only [List.getElem?_toArray, List.getElem?_cons_zero] at x10
  obtain ⟨w2, hp, hN2, hg2⟩ := numM_put N1.out l hl (by omega) file WF.out
  have P2 := Lib.hid hp
  have N2 := Lib.hid hN2
  have S2 := Lib.hid (shelf_other S1.out hg2 (fun e => hd1 (by injection e)) (fun r e cs => by
    injection e with e
    subst e
    obtain ⟨q, hq, hw⟩ := numM_walk N1.out
    intro h5
    rw [hq] at h5
    injection h5 with h5
    subst h5
    cases hw))
  have K2 := Lib.hid (km_trans K1.out (km_map hg2))
  have Q2 := Lib.hid (km_lies (km_map (mF := mF) (base := base) hg2) Q1.out (by decide) R0.out.1 R0.out.2)
  have KS0 : (keepS s file l fr).F = updF s.F l (cutN (s.F l) fr) := rfl
  have fin : ∀ W : World, KM w W base mF m1 → Hid (KM w (W.setRow w.heap.size #[.int .i64 1, .int .i64 fr, .int .i64 0]) base mF m1) := fun W h => Lib.hid (km_setRow h (Nat.le_refl _) _)
  have gsr : ∀ W : World, W.grownBy (W.setRow w.heap.size #[.int .i64 1, .int .i64 fr, .int .i64 0]) (some w.heap.size) := fun W => ⟨rfl, rfl, rfl, by simp, fun i _ hne => setRow_other W _ i _ (fun e => hne (by rw [e]))⟩
  have finS : ∀ (W : World) (F : Bt → List Int) (n : Nat), ShelfAt W base mF n F → Lies W w.heap.size 54 #[.int .i64 0, .int .i64 0, .int .i64 0] → Hid (ShelfAt (W.setRow w.heap.size #[.int .i64 1, .int .i64 fr, .int .i64 0]) base mF n F) := fun W F n h hl => Lib.hid (shelf_other h (gsr W) (fun e => R0.out.1 (by injection e)) (fun r e cs h5 => by
    injection e with e
    subst e
    rw [show _ = _ from hl] at h5
    injection h5 with h5
    injection h5 with _ h5 _
    cases h5))
  have finN : ∀ (W : World) (G : Bt → Option Int) (k : Nat), NumM W m1 k G → Hid (NumM (W.setRow w.heap.size #[.int .i64 1, .int .i64 fr, .int .i64 0]) m1 k G) := fun W G k h => Lib.hid (numM_same h (setRow_other W _ m1 _ (Ne.symm R0.out.2)))
  clear hN2 hp hg2 TK NU HR L10 K0 x7 hne hd1 hd7 hd10 gsr
  cases hF1 : s.f1 l with
  | none =>
    have e1 : firstS s.f1 l file = updF s.f1 l (some file) := by unfold firstS; rw [hF1]
    rw [hF1] at hr hc
    have hr : (Instr.lookup 85 (.map (some m1)) (St l) true).run Try.prog w1 = .ok (.tuple #[.int .i64 c, .bool false]) w1 := hr
    have FS := finS w2 _ _ S2.out Q2.out
    have FN := finN w2 _ _ N2.out
    have FK := fin w2 K2.out
    clear hc
    go_wp2_with (first
      | (refine wpList_put_eq rfl _ _ _ 85 rfl (.map (some m1)) (St l) (.int .i64 file) rfl rfl rfl P2.out ?_)
      | (refine wpList_store_row rfl 54 _ _ rfl w.heap.size #[.int .i64 1, .int .i64 fr, .int .i64 0] rfl rfl 54 #[.int .i64 0, .int .i64 0, .int .i64 0] Q2.out (by kernel_rfl) rfl (by simp [Value.oneCell']) ?_))
    refine bodyPost_ret (results_cell_row rfl _ _ w.heap.size 54 #[.int .i64 1, .int .i64 fr, .int .i64 0] (0, 0) _ rfl (lies_setRow Q2.out #[.int .i64 1, .int .i64 fr, .int .i64 0]) Try.underlying54 rfl (by kernel_rfl)) rfl ?_
    exact ⟨rfl, FS.out, by show NumM _ _ _ (firstS s.f1 l file); rw [e1]; exact FN.out, FK.out⟩
  | some at_ =>
    obtain rfl := hc at_ hF1
    rw [hF1] at hr
    have hr : (Instr.lookup 85 (.map (some m1)) (St l) true).run Try.prog w1 = .ok (.tuple #[.int .i64 c, .bool true]) w1 := hr
    by_cases hlt : file < c
    · have e1 : firstS s.f1 l file = updF s.f1 l (some file) := by unfold firstS; rw [hF1]; exact if_pos hlt
      have FS := finS w2 _ _ S2.out Q2.out
      have FN := finN w2 _ _ N2.out
      have FK := fin w2 K2.out
      clear hc
      go_wp2_with (first
        | (refine wpList_put_eq rfl _ _ _ 85 rfl (.map (some m1)) (St l) (.int .i64 file) rfl rfl rfl P2.out ?_)
        | (refine wpList_store_row rfl 54 _ _ rfl w.heap.size #[.int .i64 1, .int .i64 fr, .int .i64 0] rfl rfl 54 #[.int .i64 0, .int .i64 0, .int .i64 0] Q2.out (by kernel_rfl) rfl (by simp [Value.oneCell']) ?_))
      refine bodyPost_ret (results_cell_row rfl _ _ w.heap.size 54 #[.int .i64 1, .int .i64 fr, .int .i64 0] (0, 0) _ rfl (lies_setRow Q2.out #[.int .i64 1, .int .i64 fr, .int .i64 0]) Try.underlying54 rfl (by kernel_rfl)) rfl ?_
      exact ⟨rfl, FS.out, by show NumM _ _ _ (firstS s.f1 l file); rw [e1]; exact FN.out, FK.out⟩
    · have e1 : firstS s.f1 l file = s.f1 := by unfold firstS; rw [hF1]; exact if_neg hlt
      have FS := finS w1 _ _ S1.out Q1.out
      have FN := finN w1 _ _ N1.out
      have FK := fin w1 K1.out
      clear hc
      go_wp2_with (refine wpList_store_row rfl 54 _ _ rfl w.heap.size #[.int .i64 1, .int .i64 fr, .int .i64 0] rfl rfl 54 #[.int .i64 0, .int .i64 0, .int .i64 0] Q1.out (by kernel_rfl) rfl (by simp [Value.oneCell']) ?_)
      refine bodyPost_ret (results_cell_row rfl _ _ w.heap.size 54 #[.int .i64 1, .int .i64 fr, .int .i64 0] (0, 0) _ rfl (lies_setRow Q1.out #[.int .i64 1, .int .i64 fr, .int .i64 0]) Try.underlying54 rfl (by kernel_rfl)) rfl ?_
      exact ⟨rfl, FS.out, by show NumM _ _ _ (firstS s.f1 l file); rw [e1]; exact numM_mono FN.out (Nat.le_succ _), FK.out⟩
end Go.Proofs.Ytiglakhfkgeefaa
set_option linter.unusedSimpArgs false
set_option linter.unusedVariables false
namespace Go.Mat
open Go.Pth
/-- the third time: a copy, or what the stock has -/
def seek3S (stock : Bt → Option Int) (s : MS) (file : Int) (l : Bt) : (Int × Int × Int) × MS := match s.f1 l with
  | some at_ => ((2, at_, 0), s)
  | none => match stock l with
    | some at_ => ((3, 0, at_), ⟨s.F, updF s.f1 l (some file)⟩)
    | none => ((0, 0, 0), s)
end Go.Mat
namespace Go.Proofs.Ytiglakhfkgeefaa
open Go.Pth Go.Tre Go.RowKit Go.Word Go.Mat
abbrev z54 : Array Value := #[.int .i64 0, .int .i64 0, .int .i64 0]
theorem km_drewN (w : World) (q base mF m1 : Nat) : KM w (w.drewN q) base mF m1 := ⟨rfl, rfl, rfl, Nat.le_refl _, fun _ _ _ _ _ => rfl⟩
theorem km_new (w : World) (o : Obj) (base mF m1 : Nat) : KM w (w.alloc o) base mF m1 := km_grown0 (World.grownBy_alloc w o none)
/-- what a seeker keeps when it lays its answer into its own cell -/
theorem shelf_row {w : World} {base mF n g : Nat} {F : Bt → List Int} {t : TypeId} {old : Array Value} (h : ShelfAt w base mF n F) (hl : Lies w g t old) (ht : t ≠ 3) (hg : g ≠ mF) (cs : Array Value) : ShelfAt (w.setRow g cs) base mF n F :=
  shelf_other (row := some g) h ⟨rfl, rfl, rfl, by simp, fun i _ hne => setRow_other w g i cs (fun e => hne (by rw [e]))⟩ (fun e => hg (by injection e)) (fun r e c h5 => by
    injection e with e
    subst e
    rw [show _ = _ from hl] at h5
    injection h5 with h5
    injection h5 with _ h5 _
    exact ht h5)
theorem numM_row {w : World} {b n g : Nat} {F : Bt → Option Int} (h : NumM w b n F) (hg : g ≠ b) (cs : Array Value) : NumM (w.setRow g cs) b n F := numM_same h (setRow_other w g b cs (Ne.symm hg))
set_option maxRecDepth 100000 in
set_option maxHeartbeats 1000000 in
theorem seek3_any (b10 b11 base mF m1 mS n n1 nS : Nat) (s : MS) (stock : Bt → Option Int) (file : Int) (l : Bt) (w : World) (h10 : Lies w b10 85 #[.map (some m1)]) (h11 : Lies w b11 85 #[.map (some mS)]) (hS : ShelfAt w base mF n s.F) (hN : NumM w m1 n1 s.f1) (hK : NumM w mS nS stock)
    (hd1 : m1 ≠ mF) (hl : l.length ≤ 100000) (hn1 : n1 ≤ 80000) (hf : 0 ≤ file ∧ file ≤ 1000000) :
    Calls Try.prog 51 #[.int .i64 file, St l, .pointer (some ⟨b10, 0, none⟩), .pointer (some ⟨b11, 0, none⟩)] w fun e w' => e = .returned (srcV (seek3S stock s file l).1.1 (seek3S stock s file l).1.2.1 (seek3S stock s file l).1.2.2) ∧ ShelfAt w' base mF n (seek3S stock s file l).2.F ∧ NumM w' m1 (n1 + 1) (seek3S stock s file l).2.f1 ∧ KM w w' base mF m1 := by
  have hz := zero54
  have g0 := World.grownBy_alloc w (.cells z54 54) none
  have LR := lies_new w 54 z54
  have l10 := lies_alloc h10 (.cells z54 54)
  have l11 := lies_alloc h11 (.cells z54 54)
  have NU := numM_same hN (heap_alloc_old w (.cells z54 54) (numM_lt hN))
  have NK := numM_same hK (heap_alloc_old w (.cells z54 54) (numM_lt hK))
  have x10 := lies_cell l10 0
  have x11 := lies_cell l11 0
  simp only [List.getElem?_toArray, List.getElem?_cons_zero] at x10 x11
  have SH := Lib.hid (shelf_grown0 hS g0)
  have hmF := (shelf_lt hS).1
  have R0 := Lib.hid (show w.heap.size ≠ mF ∧ w.heap.size ≠ m1 from ⟨by omega, by have := numM_lt hN; omega⟩)
  have HR := Lib.hid LR
  have N0 := Lib.hid NU
  have K0 := Lib.hid (km_new w (.cells z54 54) base mF m1)
  obtain ⟨c, hr, hc⟩ := numM_look NU l hl
  obtain ⟨c2, hr2, hc2⟩ := numM_look NK l hl
  have D1 := Lib.hid hd1
  clear h10 h11 hS hN hK l10 l11 LR NU NK g0 hmF hd1
  have store : ∀ (W : World) (k f r : Int) (nn : Nat) (G : Bt → Option Int), Lies W w.heap.size 54 z54 → ShelfAt W base mF n s.F → NumM W m1 nn G → KM w W base mF m1 → Hid (ShelfAt (W.setRow w.heap.size #[.int .i64 k, .int .i64 f, .int .i64 r]) base mF n s.F ∧ NumM (W.setRow w.heap.size #[.int .i64 k, .int .i64 f, .int .i64 r]) m1 nn G ∧ KM w (W.setRow w.heap.size #[.int .i64 k, .int .i64 f, .int .i64 r]) base mF m1) :=
    fun W k f r nn G h1 h2 h3 h4 => Lib.hid ⟨shelf_row h2 h1 (by decide) R0.out.1 _, numM_row h3 R0.out.2 _, km_setRow h4 (Nat.le_refl _) _⟩
  cases hF1 : s.f1 l with
  | some at_ =>
    obtain rfl := hc at_ hF1
    have es : seek3S stock s file l = ((2, c, 0), s) := by unfold seek3S; rw [hF1]
    rw [es]
    rw [hF1] at hr
    have hr : (Instr.lookup 85 (.map (some m1)) (St l) true).run Try.prog (w.alloc (.cells z54 54)) = .ok (.tuple #[.int .i64 c, .bool true]) (w.alloc (.cells z54 54)) := hr
    have FN := store _ 2 c 0 _ _ HR.out SH.out N0.out K0.out
    clear hc hc2 hr2 store
    go_enter Try.func51, Try.ntmps51
    go_wp2_with (refine wpList_store_row rfl 54 _ _ rfl w.heap.size #[.int .i64 2, .int .i64 c, .int .i64 0] rfl rfl 54 z54 HR.out (by kernel_rfl) rfl (by simp [Value.oneCell']) ?_)
    refine bodyPost_ret (results_cell_row rfl _ _ w.heap.size 54 #[.int .i64 2, .int .i64 c, .int .i64 0] (0, 0) _ rfl (lies_setRow HR.out #[.int .i64 2, .int .i64 c, .int .i64 0]) Try.underlying54 rfl (by kernel_rfl)) rfl ?_
    exact ⟨rfl, FN.out.1, numM_mono FN.out.2.1 (Nat.le_succ _), FN.out.2.2⟩
  | none =>
    rw [hF1] at hr
    have hr : (Instr.lookup 85 (.map (some m1)) (St l) true).run Try.prog (w.alloc (.cells z54 54)) = .ok (.tuple #[.int .i64 c, .bool false]) (w.alloc (.cells z54 54)) := hr
    cases hK1 : stock l with
    | some at_ =>
      obtain rfl := hc2 at_ hK1
      have es : seek3S stock s file l = ((3, 0, c2), ⟨s.F, updF s.f1 l (some file)⟩) := by unfold seek3S; rw [hF1, hK1]
      rw [es]
      rw [hK1] at hr2
      have hr2 : (Instr.lookup 85 (.map (some mS)) (St l) true).run Try.prog (w.alloc (.cells z54 54)) = .ok (.tuple #[.int .i64 c2, .bool true]) (w.alloc (.cells z54 54)) := hr2
      obtain ⟨w2, hp, hN2, hg2⟩ := numM_put N0.out l hl (by omega) file (wf_int (by omega) (by omega))
      have P2 := Lib.hid hp
      have S2 := shelf_other SH.out hg2 (fun e => D1.out (by injection e)) (fun r e cs h5 => by
        injection e with e
        subst e
        obtain ⟨q, hq, hw⟩ := numM_walk N0.out
        rw [hq] at h5
        injection h5 with h5
        subst h5
        cases hw)
      have Q2 := km_lies (km_map (mF := mF) (base := base) hg2) HR.out (by decide) R0.out.1 R0.out.2
      have QL := Lib.hid Q2
      have FN := store _ 3 0 c2 _ _ Q2 S2 hN2 (km_trans K0.out (km_map hg2))
      clear hc hc2 store hp hN2 hg2 S2 Q2
      go_enter Try.func51, Try.ntmps51
      go_wp2_with (first
        | (refine wpList_put_eq rfl _ _ _ 85 rfl (.map (some m1)) (St l) (.int .i64 file) rfl rfl rfl P2.out ?_)
        | (refine wpList_store_row rfl 54 _ _ rfl w.heap.size #[.int .i64 3, .int .i64 0, .int .i64 c2] rfl rfl 54 z54 QL.out (by kernel_rfl) rfl (by simp [Value.oneCell']) ?_))
      refine bodyPost_ret (results_cell_row rfl _ _ w.heap.size 54 #[.int .i64 3, .int .i64 0, .int .i64 c2] (0, 0) _ rfl (lies_setRow QL.out #[.int .i64 3, .int .i64 0, .int .i64 c2]) Try.underlying54 rfl (by kernel_rfl)) rfl ?_
      exact ⟨rfl, FN.out.1, FN.out.2.1, FN.out.2.2⟩
    | none =>
      have es : seek3S stock s file l = ((0, 0, 0), s) := by unfold seek3S; rw [hF1, hK1]
      rw [es]
      rw [hK1] at hr2
      have hr2 : (Instr.lookup 85 (.map (some mS)) (St l) true).run Try.prog (w.alloc (.cells z54 54)) = .ok (.tuple #[.int .i64 c2, .bool false]) (w.alloc (.cells z54 54)) := hr2
      have FN := store _ 0 0 0 _ _ HR.out SH.out N0.out K0.out
      clear hc hc2 store
      go_enter Try.func51, Try.ntmps51
      go_wp2_with (refine wpList_store_row rfl 54 _ _ rfl w.heap.size #[.int .i64 0, .int .i64 0, .int .i64 0] rfl rfl 54 z54 HR.out (by kernel_rfl) rfl (by simp [Value.oneCell']) ?_)
      refine bodyPost_ret (results_cell_row rfl _ _ w.heap.size 54 #[.int .i64 0, .int .i64 0, .int .i64 0] (0, 0) _ rfl (lies_setRow HR.out #[.int .i64 0, .int .i64 0, .int .i64 0]) Try.underlying54 rfl (by kernel_rfl)) rfl ?_
      exact ⟨rfl, FN.out.1, numM_mono FN.out.2.1 (Nat.le_succ _), FN.out.2.2⟩
end Go.Proofs.Ytiglakhfkgeefaa
set_option linter.unusedSimpArgs false
set_option linter.unusedVariables false
namespace Go.Proofs.Ytiglakhfkgeefaa
open Go.Pth Go.Tre Go.RowKit Go.Word Go.Mat
theorem ints_at {w : World} {base : Nat} {v : Value} {zs : List Int} (h : w.ownsInts base 3 .i64 v zs) : ∃ A C, v = .slice A zs.length C ∧ ∀ i (h : i < zs.length), ∃ g, A = some ⟨g, 0, none⟩ ∧ g < w.heap.size ∧ w.cell? ⟨g, i, none⟩ = some (.int .i64 zs[i]) := by
  obtain ⟨⟨hl, hr⟩, _⟩ := h
  have hrow : w.ownsRow base 3 1 v zs.length (zs.map (Value.int .i64)) := ⟨hl, hr⟩
  rcases hr with ⟨rfl, h0⟩ | ⟨g, cap, cur, rfl, hg, hb, _⟩
  · exact ⟨none, 0, by rw [h0], fun i hi => by omega⟩
  · refine ⟨some ⟨g, 0, none⟩, cap, rfl, fun i hi => ⟨g, rfl, (Array.getElem?_eq_some_iff.1 hb).1, ?_⟩⟩
    rw [hrow.cellAt i (by omega)]
    simp [hi]
set_option maxRecDepth 100000 in
theorem index_ints (A : Option Addr) (C : Nat) (zs : List Int) (f : Int) (w : World) (h : ∀ i (h : i < zs.length), ∃ g, A = some ⟨g, 0, none⟩ ∧ g < w.heap.size ∧ w.cell? ⟨g, i, none⟩ = some (.int .i64 zs[i])) (hn : zs.length ≤ 1000000) :
    Calls Try.prog 65 #[.slice A zs.length C, .int .i64 f] w fun e w' => (∃ z : Int, e = .returned (.int .i64 z) ∧ decide (0 ≤ z) = decide (f ∈ zs)) ∧ w = w' := by
  obtain ⟨n, hne⟩ : ∃ n, n = zs.length := ⟨_, rfl⟩
  have NE := Lib.hid hne
  have H := Lib.hid h
  rw [← hne] at hn ⊢
  clear h hne
  go_enter Try.func65, Try.ntmps65
  go_wp2
  go_loopw [5, 8] (fun _ v8 wr => wr = w ∧ ∃ i : Nat, i ≤ n ∧ v8 = .int .i64 (i : Int) ∧ f ∉ zs.take i) (fun _ v8 _ => n - (intOf v8).toNat)
  case atStart => exact ⟨rfl, 0, Nat.zero_le _, rfl, by simp⟩
  case round =>
    obtain ⟨rfl, i, hi, rfl, hno⟩ := hrel
    have NO := Lib.hid hno
    clear hno
    by_cases hlt : i < n
    · have li : (i : Int) < (n : Int) := by omega
      have lf : i < zs.length := by have := NE.out; omega
      obtain ⟨g, rfl, hg, hc⟩ := H.out i lf
      have ST := Lib.hid (List.take_succ_eq_append_getElem lf)
      have ME := Lib.hid (List.getElem_mem lf)
      generalize zs[i] = z at *
      by_cases he : f = z
      · have hb : (f == z) = true := by simpa using he
        subst he
        go_wp2
        go_ret
        exact ⟨⟨_, rfl, by have := ME.out; simp [this]⟩, rfl⟩
      · have hb : (f == z) = false := by simpa using he
        have hf : ¬ f = z := he
        have NX := Lib.hid (show f ∉ zs.take (i + 1) by rw [ST.out]; intro h; rcases List.mem_append.1 h with h | h; exact NO.out h; exact he (List.mem_singleton.1 h))
        go_wp2
        go_roundw
        case rel => exact ⟨trivial, i + 1, by omega, by go_num, NX.out⟩
        case measure => first | (simp [intOf]; done) | (simp [intOf]; omega)
    · have li : ¬ (i : Int) < (n : Int) := by omega
      have hno : f ∉ zs := by have := NO.out; rwa [List.take_of_length_le (by have := NE.out; omega)] at this
      go_wp2
      go_ret
      exact ⟨⟨_, rfl, by simp [hno]⟩, rfl⟩
theorem has_ints (base : Nat) (v : Value) (zs : List Int) (f : Int) (w : World) (h : w.ownsInts base 3 .i64 v zs) (hn : zs.length ≤ 1000000) :
    Calls Try.prog 49 #[v, .int .i64 f] w fun e w' => e = .returned (.bool (decide (f ∈ zs))) ∧ w = w' := by
  obtain ⟨A, C, rfl, hc⟩ := ints_at h
  have H := Lib.hid (index_ints A C zs f w hc hn)
  clear h hc
  generalize zs.length = n at *
  go_enter Try.func49, Try.ntmps49
  go_wp2_with (go_at_call 65; (with_reducible refine H.out.mono ?_); rintro e w1 ⟨⟨z, rfl, hz⟩, rfl⟩; have HZ := Lib.hid hz; clear hz)
  go_ret
  exact ⟨congrArg (fun b => Ending.returned (.bool b)) HZ.out, rfl⟩
end Go.Proofs.Ytiglakhfkgeefaa
set_option linter.unusedSimpArgs false
set_option linter.unusedVariables false
namespace Go.Proofs.Ytiglakhfkgeefaa
open Go.Pth Go.Tre Go.RowKit Go.Word Go.Mat
theorem fields54 : Try.prog.underlying 54 = some (.struct (Try.prog.fieldsOf 54)) := by kernel_rfl
def eqSrc (p q f g m k : Int) : Bool := p == q && (f == g && m == k)
set_option maxRecDepth 100000 in
theorem eqin_src (p q f g m k : Int) (w : World) : (Op.equalIn 10000 54 (srcV p f m) (srcV q g k)).run Try.prog w = .ok (eqSrc p q f g m k) w := by
  have hf : (Try.prog.fieldsOf 54).toList.map (fun x => (x.name == "_", x.type, x.offset)) = [(false, 3, 0), (false, 3, 1), (false, 3, 2)] := by kernel_rfl
  unfold srcV
  rw [run_equalIn_agg w 9999 54 _ _ fields54 (by kernel_rfl)]
  obtain ⟨x, y, z, hl⟩ : ∃ x y z, (Try.prog.fieldsOf 54).toList = [x, y, z] := by
    match h : (Try.prog.fieldsOf 54).toList with
    | [x, y, z] => exact ⟨x, y, z, rfl⟩
    | [] => rw [h] at hf; cases hf
    | [_] => rw [h] at hf; simp at hf
    | [_, _] => rw [h] at hf; simp at hf
    | _ :: _ :: _ :: _ :: _ => rw [h] at hf; simp at hf
  rw [hl] at hf ⊢
  simp at hf
  obtain ⟨⟨n1, t1, o1⟩, ⟨n2, t2, o2⟩, ⟨n3, t3, o3⟩⟩ := hf
  have p1 : ∀ (a b c : Int) (W : World), (part 3 #[.int .i64 a, .int .i64 b, .int .i64 c] 0).run Try.prog W = .ok (.int .i64 a) W := fun a b c W => by
    unfold part
    rw [Sem.run_bind, (by kernel_rfl : (isAgg 3).run Try.prog W = .ok false W)]
    simp
  have p2 : ∀ (a b c : Int) (W : World), (part 3 #[.int .i64 a, .int .i64 b, .int .i64 c] 1).run Try.prog W = .ok (.int .i64 b) W := fun a b c W => by
    unfold part
    rw [Sem.run_bind, (by kernel_rfl : (isAgg 3).run Try.prog W = .ok false W)]
    simp
  have p3 : ∀ (a b c : Int) (W : World), (part 3 #[.int .i64 a, .int .i64 b, .int .i64 c] 2).run Try.prog W = .ok (.int .i64 c) W := fun a b c W => by
    unfold part
    rw [Sem.run_bind, (by kernel_rfl : (isAgg 3).run Try.prog W = .ok false W)]
    simp
  have e2 : ∀ (a b : Int) (W : World), (Op.equalIn 9999 3 (.int .i64 a) (.int .i64 b)).run Try.prog W = .ok (a == b) W := fun a b W => run_equalIn_int W 9998 3 .i64 .i64 a b Try.underlying3
  simp only [Op.eqFields, ne_eq, n1, n2, n3, t1, t2, t3, o1, o2, o3, not_false_eq_true, if_true, Sem.run_bind, p1, p2, p3, Result.andThen_ok, e2]
  unfold eqSrc
  cases p == q with
  | false => simp [Sem.run_pure]
  | true =>
    simp only [Bool.not_true, Bool.false_eq_true, if_false, Sem.run_bind, p1, p2, p3, Result.andThen_ok, e2, Bool.true_and]
    cases f == g with
    | false => simp [Sem.run_pure]
    | true =>
      simp only [Bool.not_true, Bool.false_eq_true, if_false, Sem.run_bind, p1, p2, p3, Result.andThen_ok, e2, Bool.true_and]
      cases m == k <;> simp [Sem.run_pure]
theorem eql_src (p q f g m k : Int) (w : World) : (binOp .eql 54 (.agg #[.int .i64 p, .int .i64 f, .int .i64 m]) (.agg #[.int .i64 q, .int .i64 g, .int .i64 k])).run Try.prog w = .ok (.bool (eqSrc p q f g m k)) w := by
  have h := eqin_src p q f g m k w
  unfold srcV at h
  rw [run_eql_struct, h]
  rfl
theorem neq_src (p q f g m k : Int) (w : World) : (binOp .neq 54 (.agg #[.int .i64 p, .int .i64 f, .int .i64 m]) (.agg #[.int .i64 q, .int .i64 g, .int .i64 k])).run Try.prog w = .ok (.bool (!eqSrc p q f g m k)) w := by
  have h := eqin_src p q f g m k w
  unfold srcV at h
  rw [run_neq_struct, h]
  rfl
theorem guard_src (op : BinOp) (x y : Operand) (xs ys : Array Value) (w : World) : (eqGuard op 54 x y (.agg xs) (.agg ys)).run Try.prog w = .ok () w := run_eqGuard_agg w op 54 x y xs ys (by kernel_rfl)
end Go.Proofs.Ytiglakhfkgeefaa
set_option linter.unusedSimpArgs false
set_option linter.unusedVariables false
namespace Go.Mat
open Go.Pth
/-- the second time: the first file with these bytes that nothing has taken -/
def seek2S (s : MS) (file : Int) (l : Bt) : (Int × Int × Int) × MS := match s.F l with
  | fr :: _ => ((1, fr, 0), keepS s file l fr)
  | [] => ((0, 0, 0), s)
end Go.Mat
namespace Go.Proofs.Ytiglakhfkgeefaa
open Go.Pth Go.Tre Go.RowKit Go.Word Go.Mat
set_option maxRecDepth 100000 in
set_option maxHeartbeats 1000000 in
theorem seek2_any (b7 b10 b12 base mF m1 n n1 : Nat) (s : MS) (file : Int) (l : Bt) (w : World) (h7 : Lies w b7 83 #[.map (some mF)]) (h10 : Lies w b10 85 #[.map (some m1)]) (h12 : Lies w b12 92 #[.func (.func 46) #[] #[.pointer (some ⟨b7, 0, none⟩), .pointer (some ⟨b10, 0, none⟩)]]) (hS : ShelfAt w base mF n s.F) (hN : NumM w m1 n1 s.f1)
    (hd1 : m1 ≠ mF) (hd7 : b7 ≠ mF ∧ b7 ≠ m1) (hd10 : b10 ≠ mF ∧ b10 ≠ m1) (hl : l.length ≤ 100000) (hn : n ≤ 80000) (hn1 : n1 ≤ 80000) (hf : 0 ≤ file ∧ file ≤ 1000000) :
    Calls Try.prog 50 #[.int .i64 file, St l, .pointer (some ⟨b7, 0, none⟩), .pointer (some ⟨b12, 0, none⟩)] w fun e w' => e = .returned (srcV (seek2S s file l).1.1 (seek2S s file l).1.2.1 (seek2S s file l).1.2.2) ∧ ShelfAt w' base mF (n + 1) (seek2S s file l).2.F ∧ NumM w' m1 (n1 + 1) (seek2S s file l).2.f1 ∧ KM w w' base mF m1 := by
  have hz := zero54
  have g0 := World.grownBy_alloc w (.cells z54 54) none
  have LR := lies_new w 54 z54
  have l7 := lies_alloc h7 (.cells z54 54)
  have l10 := lies_alloc h10 (.cells z54 54)
  have l12 := lies_alloc h12 (.cells z54 54)
  have NU := numM_same hN (heap_alloc_old w (.cells z54 54) (numM_lt hN))
  have SU := shelf_grown0 hS g0
  have x7 := lies_cell l7 0
  have x12 := lies_cell l12 0
  simp only [List.getElem?_toArray, List.getElem?_cons_zero] at x7 x12
  have SH := Lib.hid SU
  have hmF := (shelf_lt hS).1
  have R0 := Lib.hid (show w.heap.size ≠ mF ∧ w.heap.size ≠ m1 from ⟨by omega, by have := numM_lt hN; omega⟩)
  have HR := Lib.hid LR
  have N0 := Lib.hid NU
  have K0 := Lib.hid (km_new w (.cells z54 54) base mF m1)
  obtain ⟨v, hr, ho⟩ := shelf_ok SU l hl
  cases hF : s.F l with
  | nil =>
    have es : seek2S s file l = ((0, 0, 0), s) := by unfold seek2S; rw [hF]
    rw [es]
    rw [hF] at hr
    have hr : (Instr.lookup 83 (.map (some mF)) (St l) true).run Try.prog (w.alloc (.cells z54 54)) = .ok (.tuple #[v, .bool false]) (w.alloc (.cells z54 54)) := hr
    have F1 := Lib.hid (shelf_row SH.out HR.out (by decide) R0.out.1 #[.int .i64 0, .int .i64 0, .int .i64 0])
    have F2 := Lib.hid (numM_row N0.out R0.out.2 #[.int .i64 0, .int .i64 0, .int .i64 0])
    have F3 := Lib.hid (km_setRow K0.out (Nat.le_refl _) #[.int .i64 0, .int .i64 0, .int .i64 0])
    clear h7 h10 h12 hS hN l7 l10 l12 LR NU SU g0 hmF ho
    go_enter Try.func50, Try.ntmps50
    go_wp2_with (refine wpList_store_row rfl 54 _ _ rfl w.heap.size #[.int .i64 0, .int .i64 0, .int .i64 0] rfl rfl 54 z54 HR.out (by kernel_rfl) rfl (by simp [Value.oneCell']) ?_)
    refine bodyPost_ret (results_cell_row rfl _ _ w.heap.size 54 #[.int .i64 0, .int .i64 0, .int .i64 0] (0, 0) _ rfl (lies_setRow HR.out #[.int .i64 0, .int .i64 0, .int .i64 0]) Try.underlying54 rfl (by kernel_rfl)) rfl ?_
    exact ⟨rfl, shelf_mono F1.out (Nat.le_succ _), numM_mono F2.out (Nat.le_succ _), F3.out⟩
  | cons fr rest =>
    have es : seek2S s file l = ((1, fr, 0), keepS s file l fr) := by unfold seek2S; rw [hF]
    rw [es]
    rw [hF] at hr ho
    replace hr : (Instr.lookup 83 (.map (some mF)) (St l) true).run Try.prog (w.alloc (.cells z54 54)) = .ok (.tuple #[v, .bool true]) (w.alloc (.cells z54 54)) := hr
    obtain ⟨A, C, rfl, hc⟩ := ints_at ho
    obtain ⟨g, rfl, hg, hc0⟩ := hc 0 (by simp)
    have hc0 : (w.alloc (.cells z54 54)).cell? ⟨g, 0, none⟩ = some (.int .i64 fr) := hc0
    replace hr : (Instr.lookup 83 (.map (some mF)) (St l) true).run Try.prog (w.alloc (.cells z54 54)) = .ok (.tuple #[.slice (some ⟨g, 0, none⟩) (rest.length + 1) C, .bool true]) (w.alloc (.cells z54 54)) := hr
    obtain ⟨k, hk⟩ : ∃ k, k = rest.length + 1 := ⟨_, rfl⟩
    have hk0 : (0 : Int) < (k : Int) := by omega
    rw [← hk] at hr
    have KE := Lib.hid (fun q => keep_any b7 b10 base mF m1 n n1 s file l fr ((w.alloc (.cells z54 54)).drewN q) l7 l10 (shelf_grown0 SU ⟨rfl, rfl, rfl, Nat.le_refl _, fun _ _ _ => rfl⟩) (numM_same NU rfl) hd1 hd7 hd10 hl hn hn1 (by rw [hF]; simp) hf)
    have HC := Lib.hid hc0
    have X12 := Lib.hid x12
    clear h7 h10 h12 hS hN l7 l10 l12 LR NU SU g0 hmF ho hc hk hF hg
    go_enter Try.func50, Try.ntmps50
    go_upto_region 3 with (fail)
    generalize w.alloc (.cells z54 54) = X at *
    have KF : ∀ (lq : Array Bool) (pq kq : Nat) (uq : Value) (W W' : World), (True) → W.grownBy W' none → ((fun (l_ : Array Bool) (j_ : Nat) (v_ : Value) (W : World) => match j_ with | 0 => v_ = .func (.func 46) #[] #[.pointer (some ⟨b7, 0, none⟩), .pointer (some ⟨b10, 0, none⟩)] | 1 => v_ = .int .i64 file | 2 => v_ = St l | 3 => v_ = .slice (some ⟨g, 0, none⟩) k C | 4 => v_ = .pointer (some ⟨g, 0, none⟩) | 5 => v_ = .int .i64 fr | 6 => v_ = .agg #[.int .i64 1, .int .i64 fr, .int .i64 0] | _ => True) : Array Bool → Nat → Value → World → Prop) lq kq uq W → ((fun (l_ : Array Bool) (j_ : Nat) (v_ : Value) (W : World) => match j_ with | 0 => v_ = .func (.func 46) #[] #[.pointer (some ⟨b7, 0, none⟩), .pointer (some ⟨b10, 0, none⟩)] | 1 => v_ = .int .i64 file | 2 => v_ = St l | 3 => v_ = .slice (some ⟨g, 0, none⟩) k C | 4 => v_ = .pointer (some ⟨g, 0, none⟩) | 5 => v_ = .int .i64 fr | 6 => v_ = .agg #[.int .i64 1, .int .i64 fr, .int .i64 0] | _ => True) : Array Bool → Nat → Value → World → Prop) (lq.setIfInBounds pq true) kq uq W' := fun lq pq kq uq W W' hp hg h => by
      have kl : ∀ {g t cs}, Lies W g t cs → Lies W' g t cs := fun h => (hg.block _ (lies_lt h) (by simp)).trans h
      have ko : ∀ {B e z v k xs}, W.ownsRow B e z v k xs → W'.ownsRow B e z v k xs := fun {B e z v k xs} h => h.kept hg (by cases v.ownBlock <;> simp)
      match kq, h with
      | 0, h => exact h
      | 1, h => exact h
      | 2, h => exact h
      | 3, h => exact h
      | 4, h => exact h
      | 5, h => exact h
      | 6, h => exact h
      | _ + 7, _ => exact trivial
    have gr : ∀ W : World, W.grownBy W none := fun W => ⟨rfl, rfl, rfl, Nat.le_refl _, fun _ _ _ => rfl⟩
    have KP := fun (lq : Array Bool) (pq : Nat) (W : World) (hp : True) => fun (kq : Nat) (uq : Value) (_ : kq ≠ pq) (_ : lq.getD kq false = true) (h : ((fun (l_ : Array Bool) (j_ : Nat) (v_ : Value) (W : World) => match j_ with | 0 => v_ = .func (.func 46) #[] #[.pointer (some ⟨b7, 0, none⟩), .pointer (some ⟨b10, 0, none⟩)] | 1 => v_ = .int .i64 file | 2 => v_ = St l | 3 => v_ = .slice (some ⟨g, 0, none⟩) k C | 4 => v_ = .pointer (some ⟨g, 0, none⟩) | 5 => v_ = .int .i64 fr | 6 => v_ = .agg #[.int .i64 1, .int .i64 fr, .int .i64 0] | _ => True) : Array Bool → Nat → Value → World → Prop) lq kq uq W) => KF lq pq kq uq W W hp (gr W) h
    have IV : ∀ (lq : Array Bool) (pq : Nat) (W W' : World), (pq ≠ 6 ∧ pq ≠ 7) → W = W' → ((fun (l_ : Array Bool) (W : World) => (l_.getD 6 false = false → W = X.drewN 1) ∧ (l_.getD 6 false = true → l_.getD 7 false = false → (Lies W w.heap.size 54 z54 ∧ ShelfAt W base mF (n + 1) (keepS s file l fr).F ∧ NumM W m1 (n1 + 1) (keepS s file l fr).f1 ∧ KM w W base mF m1)) ∧ (l_.getD 7 false = true → (Lies W w.heap.size 54 #[.int .i64 1, .int .i64 fr, .int .i64 0] ∧ ShelfAt W base mF (n + 1) (keepS s file l fr).F ∧ NumM W m1 (n1 + 1) (keepS s file l fr).f1 ∧ KM w W base mF m1))) : Array Bool → World → Prop) lq W → ((fun (l_ : Array Bool) (W : World) => (l_.getD 6 false = false → W = X.drewN 1) ∧ (l_.getD 6 false = true → l_.getD 7 false = false → (Lies W w.heap.size 54 z54 ∧ ShelfAt W base mF (n + 1) (keepS s file l fr).F ∧ NumM W m1 (n1 + 1) (keepS s file l fr).f1 ∧ KM w W base mF m1)) ∧ (l_.getD 7 false = true → (Lies W w.heap.size 54 #[.int .i64 1, .int .i64 fr, .int .i64 0] ∧ ShelfAt W base mF (n + 1) (keepS s file l fr).F ∧ NumM W m1 (n1 + 1) (keepS s file l fr).f1 ∧ KM w W base mF m1))) : Array Bool → World → Prop) (lq.setIfInBounds pq true) W' := fun lq pq W W' hp hg h => by
      subst hg
      have h6 : (lq.setIfInBounds pq true).getD 6 false = lq.getD 6 false := by rw [getD_set_ne false hp.1]
      have h7 : (lq.setIfInBounds pq true).getD 7 false = lq.getD 7 false := by rw [getD_set_ne false hp.2]
      exact ⟨fun e => h.1 (by rw [← h6]; exact e), fun e e' => h.2.1 (by rw [← h6]; exact e) (by rw [← h7]; exact e'), fun e => h.2.2 (by rw [← h7]; exact e)⟩
    refine wp_region_any (by kernel_rfl) ?_
    refine every_factI (own := ownAll _) id ((fun (l_ : Array Bool) (j_ : Nat) (v_ : Value) (W : World) => match j_ with | 0 => v_ = .func (.func 46) #[] #[.pointer (some ⟨b7, 0, none⟩), .pointer (some ⟨b10, 0, none⟩)] | 1 => v_ = .int .i64 file | 2 => v_ = St l | 3 => v_ = .slice (some ⟨g, 0, none⟩) k C | 4 => v_ = .pointer (some ⟨g, 0, none⟩) | 5 => v_ = .int .i64 fr | 6 => v_ = .agg #[.int .i64 1, .int .i64 fr, .int .i64 0] | _ => True) : Array Bool → Nat → Value → World → Prop) ((fun (l_ : Array Bool) (W : World) => (l_.getD 6 false = false → W = X.drewN 1) ∧ (l_.getD 6 false = true → l_.getD 7 false = false → (Lies W w.heap.size 54 z54 ∧ ShelfAt W base mF (n + 1) (keepS s file l fr).F ∧ NumM W m1 (n1 + 1) (keepS s file l fr).f1 ∧ KM w W base mF m1)) ∧ (l_.getD 7 false = true → (Lies W w.heap.size 54 #[.int .i64 1, .int .i64 fr, .int .i64 0] ∧ ShelfAt W base mF (n + 1) (keepS s file l fr).F ∧ NumM W m1 (n1 + 1) (keepS s file l fr).f1 ∧ KM w W base mF m1))) : Array Bool → World → Prop) (acAll_of (by kernel_rfl)) (onAll_of (by kernel_rfl)) (dstAll_of (by kernel_rfl)) ?hop ?hend _ _ _ _ (fun _ => undef) rfl (shut_none _) (of_decide_eq_true (by kernel_rfl)) (tabd_start (fun i => rep_false _ i)) (fun k hk => by rw [rep_false] at hk; cases hk) ⟨fun _ => rfl, fun e => (by rw [rep_false] at e; cases e), fun e => (by rw [rep_false] at e; cases e)⟩
    case hop =>
      intro j oi a w0 listed vals hoi hs hcl hun hdeps ht hF hI
      have hj : j < 8 := (Array.getElem?_eq_some_iff.1 hoi).1
      have cj : j = 0 ∨ j = 1 ∨ j = 2 ∨ j = 3 ∨ j = 4 ∨ j = 5 ∨ j = 6 ∨ j = 7 := by omega
      obtain rfl | rfl | rfl | rfl | rfl | rfl | rfl | rfl := cj
      all_goals obtain rfl := Option.some.inj hoi
      · have e3 : a.eval (.tmp 3) = .pointer (some ⟨b12, 0, none⟩) := (tabd_old ht (t := 3) (of_decide_eq_true (by kernel_rfl)) (by kernel_rfl)).trans rfl
        exact .inl ⟨rfl, fun K hk => wp_val (v := .func (.func 46) #[] #[.pointer (some ⟨b7, 0, none⟩), .pointer (some ⟨b10, 0, none⟩)]) (by have hW := hI.1 (by cases h6 : listed.getD 6 false with | false => rfl | true => exact absurd (hcl 6 _ rfl h6 ⟨0, .data⟩ (by simp) rfl) (by simp [hun])); have hc := X12.out; subst hW; clear hk hI hoi hdeps ht hF hcl hs KF KP IV; generalize a.eval = ρ at *; unfold execOp; simp only [e3]; go_simp; try (intro hq_; exfalso; omega)) (hk _ _ rfl (KP listed 0 w0 trivial) (IV listed 0 w0 w0 (by decide) rfl hI))⟩
      · have e0 : a.eval (.tmp 0) = .int .i64 file := (tabd_old ht (t := 0) (of_decide_eq_true (by kernel_rfl)) (by kernel_rfl)).trans rfl
        exact .inl ⟨rfl, fun K hk => wp_val (v := .int .i64 file) (by clear hk hI hoi hdeps ht hF hcl hs KF KP IV; generalize a.eval = ρ at *; unfold execOp; simp only [e0]; go_simp; try (intro hq_; exfalso; omega)) (hk _ _ rfl (KP listed 1 w0 trivial) (IV listed 1 w0 w0 (by decide) rfl hI))⟩
      · have e1 : a.eval (.tmp 1) = St l := (tabd_old ht (t := 1) (of_decide_eq_true (by kernel_rfl)) (by kernel_rfl)).trans rfl
        exact .inl ⟨rfl, fun K hk => wp_val (v := St l) (by clear hk hI hoi hdeps ht hF hcl hs KF KP IV; generalize a.eval = ρ at *; unfold execOp; simp only [e1]; go_simp; try (intro hq_; exfalso; omega)) (hk _ _ rfl (KP listed 2 w0 trivial) (IV listed 2 w0 w0 (by decide) rfl hI))⟩
      · have e7 : a.eval (.tmp 7) = .slice (some ⟨g, 0, none⟩) k C := (tabd_old ht (t := 7) (of_decide_eq_true (by kernel_rfl)) (by kernel_rfl)).trans rfl
        exact .inl ⟨rfl, fun K hk => wp_val (v := .slice (some ⟨g, 0, none⟩) k C) (by clear hk hI hoi hdeps ht hF hcl hs KF KP IV; generalize a.eval = ρ at *; unfold execOp; simp only [e7]; go_simp; try (intro hq_; exfalso; omega)) (hk _ _ rfl (KP listed 3 w0 trivial) (IV listed 3 w0 w0 (by decide) rfl hI))⟩
      · have d3 := hdeps ⟨3, .data⟩ (by simp) rfl
        have e19 : a.eval (.tmp 19) = .slice (some ⟨g, 0, none⟩) k C := (tabd_at ht (t := 19) (of_decide_eq_true (by kernel_rfl)) (by kernel_rfl) d3).trans (hF 3 d3)
        have ec1 : a.eval (.const (Value.int IntKind.i64 0)) = (Value.int IntKind.i64 0) := rfl
        exact .inl ⟨rfl, fun K hk => wp_val (v := .pointer (some ⟨g, 0, none⟩)) (by clear hk hI hoi hdeps ht hF hcl hs KF KP IV; generalize a.eval = ρ at *; unfold execOp; simp only [e19, ec1]; go_simp; try (intro hq_; exfalso; omega)) (hk _ _ rfl (KP listed 4 w0 trivial) (IV listed 4 w0 w0 (by decide) rfl hI))⟩
      · have d4 := hdeps ⟨4, .data⟩ (by simp) rfl
        have e20 : a.eval (.tmp 20) = .pointer (some ⟨g, 0, none⟩) := (tabd_at ht (t := 20) (of_decide_eq_true (by kernel_rfl)) (by kernel_rfl) d4).trans (hF 4 d4)
        exact .inl ⟨rfl, fun K hk => wp_val (v := .int .i64 fr) (by have hW := hI.1 (by cases h6 : listed.getD 6 false with | false => rfl | true => exact absurd (hcl 6 _ rfl h6 ⟨5, .data⟩ (by simp) rfl) (by simp [hun])); have hc := HC.out; subst hW; clear hk hI hoi hdeps ht hF hcl hs KF KP IV; generalize a.eval = ρ at *; unfold execOp; simp only [e20]; go_simp; try (intro hq_; exfalso; omega)) (hk _ _ rfl (KP listed 5 w0 trivial) (IV listed 5 w0 w0 (by decide) rfl hI))⟩
      · have d0 := hdeps ⟨0, .data⟩ (by simp) rfl
        have d1 := hdeps ⟨1, .data⟩ (by simp) rfl
        have d2 := hdeps ⟨2, .data⟩ (by simp) rfl
        have d5 := hdeps ⟨5, .data⟩ (by simp) rfl
        have e16 : a.eval (.tmp 16) = .func (.func 46) #[] #[.pointer (some ⟨b7, 0, none⟩), .pointer (some ⟨b10, 0, none⟩)] := (tabd_at ht (t := 16) (of_decide_eq_true (by kernel_rfl)) (by kernel_rfl) d0).trans (hF 0 d0)
        have e17 : a.eval (.tmp 17) = .int .i64 file := (tabd_at ht (t := 17) (of_decide_eq_true (by kernel_rfl)) (by kernel_rfl) d1).trans (hF 1 d1)
        have e18 : a.eval (.tmp 18) = St l := (tabd_at ht (t := 18) (of_decide_eq_true (by kernel_rfl)) (by kernel_rfl) d2).trans (hF 2 d2)
        have e21 : a.eval (.tmp 21) = .int .i64 fr := (tabd_at ht (t := 21) (of_decide_eq_true (by kernel_rfl)) (by kernel_rfl) d5).trans (hF 5 d5)
        refine .inl ⟨rfl, fun K hk => ?_⟩
        have PR := fun W' => show ∀ (kq : Nat) (uq : Value), kq ≠ 6 → listed.getD kq false = true → ((fun (l_ : Array Bool) (j_ : Nat) (v_ : Value) (W : World) => match j_ with | 0 => v_ = .func (.func 46) #[] #[.pointer (some ⟨b7, 0, none⟩), .pointer (some ⟨b10, 0, none⟩)] | 1 => v_ = .int .i64 file | 2 => v_ = St l | 3 => v_ = .slice (some ⟨g, 0, none⟩) k C | 4 => v_ = .pointer (some ⟨g, 0, none⟩) | 5 => v_ = .int .i64 fr | 6 => v_ = .agg #[.int .i64 1, .int .i64 fr, .int .i64 0] | _ => True) : Array Bool → Nat → Value → World → Prop) listed kq uq w0 → ((fun (l_ : Array Bool) (j_ : Nat) (v_ : Value) (W : World) => match j_ with | 0 => v_ = .func (.func 46) #[] #[.pointer (some ⟨b7, 0, none⟩), .pointer (some ⟨b10, 0, none⟩)] | 1 => v_ = .int .i64 file | 2 => v_ = St l | 3 => v_ = .slice (some ⟨g, 0, none⟩) k C | 4 => v_ = .pointer (some ⟨g, 0, none⟩) | 5 => v_ = .int .i64 fr | 6 => v_ = .agg #[.int .i64 1, .int .i64 fr, .int .i64 0] | _ => True) : Array Bool → Nat → Value → World → Prop) (listed.setIfInBounds 6 true) kq uq W' from
          (fun kq uq hkp hkl h => by
            have s_ : (listed.setIfInBounds 6 true).getD 6 false = true := getD_here (by rw [hs]; decide)
            match kq, hkp, hkl, h with
            | 0, _, _, h => exact h
            | 1, _, _, h => exact h
            | 2, _, _, h => exact h
            | 3, _, _, h => exact h
            | 4, _, _, h => exact h
            | 5, _, _, h => exact h
            | 6, hk, _, _ => exact absurd rfl hk
            | _ + 7, _, _, _ => exact trivial)
        have hW := hI.1 hun
        have hR := KE.out 1
        rw [← hW] at hR
        refine wp_enter (by clear hk hI hoi hdeps ht hF hcl hs KF KP IV hR PR; generalize a.eval = ρ at *; unfold execOp; simp only [e16, e17, e18, e21]; go_simp) hR ?_
        rintro e w2 ⟨rfl, h1, h2, h3⟩
        have hL : Lies w2 w.heap.size 54 z54 := km_lies h3 (by rw [hW]; exact HR.out) (by decide) R0.out.1 R0.out.2
        have h7 : listed.getD 7 false = false := by cases h7 : listed.getD 7 false with | false => rfl | true => exact absurd (hcl 7 _ rfl h7 ⟨6, .data⟩ (by simp) rfl) (by simp [hun])
        have hK : KM w w2 base mF m1 := km_trans K0.out (by rw [hW] at h3; exact km_trans (km_drewN X 1 base mF m1) h3)
        exact ⟨_, rfl, hk _ w2 rfl (PR w0) ⟨fun e => (by rw [getD_here (by rw [hs]; decide)] at e; cases e), fun _ _ => ⟨hL, h1, h2, hK⟩, fun e => (by rw [getD_set_ne false (by decide), h7] at e; cases e)⟩⟩
      · have d6 := hdeps ⟨6, .data⟩ (by simp) rfl
        have e6 : a.eval (.tmp 6) = .pointer (some ⟨w.heap.size, 0, none⟩) := (tabd_old ht (t := 6) (of_decide_eq_true (by kernel_rfl)) (by kernel_rfl)).trans rfl
        have e22 : a.eval (.tmp 22) = .agg #[.int .i64 1, .int .i64 fr, .int .i64 0] := (tabd_at ht (t := 22) (of_decide_eq_true (by kernel_rfl)) (by kernel_rfl) d6).trans (hF 6 d6)
        refine .inl ⟨rfl, fun K hk => ?_⟩
        have PR := fun W' => show ∀ (kq : Nat) (uq : Value), kq ≠ 7 → listed.getD kq false = true → ((fun (l_ : Array Bool) (j_ : Nat) (v_ : Value) (W : World) => match j_ with | 0 => v_ = .func (.func 46) #[] #[.pointer (some ⟨b7, 0, none⟩), .pointer (some ⟨b10, 0, none⟩)] | 1 => v_ = .int .i64 file | 2 => v_ = St l | 3 => v_ = .slice (some ⟨g, 0, none⟩) k C | 4 => v_ = .pointer (some ⟨g, 0, none⟩) | 5 => v_ = .int .i64 fr | 6 => v_ = .agg #[.int .i64 1, .int .i64 fr, .int .i64 0] | _ => True) : Array Bool → Nat → Value → World → Prop) listed kq uq w0 → ((fun (l_ : Array Bool) (j_ : Nat) (v_ : Value) (W : World) => match j_ with | 0 => v_ = .func (.func 46) #[] #[.pointer (some ⟨b7, 0, none⟩), .pointer (some ⟨b10, 0, none⟩)] | 1 => v_ = .int .i64 file | 2 => v_ = St l | 3 => v_ = .slice (some ⟨g, 0, none⟩) k C | 4 => v_ = .pointer (some ⟨g, 0, none⟩) | 5 => v_ = .int .i64 fr | 6 => v_ = .agg #[.int .i64 1, .int .i64 fr, .int .i64 0] | _ => True) : Array Bool → Nat → Value → World → Prop) (listed.setIfInBounds 7 true) kq uq W' from
          (fun kq uq hkp hkl h => by
            have s_ : (listed.setIfInBounds 7 true).getD 7 false = true := getD_here (by rw [hs]; decide)
            match kq, hkp, hkl, h with
            | 0, _, _, h => exact h
            | 1, _, _, h => exact h
            | 2, _, _, h => exact h
            | 3, _, _, h => exact h
            | 4, _, _, h => exact h
            | 5, _, _, h => exact h
            | 6, _, _, h => exact h
            | _ + 7, _, _, _ => exact trivial)
        have h6 := hdeps ⟨6, .data⟩ (by simp) rfl
        obtain ⟨hL, h1, h2, h3⟩ := hI.2.1 h6 hun
        exact wp_store_row 54 _ _ rfl w.heap.size #[.int .i64 1, .int .i64 fr, .int .i64 0] e6 e22 54 _ hL (by kernel_rfl) rfl (by simp [Value.oneCell']) (hk _ _ trivial (PR w0) ⟨fun e => (by rw [getD_set_ne false (by decide), h6] at e; cases e), fun _ e => (by rw [getD_here (by rw [hs]; decide)] at e; cases e), fun _ => ⟨lies_setRow hL #[.int .i64 1, .int .i64 fr, .int .i64 0], shelf_row h1 hL (by decide) R0.out.1 _, numM_row h2 R0.out.2 _, km_setRow h3 (Nat.le_refl _) _⟩⟩)
    case hend =>
      intro a w0 listed vals hall ht hF hI
      rw [tabd_fill ht (fun t i ho => hall i (ownAll_lt ho))]
      have g0 : vals 0 = .func (.func 46) #[] #[.pointer (some ⟨b7, 0, none⟩), .pointer (some ⟨b10, 0, none⟩)] := hF 0 (by decide)
      have g1 : vals 1 = .int .i64 file := hF 1 (by decide)
      have g2 : vals 2 = St l := hF 2 (by decide)
      have g3 : vals 3 = .slice (some ⟨g, 0, none⟩) k C := hF 3 (by decide)
      have g4 : vals 4 = .pointer (some ⟨g, 0, none⟩) := hF 4 (by decide)
      have g5 : vals 5 = .int .i64 fr := hF 5 (by decide)
      have g6 : vals 6 = .agg #[.int .i64 1, .int .i64 fr, .int .i64 0] := hF 6 (by decide)
      change Exit.then _ _ Exit.normal { tmps := #[.int .i64 file, St l, .pointer (some ⟨b7, 0, none⟩), .pointer (some ⟨b12, 0, none⟩), undef, undef, .pointer (some ⟨w.heap.size, 0, none⟩), .slice (some ⟨g, 0, none⟩) k C, .bool true, .tuple #[.slice (some ⟨g, 0, none⟩) k C, .bool true], .map (some mF), St l, .tuple #[.slice (some ⟨g, 0, none⟩) k C, .bool true], .slice (some ⟨g, 0, none⟩) k C, .bool true, .bool true, vals 0, vals 1, vals 2, vals 3, vals 4, vals 5, vals 6, undef], defers := [] } w0
      simp only [g0, g1, g2, g3, g4, g5, g6]
      clear ht hF KF KP IV
      obtain ⟨hL, h1, h2, h3⟩ := hI.2.2 (hall 7 (by decide))
      have HL := Lib.hid hL
      have H1 := Lib.hid h1
      have H2 := Lib.hid h2
      have H3 := Lib.hid h3
      clear hI hall hL h1 h2 h3 g0 g1 g2 g3 g4 g5 g6
      go_wp2
      refine bodyPost_ret (results_cell_row rfl _ _ w.heap.size 54 #[.int .i64 1, .int .i64 fr, .int .i64 0] (0, 0) _ rfl HL.out Try.underlying54 rfl (by kernel_rfl)) rfl ?_
      exact ⟨rfl, H1.out, H2.out, H3.out⟩
end Go.Proofs.Ytiglakhfkgeefaa
set_option linter.unusedSimpArgs false
set_option linter.unusedVariables false
namespace Go.Mat
open Go.Pth
/-- the first name that names a file of the row -/
def pickF (named : Bt → Option Int) (row : List Int) : List Bt → Option Int
  | [] => none
  | p :: r => match named p with
    | some f => if f ∈ row then some f else pickF named row r
    | none => pickF named row r
def seek1S (nm : List Bt) (named : Bt → Option Int) (s : MS) (file : Int) (l : Bt) : (Int × Int × Int) × MS := match pickF named (s.F l) nm with
  | some fr => ((1, fr, 0), keepS s file l fr)
  | none => ((0, 0, 0), s)
theorem pickF_mem {named : Bt → Option Int} {row : List Int} : ∀ {nm : List Bt} {fr : Int}, pickF named row nm = some fr → fr ∈ row
  | [], _, h => by cases h
  | p :: r, fr, h => by
    unfold pickF at h
    cases hp : named p with
    | none => rw [hp] at h; exact pickF_mem h
    | some f =>
      rw [hp] at h
      by_cases hf : f ∈ row
      · simp only [hf, if_true] at h
        injection h with h
        subst h
        exact hf
      · simp only [hf, if_false] at h
        exact pickF_mem h
end Go.Mat
namespace Go.Proofs.Ytiglakhfkgeefaa
open Go.Pth Go.Tre Go.RowKit Go.Word Go.Mat
def TextsAt (w : World) (A : Option Addr) (ts : List Bt) : Prop := ∀ j (h : j < ts.length), ∃ b o, A = some ⟨b, o, none⟩ ∧ b < w.heap.size ∧ w.cell? ⟨b, o + j, none⟩ = some (St ts[j])
theorem textsAt_below {w w' : World} {A : Option Addr} {ts : List Bt} (h : TextsAt w A ts) (hb : Below w.heap.size w w') : TextsAt w' A ts := fun j hj => by
  obtain ⟨b, o, e, hl, hc⟩ := h j hj
  exact ⟨b, o, e, Nat.lt_of_lt_of_le hl hb.size, (hb.cell (p := ⟨b, o + j, none⟩) hl).trans hc⟩
set_option maxRecDepth 100000 in
set_option maxHeartbeats 1000000 in
theorem seek1_any (b7 b8 b9 b10 b12 base mF m1 mN ng n n1 nN k kc tc : Nat) (TA : Option Addr) (s : MS) (named : Bt → Option Int) (nm : List Bt) (file : Nat) (l : Bt) (w : World) (h7 : Lies w b7 83 #[.map (some mF)]) (h8 : Lies w b8 85 #[.map (some mN)]) (h9 : Lies w b9 87 #[.slice (some ⟨ng, 0, none⟩) k kc]) (h10 : Lies w b10 85 #[.map (some m1)]) (h12 : Lies w b12 92 #[.func (.func 46) #[] #[.pointer (some ⟨b7, 0, none⟩), .pointer (some ⟨b10, 0, none⟩)]]) (hS : ShelfAt w base mF n s.F) (hN : NumM w m1 n1 s.f1) (hM : NumM w mN nN named)
    (hng : ng < w.heap.size) (hc : w.cell? ⟨ng, file, none⟩ = some (.slice TA nm.length tc)) (hT : TextsAt w TA nm) (hk : file < k) (hnm : nm.length ≤ 100000) (htx : ∀ x ∈ nm, x.length ≤ 100000)
    (hd1 : m1 ≠ mF) (hd7 : b7 ≠ mF ∧ b7 ≠ m1) (hd10 : b10 ≠ mF ∧ b10 ≠ m1) (hl : l.length ≤ 100000) (hn : n ≤ 80000) (hn1 : n1 ≤ 80000) (hf : file ≤ 1000000) :
    Calls Try.prog 48 #[.int .i64 (file : Int), St l, .pointer (some ⟨b9, 0, none⟩), .pointer (some ⟨b8, 0, none⟩), .pointer (some ⟨b7, 0, none⟩), .pointer (some ⟨b12, 0, none⟩)] w fun e w' => e = .returned (srcV (seek1S nm named s file l).1.1 (seek1S nm named s file l).1.2.1 (seek1S nm named s file l).1.2.2) ∧ ShelfAt w' base mF (n + 1) (seek1S nm named s file l).2.F ∧ NumM w' m1 (n1 + 1) (seek1S nm named s file l).2.f1 ∧ KM w w' base mF m1 := by
  have hz := zero54
  have g0 := World.grownBy_alloc w (.cells z54 54) none
  have bw : Below w.heap.size w (w.alloc (.cells z54 54)) := (Below.refl _ _).alloc (Nat.le_refl _) _
  have LR := lies_new w 54 z54
  have l7 := lies_alloc h7 (.cells z54 54)
  have l8 := lies_alloc h8 (.cells z54 54)
  have l9 := lies_alloc h9 (.cells z54 54)
  have l10 := lies_alloc h10 (.cells z54 54)
  have l12 := lies_alloc h12 (.cells z54 54)
  have NU := numM_same hN (heap_alloc_old w (.cells z54 54) (numM_lt hN))
  have NM := numM_same hM (heap_alloc_old w (.cells z54 54) (numM_lt hM))
  have SU := shelf_grown0 hS g0
  have x7 := lies_cell l7 0
  have x8 := lies_cell l8 0
  have x9 := lies_cell l9 0
  have x12 := lies_cell l12 0
  simp only [List.getElem?_toArray, List.getElem?_cons_zero] at x7 x8 x9 x12
  have xn := (bw.cell (p := ⟨ng, file, none⟩) hng).trans hc
  have TX := Lib.hid (textsAt_below hT bw)
  have HTX := Lib.hid htx
  have hmF := (shelf_lt hS).1
  have R0 := Lib.hid (show w.heap.size ≠ mF ∧ w.heap.size ≠ m1 from ⟨by omega, by have := numM_lt hN; omega⟩)
  have HR := Lib.hid LR
  have K0 := Lib.hid (km_new w (.cells z54 54) base mF m1)
  obtain ⟨v, hlook, ho, hlen, _, _⟩ := shelf_look SU l hl (by omega)
  have LK := Lib.hid (hlook _ rfl)
  have HC := Lib.hid (fun f => has_ints base v (s.F l) f _ ho (by omega))
  have MM := Lib.hid NM
  have KE := Lib.hid (fun fr (hne : s.F l ≠ []) => keep_any b7 b10 base mF m1 n n1 s file l fr (w.alloc (.cells z54 54)) l7 l10 SU NU hd1 hd7 hd10 hl hn hn1 hne (by omega))
  have F1 := Lib.hid (shelf_row SU LR (by decide) R0.out.1 #[.int .i64 0, .int .i64 0, .int .i64 0])
  have F2 := Lib.hid (numM_row NU R0.out.2 #[.int .i64 0, .int .i64 0, .int .i64 0])
  have F3 := Lib.hid (km_setRow K0.out (Nat.le_refl _) #[.int .i64 0, .int .i64 0, .int .i64 0])
  obtain ⟨res, hres⟩ : ∃ res, res = seek1S nm named s file l := ⟨_, rfl⟩
  have RE := Lib.hid hres
  obtain ⟨pk, hpk⟩ : ∃ pk, pk = pickF named (s.F l) nm := ⟨_, rfl⟩
  have PK := Lib.hid hpk
  rw [← hres]
  obtain ⟨q, hq⟩ : ∃ q, q = nm.length := ⟨_, rfl⟩
  have QE := Lib.hid hq
  rw [← hq] at xn hnm
  have hkf : (file : Int) < (k : Int) := by omega
  clear h7 h8 h9 h10 h12 hS hN hM l7 l8 l9 l10 l12 LR NU NM SU g0 hmF ho hlook hlen hc hT htx hpk hres hq bw
  go_enter Try.func48, Try.ntmps48
  go_upto_region 1 with (fail)
  generalize w.alloc (.cells z54 54) = X at *
  go_wp2
  go_loopw [10, 11, 12, 18] (fun _ _ _ v18 wr => wr = X ∧ ∃ i : Nat, i ≤ q ∧ v18 = .int .i64 (i : Int) ∧ pk = pickF named (s.F l) (nm.drop i)) (fun _ _ _ v18 _ => q - (intOf v18).toNat)
  case atStart => exact ⟨rfl, 0, Nat.zero_le _, rfl, by simpa using PK.out⟩
  case round =>
    obtain ⟨hX, i, hi, rfl, hp⟩ := hrel
    subst hX
    have PP := Lib.hid hp
    clear hp
    by_cases hlt : i < q
    · have li : (i : Int) < (q : Int) := by omega
      have lf : i < nm.length := by have := QE.out; omega
      obtain ⟨tb, to, eT, htl, ht⟩ := TX.out i lf
      subst eT
      have hpl := HTX.out nm[i] (List.getElem_mem lf)
      have DR := Lib.hid (show nm.drop i = nm[i] :: nm.drop (i + 1) from (List.getElem_cons_drop lf).symm)
      generalize nm[i] = p at *
      obtain ⟨c, hr, hcz⟩ := numM_look MM.out p hpl
      cases hnp : named p with
      | none =>
        rw [hnp] at hr
        replace hr : (Instr.lookup 85 (.map (some mN)) (St p) true).run Try.prog wr = .ok (.tuple #[.int .i64 c, .bool false]) wr := hr
        have NX := Lib.hid (show pk = pickF named (s.F l) (nm.drop (i + 1)) by rw [PP.out, DR.out]; show (match named p with | some f => _ | none => _) = _; rw [hnp])
        clear hcz hnp
        go_wp2
        go_roundw
        case rel => exact ⟨trivial, i + 1, by omega, by go_num, NX.out⟩
        case measure => first | (simp [intOf]; done) | (simp [intOf]; omega)
      | some f =>
        obtain rfl := hcz f hnp
        rw [hnp] at hr
        replace hr : (Instr.lookup 85 (.map (some mN)) (St p) true).run Try.prog wr = .ok (.tuple #[.int .i64 c, .bool true]) wr := hr
        have HI := Lib.hid (HC.out c)
        have hlk := LK.out
        by_cases hin : c ∈ s.F l
        · have dt : decide (c ∈ s.F l) = true := decide_eq_true hin
          rw [dt] at HI
          have pe : pk = some c := by rw [PP.out, DR.out]; show (match named p with | some f => _ | none => _) = _; rw [hnp]; exact if_pos hin
          have re : res = ((1, c, 0), keepS s file l c) := by
            rw [RE.out]
            unfold seek1S
            rw [← PK.out, pe]
          have KC := Lib.hid (KE.out c (fun e => by rw [e] at hin; cases hin))
          subst re
          clear hcz hnp dt pe
          go_wp2_with (first
            | (go_at_call 49; (with_reducible refine HI.out.mono ?_); rintro e w1 ⟨rfl, rfl⟩)
            | (go_at_call 46; (with_reducible refine KC.out.mono ?_); rintro e w2 ⟨rfl, h1, h2, h3⟩; have S2 := Lib.hid h1; have N2 := Lib.hid h2; have L2 := Lib.hid (km_lies h3 HR.out (by decide) R0.out.1 R0.out.2); have K2 := Lib.hid (km_trans K0.out h3); clear h1 h2 h3)
            | (refine wpList_store_row rfl 54 _ _ rfl w.heap.size #[.int .i64 1, .int .i64 c, .int .i64 0] rfl rfl 54 z54 L2.out (by kernel_rfl) rfl (by simp [Value.oneCell']) ?_))
          refine bodyPost_ret (results_cell_row rfl _ _ w.heap.size 54 #[.int .i64 1, .int .i64 c, .int .i64 0] (0, 0) _ rfl (lies_setRow L2.out #[.int .i64 1, .int .i64 c, .int .i64 0]) Try.underlying54 rfl (by kernel_rfl)) rfl ?_
          exact ⟨rfl, shelf_row S2.out L2.out (by decide) R0.out.1 _, numM_row N2.out R0.out.2 _, km_setRow K2.out (Nat.le_refl _) _⟩
        · have dt : decide (c ∈ s.F l) = false := decide_eq_false hin
          rw [dt] at HI
          have NX := Lib.hid (show pk = pickF named (s.F l) (nm.drop (i + 1)) by rw [PP.out, DR.out]; show (match named p with | some f => _ | none => _) = _; rw [hnp]; exact if_neg hin)
          clear hcz hnp dt
          go_wp2_with (first
            | (go_at_call 49; (with_reducible refine HI.out.mono ?_); rintro e w1 ⟨rfl, rfl⟩))
          go_roundw
          case rel => exact ⟨trivial, i + 1, by omega, by go_num, NX.out⟩
          case measure => first | (simp [intOf]; done) | (simp [intOf]; omega)
    · have li : ¬ (i : Int) < (q : Int) := by omega
      have pe : pk = none := by rw [PP.out, List.drop_of_length_le (by have := QE.out; omega)]; rfl
      have re : res = ((0, 0, 0), s) := by
        rw [RE.out]
        unfold seek1S
        rw [← PK.out, pe]
      subst re
      clear pe
      go_wp2_with (refine wpList_store_row rfl 54 _ _ rfl w.heap.size #[.int .i64 0, .int .i64 0, .int .i64 0] rfl rfl 54 z54 HR.out (by kernel_rfl) rfl (by simp [Value.oneCell']) ?_)
      refine bodyPost_ret (results_cell_row rfl _ _ w.heap.size 54 #[.int .i64 0, .int .i64 0, .int .i64 0] (0, 0) _ rfl (lies_setRow HR.out #[.int .i64 0, .int .i64 0, .int .i64 0]) Try.underlying54 rfl (by kernel_rfl)) rfl ?_
      exact ⟨rfl, shelf_mono F1.out (Nat.le_succ _), numM_mono F2.out (Nat.le_succ _), F3.out⟩
end Go.Proofs.Ytiglakhfkgeefaa
