/-
What is proved here: the function value that goes over the contents of a tree's files, for every loop body that keeps the tree. the file of each name of a tree, by a contract.
-/
import Derived.Test.YtiglakhfkgeefaaSk1
import Derived.Test.YtiglakhfkgeefaaIns
import Derived.RangeFuncNested
set_option linter.unusedSimpArgs false
set_option linter.unusedVariables false
namespace Go.Mat
open Go.Pth Go.Tre
abbrev TxK := { x : Nat × Bt // x.1 ≤ 1000 ∧ x.2.length ≤ 100000 }
def txK (i : Nat) (d : Bt) : TxK := ⟨(min i 1000, d.take 100000), by show min i 1000 ≤ 1000; omega, List.length_take_le _ _⟩
def txTo (ds : List Bt) (i : Nat) : List TxK := (List.range i).map fun j => txK j (ds.getD j [])
def txL (ds : List Bt) : List TxK := txTo ds ds.length
theorem txTo_succ (ds : List Bt) (i : Nat) (h : i < ds.length) : txTo ds (i + 1) = txTo ds i ++ [txK i ds[i]] := by
  unfold txTo
  rw [List.range_succ, List.map_append]
  simp [List.getD_eq_getElem?_getD, List.getElem?_eq_getElem h]
theorem txTo_len (ds : List Bt) (i : Nat) : (txTo ds i).length = i := by simp [txTo]
theorem txK_val (i : Nat) (d : Bt) (h1 : i ≤ 1000) (h2 : d.length ≤ 100000) : (txK i d).1 = (i, d) := by
  unfold txK
  show (min i 1000, d.take 100000) = (i, d)
  rw [List.take_of_length_le h2, Nat.min_eq_left h1]
/-- what a round keeps: the blocks of Q -/
def KQ (Q : Nat → Prop) (A B : World) : Prop := (∀ i, Q i → B.heap[i]? = A.heap[i]?) ∧ A.heap.size ≤ B.heap.size
theorem kq_t {Q : Nat → Prop} {A B C : World} (h : KQ Q A B) (k : KQ Q B C) : KQ Q A C := ⟨fun i hi => (k.1 i hi).trans (h.1 i hi), Nat.le_trans h.2 k.2⟩
theorem kq_refl (Q : Nat → Prop) (A : World) : KQ Q A A := ⟨fun _ _ => rfl, Nat.le_refl _⟩
theorem kq_b {Q : Nat → Prop} {w : World} (hQ : ∀ i, Q i → i < w.heap.size) (W : World) (l : Nat) (o o' : Obj) (hl : w.heap.size ≤ l) (h : W.heap[l]? = some o) (_ : o.isCells = false) (_ : o.isWalk = false) : KQ Q W (W.putObj l o') :=
  ⟨fun i hi => World.putObj_heap_other (by have := hQ i hi; omega), by simp [World.putObj]⟩
end Go.Mat
namespace Go.Proofs.Ytiglakhfkgeefaa
open Go.Pth Go.Tre Go.RowKit Go.Word Go.Shelf Go.Mat
attribute [local go_sem] Oper.semAt_some
/-- bytes, files in blocks of Q -/
def BytesQ (w : World) (Q : Nat → Prop) (A : Option Addr) (l : Bt) : Prop := ∀ i (h : i < l.length), ∃ b o, A = some ⟨b, o, none⟩ ∧ Q b ∧ w.cell? ⟨b, o + i, none⟩ = some (.int .u8 (l[i].toNat : Int))
def FilesQ (w : World) (Q : Nat → Prop) (A : Option Addr) (fs : List Fl) : Prop := ∀ i (h : i < fs.length), ∃ b o DA dc, A = some ⟨b, o, none⟩ ∧ Q b ∧
  w.cell? ⟨b, o + i * 2, none⟩ = some (.int .i64 fs[i].mode) ∧ w.cell? ⟨b, o + i * 2 + 1, none⟩ = some (.slice DA fs[i].data.length dc) ∧ BytesQ w Q DA fs[i].data
theorem filesQ_of {w : World} {Q : Nat → Prop} {A : Option Addr} {fs : List Fl} (h : FilesAt w A fs) (hQ : ∀ i, i < w.heap.size → Q i) : FilesQ w Q A fs := fun i hi => by
  obtain ⟨b, o, DA, dc, e, hl, h1, h2, h3⟩ := h i hi
  exact ⟨b, o, DA, dc, e, hQ b hl, h1, h2, fun j hj => by obtain ⟨b', o', e', hl', hc⟩ := h3 j hj; exact ⟨b', o', e', hQ b' hl', hc⟩⟩
theorem filesQ_same {w W : World} {Q : Nat → Prop} {A : Option Addr} {fs : List Fl} (h : FilesQ w Q A fs) (hQ : ∀ i, Q i → W.heap[i]? = w.heap[i]?) : FilesQ W Q A fs := fun i hi => by
  obtain ⟨b, o, DA, dc, e, hl, h1, h2, h3⟩ := h i hi
  have hc : ∀ {b : Nat} (j : Nat), Q b → W.cell? ⟨b, j, none⟩ = w.cell? ⟨b, j, none⟩ := fun j hb => World.cell?_of_block (a := ⟨_, j, none⟩) (hQ _ hb)
  exact ⟨b, o, DA, dc, e, hl, (hc _ hl).trans h1, (hc _ hl).trans h2, fun j hj => by obtain ⟨b', o', e', hl', hc'⟩ := h3 j hj; exact ⟨b', o', e', hl', (hc _ hl').trans hc'⟩⟩
theorem bytesQ_at {w : World} {Q : Nat → Prop} {A : Option Addr} {l : Bt} (h : BytesQ w Q A l) (hQ : ∀ i, Q i → i < w.heap.size) : BytesAt w A l := fun i hi => by
  obtain ⟨b, o, e, hq, hc⟩ := h i hi
  exact ⟨b, o, e, hQ b hq, hc⟩
def encX (k : TxK) : Array Value := #[.int .i64 (k.1.1 : Int), St k.1.2]
theorem fileq_range {w : World} {b o : Nat} {m : Int} {v : Value} (d1 : w.cell? ⟨b, o, none⟩ = some (.int .i64 m)) (d2 : w.cell? ⟨b, o + 1, none⟩ = some v) : w.rangeAt b o [.int .i64 m, v] := fun j u hj => by
  match j, hj with
  | 0, hj => injection hj with hj; subst hj; exact d1
  | 1, hj => injection hj with hj; subst hj; exact d2
  | j + 2, hj => simp at hj
theorem pushq_all (l : Bt) : ∀ s : ByteArray, (l.map fun x => (x.toNat : Int)).foldl (fun r n => r.push (UInt8.ofNat n.toNat)) s = ⟨s.data ++ l.toArray⟩ := by
  induction l with
  | nil => intro s; simp
  | cons x r ih =>
    intro s
    rw [List.map_cons, List.foldl_cons, ih]
    have e : UInt8.ofNat ((x.toNat : Int)).toNat = x := by simp
    rw [e]
    show (⟨(s.data.push x) ++ r.toArray⟩ : ByteArray) = _
    simp
theorem run_text47 (A : Option Addr) (l : Bt) (c : Nat) (w : World) (h : BytesAt w A l) : (convert 47 9 (.slice A l.length c)).run Try.prog w = .ok (St l) w := by
  rw [run_convert_bytes_string w 47 9 5 _ _ c Try.underlying47 Try.underlying5 (by kernel_rfl)]
  have e0 : (l.map fun x => (x.toNat : Int)).foldl (fun r n => r.push (UInt8.ofNat n.toNat)) ByteArray.empty = ⟨l.toArray⟩ := by
    rw [pushq_all]
    simp [ByteArray.empty, ByteArray.emptyWithCapacity]
    try rfl
  cases A with
  | none =>
    have e : l = [] := by
      rcases l with _ | ⟨x, r⟩
      · rfl
      · obtain ⟨b, o, e, _⟩ := h 0 (by simp)
        cases e
    subst e
    simp [Conv.bytesToString]
    rfl
  | some ad =>
    have hk := run_loadCells_list (P := Try.prog) w ad (l.map fun x => Value.int .u8 (x.toNat : Int)) (fun j v hj => by
      rcases Nat.lt_or_ge j l.length with hl | hl
      · obtain ⟨b, o, e, _, hc⟩ := h j hl
        injection e with e
        subst e
        rw [Addr.add_mid, hc, ← hj]
        simp [hl]
      · rw [List.getElem?_eq_none (by simpa using hl)] at hj; cases hj)
    rw [List.length_map] at hk
    have := run_bytesToString w ad l.length c (l.map fun x => (x.toNat : Int)) (by rw [hk, List.map_map]; rfl)
    rw [this, e0]
    rfl
def sameFlq (x y : Fl) : Bool := x.mode == y.mode && same x.data y.data
set_option maxRecDepth 100000 in
set_option maxHeartbeats 4000000 in
theorem texts_stops (nn : Nat) (hnn : 1 ≤ nn) (fs : List Fl) (hd : ∀ x ∈ fs, x.data.length ≤ 100000) (hn0 : fs.length ≤ 1000) (Bs : Nat) (Q : Nat → Prop) (FA : Option Addr) (fc : Nat) (w : World)
    (hb1 : w.cell? ⟨Bs, 1, none⟩ = some (.slice FA fs.length fc)) (hQB : Q Bs) (hQ : ∀ i, Q i → i < w.heap.size) (hF : FilesQ w Q FA fs) :
    SeqStopsK .wide nn Try.prog 52 #[.pointer (some ⟨Bs, 0, none⟩)] encX (KQ Q) (fun ys => ys = txL (fs.map Fl.data)) (fun _ => True) fs.length w := fun lp J Jx W hW hJ _ hY h0 => by
  have cB1 := (hW.cell (p := ⟨Bs, 1, none⟩) (hQ Bs hQB)).trans hb1
  have hKW : ∀ i, Q i → W.heap[i]? = w.heap[i]? := fun i hi => hW.block i (hQ i hi)
  obtain ⟨n, hne⟩ : ∃ n, n = fs.length := ⟨_, rfl⟩
  rw [← hne] at cB1 hn0
  have NE := Lib.hid hne
  have HD := Lib.hid hd
  have HF := Lib.hid (filesQ_same hF hKW)
  have HQ := Lib.hid (fun i hi => Nat.lt_of_lt_of_le (hQ i hi) hW.size)
  have HB := Lib.hid hQB
  clear hb1 hne hd hF hKW hQ hQB
  refine callsIn_of_wp Try.func52 rfl trivial ?_ rfl
  simp only [Try.ntmps52, List.size_toArray, List.length_cons, List.length_nil, Nat.reduceAdd, Nat.reduceSub, Array.replicate_succ, Array.replicate_zero, List.push_toArray, List.append_toArray, List.nil_append, List.cons_append]
  gi_wp2
  gi_loopw [3, 8] (fun _ v8 wr => ∃ j : Nat, j ≤ n ∧ v8 = .int .i64 (j : Int) ∧ J (txTo (fs.map Fl.data) j) wr ∧ (∀ k, Q k → wr.heap[k]? = W.heap[k]?) ∧ W.heap.size ≤ wr.heap.size) (fun _ v8 _ => n - (intOf v8).toNat)
  case atStart => exact ⟨0, Nat.zero_le _, rfl, by simpa [txTo] using h0, fun _ _ => rfl, Nat.le_refl _⟩
  case round =>
    obtain ⟨j, hj, rfl, hJr, hK, hz⟩ := hrel
    have HJR := Lib.hid hJr
    have HK := Lib.hid hK
    have HZ := Lib.hid hz
    clear cB1 hJr hK hz
    by_cases hjl : j < n
    · have lj : (j : Int) < (n : Int) := by omega
      have lf : j < fs.length := by have := NE.out; omega
      obtain ⟨b, o, DA, dc, eA, hbQ, e1, e2, e3⟩ := HF.out j lf
      have hdl := HD.out fs[j] (List.getElem_mem _)
      subst eA
      have hcc : ∀ {b : Nat} (j : Nat), Q b → wr.cell? ⟨b, j, none⟩ = W.cell? ⟨b, j, none⟩ := fun j hb => World.cell?_of_block (a := ⟨_, j, none⟩) (HK.out _ hb)
      have d1 := (hcc (o + j * 2) hbQ).trans e1
      have d2 := (hcc (o + j * 2 + 1) hbQ).trans e2
      have FD := Lib.hid (txTo_succ (fs.map Fl.data) j (by simpa using lf))
      have FV := Lib.hid (txK_val j fs[j].data (by omega) hdl)
      have hby : BytesQ wr Q DA fs[j].data := fun i hi => by
        obtain ⟨b', o', e', hq', hc'⟩ := e3 i hi
        exact ⟨b', o', e', hq', (hcc _ hq').trans hc'⟩
      have eg : (fs.map Fl.data)[j]'(by simpa using lf) = fs[j].data := by simp
      rw [eg] at FD
      have bx := (Below.refl wr.heap.size wr).alloc (Nat.le_refl _) (.cells #[.int .i64 fs[j].mode, .slice DA fs[j].data.length dc] 52)
      have CV := Lib.hid (run_text47 DA fs[j].data dc (wr.alloc (.cells #[.int .i64 fs[j].mode, .slice DA fs[j].data.length dc] 52)) (bytesAt_below (bytesQ_at hby (fun i hi => Nat.lt_of_lt_of_le (HQ.out i hi) HZ.out)) bx))
      clear e1 e2 e3 hby eg
      generalize fs[j] = x at *
      obtain ⟨md, d⟩ := x
      have CV : Hid ((convert 47 9 (.slice DA d.length dc)).run Try.prog (wr.alloc (.cells #[.int .i64 md, .slice DA d.length dc] 52)) = .ok (St d) (wr.alloc (.cells #[.int .i64 md, .slice DA d.length dc] 52))) := CV
      have d1 : wr.cell? ⟨b, o + j * 2, none⟩ = some (.int .i64 md) := d1
      have d2 : wr.cell? ⟨b, o + j * 2 + 1, none⟩ = some (.slice DA d.length dc) := d2
      have LM := Lib.hid (fileq_range (w := wr) (b := b) (o := o + j * 2) d1 d2)
      have LN := Lib.hid (lies_new wr 52 #[.int .i64 0, .slice none 0 0])
      have ES := Lib.hid (setRow_alloc wr 52 #[.int .i64 0, .slice none 0 0] #[.int .i64 md, .slice DA d.length dc])
      have x1 : (wr.alloc (.cells #[.int .i64 md, .slice DA d.length dc] 52)).cell? ⟨wr.heap.size, 1, none⟩ = some (.slice DA d.length dc) := lies_cell (lies_new wr 52 _) 1
      have JX := Lib.hid (hJ _ _ _ none HJR.out (World.grownBy_alloc wr (.cells #[.int .i64 md, .slice DA d.length dc] 52) _) (fun _ e => by cases e))
      have KX := Lib.hid (show ∀ k, Q k → (wr.alloc (.cells #[.int .i64 md, .slice DA d.length dc] 52)).heap[k]? = W.heap[k]? from fun k h1 => (bx.block k (by have := HQ.out k h1; have := HZ.out; omega)).trans (HK.out k h1))
      have ZX := Lib.hid (show W.heap.size ≤ (wr.alloc (.cells #[.int .i64 md, .slice DA d.length dc] 52)).heap.size from Nat.le_trans HZ.out bx.size)
      obtain ⟨fn, tmps, assign, body, hy, hR⟩ := hY (txTo (fs.map Fl.data) j) (txK j d) _ JX.out (by rw [txTo_len]; exact lf)
      dsimp only [encX] at hy
      rw [FV.out] at hy
      simp only [] at hy
      clear d1 d2 lf bx hdl
      have cv := CV.out
      generalize d.length = dn at *
      gi_wp2_with (first
        | (refine wpListIn_load_mid rfl 52 _ rfl b (o + j * 2) rfl [.int .i64 md, .slice DA dn dc] _ LM.out Try.underlying52 rfl (by kernel_rfl) ?_)
        | (refine wpListIn_store_row rfl 52 _ _ rfl wr.heap.size #[.int .i64 md, .slice DA dn dc] rfl rfl 52 _ LN.out (by kernel_rfl) rfl (by simp [Value.oneCell']) ?_; rw [ES.out]))
      refine hR.mono ?_
      rintro e W4 (⟨rfl, hJ4, hk4⟩ | ⟨rfl, hJx4⟩)
      · have J4 := Lib.hid (show J (txTo (fs.map Fl.data) (j + 1)) W4 by rw [FD.out]; exact hJ4)
        have KH4 := Lib.hid (show ∀ k, Q k → W4.heap[k]? = W.heap[k]? from fun k h1 => (hk4.1 k h1).trans (KX.out k h1))
        have Z4 := Lib.hid (Nat.le_trans ZX.out hk4.2)
        clear hJ4 hk4
        gi_wp2
        go_roundw
        case rel => exact ⟨j + 1, by omega, by go_num, J4.out, KH4.out, Z4.out⟩
        case measure => first | (simp [intOf]; done) | (simp [intOf]; omega)
      · gi_wp2
        refine bodyPost_ret (results_none rfl _ _ _) rfl ?_
        exact ⟨⟨_, rfl⟩, .inr ⟨_, trivial, hJx4⟩⟩
    · have lj : ¬ (j : Int) < (n : Int) := by omega
      have HA := Lib.hid (show txTo (fs.map Fl.data) j = txL (fs.map Fl.data) by unfold txL; rw [List.length_map, show j = fs.length by have := NE.out; omega])
      gi_wp2
      go_end0
      exact ⟨⟨_, rfl⟩, .inl (by rw [← HA.out]; exact HJR.out)⟩
end Go.Proofs.Ytiglakhfkgeefaa
set_option linter.unusedSimpArgs false
set_option linter.unusedVariables false
namespace Go.Mat
open Go.Pth Go.Tre
def namedStep (F : Bt → Option Int) (x : Nd) : Bt → Option Int := if 0 ≤ x.file then updF F x.path (some x.file) else F
def namedF (ns : List Nd) : Bt → Option Int := ns.foldl namedStep (fun _ => none)
theorem namedF_succ (ns : List Nd) (i : Nat) (h : i < ns.length) : namedF (ns.take (i + 1)) = namedStep (namedF (ns.take i)) ns[i] := by
  unfold namedF
  rw [List.take_succ_eq_append_getElem h, List.foldl_append]
  rfl
end Go.Mat
namespace Go.Proofs.Ytiglakhfkgeefaa
open Go.Pth Go.Tre Go.RowKit Go.Word Go.Shelf Go.Mat
theorem isn_any (p : Bt) (f m : Int) (w : World) : Calls Try.prog 61 #[.agg #[St p, .int .i64 f, .int .i64 m]] w fun e w' => e = .returned (.bool (decide (0 ≤ f))) ∧ Below w.heap.size w w' := by
  have L := lies_new w 60 #[St p, .int .i64 f, .int .i64 m]
  have B := Lib.hid ((Below.refl w.heap.size w).alloc (Nat.le_refl _) (.cells #[St p, .int .i64 f, .int .i64 m] 60))
  have x1 : (w.alloc (.cells #[St p, .int .i64 f, .int .i64 m] 60)).cell? ⟨w.heap.size, 1, none⟩ = some (.int .i64 f) := lies_cell L 1
  clear L
  go_enter Try.func61, Try.ntmps61
  go_wp2
  go_ret
  exact ⟨rfl, B.out⟩
set_option maxRecDepth 100000 in
set_option maxHeartbeats 1000000 in
theorem files_any (NA : Option Addr) (nc : Nat) (vF : Value) (ns : List Nd) (w : World) (hN : NodesAt w NA ns) (hn0 : ns.length ≤ 1000) (hp : ∀ x ∈ ns, x.path.length ≤ 100000) (hfl : ∀ x ∈ ns, -1000000 ≤ x.file ∧ x.file ≤ 1000000) :
    Calls Try.prog 43 #[.agg #[.slice NA ns.length nc, vF]] w fun e w' => (∃ b, e = .returned (.map (some b)) ∧ NumM w' b ns.length (namedF ns) ∧ w.heap.size ≤ b) ∧ Below w.heap.size w w' := by
  have hmm := @run_makeMap Try.prog
  have g1 : Below w.heap.size w (w.alloc (.cells #[.slice NA ns.length nc, vF] 25)) := (Below.refl _ _).alloc (Nat.le_refl _) _
  have c0 : (w.alloc (.cells #[.slice NA ns.length nc, vF] 25)).cell? ⟨w.heap.size, 0, none⟩ = some (.slice NA ns.length nc) := lies_cell (lies_new w 25 _) 0
  obtain ⟨n, hne⟩ : ∃ n, n = ns.length := ⟨_, rfl⟩
  have NE := Lib.hid hne
  have HN := Lib.hid hN
  have HP := Lib.hid hp
  have HF := Lib.hid hfl
  rw [← hne] at hn0 c0 g1 ⊢
  have l0 := lies_lt (lies_new w 25 #[.slice NA n nc, vF])
  have x0 : ((w.alloc (.cells #[.slice NA n nc, vF] 25)).alloc (.map #[] 0)).cell? ⟨w.heap.size, 0, none⟩ = some (.slice NA n nc) := (((Below.refl _ _).alloc (Nat.le_refl _) (.map #[] 0)).cell (p := ⟨w.heap.size, 0, none⟩) l0).trans c0
  have N0 := Lib.hid (numM_made (w.alloc (.cells #[.slice NA n nc, vF] 25)))
  have B0 := Lib.hid (g1.alloc (by simp) (.map #[] 0))
  rw [World.size_alloc] at N0
  clear hN hp hfl hne g1 c0 l0
  go_enter Try.func43, Try.ntmps43
  go_wp2
  go_loopw [5, 10] (fun _ v10 wr => ∃ i : Nat, i ≤ n ∧ v10 = .int .i64 (i : Int) ∧ NumM wr (w.heap.size + 1) i (namedF (ns.take i)) ∧ Below w.heap.size w wr) (fun _ v10 _ => n - (intOf v10).toNat)
  case atStart => exact ⟨0, Nat.zero_le _, rfl, by simpa [namedF] using N0.out, B0.out⟩
  case round =>
    obtain ⟨i, hi, rfl, hM, hB⟩ := hrel
    have HM := Lib.hid hM
    have HB := Lib.hid hB
    clear hM hB x0
    by_cases hlt : i < n
    · have li : (i : Int) < (n : Int) := by omega
      have lf : i < ns.length := by have := NE.out; omega
      obtain ⟨b, o, eA, hbl, e1, e2, e3⟩ := HN.out i lf
      have hpl := HP.out ns[i] (List.getElem_mem _)
      have hfb := HF.out ns[i] (List.getElem_mem _)
      subst eA
      have d1 := (HB.out.cell (p := ⟨b, o + i * 3, none⟩) hbl).trans e1
      have d2 := (HB.out.cell (p := ⟨b, o + i * 3 + 1, none⟩) hbl).trans e2
      have d3 := (HB.out.cell (p := ⟨b, o + i * 3 + 2, none⟩) hbl).trans e3
      have NS := Lib.hid (namedF_succ ns i lf)
      clear e1 e2 e3
      generalize ns[i] = x at *
      obtain ⟨p, f, md⟩ := x
      have LM := Lib.hid (node_range (p := p) d1 d2 d3)
      have LN := Lib.hid (lies_new wr 60 #[.string { data := #[] }, .int .i64 0, .int .i64 0])
      have ES := Lib.hid (setRow_alloc wr 60 #[.string { data := #[] }, .int .i64 0, .int .i64 0] #[St p, .int .i64 f, .int .i64 md])
      have LL := lies_new wr 60 #[St p, .int .i64 f, .int .i64 md]
      have y0 := lies_cell LL 0
      have y1 := lies_cell LL 1
      have y2 := lies_cell LL 2
      simp only [List.getElem?_toArray, List.getElem?_cons_zero, List.getElem?_cons_succ] at y0 y1 y2
      have LM2 := Lib.hid (node_range (w := wr.alloc (.cells #[St p, .int .i64 f, .int .i64 md] 60)) (b := wr.heap.size) (o := 0) (p := p) y0 y1 y2)
      have WX := Lib.hid (wf_int (z := f) (by have := hfb.1; show _ ≤ f; have : (-1000000 : Int) ≤ f := hfb.1; omega) (by have : f ≤ (1000000 : Int) := hfb.2; omega))
      have HPL := Lib.hid (show p.length ≤ 100000 from hpl)
      have IS := Lib.hid (isn_any p f md (wr.alloc (.cells #[St p, .int .i64 f, .int .i64 md] 60)))
      have bX := Lib.hid ((Below.refl wr.heap.size wr).alloc (Nat.le_refl _) (.cells #[St p, .int .i64 f, .int .i64 md] 60))
      have LH := Lib.hid LL
      clear d1 d2 d3 hpl hfb y0 y1 y2 LL
      by_cases hf : 0 ≤ f
      · have dt : decide (0 ≤ f) = true := decide_eq_true hf
        rw [dt] at IS
        have NS2 := Lib.hid (show namedF (ns.take (i + 1)) = updF (namedF (ns.take i)) p (some f) by rw [NS.out]; exact if_pos hf)
        clear dt
        go_wp2_with (first
          | (refine wpList_load_mid rfl 60 _ rfl b (o + i * 3) rfl [St p, .int .i64 f, .int .i64 md] _ LM.out Try.underlying60 rfl (by kernel_rfl) ?_)
          | (refine wpList_store_row rfl 60 _ _ rfl wr.heap.size #[St p, .int .i64 f, .int .i64 md] rfl rfl 60 _ LN.out (by kernel_rfl) rfl (by simp [Value.oneCell', St]) ?_; rw [ES.out])
          | (refine wpList_load_mid rfl 60 _ rfl wr.heap.size 0 rfl [St p, .int .i64 f, .int .i64 md] _ LM2.out Try.underlying60 rfl (by kernel_rfl) ?_)
          | (go_at_call 61; (with_reducible refine IS.out.mono ?_); rintro e w1 ⟨rfl, hb⟩; have B1 := Lib.hid hb; have L1 := lies_below LH.out hb (lies_lt LH.out); have z0 := lies_cell L1 0; have z1 := lies_cell L1 1; have HM1 := numM_below (numM_below HM.out bX.out) hb; obtain ⟨w2, hp, hN2, hg2⟩ := numM_put HM1 p HPL.out (by omega) f WX.out; have P2 := Lib.hid hp; have N2 := Lib.hid hN2; have G2 := Lib.hid hg2; clear hb L1 HM1 hp hN2 hg2; simp only [List.getElem?_toArray, List.getElem?_cons_zero, List.getElem?_cons_succ] at z0 z1)
          | (refine wpList_put_eq rfl _ _ _ 85 rfl (.map (some (w.heap.size + 1))) (St p) (.int .i64 f) rfl rfl rfl P2.out ?_))
        go_roundw
        case rel => exact ⟨i + 1, by omega, by go_num, by rw [NS2.out]; exact N2.out, (HB.out.trans ((bX.out.trans (B1.out.mono bX.out.size)).mono HB.out.size)).grown G2.out (Nat.le_trans HB.out.size (Nat.le_trans bX.out.size B1.out.size)) (fun k e => by injection e with e; omega)⟩
        case measure => first | (simp [intOf]; done) | (simp [intOf]; omega)
      · have dt : decide (0 ≤ f) = false := decide_eq_false hf
        rw [dt] at IS
        have NS2 := Lib.hid (show namedF (ns.take (i + 1)) = namedF (ns.take i) by rw [NS.out]; exact if_neg hf)
        clear dt
        go_wp2_with (first
          | (refine wpList_load_mid rfl 60 _ rfl b (o + i * 3) rfl [St p, .int .i64 f, .int .i64 md] _ LM.out Try.underlying60 rfl (by kernel_rfl) ?_)
          | (refine wpList_store_row rfl 60 _ _ rfl wr.heap.size #[St p, .int .i64 f, .int .i64 md] rfl rfl 60 _ LN.out (by kernel_rfl) rfl (by simp [Value.oneCell', St]) ?_; rw [ES.out])
          | (refine wpList_load_mid rfl 60 _ rfl wr.heap.size 0 rfl [St p, .int .i64 f, .int .i64 md] _ LM2.out Try.underlying60 rfl (by kernel_rfl) ?_)
          | (go_at_call 61; (with_reducible refine IS.out.mono ?_); rintro e w1 ⟨rfl, hb⟩; have B1 := Lib.hid hb; have N1 := Lib.hid (numM_below (numM_below HM.out bX.out) hb); clear hb))
        go_roundw
        case rel => exact ⟨i + 1, by omega, by go_num, by rw [NS2.out]; exact numM_mono N1.out (Nat.le_succ _), HB.out.trans ((bX.out.trans (B1.out.mono bX.out.size)).mono HB.out.size)⟩
        case measure => first | (simp [intOf]; done) | (simp [intOf]; omega)
    · obtain rfl : i = n := by omega
      have li : ¬ ((i : Int) < (i : Int)) := by omega
      have ei : ns.take i = ns := List.take_of_length_le (by have := NE.out; omega)
      rw [ei] at HM
      go_wp2
      go_ret
      exact ⟨⟨_, rfl, HM.out, by omega⟩, HB.out⟩
end Go.Proofs.Ytiglakhfkgeefaa
