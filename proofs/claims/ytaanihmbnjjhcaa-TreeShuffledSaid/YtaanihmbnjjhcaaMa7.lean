/-
What is proved here: several texts in one (Nds, Eqb, Seq, Seg, Rft, Fnd, Cls): each says what it is about.
-/
import Derived.Test.YtaanihmbnjjhcaaMa6
import Derived.Test.YtaanihmbnjjhcaaMa4
import Derived.Laws.BytesString
import Derived.Deep.QuietTactic
import Derived.BigQuiet
import Derived.Test.YtaanihmbnjjhcaaMa3
import Derived.Test.YtaanihmbnjjhcaaMa1
/-
What is proved here: the function value that goes over a loose tree's nodes, for every loop body that keeps what lay below but one block, and the maps.
-/
set_option linter.unusedSimpArgs false
namespace Go.Tre
open Go.Pth
abbrev NdK := { x : Nat × Nd // x.1 ≤ 256 ∧ x.2.path.length ≤ 100000 }
def ndK (i : Nat) (x : Nd) : NdK := ⟨(min i 256, ⟨x.path.take 100000, x.file, x.mode⟩), by show min i 256 ≤ 256; omega, List.length_take_le _ _⟩
def nodesTo (ns : List Nd) (i : Nat) : List NdK := (List.range i).map fun j => ndK j (ns.getD j ⟨[], 0, 0⟩)
def nodesL (ns : List Nd) : List NdK := nodesTo ns ns.length
def seqL (ns : List Nd) (fs : List Fl) : List NdK := if looseE ns fs = 0 then nodesL ns else []
theorem nodesTo_succ (ns : List Nd) (i : Nat) (h : i < ns.length) : nodesTo ns (i + 1) = nodesTo ns i ++ [ndK i ns[i]] := by
  unfold nodesTo
  rw [List.range_succ, List.map_append]
  simp [List.getD_eq_getElem?_getD, List.getElem?_eq_getElem h]
theorem nodesTo_pre (ns : List Nd) (i : Nat) (h : i ≤ ns.length) : nodesTo ns i <+: nodesL ns := by
  unfold nodesL nodesTo
  refine ⟨(List.range' i (ns.length - i)).map fun j => ndK j (ns.getD j ⟨[], 0, 0⟩), ?_⟩
  rw [← List.map_append]
  congr 1
  rw [List.range_eq_range', List.range_eq_range']
  have := @List.range'_append 0 i (ns.length - i) 1
  simpa [show i + (ns.length - i) = ns.length by omega] using this
theorem nodesTo_len (ns : List Nd) (i : Nat) : (nodesTo ns i).length = i := by simp [nodesTo]
theorem ndK_val (i : Nat) (x : Nd) (h1 : i ≤ 256) (h2 : x.path.length ≤ 100000) : (ndK i x).1 = (i, x) := by
  unfold ndK
  show (min i 256, (⟨x.path.take 100000, x.file, x.mode⟩ : Nd)) = (i, x)
  rw [List.take_of_length_le h2, Nat.min_eq_left h1]
end Go.Tre
namespace Go.Proofs.Ytaanihmbnjjhcaa
open Go.Pth Go.Tre Go.RowKit Go.Word Go.Shelf
attribute [local go_sem] Oper.semAt_some

def encN (k : NdK) : Array Value := #[.int .i64 (k.1.1 : Int), .agg #[St k.1.2.path, .int .i64 k.1.2.file, .int .i64 k.1.2.mode]]
end Go.Proofs.Ytaanihmbnjjhcaa

/-
What is proved here: bytes.Equal and sameFile, by contracts.
-/
set_option linter.unusedSimpArgs false
namespace Go.Proofs.Ytaanihmbnjjhcaa
open Go.Pth Go.Tre Go.RowKit Go.Word Go.Shelf
attribute [local go_sem] guard_eq guard_ne st_eql st_neq

theorem push_all (l : Bt) : ∀ s : ByteArray, (l.map fun x => (x.toNat : Int)).foldl (fun r n => r.push (UInt8.ofNat n.toNat)) s = ⟨s.data ++ l.toArray⟩ := by
  induction l with
  | nil => intro s; simp
  | cons x r ih =>
    intro s
    rw [List.map_cons, List.foldl_cons, ih]
    have e : UInt8.ofNat ((x.toNat : Int)).toNat = x := by simp
    rw [e]
    show (⟨(s.data.push x) ++ r.toArray⟩ : ByteArray) = _
    simp
theorem run_text48 (A : Option Addr) (l : Bt) (c : Nat) (w : World) (h : BytesAt w A l) : (convert 40 9 (.slice A l.length c)).run Try.prog w = .ok (St l) w := by
  rw [run_convert_bytes_string w 40 9 5 _ _ c Try.underlying40 Try.underlying5 (by kernel_rfl)]
  have e0 : (l.map fun x => (x.toNat : Int)).foldl (fun r n => r.push (UInt8.ofNat n.toNat)) ByteArray.empty = ⟨l.toArray⟩ := by
    rw [push_all]
    simp [ByteArray.empty, ByteArray.emptyWithCapacity]
    try rfl
  cases A with
  | none =>
    have e : l = [] := by
      rcases l with _ | ⟨x, r⟩
      · rfl
      · obtain ⟨b, o, e, _⟩ := h 0 (by simp)
        cases e
    subst e
    simp [Conv.bytesToString]
    rfl
  | some ad =>
    have hk := run_loadCells_list (P := Try.prog) w ad (l.map fun x => Value.int .u8 (x.toNat : Int)) (fun j v hj => by
      rcases Nat.lt_or_ge j l.length with hl | hl
      · obtain ⟨b, o, e, _, hc⟩ := h j hl
        injection e with e
        subst e
        rw [Addr.add_mid, hc, ← hj]
        simp [hl]
      · rw [List.getElem?_eq_none (by simpa using hl)] at hj; cases hj)
    rw [List.length_map] at hk
    have := run_bytesToString w ad l.length c (l.map fun x => (x.toNat : Int)) (by rw [hk, List.map_map]; rfl)
    rw [this, e0]
    rfl
theorem bytesEqual_any (A B : Option Addr) (c d : Nat) (a b : Bt) (w : World) (ha : BytesAt w A a) (hb : BytesAt w B b) :
    Calls Try.prog 59 #[.slice A a.length c, .slice B b.length d] w fun e w' => e = .returned (.bool (same a b)) ∧ w = w' := by
  have t1 := run_text48 A a c w ha
  have t2 := run_text48 B b d w hb
  clear ha hb
  generalize a.length = k at *
  generalize b.length = m at *
  go_enter Try.func59, Try.ntmps59
  go_wp2
  go_ret
  exact ⟨rfl, rfl⟩
def sameFl (x y : Fl) : Bool := x.mode == y.mode && same x.data y.data
set_option maxRecDepth 100000 in
theorem sameFile_any (A B : Option Addr) (c d : Nat) (x y : Fl) (w : World) (ha : BytesAt w A x.data) (hb : BytesAt w B y.data) :
    Calls Try.prog 37 #[.agg #[.int .i64 x.mode, .slice A x.data.length c], .agg #[.int .i64 y.mode, .slice B y.data.length d]] w fun e w' => e = .returned (.bool (sameFl x y)) ∧ Below w.heap.size w w' := by
  obtain ⟨m, a⟩ := x
  obtain ⟨k, b⟩ := y
  show Calls Try.prog 37 #[.agg #[.int .i64 m, .slice A a.length c], .agg #[.int .i64 k, .slice B b.length d]] w fun e w' => e = .returned (.bool (m == k && same a b)) ∧ Below w.heap.size w w'
  have L1 := lies_new w 42 #[.int .i64 m, .slice A a.length c]
  have B1 : Below w.heap.size w (w.alloc (.cells #[.int .i64 m, .slice A a.length c] 42)) := (Below.refl _ _).alloc (Nat.le_refl _) _
  have B2 : Below w.heap.size w ((w.alloc (.cells #[.int .i64 m, .slice A a.length c] 42)).alloc (.cells #[.int .i64 k, .slice B b.length d] 42)) := B1.alloc (by simp) _
  have K := Lib.hid (bytesEqual_any A B c d a b _ (bytesAt_below ha B2) (bytesAt_below hb B2))
  have L2 := lies_new (w.alloc (.cells #[.int .i64 m, .slice A a.length c] 42)) 42 #[.int .i64 k, .slice B b.length d]
  have L1' := lies_alloc L1 (.cells #[.int .i64 k, .slice B b.length d] 42)
  rw [World.size_alloc] at L2
  have c0 := lies_cell L1' 0
  have c1 := lies_cell L1' 1
  have d0 := lies_cell L2 0
  have d1 := lies_cell L2 1
  have HB := Lib.hid B2
  clear L1 L2 L1' B1 B2 ha hb
  generalize same a b = s at *
  generalize a.length = na at *
  generalize b.length = nb at *
  simp only [List.getElem?_toArray, List.getElem?_cons_zero, List.getElem?_cons_succ] at c0 c1 d0 d1
  by_cases h : m = k
  · subst h
    have e : (m == m && s) = s := by simp
    rw [e]
    clear e
    go_enter Try.func37, Try.ntmps37
    go_wp2_with (go_at_call 59; (with_reducible refine K.out.mono ?_); rintro e w1 ⟨rfl, rfl⟩)
    go_ret
    exact ⟨rfl, HB.out⟩
  · have e : (m == k && s) = false := by simp [h]
    rw [e]
    clear e
    go_enter Try.func37, Try.ntmps37
    go_wp2
    go_ret
    exact ⟨rfl, HB.out⟩
end Go.Proofs.Ytaanihmbnjjhcaa

/-
What is proved here: slices.Equal of nodes, by a contract.
-/
set_option linter.unusedSimpArgs false
namespace Go.Proofs.Ytaanihmbnjjhcaa
open Go.Pth Go.Tre Go.RowKit Go.Word Go.Shelf

set_option maxRecDepth 100000 in
theorem neq_node (p q : Bt) (f g m k : Int) (w : World) : (binOp .neq 39 (.agg #[St p, .int .i64 f, .int .i64 m]) (.agg #[St q, .int .i64 g, .int .i64 k])).run Try.prog w = .ok (.bool (!eqNd p q f g m k)) w := by
  have h := eql_node p q f g m k w
  rw [run_eql_struct] at h
  rw [run_neq_struct]
  cases hE : (Op.equalIn 10000 39 (.agg #[St p, .int .i64 f, .int .i64 m]) (.agg #[St q, .int .i64 g, .int .i64 k])).run Try.prog w with
  | ok b w' =>
    rw [hE] at h
    simp only [Result.andThen] at h ⊢
    injection h with h1 h2
    injection h1 with h1
    rw [h1, h2]
  | _ => rw [hE] at h; simp [Result.andThen] at h
theorem eqNd_iff (x y : Nd) : eqNd x.path y.path x.file y.file x.mode y.mode = decide (x = y) := by
  obtain ⟨p, f, m⟩ := x
  obtain ⟨q, g, k⟩ := y
  unfold eqNd same
  by_cases h1 : p = q <;> by_cases h2 : f = g <;> by_cases h3 : m = k <;> simp [h1, h2, h3]
theorem take_eq {α : Type} (a b : List α) (i : Nat) (h : a.take i = b.take i) (ha : i < a.length) (hb : i < b.length) : (a.take (i + 1) = b.take (i + 1) ↔ a[i] = b[i]) := by
  rw [List.take_succ_eq_append_getElem ha, List.take_succ_eq_append_getElem hb, h, List.append_right_inj]
  exact ⟨fun e => by injection e, fun e => by rw [e]⟩

set_option maxRecDepth 100000 in
set_option maxHeartbeats 4000000 in
theorem equalNodes_any (A B : Option Addr) (c d : Nat) (ns ms : List Nd) (w : World) (hn : ns.length ≤ 1000000) (hA : NodesAt w A ns) (hB : NodesAt w B ms) :
    Calls Try.prog 35 #[.slice A ns.length c, .slice B ms.length d] w fun e w' => e = .returned (.bool (decide (ns = ms))) ∧ Below w.heap.size w w' := by
  obtain ⟨n, hne⟩ : ∃ n, n = ns.length := ⟨_, rfl⟩
  obtain ⟨m, hme⟩ : ∃ m, m = ms.length := ⟨_, rfl⟩
  rw [← hne] at hn ⊢
  rw [← hme]
  have NE := Lib.hid hne
  have ME := Lib.hid hme
  have HA := Lib.hid hA
  have HB := Lib.hid hB
  clear hne hme hA hB
  by_cases hnm : n = m
  · subst hnm
    obtain ⟨r, hr⟩ : ∃ r, r = decide (ns = ms) := ⟨_, rfl⟩
    rw [← hr]
    have RE := Lib.hid hr
    clear hr
    go_enter Try.func35, Try.ntmps35
    go_wp2
    go_loopw [5, 13] (fun _ v13 wr => ∃ i : Nat, i ≤ n ∧ v13 = .int .i64 (i : Int) ∧ ns.take i = ms.take i ∧ Below w.heap.size w wr) (fun _ v13 _ => n - (intOf v13).toNat)
    case atStart => exact ⟨0, Nat.zero_le _, rfl, by simp, Below.refl _ _⟩
    case round =>
      obtain ⟨i, hi, rfl, hno, hb⟩ := hrel
      have HBW := Lib.hid hb
      have NO := Lib.hid hno
      clear hb hno
      by_cases hlt : i < n
      · have li : (i : Int) < (n : Int) := by omega
        have lf : i < ns.length := by have := NE.out; omega
        have lm : i < ms.length := by have := ME.out; omega
        obtain ⟨b, o, eA, hl, h1, h2, h3⟩ := HA.out i lf
        obtain ⟨b', o', eB, hl', h1', h2', h3'⟩ := HB.out i lm
        subst eA eB
        have d1 := (HBW.out.cell (p := ⟨b, o + i * 3, none⟩) hl).trans h1
        have d2 := (HBW.out.cell (p := ⟨b, o + i * 3 + 1, none⟩) hl).trans h2
        have d3 := (HBW.out.cell (p := ⟨b, o + i * 3 + 2, none⟩) hl).trans h3
        have f1 := (HBW.out.cell (p := ⟨b', o' + i * 3, none⟩) hl').trans h1'
        have f2 := (HBW.out.cell (p := ⟨b', o' + i * 3 + 1, none⟩) hl').trans h2'
        have f3 := (HBW.out.cell (p := ⟨b', o' + i * 3 + 2, none⟩) hl').trans h3'
        have TK := Lib.hid (take_eq ns ms i NO.out lf lm)
        have EQ := Lib.hid (eqNd_iff ns[i] ms[i])
        have RN := Lib.hid (show ns = ms → ns[i] = ms[i] from fun e => by subst e; rfl)
        clear h1 h2 h3 h1' h2' h3'
        generalize ns[i] = x at *
        generalize ms[i] = y at *
        obtain ⟨p, f, md⟩ := x
        obtain ⟨q, g, k⟩ := y
        have hE := fun W => neq_node p q f g md k W
        have hG := fun x y W => guard_node .neq x y #[St p, .int .i64 f, .int .i64 md] #[St q, .int .i64 g, .int .i64 k] W
        have EQ2 : Hid (eqNd p q f g md k = decide ((⟨p, f, md⟩ : Nd) = ⟨q, g, k⟩)) := EQ
        generalize eqNd p q f g md k = s at hE EQ2
        go_wp2
        go_quiet (fail)
        go_wp2
        · rename_i hd
          have hs : s = false := by simpa using hd
          go_ret
          have hr : r = false := by
            rw [RE.out]
            refine decide_eq_false (fun e => ?_)
            have h1 := EQ2.out
            rw [hs, decide_eq_true (RN.out e)] at h1
            cases h1
          rw [hr]
          exact ⟨rfl, below_drewN HBW.out _⟩
        · rename_i hd
          have hs : s = true := by simpa using hd
          have hxy : (⟨p, f, md⟩ : Nd) = ⟨q, g, k⟩ := of_decide_eq_true (by rw [← EQ2.out]; exact hs)
          exact ⟨⟨i + 1, by omega, by go_num, TK.out.2 hxy, below_drewN HBW.out _⟩, by first | (simp [intOf]; done) | (simp [intOf]; omega)⟩
      · have li : ¬ (i : Int) < (n : Int) := by omega
        have hr : r = true := by
          rw [RE.out]
          have h1 := NO.out
          rw [List.take_of_length_le (by have := NE.out; omega), List.take_of_length_le (by have := ME.out; omega)] at h1
          exact decide_eq_true h1
        have HR := Lib.hid hr
        clear hr
        go_wp2
        go_ret
        rw [HR.out]
        exact ⟨rfl, HBW.out⟩
  · have hr : decide (ns = ms) = false := decide_eq_false (fun e => hnm (by rw [NE.out, ME.out, e]))
    have hnm2 : ¬ (n : Int) = (m : Int) := by omega
    rw [hr]
    clear hr
    go_enter Try.func35, Try.ntmps35
    go_wp2
    go_ret
    exact ⟨rfl, Below.refl _ _⟩
end Go.Proofs.Ytaanihmbnjjhcaa

/-
What is proved here: slices.EqualFunc of files, by a contract; tree's Same.
-/
set_option linter.unusedSimpArgs false
namespace Go.Proofs.Ytaanihmbnjjhcaa
open Go.Pth Go.Tre Go.RowKit Go.Word Go.Shelf

theorem file_range {w : World} {b o : Nat} {m : Int} {v : Value} (d1 : w.cell? ⟨b, o, none⟩ = some (.int .i64 m)) (d2 : w.cell? ⟨b, o + 1, none⟩ = some v) : w.rangeAt b o [.int .i64 m, v] := fun j u hj => by
  match j, hj with
  | 0, hj => injection hj with hj; subst hj; exact d1
  | 1, hj => injection hj with hj; subst hj; exact d2
  | j + 2, hj => simp at hj
theorem sameFl_iff (x y : Fl) : sameFl x y = decide (x = y) := by
  obtain ⟨m, a⟩ := x
  obtain ⟨k, b⟩ := y
  unfold sameFl same
  by_cases h1 : m = k <;> by_cases h2 : a = b <;> simp [h1, h2]
set_option maxRecDepth 100000 in
set_option maxHeartbeats 4000000 in
theorem equalFiles_any (A B : Option Addr) (c d : Nat) (fs gs : List Fl) (w : World) (hn : fs.length ≤ 1000000) (hA : FilesAt w A fs) (hB : FilesAt w B gs) :
    Calls Try.prog 36 #[.slice A fs.length c, .slice B gs.length d, .func (.func 37) #[] #[]] w fun e w' => e = .returned (.bool (decide (fs = gs))) ∧ Below w.heap.size w w' := by
  obtain ⟨n, hne⟩ : ∃ n, n = fs.length := ⟨_, rfl⟩
  obtain ⟨m, hme⟩ : ∃ m, m = gs.length := ⟨_, rfl⟩
  rw [← hne] at hn ⊢
  rw [← hme]
  have NE := Lib.hid hne
  have ME := Lib.hid hme
  have HA := Lib.hid hA
  have HB := Lib.hid hB
  clear hne hme hA hB
  by_cases hnm : n = m
  · subst hnm
    obtain ⟨r, hr⟩ : ∃ r, r = decide (fs = gs) := ⟨_, rfl⟩
    rw [← hr]
    have RE := Lib.hid hr
    clear hr
    go_enter Try.func36, Try.ntmps36
    go_wp2
    go_loopw [17] (fun v17 wr => ∃ i : Nat, i ≤ n ∧ v17 = .int .i64 (i : Int) ∧ fs.take i = gs.take i ∧ Below w.heap.size w wr) (fun v17 _ => n - (intOf v17).toNat)
    case atStart => exact ⟨0, Nat.zero_le _, rfl, by simp, Below.refl _ _⟩
    case round =>
      obtain ⟨i, hi, rfl, hno, hb⟩ := hrel
      have HBW := Lib.hid hb
      have NO := Lib.hid hno
      clear hb hno
      by_cases hlt : i < n
      · have li : (i : Int) < (n : Int) := by omega
        have lf : i < fs.length := by have := NE.out; omega
        have lm : i < gs.length := by have := ME.out; omega
        obtain ⟨b, o, DA, dc, eA, hl, h1, h2, h3⟩ := HA.out i lf
        obtain ⟨b', o', DB, dd, eB, hl', h1', h2', h3'⟩ := HB.out i lm
        subst eA eB
        have d1 := (HBW.out.cell (p := ⟨b, o + i * 2, none⟩) hl).trans h1
        have d2 := (HBW.out.cell (p := ⟨b, o + i * 2 + 1, none⟩) hl).trans h2
        have f1 := (HBW.out.cell (p := ⟨b', o' + i * 2, none⟩) hl').trans h1'
        have f2 := (HBW.out.cell (p := ⟨b', o' + i * 2 + 1, none⟩) hl').trans h2'
        have TK := Lib.hid (take_eq fs gs i NO.out lf lm)
        have EQ := Lib.hid (sameFl_iff fs[i] gs[i])
        have RN := Lib.hid (show fs = gs → fs[i] = gs[i] from fun e => by subst e; rfl)
        have SF := fun (W : World) (hW : Below w.heap.size w W) => Lib.hid (sameFile_any DA DB dc dd fs[i] gs[i] W (bytesAt_below h3 hW) (bytesAt_below h3' hW))
        clear h1 h2 h1' h2' h3 h3'
        generalize fs[i] = x at *
        generalize gs[i] = y at *
        generalize sameFl x y = s at EQ SF
        obtain ⟨md, a⟩ := x
        obtain ⟨k, e⟩ := y
        change wr.cell? ⟨b, o + i * 2 + 1, none⟩ = some (.slice DA a.length dc) at d2
        change wr.cell? ⟨b', o' + i * 2 + 1, none⟩ = some (.slice DB e.length dd) at f2
        change ∀ W, Below w.heap.size w W → Hid (Calls Try.prog 37 #[.agg #[.int .i64 md, .slice DA a.length dc], .agg #[.int .i64 k, .slice DB e.length dd]] W fun e w' => e = .returned (.bool s) ∧ Below W.heap.size W w') at SF
        have EQ2 : Hid (s = decide ((⟨md, a⟩ : Fl) = ⟨k, e⟩)) := EQ
        have RN2 : Hid (fs = gs → (⟨md, a⟩ : Fl) = ⟨k, e⟩) := RN
        have TK2 : Hid (fs.take (i + 1) = gs.take (i + 1) ↔ (⟨md, a⟩ : Fl) = ⟨k, e⟩) := TK
        generalize a.length = na at *
        generalize e.length = nb at *
        have LM := Lib.hid (file_range d1 d2)
        have d1' : (wr.alloc (.cells #[.int .i64 md, .slice DA na dc] 42)).rangeAt b' (o' + i * 2) [.int .i64 k, .slice DB nb dd] := by
          have hbb : b' < wr.heap.size := Nat.lt_of_lt_of_le hl' HBW.out.size
          exact file_range ((((Below.refl _ wr).alloc (Nat.le_refl _) _).cell (p := ⟨b', o' + i * 2, none⟩) hbb).trans f1) ((((Below.refl _ wr).alloc (Nat.le_refl _) _).cell (p := ⟨b', o' + i * 2 + 1, none⟩) hbb).trans f2)
        have LM2 := Lib.hid d1'
        have LN := Lib.hid (lies_new wr 42 #[.int .i64 0, .slice none 0 0])
        have ES := Lib.hid (setRow_alloc wr 42 #[.int .i64 0, .slice none 0 0] #[.int .i64 md, .slice DA na dc])
        have LN2 : Hid (Lies ((wr.alloc (.cells #[.int .i64 md, .slice DA na dc] 42)).alloc (.cells #[.int .i64 0, .slice none 0 0] 42)) (wr.heap.size + 1) 42 #[.int .i64 0, .slice none 0 0]) := by
          have := lies_new (wr.alloc (.cells #[.int .i64 md, .slice DA na dc] 42)) 42 #[.int .i64 0, .slice none 0 0]
          rw [World.size_alloc] at this
          exact Lib.hid this
        have ES2 : Hid (((wr.alloc (.cells #[.int .i64 md, .slice DA na dc] 42)).alloc (.cells #[.int .i64 0, .slice none 0 0] 42)).setRow (wr.heap.size + 1) #[.int .i64 k, .slice DB nb dd] = (wr.alloc (.cells #[.int .i64 md, .slice DA na dc] 42)).alloc (.cells #[.int .i64 k, .slice DB nb dd] 42)) := by
          have := setRow_alloc (wr.alloc (.cells #[.int .i64 md, .slice DA na dc] 42)) 42 #[.int .i64 0, .slice none 0 0] #[.int .i64 k, .slice DB nb dd]
          rw [World.size_alloc] at this
          exact Lib.hid this
        have L1 := lies_alloc (lies_new wr 42 #[.int .i64 md, .slice DA na dc]) (.cells #[.int .i64 k, .slice DB nb dd] 42)
        have L2 := lies_new (wr.alloc (.cells #[.int .i64 md, .slice DA na dc] 42)) 42 #[.int .i64 k, .slice DB nb dd]
        rw [World.size_alloc] at L2
        have BX := Lib.hid (show Below w.heap.size w ((wr.alloc (.cells #[.int .i64 md, .slice DA na dc] 42)).alloc (.cells #[.int .i64 k, .slice DB nb dd] 42)) from (HBW.out.alloc HBW.out.size _).alloc (by have := HBW.out.size; simp; omega) _)
        have SF2 := SF _ BX.out
        have x0 := lies_cell L1 0
        have x1 := lies_cell L1 1
        have y0 := lies_cell L2 0
        have y1 := lies_cell L2 1
        simp only [List.getElem?_toArray, List.getElem?_cons_zero, List.getElem?_cons_succ] at x0 x1 y0 y1
        clear d1 d2 f1 f2 d1' SF L1 L2 EQ RN TK
        go_wp2_with (first
          | (refine wpList_load_mid rfl 42 _ rfl b (o + i * 2) rfl [.int .i64 md, .slice DA na dc] _ LM.out Try.underlying42 rfl (by kernel_rfl) ?_)
          | (refine wpList_load_mid rfl 42 _ rfl b' (o' + i * 2) rfl [.int .i64 k, .slice DB nb dd] _ LM2.out Try.underlying42 rfl (by kernel_rfl) ?_)
          | (refine wpList_store_row rfl 42 _ _ rfl wr.heap.size #[.int .i64 md, .slice DA na dc] rfl rfl 42 _ LN.out (by kernel_rfl) rfl (by simp [Value.oneCell']) ?_; rw [ES.out])
          | (refine wpList_store_row rfl 42 _ _ rfl (wr.heap.size + 1) #[.int .i64 k, .slice DB nb dd] rfl rfl 42 _ LN2.out (by kernel_rfl) rfl (by simp [Value.oneCell']) ?_; rw [ES2.out])
          | (go_at_call 37; (with_reducible refine SF2.out.mono ?_); rintro e w1 ⟨rfl, hb⟩; have H1 := Lib.hid (BX.out.trans (hb.mono BX.out.size)); clear hb))
        · rename_i hd
          have hs : s = false := by simpa using hd
          go_ret
          have hr : r = false := by
            rw [RE.out]
            refine decide_eq_false (fun e => ?_)
            have h1 := EQ2.out
            rw [hs, decide_eq_true (RN2.out e)] at h1
            cases h1
          rw [hr]
          exact ⟨rfl, H1.out⟩
        · rename_i hd
          have hs : s = true := by simpa using hd
          have hxy : (⟨md, a⟩ : Fl) = ⟨k, e⟩ := of_decide_eq_true (by rw [← EQ2.out]; exact hs)
          exact ⟨⟨i + 1, by omega, by go_num, TK2.out.2 hxy, H1.out⟩, by first | (simp [intOf]; done) | (simp [intOf]; omega)⟩
      · have hr : r = true := by
          rw [RE.out]
          have h1 := NO.out
          rw [List.take_of_length_le (by have := NE.out; omega), List.take_of_length_le (by have := ME.out; omega)] at h1
          exact decide_eq_true h1
        have li : ¬ (i : Int) < (n : Int) := by omega
        have HR := Lib.hid hr
        clear hr
        go_wp2
        go_ret
        rw [HR.out]
        exact ⟨rfl, HBW.out⟩
  · have hr : decide (fs = gs) = false := decide_eq_false (fun e => hnm (by rw [NE.out, ME.out, e]))
    have hnm2 : ¬ (n : Int) = (m : Int) := by omega
    rw [hr]
    clear hr
    go_enter Try.func36, Try.ntmps36
    go_wp2
    go_ret
    exact ⟨rfl, Below.refl _ _⟩

/-- are two trees one, and loose -/
def sameT (ns : List Nd) (fs : List Fl) (ms : List Nd) (gs : List Fl) : Bool := decide (looseE ns fs = 0) && (decide (ns = ms) && decide (fs = gs))
set_option maxRecDepth 100000 in
set_option maxHeartbeats 4000000 in
theorem same_any (NA FA MA GA : Option Addr) (nc fc mc gc : Nat) (ns ms : List Nd) (fs gs : List Fl) (w : World) (hN : NodesAt w NA ns) (hF : FilesAt w FA fs) (hM : NodesAt w MA ms) (hG : FilesAt w GA gs) (hp : ∀ x ∈ ns, x.path.length ≤ 100000) :
    Calls Try.prog 18 #[.agg #[.slice NA ns.length nc, .slice FA fs.length fc], .agg #[.slice MA ms.length mc, .slice GA gs.length gc]] w fun e w' => e = .returned (.bool (sameT ns fs ms gs)) ∧ Below w.heap.size w w' := by
  have L1 := lies_alloc (lies_new w 25 #[.slice NA ns.length nc, .slice FA fs.length fc]) (.cells #[.slice MA ms.length mc, .slice GA gs.length gc] 25)
  have L2 := lies_new (w.alloc (.cells #[.slice NA ns.length nc, .slice FA fs.length fc] 25)) 25 #[.slice MA ms.length mc, .slice GA gs.length gc]
  rw [World.size_alloc] at L2
  have hB : Below w.heap.size w ((w.alloc (.cells #[.slice NA ns.length nc, .slice FA fs.length fc] 25)).alloc (.cells #[.slice MA ms.length mc, .slice GA gs.length gc] 25)) := ((Below.refl _ _).alloc (Nat.le_refl _) _).alloc (by simp) _
  have KL := Lib.hid (loose_any NA FA nc fc ns fs _ (nodesAt_below hN hB) (filesAt_below hF hB) hp)
  have KN := fun (W : World) (hb : Below w.heap.size w W) (h : ns.length ≤ 1000000) => Lib.hid (equalNodes_any NA MA nc mc ns ms W h (nodesAt_below hN hb) (nodesAt_below hM hb))
  have KF := fun (W : World) (hb : Below w.heap.size w W) (h : fs.length ≤ 1000000) => Lib.hid (equalFiles_any FA GA fc gc fs gs W h (filesAt_below hF hb) (filesAt_below hG hb))
  have hs := @loose_small ns fs
  unfold sameT
  generalize looseE ns fs = z at *
  generalize decide (ns = ms) = s at *
  generalize decide (fs = gs) = t at *
  generalize ns.length = n at *
  generalize ms.length = m at *
  generalize fs.length = f at *
  generalize gs.length = g at *
  have x0 := lies_cell L1 0
  have x1 := lies_cell L1 1
  have y0 := lies_cell L2 0
  have y1 := lies_cell L2 1
  simp only [List.getElem?_toArray, List.getElem?_cons_zero, List.getElem?_cons_succ] at x0 x1 y0 y1
  have LX := Lib.hid L1
  have LY := Lib.hid L2
  have HB := Lib.hid hB
  clear L1 L2 hB hN hF hM hG hp
  have after : ∀ W, Below ((w.alloc (.cells #[.slice NA n nc, .slice FA f fc] 25)).alloc (.cells #[.slice MA m mc, .slice GA g gc] 25)).heap.size ((w.alloc (.cells #[.slice NA n nc, .slice FA f fc] 25)).alloc (.cells #[.slice MA m mc, .slice GA g gc] 25)) W →
      Hid (W.cell? ⟨w.heap.size, 0, none⟩ = some (.slice NA n nc) ∧ W.cell? ⟨w.heap.size, 1, none⟩ = some (.slice FA f fc) ∧ W.cell? ⟨w.heap.size + 1, 0, none⟩ = some (.slice MA m mc) ∧ W.cell? ⟨w.heap.size + 1, 1, none⟩ = some (.slice GA g gc)) := fun W hb =>
    Lib.hid ⟨(hb.cell (p := ⟨w.heap.size, 0, none⟩) (lies_lt LX.out)).trans x0, (hb.cell (p := ⟨w.heap.size, 1, none⟩) (lies_lt LX.out)).trans x1, (hb.cell (p := ⟨w.heap.size + 1, 0, none⟩) (lies_lt LY.out)).trans y0, (hb.cell (p := ⟨w.heap.size + 1, 1, none⟩) (lies_lt LY.out)).trans y1⟩
  by_cases hz : z = 0
  · obtain ⟨hn, hf, _⟩ := hs hz
    subst hz
    clear hs
    have e : (decide ((0 : Int) = 0) && (s && t)) = (s && t) := by simp
    rw [e]
    clear e
    cases s with
    | false =>
      rw [Bool.false_and]
      go_enter Try.func18, Try.ntmps18
      go_wp2_with (first
        | (go_at_call 17; (with_reducible refine KL.out.mono ?_); rintro e w1 ⟨rfl, hb⟩; obtain ⟨q0, q1, q2, q3⟩ := (after w1 hb).out; have B1 := Lib.hid (HB.out.trans (hb.mono HB.out.size)); clear hb)
        | (go_at_call 35; (with_reducible refine (KN _ B1.out (by omega)).out.mono ?_); rintro e w2 ⟨rfl, hb⟩; have B2 := Lib.hid (B1.out.trans (hb.mono B1.out.size)); clear hb))
      go_ret
      exact ⟨rfl, B2.out⟩
    | true =>
      rw [Bool.true_and]
      go_enter Try.func18, Try.ntmps18
      go_wp2_with (first
        | (go_at_call 17; (with_reducible refine KL.out.mono ?_); rintro e w1 ⟨rfl, hb⟩; obtain ⟨q0, q1, q2, q3⟩ := (after w1 hb).out; have B01 := Lib.hid hb; have B1 := Lib.hid (HB.out.trans (hb.mono HB.out.size)); clear hb)
        | (go_at_call 35; (with_reducible refine (KN _ B1.out (by omega)).out.mono ?_); rintro e w2 ⟨rfl, hb⟩; obtain ⟨p0, p1, p2, p3⟩ := (after w2 (B01.out.trans (hb.mono B01.out.size))).out; have B2 := Lib.hid (B1.out.trans (hb.mono B1.out.size)); clear hb)
        | (go_at_call 36; (with_reducible refine (KF _ B2.out (by omega)).out.mono ?_); rintro e w3 ⟨rfl, hb⟩; have B3 := Lib.hid (B2.out.trans (hb.mono B2.out.size)); clear hb))
      go_ret
      exact ⟨rfl, B3.out⟩
  · have e : (decide (z = 0) && (s && t)) = false := by simp [hz]
    have hz2 : (z == 0) = false := by simpa using hz
    rw [e]
    clear e hs
    go_enter Try.func18, Try.ntmps18
    go_wp2_with (go_at_call 17; (with_reducible refine KL.out.mono ?_); rintro e w1 ⟨rfl, hb⟩; have B1 := Lib.hid (HB.out.trans (hb.mono HB.out.size)); clear hb)
    go_ret
    exact ⟨rfl, B1.out⟩
end Go.Proofs.Ytaanihmbnjjhcaa

/-
What is proved here: the document's own mode, Big and Find, by contracts.
-/
set_option linter.unusedSimpArgs false
namespace Go.Proofs.Ytaanihmbnjjhcaa
open Go.Pth Go.Tre Go.RowKit Go.Word Go.Shelf
attribute [local go_sem] guard_eq st_eql

theorem mode_ref (m : Int) (w : World) : Calls Try.prog 54 #[.int .i64 m] w fun e w' => e = .returned (.bool (okMode m)) ∧ w = w' := by
  by_cases h1 : 0 ≤ m
  · by_cases h2 : m ≤ 511
    · have hr : okMode m = true := decide_eq_true ⟨h1, h2⟩
      rw [hr]
      clear hr
      go_enter Try.func54, Try.ntmps54
      go_wp2
      go_ret
      exact ⟨rfl, rfl⟩
    · have hr : okMode m = false := decide_eq_false (by omega)
      rw [hr]
      clear hr
      go_enter Try.func54, Try.ntmps54
      go_wp2
      go_ret
      exact ⟨rfl, rfl⟩
  · have hr : okMode m = false := decide_eq_false (by omega)
    rw [hr]
    clear hr
    go_enter Try.func54, Try.ntmps54
    go_wp2
    go_ret
    exact ⟨rfl, rfl⟩
/-- the place of a path, -1 if there is none -/
def findI (ns : List Nd) (p : Bt) : Int := if ns.findIdx (fun x => same x.path p) < ns.length then (ns.findIdx (fun x => same x.path p) : Int) else -1
theorem findI_at (ns : List Nd) (p : Bt) (i : Nat) (h : i < ns.length) (h1 : same ns[i].path p = true) (h2 : ∀ j (hj : j < i), same (ns[j]'(by omega)).path p = false) : findI ns p = i := by
  have e : ns.findIdx (fun x => same x.path p) = i := (List.findIdx_eq h).2 ⟨h1, fun j hj => by rw [h2 j hj]⟩
  unfold findI
  rw [e, if_pos h]
theorem findI_no (ns : List Nd) (p : Bt) (h2 : ∀ j (hj : j < ns.length), same ns[j].path p = false) : findI ns p = -1 := by
  unfold findI
  rw [if_neg]
  intro h
  have := List.findIdx_getElem (w := h)
  rw [h2 _ h] at this
  cases this
set_option maxRecDepth 100000 in
set_option maxHeartbeats 4000000 in
theorem find_ref (NA FA : Option Addr) (nc fc : Nat) (ns : List Nd) (k : Nat) (p : Bt) (w : World) (hn : ns.length ≤ 1000000) (hN : NodesAt w NA ns) :
    Calls Try.prog 53 #[.agg #[.slice NA ns.length nc, .slice FA k fc], St p] w fun e w' => e = .returned (.int .i64 (findI ns p)) ∧ Below w.heap.size w w' := by
  obtain ⟨n, hne⟩ : ∃ n, n = ns.length := ⟨_, rfl⟩
  rw [← hne] at hn ⊢
  have NE := Lib.hid hne
  obtain ⟨r, hr⟩ : ∃ r, r = findI ns p := ⟨_, rfl⟩
  rw [← hr]
  have RE := Lib.hid hr
  clear hne hr
  have L := lies_new w 25 #[.slice NA n nc, .slice FA k fc]
  have hB : Below w.heap.size w (w.alloc (.cells #[.slice NA n nc, .slice FA k fc] 25)) := (Below.refl _ _).alloc (Nat.le_refl _) _
  have HN := Lib.hid (nodesAt_below hN hB)
  have c0 : (w.alloc (.cells #[.slice NA n nc, .slice FA k fc] 25)).cell? ⟨w.heap.size, 0, none⟩ = some (.slice NA n nc) := lies_cell L 0
  have HB := Lib.hid hB
  clear L hB hN
  go_enter Try.func53, Try.ntmps53
  go_wp2
  generalize w.alloc (.cells #[.slice NA n nc, .slice FA k fc] 25) = X at *
  go_loopw [5] (fun v5 wr => ∃ i : Nat, i ≤ n ∧ v5 = .int .i64 (i : Int) ∧ (∀ j (hj : j < i) (hl : j < ns.length), same ns[j].path p = false) ∧ wr = X) (fun v5 _ => n - (intOf v5).toNat)
  case atStart => exact ⟨0, Nat.zero_le _, rfl, fun j hj => by omega, rfl⟩
  case round =>
    obtain ⟨i, hi, rfl, hno, rfl⟩ := hrel
    have NO := Lib.hid hno
    clear hno
    by_cases hlt : i < n
    · have li : (i : Int) < (n : Int) := by omega
      have lf : i < ns.length := by have := NE.out; omega
      obtain ⟨b, o, eA, hl, h1, h2, h3⟩ := HN.out i lf
      subst eA
      have FA1 := Lib.hid (fun h => findI_at ns p i lf h (fun j hj => NO.out j hj (by omega)))
      have ST := Lib.hid (show same ns[i].path p = false → ∀ j (hj : j < i + 1) (hl : j < ns.length), same ns[j].path p = false from fun h j hj hl => by
        rcases Nat.lt_or_ge j i with hji | hji
        · exact NO.out j hji hl
        · obtain rfl : j = i := by omega
          exact h)
      clear h2 h3
      obtain ⟨q, hq⟩ : ∃ q, q = ns[i].path := ⟨_, rfl⟩
      rw [← hq] at h1
      have FA2 : Hid (same q p = true → findI ns p = (i : Int)) := by rw [hq]; exact FA1
      have ST2 : Hid (same q p = false → ∀ j (hj : j < i + 1) (hl : j < ns.length), same ns[j].path p = false) := by rw [hq]; exact ST
      clear hq FA1 ST
      go_wp2
      · rename_i hd
        go_ret
        rw [RE.out, FA2.out hd]
        exact ⟨rfl, HB.out⟩
      · rename_i hd
        exact ⟨⟨i + 1, by omega, by go_num, ST2.out (by simpa using hd), trivial⟩, by first | (simp [intOf]; done) | (simp [intOf]; omega)⟩
    · have li : ¬ (i : Int) < (n : Int) := by omega
      have hr : r = -1 := by rw [RE.out]; exact findI_no ns p (fun j hj => NO.out j (by have := NE.out; omega) hj)
      have HR := Lib.hid hr
      clear hr
      go_wp2
      go_ret
      rw [HR.out]
      exact ⟨rfl, HB.out⟩
set_option maxRecDepth 100000 in
set_option maxHeartbeats 4000000 in
theorem big_ref (NA FA : Option Addr) (nc fc : Nat) (n : Nat) (fs : List Fl) (w : World) (hF : FilesAt w FA fs) :
    Calls Try.prog 27 #[.agg #[.slice NA n nc, .slice FA fs.length fc]] w fun e w' => e = .returned (.bool (tooB n fs)) ∧ Below w.heap.size w w' := by
  obtain ⟨m, hme⟩ : ∃ m, m = fs.length := ⟨_, rfl⟩
  rw [← hme]
  have ME := Lib.hid hme
  obtain ⟨r, hr⟩ : ∃ r, r = tooB n fs := ⟨_, rfl⟩
  rw [← hr]
  have RE := Lib.hid hr
  clear hme hr
  have L := lies_new w 25 #[.slice NA n nc, .slice FA m fc]
  have hB : Below w.heap.size w (w.alloc (.cells #[.slice NA n nc, .slice FA m fc] 25)) := (Below.refl _ _).alloc (Nat.le_refl _) _
  have HF := Lib.hid (filesAt_below hF hB)
  have c0 : (w.alloc (.cells #[.slice NA n nc, .slice FA m fc] 25)).cell? ⟨w.heap.size, 0, none⟩ = some (.slice NA n nc) := lies_cell L 0
  have c1 : (w.alloc (.cells #[.slice NA n nc, .slice FA m fc] 25)).cell? ⟨w.heap.size, 1, none⟩ = some (.slice FA m fc) := lies_cell L 1
  have HB := Lib.hid hB
  clear L hB hF
  by_cases h1 : 256 < n
  · have l1 : (256 : Int) < (n : Int) := by omega
    have HR := Lib.hid (show r = true by rw [RE.out]; simp [tooB, h1])
    go_enter Try.func27, Try.ntmps27
    go_wp2
    go_ret
    rw [HR.out]
    exact ⟨rfl, HB.out⟩
  · have l1 : ¬ (256 : Int) < (n : Int) := by omega
    by_cases h2 : 256 < m
    · have l2 : (256 : Int) < (m : Int) := by omega
      have HR := Lib.hid (show r = true by have := ME.out; rw [RE.out]; simp [tooB, ← this, h2])
      go_enter Try.func27, Try.ntmps27
      go_wp2
      go_ret
      rw [HR.out]
      exact ⟨rfl, HB.out⟩
    · have l2 : ¬ (256 : Int) < (m : Int) := by omega
      have HR := Lib.hid (show r = anyGreat fs by have := ME.out; rw [RE.out]; simp [tooB, ← this, h1, h2])
      go_enter Try.func27, Try.ntmps27
      go_wp2
      generalize w.alloc (.cells #[.slice NA n nc, .slice FA m fc] 25) = X at *
      go_loopw [3] (fun v3 wr => ∃ i : Nat, i ≤ m ∧ v3 = .int .i64 (i : Int) ∧ (fs.take i).any (fun x => decide (8192 < x.data.length)) = false ∧ wr = X) (fun v3 _ => m - (intOf v3).toNat)
      case atStart => exact ⟨0, Nat.zero_le _, rfl, by simp, rfl⟩
      case round =>
        obtain ⟨i, hi, rfl, hno, rfl⟩ := hrel
        have NO := Lib.hid hno
        clear hno
        by_cases hlt : i < m
        · have li : (i : Int) < (m : Int) := by omega
          have lf : i < fs.length := by have := ME.out; omega
          obtain ⟨b, o, DA, dc, eA, hl, d1, d2, d3⟩ := HF.out i lf
          subst eA
          have HT := Lib.hid (show (fs.take (i + 1)).any (fun x => decide (8192 < x.data.length)) = decide (8192 < fs[i].data.length) by
            rw [List.take_succ_eq_append_getElem lf, List.any_append, NO.out]; simp)
          have HA := Lib.hid (show 8192 < fs[i].data.length → anyGreat fs = true from fun h => List.any_eq_true.2 ⟨_, List.getElem_mem _, by simpa using h⟩)
          clear d1 d3
          generalize fs[i].data.length = k at *
          by_cases hk : 8192 < k
          · have lk : (8192 : Int) < (k : Int) := by omega
            go_wp2
            go_ret
            rw [HR.out, HA.out hk]
            exact ⟨rfl, HB.out⟩
          · have lk : ¬ (8192 : Int) < (k : Int) := by omega
            go_wp2
            go_roundw
            case rel => exact ⟨i + 1, by omega, by go_num, HT.out.trans (decide_eq_false hk), trivial⟩
            case measure => first | (simp [intOf]; done) | (simp [intOf]; omega)
        · have li : ¬ (i : Int) < (m : Int) := by omega
          have HZ := Lib.hid (show anyGreat fs = false by
            have := NO.out
            rw [List.take_of_length_le (by have := ME.out; omega)] at this
            exact this)
          go_wp2
          go_ret
          rw [HR.out, HZ.out]
          exact ⟨rfl, HB.out⟩
end Go.Proofs.Ytaanihmbnjjhcaa

/-
What is proved here: tree.Find, by a contract.
-/
set_option linter.unusedSimpArgs false
namespace Go.Tre
open Go.Pth Go.Proofs.Ytaanihmbnjjhcaa
/-- what Find tells -/
def lookI (ns : List Nd) (fs : List Fl) (p : Bt) : Int := if looseE ns fs = 0 then findI ns p else -1
theorem nodesL_get (ns : List Nd) (j : Nat) (h : j < ns.length) : (nodesL ns)[j]? = some (ndK j ns[j]) := by
  unfold nodesL nodesTo
  simp [h, List.getD_eq_getElem?_getD]
theorem seq_no (ns : List Nd) (fs : List Fl) (p : Bt) (hp : ∀ x ∈ ns, x.path.length ≤ 100000) (h : ∀ x ∈ seqL ns fs, same x.1.2.path p = false) : lookI ns fs p = -1 := by
  unfold lookI
  by_cases hz : looseE ns fs = 0
  · rw [if_pos hz]
    refine findI_no ns p (fun j hj => ?_)
    have h1 := h (ndK j ns[j]) (by
      unfold seqL
      rw [if_pos hz]
      exact List.mem_of_getElem? (nodesL_get ns j hj))
    rw [ndK_val j ns[j] (by have := (loose_small hz).1; omega) (hp _ (List.getElem_mem hj))] at h1
    exact h1
  · rw [if_neg hz]
theorem seq_at (ns : List Nd) (fs : List Fl) (p : Bt) (pre : List NdK) (x : NdK) (hp : ∀ x ∈ ns, x.path.length ≤ 100000) (hpre : pre ++ [x] <+: seqL ns fs) (h : ∀ y ∈ pre, same y.1.2.path p = false) (h2 : same x.1.2.path p = true) : lookI ns fs p = (x.1.1 : Int) := by
  unfold lookI
  obtain ⟨t, ht⟩ := hpre
  by_cases hz : looseE ns fs = 0
  · rw [if_pos hz]
    unfold seqL at ht
    rw [if_pos hz] at ht
    have hn := (loose_small hz).1
    have hl : (nodesL ns).length = ns.length := nodesTo_len _ _
    have hlen : pre.length < ns.length := by rw [← hl, ← ht]; simp
    have at_ : ∀ j (hj : j < ns.length), (ndK j ns[j]).1 = (j, ns[j]) := fun j hj => ndK_val j ns[j] (by omega) (hp _ (List.getElem_mem hj))
    have hx : x = ndK pre.length ns[pre.length] := by
      have := nodesL_get ns pre.length hlen
      rw [← ht, List.append_assoc, List.getElem?_append_right (Nat.le_refl _)] at this
      simpa using this
    rw [hx, at_ _ hlen] at h2
    rw [hx, at_ _ hlen]
    refine findI_at ns p pre.length hlen h2 (fun j hj => ?_)
    have hj2 : j < ns.length := by omega
    have hy : pre[j]'hj = ndK j ns[j] := by
      have := nodesL_get ns j hj2
      rw [← ht, List.append_assoc, List.getElem?_append_left hj, List.getElem?_eq_getElem hj] at this
      simpa using this
    have := h _ (List.getElem_mem hj)
    rw [hy, at_ _ hj2] at this
    exact this
  · unfold seqL at ht
    rw [if_neg hz] at ht
    simp at ht
end Go.Tre
namespace Go.Proofs.Ytaanihmbnjjhcaa
open Go.Pth Go.Tre Go.RowKit Go.Word Go.Shelf
attribute [local go_sem] Oper.semAt_some guard_eq guard_ne st_eql

/-- no node of these has the path -/
def NoneOf (p : Bt) (pre : List NdK) : Prop := ∀ x ∈ pre, same x.1.2.path p = false
/-- the last of these has the path, and its place lies in the block -/
def Hit (p : Bt) (B : Nat) (pre : List NdK) (W : World) : Prop := ∃ pr x, pre = pr ++ [x] ∧ NoneOf p pr ∧ same x.1.2.path p = true ∧ Boxed W B 3 (.int .i64 (x.1.1 : Int))
theorem lies_own (B : Nat) (t : TypeId) (cs : Array Value) {X Y : World} {row : Option Nat} (h : Lies X B t cs) (hg : X.grownBy Y row) (hr : ∀ r, row = some r → ∃ o : Obj, X.heap[r]? = some o ∧ o.isCells = false) : Lies Y B t cs :=
  (hg.block B (lies_lt h) (fun e => by
    obtain ⟨o, ho, hc⟩ := hr B e.symm
    unfold Lies at h
    rw [h] at ho
    injection ho with ho
    subst ho
    cases hc)).trans h
end Go.Proofs.Ytaanihmbnjjhcaa

/-
What is proved here: the two things that a path of a tree is asked for, by contracts.
-/
set_option linter.unusedSimpArgs false
namespace Go.Proofs.Ytaanihmbnjjhcaa
open Go.Pth Go.Tre Go.RowKit Go.Word Go.Shelf
attribute [local go_sem] guard_eq guard_ne st_eql

end Go.Proofs.Ytaanihmbnjjhcaa
