/-
What is proved here: several texts in one (Alv, Opt, Opw, Cpn): each says what it is about.
-/
import Derived.Test.YtaanihmbnjjhcaaMa6
import Derived.Lib.SlBytesConst
import Derived.Test.YtaanihmbnjjhcaaMa3
import Derived.Deep.SlicePairs
import Derived.ChangeArms
import Derived.ChangeSlices
import Derived.ChangeSame
import Derived.SizedLaws
import Derived.Test.YtaanihmbnjjhcaaMa11
/-
What is proved here: the law's own look at answers that the document fixes, and num, by contracts.
-/
set_option linter.unusedSimpArgs false
namespace Go.Proofs.Ytaanihmbnjjhcaa
open Go.Pth Go.Tre Go.RowKit Go.Word Go.Shelf Go.Fl

theorem num_any (z : Int) (w : World) : Calls Try.prog 13 #[.int .i64 z] w fun e w' => e = .returned (.int .i64 z) ∧ w = w' := by
  go_enter Try.func13, Try.ntmps13
  go_wp2
  go_ret
  exact ⟨rfl, rfl⟩
def aNs : List Nd := [⟨[97], -1, 493⟩, ⟨[98], 0, 0⟩]
def aFs : List Fl := [⟨420, [104, 105]⟩]
theorem a_loose : looseE aNs aFs = 0 := by decide +kernel
theorem a_check : checkE aNs aFs = 0 := by decide +kernel
theorem a_weight : weightB aNs aFs = 3 ∧ weightI aNs aFs = 3 := by decide +kernel

theorem rep_three : Rep 4613937818241073152 3 := ⟨false, 51, by decide +kernel, by decide⟩
theorem order_same {x y : Nat} {a : Int} (hx : Rep x a) (hy : Rep y a) : FloatKind.f64.format.order x y = some .eq := by
  rw [order_rep hx hy]
  exact congrArg some (Int.compare_eq_eq.2 rfl)
set_option maxRecDepth 100000 in
theorem alive_any (w : World) : Calls Try.prog 8 #[] w fun e w' => e = .returned (.bool true) ∧ Below w.heap.size w w' := by
  go_enter Try.func8, Try.ntmps8
  have kc := Lib.run_convert_bytes_const (P := Try.prog) (w.alloc (.cells #[.string { data := #[97] }, .int .i64 (-1), .int .i64 493, .string { data := #[98] }, .int .i64 0, .int .i64 0] 39)) 40 5 #[.int .u8 104, .int .u8 105] 2 2 Try.underlying40 Try.underlying5
  rw [World.size_alloc] at kc
  have kc : (convert 40 40 (.slice (some ⟨w.heap.size + 1, 0, none⟩) 2 2)).run Try.prog ((w.alloc (.cells #[.string { data := #[97] }, .int .i64 (-1), .int .i64 493, .string { data := #[98] }, .int .i64 0, .int .i64 0] 39)).alloc (.cells #[.int .u8 104, .int .u8 105] 5)) = .ok (.slice (some ⟨w.heap.size + 1, 0, none⟩) 2 2) ((w.alloc (.cells #[.string { data := #[97] }, .int .i64 (-1), .int .i64 493, .string { data := #[98] }, .int .i64 0, .int .i64 0] 39)).alloc (.cells #[.int .u8 104, .int .u8 105] 5 (2, 3))) := kc
  go_upto_region 2 with (fail)
  obtain ⟨X, hX⟩ : ∃ X, X = (((w.alloc (.cells #[St [97], .int .i64 (-1), .int .i64 493, St [98], .int .i64 0, .int .i64 0] 39)).alloc (.cells #[.int .u8 104, .int .u8 105] 5 (2, 3))).alloc (.cells #[.int .i64 420, .slice (some ⟨w.heap.size + 1, 0, none⟩) 2 2] 42)).alloc (.cells #[.slice (some ⟨w.heap.size, 0, none⟩) 2 2, .slice (some ⟨w.heap.size + 1 + 1, 0, none⟩) 1 1] 25) := ⟨_, rfl⟩
  change Code.wp _ _ _ _ ((((w.alloc (.cells #[St [97], .int .i64 (-1), .int .i64 493, St [98], .int .i64 0, .int .i64 0] 39)).alloc (.cells #[.int .u8 104, .int .u8 105] 5 (2, 3))).alloc (.cells #[.int .i64 420, .slice (some ⟨w.heap.size + 1, 0, none⟩) 2 2] 42)).alloc (.cells #[.slice (some ⟨w.heap.size, 0, none⟩) 2 2, .slice (some ⟨w.heap.size + 1 + 1, 0, none⟩) 1 1] 25))
  rw [← hX]
  have z1 : (w.alloc (.cells #[St [97], .int .i64 (-1), .int .i64 493, St [98], .int .i64 0, .int .i64 0] 39)).heap.size = w.heap.size + 1 := by simp
  have LN : Lies X w.heap.size 39 #[St [97], .int .i64 (-1), .int .i64 493, St [98], .int .i64 0, .int .i64 0] := by
    rw [hX]; exact lies_alloc (lies_alloc (lies_alloc (lies_new w 39 _) _) _) _
  have LB : ∀ i v, (#[.int .u8 104, .int .u8 105] : Array Value)[i]? = some v → X.cell? ⟨w.heap.size + 1, i, none⟩ = some v := fun i v h => by
    have h0 : ((w.alloc (.cells #[St [97], .int .i64 (-1), .int .i64 493, St [98], .int .i64 0, .int .i64 0] 39)).alloc (.cells #[.int .u8 104, .int .u8 105] 5 (2, 3))).heap[w.heap.size + 1]? = some (.cells #[.int .u8 104, .int .u8 105] 5 (2, 3)) := by
      have := heap_alloc_new (w.alloc (.cells #[St [97], .int .i64 (-1), .int .i64 493, St [98], .int .i64 0, .int .i64 0] 39)) (.cells #[.int .u8 104, .int .u8 105] 5 (2, 3))
      rw [World.size_alloc] at this
      exact this
    have h1 : X.heap[w.heap.size + 1]? = some (.cells #[.int .u8 104, .int .u8 105] 5 (2, 3)) := by
      rw [hX]
      exact (Below.heap_alloc _ _ _ (by simp)).trans ((Below.heap_alloc _ _ _ (by simp)).trans h0)
    exact (cell_of_row X (w.heap.size + 1) i _ 5 (2, 3) h1).trans h
  have LF : Lies X (w.heap.size + 1 + 1) 42 #[.int .i64 420, .slice (some ⟨w.heap.size + 1, 0, none⟩) 2 2] := by
    rw [hX]
    have := lies_new ((w.alloc (.cells #[St [97], .int .i64 (-1), .int .i64 493, St [98], .int .i64 0, .int .i64 0] 39)).alloc (.cells #[.int .u8 104, .int .u8 105] 5 (2, 3))) 42 #[.int .i64 420, .slice (some ⟨w.heap.size + 1, 0, none⟩) 2 2]
    rw [World.size_alloc, World.size_alloc] at this
    exact lies_alloc this _
  have LT : Lies X (w.heap.size + 1 + 1 + 1) 25 #[.slice (some ⟨w.heap.size, 0, none⟩) 2 2, .slice (some ⟨w.heap.size + 1 + 1, 0, none⟩) 1 1] := by
    rw [hX]
    have := lies_new (((w.alloc (.cells #[St [97], .int .i64 (-1), .int .i64 493, St [98], .int .i64 0, .int .i64 0] 39)).alloc (.cells #[.int .u8 104, .int .u8 105] 5 (2, 3))).alloc (.cells #[.int .i64 420, .slice (some ⟨w.heap.size + 1, 0, none⟩) 2 2] 42)) 25 #[.slice (some ⟨w.heap.size, 0, none⟩) 2 2, .slice (some ⟨w.heap.size + 1 + 1, 0, none⟩) 1 1]
    rw [World.size_alloc, World.size_alloc, World.size_alloc] at this
    exact this
  have HB := Lib.hid (show Below w.heap.size w X by
    rw [hX]
    exact ((((Below.refl _ w).alloc (Nat.le_refl _) _).alloc (by simp) _).alloc (by simp; omega) _).alloc (by simp; omega) _)
  have nX := lies_lt LT
  have hN : NodesAt X (some ⟨w.heap.size, 0, none⟩) aNs := fun i hi => by
    match i, hi with
    | 0, _ => exact ⟨_, _, rfl, by omega, lies_cell LN 0, lies_cell LN 1, lies_cell LN 2⟩
    | 1, _ => exact ⟨_, _, rfl, by omega, lies_cell LN 3, lies_cell LN 4, lies_cell LN 5⟩
  have hF : FilesAt X (some ⟨w.heap.size + 1 + 1, 0, none⟩) aFs := fun i hi => by
    match i, hi with
    | 0, _ => exact ⟨_, _, some ⟨w.heap.size + 1, 0, none⟩, 2, rfl, by omega, lies_cell LF 0, lies_cell LF 1, fun j hj => by
        match j, hj with
        | 0, _ => exact ⟨_, _, rfl, by omega, LB 0 _ rfl⟩
        | 1, _ => exact ⟨_, _, rfl, by omega, LB 1 _ rfl⟩⟩
  have hp : ∀ x ∈ aNs, x.path.length ≤ 100000 := by decide
  have LH := Lib.hid LT
  have HN := Lib.hid hN
  have HF := Lib.hid hF
  have HP := Lib.hid hp
  have A : Hid (Calls Try.prog 22 #[.agg #[.slice (some ⟨w.heap.size, 0, none⟩) 2 2, .slice (some ⟨w.heap.size + 1 + 1, 0, none⟩) 1 1]] X fun e w' => e = .returned (.int .i64 0) ∧ Below X.heap.size X w') := by
    have := check_any _ _ 2 1 aNs aFs X hN hF hp
    rw [a_check] at this
    exact Lib.hid this
  have d0 : X.cell? ⟨w.heap.size + 1 + 1 + 1, 0, none⟩ = some (.slice (some ⟨w.heap.size, 0, none⟩) 2 2) := lies_cell LT 0
  have d1 : X.cell? ⟨w.heap.size + 1 + 1 + 1, 1, none⟩ = some (.slice (some ⟨w.heap.size + 1 + 1, 0, none⟩) 1 1) := lies_cell LT 1
  clear kc hX z1 LN LB LF LT hN hF hp
  have go36 : ∀ W, Below X.heap.size X W → Hid (Calls Try.prog 23 #[.agg #[.slice (some ⟨w.heap.size, 0, none⟩) 2 2, .slice (some ⟨w.heap.size + 1 + 1, 0, none⟩) 1 1]] W fun e w' => (∃ x y, e = .returned (.tuple #[.complex .f64 x y, .int .i64 0]) ∧ Rep x 3 ∧ Rep y 3) ∧ Below W.heap.size W w') := fun W hb => by
    have := weight_any _ _ 2 1 aNs aFs W (nodesAt_below HN.out hb) (filesAt_below HF.out hb) HP.out a_loose
    rw [a_weight.1, a_weight.2] at this
    exact Lib.hid this
  go_wp2_with (first
    | (go_at_call 22; (with_reducible refine A.out.mono ?_); rintro e w1 ⟨rfl, hb⟩; have H1 := Lib.hid hb; have d2 := (hb.cell (p := ⟨w.heap.size + 1 + 1 + 1, 0, none⟩) nX).trans d0; have d3 := (hb.cell (p := ⟨w.heap.size + 1 + 1 + 1, 1, none⟩) nX).trans d1; clear hb)
    | (go_at_call 23; (with_reducible refine (go36 _ H1.out).out.mono ?_); rintro e w2 ⟨⟨x, y, rfl, hx, hy⟩, hb⟩; have H2 := Lib.hid hb; have o1 := order_same hx rep_three; have o2 := order_same hy rep_three; clear hb hx hy)
    | (go_at_call 13; (with_reducible refine (num_any _ _).mono ?_); rintro e w3 ⟨rfl, rfl⟩))
  go_ret
  exact ⟨rfl, HB.out.trans ((H1.out.mono HB.out.size).trans (H2.out.mono (Nat.le_trans HB.out.size H1.out.size)))⟩
end Go.Proofs.Ytaanihmbnjjhcaa

/-
What is proved here: a tree that came in, as a row of this seat gives it: its nodes and its files.
-/
set_option linter.unusedSimpArgs false
namespace Go.Proofs.Ytaanihmbnjjhcaa
open Go.Pth Go.Tre Go.Word Go.ChangeShapes Go.WideShapes Go.ChangeAt Go.RowKit Go.Deep

section
variable {H : Type} {enc : TypeId × Value → H}
theorem cells3 : Try.prog.cellsOf 3 = 1 := by kernel_rfl
theorem cells5 : Try.prog.cellsOf 5 = 1 := by kernel_rfl
theorem cells9 : Try.prog.cellsOf 9 = 1 := by kernel_rfl
theorem cells22 : Try.prog.cellsOf 22 = 1 := by kernel_rfl
theorem cells23 : Try.prog.cellsOf 23 = 1 := by kernel_rfl
theorem cells47 : Try.prog.cellsOf 39 = 3 := by kernel_rfl
theorem cells48 : Try.prog.cellsOf 40 = 1 := by kernel_rfl
theorem cells50 : Try.prog.cellsOf 42 = 2 := by kernel_rfl
def byteOf (z : Int) : UInt8 := UInt8.ofNat z.toNat
theorem byteOf_y {z : Int} (h : (Lit.int .u8 z).wf = true) : ((byteOf z).toNat : Int) = z := by
  simp only [Lit.wf, IntKind.min, IntKind.max, IntKind.signed, IntKind.bits, Bool.and_eq_true, decide_eq_true_eq] at h
  unfold byteOf
  simp at h ⊢
  omega
theorem open_bytes_cell {W : World} {base : Nat} {fuel : Nat} {v : Value} {x : DataW H × List MemPlace} (hf : DataW.trod enc Try.prog W base (fun _ => true) true fuel 40 [v] = some x) :
    ∃ (A : Option Addr) (c : Nat) (l : Bt), v = .slice A l.length c ∧ BytesAt W A l := by
  rcases open_ints Try.underlying40 Try.underlying5 cells5 hf with ⟨hcs, _⟩ | ⟨a, len', cap', zs, hcs, _, hl, hm, hz, _, hcell, hwz⟩
  · injection hcs with hcs
    exact ⟨none, 0, [], hcs, fun i hi => absurd hi (Nat.not_lt_zero _)⟩
  · injection hcs with hcs
    simp only [if_true] at hz
    have hlen : ((zs.take len').map byteOf).length = len' := by simp; omega
    refine ⟨some a, cap', (zs.take len').map byteOf, by rw [hlen]; exact hcs, fun i hi => ?_⟩
    rw [hlen] at hi
    obtain ⟨b, off, spot⟩ := a
    have hspot : spot = none := by simpa [Addr.add] using World.cell?_spot (hcell 0 (by omega))
    subst hspot
    have hc := hcell i (by omega)
    rw [Addr.add_mid] at hc
    refine ⟨b, off, rfl, block_lt_of_cell hc, ?_⟩
    have hj' : i < zs.length := by omega
    have e : zs.getD i 0 = zs[i] := by simp [List.getD_eq_getElem?_getD, List.getElem?_eq_getElem hj']
    rw [hc, e]
    simp only [List.getElem_map, List.getElem_take]
    rw [byteOf_y (hwz _ (List.getElem_mem hj'))]
set_option maxRecDepth 100000 in
theorem open_nodes_cell {W : World} {base : Nat} {fuel : Nat} {v : Value} {x : DataW H × List MemPlace} (hf : DataW.trod enc Try.prog W base (fun _ => true) true fuel 22 [v] = some x) :
    ∃ (A : Option Addr) (c : Nat) (ns : List Nd), v = .slice A ns.length c ∧ NodesAt W A ns := by
  rcases open_slice Try.underlying22 hf with ⟨hcs, _⟩ | ⟨a, len', cap', m, n, D, Pl, hcs, hb, hl, hm, hmm, _, hx⟩
  · injection hcs with hcs
    exact ⟨none, 0, [], hcs, fun i hi => absurd hi (Nat.not_lt_zero _)⟩
  · injection hcs with hcs
    simp only [if_true] at hmm
    have hspot : 0 < m → a.spot = none := fun h0 => by
      obtain ⟨cs0, q1, _⟩ := hx 0 h0
      rw [cells47] at q1
      obtain ⟨_, ql, qc⟩ := World.cells?_some q1
      have q0 := qc 0 (by omega)
      have e : (a.add (0 * 3)).add 0 = a := by simp [Addr.add]
      rw [e, List.getElem?_eq_getElem (by omega)] at q0
      exact World.cell?_spot q0
    have each : ∀ i, i < len' → ∃ q : Nd, ∃ b o, some a = some ⟨b, o, none⟩ ∧ b < W.heap.size ∧
        W.cell? ⟨b, o + i * 3, none⟩ = some (St q.path) ∧ W.cell? ⟨b, o + i * 3 + 1, none⟩ = some (.int .i64 q.file) ∧ W.cell? ⟨b, o + i * 3 + 2, none⟩ = some (.int .i64 q.mode) := by
      intro i hi
      have hsp := hspot (by omega)
      obtain ⟨cs', h1, h2⟩ := hx i (by omega)
      rw [cells47] at h1
      obtain ⟨_, hlen, hcell⟩ := World.cells?_some h1
      obtain ⟨xs, k, hk, hxy, _, hxl, hf⟩ := DataW.trod_struct Try.underlying39 h2
      match xs, hxl, cs', hlen with
      | [y0, y1, y2], _, [v0, v1, v2], _ =>
        have g0 := hf 0 _ rfl
        have g1 := hf 1 _ rfl
        have g2 := hf 2 _ rfl
        simp [cells3, cells9] at g0 g1 g2
        have e0 := hcell 0 (by omega)
        have e1 := hcell 1 (by omega)
        have e2 := hcell 2 (by omega)
        obtain ⟨st, c0, _, _⟩ := DataW.trod_string Try.underlying9 g0
        obtain ⟨z1, c1, _, w1⟩ := DataW.trod_int Try.underlying3 g1
        obtain ⟨z2, c2, _, w2⟩ := DataW.trod_int Try.underlying3 g2
        injection c0 with c0
        injection c1 with c1
        injection c2 with c2
        subst c0 c1 c2
        obtain ⟨b, off, spot⟩ := a
        simp only at hsp
        subst hsp
        have ha : ∀ j, ((⟨b, off, none⟩ : Addr).add (i * 3)).add j = ⟨b, off + i * 3 + j, none⟩ := fun j => by rw [Addr.add_mid, Addr.add_mid]
        rw [ha] at e0 e1 e2
        exact ⟨⟨st.data.toList, z1, z2⟩, b, off, rfl, block_lt_of_cell (by simpa using e0), by simpa [st_of] using e0, by simpa using e1, by simpa using e2⟩
    let pick : Nat → Nd := fun i => if h : i < len' then Classical.choose (each i h) else ⟨[], 0, 0⟩
    refine ⟨some a, cap', (List.range len').map pick, by simpa using hcs, fun i hi => ?_⟩
    have hi' : i < len' := by simpa using hi
    have e : ((List.range len').map pick)[i] = Classical.choose (each i hi') := by simp [pick, hi']
    rw [e]
    exact Classical.choose_spec (each i hi')
set_option maxRecDepth 100000 in
theorem open_files_cell {W : World} {base : Nat} {fuel : Nat} {v : Value} {x : DataW H × List MemPlace} (hf : DataW.trod enc Try.prog W base (fun _ => true) true fuel 23 [v] = some x) :
    ∃ (A : Option Addr) (c : Nat) (fs : List Fl), v = .slice A fs.length c ∧ FilesAt W A fs := by
  rcases open_slice Try.underlying23 hf with ⟨hcs, _⟩ | ⟨a, len', cap', m, n, D, Pl, hcs, hb, hl, hm, hmm, _, hx⟩
  · injection hcs with hcs
    exact ⟨none, 0, [], hcs, fun i hi => absurd hi (Nat.not_lt_zero _)⟩
  · injection hcs with hcs
    simp only [if_true] at hmm
    have hspot : 0 < m → a.spot = none := fun h0 => by
      obtain ⟨cs0, q1, _⟩ := hx 0 h0
      rw [cells50] at q1
      obtain ⟨_, ql, qc⟩ := World.cells?_some q1
      have q0 := qc 0 (by omega)
      have e : (a.add (0 * 2)).add 0 = a := by simp [Addr.add]
      rw [e, List.getElem?_eq_getElem (by omega)] at q0
      exact World.cell?_spot q0
    have each : ∀ i, i < len' → ∃ q : Fl, ∃ b o DA dc, some a = some ⟨b, o, none⟩ ∧ b < W.heap.size ∧
        W.cell? ⟨b, o + i * 2, none⟩ = some (.int .i64 q.mode) ∧ W.cell? ⟨b, o + i * 2 + 1, none⟩ = some (.slice DA q.data.length dc) ∧ BytesAt W DA q.data := by
      intro i hi
      have hsp := hspot (by omega)
      obtain ⟨cs', h1, h2⟩ := hx i (by omega)
      rw [cells50] at h1
      obtain ⟨_, hlen, hcell⟩ := World.cells?_some h1
      obtain ⟨xs, k, hk, hxy, _, hxl, hf⟩ := DataW.trod_struct Try.underlying42 h2
      match xs, hxl, cs', hlen with
      | [y0, y1], _, [v0, v1], _ =>
        have g0 := hf 0 _ rfl
        have g1 := hf 1 _ rfl
        simp [cells3, cells48] at g0 g1
        have e0 := hcell 0 (by omega)
        have e1 := hcell 1 (by omega)
        obtain ⟨z0, c0, _, w0⟩ := DataW.trod_int Try.underlying3 g0
        obtain ⟨DA, dc, l, c1, hby⟩ := open_bytes_cell g1
        injection c0 with c0
        subst c0 c1
        obtain ⟨b, off, spot⟩ := a
        simp only at hsp
        subst hsp
        have ha : ∀ j, ((⟨b, off, none⟩ : Addr).add (i * 2)).add j = ⟨b, off + i * 2 + j, none⟩ := fun j => by rw [Addr.add_mid, Addr.add_mid]
        rw [ha] at e0 e1
        exact ⟨⟨z0, l⟩, b, off, DA, dc, rfl, block_lt_of_cell (by simpa using e0), by simpa using e0, by simpa using e1, hby⟩
    let pick : Nat → Fl := fun i => if h : i < len' then Classical.choose (each i h) else ⟨0, []⟩
    refine ⟨some a, cap', (List.range len').map pick, by simpa using hcs, fun i hi => ?_⟩
    have hi' : i < len' := by simpa using hi
    have e : ((List.range len').map pick)[i] = Classical.choose (each i hi') := by simp [pick, hi']
    rw [e]
    exact Classical.choose_spec (each i hi')
theorem open_tree {W : World} {v : Value} {d : DataW H} {p : List MemPlace} (hs : v.cells.size = 2) (hv : ∃ cs, v = .agg cs) (h : DataW.Trod enc Try.prog W 0 (fun _ => true) true 25 v d p) :
    ∃ (NA FA : Option Addr) (nc fc : Nat) (ns : List Nd) (fs : List Fl), v = .agg #[.slice NA ns.length nc, .slice FA fs.length fc] ∧ NodesAt W NA ns ∧ FilesAt W FA fs := by
  obtain ⟨cs, rfl⟩ := hv
  obtain ⟨fuel, hf⟩ := h
  obtain ⟨cl⟩ := cs
  simp [Value.cells] at hs hf
  match cl, hs with
  | [v0, v1], _ =>
    obtain ⟨xs, k, hk, hxy, _, hxl, hg⟩ := DataW.trod_struct Try.underlying25 hf
    match xs, hxl with
    | [y0, y1], _ =>
      have g0 := hg 0 _ rfl
      have g1 := hg 1 _ rfl
      simp [cells22, cells23] at g0 g1
      obtain ⟨NA, nc, ns, rfl, hN⟩ := open_nodes_cell g0
      obtain ⟨FA, fc, fs, rfl, hF⟩ := open_files_cell g1
      exact ⟨NA, FA, nc, fc, ns, fs, rfl, hN, hF⟩
end
end Go.Proofs.Ytaanihmbnjjhcaa

/-
What is proved here: a tree that came in, as a row of this seat gives it: its nodes and its files, none longer than the form's own reach.
-/
set_option linter.unusedSimpArgs false
namespace Go.Proofs.Ytaanihmbnjjhcaa
open Go.Pth Go.Tre Go.Word Go.ChangeShapes Go.WideShapes Go.ChangeAt Go.RowKit Go.Deep

/-- no longer than the form's own reach -/
def Fits (ns : List Nd) (fs : List Fl) : Prop := ns.length ≤ 140737488355328 ∧ fs.length ≤ 140737488355328 ∧ (∀ x ∈ ns, x.path.length ≤ 140737488355328) ∧ ∀ x ∈ fs, x.data.length ≤ 140737488355328
section
variable {H : Type} {enc : TypeId × Value → H}
theorem bytes5w : Try.prog.bytesOf 5 = 1 := by kernel_rfl
theorem bytes47w : Try.prog.bytesOf 39 = 32 := by kernel_rfl
theorem bytes50w : Try.prog.bytesOf 42 = 32 := by kernel_rfl
theorem weightsAll_mem {P : Program} {e : TypeId} : ∀ {l : List (DataW H)} {d : DataW H}, d ∈ l → ∀ m ∈ d.weights P e, m ∈ DataW.weightsAll P e l
  | [], _, h, _, _ => by cases h
  | y :: r, d, h, m, hm => by
    simp only [DataW.weightsAll, List.mem_append]
    rcases List.mem_cons.1 h with rfl | h
    · exact .inl hm
    · exact .inr (weightsAll_mem h m hm)
theorem open_bytesw {W : World} {base : Nat} {fuel : Nat} {v : Value} {x : DataW H × List MemPlace} (hf : DataW.trod enc Try.prog W base (fun _ => true) true fuel 40 [v] = some x) :
    ∃ (A : Option Addr) (c : Nat) (l : Bt), v = .slice A l.length c ∧ BytesAt W A l ∧ ((∀ m ∈ x.1.weights Try.prog 40, m ≤ reachBytes) → l.length ≤ reachBytes) := by
  rcases open_ints Try.underlying40 Try.underlying5 cells5 hf with ⟨hcs, _⟩ | ⟨a, len', cap', zs, hcs, _, hl, hm, hz, hx0, hcell, hwz⟩
  · injection hcs with hcs
    exact ⟨none, 0, [], hcs, fun i hi => absurd hi (Nat.not_lt_zero _), fun _ => by simp⟩
  · injection hcs with hcs
    simp only [if_true] at hz
    have hlen : ((zs.take len').map byteOf).length = len' := by simp; omega
    refine ⟨some a, cap', (zs.take len').map byteOf, by rw [hlen]; exact hcs, fun i hi => ?_, fun hw => ?_⟩
    rotate_left
    · rw [hx0] at hw
      have := hw ((lits .u8 (zs.take len')).length * 1 + (lits .u8 (zs.drop len')).length * 1) (by
        simp only [DataW.weights, Try.underlying40, bytes5w, List.mem_cons]
        left
        omega)
      simp only [lits, List.length_map, List.length_take, List.length_drop] at this
      rw [hlen]
      omega
    rw [hlen] at hi
    obtain ⟨b, off, spot⟩ := a
    have hspot : spot = none := by simpa [Addr.add] using World.cell?_spot (hcell 0 (by omega))
    subst hspot
    have hc := hcell i (by omega)
    rw [Addr.add_mid] at hc
    refine ⟨b, off, rfl, block_lt_of_cell hc, ?_⟩
    have hj' : i < zs.length := by omega
    have e : zs.getD i 0 = zs[i] := by simp [List.getD_eq_getElem?_getD, List.getElem?_eq_getElem hj']
    rw [hc, e]
    simp only [List.getElem_map, List.getElem_take]
    rw [byteOf_y (hwz _ (List.getElem_mem hj'))]
set_option maxRecDepth 100000 in
theorem open_nodesw {W : World} {base : Nat} {fuel : Nat} {v : Value} {x : DataW H × List MemPlace} (hf : DataW.trod enc Try.prog W base (fun _ => true) true fuel 22 [v] = some x) :
    ∃ (A : Option Addr) (c : Nat) (ns : List Nd), v = .slice A ns.length c ∧ NodesAt W A ns ∧ ((∀ m ∈ x.1.weights Try.prog 22, m ≤ reachBytes) → ns.length ≤ reachBytes ∧ ∀ y ∈ ns, y.path.length ≤ reachBytes) := by
  rcases open_slice Try.underlying22 hf with ⟨hcs, _⟩ | ⟨a, len', cap', m, n, D, Pl, hcs, hb, hl, hm, hmm, hd0, hx⟩
  · injection hcs with hcs
    exact ⟨none, 0, [], hcs, fun i hi => absurd hi (Nat.not_lt_zero _), fun _ => ⟨by simp, fun y hy => by cases hy⟩⟩
  · injection hcs with hcs
    simp only [if_true] at hmm
    have hspot : 0 < m → a.spot = none := fun h0 => by
      obtain ⟨cs0, q1, _⟩ := hx 0 h0
      rw [cells47] at q1
      obtain ⟨_, ql, qc⟩ := World.cells?_some q1
      have q0 := qc 0 (by omega)
      have e : (a.add (0 * 3)).add 0 = a := by simp [Addr.add]
      rw [e, List.getElem?_eq_getElem (by omega)] at q0
      exact World.cell?_spot q0
    have each : ∀ i, i < len' → ∃ q : Nd, ∃ b o, some a = some ⟨b, o, none⟩ ∧ b < W.heap.size ∧
        W.cell? ⟨b, o + i * 3, none⟩ = some (St q.path) ∧ W.cell? ⟨b, o + i * 3 + 1, none⟩ = some (.int .i64 q.file) ∧ W.cell? ⟨b, o + i * 3 + 2, none⟩ = some (.int .i64 q.mode) ∧ ((∀ m ∈ (D i).weights Try.prog 39, m ≤ reachBytes) → q.path.length ≤ reachBytes) := by
      intro i hi
      have hsp := hspot (by omega)
      obtain ⟨cs', h1, h2⟩ := hx i (by omega)
      rw [cells47] at h1
      obtain ⟨_, hlen, hcell⟩ := World.cells?_some h1
      obtain ⟨xs, k, hk, hxy, _, hxl, hf⟩ := DataW.trod_struct Try.underlying39 h2
      match xs, hxl, cs', hlen with
      | [y0, y1, y2], _, [v0, v1, v2], _ =>
        have g0 := hf 0 _ rfl
        have g1 := hf 1 _ rfl
        have g2 := hf 2 _ rfl
        simp [cells3, cells9] at g0 g1 g2
        have e0 := hcell 0 (by omega)
        have e1 := hcell 1 (by omega)
        have e2 := hcell 2 (by omega)
        obtain ⟨st, c0, t0, _⟩ := DataW.trod_string Try.underlying9 g0
        obtain ⟨z1, c1, _, w1⟩ := DataW.trod_int Try.underlying3 g1
        obtain ⟨z2, c2, _, w2⟩ := DataW.trod_int Try.underlying3 g2
        injection c0 with c0
        injection c1 with c1
        injection c2 with c2
        subst c0 c1 c2
        obtain ⟨b, off, spot⟩ := a
        simp only at hsp
        subst hsp
        have ha : ∀ j, ((⟨b, off, none⟩ : Addr).add (i * 3)).add j = ⟨b, off + i * 3 + j, none⟩ := fun j => by rw [Addr.add_mid, Addr.add_mid]
        rw [ha] at e0 e1 e2
        refine ⟨⟨st.data.toList, z1, z2⟩, b, off, rfl, block_lt_of_cell (by simpa using e0), by simpa [st_of] using e0, by simpa using e1, by simpa using e2, fun hw => ?_⟩
        have hD : D i = .agg [y0.1, y1.1, y2.1] := congrArg Prod.fst hxy
        rw [hD, t0] at hw
        exact hw st.data.toList.length (by simp only [DataW.weights, Try.underlying39, DataW.weightsEach]; simp [DataW.weightsEach, DataW.weights])
    let pick : Nat → Nd := fun i => if h : i < len' then Classical.choose (each i h) else ⟨[], 0, 0⟩
    refine ⟨some a, cap', (List.range len').map pick, by simpa using hcs, fun i hi => ?_, fun hw => ⟨?_, fun y hy => ?_⟩⟩
    · have hi' : i < len' := by simpa using hi
      have e : ((List.range len').map pick)[i] = Classical.choose (each i hi') := by simp [pick, hi']
      rw [e]
      obtain ⟨b, o, h1, h2, h3, h4, h5, _⟩ := Classical.choose_spec (each i hi')
      exact ⟨b, o, h1, h2, h3, h4, h5⟩
    · have h1 := hw (m * Try.prog.bytesOf 39) (by rw [hd0]; simp only [DataW.weights, Try.underlying22, List.mem_cons]; left; simp only [List.length_map, List.length_range]; rw [show len' + (m - len') = m by omega])
      rw [bytes47w] at h1
      simp
      omega
    · obtain ⟨i, hi, rfl⟩ := List.mem_map.1 hy
      have hi' : i < len' := by simpa using hi
      have e : pick i = Classical.choose (each i hi') := by simp [pick, hi']
      rw [e]
      obtain ⟨b, o, _, _, _, _, _, h6⟩ := Classical.choose_spec (each i hi')
      exact h6 (fun m hm => hw m (by
        rw [hd0]
        simp only [DataW.weights, Try.underlying22, List.mem_cons, List.mem_append]
        exact .inr (.inl (weightsAll_mem (List.mem_map.2 ⟨i, by simpa using hi', rfl⟩) m hm))))
set_option maxRecDepth 100000 in
theorem open_filesw {W : World} {base : Nat} {fuel : Nat} {v : Value} {x : DataW H × List MemPlace} (hf : DataW.trod enc Try.prog W base (fun _ => true) true fuel 23 [v] = some x) :
    ∃ (A : Option Addr) (c : Nat) (fs : List Fl), v = .slice A fs.length c ∧ FilesAt W A fs ∧ ((∀ m ∈ x.1.weights Try.prog 23, m ≤ reachBytes) → fs.length ≤ reachBytes ∧ ∀ y ∈ fs, y.data.length ≤ reachBytes) := by
  rcases open_slice Try.underlying23 hf with ⟨hcs, _⟩ | ⟨a, len', cap', m, n, D, Pl, hcs, hb, hl, hm, hmm, hd0, hx⟩
  · injection hcs with hcs
    exact ⟨none, 0, [], hcs, fun i hi => absurd hi (Nat.not_lt_zero _), fun _ => ⟨by simp, fun y hy => by cases hy⟩⟩
  · injection hcs with hcs
    simp only [if_true] at hmm
    have hspot : 0 < m → a.spot = none := fun h0 => by
      obtain ⟨cs0, q1, _⟩ := hx 0 h0
      rw [cells50] at q1
      obtain ⟨_, ql, qc⟩ := World.cells?_some q1
      have q0 := qc 0 (by omega)
      have e : (a.add (0 * 2)).add 0 = a := by simp [Addr.add]
      rw [e, List.getElem?_eq_getElem (by omega)] at q0
      exact World.cell?_spot q0
    have each : ∀ i, i < len' → ∃ q : Fl, ∃ b o DA dc, some a = some ⟨b, o, none⟩ ∧ b < W.heap.size ∧
        W.cell? ⟨b, o + i * 2, none⟩ = some (.int .i64 q.mode) ∧ W.cell? ⟨b, o + i * 2 + 1, none⟩ = some (.slice DA q.data.length dc) ∧ BytesAt W DA q.data ∧ ((∀ m ∈ (D i).weights Try.prog 42, m ≤ reachBytes) → q.data.length ≤ reachBytes) := by
      intro i hi
      have hsp := hspot (by omega)
      obtain ⟨cs', h1, h2⟩ := hx i (by omega)
      rw [cells50] at h1
      obtain ⟨_, hlen, hcell⟩ := World.cells?_some h1
      obtain ⟨xs, k, hk, hxy, _, hxl, hf⟩ := DataW.trod_struct Try.underlying42 h2
      match xs, hxl, cs', hlen with
      | [y0, y1], _, [v0, v1], _ =>
        have g0 := hf 0 _ rfl
        have g1 := hf 1 _ rfl
        simp [cells3, cells48] at g0 g1
        have e0 := hcell 0 (by omega)
        have e1 := hcell 1 (by omega)
        obtain ⟨z0, c0, _, w0⟩ := DataW.trod_int Try.underlying3 g0
        obtain ⟨DA, dc, l, c1, hby, hbw⟩ := open_bytesw g1
        injection c0 with c0
        subst c0 c1
        obtain ⟨b, off, spot⟩ := a
        simp only at hsp
        subst hsp
        have ha : ∀ j, ((⟨b, off, none⟩ : Addr).add (i * 2)).add j = ⟨b, off + i * 2 + j, none⟩ := fun j => by rw [Addr.add_mid, Addr.add_mid]
        rw [ha] at e0 e1
        refine ⟨⟨z0, l⟩, b, off, DA, dc, rfl, block_lt_of_cell (by simpa using e0), by simpa using e0, by simpa using e1, hby, fun hw => hbw (fun m hm => hw m ?_)⟩
        have hD : D i = .agg [y0.1, y1.1] := congrArg Prod.fst hxy
        rw [hD]
        simp only [DataW.weights, Try.underlying42, DataW.weightsEach, List.mem_append]
        simp [DataW.weightsEach, hm]
    let pick : Nat → Fl := fun i => if h : i < len' then Classical.choose (each i h) else ⟨0, []⟩
    refine ⟨some a, cap', (List.range len').map pick, by simpa using hcs, fun i hi => ?_, fun hw => ⟨?_, fun y hy => ?_⟩⟩
    · have hi' : i < len' := by simpa using hi
      have e : ((List.range len').map pick)[i] = Classical.choose (each i hi') := by simp [pick, hi']
      rw [e]
      obtain ⟨b, o, DA, dc, h1, h2, h3, h4, h5, _⟩ := Classical.choose_spec (each i hi')
      exact ⟨b, o, DA, dc, h1, h2, h3, h4, h5⟩
    · have h1 := hw (m * Try.prog.bytesOf 42) (by rw [hd0]; simp only [DataW.weights, Try.underlying23, List.mem_cons]; left; simp only [List.length_map, List.length_range]; rw [show len' + (m - len') = m by omega])
      rw [bytes50w] at h1
      simp
      omega
    · obtain ⟨i, hi, rfl⟩ := List.mem_map.1 hy
      have hi' : i < len' := by simpa using hi
      have e : pick i = Classical.choose (each i hi') := by simp [pick, hi']
      rw [e]
      obtain ⟨b, o, DA, dc, _, _, _, _, _, h6⟩ := Classical.choose_spec (each i hi')
      exact h6 (fun m hm => hw m (by
        rw [hd0]
        simp only [DataW.weights, Try.underlying23, List.mem_cons, List.mem_append]
        exact .inr (.inl (weightsAll_mem (List.mem_map.2 ⟨i, by simpa using hi', rfl⟩) m hm))))
theorem open_treew {W : World} {v : Value} {d : DataW H} {p : List MemPlace} (hs : v.cells.size = 2) (hv : ∃ cs, v = .agg cs) (h : DataW.Trod enc Try.prog W 0 (fun _ => true) true 25 v d p) :
    ∃ (NA FA : Option Addr) (nc fc : Nat) (ns : List Nd) (fs : List Fl), v = .agg #[.slice NA ns.length nc, .slice FA fs.length fc] ∧ NodesAt W NA ns ∧ FilesAt W FA fs ∧ ((∀ m ∈ d.weights Try.prog 25, m ≤ reachBytes) → Fits ns fs) := by
  obtain ⟨cs, rfl⟩ := hv
  obtain ⟨fuel, hf⟩ := h
  obtain ⟨cl⟩ := cs
  simp [Value.cells] at hs hf
  match cl, hs with
  | [v0, v1], _ =>
    obtain ⟨xs, k, hk, hxy, _, hxl, hg⟩ := DataW.trod_struct Try.underlying25 hf
    match xs, hxl with
    | [y0, y1], _ =>
      have g0 := hg 0 _ rfl
      have g1 := hg 1 _ rfl
      simp [cells22, cells23] at g0 g1
      obtain ⟨NA, nc, ns, rfl, hN, wN⟩ := open_nodesw g0
      obtain ⟨FA, fc, fs, rfl, hF, wF⟩ := open_filesw g1
      refine ⟨NA, FA, nc, fc, ns, fs, rfl, hN, hF, fun hw => ?_⟩
      have hD : d = .agg [y0.1, y1.1] := congrArg Prod.fst hxy
      rw [hD] at hw
      simp only [DataW.weights, Try.underlying25, DataW.weightsEach, List.mem_append] at hw
      have e0 := wN (fun m hm => hw m (by simp [DataW.weightsEach, hm]))
      have e1 := wF (fun m hm => hw m (by simp [DataW.weightsEach, hm]))
      exact ⟨Nat.le_trans e0.1 (by decide), Nat.le_trans e1.1 (by decide), fun x hx => Nat.le_trans (e0.2 x hx) (by decide), fun x hx => Nat.le_trans (e1.2 x hx) (by decide)⟩
end
end Go.Proofs.Ytaanihmbnjjhcaa

/-
What is proved here: a copy's nodes and files as they lie in slices; a copy of which one row is turned.
-/
set_option linter.unusedSimpArgs false
namespace Go.Proofs.Ytaanihmbnjjhcaa
open Go.Pth Go.Tre Go.RowKit Go.Word Go.Shelf
theorem copy_nodes {w : World} {B : Nat} {vN vF : Value} {D : Nat → Value} {ns : List Nd} {fs : List Fl} (h : CopyAt w B vN vF D ns fs) : ∃ NA nc, vN = .slice NA ns.length nc ∧ NodesAt w NA ns := by
  rcases h.nodes.2 with ⟨e, h0⟩ | ⟨g, cap, cur, e, hg, hb, _⟩
  · exact ⟨none, 0, by rw [e, h0], fun i hi => by omega⟩
  · subst e
    refine ⟨_, _, rfl, fun i hi => ⟨g, 0, rfl, (Array.getElem?_eq_some_iff.1 hb).1, ?_⟩⟩
    obtain ⟨k1, k2, k3⟩ := ncells_at ns i hi
    rw [Nat.zero_add, h.nodes.cellAt _ (by omega), h.nodes.cellAt _ (by omega), h.nodes.cellAt _ (by omega)]
    exact ⟨k1, k2, k3⟩
theorem fcells_at (D : Nat → Value) : ∀ (fs : List Fl) (i : Nat) (h : i < fs.length), (fcells D fs)[i * 2]? = some (.int .i64 fs[i].mode) ∧ (fcells D fs)[i * 2 + 1]? = some (D i) := fun fs i h => by
  have key : ∀ (k : Nat), k ≤ fs.length → i < k → ((List.range k).flatMap fun i => [Value.int .i64 (fs.getD i ⟨0, []⟩).mode, D i])[i * 2]? = some (.int .i64 fs[i].mode) ∧ ((List.range k).flatMap fun i => [Value.int .i64 (fs.getD i ⟨0, []⟩).mode, D i])[i * 2 + 1]? = some (D i) := by
    intro k
    induction k with
    | zero => intro _ h; omega
    | succ k ih =>
      intro hk hik
      have hl : ((List.range k).flatMap fun i => [Value.int .i64 (fs.getD i ⟨0, []⟩).mode, D i]).length = k * 2 := by
        clear ih hk hik
        induction k with
        | zero => rfl
        | succ k ih => rw [List.range_succ, List.flatMap_append, List.length_append, ih]; simp; omega
      rw [List.range_succ, List.flatMap_append]
      by_cases e : i = k
      · subst e
        rw [List.getElem?_append_right (by omega), List.getElem?_append_right (by omega), hl, show i * 2 - i * 2 = 0 by omega, show i * 2 + 1 - i * 2 = 1 by omega]
        simp [List.getD_eq_getElem?_getD, List.getElem?_eq_getElem h]
      · rw [List.getElem?_append_left (by omega), List.getElem?_append_left (by omega)]
        exact ih (by omega) (by omega)
  exact key fs.length (Nat.le_refl _) h
theorem fcells_len (D : Nat → Value) (fs : List Fl) : (fcells D fs).length = fs.length * 2 := by
  unfold fcells
  generalize fs.length = k
  induction k with
  | zero => rfl
  | succ k ih => rw [List.range_succ, List.flatMap_append, List.length_append, ih]; simp; omega
theorem own_bytes {w : World} {B : Nat} {v : Value} {l : Bt} (h : OwnB w B v l) : ∃ DA dc, v = .slice DA l.length dc ∧ BytesAt w DA l := by
  rcases h.2 with ⟨e, h0⟩ | ⟨g, cap, cur, e, hg, hb, _⟩
  · exact ⟨none, 0, by rw [e, h0], fun i hi => by omega⟩
  · subst e
    refine ⟨_, _, rfl, fun i hi => ⟨g, 0, rfl, (Array.getElem?_eq_some_iff.1 hb).1, ?_⟩⟩
    have h' : w.ownsRow B 5 1 (.slice (some ⟨g, 0, none⟩) l.length cap) l.length (l.map yB) := h
    rw [Nat.zero_add, h'.cellAt _ (by omega), List.getElem?_map, List.getElem?_eq_getElem hi]
    simp [yB]
theorem copy_files {w : World} {B : Nat} {vN vF : Value} {D : Nat → Value} {ns : List Nd} {fs : List Fl} (h : CopyAt w B vN vF D ns fs) : ∃ FA fc, vF = .slice FA fs.length fc ∧ FilesAt w FA fs := by
  rcases h.files.2 with ⟨e, h0⟩ | ⟨g, cap, cur, e, hg, hb, _⟩
  · exact ⟨none, 0, by rw [e, h0], fun i hi => by omega⟩
  · subst e
    refine ⟨_, _, rfl, fun i hi => ?_⟩
    obtain ⟨k1, k2⟩ := fcells_at D fs i hi
    have hd := h.data i hi
    have e : fs.getD i ⟨0, []⟩ = fs[i] := by simp [List.getD_eq_getElem?_getD, List.getElem?_eq_getElem hi]
    rw [e] at hd
    obtain ⟨DA, dc, e1, e2⟩ := own_bytes hd
    refine ⟨g, 0, DA, dc, rfl, (Array.getElem?_eq_some_iff.1 hb).1, ?_, ?_, e2⟩
    · rw [Nat.zero_add, h.files.cellAt _ (by omega), k1]
    · rw [Nat.zero_add, h.files.cellAt _ (by omega), k2, e1]
/-- other nodes in the copy's row -/
theorem copy_nodes_turned {w w' : World} {B : Nat} {vN vN' vF : Value} {D : Nat → Value} {ns ns' : List Nd} {fs : List Fl} (h : CopyAt w B vN vF D ns fs) (h1 : w'.ownsRow B 39 3 vN' ns'.length (ncells ns')) (hg : w.grownBy w' vN.ownBlock) : CopyAt w' B vN' vF D ns' fs where
  nodes := h1
  files := h.files.kept hg (own_other h.files (fun r e => by obtain ⟨_, cs, h2⟩ := own_heap h.nodes r e; exact ⟨cs, 39, h2, by decide⟩))
  data := fun i hi => World.ownsRow.kept (h.data i hi) hg (own_other (h.data i hi) (fun r e => by obtain ⟨_, cs, h2⟩ := own_heap h.nodes r e; exact ⟨cs, 39, h2, by decide⟩))
  apart := h.apart
/-- other modes in the copy's row of files -/
theorem copy_files_turned {w w' : World} {B : Nat} {vN vF vF' : Value} {D : Nat → Value} {ns : List Nd} {fs fs' : List Fl} (h : CopyAt w B vN vF D ns fs) (hl : fs'.length = fs.length) (hd : ∀ i, i < fs.length → (fs'.getD i ⟨0, []⟩).data = (fs.getD i ⟨0, []⟩).data) (h1 : w'.ownsRow B 42 2 vF' fs'.length (fcells D fs')) (hg : w.grownBy w' vF.ownBlock) : CopyAt w' B vN vF' D ns fs' where
  nodes := h.nodes.kept hg (own_other h.nodes (fun r e => by obtain ⟨_, cs, h2⟩ := own_heap h.files r e; exact ⟨cs, 42, h2, by decide⟩))
  files := h1
  data := fun i hi => by rw [hd i (by omega)]; exact World.ownsRow.kept (h.data i (by omega)) hg (own_other (h.data i (by omega)) (fun r e => by obtain ⟨_, cs, h2⟩ := own_heap h.files r e; exact ⟨cs, 42, h2, by decide⟩))
  apart := fun i k hik hk => h.apart i k hik (by omega)
end Go.Proofs.Ytaanihmbnjjhcaa
