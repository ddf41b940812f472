/-
What is proved here: a tree that came in, as a row of this seat gives it: its nodes and its files.
-/
import Derived.Test.YtdnagkgblmcojaaMem
import Derived.Deep.SlicePairs
import Derived.ChangeArms
import Derived.ChangeSlices
import Derived.ChangeSame
set_option linter.unusedSimpArgs false
namespace Go.Proofs.Ytdnagkgblmcojaa
open Go.Pth Go.Tre Go.Word Go.ChangeShapes Go.WideShapes Go.ChangeAt Go.RowKit Go.Deep

section
variable {H : Type} {enc : TypeId × Value → H}
theorem cells3 : Try.prog.cellsOf 3 = 1 := by kernel_rfl
theorem cells5 : Try.prog.cellsOf 5 = 1 := by kernel_rfl
theorem cells9 : Try.prog.cellsOf 9 = 1 := by kernel_rfl
theorem cells22 : Try.prog.cellsOf 22 = 1 := by kernel_rfl
theorem cells23 : Try.prog.cellsOf 23 = 1 := by kernel_rfl
theorem cells47 : Try.prog.cellsOf 41 = 3 := by kernel_rfl
theorem cells48 : Try.prog.cellsOf 42 = 1 := by kernel_rfl
theorem cells50 : Try.prog.cellsOf 49 = 2 := by kernel_rfl
def byteOf (z : Int) : UInt8 := UInt8.ofNat z.toNat
theorem byteOf_y {z : Int} (h : (Lit.int .u8 z).wf = true) : ((byteOf z).toNat : Int) = z := by
  simp only [Lit.wf, IntKind.min, IntKind.max, IntKind.signed, IntKind.bits, Bool.and_eq_true, decide_eq_true_eq] at h
  unfold byteOf
  simp at h ⊢
  omega
theorem open_bytes_cell {W : World} {base : Nat} {fuel : Nat} {v : Value} {x : DataW H × List MemPlace} (hf : DataW.trod enc Try.prog W base (fun _ => true) true fuel 42 [v] = some x) :
    ∃ (A : Option Addr) (c : Nat) (l : Bt), v = .slice A l.length c ∧ BytesAt W A l := by
  rcases open_ints Try.underlying42 Try.underlying5 cells5 hf with ⟨hcs, _⟩ | ⟨a, len', cap', zs, hcs, _, hl, hm, hz, _, hcell, hwz⟩
  · injection hcs with hcs
    exact ⟨none, 0, [], hcs, fun i hi => absurd hi (Nat.not_lt_zero _)⟩
  · injection hcs with hcs
    simp only [if_true] at hz
    have hlen : ((zs.take len').map byteOf).length = len' := by simp; omega
    refine ⟨some a, cap', (zs.take len').map byteOf, by rw [hlen]; exact hcs, fun i hi => ?_⟩
    rw [hlen] at hi
    obtain ⟨b, off, spot⟩ := a
    have hspot : spot = none := by simpa [Addr.add] using World.cell?_spot (hcell 0 (by omega))
    subst hspot
    have hc := hcell i (by omega)
    rw [Addr.add_mid] at hc
    refine ⟨b, off, rfl, block_lt_of_cell hc, ?_⟩
    have hj' : i < zs.length := by omega
    have e : zs.getD i 0 = zs[i] := by simp [List.getD_eq_getElem?_getD, List.getElem?_eq_getElem hj']
    rw [hc, e]
    simp only [List.getElem_map, List.getElem_take]
    rw [byteOf_y (hwz _ (List.getElem_mem hj'))]
set_option maxRecDepth 100000 in
theorem open_nodes_cell {W : World} {base : Nat} {fuel : Nat} {v : Value} {x : DataW H × List MemPlace} (hf : DataW.trod enc Try.prog W base (fun _ => true) true fuel 22 [v] = some x) :
    ∃ (A : Option Addr) (c : Nat) (ns : List Nd), v = .slice A ns.length c ∧ NodesAt W A ns := by
  rcases open_slice Try.underlying22 hf with ⟨hcs, _⟩ | ⟨a, len', cap', m, n, D, Pl, hcs, hb, hl, hm, hmm, _, hx⟩
  · injection hcs with hcs
    exact ⟨none, 0, [], hcs, fun i hi => absurd hi (Nat.not_lt_zero _)⟩
  · injection hcs with hcs
    simp only [if_true] at hmm
    have hspot : 0 < m → a.spot = none := fun h0 => by
      obtain ⟨cs0, q1, _⟩ := hx 0 h0
      rw [cells47] at q1
      obtain ⟨_, ql, qc⟩ := World.cells?_some q1
      have q0 := qc 0 (by omega)
      have e : (a.add (0 * 3)).add 0 = a := by simp [Addr.add]
      rw [e, List.getElem?_eq_getElem (by omega)] at q0
      exact World.cell?_spot q0
    have each : ∀ i, i < len' → ∃ q : Nd, ∃ b o, some a = some ⟨b, o, none⟩ ∧ b < W.heap.size ∧
        W.cell? ⟨b, o + i * 3, none⟩ = some (St q.path) ∧ W.cell? ⟨b, o + i * 3 + 1, none⟩ = some (.int .i64 q.file) ∧ W.cell? ⟨b, o + i * 3 + 2, none⟩ = some (.int .i64 q.mode) := by
      intro i hi
      have hsp := hspot (by omega)
      obtain ⟨cs', h1, h2⟩ := hx i (by omega)
      rw [cells47] at h1
      obtain ⟨_, hlen, hcell⟩ := World.cells?_some h1
      obtain ⟨xs, k, hk, hxy, _, hxl, hf⟩ := DataW.trod_struct Try.underlying41 h2
      match xs, hxl, cs', hlen with
      | [y0, y1, y2], _, [v0, v1, v2], _ =>
        have g0 := hf 0 _ rfl
        have g1 := hf 1 _ rfl
        have g2 := hf 2 _ rfl
        simp [cells3, cells9] at g0 g1 g2
        have e0 := hcell 0 (by omega)
        have e1 := hcell 1 (by omega)
        have e2 := hcell 2 (by omega)
        obtain ⟨st, c0, _, _⟩ := DataW.trod_string Try.underlying9 g0
        obtain ⟨z1, c1, _, w1⟩ := DataW.trod_int Try.underlying3 g1
        obtain ⟨z2, c2, _, w2⟩ := DataW.trod_int Try.underlying3 g2
        injection c0 with c0
        injection c1 with c1
        injection c2 with c2
        subst c0 c1 c2
        obtain ⟨b, off, spot⟩ := a
        simp only at hsp
        subst hsp
        have ha : ∀ j, ((⟨b, off, none⟩ : Addr).add (i * 3)).add j = ⟨b, off + i * 3 + j, none⟩ := fun j => by rw [Addr.add_mid, Addr.add_mid]
        rw [ha] at e0 e1 e2
        exact ⟨⟨st.data.toList, z1, z2⟩, b, off, rfl, block_lt_of_cell (by simpa using e0), by simpa [st_of] using e0, by simpa using e1, by simpa using e2⟩
    let pick : Nat → Nd := fun i => if h : i < len' then Classical.choose (each i h) else ⟨[], 0, 0⟩
    refine ⟨some a, cap', (List.range len').map pick, by simpa using hcs, fun i hi => ?_⟩
    have hi' : i < len' := by simpa using hi
    have e : ((List.range len').map pick)[i] = Classical.choose (each i hi') := by simp [pick, hi']
    rw [e]
    exact Classical.choose_spec (each i hi')
set_option maxRecDepth 100000 in
theorem open_files_cell {W : World} {base : Nat} {fuel : Nat} {v : Value} {x : DataW H × List MemPlace} (hf : DataW.trod enc Try.prog W base (fun _ => true) true fuel 23 [v] = some x) :
    ∃ (A : Option Addr) (c : Nat) (fs : List Fl), v = .slice A fs.length c ∧ FilesAt W A fs := by
  rcases open_slice Try.underlying23 hf with ⟨hcs, _⟩ | ⟨a, len', cap', m, n, D, Pl, hcs, hb, hl, hm, hmm, _, hx⟩
  · injection hcs with hcs
    exact ⟨none, 0, [], hcs, fun i hi => absurd hi (Nat.not_lt_zero _)⟩
  · injection hcs with hcs
    simp only [if_true] at hmm
    have hspot : 0 < m → a.spot = none := fun h0 => by
      obtain ⟨cs0, q1, _⟩ := hx 0 h0
      rw [cells50] at q1
      obtain ⟨_, ql, qc⟩ := World.cells?_some q1
      have q0 := qc 0 (by omega)
      have e : (a.add (0 * 2)).add 0 = a := by simp [Addr.add]
      rw [e, List.getElem?_eq_getElem (by omega)] at q0
      exact World.cell?_spot q0
    have each : ∀ i, i < len' → ∃ q : Fl, ∃ b o DA dc, some a = some ⟨b, o, none⟩ ∧ b < W.heap.size ∧
        W.cell? ⟨b, o + i * 2, none⟩ = some (.int .i64 q.mode) ∧ W.cell? ⟨b, o + i * 2 + 1, none⟩ = some (.slice DA q.data.length dc) ∧ BytesAt W DA q.data := by
      intro i hi
      have hsp := hspot (by omega)
      obtain ⟨cs', h1, h2⟩ := hx i (by omega)
      rw [cells50] at h1
      obtain ⟨_, hlen, hcell⟩ := World.cells?_some h1
      obtain ⟨xs, k, hk, hxy, _, hxl, hf⟩ := DataW.trod_struct Try.underlying49 h2
      match xs, hxl, cs', hlen with
      | [y0, y1], _, [v0, v1], _ =>
        have g0 := hf 0 _ rfl
        have g1 := hf 1 _ rfl
        simp [cells3, cells48] at g0 g1
        have e0 := hcell 0 (by omega)
        have e1 := hcell 1 (by omega)
        obtain ⟨z0, c0, _, w0⟩ := DataW.trod_int Try.underlying3 g0
        obtain ⟨DA, dc, l, c1, hby⟩ := open_bytes_cell g1
        injection c0 with c0
        subst c0 c1
        obtain ⟨b, off, spot⟩ := a
        simp only at hsp
        subst hsp
        have ha : ∀ j, ((⟨b, off, none⟩ : Addr).add (i * 2)).add j = ⟨b, off + i * 2 + j, none⟩ := fun j => by rw [Addr.add_mid, Addr.add_mid]
        rw [ha] at e0 e1
        exact ⟨⟨z0, l⟩, b, off, DA, dc, rfl, block_lt_of_cell (by simpa using e0), by simpa using e0, by simpa using e1, hby⟩
    let pick : Nat → Fl := fun i => if h : i < len' then Classical.choose (each i h) else ⟨0, []⟩
    refine ⟨some a, cap', (List.range len').map pick, by simpa using hcs, fun i hi => ?_⟩
    have hi' : i < len' := by simpa using hi
    have e : ((List.range len').map pick)[i] = Classical.choose (each i hi') := by simp [pick, hi']
    rw [e]
    exact Classical.choose_spec (each i hi')
theorem open_tree {W : World} {v : Value} {d : DataW H} {p : List MemPlace} (hs : v.cells.size = 2) (hv : ∃ cs, v = .agg cs) (h : DataW.Trod enc Try.prog W 0 (fun _ => true) true 25 v d p) :
    ∃ (NA FA : Option Addr) (nc fc : Nat) (ns : List Nd) (fs : List Fl), v = .agg #[.slice NA ns.length nc, .slice FA fs.length fc] ∧ NodesAt W NA ns ∧ FilesAt W FA fs := by
  obtain ⟨cs, rfl⟩ := hv
  obtain ⟨fuel, hf⟩ := h
  obtain ⟨cl⟩ := cs
  simp [Value.cells] at hs hf
  match cl, hs with
  | [v0, v1], _ =>
    obtain ⟨xs, k, hk, hxy, _, hxl, hg⟩ := DataW.trod_struct Try.underlying25 hf
    match xs, hxl with
    | [y0, y1], _ =>
      have g0 := hg 0 _ rfl
      have g1 := hg 1 _ rfl
      simp [cells22, cells23] at g0 g1
      obtain ⟨NA, nc, ns, rfl, hN⟩ := open_nodes_cell g0
      obtain ⟨FA, fc, fs, rfl, hF⟩ := open_files_cell g1
      exact ⟨NA, FA, nc, fc, ns, fs, rfl, hN, hF⟩
end
end Go.Proofs.Ytdnagkgblmcojaa
