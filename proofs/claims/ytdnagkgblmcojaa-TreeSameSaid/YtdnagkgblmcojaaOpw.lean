/-
What is proved here: a tree that came in, as a row of this seat gives it: its nodes and its files, none longer than the form's own reach.
-/
import Derived.Test.YtdnagkgblmcojaaOpt
import Derived.SizedLaws
set_option linter.unusedSimpArgs false
namespace Go.Proofs.Ytdnagkgblmcojaa
open Go.Pth Go.Tre Go.Word Go.ChangeShapes Go.WideShapes Go.ChangeAt Go.RowKit Go.Deep

/-- no longer than the form's own reach -/
def Fits (ns : List Nd) (fs : List Fl) : Prop := ns.length ≤ 140737488355328 ∧ fs.length ≤ 140737488355328 ∧ (∀ x ∈ ns, x.path.length ≤ 140737488355328) ∧ ∀ x ∈ fs, x.data.length ≤ 140737488355328
section
variable {H : Type} {enc : TypeId × Value → H}
theorem bytes5w : Try.prog.bytesOf 5 = 1 := by kernel_rfl
theorem bytes47w : Try.prog.bytesOf 41 = 32 := by kernel_rfl
theorem bytes50w : Try.prog.bytesOf 49 = 32 := by kernel_rfl
theorem weightsAll_mem {P : Program} {e : TypeId} : ∀ {l : List (DataW H)} {d : DataW H}, d ∈ l → ∀ m ∈ d.weights P e, m ∈ DataW.weightsAll P e l
  | [], _, h, _, _ => by cases h
  | y :: r, d, h, m, hm => by
    simp only [DataW.weightsAll, List.mem_append]
    rcases List.mem_cons.1 h with rfl | h
    · exact .inl hm
    · exact .inr (weightsAll_mem h m hm)
theorem open_bytesw {W : World} {base : Nat} {fuel : Nat} {v : Value} {x : DataW H × List MemPlace} (hf : DataW.trod enc Try.prog W base (fun _ => true) true fuel 42 [v] = some x) :
    ∃ (A : Option Addr) (c : Nat) (l : Bt), v = .slice A l.length c ∧ BytesAt W A l ∧ ((∀ m ∈ x.1.weights Try.prog 42, m ≤ reachBytes) → l.length ≤ reachBytes) := by
  rcases open_ints Try.underlying42 Try.underlying5 cells5 hf with ⟨hcs, _⟩ | ⟨a, len', cap', zs, hcs, _, hl, hm, hz, hx0, hcell, hwz⟩
  · injection hcs with hcs
    exact ⟨none, 0, [], hcs, fun i hi => absurd hi (Nat.not_lt_zero _), fun _ => by simp⟩
  · injection hcs with hcs
    simp only [if_true] at hz
    have hlen : ((zs.take len').map byteOf).length = len' := by simp; omega
    refine ⟨some a, cap', (zs.take len').map byteOf, by rw [hlen]; exact hcs, fun i hi => ?_, fun hw => ?_⟩
    rotate_left
    · rw [hx0] at hw
      have := hw ((lits .u8 (zs.take len')).length * 1 + (lits .u8 (zs.drop len')).length * 1) (by
        simp only [DataW.weights, Try.underlying42, bytes5w, List.mem_cons]
        left
        omega)
      simp only [lits, List.length_map, List.length_take, List.length_drop] at this
      rw [hlen]
      omega
    rw [hlen] at hi
    obtain ⟨b, off, spot⟩ := a
    have hspot : spot = none := by simpa [Addr.add] using World.cell?_spot (hcell 0 (by omega))
    subst hspot
    have hc := hcell i (by omega)
    rw [Addr.add_mid] at hc
    refine ⟨b, off, rfl, block_lt_of_cell hc, ?_⟩
    have hj' : i < zs.length := by omega
    have e : zs.getD i 0 = zs[i] := by simp [List.getD_eq_getElem?_getD, List.getElem?_eq_getElem hj']
    rw [hc, e]
    simp only [List.getElem_map, List.getElem_take]
    rw [byteOf_y (hwz _ (List.getElem_mem hj'))]
set_option maxRecDepth 100000 in
theorem open_nodesw {W : World} {base : Nat} {fuel : Nat} {v : Value} {x : DataW H × List MemPlace} (hf : DataW.trod enc Try.prog W base (fun _ => true) true fuel 22 [v] = some x) :
    ∃ (A : Option Addr) (c : Nat) (ns : List Nd), v = .slice A ns.length c ∧ NodesAt W A ns ∧ ((∀ m ∈ x.1.weights Try.prog 22, m ≤ reachBytes) → ns.length ≤ reachBytes ∧ ∀ y ∈ ns, y.path.length ≤ reachBytes) := by
  rcases open_slice Try.underlying22 hf with ⟨hcs, _⟩ | ⟨a, len', cap', m, n, D, Pl, hcs, hb, hl, hm, hmm, hd0, hx⟩
  · injection hcs with hcs
    exact ⟨none, 0, [], hcs, fun i hi => absurd hi (Nat.not_lt_zero _), fun _ => ⟨by simp, fun y hy => by cases hy⟩⟩
  · injection hcs with hcs
    simp only [if_true] at hmm
    have hspot : 0 < m → a.spot = none := fun h0 => by
      obtain ⟨cs0, q1, _⟩ := hx 0 h0
      rw [cells47] at q1
      obtain ⟨_, ql, qc⟩ := World.cells?_some q1
      have q0 := qc 0 (by omega)
      have e : (a.add (0 * 3)).add 0 = a := by simp [Addr.add]
      rw [e, List.getElem?_eq_getElem (by omega)] at q0
      exact World.cell?_spot q0
    have each : ∀ i, i < len' → ∃ q : Nd, ∃ b o, some a = some ⟨b, o, none⟩ ∧ b < W.heap.size ∧
        W.cell? ⟨b, o + i * 3, none⟩ = some (St q.path) ∧ W.cell? ⟨b, o + i * 3 + 1, none⟩ = some (.int .i64 q.file) ∧ W.cell? ⟨b, o + i * 3 + 2, none⟩ = some (.int .i64 q.mode) ∧ ((∀ m ∈ (D i).weights Try.prog 41, m ≤ reachBytes) → q.path.length ≤ reachBytes) := by
      intro i hi
      have hsp := hspot (by omega)
      obtain ⟨cs', h1, h2⟩ := hx i (by omega)
      rw [cells47] at h1
      obtain ⟨_, hlen, hcell⟩ := World.cells?_some h1
      obtain ⟨xs, k, hk, hxy, _, hxl, hf⟩ := DataW.trod_struct Try.underlying41 h2
      match xs, hxl, cs', hlen with
      | [y0, y1, y2], _, [v0, v1, v2], _ =>
        have g0 := hf 0 _ rfl
        have g1 := hf 1 _ rfl
        have g2 := hf 2 _ rfl
        simp [cells3, cells9] at g0 g1 g2
        have e0 := hcell 0 (by omega)
        have e1 := hcell 1 (by omega)
        have e2 := hcell 2 (by omega)
        obtain ⟨st, c0, t0, _⟩ := DataW.trod_string Try.underlying9 g0
        obtain ⟨z1, c1, _, w1⟩ := DataW.trod_int Try.underlying3 g1
        obtain ⟨z2, c2, _, w2⟩ := DataW.trod_int Try.underlying3 g2
        injection c0 with c0
        injection c1 with c1
        injection c2 with c2
        subst c0 c1 c2
        obtain ⟨b, off, spot⟩ := a
        simp only at hsp
        subst hsp
        have ha : ∀ j, ((⟨b, off, none⟩ : Addr).add (i * 3)).add j = ⟨b, off + i * 3 + j, none⟩ := fun j => by rw [Addr.add_mid, Addr.add_mid]
        rw [ha] at e0 e1 e2
        refine ⟨⟨st.data.toList, z1, z2⟩, b, off, rfl, block_lt_of_cell (by simpa using e0), by simpa [st_of] using e0, by simpa using e1, by simpa using e2, fun hw => ?_⟩
        have hD : D i = .agg [y0.1, y1.1, y2.1] := congrArg Prod.fst hxy
        rw [hD, t0] at hw
        exact hw st.data.toList.length (by simp only [DataW.weights, Try.underlying41, DataW.weightsEach]; simp [DataW.weightsEach, DataW.weights])
    let pick : Nat → Nd := fun i => if h : i < len' then Classical.choose (each i h) else ⟨[], 0, 0⟩
    refine ⟨some a, cap', (List.range len').map pick, by simpa using hcs, fun i hi => ?_, fun hw => ⟨?_, fun y hy => ?_⟩⟩
    · have hi' : i < len' := by simpa using hi
      have e : ((List.range len').map pick)[i] = Classical.choose (each i hi') := by simp [pick, hi']
      rw [e]
      obtain ⟨b, o, h1, h2, h3, h4, h5, _⟩ := Classical.choose_spec (each i hi')
      exact ⟨b, o, h1, h2, h3, h4, h5⟩
    · have h1 := hw (m * Try.prog.bytesOf 41) (by rw [hd0]; simp only [DataW.weights, Try.underlying22, List.mem_cons]; left; simp only [List.length_map, List.length_range]; rw [show len' + (m - len') = m by omega])
      rw [bytes47w] at h1
      simp
      omega
    · obtain ⟨i, hi, rfl⟩ := List.mem_map.1 hy
      have hi' : i < len' := by simpa using hi
      have e : pick i = Classical.choose (each i hi') := by simp [pick, hi']
      rw [e]
      obtain ⟨b, o, _, _, _, _, _, h6⟩ := Classical.choose_spec (each i hi')
      exact h6 (fun m hm => hw m (by
        rw [hd0]
        simp only [DataW.weights, Try.underlying22, List.mem_cons, List.mem_append]
        exact .inr (.inl (weightsAll_mem (List.mem_map.2 ⟨i, by simpa using hi', rfl⟩) m hm))))
set_option maxRecDepth 100000 in
theorem open_filesw {W : World} {base : Nat} {fuel : Nat} {v : Value} {x : DataW H × List MemPlace} (hf : DataW.trod enc Try.prog W base (fun _ => true) true fuel 23 [v] = some x) :
    ∃ (A : Option Addr) (c : Nat) (fs : List Fl), v = .slice A fs.length c ∧ FilesAt W A fs ∧ ((∀ m ∈ x.1.weights Try.prog 23, m ≤ reachBytes) → fs.length ≤ reachBytes ∧ ∀ y ∈ fs, y.data.length ≤ reachBytes) := by
  rcases open_slice Try.underlying23 hf with ⟨hcs, _⟩ | ⟨a, len', cap', m, n, D, Pl, hcs, hb, hl, hm, hmm, hd0, hx⟩
  · injection hcs with hcs
    exact ⟨none, 0, [], hcs, fun i hi => absurd hi (Nat.not_lt_zero _), fun _ => ⟨by simp, fun y hy => by cases hy⟩⟩
  · injection hcs with hcs
    simp only [if_true] at hmm
    have hspot : 0 < m → a.spot = none := fun h0 => by
      obtain ⟨cs0, q1, _⟩ := hx 0 h0
      rw [cells50] at q1
      obtain ⟨_, ql, qc⟩ := World.cells?_some q1
      have q0 := qc 0 (by omega)
      have e : (a.add (0 * 2)).add 0 = a := by simp [Addr.add]
      rw [e, List.getElem?_eq_getElem (by omega)] at q0
      exact World.cell?_spot q0
    have each : ∀ i, i < len' → ∃ q : Fl, ∃ b o DA dc, some a = some ⟨b, o, none⟩ ∧ b < W.heap.size ∧
        W.cell? ⟨b, o + i * 2, none⟩ = some (.int .i64 q.mode) ∧ W.cell? ⟨b, o + i * 2 + 1, none⟩ = some (.slice DA q.data.length dc) ∧ BytesAt W DA q.data ∧ ((∀ m ∈ (D i).weights Try.prog 49, m ≤ reachBytes) → q.data.length ≤ reachBytes) := by
      intro i hi
      have hsp := hspot (by omega)
      obtain ⟨cs', h1, h2⟩ := hx i (by omega)
      rw [cells50] at h1
      obtain ⟨_, hlen, hcell⟩ := World.cells?_some h1
      obtain ⟨xs, k, hk, hxy, _, hxl, hf⟩ := DataW.trod_struct Try.underlying49 h2
      match xs, hxl, cs', hlen with
      | [y0, y1], _, [v0, v1], _ =>
        have g0 := hf 0 _ rfl
        have g1 := hf 1 _ rfl
        simp [cells3, cells48] at g0 g1
        have e0 := hcell 0 (by omega)
        have e1 := hcell 1 (by omega)
        obtain ⟨z0, c0, _, w0⟩ := DataW.trod_int Try.underlying3 g0
        obtain ⟨DA, dc, l, c1, hby, hbw⟩ := open_bytesw g1
        injection c0 with c0
        subst c0 c1
        obtain ⟨b, off, spot⟩ := a
        simp only at hsp
        subst hsp
        have ha : ∀ j, ((⟨b, off, none⟩ : Addr).add (i * 2)).add j = ⟨b, off + i * 2 + j, none⟩ := fun j => by rw [Addr.add_mid, Addr.add_mid]
        rw [ha] at e0 e1
        refine ⟨⟨z0, l⟩, b, off, DA, dc, rfl, block_lt_of_cell (by simpa using e0), by simpa using e0, by simpa using e1, hby, fun hw => hbw (fun m hm => hw m ?_)⟩
        have hD : D i = .agg [y0.1, y1.1] := congrArg Prod.fst hxy
        rw [hD]
        simp only [DataW.weights, Try.underlying49, DataW.weightsEach, List.mem_append]
        simp [DataW.weightsEach, hm]
    let pick : Nat → Fl := fun i => if h : i < len' then Classical.choose (each i h) else ⟨0, []⟩
    refine ⟨some a, cap', (List.range len').map pick, by simpa using hcs, fun i hi => ?_, fun hw => ⟨?_, fun y hy => ?_⟩⟩
    · have hi' : i < len' := by simpa using hi
      have e : ((List.range len').map pick)[i] = Classical.choose (each i hi') := by simp [pick, hi']
      rw [e]
      obtain ⟨b, o, DA, dc, h1, h2, h3, h4, h5, _⟩ := Classical.choose_spec (each i hi')
      exact ⟨b, o, DA, dc, h1, h2, h3, h4, h5⟩
    · have h1 := hw (m * Try.prog.bytesOf 49) (by rw [hd0]; simp only [DataW.weights, Try.underlying23, List.mem_cons]; left; simp only [List.length_map, List.length_range]; rw [show len' + (m - len') = m by omega])
      rw [bytes50w] at h1
      simp
      omega
    · obtain ⟨i, hi, rfl⟩ := List.mem_map.1 hy
      have hi' : i < len' := by simpa using hi
      have e : pick i = Classical.choose (each i hi') := by simp [pick, hi']
      rw [e]
      obtain ⟨b, o, DA, dc, _, _, _, _, _, h6⟩ := Classical.choose_spec (each i hi')
      exact h6 (fun m hm => hw m (by
        rw [hd0]
        simp only [DataW.weights, Try.underlying23, List.mem_cons, List.mem_append]
        exact .inr (.inl (weightsAll_mem (List.mem_map.2 ⟨i, by simpa using hi', rfl⟩) m hm))))
theorem open_treew {W : World} {v : Value} {d : DataW H} {p : List MemPlace} (hs : v.cells.size = 2) (hv : ∃ cs, v = .agg cs) (h : DataW.Trod enc Try.prog W 0 (fun _ => true) true 25 v d p) :
    ∃ (NA FA : Option Addr) (nc fc : Nat) (ns : List Nd) (fs : List Fl), v = .agg #[.slice NA ns.length nc, .slice FA fs.length fc] ∧ NodesAt W NA ns ∧ FilesAt W FA fs ∧ ((∀ m ∈ d.weights Try.prog 25, m ≤ reachBytes) → Fits ns fs) := by
  obtain ⟨cs, rfl⟩ := hv
  obtain ⟨fuel, hf⟩ := h
  obtain ⟨cl⟩ := cs
  simp [Value.cells] at hs hf
  match cl, hs with
  | [v0, v1], _ =>
    obtain ⟨xs, k, hk, hxy, _, hxl, hg⟩ := DataW.trod_struct Try.underlying25 hf
    match xs, hxl with
    | [y0, y1], _ =>
      have g0 := hg 0 _ rfl
      have g1 := hg 1 _ rfl
      simp [cells22, cells23] at g0 g1
      obtain ⟨NA, nc, ns, rfl, hN, wN⟩ := open_nodesw g0
      obtain ⟨FA, fc, fs, rfl, hF, wF⟩ := open_filesw g1
      refine ⟨NA, FA, nc, fc, ns, fs, rfl, hN, hF, fun hw => ?_⟩
      have hD : d = .agg [y0.1, y1.1] := congrArg Prod.fst hxy
      rw [hD] at hw
      simp only [DataW.weights, Try.underlying25, DataW.weightsEach, List.mem_append] at hw
      have e0 := wN (fun m hm => hw m (by simp [DataW.weightsEach, hm]))
      have e1 := wF (fun m hm => hw m (by simp [DataW.weightsEach, hm]))
      exact ⟨Nat.le_trans e0.1 (by decide), Nat.le_trans e1.1 (by decide), fun x hx => Nat.le_trans (e0.2 x hx) (by decide), fun x hx => Nat.le_trans (e1.2 x hx) (by decide)⟩
end
end Go.Proofs.Ytdnagkgblmcojaa
