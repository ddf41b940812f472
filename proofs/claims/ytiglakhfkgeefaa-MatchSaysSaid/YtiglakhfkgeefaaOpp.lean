/-
What is proved here: lists of bytes and a pair of trees with a stock that came in, as a row of this seat gives them. a list of bytes, as a row of this seat hands it in.
-/
import Derived.Test.YtiglakhfkgeefaaOpw
import Derived.Test.YtiglakhfkgeefaaFV
import Derived.OpenShut
set_option linter.unusedSimpArgs false
set_option linter.unusedVariables false
namespace Go.Proofs.Ytiglakhfkgeefaa
open Go.Pth Go.Tre Go.Word Go.ChangeShapes Go.WideShapes Go.ChangeAt Go.RowKit Go.Deep
section
variable {H : Type} {enc : TypeId × Value → H}
theorem bytes48w : Try.prog.bytesOf 47 = 24 := by kernel_rfl
theorem cells26 : Try.prog.cellsOf 26 = 1 := by kernel_rfl
theorem cells25 : Try.prog.cellsOf 25 = 2 := by kernel_rfl
set_option maxRecDepth 100000 in
theorem open_listsw {W : World} {base : Nat} {fuel : Nat} {v : Value} {x : DataW H × List MemPlace} (hf : DataW.trod enc Try.prog W base (fun _ => true) true fuel 26 [v] = some x) :
    ∃ (A : Option Addr) (c : Nat) (fs : List Bt), v = .slice A fs.length c ∧ ListQ W A fs ∧ ((∀ m ∈ x.1.weights Try.prog 26, m ≤ reachBytes) → fs.length ≤ reachBytes ∧ ∀ y ∈ fs, y.length ≤ reachBytes) := by
  rcases open_slice Try.underlying26 hf with ⟨hcs, _⟩ | ⟨a, len', cap', m, n, D, Pl, hcs, hb, hl, hm, hmm, hd0, hx⟩
  · injection hcs with hcs
    exact ⟨none, 0, [], hcs, fun i hi => absurd hi (Nat.not_lt_zero _), fun _ => ⟨by simp, fun y hy => by cases hy⟩⟩
  · injection hcs with hcs
    simp only [if_true] at hmm
    have hspot : 0 < m → a.spot = none := fun h0 => by
      obtain ⟨cs0, q1, _⟩ := hx 0 h0
      rw [cells48] at q1
      obtain ⟨_, ql, qc⟩ := World.cells?_some q1
      have q0 := qc 0 (by omega)
      have e : (a.add (0 * 1)).add 0 = a := by simp [Addr.add]
      rw [e, List.getElem?_eq_getElem (by omega)] at q0
      exact World.cell?_spot q0
    have each : ∀ i, i < len' → ∃ q : Bt, ∃ b o DA dc, some a = some ⟨b, o, none⟩ ∧ b < W.heap.size ∧
        W.cell? ⟨b, o + i, none⟩ = some (.slice DA q.length dc) ∧ BytesAt W DA q ∧ ((∀ m ∈ (D i).weights Try.prog 47, m ≤ reachBytes) → q.length ≤ reachBytes) := by
      intro i hi
      have hsp := hspot (by omega)
      obtain ⟨cs', h1, h2⟩ := hx i (by omega)
      rw [cells48] at h1
      obtain ⟨_, hlen, hcell⟩ := World.cells?_some h1
      match cs', hlen with
      | [v0], _ =>
        have e0 := hcell 0 (by omega)
        obtain ⟨DA, dc, l, c1, hby, hbw⟩ := open_bytesw h2
        subst c1
        obtain ⟨b, off, spot⟩ := a
        simp only at hsp
        subst hsp
        have ha : ((⟨b, off, none⟩ : Addr).add (i * 1)).add 0 = ⟨b, off + i, none⟩ := by rw [Addr.add_mid, Addr.add_mid]; simp
        rw [ha] at e0
        exact ⟨l, b, off, DA, dc, rfl, block_lt_of_cell (by simpa using e0), by simpa using e0, hby, hbw⟩
    let pick : Nat → Bt := fun i => if h : i < len' then Classical.choose (each i h) else []
    refine ⟨some a, cap', (List.range len').map pick, by simpa using hcs, fun i hi => ?_, fun hw => ⟨?_, fun y hy => ?_⟩⟩
    · have hi' : i < len' := by simpa using hi
      have e : ((List.range len').map pick)[i] = Classical.choose (each i hi') := by simp [pick, hi']
      rw [e]
      obtain ⟨b, o, DA, dc, h1, h2, h3, h4, _⟩ := Classical.choose_spec (each i hi')
      exact ⟨b, o, DA, dc, h1, h2, h3, h4⟩
    · have h1 := hw (m * Try.prog.bytesOf 47) (by rw [hd0]; simp only [DataW.weights, Try.underlying26, List.mem_cons]; left; simp only [List.length_map, List.length_range]; rw [show len' + (m - len') = m by omega])
      rw [bytes48w] at h1
      simp
      omega
    · obtain ⟨i, hi, rfl⟩ := List.mem_map.1 hy
      have hi' : i < len' := by simpa using hi
      have e : pick i = Classical.choose (each i hi') := by simp [pick, hi']
      rw [e]
      obtain ⟨b, o, DA, dc, _, _, _, _, h6⟩ := Classical.choose_spec (each i hi')
      exact h6 (fun m hm => hw m (by
        rw [hd0]
        simp only [DataW.weights, Try.underlying26, List.mem_cons, List.mem_append]
        exact .inr (.inl (weightsAll_mem (List.mem_map.2 ⟨i, by simpa using hi', rfl⟩) m hm))))
def FitsL (ls : List Bt) : Prop := ls.length ≤ 140737488355328 ∧ ∀ x ∈ ls, x.length ≤ 140737488355328
theorem open_treel {W : World} {base fuel : Nat} {v0 v1 : Value} {x : DataW H × List MemPlace} (hf : DataW.trod enc Try.prog W base (fun _ => true) true fuel 25 [v0, v1] = some x) :
    ∃ (NA FA : Option Addr) (nc fc : Nat) (ns : List Nd) (fs : List Fl), v0 = .slice NA ns.length nc ∧ v1 = .slice FA fs.length fc ∧ NodesAt W NA ns ∧ FilesAt W FA fs ∧ ((∀ m ∈ x.1.weights Try.prog 25, m ≤ reachBytes) → Fits ns fs) := by
  obtain ⟨xs, k, hk, hxy, _, hxl, hg⟩ := DataW.trod_struct Try.underlying25 hf
  match xs, hxl with
  | [y0, y1], _ =>
    have g0 := hg 0 _ rfl
    have g1 := hg 1 _ rfl
    simp [cells22, cells23] at g0 g1
    obtain ⟨NA, nc, ns, rfl, hN, wN⟩ := open_nodesw g0
    obtain ⟨FA, fc, fs, rfl, hF, wF⟩ := open_filesw g1
    refine ⟨NA, FA, nc, fc, ns, fs, rfl, rfl, hN, hF, fun hw => ?_⟩
    have hD : x.1 = .agg [y0.1, y1.1] := congrArg Prod.fst hxy
    rw [hD] at hw
    simp only [DataW.weights, Try.underlying25, DataW.weightsEach, List.mem_append] at hw
    have e0 := wN (fun m hm => hw m (by simp [DataW.weightsEach, hm]))
    have e1 := wF (fun m hm => hw m (by simp [DataW.weightsEach, hm]))
    exact ⟨Nat.le_trans e0.1 (by decide), Nat.le_trans e1.1 (by decide), fun x hx => Nat.le_trans (e0.2 x hx) (by decide), fun x hx => Nat.le_trans (e1.2 x hx) (by decide)⟩
theorem open_pairw {W : World} {v : Value} {d : DataW H} {p : List MemPlace} (hs : v.cells.size = 5) (hv : ∃ cs, v = .agg cs) (h : DataW.Trod enc Try.prog W 0 (fun _ => true) true 28 v d p) :
    ∃ (NA FA : Option Addr) (nc fc : Nat) (ns : List Nd) (fs : List Fl) (MA GA : Option Addr) (mc gc : Nat) (ms : List Nd) (gs : List Fl) (LA : Option Addr) (lc : Nat) (ls : List Bt), v = .agg #[.slice NA ns.length nc, .slice FA fs.length fc, .slice MA ms.length mc, .slice GA gs.length gc, .slice LA ls.length lc] ∧
      NodesAt W NA ns ∧ FilesAt W FA fs ∧ NodesAt W MA ms ∧ FilesAt W GA gs ∧ ListQ W LA ls ∧ ((∀ m ∈ d.weights Try.prog 28, m ≤ reachBytes) → Fits ns fs ∧ Fits ms gs ∧ FitsL ls) := by
  obtain ⟨cs, rfl⟩ := hv
  obtain ⟨fuel, hf⟩ := h
  obtain ⟨cl⟩ := cs
  simp [Value.cells] at hs hf
  match cl, hs with
  | [v0, v1, v2, v3, v4], _ =>
    obtain ⟨xs, k, hk, hxy, _, hxl, hg⟩ := DataW.trod_struct Try.underlying28 hf
    match xs, hxl with
    | [y0, y1, y2], _ =>
      have g0 := hg 0 _ rfl
      have g1 := hg 1 _ rfl
      have g2 := hg 2 _ rfl
      simp [cells25, cells26] at g0 g1 g2
      obtain ⟨NA, FA, nc, fc, ns, fs, rfl, rfl, hN, hF, wS⟩ := open_treel g0
      obtain ⟨MA, GA, mc, gc, ms, gs, rfl, rfl, hM, hG, wT⟩ := open_treel g1
      obtain ⟨LA, lc, ls, rfl, hL, wL⟩ := open_listsw g2
      refine ⟨NA, FA, nc, fc, ns, fs, MA, GA, mc, gc, ms, gs, LA, lc, ls, rfl, hN, hF, hM, hG, hL, fun hw => ?_⟩
      have hD : d = .agg [y0.1, y1.1, y2.1] := congrArg Prod.fst hxy
      rw [hD] at hw
      simp only [DataW.weights, Try.underlying28, DataW.weightsEach, List.mem_append] at hw
      have e0 := wS (fun m hm => hw m (by simp [DataW.weightsEach, hm]))
      have e1 := wT (fun m hm => hw m (by simp [DataW.weightsEach, hm]))
      have e2 := wL (fun m hm => hw m (by simp [DataW.weightsEach, hm]))
      exact ⟨e0, e1, Nat.le_trans e2.1 (by decide), fun x hx => Nat.le_trans (e2.2 x hx) (by decide)⟩
end
end Go.Proofs.Ytiglakhfkgeefaa
set_option linter.unusedSimpArgs false
set_option linter.unusedVariables false
namespace Go.Proofs.Ytiglakhfkgeefaa
open Go.Pth Go.Tre Go.Word Go.ChangeShapes Go.WideShapes Go.ChangeAt Go.RowKit Go.Deep
section
variable {H : Type} {enc : TypeId × Value → H}
set_option maxRecDepth 100000 in
theorem open_listp {W : World} {base : Nat} {v : Value} {d : DataW H} {p : List MemPlace} (hval : Value.okWide Try.prog W .any base 26 v) (h : DataW.Trod enc Try.prog W 0 (fun _ => true) true 26 v d p) :
    ∃ (A : Option Addr) (c : Nat) (ls : List Bt), v = .slice A ls.length c ∧ ListQ W A ls ∧ ((∀ m ∈ d.weights Try.prog 26, m ≤ reachBytes) → ls.length ≤ reachBytes ∧ ∀ y ∈ ls, y.length ≤ reachBytes) := by
  obtain ⟨a1, len, cap, rfl⟩ := okWide_slice Try.underlying26 hval
  obtain ⟨fuel, hf⟩ := h
  exact open_listsw hf
end
end Go.Proofs.Ytiglakhfkgeefaa
