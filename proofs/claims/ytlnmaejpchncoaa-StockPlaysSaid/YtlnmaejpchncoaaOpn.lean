/-
What is proved here: lists of bytes and rows of calls that came in, as a row of this seat gives them.
-/
import Derived.Test.YtlnmaejpchncoaaBas
import Derived.Deep.SlicePairs
import Derived.ChangeArms
import Derived.ChangeSlices
import Derived.ChangeSame
import Derived.SizedLaws
set_option linter.unusedSimpArgs false
set_option linter.unusedVariables false
namespace Go.Stk
/-- a call of a stock -/
structure Opr where
  kind : Int
  at_ : Int
  data : Bt
end Go.Stk
namespace Go.Proofs.Ytlnmaejpchncoaa
open Go.Stk Go.Word Go.ChangeShapes Go.WideShapes Go.ChangeAt Go.RowKit Go.Deep
/-- lists of bytes in a slice -/
def ListAt (w : World) (A : Option Addr) (ls : List Bt) : Prop := ∀ i (h : i < ls.length), ∃ b o DA dc, A = some ⟨b, o, none⟩ ∧ b < w.heap.size ∧
  w.cell? ⟨b, o + i, none⟩ = some (.slice DA ls[i].length dc) ∧ BytesAt w DA ls[i]
/-- calls in a slice -/
def OpsAt (w : World) (A : Option Addr) (os : List Opr) : Prop := ∀ i (h : i < os.length), ∃ b o DA dc, A = some ⟨b, o, none⟩ ∧ b < w.heap.size ∧
  w.cell? ⟨b, o + i * 3, none⟩ = some (.int .i64 os[i].kind) ∧ w.cell? ⟨b, o + i * 3 + 1, none⟩ = some (.int .i64 os[i].at_) ∧ w.cell? ⟨b, o + i * 3 + 2, none⟩ = some (.slice DA os[i].data.length dc) ∧ BytesAt w DA os[i].data
theorem listAt_below {w w' : World} {A : Option Addr} {ls : List Bt} (h : ListAt w A ls) (hb : Below w.heap.size w w') : ListAt w' A ls := fun i hi => by
  obtain ⟨b, o, DA, dc, e, hl, h1, h3⟩ := h i hi
  exact ⟨b, o, DA, dc, e, Nat.lt_of_lt_of_le hl hb.size, (hb.cell (p := ⟨b, o + i, none⟩) hl).trans h1, bytesAt_below h3 hb⟩
theorem opsAt_below {w w' : World} {A : Option Addr} {os : List Opr} (h : OpsAt w A os) (hb : Below w.heap.size w w') : OpsAt w' A os := fun i hi => by
  obtain ⟨b, o, DA, dc, e, hl, h1, h2, h3, h4⟩ := h i hi
  exact ⟨b, o, DA, dc, e, Nat.lt_of_lt_of_le hl hb.size, (hb.cell (p := ⟨b, o + i * 3, none⟩) hl).trans h1, (hb.cell (p := ⟨b, o + i * 3 + 1, none⟩) hl).trans h2, (hb.cell (p := ⟨b, o + i * 3 + 2, none⟩) hl).trans h3, bytesAt_below h4 hb⟩
section
variable {H : Type} {enc : TypeId × Value → H}
theorem cells3 : Try.prog.cellsOf 3 = 1 := by kernel_rfl
theorem cells5 : Try.prog.cellsOf 5 = 1 := by kernel_rfl
theorem cells31 : Try.prog.cellsOf 31 = 1 := by kernel_rfl
theorem cells33 : Try.prog.cellsOf 33 = 3 := by kernel_rfl
theorem bytes5w : Try.prog.bytesOf 5 = 1 := by kernel_rfl
theorem bytes31w : Try.prog.bytesOf 31 = 24 := by kernel_rfl
theorem bytes33w : Try.prog.bytesOf 33 = 40 := by kernel_rfl
def byteOf (z : Int) : UInt8 := UInt8.ofNat z.toNat
theorem byteOf_y {z : Int} (h : (Lit.int .u8 z).wf = true) : ((byteOf z).toNat : Int) = z := by
  simp only [Lit.wf, IntKind.min, IntKind.max, IntKind.signed, IntKind.bits, Bool.and_eq_true, decide_eq_true_eq] at h
  unfold byteOf
  simp at h ⊢
  omega
theorem weightsAll_mem {P : Program} {e : TypeId} : ∀ {l : List (DataW H)} {d : DataW H}, d ∈ l → ∀ m ∈ d.weights P e, m ∈ DataW.weightsAll P e l
  | [], _, h, _, _ => by cases h
  | y :: r, d, h, m, hm => by
    simp only [DataW.weightsAll, List.mem_append]
    rcases List.mem_cons.1 h with rfl | h
    · exact .inl hm
    · exact .inr (weightsAll_mem h m hm)
theorem open_bytesw {W : World} {base : Nat} {fuel : Nat} {v : Value} {x : DataW H × List MemPlace} (hf : DataW.trod enc Try.prog W base (fun _ => true) true fuel 31 [v] = some x) :
    ∃ (A : Option Addr) (c : Nat) (l : Bt), v = .slice A l.length c ∧ BytesAt W A l ∧ ((∀ m ∈ x.1.weights Try.prog 31, m ≤ reachBytes) → l.length ≤ reachBytes) := by
  rcases open_ints Try.underlying31 Try.underlying5 cells5 hf with ⟨hcs, _⟩ | ⟨a, len', cap', zs, hcs, _, hl, hm, hz, hx0, hcell, hwz⟩
  · injection hcs with hcs
    exact ⟨none, 0, [], hcs, fun i hi => absurd hi (Nat.not_lt_zero _), fun _ => by simp⟩
  · injection hcs with hcs
    simp only [if_true] at hz
    have hlen : ((zs.take len').map byteOf).length = len' := by simp; omega
    refine ⟨some a, cap', (zs.take len').map byteOf, by rw [hlen]; exact hcs, fun i hi => ?_, fun hw => ?_⟩
    rotate_left
    · rw [hx0] at hw
      have := hw ((lits .u8 (zs.take len')).length * 1 + (lits .u8 (zs.drop len')).length * 1) (by
        simp only [DataW.weights, Try.underlying31, bytes5w, List.mem_cons]
        left
        omega)
      simp only [lits, List.length_map, List.length_take, List.length_drop] at this
      rw [hlen]
      omega
    rw [hlen] at hi
    obtain ⟨b, off, spot⟩ := a
    have hspot : spot = none := by simpa [Addr.add] using World.cell?_spot (hcell 0 (by omega))
    subst hspot
    have hc := hcell i (by omega)
    rw [Addr.add_mid] at hc
    refine ⟨b, off, rfl, block_lt_of_cell hc, ?_⟩
    have hj' : i < zs.length := by omega
    have e : zs.getD i 0 = zs[i] := by simp [List.getD_eq_getElem?_getD, List.getElem?_eq_getElem hj']
    rw [hc, e]
    simp only [List.getElem_map, List.getElem_take]
    rw [byteOf_y (hwz _ (List.getElem_mem hj'))]
set_option maxRecDepth 100000 in
theorem open_listsw {W : World} {base : Nat} {fuel : Nat} {v : Value} {x : DataW H × List MemPlace} (hf : DataW.trod enc Try.prog W base (fun _ => true) true fuel 30 [v] = some x) :
    ∃ (A : Option Addr) (c : Nat) (fs : List Bt), v = .slice A fs.length c ∧ ListAt W A fs ∧ ((∀ m ∈ x.1.weights Try.prog 30, m ≤ reachBytes) → fs.length ≤ reachBytes ∧ ∀ y ∈ fs, y.length ≤ reachBytes) := by
  rcases open_slice Try.underlying30 hf with ⟨hcs, _⟩ | ⟨a, len', cap', m, n, D, Pl, hcs, hb, hl, hm, hmm, hd0, hx⟩
  · injection hcs with hcs
    exact ⟨none, 0, [], hcs, fun i hi => absurd hi (Nat.not_lt_zero _), fun _ => ⟨by simp, fun y hy => by cases hy⟩⟩
  · injection hcs with hcs
    simp only [if_true] at hmm
    have hspot : 0 < m → a.spot = none := fun h0 => by
      obtain ⟨cs0, q1, _⟩ := hx 0 h0
      rw [cells31] at q1
      obtain ⟨_, ql, qc⟩ := World.cells?_some q1
      have q0 := qc 0 (by omega)
      have e : (a.add (0 * 1)).add 0 = a := by simp [Addr.add]
      rw [e, List.getElem?_eq_getElem (by omega)] at q0
      exact World.cell?_spot q0
    have each : ∀ i, i < len' → ∃ q : Bt, ∃ b o DA dc, some a = some ⟨b, o, none⟩ ∧ b < W.heap.size ∧
        W.cell? ⟨b, o + i, none⟩ = some (.slice DA q.length dc) ∧ BytesAt W DA q ∧ ((∀ m ∈ (D i).weights Try.prog 31, m ≤ reachBytes) → q.length ≤ reachBytes) := by
      intro i hi
      have hsp := hspot (by omega)
      obtain ⟨cs', h1, h2⟩ := hx i (by omega)
      rw [cells31] at h1
      obtain ⟨_, hlen, hcell⟩ := World.cells?_some h1
      match cs', hlen with
      | [v0], _ =>
        have e0 := hcell 0 (by omega)
        obtain ⟨DA, dc, l, c1, hby, hbw⟩ := open_bytesw h2
        subst c1
        obtain ⟨b, off, spot⟩ := a
        simp only at hsp
        subst hsp
        have ha : ((⟨b, off, none⟩ : Addr).add (i * 1)).add 0 = ⟨b, off + i, none⟩ := by rw [Addr.add_mid, Addr.add_mid]; simp
        rw [ha] at e0
        exact ⟨l, b, off, DA, dc, rfl, block_lt_of_cell (by simpa using e0), by simpa using e0, hby, hbw⟩
    let pick : Nat → Bt := fun i => if h : i < len' then Classical.choose (each i h) else []
    refine ⟨some a, cap', (List.range len').map pick, by simpa using hcs, fun i hi => ?_, fun hw => ⟨?_, fun y hy => ?_⟩⟩
    · have hi' : i < len' := by simpa using hi
      have e : ((List.range len').map pick)[i] = Classical.choose (each i hi') := by simp [pick, hi']
      rw [e]
      obtain ⟨b, o, DA, dc, h1, h2, h3, h4, _⟩ := Classical.choose_spec (each i hi')
      exact ⟨b, o, DA, dc, h1, h2, h3, h4⟩
    · have h1 := hw (m * Try.prog.bytesOf 31) (by rw [hd0]; simp only [DataW.weights, Try.underlying30, List.mem_cons]; left; simp only [List.length_map, List.length_range]; rw [show len' + (m - len') = m by omega])
      rw [bytes31w] at h1
      simp
      omega
    · obtain ⟨i, hi, rfl⟩ := List.mem_map.1 hy
      have hi' : i < len' := by simpa using hi
      have e : pick i = Classical.choose (each i hi') := by simp [pick, hi']
      rw [e]
      obtain ⟨b, o, DA, dc, _, _, _, _, h6⟩ := Classical.choose_spec (each i hi')
      exact h6 (fun m hm => hw m (by
        rw [hd0]
        simp only [DataW.weights, Try.underlying30, List.mem_cons, List.mem_append]
        exact .inr (.inl (weightsAll_mem (List.mem_map.2 ⟨i, by simpa using hi', rfl⟩) m hm))))
set_option maxRecDepth 100000 in
theorem open_opsw {W : World} {base : Nat} {fuel : Nat} {v : Value} {x : DataW H × List MemPlace} (hf : DataW.trod enc Try.prog W base (fun _ => true) true fuel 22 [v] = some x) :
    ∃ (A : Option Addr) (c : Nat) (fs : List Opr), v = .slice A fs.length c ∧ OpsAt W A fs ∧ ((∀ m ∈ x.1.weights Try.prog 22, m ≤ reachBytes) → fs.length ≤ reachBytes ∧ ∀ y ∈ fs, y.data.length ≤ reachBytes) := by
  rcases open_slice Try.underlying22 hf with ⟨hcs, _⟩ | ⟨a, len', cap', m, n, D, Pl, hcs, hb, hl, hm, hmm, hd0, hx⟩
  · injection hcs with hcs
    exact ⟨none, 0, [], hcs, fun i hi => absurd hi (Nat.not_lt_zero _), fun _ => ⟨by simp, fun y hy => by cases hy⟩⟩
  · injection hcs with hcs
    simp only [if_true] at hmm
    have hspot : 0 < m → a.spot = none := fun h0 => by
      obtain ⟨cs0, q1, _⟩ := hx 0 h0
      rw [cells33] at q1
      obtain ⟨_, ql, qc⟩ := World.cells?_some q1
      have q0 := qc 0 (by omega)
      have e : (a.add (0 * 3)).add 0 = a := by simp [Addr.add]
      rw [e, List.getElem?_eq_getElem (by omega)] at q0
      exact World.cell?_spot q0
    have each : ∀ i, i < len' → ∃ q : Opr, ∃ b o DA dc, some a = some ⟨b, o, none⟩ ∧ b < W.heap.size ∧
        W.cell? ⟨b, o + i * 3, none⟩ = some (.int .i64 q.kind) ∧ W.cell? ⟨b, o + i * 3 + 1, none⟩ = some (.int .i64 q.at_) ∧ W.cell? ⟨b, o + i * 3 + 2, none⟩ = some (.slice DA q.data.length dc) ∧ BytesAt W DA q.data ∧ ((∀ m ∈ (D i).weights Try.prog 33, m ≤ reachBytes) → q.data.length ≤ reachBytes) := by
      intro i hi
      have hsp := hspot (by omega)
      obtain ⟨cs', h1, h2⟩ := hx i (by omega)
      rw [cells33] at h1
      obtain ⟨_, hlen, hcell⟩ := World.cells?_some h1
      obtain ⟨xs, k, hk, hxy, _, hxl, hf⟩ := DataW.trod_struct Try.underlying33 h2
      match xs, hxl, cs', hlen with
      | [y0, y1, y2], _, [v0, v1, v2], _ =>
        have g0 := hf 0 _ rfl
        have g1 := hf 1 _ rfl
        have g2 := hf 2 _ rfl
        simp [cells3, cells31] at g0 g1 g2
        have e0 := hcell 0 (by omega)
        have e1 := hcell 1 (by omega)
        have e2 := hcell 2 (by omega)
        obtain ⟨z0, c0, _, w0⟩ := DataW.trod_int Try.underlying3 g0
        obtain ⟨z1, c1, _, w1⟩ := DataW.trod_int Try.underlying3 g1
        obtain ⟨DA, dc, l, c2, hby, hbw⟩ := open_bytesw g2
        injection c0 with c0
        injection c1 with c1
        subst c0 c1 c2
        obtain ⟨b, off, spot⟩ := a
        simp only at hsp
        subst hsp
        have ha : ∀ j, ((⟨b, off, none⟩ : Addr).add (i * 3)).add j = ⟨b, off + i * 3 + j, none⟩ := fun j => by rw [Addr.add_mid, Addr.add_mid]
        rw [ha] at e0 e1 e2
        refine ⟨⟨z0, z1, l⟩, b, off, DA, dc, rfl, block_lt_of_cell (by simpa using e0), by simpa using e0, by simpa using e1, by simpa using e2, hby, fun hw => hbw (fun m hm => hw m ?_)⟩
        have hD : D i = .agg [y0.1, y1.1, y2.1] := congrArg Prod.fst hxy
        rw [hD]
        simp only [DataW.weights, Try.underlying33, DataW.weightsEach, List.mem_append]
        simp [DataW.weightsEach, hm]
    let pick : Nat → Opr := fun i => if h : i < len' then Classical.choose (each i h) else ⟨0, 0, []⟩
    refine ⟨some a, cap', (List.range len').map pick, by simpa using hcs, fun i hi => ?_, fun hw => ⟨?_, fun y hy => ?_⟩⟩
    · have hi' : i < len' := by simpa using hi
      have e : ((List.range len').map pick)[i] = Classical.choose (each i hi') := by simp [pick, hi']
      rw [e]
      obtain ⟨b, o, DA, dc, h1, h2, h3, h4, h5, h7, _⟩ := Classical.choose_spec (each i hi')
      exact ⟨b, o, DA, dc, h1, h2, h3, h4, h5, h7⟩
    · have h1 := hw (m * Try.prog.bytesOf 33) (by rw [hd0]; simp only [DataW.weights, Try.underlying22, List.mem_cons]; left; simp only [List.length_map, List.length_range]; rw [show len' + (m - len') = m by omega])
      rw [bytes33w] at h1
      simp
      omega
    · obtain ⟨i, hi, rfl⟩ := List.mem_map.1 hy
      have hi' : i < len' := by simpa using hi
      have e : pick i = Classical.choose (each i hi') := by simp [pick, hi']
      rw [e]
      obtain ⟨b, o, DA, dc, _, _, _, _, _, _, h6⟩ := Classical.choose_spec (each i hi')
      exact h6 (fun m hm => hw m (by
        rw [hd0]
        simp only [DataW.weights, Try.underlying22, List.mem_cons, List.mem_append]
        exact .inr (.inl (weightsAll_mem (List.mem_map.2 ⟨i, by simpa using hi', rfl⟩) m hm))))
end
end Go.Proofs.Ytlnmaejpchncoaa
