/-
What is proved here: what a row of this seat gives the walk: the table in its block, and a list of contents.
-/
import Derived.Test.YtlnmaejpchncoaaDoorLsl
import Derived.Test.YtlnmaejpchncoaaDoorTie
import Derived.Test.YtlnmaejpchncoaaDoorCards
import Derived.ProofKit
import Derived.LaidMore
import Derived.OpenShut
import Derived.ChangeArms
import Derived.ChangeSlices
import Derived.ChangeSame
import Derived.SizedLaws
import Derived.Stop.Joined
import Derived.Lib.LaidTab
import Derived.Carry
import Derived.SevenTiedAt
set_option linter.unusedSimpArgs false
set_option linter.unusedVariables false
namespace Go.Proofs.YtlnmaejpchncoaaDoor
open Go.Word Go.ChangeShapes Go.WideShapes Go.ChangeAt Go.RowKit Go.Deep

theorem own : ownKnob Tryd.prog.godebug = none := by kernel_rfl
theorem laidOut : laidOutB Tryd.prog = true := by kernel_rfl
theorem type0 : (Tryd.prog.globals[0]?).map (·.type) = some 60 := by kernel_rfl
theorem cells58 : Tryd.prog.cellsOf 58 = 1 := by kernel_rfl
theorem door_met (os : Os) (args : Array Value) : laidMetH Tryd.prog Rows.stockListsRow.laid ((World.doorLaid Tryd.prog 19 os).forCall (fun _ _ => 0) ⟨#[], args, []⟩).memory :=
  laidMetH_of_parts3 (fuel := 8) (laidMet_of_run' 8 (by kernel_rfl) (by kernel_rfl)) (by kernel_rfl) (by kernel_rfl)
theorem key_num : ∀ i : Fin 64, Value.int .u32 ((keys.getD i.val 0 : Nat) : Int) = U (key i.val) := by
  intro i
  have h : ∀ i : Fin 64, (BitVec.ofNat 32 (keys.getD i.val 0)).toNat = keys.getD i.val 0 := by decide +kernel
  unfold U key
  rw [h i]
theorem tabs_of_laid {W : World} (h : laidMetH Tryd.prog Rows.stockListsRow.laid W) : Keyed W := by
  rw [MakeChecks.laidMetH_plain _ _ _ (by kernel_rfl)] at h
  obtain ⟨ps, ⟨g1, t1, cs1, f1, p1, q1, hg1, ht1, hv1, hd1, _, _⟩, _, _⟩ := h
  obtain rfl : g1 = 0 := Option.some.inj (hg1.symm.trans (by kernel_rfl))
  obtain rfl : t1 = 60 := Option.some.inj (ht1.symm.trans type0)
  have e1 := Lib.cells_of_tab (k := .u32) (zs := keys.map fun (n : Nat) => (n : Int)) Tryd.underlying60 Tryd.underlying58 cells58 (by kernel_rfl) hd1
  have c1 : ∀ i, i < 64 → W.cell? ⟨0, i, none⟩ = some (U (key i)) := fun i hi => by
    rw [World.var?_cell hg1 hv1 i, ← Array.getElem?_toList, e1, ← key_num ⟨i, hi⟩]
    have hl : i < keys.length := hi
    simp [List.getD_eq_getElem?_getD, List.getElem?_eq_getElem hl]
  have b1 : 0 < W.heap.size := block_lt_of_cell (c1 0 (by omega))
  exact ⟨b1, c1⟩
section
variable {H : Type} {enc : TypeId × Value → H}
theorem cells5 : Tryd.prog.cellsOf 5 = 1 := by kernel_rfl
theorem cells24 : Tryd.prog.cellsOf 24 = 1 := by kernel_rfl
theorem bytes5w : Tryd.prog.bytesOf 5 = 1 := by kernel_rfl
theorem bytes24w : Tryd.prog.bytesOf 24 = 24 := by kernel_rfl
def byteOf (z : Int) : UInt8 := UInt8.ofNat z.toNat
theorem byteOf_y {z : Int} (h : (Lit.int .u8 z).wf = true) : ((byteOf z).toNat : Int) = z := by
  simp only [Lit.wf, IntKind.min, IntKind.max, IntKind.signed, IntKind.bits, Bool.and_eq_true, decide_eq_true_eq] at h
  unfold byteOf
  simp at h ⊢
  omega
theorem weightsAll_mem {P : Program} {e : TypeId} : ∀ {l : List (DataW H)} {d : DataW H}, d ∈ l → ∀ m ∈ d.weights P e, m ∈ DataW.weightsAll P e l
  | [], _, h, _, _ => by cases h
  | y :: r, d, h, m, hm => by
    simp only [DataW.weightsAll, List.mem_append]
    rcases List.mem_cons.1 h with rfl | h
    · exact .inl hm
    · exact .inr (weightsAll_mem h m hm)
theorem open_bytesw {W : World} {base : Nat} {fuel : Nat} {v : Value} {x : DataW H × List MemPlace} (hf : DataW.trod enc Tryd.prog W base (fun _ => true) true fuel 24 [v] = some x) :
    ∃ (A : Option Addr) (c : Nat) (l : Bt), v = .slice A l.length c ∧ K.BytesAt W A l ∧ (l.length ≤ c ∧ (A = none → c = 0)) ∧ ((∀ m ∈ x.1.weights Tryd.prog 24, m ≤ reachBytes) → l.length ≤ reachBytes) := by
  rcases open_ints Tryd.underlying24 Tryd.underlying5 cells5 hf with ⟨hcs, _⟩ | ⟨a, len', cap', zs, hcs, _, hl, hm, hz, hx0, hcell, hwz⟩
  · injection hcs with hcs
    exact ⟨none, 0, [], hcs, fun i hi => absurd hi (Nat.not_lt_zero _), ⟨Nat.zero_le _, fun _ => rfl⟩, fun _ => by simp⟩
  · injection hcs with hcs
    simp only [if_true] at hz
    have hlen : ((zs.take len').map byteOf).length = len' := by simp; omega
    refine ⟨some a, cap', (zs.take len').map byteOf, by rw [hlen]; exact hcs, fun i hi => ?_, ⟨by rw [hlen]; omega, fun e => by cases e⟩, fun hw => ?_⟩
    rotate_left
    · rw [hx0] at hw
      have := hw ((lits .u8 (zs.take len')).length * 1 + (lits .u8 (zs.drop len')).length * 1) (by
        simp only [DataW.weights, Tryd.underlying24, bytes5w, List.mem_cons]
        left
        omega)
      simp only [lits, List.length_map, List.length_take, List.length_drop] at this
      rw [hlen]
      omega
    rw [hlen] at hi
    obtain ⟨b, off, spot⟩ := a
    have hspot : spot = none := by simpa [Addr.add] using World.cell?_spot (hcell 0 (by omega))
    subst hspot
    have hc := hcell i (by omega)
    rw [Addr.add_mid] at hc
    refine ⟨b, off, rfl, block_lt_of_cell hc, ?_⟩
    have hj' : i < zs.length := by omega
    have e : zs.getD i 0 = zs[i] := by simp [List.getD_eq_getElem?_getD, List.getElem?_eq_getElem hj']
    rw [hc, e]
    simp only [List.getElem_map, List.getElem_take]
    rw [byteOf_y (hwz _ (List.getElem_mem hj'))]
set_option maxRecDepth 100000 in
theorem open_listsw {W : World} {base : Nat} {fuel : Nat} {v : Value} {x : DataW H × List MemPlace} (hf : DataW.trod enc Tryd.prog W base (fun _ => true) true fuel 22 [v] = some x) :
    ∃ (A : Option Addr) (c : Nat) (fs : List Bt), v = .slice A fs.length c ∧ ListC W A fs ∧ ((∀ m ∈ x.1.weights Tryd.prog 22, m ≤ reachBytes) → fs.length ≤ reachBytes ∧ ∀ y ∈ fs, y.length ≤ reachBytes) := by
  rcases open_slice Tryd.underlying22 hf with ⟨hcs, _⟩ | ⟨a, len', cap', m, n, D, Pl, hcs, hb, hl, hm, hmm, hd0, hx⟩
  · injection hcs with hcs
    exact ⟨none, 0, [], hcs, fun i hi => absurd hi (Nat.not_lt_zero _), fun _ => ⟨by simp, fun y hy => by cases hy⟩⟩
  · injection hcs with hcs
    simp only [if_true] at hmm
    have hspot : 0 < m → a.spot = none := fun h0 => by
      obtain ⟨cs0, q1, _⟩ := hx 0 h0
      rw [cells24] at q1
      obtain ⟨_, ql, qc⟩ := World.cells?_some q1
      have q0 := qc 0 (by omega)
      have e : (a.add (0 * 1)).add 0 = a := by simp [Addr.add]
      rw [e, List.getElem?_eq_getElem (by omega)] at q0
      exact World.cell?_spot q0
    have each : ∀ i, i < len' → ∃ q : Bt, ∃ b o DA dc, some a = some ⟨b, o, none⟩ ∧ b < W.heap.size ∧
        W.cell? ⟨b, o + i, none⟩ = some (.slice DA q.length dc) ∧ (K.BytesAt W DA q ∧ q.length ≤ dc ∧ (DA = none → dc = 0)) ∧ ((∀ m ∈ (D i).weights Tryd.prog 24, m ≤ reachBytes) → q.length ≤ reachBytes) := by
      intro i hi
      have hsp := hspot (by omega)
      obtain ⟨cs', h1, h2⟩ := hx i (by omega)
      rw [cells24] at h1
      obtain ⟨_, hlen, hcell⟩ := World.cells?_some h1
      match cs', hlen with
      | [v0], _ =>
        have e0 := hcell 0 (by omega)
        obtain ⟨DA, dc, l, c1, hby, hcap, hbw⟩ := open_bytesw h2
        subst c1
        obtain ⟨b, off, spot⟩ := a
        simp only at hsp
        subst hsp
        have ha : ((⟨b, off, none⟩ : Addr).add (i * 1)).add 0 = ⟨b, off + i, none⟩ := by rw [Addr.add_mid, Addr.add_mid]; simp
        rw [ha] at e0
        exact ⟨l, b, off, DA, dc, rfl, block_lt_of_cell (by simpa using e0), by simpa using e0, ⟨hby, hcap⟩, hbw⟩
    let pick : Nat → Bt := fun i => if h : i < len' then Classical.choose (each i h) else []
    refine ⟨some a, cap', (List.range len').map pick, by simpa using hcs, fun i hi => ?_, fun hw => ⟨?_, fun y hy => ?_⟩⟩
    · have hi' : i < len' := by simpa using hi
      have e : ((List.range len').map pick)[i] = Classical.choose (each i hi') := by simp [pick, hi']
      rw [e]
      obtain ⟨b, o, DA, dc, h1, h2, h3, h4, _⟩ := Classical.choose_spec (each i hi')
      exact ⟨b, o, DA, dc, h1, h2, h3, h4⟩
    · have h1 := hw (m * Tryd.prog.bytesOf 24) (by rw [hd0]; simp only [DataW.weights, Tryd.underlying22, List.mem_cons]; left; simp only [List.length_map, List.length_range]; rw [show len' + (m - len') = m by omega])
      rw [bytes24w] at h1
      simp
      omega
    · obtain ⟨i, hi, rfl⟩ := List.mem_map.1 hy
      have hi' : i < len' := by simpa using hi
      have e : pick i = Classical.choose (each i hi') := by simp [pick, hi']
      rw [e]
      obtain ⟨b, o, DA, dc, _, _, _, _, h6⟩ := Classical.choose_spec (each i hi')
      exact h6 (fun m hm => hw m (by
        rw [hd0]
        simp only [DataW.weights, Tryd.underlying22, List.mem_cons, List.mem_append]
        exact .inr (.inl (weightsAll_mem (List.mem_map.2 ⟨i, by simpa using hi', rfl⟩) m hm))))
theorem open_list {W : World} {base : Nat} {v : Value} {d : DataW H} {p : List MemPlace} (hval : Value.okWide Tryd.prog W .any base 22 v) (h : DataW.Trod enc Tryd.prog W 0 (fun _ => true) true 22 v d p) :
    ∃ (A : Option Addr) (c : Nat) (ls : List Bt), v = .slice A ls.length c ∧ ListC W A ls ∧ ((∀ m ∈ d.weights Tryd.prog 22, m ≤ reachBytes) → ls.length ≤ reachBytes ∧ ∀ y ∈ ls, y.length ≤ reachBytes) := by
  obtain ⟨a1, len, cap, rfl⟩ := okWide_slice Tryd.underlying22 hval
  obtain ⟨fuel, hf⟩ := h
  exact open_listsw hf
end
end Go.Proofs.YtlnmaejpchncoaaDoor
