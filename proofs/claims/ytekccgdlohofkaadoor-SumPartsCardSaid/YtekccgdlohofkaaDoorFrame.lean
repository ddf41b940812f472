/-
What is proved here: what a row of this seat gives the walks: the two tables in their blocks, and the bytes of an argument.
-/
import Derived.Test.YtekccgdlohofkaaDoorAlive
import Derived.Test.YtekccgdlohofkaaDoorTie
import Derived.Test.YtekccgdlohofkaaDoorCards
import Derived.ProofKit
import Derived.LaidMore
import Derived.OpenShut
import Derived.Stop.Joined
import Derived.Lib.LaidTab
import Derived.Carry
import Derived.SevenTiedAt
namespace Go.Proofs.YtekccgdlohofkaaDoor
open Go.Word Go.ChangeShapes Go.WideShapes Go.ChangeAt Go.RowKit

theorem own : ownKnob Tryd.prog.godebug = none := by kernel_rfl
theorem laidOut : laidOutB Tryd.prog = true := by kernel_rfl
theorem type0 : (Tryd.prog.globals[0]?).map (·.type) = some 47 := by kernel_rfl
theorem type1 : (Tryd.prog.globals[1]?).map (·.type) = some 50 := by kernel_rfl
theorem cells45 : Tryd.prog.cellsOf 45 = 1 := by kernel_rfl
theorem cells5 : Tryd.prog.cellsOf 5 = 1 := by kernel_rfl

theorem door_met (os : Os) (args : Array Value) : laidMetH Tryd.prog Rows.sumSplitRow.laid ((World.doorLaid Tryd.prog 19 os).forCall (fun _ _ => 0) ⟨#[], args, []⟩).memory :=
  laidMetH_of_parts3 (fuel := 8) (laidMet_of_run' 8 (by kernel_rfl) (by kernel_rfl)) (by kernel_rfl) (by kernel_rfl)

theorem half_num : ∀ i : Fin 16, Value.int .u32 ((halves.getD i.val 0 : Nat) : Int) = U (half i.val) := by
  intro i
  have h : ∀ i : Fin 16, (BitVec.ofNat 32 (halves.getD i.val 0)).toNat = halves.getD i.val 0 := by decide +kernel
  unfold U half
  rw [h i]
theorem key_num : ∀ i : Fin 64, Value.int .u32 ((keys.getD i.val 0 : Nat) : Int) = U (key i.val) := by
  intro i
  have h : ∀ i : Fin 64, (BitVec.ofNat 32 (keys.getD i.val 0)).toNat = keys.getD i.val 0 := by decide +kernel
  unfold U key
  rw [h i]

theorem tabs_of_laid {W : World} (h : laidMetH Tryd.prog Rows.sumSplitRow.laid W) : Tabs W := by
  rw [MakeChecks.laidMetH_plain _ _ _ (by kernel_rfl)] at h
  obtain ⟨ps, ⟨g0, t0, cs0, f0, p0, q0, hg0, ht0, hv0, hd0, ⟨g1, t1, cs1, f1, p1, q1, hg1, ht1, hv1, hd1, _, _⟩, _⟩, _, _⟩ := h
  obtain rfl : g0 = 0 := Option.some.inj (hg0.symm.trans (by kernel_rfl))
  obtain rfl : g1 = 1 := Option.some.inj (hg1.symm.trans (by kernel_rfl))
  obtain rfl : t0 = 47 := Option.some.inj (ht0.symm.trans type0)
  obtain rfl : t1 = 50 := Option.some.inj (ht1.symm.trans type1)
  have e0 := Lib.cells_of_tab (k := .u32) (zs := halves.map fun (n : Nat) => (n : Int)) Tryd.underlying47 Tryd.underlying45 cells45 (by kernel_rfl) hd0
  have e1 := Lib.cells_of_tab (k := .u32) (zs := keys.map fun (n : Nat) => (n : Int)) Tryd.underlying50 Tryd.underlying45 cells45 (by kernel_rfl) hd1
  have c0 : ∀ i, i < 16 → W.cell? ⟨0, i, none⟩ = some (U (half i)) := fun i hi => by
    rw [World.var?_cell hg0 hv0 i, ← Array.getElem?_toList, e0, ← half_num ⟨i, hi⟩]
    have hl : i < halves.length := hi
    simp [List.getD_eq_getElem?_getD, List.getElem?_eq_getElem hl]
  have c1 : ∀ i, i < 64 → W.cell? ⟨1, i, none⟩ = some (U (key i)) := fun i hi => by
    rw [World.var?_cell hg1 hv1 i, ← Array.getElem?_toList, e1, ← key_num ⟨i, hi⟩]
    have hl : i < keys.length := hi
    simp [List.getD_eq_getElem?_getD, List.getElem?_eq_getElem hl]
  have b1 : 1 < W.heap.size := block_lt_of_cell (c1 0 (by omega))
  exact ⟨⟨b1, c1⟩, ⟨by omega, c0⟩⟩

/-- a number as a byte -/
def byteOf (z : Int) : BitVec 8 := BitVec.ofInt 8 z
theorem byteOf_y {z : Int} (h : (Lit.int .u8 z).wf = true) : Value.int .u8 z = Y (byteOf z) := by
  have h2 : 0 ≤ z ∧ z < 256 := by
    simp [Lit.wf, IntKind.min, IntKind.max, IntKind.bits, IntKind.signed] at h
    omega
  unfold Y byteOf
  rw [BitVec.toNat_ofInt]
  congr 1
  omega

section
variable {H : Type} {enc : TypeId × Value → H}
/-- a slice of bytes that came in -/
theorem open_byt {W : World} {base : Nat} {v : Value} {d : DataW H} {p : List MemPlace} (hval : Value.okWide Tryd.prog W .any base 22 v) (h : DataW.Trod enc Tryd.prog W 0 (fun _ => true) true 22 v d p) :
    ∃ (A : Option Addr) (k c : Nat) (b : List (BitVec 8)), v = .slice A k c ∧ b.length = k ∧ k ≤ c ∧ (A = none → c = 0) ∧ Byt W A b := by
  obtain ⟨a1, len, cap, rfl⟩ := okWide_slice Tryd.underlying22 hval
  obtain ⟨fuel, hf⟩ := h
  rcases open_ints Tryd.underlying22 Tryd.underlying5 cells5 hf with ⟨hcs, _⟩ | ⟨a, len', cap', zs, hcs, _, hl, _, hz, _, hcell, hwz⟩
  · simp [Value.cells] at hcs
    obtain ⟨rfl, rfl, rfl⟩ := hcs
    exact ⟨none, 0, 0, [], rfl, rfl, Nat.le_refl _, fun _ => rfl, fun h => absurd h (by simp)⟩
  · simp [Value.cells] at hcs
    obtain ⟨rfl, rfl, rfl⟩ := hcs
    simp only [if_true] at hz
    refine ⟨some a, len, cap, (zs.take len).map byteOf, rfl, by simp; omega, hl, (fun e => by cases e), fun h0 => ?_⟩
    have hl0 : ((zs.take len).map byteOf).length = len := by simp; omega
    rw [hl0] at h0
    refine ⟨a, rfl, ?_, fun j hj => ?_⟩
    · have := block_lt_of_cell (hcell 0 (by omega))
      unfold Addr.add at this
      split at this <;> exact this
    · rw [hl0] at hj
      have hj' : j < zs.length := by omega
      rw [hcell j hj']
      have e : zs.getD j 0 = zs[j] := by simp [List.getD_eq_getElem?_getD, List.getElem?_eq_getElem hj']
      rw [e, byteOf_y (hwz _ (List.getElem_mem hj'))]
      congr 2
      rw [List.getD_eq_getElem?_getD, List.getElem?_map, List.getElem?_take, if_pos hj, List.getElem?_eq_getElem hj']
      rfl
end
end Go.Proofs.YtekccgdlohofkaaDoor
