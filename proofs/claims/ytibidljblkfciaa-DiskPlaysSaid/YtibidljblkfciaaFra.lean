/-
What is proved here: the numbers of a slice that came in, as a row of this seat gives them.
-/
import Derived.Test.YtibidljblkfciaaKep
import Derived.ProofKit
import Derived.OpenShut
import Derived.Carry
namespace Go.Proofs.Ytibidljblkfciaa
open Go.Word Go.ChangeShapes Go.WideShapes Go.ChangeAt Go.RowKit

theorem ownk : ownKnob Try.prog.godebug = none := by kernel_rfl
theorem laidOut : laidOutB Try.prog = true := by kernel_rfl
theorem cells3 : Try.prog.cellsOf 3 = 1 := by kernel_rfl
theorem wf_bounds {z : Int} (h : (Lit.int .i64 z).wf = true) : -9223372036854775808 ≤ z ∧ z ≤ 9223372036854775807 := by
  simp [Lit.wf, IntKind.min, IntKind.max, IntKind.bits, IntKind.signed] at h
  omega
/-- numbers that came in: k of them, in block b from o on -/
def Nums (w : World) (A : Option Addr) (k : Nat) (ks : Nat → Int) : Prop := ∀ i, i < k → ∃ b o, A = some ⟨b, o, none⟩ ∧ b < w.heap.size ∧ w.cell? ⟨b, o + i, none⟩ = some (.int .i64 (ks i)) ∧ -9223372036854775808 ≤ ks i ∧ ks i ≤ 9223372036854775807
theorem nums_below {w w' : World} {A : Option Addr} {k : Nat} {ks : Nat → Int} (h : Nums w A k ks) (hb : Below w.heap.size w w') : Nums w' A k ks := fun i hi => by
  obtain ⟨b, o, e, hl, hc, hbd⟩ := h i hi
  exact ⟨b, o, e, Nat.lt_of_lt_of_le hl hb.size, (hb.cell (p := ⟨b, o + i, none⟩) hl).trans hc, hbd⟩
theorem nums_ints {w w' : World} {A : Option Addr} {k : Nat} {ks : Nat → Int} (h : Nums w A k ks) (hb : Below w.heap.size w w') {B : Nat} (hB : w.heap.size ≤ B) : Ints w' B A k ks := fun i hi => by
  obtain ⟨b, o, e, hl, hc, _⟩ := h i hi
  exact ⟨b, o, e, Nat.lt_of_lt_of_le hl hb.size, by omega, (hb.cell (p := ⟨b, o + i, none⟩) hl).trans hc⟩
section
variable {H : Type} {enc : TypeId × Value → H}
theorem open_nums {W : World} {base : Nat} {v : Value} {d : DataW H} {p : List MemPlace} (hval : Value.okWide Try.prog W .any base 31 v) (h : DataW.Trod enc Try.prog W 0 (fun _ => true) true 31 v d p) :
    ∃ (A : Option Addr) (k c : Nat) (ks : Nat → Int), v = .slice A k c ∧ k ≤ c ∧ c ≤ maxLen ∧ Nums W A k ks := by
  obtain ⟨a1, len, cap, rfl⟩ := okWide_slice Try.underlying31 hval
  obtain ⟨fuel, hf⟩ := h
  rcases open_ints Try.underlying31 Try.underlying3 cells3 hf with ⟨hcs, _⟩ | ⟨a, len', cap', zs, hcs, _, hl, hm, hz, _, hcell, hwz⟩
  · simp [Value.cells] at hcs
    obtain ⟨rfl, rfl, rfl⟩ := hcs
    exact ⟨none, 0, 0, fun _ => 0, rfl, Nat.le_refl _, by unfold maxLen; omega, fun i hi => absurd hi (Nat.not_lt_zero _)⟩
  · simp [Value.cells] at hcs
    obtain ⟨rfl, rfl, rfl⟩ := hcs
    simp only [if_true] at hz
    refine ⟨some a, len, cap, fun i => zs.getD i 0, rfl, hl, hm, fun i hi => ?_⟩
    obtain ⟨b, off, spot⟩ := a
    have hspot : spot = none := by simpa [Addr.add] using World.cell?_spot (hcell 0 (by omega))
    subst hspot
    have hc := hcell i (by omega)
    have hx : (⟨b, off, none⟩ : Addr).add i = ⟨b, off + i, none⟩ := by unfold Addr.add; split <;> simp [*]
    rw [hx] at hc
    exact ⟨b, off, rfl, block_lt_of_cell hc, hc, wf_bounds (hwz _ (by show zs.getD i 0 ∈ zs; rw [List.getD_eq_getElem?_getD, List.getElem?_eq_getElem (by omega)]; exact List.getElem_mem (by omega)))⟩
end
end Go.Proofs.Ytibidljblkfciaa
