/-
What is proved here: a list of byte slices that came in, opened.
-/
import Derived.Test.YtekccgdlohofkaaDoorPartB
import Derived.Test.YtekccgdlohofkaaDoorFrame
import Derived.Deep.Matrix
import Derived.SizedLaws
namespace Go.Proofs.YtekccgdlohofkaaDoor
open Go.Word Go.ChangeShapes Go.WideShapes Go.ChangeAt Go.RowKit Go.Deep

theorem cells22 : Tryd.prog.cellsOf 22 = 1 := by kernel_rfl
theorem bytes22 : Tryd.prog.bytesOf 22 = 24 := by kernel_rfl
theorem bytes5 : Tryd.prog.bytesOf 5 = 1 := by kernel_rfl
section
variable {H : Type} {enc : TypeId × Value → H}
theorem all_mem {e : TypeId} : ∀ {l : List (DataW H)} {d : DataW H}, d ∈ l → ∀ n ∈ d.weights Tryd.prog e, n ∈ DataW.weightsAll Tryd.prog e l
  | x :: r, d, hd, n, hn => by
    rw [DataW.weightsAll, List.mem_append]
    rcases List.mem_cons.1 hd with e | h
    · subst e; exact .inl hn
    · exact .inr (all_mem h n hn)
theorem inner_most {ts : List TypeId} {ds : List (DataW H)} (h : (DataW.weightsEach Tryd.prog ts ds).all (· ≤ reachBytes) = true) {elems spare a b : List (DataW H)} (ht : ts[0]? = some 34) (hd : ds[0]? = some (.slice elems spare)) (hx : DataW.slice a b ∈ elems) :
    a.length + b.length ≤ reachBytes := by
  have := of_decide_eq_true (List.all_eq_true.1 h ((a.length + b.length) * Tryd.prog.bytesOf 5) (DataW.weights_mem_each ht hd _ (by
    rw [DataW.weights, Tryd.underlying34]
    exact List.mem_cons_of_mem _ (List.mem_append_left _ (all_mem hx _ (by rw [DataW.weights, Tryd.underlying22]; exact List.mem_cons_self ..))))))
  rwa [bytes5, Nat.mul_one] at this
theorem open_parts {W : World} {base : Nat} {v : Value} {d : DataW H} {p : List MemPlace} {ts : List TypeId} {ds : List (DataW H)} (hval : Value.okWide Tryd.prog W .any base 34 v) (h : DataW.Trod enc Tryd.prog W 0 (fun _ => true) true 34 v d p)
    (ht : ts[0]? = some 34) (hd : ds[0]? = some d) (hsz : (DataW.weightsEach Tryd.prog ts ds).all (· ≤ reachBytes) = true) :
    ∃ (PA : Option Addr) (P cp : Nat) (A : Nat → Option Addr) (L C : Nat → Nat) (X : Nat → List (BitVec 8)), v = .slice PA P cp ∧ Parts W PA P A L C X ∧ P ≤ 2 ^ 47 := by
  obtain ⟨a1, len, cap, rfl⟩ := okWide_slice Tryd.underlying34 hval
  obtain ⟨fuel, hf⟩ := h
  rcases open_int_rows Tryd.underlying34 Tryd.underlying22 Tryd.underlying5 cells22 cells5 hf with ⟨hcs, _⟩ | ⟨a, len', cap', A, L, C, Z, hcs, _, hl, _, hx, hcell⟩
  · simp [Value.cells] at hcs
    obtain ⟨rfl, rfl, rfl⟩ := hcs
    exact ⟨none, 0, 0, fun _ => none, fun _ => 0, fun _ => 0, fun _ => [], rfl, ⟨fun h => absurd h (by omega), fun r h => absurd h (by omega), fun r h => absurd h (by omega), fun r h => absurd h (by omega), fun r h => absurd h (by omega)⟩, by decide⟩
  · simp [Value.cells] at hcs
    obtain ⟨rfl, rfl, rfl⟩ := hcs
    simp only [Prod.mk.injEq] at hx
    obtain ⟨rfl, _⟩ := hx
    have hr : reachBytes ≤ 2 ^ 47 := by decide
    have hP : len ≤ 2 ^ 47 := by
      have := sized_slice hsz ht hd Tryd.underlying34
      rw [bytes22, List.length_map, List.length_range] at this
      omega
    refine ⟨some a, len, cap, A, L, C, fun r => ((Z r).take (L r)).map byteOf, rfl, ⟨fun h0 => ⟨a, rfl, ?_, fun r hr => (hcell r (by omega)).1⟩, fun r hr => ?_, fun r hr => ?_, fun r hr => (hcell r (by omega)).2.2.2.2.2.1, fun r hr h0 => ?_⟩, hP⟩
    · have := block_lt_of_cell (hcell 0 (by omega)).1
      rwa [add_block] at this
    · obtain ⟨_, h1, _, h3, _⟩ := hcell r (by omega)
      simp; omega
    · obtain ⟨_, h1, _, h3, _, h5, _⟩ := hcell r (by omega)
      cases hA : A r with
      | none => have := h5 hA; omega
      | some a' =>
        have hm : intRow (H := H) .u8 (A r) (L r) (Z r) ∈ (List.range len).map fun r => intRow (H := H) .u8 (A r) (L r) (Z r) := List.mem_map.2 ⟨r, List.mem_range.2 hr, rfl⟩
        rw [show intRow (H := H) .u8 (A r) (L r) (Z r) = .slice (lits .u8 ((Z r).take (L r))) (lits .u8 ((Z r).drop (L r))) by unfold intRow; rw [hA]] at hm
        have := inner_most hsz ht hd hm
        simp [lits] at this
        omega
    · obtain ⟨_, h1, _, h3, h4, h5, h6⟩ := hcell r (by omega)
      have hl0 : (((Z r).take (L r)).map byteOf).length = L r := by simp; omega
      rw [hl0] at h0
      cases hA : A r with
      | none => have := h5 hA; omega
      | some a' =>
        obtain ⟨_, h7⟩ := h6 a' hA
        refine ⟨a', rfl, ?_, fun j hj => ?_⟩
        · have := block_lt_of_cell (h7 0 (by omega))
          rwa [add_block] at this
        · rw [hl0] at hj
          have hj' : j < (Z r).length := by omega
          rw [h7 j (by omega)]
          have e : (Z r).getD j 0 = (Z r)[j] := by simp [List.getD_eq_getElem?_getD, List.getElem?_eq_getElem hj']
          rw [e, byteOf_y (h4 _ (List.getElem_mem hj'))]
          congr 2
          rw [List.getD_eq_getElem?_getD, List.getElem?_map, List.getElem?_take, if_pos hj, List.getElem?_eq_getElem hj']
          rfl
end
end Go.Proofs.YtekccgdlohofkaaDoor
