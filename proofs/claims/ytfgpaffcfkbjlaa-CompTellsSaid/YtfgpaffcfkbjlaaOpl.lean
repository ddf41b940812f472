/-
What is proved here: lists of lists of numbers that came in, as a row of this seat gives them.
-/
import Derived.Test.YtfgpaffcfkbjlaaOpi
import Derived.Deep.Matrix
set_option linter.unusedSimpArgs false
set_option linter.unusedVariables false
namespace Go.Proofs.Ytfgpaffcfkbjlaa
open Go.Cmp Go.ChangeShapes Go.WideShapes Go.ChangeAt Go.RowKit Go.Deep
section
variable {H : Type} {enc : TypeId × Value → H}
theorem cells33 : Try.prog.cellsOf 33 = 1 := by kernel_rfl
theorem add_none {a : Addr} {i : Nat} (h : a.spot = none) : a.add i = ⟨a.block, a.off + i, none⟩ := by
  obtain ⟨b, off, spot⟩ := a
  have h : spot = none := h
  subst h
  unfold Addr.add
  split <;> simp [*]
set_option maxRecDepth 100000 in
theorem open_rows {W : World} {base : Nat} {v : Value} {d : DataW H} {p : List MemPlace} (hval : Value.okWide Try.prog W .any base 22 v) (h : DataW.Trod enc Try.prog W 0 (fun _ => true) true 22 v d p) :
    ∃ (A : Option Addr) (c : Nat) (N : List (List Int)), v = .slice A N.length c ∧ LsAt W A N := by
  obtain ⟨a1, len, cap, rfl⟩ := okWide_slice Try.underlying22 hval
  obtain ⟨fuel, hf⟩ := h
  rcases open_int_rows Try.underlying22 Try.underlying33 Try.underlying3 cells33 cells3 hf with ⟨hcs, _⟩ | ⟨a, len', cap', A, L, C, Z, hcs, _, hl, hm, _, hr⟩
  · simp [Value.cells] at hcs
    obtain ⟨rfl, rfl, rfl⟩ := hcs
    exact ⟨none, 0, [], rfl, fun i hi => by cases hi⟩
  · simp [Value.cells] at hcs
    obtain ⟨rfl, rfl, rfl⟩ := hcs
    have hlen : ((List.range len).map fun r => (Z r).take (L r)).length = len := by simp
    refine ⟨some a, cap, (List.range len).map fun r => (Z r).take (L r), by rw [hlen], fun i hi => ?_⟩
    rw [hlen] at hi
    obtain ⟨hc, hLC, hCm, hZ, hwf, hnil, hin⟩ := hr i (by omega)
    have hspot : a.spot = none := by
      have h0 := (hr 0 (by omega)).1
      rw [show a.add 0 = a by simp [Addr.add]] at h0
      exact World.cell?_spot h0
    have hli : ((Z i).take (L i)).length = L i := by simp; omega
    have ei : ((List.range len).map fun r => (Z r).take (L r))[i]'(by simpa using hi) = (Z i).take (L i) := by simp
    rw [add_none hspot] at hc
    refine ⟨a.block, a.off, A i, C i, by obtain ⟨b, off, spot⟩ := a; have hspot : spot = none := hspot; subst hspot; rfl, (show (⟨a.block, a.off + i, none⟩ : Addr).block < W.heap.size from block_lt_of_cell hc), by rw [ei, hli]; exact hc, by rw [ei, hli]; exact hLC, ?_⟩
    rw [ei]
    intro k hk
    rw [hli] at hk
    cases hA : A i with
    | none => have := hnil hA; omega
    | some a' =>
      obtain ⟨_, hcell⟩ := hin a' hA
      have hsp : a'.spot = none := by
        have h0 := hcell 0 (by omega)
        rw [show a'.add 0 = a' by simp [Addr.add]] at h0
        exact World.cell?_spot h0
      have hc2 := hcell k (by omega)
      rw [add_none hsp] at hc2
      refine ⟨a'.block, a'.off, by obtain ⟨b, off, spot⟩ := a'; have hsp : spot = none := hsp; subst hsp; rfl, (show (⟨a'.block, a'.off + k, none⟩ : Addr).block < W.heap.size from block_lt_of_cell hc2), ?_⟩
      rw [hc2, List.getElem_take, List.getD_eq_getElem?_getD, List.getElem?_eq_getElem (by omega)]
      rfl
theorem weightsAll_mem {P : Program} {e : TypeId} : ∀ {l : List (DataW H)} {d : DataW H}, d ∈ l → ∀ m ∈ d.weights P e, m ∈ DataW.weightsAll P e l
  | [], _, h, _, _ => by cases h
  | y :: r, d, h, m, hm => by
    simp only [DataW.weightsAll, List.mem_append]
    rcases List.mem_cons.1 h with rfl | h
    · exact .inl hm
    · exact .inr (weightsAll_mem h m hm)
theorem bytes33w : Try.prog.bytesOf 33 = 24 := by kernel_rfl
theorem bytes3w : Try.prog.bytesOf 3 = 8 := by kernel_rfl
set_option maxRecDepth 100000 in
/-- of lengths that are no greater than memory -/
theorem open_rowsw {W : World} {base : Nat} {v : Value} {d : DataW H} {p : List MemPlace} (hval : Value.okWide Try.prog W .any base 22 v) (h : DataW.Trod enc Try.prog W 0 (fun _ => true) true 22 v d p) :
    ∃ (A : Option Addr) (c : Nat) (N : List (List Int)), v = .slice A N.length c ∧ LsAt W A N ∧ ((∀ m ∈ d.weights Try.prog 22, m ≤ reachBytes) → N.length ≤ reachBytes ∧ ∀ l ∈ N, l.length ≤ reachBytes) := by
  obtain ⟨A, c, N, hv, hL⟩ := open_rows hval h
  refine ⟨A, c, N, hv, hL, fun hw => ?_⟩
  obtain ⟨a1, len, cap, rfl⟩ := okWide_slice Try.underlying22 hval
  obtain ⟨fuel, hf⟩ := h
  injection hv with e1 e2 e3
  subst e1 e2 e3
  rcases open_int_rows Try.underlying22 Try.underlying33 Try.underlying3 cells33 cells3 hf with ⟨hcs, _⟩ | ⟨a, len', cap', A', L, C, Z, hcs, _, hl, hm, hx, hr⟩
  · simp [Value.cells] at hcs
    obtain ⟨rfl, hN, rfl⟩ := hcs
    have : N = [] := by first | exact hN | exact List.length_eq_zero_iff.1 hN
    subst this
    exact ⟨by simp, fun l hl => by cases hl⟩
  · simp [Value.cells] at hcs
    obtain ⟨rfl, rfl, rfl⟩ := hcs
    injection hx with hd _
    have h1 := hw ((N.length + (cap - N.length)) * Try.prog.bytesOf 33) (by rw [hd]; simp only [DataW.weights, Try.underlying22, List.mem_cons]; left; simp)
    rw [bytes33w] at h1
    refine ⟨by omega, fun l hl' => ?_⟩
    obtain ⟨i, hi, rfl⟩ := List.getElem_of_mem hl'
    obtain ⟨hc, hLC, hCm, hZ, _, hnil, hin⟩ := hr i (by omega)
    obtain ⟨b, o, A2, c2, e, _, hc2, _⟩ := hL i hi
    have hspot : a.spot = none := by
      injection e with e
      rw [e]
    rw [add_none hspot] at hc
    injection e with e
    subst e
    rw [hc] at hc2
    injection hc2 with hc2
    injection hc2 with _ e4 _
    cases hA : A' i with
    | none =>
      have := hnil hA
      omega
    | some a' =>
      have h2 := hw (((Z i).take (L i)).length * 8 + ((Z i).drop (L i)).length * 8) (by
        rw [hd]
        simp only [DataW.weights, Try.underlying22, List.mem_cons, List.mem_append]
        refine .inr (.inl (weightsAll_mem (List.mem_map.2 ⟨i, by simpa using hi, rfl⟩) _ ?_))
        unfold intRow
        rw [hA]
        simp only [DataW.weights, Try.underlying33, List.mem_cons, bytes3w]
        left
        simp [lits, Nat.add_mul])
      rw [List.length_take, List.length_drop] at h2
      omega
end
end Go.Proofs.Ytfgpaffcfkbjlaa
