/-
What is proved here: the cells of a write of the document's own disk: noughts, one number set, a row of one such.
-/
import Derived.Test.YtibidljblkfciaaRkb
import Derived.Great.BuildSlice
set_option linter.unusedSimpArgs false
namespace Go.Proofs.Ytibidljblkfciaa
open Go.Word Go.RowKit

/-- a write's cells, of a number -/
def wcel (z : Int) (q : Bytes) : Array Value := (Value.int .i64 z :: ((List.range 512).map fun j => Y (q j))).toArray
theorem wcel_size (z : Int) (q : Bytes) : (wcel z q).size = 513 := by simp [wcel]
theorem zero84 (W : World) : (zeroValue 84).run Try.prog W = .ok (.agg (wcel 0 nil8)) W := by kernel_rfl
theorem info84 : (Try.prog.info? 84).map (fun i => (i.zero, i.size, i.bytes)) = some (some (.agg (wcel 0 nil8)), 513, 520) := by kernel_rfl
theorem size84 : (Try.prog.info? 84).map (·.size) = some 513 := by kernel_rfl
theorem wcel_at0 (z : Int) (q : Bytes) : (wcel z q)[0]? = some (.int .i64 z) := by simp [wcel]
theorem wcel_at (z : Int) (q : Bytes) (j : Nat) (h : j < 512) : (wcel z q)[1 + j]? = some (Y (q j)) := by
  rw [Nat.add_comm]
  simp [wcel, h]
theorem wcel_one (z : Int) (q : Bytes) : (wcel z q).all (·.oneCell') = true := by
  rw [Array.all_eq_true_iff_forall_mem]
  intro v hv
  simp only [wcel, List.mem_toArray, List.mem_cons, List.mem_map] at hv
  rcases hv with rfl | ⟨j, _, rfl⟩ <;> rfl
theorem wcel_row (x : Nat × Bytes) : (wcel (x.1 : Int) x.2).toList = wrow x := rfl
theorem wcel_congr (z : Int) {q q' : Bytes} (h : ∀ j, j < 512 → q j = q' j) : wcel z q = wcel z q' := by
  unfold wcel
  rw [List.map_congr_left (fun j hj => by rw [h j (by simpa using hj)])]
theorem wcel_set0 (z z' : Int) (q : Bytes) : (wcel z q).setIfInBounds 0 (.int .i64 z') = wcel z' q := by simp [wcel]
/-- q's first i bytes, then noughts -/
def mix (q : Bytes) (i : Nat) : Bytes := fun j => if j < i then q j else nil8 j
theorem mix_zero (q : Bytes) : mix q 0 = nil8 := by funext j; simp [mix]
theorem wcel_step (z : Int) (q : Bytes) (i : Nat) (h : i < 512) : (wcel z (mix q i)).setIfInBounds (1 + i) (Y (q i)) = wcel z (mix q (i + 1)) := by
  refine Array.ext_getElem? fun j => ?_
  rw [Array.getElem?_setIfInBounds]
  by_cases h0 : j = 0
  · subst h0
    rw [if_neg (by omega), wcel_at0, wcel_at0]
  by_cases h1 : j < 513
  · obtain ⟨k, rfl⟩ : ∃ k, j = 1 + k := ⟨j - 1, by omega⟩
    by_cases e : i = k
    · subst e
      rw [if_pos rfl, if_pos (by rw [wcel_size]; omega), wcel_at _ _ _ h]
      simp [mix]
    · rw [if_neg (by omega), wcel_at _ _ _ (by omega), wcel_at _ _ _ (by omega)]
      unfold mix
      by_cases h2 : k < i
      · rw [if_pos h2, if_pos (by omega)]
      · rw [if_neg h2, if_neg (by omega)]
  · rw [if_neg (by omega), Array.getElem?_eq_none (by rw [wcel_size]; omega), Array.getElem?_eq_none (by rw [wcel_size]; omega)]
theorem mix_all (z : Int) (q : Bytes) : wcel z (mix q 512) = wcel z q := wcel_congr z (fun j hj => by simp [mix, hj])
theorem fold_set : ∀ (cs : List Value) (k : Nat) (base : Array Value), k + cs.length ≤ base.size → ∀ i, ((cs.zipIdx k).foldl (fun a (x : Value × Nat) => a.setIfInBounds (0 * 513 + x.2) x.1) base)[i]? = if k ≤ i ∧ i < k + cs.length then cs[i - k]? else base[i]?
  | [], k, base, _, i => by
    rw [if_neg (by simp)]
    rfl
  | c :: r, k, base, h, i => by
    rw [List.zipIdx_cons, List.foldl_cons, fold_set r (k + 1) _ (by simp at h ⊢; omega), Array.getElem?_setIfInBounds]
    simp only [List.length_cons]
    have e0 : 0 * 513 + k = k := by omega
    rw [e0]
    by_cases e : k = i
    · subst e
      rw [if_neg (by omega), if_pos rfl, if_pos (by simp at h; omega), if_pos (by omega), Nat.sub_self]
      rfl
    · by_cases h1 : k + 1 ≤ i ∧ i < k + 1 + r.length
      · rw [if_pos h1, if_pos (by omega), show i - k = (i - (k + 1)) + 1 by omega, List.getElem?_cons_succ]
      · rw [if_neg h1, if_neg e, if_neg (by omega)]
theorem fill_vs (base vs : Array Value) (hb : base.size = 513) (hv : vs.size = 513) : Instr.fill (fun i => some (i * 513, 513)) base [(0, .agg vs)] = some vs := by
  have hc : Value.cells (.agg vs) = vs := rfl
  unfold Instr.fill
  simp only [hc, hv]
  rw [if_neg (by simp [hb])]
  unfold Instr.fill
  refine congrArg some ?_
  rw [← Array.foldl_toList, Array.toList_zipIdx]
  refine Array.ext_getElem? fun i => ?_
  have := fold_set vs.toList 0 base (by rw [Array.length_toList, hv, hb]; omega) i
  refine this.trans ?_
  rw [Array.length_toList, hv]
  by_cases h : i < 513
  · rw [if_pos (by omega), Nat.sub_zero, Array.getElem?_toList]
  · rw [if_neg (by omega), Array.getElem?_eq_none (by rw [hb]; omega), Array.getElem?_eq_none (by rw [hv]; omega)]
theorem fill_one (base : Array Value) (z : Int) (q : Bytes) (hb : base.size = 513) : Instr.fill (fun i => some (i * 513, 513)) base [(0, .agg (wcel z q))] = some (wcel z q) := fill_vs base _ hb (wcel_size z q)
end Go.Proofs.Ytibidljblkfciaa
