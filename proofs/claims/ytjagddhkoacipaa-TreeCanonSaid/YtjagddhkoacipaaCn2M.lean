/-
What is proved here: nodes of the call's own, put in order by the library's sort.
-/
import Derived.Test.YtjagddhkoacipaaMa13
import Derived.Test.YtjagddhkoacipaaMa10
import Derived.Test.YtjagddhkoacipaaSrlM
set_option linter.unusedSimpArgs false
set_option linter.unusedVariables false
namespace Go.Proofs.Ytjagddhkoacipaa
open Go.Pth Go.Tre Go.RowKit Go.Word Go.Shelf Go.Sort

instance : Inhabited Nd := ⟨⟨[], 0, 0⟩⟩
def encNd (x : Nd) : List Value := [St x.path, .int .i64 x.file, .int .i64 x.mode]
theorem encNd_one (x : Nd) : ∀ v ∈ encNd x, v.oneCell' = true := fun v hv => by
  simp [encNd] at hv
  rcases hv with rfl | rfl | rfl <;> rfl
theorem flat_nodes (ns : List Nd) : (flatK encNd 3 ns.toArray).toList = ncells ns := by
  apply List.ext_getElem?
  intro t
  by_cases ht : t < ns.length * 3
  · have hs : t < (flatK encNd 3 ns.toArray).size := by simpa using ht
    have h1 := get_flatK encNd 3 ns.toArray t (by simpa using ht)
    rw [getElem!_pos _ t hs] at h1
    rw [Array.getElem?_toList, Array.getElem?_eq_getElem hs, h1]
    have hi : t / 3 < ns.length := by omega
    have e : ns.toArray[t / 3]! = ns[t / 3] := by simp [getElem!_pos ns (t / 3) hi]
    rw [e]
    obtain ⟨k1, k2, k3⟩ := ncells_at ns (t / 3) hi
    have h3 : t % 3 = 0 ∨ t % 3 = 1 ∨ t % 3 = 2 := by omega
    rcases h3 with h3 | h3 | h3
    · rw [show (ncells ns)[t]? = (ncells ns)[t / 3 * 3]? by congr 1; omega, k1, h3]; rfl
    · rw [show (ncells ns)[t]? = (ncells ns)[t / 3 * 3 + 1]? by congr 1; omega, k2, h3]; rfl
    · rw [show (ncells ns)[t]? = (ncells ns)[t / 3 * 3 + 2]? by congr 1; omega, k3, h3]; rfl
  · rw [List.getElem?_eq_none (by simp; omega), List.getElem?_eq_none (by rw [ncells_len]; omega)]
theorem holds_own {w : World} {B g cap : Nat} {ns : List Nd} (h : w.ownsRow B 54 3 (.slice (some ⟨g, 0, none⟩) ns.length cap) ns.length (ncells ns)) : HoldsK encNd 3 w g 0 ns.toArray := by
  intro j hj
  have hj' : j < ns.length * 3 := by simpa using hj
  refine ⟨?_, h.frozenAt _⟩
  rw [Nat.zero_add, h.cellAt j hj', ← flat_nodes ns, Array.getElem?_toList, Array.getElem?_eq_getElem hj, getElem!_pos _ j hj]
  rfl
theorem heap_sorted {w : World} {g n : Nat} {os : Array Obj} {cur : Array Value} {e : TypeId} {fr : Nat × Nat} (d : Array Value) (hb : w.heap[g]? = some (.cells cur e fr)) :
    (grow (putRow id (Sort.ahead w n) g 0 d) os).heap[g]? = some (.cells (putCells id 0 d cur) e fr) := by
  have hg : g < w.heap.size := (Array.getElem?_eq_some_iff.1 hb).1
  rw [heap_grow_old _ _ (by simpa using hg)]
  simp [putRow, mapBlock, Sort.ahead, Array.getElem?_modify, hb, onCells]
theorem grownBy_sorted {w : World} {g n : Nat} {os : Array Obj} (d : Array Value) : w.grownBy (grow (putRow id (Sort.ahead w n) g 0 d) os) (some g) := by
  refine ⟨rfl, rfl, rfl, by simp, fun k hk hne => ?_⟩
  rw [heap_grow_old _ _ (by simpa using hk)]
  have : g ≠ k := fun e => hne (by rw [e])
  simp [putRow, mapBlock, Sort.ahead, Array.getElem?_modify, this]
theorem take_putCells (cur d : Array Value) (h : d.size ≤ cur.size) : (putCells id 0 d cur).toList.take d.size = d.toList := by
  apply List.ext_getElem?
  intro j
  by_cases hj : j < d.size
  · rw [List.getElem?_take_of_lt hj, Array.getElem?_toList]
    simp [putCells, hj, show j < cur.size by omega]
  · rw [List.getElem?_take_eq_none (by omega), List.getElem?_eq_none (by simp; omega)]
theorem own_sorted {w : World} {B g cap n : Nat} {ns ms : List Nd} {os : Array Obj} (hl : ms.length = ns.length) (h : w.ownsRow B 54 3 (.slice (some ⟨g, 0, none⟩) ns.length cap) ns.length (ncells ns)) :
    (sortWorldK encNd 3 w g 0 n ms.toArray os).ownsRow B 54 3 (.slice (some ⟨g, 0, none⟩) ns.length cap) ns.length (ncells ms) := by
  rcases h.2 with ⟨h0, _⟩ | ⟨g', cap', cur, hv, hg, hb, hn, hcap, hs, _⟩
  · cases h0
  · injection hv with e1 e2 e3
    injection e1 with e1
    injection e1 with e1
    subst e1 e3
    have hF : (flatK encNd 3 ms.toArray).size = ns.length * 3 := by simp [hl]
    refine ⟨by rw [ncells_len, hl], .inr ⟨g, cap, _, rfl, hg, heap_sorted _ hb, hn, hcap, by simp [putCells, hs], ?_⟩⟩
    have := take_putCells cur (flatK encNd 3 ms.toArray) (by rw [hF, hs]; exact Nat.mul_le_mul_right 3 hn)
    rw [hF, flat_nodes] at this
    exact this
/-- the order of two texts, as a number -/
def cmpB (a b : Bt) : Int := if Op.bytesLess a b = true then -1 else if Op.bytesLess b a = true then 1 else 0
theorem lt_cmp (x y : Nd) : ltOf (fun x y : Nd => cmpB x.path y.path) x y = Op.bytesLess x.path y.path := by
  unfold ltOf cmpB
  by_cases h : Op.bytesLess x.path y.path = true
  · simp [h]
  · by_cases h2 : Op.bytesLess y.path x.path = true <;> simp [h, h2]
theorem swo_cmp : SWO (ltOf fun x y : Nd => cmpB x.path y.path) where
  irrefl x := by rw [lt_cmp]; exact bl_irrefl _
  trans x y z h1 h2 := by rw [lt_cmp] at *; exact bl_trans _ _ _ h1 h2
  ntrans x y z h1 h2 := by
    rw [lt_cmp] at *
    cases h : Op.bytesLess x.path z.path with
    | false => rfl
    | true =>
      rcases bl_total x.path y.path with h3 | h3 | h3
      · rw [h3] at h1; cases h1
      · rw [h3, h2] at h; cases h
      · rw [bl_trans _ _ _ h3 h] at h2; cases h2
theorem st_lss (t : TypeId) (a b : Bt) : binOp .lss t (St a) (St b) = pure (.bool (Op.bytesLess a b)) := by
  unfold St
  rw [binOp_string_lss, ByteArray.toList_mk, ByteArray.toList_mk]
theorem st_gtr (t : TypeId) (a b : Bt) : binOp .gtr t (St a) (St b) = pure (.bool (Op.bytesLess b a)) := by
  unfold St
  rw [binOp_string_gtr, ByteArray.toList_mk, ByteArray.toList_mk]
  congr 2
  cases h : Op.bytesLess b a with
  | true =>
    have h2 : leB a b = false := (leB_false a b).2 h
    show (!leB a b) = true
    rw [h2]; rfl
  | false =>
    have h2 : leB a b = true := by
      cases h3 : leB a b with
      | true => rfl
      | false => rw [(leB_false a b).1 h3] at h; cases h
    show (!leB a b) = false
    rw [h2]; rfl
attribute [local go_sem] guard_eq guard_ne st_eql st_neq st_lss st_gtr
theorem other_self (a : Bt) : other a a = false := by simp [other]
theorem isNaN_any (a : Bt) (w : World) : Calls Try.prog 84 #[St a] w fun e w' => e = .returned (.bool false) ∧ w = w' := by
  have h := other_self a
  go_enter Try.func84, Try.ntmps84
  go_wp2
  go_ret
  exact ⟨by first | rfl | rw [h], rfl⟩
theorem compare_any (a b : Bt) (w : World) : Calls Try.prog 67 #[St a, St b] w fun e w' => e = .returned (.int .i64 (cmpB a b)) ∧ w = w' := by
  unfold cmpB
  cases h1 : Op.bytesLess a b with
  | true =>
    go_enter Try.func67, Try.ntmps67
    go_wp2_with (go_at_call 84; (with_reducible refine (isNaN_any _ _).mono ?_); rintro e w' ⟨rfl, rfl⟩)
    go_ret
    exact ⟨rfl, rfl⟩
  | false =>
    cases h2 : Op.bytesLess b a with
    | true =>
      go_enter Try.func67, Try.ntmps67
      go_wp2_with (go_at_call 84; (with_reducible refine (isNaN_any _ _).mono ?_); rintro e w' ⟨rfl, rfl⟩)
      go_ret
      exact ⟨rfl, rfl⟩
    | false =>
      go_enter Try.func67, Try.ntmps67
      go_wp2_with (go_at_call 84; (with_reducible refine (isNaN_any _ _).mono ?_); rintro e w' ⟨rfl, rfl⟩)
      go_ret
      exact ⟨rfl, rfl⟩
theorem closure_any (x y : Nd) (w : World) : Calls Try.prog 66 #[.agg #[St x.path, .int .i64 x.file, .int .i64 x.mode], .agg #[St y.path, .int .i64 y.file, .int .i64 y.mode]] w fun e w' => e = .returned (.int .i64 (cmpB x.path y.path)) ∧ ∃ q os', w' = grow (w.drewN q) os' := by
  obtain ⟨p, f, m⟩ := x
  obtain ⟨p', f', m'⟩ := y
  have hcon := fun W => Lib.hid (compare_any p p' W)
  generalize cmpB p p' = r at *
  go_enter Try.func66, Try.ntmps66
  go_wp2_with (go_at_call 67; (with_reducible refine (hcon _).out.mono ?_); rintro e w' ⟨rfl, rfl⟩)
  go_ret
  exact ⟨rfl, 0, _, by rw [alloc_eq_grow, alloc_eq_grow, grow_grow]; rfl⟩
theorem cmpLays_any (blk off size : Nat) (w : World) : CmpLays Try.prog 66 #[] encNd 3 (fun x y : Nd => cmpB x.path y.path) blk off size w :=
  fun _ _ _ _ x y => closure_any x y _
/-- slices.SortFunc over nodes of the call's own -/
theorem sort_any (vN : Value) (ns : List Nd) (B : Nat) (w : World) (h : w.ownsRow B 54 3 vN ns.length (ncells ns)) (hn : ns.length ≤ 1000000) :
    Calls Try.prog 65 #[vN, .func (.func 66) #[] #[]] w fun e w' => e = .returned (.tuple #[]) ∧
      ∃ ms : List Nd, ms.Perm ns ∧ ms.Pairwise (fun x y => Op.bytesLess y.path x.path = false) ∧ w'.ownsRow B 54 3 vN ns.length (ncells ms) ∧ w.grownBy w' vN.ownBlock := by
  rcases h.2 with ⟨rfl, h0⟩ | ⟨g, cap, cur, rfl, hg, hb, h1, h2, h3, h4⟩
  · have e : ns = [] := List.length_eq_zero_iff.1 h0
    subst e
    have hcon := AnyF.slices_SortFunc_none sortNd none 0 (.func (.func 66) #[] #[]) w
    change Calls Try.prog 65 _ _ _ at hcon
    refine hcon.mono ?_
    rintro e w' ⟨rfl, rfl⟩
    exact ⟨rfl, [], List.Perm.refl _, by simp, h, ⟨rfl, rfl, rfl, Nat.le_refl _, fun _ _ _ => rfl⟩⟩
  · have eg : ∀ args w, (callFunc 66 args).run Try.prog w = .ok (.enter 66 args) w := enters_of Try.func66 (by kernel_rfl) rfl
    have hcon := AnyQ.slices_SortFunc sortNd 3 Try.isAgg54 Try.sizeOf54 encNd (fun _ => rfl) encNd_one (fun x y : Nd => cmpB x.path y.path) swo_cmp 66 #[] g 0 cap ns.toArray w eg (cmpLays_any g 0 _ w) (holds_own h) (Array.getElem?_eq_some_iff.1 hb).1 (by simp; omega)
    change Calls Try.prog 65 _ _ _ at hcon
    simp only [List.size_toArray] at hcon
    refine hcon.mono ?_
    rintro e w' ⟨rfl, d', n, os, ⟨hs, _, hp⟩, hsort, rfl⟩
    simp only [List.size_toArray] at hs
    refine ⟨rfl, d'.toList, ?_, ?_, ?_, grownBy_sorted _⟩
    · rw [Array.toList_extract, Array.toList_extract] at hp
      have hp2 : (List.take d'.size d'.toList).Perm (List.take d'.size ns) := by simpa [List.extract, ← hs] using hp
      rw [List.take_of_length_le (by simp), List.take_of_length_le (by omega)] at hp2
      exact hp2
    · refine List.pairwise_iff_getElem.2 (fun i j hi hj hij => ?_)
      have hi' : i < d'.size := by simpa using hi
      have hj' : j < d'.size := by simpa using hj
      have := hsort i j (Nat.zero_le _) hij (by omega)
      rw [lt_cmp, getElem!_pos d' i hi', getElem!_pos d' j hj'] at this
      simpa using this
    · have := own_sorted (n := n) (os := os) (ms := d'.toList) (by simpa using hs) h
      simpa using this
end Go.Proofs.Ytjagddhkoacipaa
