/-
What is proved here: a row of one's own that is cut and put together again; the list of the files' new numbers.
-/
import Derived.Test.YtjagddhkoacipaaSt1M
import Derived.Laws.OwnMore
import Derived.Laws.ResultCell
set_option linter.unusedSimpArgs false
set_option linter.unusedVariables false
namespace Go.Tre
open Go.Pth Go.Op
theorem ins_at : ∀ (x : Nd) (u : List Nd) (k : Nat), k ≤ u.length → (∀ j (h : j < u.length), j < k → bytesLess u[j].path x.path = true) → (∀ h : k < u.length, bytesLess u[k].path x.path = false) → insN x u = u.take k ++ x :: u.drop k
  | x, [], k, hk, _, _ => by
    obtain rfl : k = 0 := by simpa using hk
    rfl
  | x, y :: r, 0, _, _, h => by
    have h1 : bytesLess y.path x.path = false := h (by simp)
    unfold insN
    rw [if_neg (by simp [h1])]
    rfl
  | x, y :: r, k + 1, hk, h1, h2 => by
    have h0 : bytesLess y.path x.path = true := h1 0 (by simp) (by omega)
    unfold insN
    rw [if_pos h0, ins_at x r k (by simpa using hk) (fun j hj hjk => h1 (j + 1) (by simpa using hj) (by omega)) (fun hk2 => h2 (by simpa using hk2))]
    rfl
theorem sortI_take (ns : List Nd) (i : Nat) (h : i < ns.length) : sortI (ns.take (i + 1)) = insN ns[i] (sortI (ns.take i)) := by
  unfold sortI
  rw [List.take_succ_eq_append_getElem h, List.foldl_append]
  rfl
theorem sortI_len (ns : List Nd) : (sortI ns).length = ns.length := (sortI_perm ns).length_eq
/-- the new number of the file f, or -1 -/
def toI (o : List Int) (f : Nat) : Int := if (f : Int) ∈ o then (o.idxOf (f : Int) : Nat) else -1
def toL (m : Nat) (o : List Int) : List Value := (List.range m).map fun f => .int .i64 (toI o f)
theorem toL_len (m : Nat) (o : List Int) : (toL m o).length = m := by simp [toL]
theorem toL_at (m : Nat) (o : List Int) (f : Nat) (h : f < m) : (toL m o)[f]? = some (.int .i64 (toI o f)) := by simp [toL, h]
theorem toI_no {o : List Int} {f : Nat} (h : (f : Int) ∉ o) : toI o f = -1 := by unfold toI; rw [if_neg h]
theorem toI_yes {o : List Int} {f : Nat} (h : (f : Int) ∈ o) : toI o f = (o.idxOf (f : Int) : Nat) := by unfold toI; rw [if_pos h]
theorem idx_snoc {o : List Int} {f : Int} (h : f ∉ o) : (o ++ [f]).idxOf f = o.length := by
  rw [List.idxOf_append, if_neg h]
  simp
theorem toL_new (m : Nat) (o : List Int) (f : Nat) (hf : f < m) (h : (f : Int) ∉ o) : (toL m o).set f (.int .i64 (o.length : Nat)) = toL m (o ++ [(f : Int)]) := by
  apply List.ext_getElem?
  intro i
  by_cases hi : i < m
  · rw [toL_at m _ i hi, List.getElem?_set, toL_len]
    by_cases e : f = i
    · subst e
      rw [if_pos rfl, if_pos hf, toI_yes (by simp), idx_snoc h]
    · rw [if_neg e, toL_at m _ i hi]
      have ne : (i : Int) ≠ (f : Int) := by omega
      by_cases hm : (i : Int) ∈ o
      · rw [toI_yes hm, toI_yes (List.mem_append_left _ hm), List.idxOf_append, if_pos hm]
      · rw [toI_no hm, toI_no (by simp [hm, ne])]
  · rw [List.getElem?_eq_none (by rw [List.length_set, toL_len]; omega), List.getElem?_eq_none (by rw [toL_len]; omega)]
/-- the list of which the first i places are laid -/
def toZ (m i : Nat) : List Value := (List.range m).map fun f => .int .i64 (if f < i then -1 else 0)
theorem toZ_len (m i : Nat) : (toZ m i).length = m := by simp [toZ]
theorem toZ_first (m : Nat) : toZ m 0 = List.replicate m (.int .i64 0) := by
  apply List.ext_getElem?
  intro i
  simp only [toZ, Nat.not_lt_zero, if_false, List.getElem?_map, List.getElem?_replicate]
  by_cases h : i < m
  · simp [h]
  · simp [h]
theorem toZ_step (m i : Nat) (h : i < m) : (toZ m i).set i (.int .i64 (-1)) = toZ m (i + 1) := by
  apply List.ext_getElem?
  intro j
  rw [List.getElem?_set, toZ_len]
  simp only [toZ, List.getElem?_map]
  by_cases e : i = j
  · subst e
    simp [h]
  · rw [if_neg e]
    by_cases hj : j < m
    · simp only [List.getElem?_range hj, Option.map_some]
      congr 2
      by_cases h1 : j < i
      · rw [if_pos h1, if_pos (by omega)]
      · rw [if_neg h1, if_neg (by omega)]
    · rw [List.getElem?_eq_none (by simp; omega)]
      rfl
theorem toZ_last (m : Nat) : toZ m m = toL m [] := by
  unfold toZ toL
  refine List.map_congr_left (fun f hf => ?_)
  have : f < m := by simpa using hf
  rw [if_pos this, toI_no (by simp)]
theorem tooB_no2 {n : Nat} {fs : List Fl} (h : tooB n fs = false) : n ≤ 256 ∧ fs.length ≤ 256 ∧ ∀ x ∈ fs, x.data.length ≤ 8192 := by
  unfold tooB anyGreat at h
  simp only [Bool.or_eq_false_iff, decide_eq_false_iff_not, List.any_eq_false, decide_eq_true_eq] at h
  obtain ⟨h1, h2, h3⟩ := h
  exact ⟨by omega, by omega, fun x hx => by have := h3 x hx; omega⟩
end Go.Tre
namespace Go.Proofs.Ytjagddhkoacipaa
open Go.Pth Go.Tre Go.RowKit Go.Word Go.Shelf
theorem own_prefix {w : World} {B e size n C : Nat} {A : Option Addr} {xs : List Value} (h : w.ownsRow B e size (.slice A n C) n xs) (k : Nat) (hk : k ≤ n) : w.ownsRow B e size (.slice A k C) k (xs.take (k * size)) := by
  obtain ⟨h0, h1⟩ := h
  have hm : k * size ≤ n * size := Nat.mul_le_mul_right _ hk
  refine ⟨by rw [List.length_take, h0]; omega, ?_⟩
  rcases h1 with ⟨e1, e2⟩ | ⟨g, cap, cur, e1, hb, hg, hc, hm2, hs, ht⟩
  · injection e1 with a b c
    subst a c e2
    obtain rfl : k = 0 := by omega
    exact .inl ⟨rfl, rfl⟩
  · injection e1 with a b c
    subst a c
    refine .inr ⟨g, C, cur, rfl, hb, hg, by omega, hm2, hs, ?_⟩
    rw [← ht, List.take_take]
    congr 1
    omega
theorem ncells_take : ∀ (us : List Nd) (k : Nat), (ncells us).take (k * 3) = ncells (us.take k)
  | [], k => by simp [ncells]
  | x :: r, 0 => by simp [ncells]
  | x :: r, k + 1 => by
    have ih := ncells_take r k
    unfold ncells at ih ⊢
    rw [List.take_succ_cons, List.flatMap_cons, List.flatMap_cons, ← ih, List.take_append]
    congr 1
    · rw [List.take_of_length_le (by simp; omega)]
    · congr 1
      simp
      omega
theorem ncells_app (a b : List Nd) : ncells (a ++ b) = ncells a ++ ncells b := by
  unfold ncells
  exact List.flatMap_append
theorem own_nodes {w : World} {B : Nat} {v : Value} {us : List Nd} (h : w.ownsRow B 54 3 v us.length (ncells us)) : ∃ A C, v = .slice A us.length C ∧ NodesAt w A us ∧ us.length ≤ C ∧ (A = none → C = 0) := by
  rcases h.2 with ⟨e, h0⟩ | ⟨g, cap, cur, e, hg, hb, hc, _⟩
  · exact ⟨none, 0, by rw [e, h0], fun i hi => by omega, by omega, fun _ => rfl⟩
  · subst e
    refine ⟨_, _, rfl, fun i hi => ⟨g, 0, rfl, (Array.getElem?_eq_some_iff.1 hb).1, ?_⟩, hc, fun e => by cases e⟩
    obtain ⟨k1, k2, k3⟩ := ncells_at us i hi
    rw [Nat.zero_add, h.cellAt _ (by omega), h.cellAt _ (by omega), h.cellAt _ (by omega)]
    exact ⟨k1, k2, k3⟩
theorem nodes_drop {w : World} {A : Option Addr} {us : List Nd} (h : NodesAt w A us) (k c : Nat) (hk : k ≤ us.length) (hc : us.length ≤ c) : NodesAt w (if c = k then A else A.map (·.add (k * 3))) (us.drop k) := fun i hi => by
  rw [List.length_drop] at hi
  obtain ⟨b, o, e, h0, h1, h2, h3⟩ := h (k + i) (by omega)
  subst e
  rw [if_neg (by omega)]
  refine ⟨b, o + k * 3, by rw [Option.map_some, Addr.add_mid], h0, ?_, ?_, ?_⟩
  · rw [List.getElem_drop, ← h1, show o + k * 3 + i * 3 = o + (k + i) * 3 by omega]
  · rw [List.getElem_drop, ← h2, show o + k * 3 + i * 3 + 1 = o + (k + i) * 3 + 1 by omega]
  · rw [List.getElem_drop, ← h3, show o + k * 3 + i * 3 + 2 = o + (k + i) * 3 + 2 by omega]
set_option maxRecDepth 100000 in
theorem cut_to (A : Option Addr) (k c m : Nat) (h : m ≤ c) (W : World) : (Instr.slice 22 (.slice A k c) none (some (.int .i64 (m : Int))) none).run Try.prog W = .ok (.slice A m c) W := by
  have := run_slice_h (P := Try.prog) W 22 A k c Try.underlying22 .i64 (m : Int) (by omega) (by omega)
  rw [this]
  have hz : (sizeOf (Try.prog.elem 22)).run Try.prog W = .ok 3 W := by kernel_rfl
  rw [hz]
  cases A <;> simp [sliced, Result.andThen, Addr.add]
set_option maxRecDepth 100000 in
theorem cut_from (A : Option Addr) (k c m : Nat) (h : m ≤ k) (W : World) : (Instr.slice 22 (.slice A k c) (some (.int .i64 (m : Int))) none none).run Try.prog W = .ok (.slice (if c = m then A else A.map (·.add (m * 3))) (k - m) (c - m)) W := by
  have := run_slice_l (P := Try.prog) W 22 A k c Try.underlying22 .i64 (m : Int) (by omega) (by omega)
  rw [this]
  have hz : (sizeOf (Try.prog.elem 22)).run Try.prog W = .ok 3 W := by kernel_rfl
  rw [hz]
  simp [sliced]
/-- nodes put behind a row of one's own -/
theorem run_app_row (w : World) (ty : TypeId) (B : Nat) (v : Value) (us vs : List Nd) (A : Option Addr) (C : Nat) (h : w.ownsRow B 54 3 v us.length (ncells us)) (hr : NodesAt w A vs) (hB : B ≤ w.heap.size) (h1 : us.length ≤ 1000000) (h2 : vs.length ≤ 1000000) (hC : A = none → C = 0) :
    ∃ v' w', (Builtin.append_ #[22, 22] ty #[v, .slice A vs.length C]).run Try.prog w = .ok v' w' ∧ w'.ownsRow B 54 3 v' (us ++ vs).length (ncells (us ++ vs)) ∧ w.grownBy w' v.ownBlock := by
  obtain ⟨i0, hi, hz0, hz1, hz2⟩ := info_parts node_info3
  rw [List.length_append, ncells_app]
  cases A with
  | none =>
    have hd0 : vs = [] := by
      cases vs with
      | nil => rfl
      | cons c t =>
        obtain ⟨b, o, e, _⟩ := hr 0 (by simp)
        cases e
    subst hd0
    rw [hC rfl]
    refine ⟨v, w, run_append_owned_none (P := Try.prog) w B 22 ty 54 i0 3 Try.underlying22 hi v us.length _ h, ?_, ⟨rfl, rfl, rfl, Nat.le_refl _, fun _ _ _ => rfl⟩⟩
    simpa [ncells] using h
  | some ad =>
    obtain ⟨v', w', h3, h4, h5, _⟩ := run_append_own (P := Try.prog) w B 22 ty 54 i0 _ 3 32 Try.underlying22 hi hz0 hz1 hz2 rfl (by decide) v us.length (ncells us) h ad vs.length C (ncells vs) (ncells_len vs) (ncells_src hr) (ncells_one vs) (by unfold maxLen; omega) (by omega) hB
    exact ⟨v', w', h3, h4, h5⟩
theorem own_apart {w : World} {B e size : Nat} {v : Value} {n : Nat} {xs : List Value} {row : Option Nat} (h : w.ownsRow B e size v n xs) (hr : ∀ r, row = some r → r < B) : v.ownBlock = none ∨ v.ownBlock ≠ row := by
  cases hv : v.ownBlock with
  | none => exact .inl rfl
  | some b =>
    refine .inr (fun e1 => ?_)
    have h1 := (h.lt b hv).1
    have h2 := hr b e1.symm
    omega
/-- the worlds and values of one node put into its place -/
theorem ins_worlds (wy : World) (B : Nat) (A : Option Addr) (C : Nat) (u : List Nd) (x : Nd) (k : Nat) (hk : k ≤ u.length) (h : wy.ownsRow B 54 3 (.slice A u.length C) u.length (ncells u)) (hB : B ≤ wy.heap.size) (hl : u.length ≤ 1000) :
    ∃ AR CR W1, (Builtin.append_ #[22, 22] 22 #[.slice none 0 0, .slice (if C = k then A else A.map (·.add (k * 3))) (u.length - k) (C - k)]).run Try.prog wy = .ok (.slice AR (u.length - k) CR) W1 ∧ wy.grownBy W1 none ∧
    ∃ A3 C3 Z3, (Builtin.append_ #[22, 22] 22 #[.slice A k C, .slice (some ⟨W1.heap.size, 0, none⟩) 1 1]).run Try.prog (W1.drew.alloc (.cells #[St x.path, .int .i64 x.file, .int .i64 x.mode] 54)) = .ok (.slice A3 (k + 1) C3) Z3 ∧ (W1.drew.alloc (.cells #[St x.path, .int .i64 x.file, .int .i64 x.mode] 54)).grownBy Z3 (Value.slice A k C).ownBlock ∧
      (∀ r, (Value.slice A k C).ownBlock = some r → B ≤ r ∧ ∃ cs, (W1.drew.alloc (.cells #[St x.path, .int .i64 x.file, .int .i64 x.mode] 54)).heap[r]? = some (.cells cs 54 (0, 0))) ∧ (∀ r, (Value.slice A3 (k + 1) C3).ownBlock = some r → B ≤ r ∧ ∃ cs, Z3.heap[r]? = some (.cells cs 54 (0, 0))) ∧
    ∃ A4 C4 Z4, (Builtin.append_ #[22, 22] 22 #[.slice A3 (k + 1) C3, .slice AR (u.length - k) CR]).run Try.prog Z3 = .ok (.slice A4 (u.length + 1) C4) Z4 ∧ Z3.grownBy Z4 (Value.slice A3 (k + 1) C3).ownBlock ∧ Z4.ownsRow B 54 3 (.slice A4 (u.length + 1) C4) (u.length + 1) (ncells (u.take k ++ x :: u.drop k)) := by
  obtain ⟨A', C', e, hn, hc, hz⟩ := own_nodes h
  obtain ⟨rfl, rfl⟩ : A = A' ∧ C = C' := by injection e with h1 h2 h3; exact ⟨h1, h3⟩
  have ld : (u.drop k).length = u.length - k := List.length_drop
  obtain ⟨vR, W1, r1, o1, g1⟩ := run_app_nodes wy 22 _ (C - k) (u.drop k) (nodes_drop hn k C hk hc) (by omega)
  obtain ⟨AR, CR, rfl, _, _, hzR⟩ := own_nodes o1
  rw [ld] at r1
  have hpre := own_prefix h k hk
  rw [ncells_take] at hpre
  have lt : (u.take k).length = k := by rw [List.length_take]; omega
  have g2 : wy.grownBy (W1.drew.alloc (.cells #[St x.path, .int .i64 x.file, .int .i64 x.mode] 54)) none := ⟨g1.os, g1.tape, g1.output, Nat.le_trans g1.size (by simp), fun q hq hne => (heap_alloc_old W1.drew _ (Nat.lt_of_lt_of_le hq g1.size)).trans (g1.block q hq hne)⟩
  have p2 := hpre.kept g2 (by cases (Value.slice A k C).ownBlock <;> simp)
  have o2 : (W1.drew.alloc (.cells #[St x.path, .int .i64 x.file, .int .i64 x.mode] 54)).ownsRow wy.heap.size 54 3 (.slice AR (u.drop k).length CR) (u.drop k).length (ncells (u.drop k)) := World.ownsRow.kept o1 (w' := W1.drew.alloc (.cells #[St x.path, .int .i64 x.file, .int .i64 x.mode] 54)) (row := none) ⟨rfl, rfl, rfl, by simp, fun q hq _ => heap_alloc_old W1.drew _ hq⟩ (by cases (Value.slice AR (u.drop k).length CR).ownBlock <;> simp)
  have hsz : B ≤ (W1.drew.alloc (.cells #[St x.path, .int .i64 x.file, .int .i64 x.mode] 54)).heap.size := Nat.le_trans hB g2.size
  have lx := lies_new W1.drew 54 #[St x.path, .int .i64 x.file, .int .i64 x.mode]
  have nx : NodesAt (W1.drew.alloc (.cells #[St x.path, .int .i64 x.file, .int .i64 x.mode] 54)) (some ⟨W1.heap.size, 0, none⟩) [x] := fun i hi => by
    obtain rfl : i = 0 := by simpa using hi
    exact ⟨W1.heap.size, 0, rfl, lies_lt lx, lies_cell lx 0, lies_cell lx 1, lies_cell lx 2⟩
  obtain ⟨v3, Z3, r3, o3, g3⟩ := run_app_row _ 22 B (.slice A k C) (u.take k) [x] (some ⟨W1.heap.size, 0, none⟩) 1 (by rw [lt]; exact p2) nx hsz (by omega) (by simp) (fun e => by cases e)
  have l3 : (u.take k ++ [x]).length = k + 1 := by rw [List.length_append, lt]; rfl
  rw [l3] at o3
  obtain ⟨A3, C3, rfl⟩ := own_slice o3
  have hA : ∀ r, (Value.slice A k C).ownBlock = some r → r < wy.heap.size := fun r e => (hpre.lt r e).2
  have o4 := World.ownsRow.kept o2 g3 (own_apart o2 (fun r e => hA r e))
  obtain ⟨_, _, e5, n5, _, z5⟩ := own_nodes o4
  obtain ⟨rfl, rfl⟩ : AR = _ ∧ CR = _ := by injection e5 with h1 h2 h3; exact ⟨h1, h3⟩
  obtain ⟨v4, Z4, r4, o5, g4⟩ := run_app_row Z3 22 B (.slice A3 (k + 1) C3) (u.take k ++ [x]) (u.drop k) AR CR (by rw [l3]; exact o3) n5 (Nat.le_trans hsz g3.size) (by omega) (by omega) z5
  have l4 : (u.take k ++ [x] ++ u.drop k).length = u.length + 1 := by rw [List.length_append, l3, ld]; omega
  rw [l4] at o5
  obtain ⟨A4, C4, rfl⟩ := own_slice o5
  rw [ld] at r4
  rw [List.append_assoc] at o5
  refine ⟨AR, CR, W1, r1, g1, A3, C3, Z3, r3, g3, fun r e => own_heap p2 r e, fun r e => own_heap o3 r e, A4, C4, Z4, r4, g4, o5⟩
theorem st_lss2 (t : TypeId) (a b : Bt) : binOp .lss t (St a) (St b) = pure (.bool (Op.bytesLess a b)) := by
  unfold St
  rw [binOp_string_lss, ByteArray.toList_mk, ByteArray.toList_mk]
theorem results_row_tmp2 {P : Program} {fn : Func} {p u : Tmp} {ty : TypeId} (h : fn.results = #[.cell p ty, .tmp u]) (tmps : Array Value) (w : World) (g : Nat) (t : TypeId) (cs : Array Value) (fr : Nat × Nat) (d : TypeDesc)
    (hp : tmps.getD p undef = .pointer (some ⟨g, 0, none⟩)) (v : Value) (hv : tmps.getD u undef = v) (hg : w.heap[g]? = some (.cells cs t fr))
    (hu : P.underlying ty = some d) (hd : (match d with | .struct _ | .array _ _ => true | _ => false) = true) (hi : (P.info? ty).map (·.size) = some cs.size) :
    (results fn tmps).run P w = .ok (.tuple #[.agg cs, v]) w := by
  rw [results_cell_tmp h, hp, hv]
  simp [asAddr, run_loadVar_row w g t ty cs fr d hg hu hd hi]
end Go.Proofs.Ytjagddhkoacipaa
