/-
What is proved here: Add (bytes put behind), by a contract.
-/
import Derived.Test.YtlnmaejpchncoaaDoorCells
import Derived.Test.YtlnmaejpchncoaaDoorOpen
import Derived.Deep.RegionHeld3
import Derived.Deep.RegionLaw
import Derived.Laws.CopyOwn
import Derived.StillTailTactics
import Derived.Deep.QuietTactic
import Derived.BigQuiet
set_option linter.unusedSimpArgs false
namespace Go.Proofs.YtlnmaejpchncoaaDoor
open Go.Word Go.RowKit
attribute [local go_sem] u_xor u_and u_or u_add u_not byte_word

/-- the Hash in block g has the bytes L -/
def Has (w : World) (g : Nat) (L : List (BitVec 8)) : Prop :=
  ∃ r : Nat → BitVec 8, Lies w g 66 (hRow (chain key L (L.length / 64)) r L.length) ∧ ∀ j, j < L.length % 64 → r j = L.getD (64 * (L.length / 64) + j) 0
/-- the Hash in block g, or a new one, has the bytes L -/
def Hash (w : World) (g : Nat) (L : List (BitVec 8)) : Prop := Has w g L ∨ (L = [] ∧ ∃ s r, Lies w g 66 (hRow s r 0))
/-- the slice's address A has the bytes f, outside block g -/
def Src (w : World) (g : Nat) (A : Option Addr) (f : List (BitVec 8)) : Prop :=
  0 < f.length → ∃ ad : Addr, A = some ad ∧ ad.block < w.heap.size ∧ ad.block ≠ g ∧ ∀ j, j < f.length → w.cell? (ad.add j) = some (Y (f.getD j 0))
/-- how long a slice is -/
def lenV : Value → Nat
  | .slice _ n _ => n
  | _ => 0

theorem src_cell {w : World} {g : Nat} {A : Option Addr} {f : List (BitVec 8)} (h : Src w g A f) {w' : World} (hw : w.grownBy w' (some g)) (h0 : 0 < f.length) :
    ∃ ad : Addr, A = some ad ∧ ∀ j v, (f.map Y)[j]? = some v → w'.cell? (ad.add j) = some v := by
  obtain ⟨ad, rfl, hb, hne, hc⟩ := h h0
  refine ⟨ad, rfl, fun j v hv => ?_⟩
  rw [List.getElem?_map] at hv
  have hj : j < f.length := by
    rcases Nat.lt_or_ge j f.length with h | h
    · exact h
    · rw [List.getElem?_eq_none h] at hv; cases hv
  rw [List.getElem?_eq_getElem hj] at hv
  have e : (ad.add j).block = ad.block := by unfold Addr.add; split <;> rfl
  rw [only_cell hw (by rw [e]; exact hb) (by rw [e]; exact hne), hc j hj, List.getD_eq_getElem?_getD, List.getElem?_eq_getElem hj]
  exact hv
theorem src_cut {w : World} {g : Nat} {A : Option Addr} {f : List (BitVec 8)} (h : Src w g A f) (k c : Nat) (hc : f.length ≤ c) : Src w g (if c = k then A else A.map (·.add k)) (f.drop k) := by
  intro h0
  rw [List.length_drop] at h0
  obtain ⟨ad, rfl, hb, hne, hcell⟩ := h (by omega)
  rw [if_neg (by omega)]
  have e : (ad.add k).block = ad.block := by unfold Addr.add; split <;> rfl
  refine ⟨ad.add k, rfl, by rw [e]; exact hb, by rw [e]; exact hne, fun j hj => ?_⟩
  rw [List.length_drop] at hj
  have e2 : (ad.add k).add j = ad.add (k + j) := by
    unfold Addr.add
    by_cases hi : k = 0 <;> by_cases hj : j = 0 <;> simp [hi, hj, Nat.add_assoc]
  rw [e2, hcell _ (by omega)]
  simp [List.getD_eq_getElem?_getD]
/-- a new Hash behind start -/
theorem has_start {w w1 : World} {g : Nat} {s : St} {r : Nat → BitVec 8} {l : List (BitVec 8)} (he : l.length = 0) (h : Lies w g 66 (hRow s r 0)) (hb : Below w.heap.size w w1) : Has (w1.setCells g 0 (stRow st0).toList) g l ∧ w.grownBy (w1.setCells g 0 (stRow st0).toList) (some g) := by
  obtain rfl := List.eq_nil_of_length_eq_zero he
  have h1 := lies_below h hb (lies_lt h)
  refine ⟨⟨r, ?_, fun j hj => by simp at hj⟩, only_setCells _ _ _ (only_below (only_refl w g) hb)⟩
  have := lies_spl (stRow st0).toList w1 _ 0 h1
  rw [hRow_state] at this
  exact this
/-- copy, its count under a name -/
theorem wpList_copy_n {P : Program} {w : World} {ops : Array Oper} {rest : List Oper} {o : Oper} {a : Act} {Q : Exit → Act → World → Prop} (hgd : o.guard = none) (d s : Operand) (dT sT : TypeId)
    (ho : o.op = .call { callee := .builtin .copy, args := #[d, s], argTypes := #[dT, sT] }) (elem : TypeId) (hu : P.underlying dT = some (.slice elem)) (hsz : (P.info? elem).map (·.size) = some 1)
    (g off dLen dCap : Nat) (ad : Addr) (sLen sCap : Nat) (hd : a.eval d = .slice (some ⟨g, off, none⟩) dLen dCap) (hs : a.eval s = .slice (some ad) sLen sCap)
    (cur : Array Value) (t : TypeId) (hg : w.heap[g]? = some (.cells cur t (0, 0))) (cs : List Value) (n : Nat) (hl : cs.length = n) (hn : n = Nat.min sLen dLen)
    (hsrc : ∀ j v, cs[j]? = some v → w.cell? (ad.add j) = some v) (hfit : off + cs.length ≤ cur.size) (h1 : ∀ v ∈ cs, v.oneCell' = true)
    (h : wpList P ops Q rest (a.put o.dst (.int .i64 (n : Int))) (w.setRow g (cur.toList.take off ++ (cs ++ cur.toList.drop (off + cs.length))).toArray)) : wpList P ops Q (o :: rest) a w :=
  wpList_copy_own hgd d s dT sT ho elem hu hsz g off dLen dCap ad sLen sCap hd hs cur t hg cs (hl.trans hn) hsrc hfit h1 (by rw [show goInt cs.length = .int .i64 (n : Int) by rw [hl]; rfl]; exact h)
theorem y_one (f : List (BitVec 8)) : ∀ v ∈ f.map Y, v.oneCell' = true := by
  intro v hv
  simp only [List.mem_map] at hv
  obtain ⟨x, _, rfl⟩ := hv
  rfl

theorem src_take {w : World} {ad : Addr} {f : List (BitVec 8)} (h : ∀ j v, (f.map Y)[j]? = some v → w.cell? (ad.add j) = some v) (n : Nat) : ∀ j v, ((f.take n).map Y)[j]? = some v → w.drew.cell? (ad.add j) = some v := by
  intro j v hv
  refine h j v ?_
  rw [List.getElem?_map, List.getElem?_take] at hv
  rw [List.getElem?_map]
  split at hv
  · exact hv
  · cases hv
theorem slice_off (ad : Addr) (R c' n : Nat) (hn : n ≤ R) (W : World) : (Instr.slice 24 (.slice (some ad) R c') (some (.int .i64 (n : Int))) none none).run Tryd.prog W = .ok (.slice (if c' = n then some ad else (some ad).map (·.add n)) (R - n) (c' - n)) W := by
  have := run_slice_l (P := Tryd.prog) W 24 (some ad) R c' Tryd.underlying24 .i64 (n : Int) (by omega) (by omega)
  rw [this]
  have hz : (sizeOf (Tryd.prog.elem 24)).run Tryd.prog W = .ok 1 W := by kernel_rfl
  rw [hz]
  simp [sliced]
theorem over_at {L f : List (BitVec 8)} {r : Nat → BitVec 8} (hr : ∀ j, j < L.length % 64 → r j = L.getD (64 * (L.length / 64) + j) 0) {j : Nat} (hj : j < L.length % 64 + f.length) :
    over r (L.length % 64) f j = (L ++ f).getD (64 * (L.length / 64) + j) 0 := by
  unfold over
  by_cases h : L.length % 64 ≤ j
  · rw [if_pos ⟨h, hj⟩, getD_right _ _ (by omega)]
    congr 1
    omega
  · rw [if_neg (by omega), hr j (by omega), getD_left _ _ (by omega)]
theorem has_part {w : World} {g : Nat} {L f : List (BitVec 8)} {r : Nat → BitVec 8} (h : Lies w g 66 (hRow (chain key L (L.length / 64)) (over r (L.length % 64) f) (L.length + f.length)))
    (hr : ∀ j, j < L.length % 64 → r j = L.getD (64 * (L.length / 64) + j) 0) (hq : L.length % 64 + f.length < 64) : Has w g (L ++ f) := by
  have e : (L ++ f).length / 64 = L.length / 64 := by rw [List.length_append]; omega
  refine ⟨over r (L.length % 64) f, ?_, fun j hj => ?_⟩
  · rw [e, chain_append _ _ _ _ (by omega), List.length_append]
    exact h
  · rw [List.length_append] at hj
    rw [e]
    exact over_at hr (by omega)
theorem has_full {w : World} {g : Nat} {L f : List (BitVec 8)} {r : Nat → BitVec 8} (h : Lies w g 66 (hRow (mixed key (chain key L (L.length / 64)) (over r (L.length % 64) f)) (over r (L.length % 64) f) (L.length + f.length)))
    (hr : ∀ j, j < L.length % 64 → r j = L.getD (64 * (L.length / 64) + j) 0) (hq : L.length % 64 + f.length = 64) : Has w g (L ++ f) := by
  have e : (L ++ f).length / 64 = L.length / 64 + 1 := by rw [List.length_append]; omega
  refine ⟨over r (L.length % 64) f, ?_, fun j hj => ?_⟩
  · rw [e, chain, chain_append _ _ _ _ (by omega), List.length_append, mixed_congr key (chain key L (L.length / 64)) (q := over r (L.length % 64) f) (fun j hj => (over_at hr (by omega)).symm)]
    exact h
  · rw [List.length_append] at hj
    omega
/-- bytes as a list of values -/
def yList (f : Nat → BitVec 8) (n : Nat) : List Value := (List.range n).map fun j => Y (f j)
theorem yList_row (f : Nat → BitVec 8) (n : Nat) : (yList f n).toArray = yRow f n := by
  refine Array.ext_getElem? fun j => ?_
  by_cases h : j < n <;> simp [yList, yRow, h]
theorem mix_lit (s : St) (p : Nat → BitVec 8) (w : World) (hk : Keyed w) :
    Calls Tryd.prog 28 #[.agg #[U s.a, U s.b, U s.c, U s.d, U s.e, U s.f, U s.g, U s.h], .agg (yList p 64).toArray] w fun e w' => e = .returned (.agg (stRow (mixed key s p))) ∧ Below w.heap.size w w' := by
  rw [yList_row]; exact mix_any s p w hk
theorem keyed_of {w W w' : World} {g : Nat} (hk : Keyed w) (hG : w.grownBy W (some g)) (hg : 1 ≤ g) (hb : Below W.heap.size W w') : Keyed w' := by
  obtain ⟨h2, h⟩ := hk
  have hz := hG.size
  have hz' := hb.size
  refine ⟨by omega, fun i hi => ?_⟩
  rw [hb.cell (p := ⟨0, i, none⟩) (by show 0 < _; omega), only_cell hG (p := ⟨0, i, none⟩) (by show 0 < _; omega) (by show 0 ≠ g; omega)]
  exact h i hi
theorem keep8 {W w : World} {g n : Nat} {s : St} {r : Nat → BitVec 8} (h : Lies W g 66 (hRow s r n)) (hb : Below W.heap.size W w) :
    Below W.heap.size W w ∧ w.cell? ⟨g, 0, none⟩ = some (U s.a) ∧ w.cell? ⟨g, 1, none⟩ = some (U s.b) ∧ w.cell? ⟨g, 2, none⟩ = some (U s.c) ∧ w.cell? ⟨g, 3, none⟩ = some (U s.d) ∧
      w.cell? ⟨g, 4, none⟩ = some (U s.e) ∧ w.cell? ⟨g, 5, none⟩ = some (U s.f) ∧ w.cell? ⟨g, 6, none⟩ = some (U s.g) ∧ w.cell? ⟨g, 7, none⟩ = some (U s.h) ∧ w.rangeAt g 8 (yList r 64) := by
  have h' := lies_below h hb (lies_lt h)
  have c : ∀ j, j < 8 → w.cell? ⟨g, j, none⟩ = (stRow s)[j]? := fun j hj => (lies_cell h' j).trans (hRow_st s r n j hj)
  refine ⟨hb, c 0 (by omega), c 1 (by omega), c 2 (by omega), c 3 (by omega), c 4 (by omega), c 5 (by omega), c 6 (by omega), c 7 (by omega), range_of h' fun j v hv => ?_⟩
  have hj : j < 64 := by
    rcases Nat.lt_or_ge j 64 with h | h
    · exact h
    · rw [List.getElem?_eq_none (by simp [yList]; omega)] at hv; cases hv
  rw [hRow_rest s r n j hj, ← hv]
  simp [yList, hj]
theorem step_store_mid {P : Program} {ops : Array Oper} {o : Oper} {a : Act} {w : World} {K : Act → World → Prop} {Q : Exit → Act → World → Prop} {E : Prop} (hgd : o.guard = none) (ty : TypeId) (x y : Operand) (ho : o.op = .store ty x y)
    (b o' : Nat) (cells : Array Value) (hx : a.eval x = .pointer (some ⟨b, o', none⟩)) (hy : a.eval y = .agg cells)
    (ht : w.there b o' cells.size) (hi : (P.info? ty).map (·.size) = some cells.size) (h1 : cells.all (·.oneCell') = true)
    (h : K (a.put o.dst undef) (w.setCells b o' cells.toList)) : if Region.wanted o (yielded ops a.tmps) = true then Oper.wp P o a w K Q else E := by
  have hw : Region.wanted o (yielded ops a.tmps) = true := by simp [Region.wanted, hgd]
  rw [if_pos hw]
  exact wp_store_mid ty x y ho b o' cells hx hy ht hi h1 h
theorem store_state {W w : World} {g n : Nat} {s : St} {r : Nat → BitVec 8} (h : Lies W g 66 (hRow s r n)) (s' : St) (hb : Below W.heap.size W w) :
    (storeCells ⟨g, 0, none⟩ (stRow s').toList).run Tryd.prog w = .ok () (w.setCells g 0 (stRow s').toList) := by
  have h' := lies_below h hb (lies_lt h)
  refine run_storeCells_cells (P := Tryd.prog) g 0 (stRow s').toList 0 w (fun j hj => ?_) (fun j _ => lies_free h' _) (fun v hv => ?_)
  · rw [lies_cell h', Array.getElem?_eq_getElem (by rw [hRow_size]; simp [stRow] at hj; omega)]; rfl
  · have := stRow_one s'
    rw [Array.all_eq_true_iff_forall_mem] at this
    exact this v (by simpa using hv)
theorem wpStill_load_mid {P : Program} {ops : Array Oper} {w : World} {Q : Act → Prop} {a : Act} {o : Oper} {rest : List Oper} (hgd : o.guard = none) (ty : TypeId) (x : Operand) (ho : o.op = .load ty x)
    (b off : Nat) (hx : a.eval x = .pointer (some ⟨b, off, none⟩)) (cs : List Value) (d : TypeDesc) (hc : w.rangeAt b off cs)
    (hu : P.underlying ty = some d) (hd : d.isRow = true) (hi : (P.info? ty).map (·.size) = some cs.length)
    (h : wpStill P ops w Q rest (a.put o.dst (.agg cs.toArray))) : wpStill P ops w Q (o :: rest) a := by
  have hw : Region.wanted o (yielded ops a.tmps) = true := by simp [Region.wanted, hgd]
  have hr : (execOp a.eval o).run P w = .ok (.value (.agg cs.toArray)) w := by
    unfold execOp
    simp only [ho, hx, Instr.loadAt, Instr.sureAddr, Sem.run_bind, Sem.run_pure, Result.andThen_ok, run_loadVar_mid w b off ty cs d hc hu hd hi]
  unfold wpStill
  rw [if_pos hw]
  unfold Oper.still
  rw [hr, Oper.stillUpon_value]
  exact h
theorem rest_there {W : World} {g n : Nat} {s : St} {r : Nat → BitVec 8} (h : Lies W g 66 (hRow s r n)) : W.drew.rangeAt g 8 (yList r 64) := (keep8 h (Below.drew (Below.refl _ _))).2.2.2.2.2.2.2.2.2
theorem yList_len (r : Nat → BitVec 8) (n : Nat) : (yList r n).length = n := by simp [yList]
theorem state_there {W : World} {g n : Nat} {s : St} {r : Nat → BitVec 8} (h : Lies W g 66 (hRow s r n)) : W.drew.rangeAt g 0 (stRow s).toList := range_of (lies_drew h) fun j v hv => by
  have hj : j < 8 := by
    rcases Nat.lt_or_ge j 8 with h | h
    · exact h
    · rw [List.getElem?_eq_none (by simpa [stRow] using h)] at hv; cases hv
  rw [Nat.zero_add, hRow_st s r n j hj, ← hv, Array.getElem?_toList]
theorem slice_rest (g q : Nat) (hq : q < 64) (W : World) : (Instr.sliceAt 64 (.pointer (some ⟨g, 8, none⟩)) (some (.int .i64 (q : Int))) none none).run Tryd.prog W = .ok (.slice (some ⟨g, 8 + q, none⟩) (64 - q) (64 - q)) W := by
  simp [Instr.sliceAt, Instr.sureAddr, run_underlying Tryd.underlying64, Instr.sliceBounds, run_sliceBound, show (0 : Int) ≤ q by omega, show (q : Int) ≤ 64 by omega, show ¬ 64 = q by omega, Sem.run_bind]
  rw [Addr.add_mid]

theorem lies_state {w : World} {g n : Nat} {s s' : St} {r : Nat → BitVec 8} (h : Lies w g 66 (hRow s r n)) : Lies (w.setCells g 0 (stRow s').toList) g 66 (hRow s' r n) := by
  have := lies_spl (stRow s').toList w _ 0 h
  rw [hRow_state] at this
  exact this
/-- the relation of Add's loop behind one more round -/
theorem round_more {w wr : World} {g m n1 N M R q c' : Nat} {ad : Addr} {D : Option Addr} {l b : List (BitVec 8)} {r : Nat → BitVec 8} (hm : m ≤ b.length) (hL : N = l.length + m) (hR : R = b.length - m)
    (hN : N = (l ++ b.take m).length) (hQ : q = N % 64) (hF : ((b.drop m).take n1).length = n1) (hM : M = N + n1) (hY : ∀ j, j < N % 64 → r j = (l ++ b.take m).getD (64 * (N / 64) + j) 0)
    (hA : Src w g (some ad) (b.drop m)) (hD : D = (if c' = n1 then some ad else (some ad).map (·.add n1))) (hn2 : n1 ≤ R) (hc : R ≤ c')
    (hl : (M % 64 = 0 ∧ Lies wr g 66 (hRow (mixed key (chain key (l ++ b.take m) (N / 64)) (over r q ((b.drop m).take n1))) (over r q ((b.drop m).take n1)) M)) ∨
      (M % 64 ≠ 0 ∧ Lies wr g 66 (hRow (chain key (l ++ b.take m) (N / 64)) (over r q ((b.drop m).take n1)) M)))
    (hn3 : n1 ≤ 64 - q) (hn4 : 0 < n1) (hG : w.grownBy wr (some g)) :
    ∃ (m' : Nat) (A' : Option Addr) (c'' : Nat), m' ≤ b.length ∧ Value.slice D (R - n1) (c' - n1) = .slice A' (b.length - m') c'' ∧ b.length - m' ≤ c'' ∧ Src w g A' (b.drop m') ∧ Has wr g (l ++ b.take m') ∧ w.grownBy wr (some g) := by
  refine ⟨m + n1, D, c' - n1, by omega, by rw [show b.length - (m + n1) = R - n1 by omega], by omega, ?_, ?_, hG⟩
  · have := src_cut hA n1 c' (by rw [List.length_drop]; omega)
    rw [List.drop_drop, ← hD] at this
    exact this
  · have e : l ++ b.take (m + n1) = (l ++ b.take m) ++ (b.drop m).take n1 := by rw [List.take_add, List.append_assoc]
    rw [e]
    have hY' : ∀ j, j < (l ++ b.take m).length % 64 → r j = (l ++ b.take m).getD (64 * ((l ++ b.take m).length / 64) + j) 0 := by rw [← hN]; exact hY
    rcases hl with ⟨h0, h⟩ | ⟨h0, h⟩
    · exact has_full (by rw [hF, ← hN, ← hQ, ← hM]; exact h) hY' (by rw [hF, ← hN, ← hQ]; omega)
    · exact has_part (by rw [hF, ← hN, ← hQ, ← hM]; exact h) hY' (by rw [hF, ← hN, ← hQ]; omega)

set_option maxHeartbeats 1000000 in
theorem add_any (g : Nat) (A : Option Addr) (c : Nat) (l b : List (BitVec 8)) (w : World) (hk : Keyed w) (hh : Hash w g l) (hs : Src w g A b) (hg : 1 ≤ g) (hc : b.length ≤ c) (hn : l.length + b.length < 2 ^ 60) :
    Calls Tryd.prog 22 #[.pointer (some ⟨g, 0, none⟩), .slice A b.length c] w fun e w' => e = .returned (.tuple #[]) ∧ Has w' g (l ++ b) ∧ w.grownBy w' (some g) := by
  have hn' : l.length + b.length < 1152921504606846976 := hn
  clear hn
  have hs0 := hs
  have HS := Lib.hid hs0
  clear hs hs0
  have HK := Lib.hid hk
  clear hk
  by_cases h0 : l.length = 0
  · have hl : ∃ s r, Lies w g 66 (hRow s r 0) := by
      rcases hh with ⟨r, hl, _⟩ | ⟨_, h⟩
      · rw [h0] at hl
        exact ⟨_, r, hl⟩
      · exact h
    clear hh
    obtain ⟨s, r, hl⟩ := hl
    have H0 := Lib.hid h0
    clear h0
    have c72 := (lies_cell hl 72).trans (hRow_72 _ _ _)
    go_enter Tryd.func22, Tryd.ntmps22
    go_wp2_with (first
      | (go_at_call 27; (with_reducible refine (start_any _).mono ?_); rintro e w1 ⟨rfl, hb⟩)
      | (refine wpList_store_mid rfl 59 _ _ rfl g 0 (stRow st0) rfl rfl (there_of (lies_below hl hb (lies_lt hl)) (by rw [hRow_size]; decide)) (by kernel_rfl) (stRow_one _) ?_))
    obtain ⟨hH, hG⟩ := has_start H0.out hl hb
    clear hl hb c72
    generalize World.setCells w1 g 0 (stRow st0).toList = W at *
    simp only [Act.put]
    go_loopw [1] (fun v wr => ∃ (m : Nat) (A' : Option Addr) (c' : Nat), m ≤ b.length ∧ v = .slice A' (b.length - m) c' ∧ b.length - m ≤ c' ∧ Src w g A' (b.drop m) ∧ Has wr g (l ++ b.take m) ∧ w.grownBy wr (some g)) (fun v _ => lenV v)
    case atStart => exact ⟨0, A, c, by omega, rfl, hc, HS.out, by simpa using hH, hG⟩
    case round =>
      clear hH hG
      obtain ⟨m, A', c', hm, rfl, hc', hs', hH, hG⟩ := hrel
      have HA := Lib.hid hs'
      clear hs'
      by_cases hlt : m < b.length
      · obtain ⟨r, hL, hr⟩ := hH
        obtain ⟨N, hN⟩ : ∃ N, N = (l ++ b.take m).length := ⟨_, rfl⟩
        obtain ⟨R, hR⟩ : ∃ R, R = b.length - m := ⟨_, rfl⟩
        obtain ⟨q, hq⟩ : ∃ q, q = N % 64 := ⟨_, rfl⟩
        obtain ⟨n1, hn1⟩ : ∃ n1, n1 = Nat.min R (64 - q) := ⟨_, rfl⟩
        obtain ⟨M, hM⟩ : ∃ M, M = N + n1 := ⟨_, rfl⟩
        have hNl : N = l.length + m := by rw [hN]; simp; omega
        have hN1 : N < 1152921504606846976 := by omega
        have hR1 : 0 < R := by omega
        have hq1 : q < 64 := by omega
        have hn2 : n1 ≤ R := by rw [hn1]; exact Nat.min_le_left _ _
        have hn3 : n1 ≤ 64 - q := by rw [hn1]; exact Nat.min_le_right _ _
        have hn4 : 0 < n1 := by rw [hn1]; exact Nat.lt_min.2 ⟨by omega, by omega⟩
        have hM1 : M < 1152921504606846976 := by omega
        rw [← hR] at hc' ⊢
        rw [← hN] at hL hr
        have hfl : ((b.drop m).take n1).length = n1 := by simp; omega
        obtain ⟨ad, rfl, hsrc⟩ := src_cell HA.out hG (by simp; omega)
        have hqz : (N : Int) % 64 = (q : Int) := by omega
        have hMz : (N : Int) + n1 = (M : Int) := by omega
        have HN := Lib.hid hN
        have HR := Lib.hid hR
        have HQ := Lib.hid hq
        have HC := Lib.hid hn1
        have HM := Lib.hid hM
        have HL := Lib.hid hNl
        have HF := Lib.hid hfl
        have HX := Lib.hid hsrc
        have HY := Lib.hid hr
        clear hN hR hq hn1 hM hNl hfl hsrc hr
        have HZ := Lib.hid hqz
        clear hqz
        have HMZ := Lib.hid hMz
        clear hMz
        have c72 := (lies_cell hL 72).trans (hRow_72 _ _ _)
        have l64 : (q : Int) < 64 := by omega
        go_wp2
        have hqz := HZ.out
        have hqt : ((N : Int)).tmod 64 = (q : Int) := by rw [Int.tmod_eq_emod_of_nonneg (by omega)]; exact hqz
        have hsl := slice_rest g q hq1
        go_still_tail 10, (by kernel_rfl)
        clear hqz hqt hsl
        change wpList _ _ _ _ _ wr.drew
        refine wpList_copy_n rfl (.tmp 27) (.tmp 28) 24 24 rfl 5 Tryd.underlying24 (by kernel_rfl) g (8 + q) (64 - q) (64 - q) ad R c' rfl rfl _ 66 (lies_drew hL) (((b.drop m).take n1).map Y) n1 (by rw [List.length_map]; exact HF.out) HC.out (src_take HX.out _) (by rw [List.length_map, HF.out, hRow_size]; omega) (y_one _) ?_
        rw [hRow_copy _ _ _ _ _ (by rw [HF.out]; omega)]
        have hL2 := lies_setRow (lies_drew hL) (hRow (chain key (l ++ b.take m) (N / 64)) (over r q ((b.drop m).take n1)) N)
        have hG2 := only_setRow (only_drew hG) (hRow (chain key (l ++ b.take m) (N / 64)) (over r q ((b.drop m).take n1)) N)
        generalize World.setRow wr.drew g (hRow (chain key (l ++ b.take m) (N / 64)) (over r q ((b.drop m).take n1)) N) = W2 at *
        clear c72 hL hG
        have c72 := (lies_cell hL2 72).trans (hRow_72 _ _ _)
        have f72 := lies_free hL2 72
        have hMz := HMZ.out
        obtain ⟨D, hD⟩ : ∃ D, D = (if c' = n1 then some ad else (some ad).map (·.add n1)) := ⟨_, rfl⟩
        have hso : ∀ W, (Instr.slice 24 (.slice (some ad) R c') (some (.int .i64 (n1 : Int))) none none).run Tryd.prog W = .ok (.slice D (R - n1) (c' - n1)) W := by
          rw [hD]; exact slice_off ad R c' n1 hn2
        have HD := Lib.hid hD
        clear hD
        by_cases hM64 : M % 64 = 0
        · have hMm : (M : Int) % 64 = 0 := by omega
          have HMm := Lib.hid hM64
          clear hM64
          obtain ⟨Z, hZ⟩ : ∃ Z, Z = chain key (l ++ b.take m) (N / 64) := ⟨_, rfl⟩
          obtain ⟨ρ, hρ⟩ : ∃ ρ, ρ = over r q ((b.drop m).take n1) := ⟨_, rfl⟩
          rw [← hZ, ← hρ] at hL2
          have HZ2 := Lib.hid hZ
          have HP := Lib.hid hρ
          clear hZ hρ
          go_wp2
          have hL3 := lies_set hL2 72 (.int .i64 (M : Int))
          rw [hRow_count] at hL3
          have hG3 := only_setCell hG2 72 (.int .i64 (M : Int))
          clear hL2 hG2 c72 f72 hso hMm hMz
          generalize W2.setCell ⟨g, 72, none⟩ (.int .i64 (M : Int)) = W3 at *
          have HL3 := Lib.hid hL3
          have HG3 := Lib.hid hG3
          clear hL3 hG3
          refine wp_region_any (by kernel_rfl) ?_
          change wpAny _ _ _ _ _ _ _ (World.drew W3)
          refine open_take 0 (some 47) (.pointer (some ⟨g, 0, none⟩)) rfl rfl (by kernel_rfl) (by kernel_rfl) (by kernel_rfl) (fun _ _ _ h => h) (Or.inl ⟨by rfl, fun _ => by kernel_rfl⟩) ?_
          simp only [Act.put, List.setIfInBounds_toArray, List.set_cons_zero, List.set_cons_succ]
          refine open_take 1 (some 48) (.pointer (some ⟨g, 0, none⟩)) rfl rfl (by kernel_rfl) (by kernel_rfl) (by kernel_rfl) (fun _ _ _ h => h) (Or.inl ⟨by rfl, fun _ => by kernel_rfl⟩) ?_
          simp only [Act.put, List.setIfInBounds_toArray, List.set_cons_zero, List.set_cons_succ]
          refine open_take 5 (some 52) (.pointer (some ⟨g, 0, none⟩)) rfl rfl (by kernel_rfl) (by kernel_rfl) (by kernel_rfl) (fun _ _ _ h => h) (Or.inl ⟨by rfl, fun _ => by kernel_rfl⟩) ?_
          simp only [Act.put, List.setIfInBounds_toArray, List.set_cons_zero, List.set_cons_succ]
          refine open_take 2 (some 49) (.pointer (some ⟨g, 0, none⟩)) rfl rfl (by kernel_rfl) (by kernel_rfl) (by kernel_rfl) (fun _ _ _ h => h) (Or.inl ⟨by rfl, fun _ => by kernel_rfl⟩) ?_
          simp only [Act.put, List.setIfInBounds_toArray, List.set_cons_zero, List.set_cons_succ]
          refine open_take 6 (some 53) (.pointer (some ⟨g, 0, none⟩)) rfl rfl (by kernel_rfl) (by kernel_rfl) (by kernel_rfl) (fun _ _ _ h => h) (Or.inl ⟨by rfl, fun _ => by kernel_rfl⟩) ?_
          simp only [Act.put, List.setIfInBounds_toArray, List.set_cons_zero, List.set_cons_succ]
          refine open_take 3 (some 50) (.pointer (some ⟨g, 0, none⟩)) rfl rfl (by kernel_rfl) (by kernel_rfl) (by kernel_rfl) (fun _ _ _ h => h) (Or.inl ⟨by rfl, fun _ => by kernel_rfl⟩) ?_
          simp only [Act.put, List.setIfInBounds_toArray, List.set_cons_zero, List.set_cons_succ]
          refine open_take 7 (some 54) (.pointer (some ⟨g, 8, none⟩)) rfl rfl (by kernel_rfl) (by kernel_rfl) (by kernel_rfl) (fun _ _ _ h => h) (Or.inl ⟨by rfl, fun _ => by kernel_rfl⟩) ?_
          simp only [Act.put, List.setIfInBounds_toArray, List.set_cons_zero, List.set_cons_succ]
          refine wpAny_ready (rs := [4, 8]) (by kernel_rfl) (by simp) ?_
          refine open_load (some 51) rfl rfl rfl 59 _ rfl g 0 rfl (stRow Z).toList _ (state_there HL3.out) Tryd.underlying59 rfl (by kernel_rfl) ?_ (open_load (some 55) rfl rfl rfl 64 _ rfl g 8 rfl (yList ρ 64) _ (rest_there HL3.out) Tryd.underlying64 rfl (by rw [yList_len]; kernel_rfl) ?_ AllReady.nil)
          · simp only [Act.put, List.setIfInBounds_toArray, List.set_cons_zero, List.set_cons_succ, Array.toArray_toList, yList_row]
            refine wpAny_ready (rs := [8]) (by kernel_rfl) (by simp) ?_
            refine open_load (some 55) rfl rfl rfl 64 _ rfl g 8 rfl (yList ρ 64) _ (rest_there HL3.out) Tryd.underlying64 rfl (by rw [yList_len]; kernel_rfl) ?_ AllReady.nil
            simp only [Act.put, List.setIfInBounds_toArray, List.set_cons_zero, List.set_cons_succ, Array.toArray_toList, yList_row]
            refine wpAny_ready (rs := [9]) (by kernel_rfl) (by simp) ?_
            refine open_call (some 56) (.agg (stRow (mixed key Z ρ))) _ rfl rfl rfl 28 #[.agg (stRow Z), .agg (yRow ρ 64)] (by kernel_rfl) (mix_any Z ρ _ (keyed_of HK.out HG3.out hg (Below.drew (Below.refl _ _)))) (fun w' hb => ?_) AllReady.nil
            simp only [Act.put, List.setIfInBounds_toArray, List.set_cons_zero, List.set_cons_succ]
            refine wpAny_ready (rs := [10]) (by kernel_rfl) (by simp) ?_
            refine open_value (some 57) (.pointer (some ⟨g, 0, none⟩)) rfl rfl rfl (by kernel_rfl) ?_ AllReady.nil
            simp only [Act.put, List.setIfInBounds_toArray, List.set_cons_zero, List.set_cons_succ]
            refine wpAny_ready (rs := [11]) (by kernel_rfl) (by simp) ?_
            refine open_value (some 58) (.pointer (some ⟨g, 0, none⟩)) rfl rfl rfl (by kernel_rfl) ?_ AllReady.nil
            simp only [Act.put, List.setIfInBounds_toArray, List.set_cons_zero, List.set_cons_succ]
            refine wpAny_ready (rs := [12]) (by kernel_rfl) (by simp) ?_
            refine open_store rfl rfl rfl 59 _ _ rfl g 0 (stRow (mixed key Z ρ)) rfl rfl (there_of (lies_below (lies_drew HL3.out) hb (lies_lt HL3.out)) (by rw [hRow_size]; show 0 + 8 ≤ 73; decide)) (by kernel_rfl) (stRow_one _) ?_ AllReady.nil
            refine wpAny_done (by kernel_rfl) ?_ _
            go_wp2
            go_roundw
            case rel => exact round_more hm HL.out HR.out HN.out HQ.out HF.out HM.out HY.out HA.out HD.out hn2 hc' (Or.inl ⟨HMm.out, by rw [← HZ2.out, ← HP.out]; exact lies_state (lies_below (lies_drew HL3.out) hb (lies_lt HL3.out))⟩) hn3 hn4 (only_setCells _ _ _ (only_below (only_drew HG3.out) hb))
            case measure => simp [lenV]; omega
          · simp only [Act.put, List.setIfInBounds_toArray, List.set_cons_zero, List.set_cons_succ, Array.toArray_toList, yList_row]
            refine wpAny_ready (rs := [4]) (by kernel_rfl) (by simp) ?_
            refine open_load (some 51) rfl rfl rfl 59 _ rfl g 0 rfl (stRow Z).toList _ (state_there HL3.out) Tryd.underlying59 rfl (by kernel_rfl) ?_ AllReady.nil
            simp only [Act.put, List.setIfInBounds_toArray, List.set_cons_zero, List.set_cons_succ, Array.toArray_toList, yList_row]
            refine wpAny_ready (rs := [9]) (by kernel_rfl) (by simp) ?_
            refine open_call (some 56) (.agg (stRow (mixed key Z ρ))) _ rfl rfl rfl 28 #[.agg (stRow Z), .agg (yRow ρ 64)] (by kernel_rfl) (mix_any Z ρ _ (keyed_of HK.out HG3.out hg (Below.drew (Below.refl _ _)))) (fun w' hb => ?_) AllReady.nil
            simp only [Act.put, List.setIfInBounds_toArray, List.set_cons_zero, List.set_cons_succ]
            refine wpAny_ready (rs := [10]) (by kernel_rfl) (by simp) ?_
            refine open_value (some 57) (.pointer (some ⟨g, 0, none⟩)) rfl rfl rfl (by kernel_rfl) ?_ AllReady.nil
            simp only [Act.put, List.setIfInBounds_toArray, List.set_cons_zero, List.set_cons_succ]
            refine wpAny_ready (rs := [11]) (by kernel_rfl) (by simp) ?_
            refine open_value (some 58) (.pointer (some ⟨g, 0, none⟩)) rfl rfl rfl (by kernel_rfl) ?_ AllReady.nil
            simp only [Act.put, List.setIfInBounds_toArray, List.set_cons_zero, List.set_cons_succ]
            refine wpAny_ready (rs := [12]) (by kernel_rfl) (by simp) ?_
            refine open_store rfl rfl rfl 59 _ _ rfl g 0 (stRow (mixed key Z ρ)) rfl rfl (there_of (lies_below (lies_drew HL3.out) hb (lies_lt HL3.out)) (by rw [hRow_size]; show 0 + 8 ≤ 73; decide)) (by kernel_rfl) (stRow_one _) ?_ AllReady.nil
            refine wpAny_done (by kernel_rfl) ?_ _
            go_wp2
            go_roundw
            case rel => exact round_more hm HL.out HR.out HN.out HQ.out HF.out HM.out HY.out HA.out HD.out hn2 hc' (Or.inl ⟨HMm.out, by rw [← HZ2.out, ← HP.out]; exact lies_state (lies_below (lies_drew HL3.out) hb (lies_lt HL3.out))⟩) hn3 hn4 (only_setCells _ _ _ (only_below (only_drew HG3.out) hb))
            case measure => simp [lenV]; omega
        · obtain ⟨q2, hq2⟩ : ∃ q2, q2 = M % 64 := ⟨_, rfl⟩
          have hMm : (M : Int) % 64 = (q2 : Int) := by omega
          have hq3 : 0 < q2 := by omega
          have HMm := Lib.hid hM64
          clear hM64 hq2
          go_wp2
          go_roundw
          case rel => exact round_more hm HL.out HR.out HN.out HQ.out HF.out HM.out HY.out HA.out HD.out hn2 hc' (Or.inr ⟨HMm.out, by have := lies_set hL2 72 (.int .i64 (M : Int)); rw [hRow_count] at this; exact this⟩) hn3 hn4 (only_setCell hG2 _ _)
          case measure => simp [lenV]; omega
      · obtain ⟨R, hR⟩ : ∃ R, R = b.length - m := ⟨_, rfl⟩
        have hR0 : R ≤ 0 := by omega
        have hb' : b.take m = b := List.take_of_length_le (by omega)
        rw [hb'] at hH
        rw [← hR]
        clear hb' hR
        have HH := Lib.hid hH
        clear hH
        go_wp2
        go_end0
        exact ⟨rfl, HH.out, hG⟩
  · have hH : Has w g l := by
      rcases hh with h | ⟨rfl, _⟩
      · exact h
      · exact absurd rfl h0
    clear hh
    have hG := only_refl w g
    have c72 : w.cell? ⟨g, 72, none⟩ = some (.int .i64 (l.length : Int)) := by
      obtain ⟨r, hl, _⟩ := hH
      exact (lies_cell hl 72).trans (hRow_72 _ _ _)
    have hne : ((l.length : Int) == 0) = false := by simpa using h0
    have HH := Lib.hid hH
    have HG := Lib.hid hG
    clear hH hG
    go_enter Tryd.func22, Tryd.ntmps22
    go_wp2
    clear c72 hne
    have hH := HH.out
    have hG := HG.out
    clear HH HG
    go_loopw [1] (fun v wr => ∃ (m : Nat) (A' : Option Addr) (c' : Nat), m ≤ b.length ∧ v = .slice A' (b.length - m) c' ∧ b.length - m ≤ c' ∧ Src w g A' (b.drop m) ∧ Has wr g (l ++ b.take m) ∧ w.grownBy wr (some g)) (fun v _ => lenV v)
    case atStart => exact ⟨0, A, c, by omega, rfl, hc, HS.out, by simpa using hH, hG⟩
    case round =>
      clear hH hG
      obtain ⟨m, A', c', hm, rfl, hc', hs', hH, hG⟩ := hrel
      have HA := Lib.hid hs'
      clear hs'
      by_cases hlt : m < b.length
      · obtain ⟨r, hL, hr⟩ := hH
        obtain ⟨N, hN⟩ : ∃ N, N = (l ++ b.take m).length := ⟨_, rfl⟩
        obtain ⟨R, hR⟩ : ∃ R, R = b.length - m := ⟨_, rfl⟩
        obtain ⟨q, hq⟩ : ∃ q, q = N % 64 := ⟨_, rfl⟩
        obtain ⟨n1, hn1⟩ : ∃ n1, n1 = Nat.min R (64 - q) := ⟨_, rfl⟩
        obtain ⟨M, hM⟩ : ∃ M, M = N + n1 := ⟨_, rfl⟩
        have hNl : N = l.length + m := by rw [hN]; simp; omega
        have hN1 : N < 1152921504606846976 := by omega
        have hR1 : 0 < R := by omega
        have hq1 : q < 64 := by omega
        have hn2 : n1 ≤ R := by rw [hn1]; exact Nat.min_le_left _ _
        have hn3 : n1 ≤ 64 - q := by rw [hn1]; exact Nat.min_le_right _ _
        have hn4 : 0 < n1 := by rw [hn1]; exact Nat.lt_min.2 ⟨by omega, by omega⟩
        have hM1 : M < 1152921504606846976 := by omega
        rw [← hR] at hc' ⊢
        rw [← hN] at hL hr
        have hfl : ((b.drop m).take n1).length = n1 := by simp; omega
        obtain ⟨ad, rfl, hsrc⟩ := src_cell HA.out hG (by simp; omega)
        have hqz : (N : Int) % 64 = (q : Int) := by omega
        have hMz : (N : Int) + n1 = (M : Int) := by omega
        have HN := Lib.hid hN
        have HR := Lib.hid hR
        have HQ := Lib.hid hq
        have HC := Lib.hid hn1
        have HM := Lib.hid hM
        have HL := Lib.hid hNl
        have HF := Lib.hid hfl
        have HX := Lib.hid hsrc
        have HY := Lib.hid hr
        clear hN hR hq hn1 hM hNl hfl hsrc hr
        have HZ := Lib.hid hqz
        clear hqz
        have HMZ := Lib.hid hMz
        clear hMz
        have c72 := (lies_cell hL 72).trans (hRow_72 _ _ _)
        have l64 : (q : Int) < 64 := by omega
        go_wp2
        have hqz := HZ.out
        have hqt : ((N : Int)).tmod 64 = (q : Int) := by rw [Int.tmod_eq_emod_of_nonneg (by omega)]; exact hqz
        have hsl := slice_rest g q hq1
        go_still_tail 10, (by kernel_rfl)
        clear hqz hqt hsl
        change wpList _ _ _ _ _ wr.drew
        refine wpList_copy_n rfl (.tmp 27) (.tmp 28) 24 24 rfl 5 Tryd.underlying24 (by kernel_rfl) g (8 + q) (64 - q) (64 - q) ad R c' rfl rfl _ 66 (lies_drew hL) (((b.drop m).take n1).map Y) n1 (by rw [List.length_map]; exact HF.out) HC.out (src_take HX.out _) (by rw [List.length_map, HF.out, hRow_size]; omega) (y_one _) ?_
        rw [hRow_copy _ _ _ _ _ (by rw [HF.out]; omega)]
        have hL2 := lies_setRow (lies_drew hL) (hRow (chain key (l ++ b.take m) (N / 64)) (over r q ((b.drop m).take n1)) N)
        have hG2 := only_setRow (only_drew hG) (hRow (chain key (l ++ b.take m) (N / 64)) (over r q ((b.drop m).take n1)) N)
        generalize World.setRow wr.drew g (hRow (chain key (l ++ b.take m) (N / 64)) (over r q ((b.drop m).take n1)) N) = W2 at *
        clear c72 hL hG
        have c72 := (lies_cell hL2 72).trans (hRow_72 _ _ _)
        have f72 := lies_free hL2 72
        have hMz := HMZ.out
        obtain ⟨D, hD⟩ : ∃ D, D = (if c' = n1 then some ad else (some ad).map (·.add n1)) := ⟨_, rfl⟩
        have hso : ∀ W, (Instr.slice 24 (.slice (some ad) R c') (some (.int .i64 (n1 : Int))) none none).run Tryd.prog W = .ok (.slice D (R - n1) (c' - n1)) W := by
          rw [hD]; exact slice_off ad R c' n1 hn2
        have HD := Lib.hid hD
        clear hD
        by_cases hM64 : M % 64 = 0
        · have hMm : (M : Int) % 64 = 0 := by omega
          have HMm := Lib.hid hM64
          clear hM64
          obtain ⟨Z, hZ⟩ : ∃ Z, Z = chain key (l ++ b.take m) (N / 64) := ⟨_, rfl⟩
          obtain ⟨ρ, hρ⟩ : ∃ ρ, ρ = over r q ((b.drop m).take n1) := ⟨_, rfl⟩
          rw [← hZ, ← hρ] at hL2
          have HZ2 := Lib.hid hZ
          have HP := Lib.hid hρ
          clear hZ hρ
          go_wp2
          have hL3 := lies_set hL2 72 (.int .i64 (M : Int))
          rw [hRow_count] at hL3
          have hG3 := only_setCell hG2 72 (.int .i64 (M : Int))
          clear hL2 hG2 c72 f72 hso hMm hMz
          generalize W2.setCell ⟨g, 72, none⟩ (.int .i64 (M : Int)) = W3 at *
          have HL3 := Lib.hid hL3
          have HG3 := Lib.hid hG3
          clear hL3 hG3
          refine wp_region_any (by kernel_rfl) ?_
          change wpAny _ _ _ _ _ _ _ (World.drew W3)
          refine open_take 0 (some 47) (.pointer (some ⟨g, 0, none⟩)) rfl rfl (by kernel_rfl) (by kernel_rfl) (by kernel_rfl) (fun _ _ _ h => h) (Or.inl ⟨by rfl, fun _ => by kernel_rfl⟩) ?_
          simp only [Act.put, List.setIfInBounds_toArray, List.set_cons_zero, List.set_cons_succ]
          refine open_take 1 (some 48) (.pointer (some ⟨g, 0, none⟩)) rfl rfl (by kernel_rfl) (by kernel_rfl) (by kernel_rfl) (fun _ _ _ h => h) (Or.inl ⟨by rfl, fun _ => by kernel_rfl⟩) ?_
          simp only [Act.put, List.setIfInBounds_toArray, List.set_cons_zero, List.set_cons_succ]
          refine open_take 5 (some 52) (.pointer (some ⟨g, 0, none⟩)) rfl rfl (by kernel_rfl) (by kernel_rfl) (by kernel_rfl) (fun _ _ _ h => h) (Or.inl ⟨by rfl, fun _ => by kernel_rfl⟩) ?_
          simp only [Act.put, List.setIfInBounds_toArray, List.set_cons_zero, List.set_cons_succ]
          refine open_take 2 (some 49) (.pointer (some ⟨g, 0, none⟩)) rfl rfl (by kernel_rfl) (by kernel_rfl) (by kernel_rfl) (fun _ _ _ h => h) (Or.inl ⟨by rfl, fun _ => by kernel_rfl⟩) ?_
          simp only [Act.put, List.setIfInBounds_toArray, List.set_cons_zero, List.set_cons_succ]
          refine open_take 6 (some 53) (.pointer (some ⟨g, 0, none⟩)) rfl rfl (by kernel_rfl) (by kernel_rfl) (by kernel_rfl) (fun _ _ _ h => h) (Or.inl ⟨by rfl, fun _ => by kernel_rfl⟩) ?_
          simp only [Act.put, List.setIfInBounds_toArray, List.set_cons_zero, List.set_cons_succ]
          refine open_take 3 (some 50) (.pointer (some ⟨g, 0, none⟩)) rfl rfl (by kernel_rfl) (by kernel_rfl) (by kernel_rfl) (fun _ _ _ h => h) (Or.inl ⟨by rfl, fun _ => by kernel_rfl⟩) ?_
          simp only [Act.put, List.setIfInBounds_toArray, List.set_cons_zero, List.set_cons_succ]
          refine open_take 7 (some 54) (.pointer (some ⟨g, 8, none⟩)) rfl rfl (by kernel_rfl) (by kernel_rfl) (by kernel_rfl) (fun _ _ _ h => h) (Or.inl ⟨by rfl, fun _ => by kernel_rfl⟩) ?_
          simp only [Act.put, List.setIfInBounds_toArray, List.set_cons_zero, List.set_cons_succ]
          refine wpAny_ready (rs := [4, 8]) (by kernel_rfl) (by simp) ?_
          refine open_load (some 51) rfl rfl rfl 59 _ rfl g 0 rfl (stRow Z).toList _ (state_there HL3.out) Tryd.underlying59 rfl (by kernel_rfl) ?_ (open_load (some 55) rfl rfl rfl 64 _ rfl g 8 rfl (yList ρ 64) _ (rest_there HL3.out) Tryd.underlying64 rfl (by rw [yList_len]; kernel_rfl) ?_ AllReady.nil)
          · simp only [Act.put, List.setIfInBounds_toArray, List.set_cons_zero, List.set_cons_succ, Array.toArray_toList, yList_row]
            refine wpAny_ready (rs := [8]) (by kernel_rfl) (by simp) ?_
            refine open_load (some 55) rfl rfl rfl 64 _ rfl g 8 rfl (yList ρ 64) _ (rest_there HL3.out) Tryd.underlying64 rfl (by rw [yList_len]; kernel_rfl) ?_ AllReady.nil
            simp only [Act.put, List.setIfInBounds_toArray, List.set_cons_zero, List.set_cons_succ, Array.toArray_toList, yList_row]
            refine wpAny_ready (rs := [9]) (by kernel_rfl) (by simp) ?_
            refine open_call (some 56) (.agg (stRow (mixed key Z ρ))) _ rfl rfl rfl 28 #[.agg (stRow Z), .agg (yRow ρ 64)] (by kernel_rfl) (mix_any Z ρ _ (keyed_of HK.out HG3.out hg (Below.drew (Below.refl _ _)))) (fun w' hb => ?_) AllReady.nil
            simp only [Act.put, List.setIfInBounds_toArray, List.set_cons_zero, List.set_cons_succ]
            refine wpAny_ready (rs := [10]) (by kernel_rfl) (by simp) ?_
            refine open_value (some 57) (.pointer (some ⟨g, 0, none⟩)) rfl rfl rfl (by kernel_rfl) ?_ AllReady.nil
            simp only [Act.put, List.setIfInBounds_toArray, List.set_cons_zero, List.set_cons_succ]
            refine wpAny_ready (rs := [11]) (by kernel_rfl) (by simp) ?_
            refine open_value (some 58) (.pointer (some ⟨g, 0, none⟩)) rfl rfl rfl (by kernel_rfl) ?_ AllReady.nil
            simp only [Act.put, List.setIfInBounds_toArray, List.set_cons_zero, List.set_cons_succ]
            refine wpAny_ready (rs := [12]) (by kernel_rfl) (by simp) ?_
            refine open_store rfl rfl rfl 59 _ _ rfl g 0 (stRow (mixed key Z ρ)) rfl rfl (there_of (lies_below (lies_drew HL3.out) hb (lies_lt HL3.out)) (by rw [hRow_size]; show 0 + 8 ≤ 73; decide)) (by kernel_rfl) (stRow_one _) ?_ AllReady.nil
            refine wpAny_done (by kernel_rfl) ?_ _
            go_wp2
            go_roundw
            case rel => exact round_more hm HL.out HR.out HN.out HQ.out HF.out HM.out HY.out HA.out HD.out hn2 hc' (Or.inl ⟨HMm.out, by rw [← HZ2.out, ← HP.out]; exact lies_state (lies_below (lies_drew HL3.out) hb (lies_lt HL3.out))⟩) hn3 hn4 (only_setCells _ _ _ (only_below (only_drew HG3.out) hb))
            case measure => simp [lenV]; omega
          · simp only [Act.put, List.setIfInBounds_toArray, List.set_cons_zero, List.set_cons_succ, Array.toArray_toList, yList_row]
            refine wpAny_ready (rs := [4]) (by kernel_rfl) (by simp) ?_
            refine open_load (some 51) rfl rfl rfl 59 _ rfl g 0 rfl (stRow Z).toList _ (state_there HL3.out) Tryd.underlying59 rfl (by kernel_rfl) ?_ AllReady.nil
            simp only [Act.put, List.setIfInBounds_toArray, List.set_cons_zero, List.set_cons_succ, Array.toArray_toList, yList_row]
            refine wpAny_ready (rs := [9]) (by kernel_rfl) (by simp) ?_
            refine open_call (some 56) (.agg (stRow (mixed key Z ρ))) _ rfl rfl rfl 28 #[.agg (stRow Z), .agg (yRow ρ 64)] (by kernel_rfl) (mix_any Z ρ _ (keyed_of HK.out HG3.out hg (Below.drew (Below.refl _ _)))) (fun w' hb => ?_) AllReady.nil
            simp only [Act.put, List.setIfInBounds_toArray, List.set_cons_zero, List.set_cons_succ]
            refine wpAny_ready (rs := [10]) (by kernel_rfl) (by simp) ?_
            refine open_value (some 57) (.pointer (some ⟨g, 0, none⟩)) rfl rfl rfl (by kernel_rfl) ?_ AllReady.nil
            simp only [Act.put, List.setIfInBounds_toArray, List.set_cons_zero, List.set_cons_succ]
            refine wpAny_ready (rs := [11]) (by kernel_rfl) (by simp) ?_
            refine open_value (some 58) (.pointer (some ⟨g, 0, none⟩)) rfl rfl rfl (by kernel_rfl) ?_ AllReady.nil
            simp only [Act.put, List.setIfInBounds_toArray, List.set_cons_zero, List.set_cons_succ]
            refine wpAny_ready (rs := [12]) (by kernel_rfl) (by simp) ?_
            refine open_store rfl rfl rfl 59 _ _ rfl g 0 (stRow (mixed key Z ρ)) rfl rfl (there_of (lies_below (lies_drew HL3.out) hb (lies_lt HL3.out)) (by rw [hRow_size]; show 0 + 8 ≤ 73; decide)) (by kernel_rfl) (stRow_one _) ?_ AllReady.nil
            refine wpAny_done (by kernel_rfl) ?_ _
            go_wp2
            go_roundw
            case rel => exact round_more hm HL.out HR.out HN.out HQ.out HF.out HM.out HY.out HA.out HD.out hn2 hc' (Or.inl ⟨HMm.out, by rw [← HZ2.out, ← HP.out]; exact lies_state (lies_below (lies_drew HL3.out) hb (lies_lt HL3.out))⟩) hn3 hn4 (only_setCells _ _ _ (only_below (only_drew HG3.out) hb))
            case measure => simp [lenV]; omega
        · obtain ⟨q2, hq2⟩ : ∃ q2, q2 = M % 64 := ⟨_, rfl⟩
          have hMm : (M : Int) % 64 = (q2 : Int) := by omega
          have hq3 : 0 < q2 := by omega
          have HMm := Lib.hid hM64
          clear hM64 hq2
          go_wp2
          go_roundw
          case rel => exact round_more hm HL.out HR.out HN.out HQ.out HF.out HM.out HY.out HA.out HD.out hn2 hc' (Or.inr ⟨HMm.out, by have := lies_set hL2 72 (.int .i64 (M : Int)); rw [hRow_count] at this; exact this⟩) hn3 hn4 (only_setCell hG2 _ _)
          case measure => simp [lenV]; omega
      · obtain ⟨R, hR⟩ : ∃ R, R = b.length - m := ⟨_, rfl⟩
        have hR0 : R ≤ 0 := by omega
        have hb' : b.take m = b := List.take_of_length_le (by omega)
        rw [hb'] at hH
        rw [← hR]
        clear hb' hR
        have HH := Lib.hid hH
        clear hH
        go_wp2
        go_end0
        exact ⟨rfl, HH.out, hG⟩
end Go.Proofs.YtlnmaejpchncoaaDoor
