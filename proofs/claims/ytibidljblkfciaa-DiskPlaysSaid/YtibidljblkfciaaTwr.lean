/-
What is proved here: the document's own disk's Twin, by a contract: a disk of new memory that holds the same.
-/
import Derived.Test.YtibidljblkfciaaRkg
import Derived.RegionTactic
import Derived.ChangeAlike
set_option linter.unusedSimpArgs false
namespace Go.Proofs.Ytibidljblkfciaa
open Go.Word Go.RowKit

theorem wpList_app_eq {P : Program} {w w' : World} {ops : Array Oper} {rest : List Oper} {o : Oper} {a : Act} {Q : Exit → Act → World → Prop} (hgd : o.guard = none) (s x : Operand) (t : TypeId)
    (ho : o.op = .call { callee := .builtin .append, args := #[s, x], argTypes := #[t, t] }) (v xv v' : Value) (hs : a.eval s = v) (hx : a.eval x = xv) (hr : ∀ ty, (Builtin.append_ #[t, t] ty #[v, xv]).run P w = .ok v' w')
    (h : wpList P ops Q rest (a.put o.dst v') w') : wpList P ops Q (o :: rest) a w :=
  wpList_plain hgd fun K hK => by
    have e : (execOp a.eval o).run P w = .ok (.value v') w' := by
      unfold execOp
      simp only [ho, resolve, invoke, builtin, Sem.run_bind, Sem.run_pure, Result.andThen_ok, List.map_toArray, List.map_cons, List.map_nil, hs, hx]
      rw [hr o.type]
      rfl
    unfold Oper.wp
    rw [e]
    exact hK _ _ h
/-- the first K bytes, then noughts -/
def cutB (F : Bytes) (K : Nat) : Bytes := fun j => if j < K then F j else nil8 j
theorem zeros78 (n : Nat) : Builtin.zeroCells (Value.cells (.agg (yRow nil8 512))) n = yRow nil8 (512 * n) := by
  have hc : Value.cells (.agg (yRow nil8 512)) = yRow nil8 512 := rfl
  rw [hc]
  refine Array.ext_getElem? fun j => ?_
  by_cases hj : j < 512 * n
  · rw [yRow_at _ hj]
    have hm : j % 512 < 512 := Nat.mod_lt _ (by decide)
    have hjn : j < n * 512 := by omega
    have hs : (yRow nil8 512).size = 512 := yRow_size _ _
    have hg := yRow_at nil8 hm
    simp only [Builtin.zeroCells, hs]
    simp [hjn]
    have hlt : j % 512 < (yRow nil8 512).size := by rw [hs]; exact hm
    rw [Array.getElem?_eq_getElem hlt] at hg
    injection hg with hg
    rw [getElem!_pos (yRow nil8 512) (j % 512) hlt, hg]
    rfl
  · rw [Array.getElem?_eq_none (by simp [Builtin.zeroCells, yRow_size]; omega), Array.getElem?_eq_none (by rw [yRow_size]; omega)]
theorem row_zeros (F : Bytes) (n C : Nat) (h : n ≤ C) : (yRow F (512 * n)).toList.toArray ++ yRow nil8 (512 * (C - n)) = yRow (cutB F (512 * n)) (512 * C) := by
  refine Array.ext_getElem? fun j => ?_
  simp only [Array.toArray_toList]
  by_cases h1 : j < 512 * n
  · rw [Array.getElem?_append_left (by rw [yRow_size]; exact h1), yRow_at _ h1, yRow_at _ (by omega)]
    unfold cutB
    rw [if_pos h1]
  · rw [Array.getElem?_append_right (by rw [yRow_size]; omega), yRow_size]
    by_cases h2 : j < 512 * C
    · rw [yRow_at _ (by omega), yRow_at _ h2]
      unfold cutB
      rw [if_neg h1]
      rfl
    · rw [Array.getElem?_eq_none (by rw [yRow_size]; omega), Array.getElem?_eq_none (by rw [yRow_size]; omega)]
theorem fast_app {w : World} {FB n C0 : Nat} {F : Bytes} (hl : Lies w FB 78 (yRow F (512 * C0))) (hC : n ≤ C0) (h1 : 1 ≤ n) (h2 : n ≤ 4096) :
    ∃ C', n ≤ C' ∧ ∀ ty, (Builtin.append_ #[74, 74] ty #[.slice none 0 0, .slice (some ⟨FB, 0, none⟩) n C0]).run Try.prog w = .ok (.slice (some ⟨w.heap.size, 0, none⟩) n C') (w.drew.alloc (.cells (yRow (cutB F (512 * n)) (512 * C')) 78)) := by
  obtain ⟨i, hi, hz0, hz1, hz2⟩ := info_parts info78
  refine ⟨grownCap w n 0 78, grownCap_ge w n 0 78, fun ty => ?_⟩
  have := run_append_nil (P := Try.prog) w 74 ty 78 i _ Try.underlying74 hi hz0 ⟨FB, 0, none⟩ n C0 (yRow F (512 * n)).toList (by rw [Array.length_toList, yRow_size, hz1]; omega) (fun j v hj => by
    have hj2 : j < 512 * n := by
      rcases Nat.lt_or_ge j (512 * n) with h | h
      · exact h
      · rw [Array.getElem?_toList, Array.getElem?_eq_none (by rw [yRow_size]; exact h)] at hj; cases hj
    rw [Array.getElem?_toList, yRow_at _ hj2] at hj
    rw [Addr.add_mid, Nat.zero_add, lies_cell hl, yRow_at _ (by omega)]
    exact hj) (by omega) (by omega) (by rw [hz2]; omega)
  rw [this, zeros78, row_zeros _ _ _ (grownCap_ge w n 0 78)]

set_option maxRecDepth 100000 in
set_option maxHeartbeats 4000000 in
theorem rtwin_nil {r FB C0 : Nat} {n : Nat} {F : Bytes} {ws : List (Nat × Bytes)} {on : Bool} {lf : Int} (w : World) (h : Rdk w r FB C0 (.slice none 0 0) n F ws on lf) :
    Calls Try.prog 15 #[.pointer (some ⟨r, 0, none⟩)] w fun e w' => ∃ r' FB' C' rv', e = .returned (.pointer (some ⟨r', 0, none⟩)) ∧ Rdk w' r' FB' C' rv' n (cutB F (512 * n)) ws on lf ∧ (w.heap.size ≤ r' ∧ w.heap.size ≤ FB' ∧ ∀ k, rv'.ownBlock = some k → w.heap.size ≤ k) ∧ Below w.heap.size w w' := by
  have hself := h.self
  have c0 : w.cell? ⟨r, 0, none⟩ = some (.slice (some ⟨FB, 0, none⟩) n C0) := lies_cell hself 0
  have c2 : w.cell? ⟨r, 2, none⟩ = some (.int .i64 lf) := lies_cell hself 2
  have c3 : w.cell? ⟨r, 3, none⟩ = some (.bool (!on)) := lies_cell hself 3
  have hrl := lies_lt hself
  have H := Lib.hid h
  obtain ⟨nb, hob⟩ : ∃ nb, nb = (!on) := ⟨_, rfl⟩
  rw [← hob] at c3
  have HOB := Lib.hid hob
  clear h hself hob
  go_enter Try.func15, Try.ntmps15
  go_upto_region 1 with (fail)
  go_region
  obtain ⟨W1, hW1⟩ : ∃ W1, W1 = (w.alloc (Obj.cells #[Value.slice none 0 0, Value.slice none 0 0, Value.int IntKind.i64 lf, Value.bool nb] 77)).drew := ⟨_, rfl⟩
  rw [← hW1]
  have b1 : Below w.heap.size w W1 := by rw [hW1]; exact Below.drew ((Below.refl _ w).alloc (Nat.le_refl _) _)
  have z1 : W1.heap.size = w.heap.size + 1 := by rw [hW1]; show (w.alloc _).heap.size = _; simp
  have l1 : Lies W1 w.heap.size 77 #[Value.slice none 0 0, Value.slice none 0 0, Value.int IntKind.i64 lf, Value.bool nb] := by rw [hW1]; exact lies_drew (lies_new w 77 _)
  clear hW1 c2 c3
  obtain ⟨C', hC', hap0⟩ := fast_app (lies_below H.out.fast b1 (lies_lt H.out.fast)) H.out.most.2.2 H.out.most.1 H.out.most.2.1
  obtain ⟨W2, hW2⟩ : ∃ W2, W2 = W1.drew.alloc (.cells (yRow (cutB F (512 * n)) (512 * C')) 78) := ⟨_, rfl⟩
  rw [← hW2] at hap0
  have HAP := Lib.hid hap0
  have b2 : Below w.heap.size w W2 := by rw [hW2]; exact (Below.drew b1).alloc (by show w.heap.size ≤ W1.heap.size; omega) _
  have f2 : Lies W2 W1.heap.size 78 (yRow (cutB F (512 * n)) (512 * C')) := by rw [hW2]; exact lies_new W1.drew 78 _
  have l2 : Lies W2 w.heap.size 77 #[Value.slice none 0 0, Value.slice none 0 0, Value.int IntKind.i64 lf, Value.bool nb] := by rw [hW2]; exact lies_alloc (lies_drew l1) _
  have z2 : W2.heap.size = w.heap.size + 2 := by rw [hW2]; show (World.alloc _ _).heap.size = _; simp; omega
  have d0 : W1.cell? ⟨r, 0, none⟩ = some (.slice (some ⟨FB, 0, none⟩) n C0) := (b1.cell (p := ⟨r, 0, none⟩) hrl).trans c0
  have e0 : W2.cell? ⟨w.heap.size, 0, none⟩ = some (.slice none 0 0) := lies_cell l2 0
  have g0 := lies_free l2 0
  have B2 := Lib.hid b2
  have F2 := Lib.hid f2
  have L2 := Lib.hid l2
  have Z1 := Lib.hid z1
  have Z2 := Lib.hid z2
  have HC := Lib.hid hC'
  clear hW2 b1 l1 b2 f2 l2 c0 hap0 z1 z2 hC'
  go_upto_region 3 with (at_builtin; refine wpList_app_eq rfl _ _ 74 rfl (.slice none 0 0) (.slice (some ⟨FB, 0, none⟩) n C0) _ rfl rfl HAP.out ?_)
  obtain ⟨W3, hW3⟩ : ∃ W3, W3 = W2.setCell ⟨w.heap.size, 0, none⟩ (.slice (some ⟨W1.heap.size, 0, none⟩) n C') := ⟨_, rfl⟩
  rw [← hW3]
  have g3 : W2.grownBy W3 (some w.heap.size) := by rw [hW3]; exact only_setCell (World.grownBy.refl W2 _) 0 _
  have l3 : Lies W3 w.heap.size 77 #[.slice (some ⟨W1.heap.size, 0, none⟩) n C', Value.slice none 0 0, Value.int IntKind.i64 lf, Value.bool nb] := by rw [hW3]; exact lies_set L2.out 0 _
  have b3 : Below w.heap.size w W3 := ⟨g3.os.trans B2.out.os, g3.tape.trans B2.out.tape, g3.output.trans B2.out.output, Nat.le_trans B2.out.size g3.size, fun k hk => (g3.block k (Nat.lt_of_lt_of_le hk B2.out.size) (fun e => by injection e with e; omega)).trans (B2.out.block k hk)⟩
  have f3 : Lies W3 W1.heap.size 78 (yRow (cutB F (512 * n)) (512 * C')) := (g3.block W1.heap.size (lies_lt F2.out) (fun e => by injection e with e; have := Z1.out; omega)).trans F2.out
  clear HAP d0 e0 g0 hW3 g3
  have d1 : W3.cell? ⟨r, 1, none⟩ = some (.slice none 0 0) := (b3.cell (p := ⟨r, 1, none⟩) hrl).trans (lies_cell H.out.self 1)
  have e1 : W3.cell? ⟨w.heap.size, 1, none⟩ = some (.slice none 0 0) := lies_cell l3 1
  have g1 := lies_free l3 1
  have B3 := Lib.hid b3
  have F3 := Lib.hid f3
  have L3 := Lib.hid l3
  clear b3 f3 l3
  go_wp2
  go_ret
  have g4 : W3.grownBy (W3.setCell ⟨w.heap.size, 1, none⟩ (.slice none 0 0)) (some w.heap.size) := only_setCell (World.grownBy.refl W3 _) 1 _
  refine ⟨w.heap.size, W1.heap.size, C', .slice none 0 0, rfl, { self := ?_, fast := ?_, held := ⟨H.out.held.1, ?_⟩, most := ⟨H.out.most.1, H.out.most.2.1, HC.out⟩, ats := H.out.ats, apart := ?_ }, ⟨Nat.le_refl _, by have := Z1.out; omega, fun k hk => by cases hk⟩, ?_⟩
  · rw [← HOB.out]; exact lies_set L3.out 1 _
  · exact (g4.block _ (lies_lt F3.out) (fun e => by injection e with e; have := Z1.out; omega)).trans F3.out
  · rcases H.out.held.2 with ⟨_, e0⟩ | ⟨gg, cap, cur, e, _⟩
    · exact .inl ⟨rfl, e0⟩
    · cases e
  · have := Z1.out; omega
  · exact ⟨g4.os.trans B3.out.os, g4.tape.trans B3.out.tape, g4.output.trans B3.out.output, Nat.le_trans B3.out.size g4.size, fun k hk => (g4.block k (Nat.lt_of_lt_of_le hk B3.out.size) (fun e => by injection e with e; omega)).trans (B3.out.block k hk)⟩
set_option maxRecDepth 100000 in
set_option maxHeartbeats 4000000 in
theorem rtwin_some {r FB C0 : Nat} {hbk N C : Nat} {n : Nat} {F : Bytes} {ws : List (Nat × Bytes)} {on : Bool} {lf : Int} (w : World) (hN : ws.length ≤ 70000) (h : Rdk w r FB C0 (.slice (some ⟨hbk, 0, none⟩) N C) n F ws on lf) :
    Calls Try.prog 15 #[.pointer (some ⟨r, 0, none⟩)] w fun e w' => ∃ r' FB' C' rv', e = .returned (.pointer (some ⟨r', 0, none⟩)) ∧ Rdk w' r' FB' C' rv' n (cutB F (512 * n)) ws on lf ∧ (w.heap.size ≤ r' ∧ w.heap.size ≤ FB' ∧ ∀ k, rv'.ownBlock = some k → w.heap.size ≤ k) ∧ Below w.heap.size w w' := by
  have hself := h.self
  have c0 : w.cell? ⟨r, 0, none⟩ = some (.slice (some ⟨FB, 0, none⟩) n C0) := lies_cell hself 0
  have c2 : w.cell? ⟨r, 2, none⟩ = some (.int .i64 lf) := lies_cell hself 2
  have c3 : w.cell? ⟨r, 3, none⟩ = some (.bool (!on)) := lies_cell hself 3
  have hrl := lies_lt hself
  have H := Lib.hid h
  obtain ⟨nb, hob⟩ : ∃ nb, nb = (!on) := ⟨_, rfl⟩
  rw [← hob] at c3
  have HOB := Lib.hid hob
  clear h hself hob
  go_enter Try.func15, Try.ntmps15
  go_upto_region 1 with (fail)
  go_region
  obtain ⟨W1, hW1⟩ : ∃ W1, W1 = (w.alloc (Obj.cells #[Value.slice none 0 0, Value.slice none 0 0, Value.int IntKind.i64 lf, Value.bool nb] 77)).drew := ⟨_, rfl⟩
  rw [← hW1]
  have b1 : Below w.heap.size w W1 := by rw [hW1]; exact Below.drew ((Below.refl _ w).alloc (Nat.le_refl _) _)
  have z1 : W1.heap.size = w.heap.size + 1 := by rw [hW1]; show (w.alloc _).heap.size = _; simp
  have l1 : Lies W1 w.heap.size 77 #[Value.slice none 0 0, Value.slice none 0 0, Value.int IntKind.i64 lf, Value.bool nb] := by rw [hW1]; exact lies_drew (lies_new w 77 _)
  clear hW1 c2 c3
  obtain ⟨C', hC', hap0⟩ := fast_app (lies_below H.out.fast b1 (lies_lt H.out.fast)) H.out.most.2.2 H.out.most.1 H.out.most.2.1
  obtain ⟨W2, hW2⟩ : ∃ W2, W2 = W1.drew.alloc (.cells (yRow (cutB F (512 * n)) (512 * C')) 78) := ⟨_, rfl⟩
  rw [← hW2] at hap0
  have HAP := Lib.hid hap0
  have b2 : Below w.heap.size w W2 := by rw [hW2]; exact (Below.drew b1).alloc (by show w.heap.size ≤ W1.heap.size; omega) _
  have f2 : Lies W2 W1.heap.size 78 (yRow (cutB F (512 * n)) (512 * C')) := by rw [hW2]; exact lies_new W1.drew 78 _
  have l2 : Lies W2 w.heap.size 77 #[Value.slice none 0 0, Value.slice none 0 0, Value.int IntKind.i64 lf, Value.bool nb] := by rw [hW2]; exact lies_alloc (lies_drew l1) _
  have z2 : W2.heap.size = w.heap.size + 2 := by rw [hW2]; show (World.alloc _ _).heap.size = _; simp; omega
  have d0 : W1.cell? ⟨r, 0, none⟩ = some (.slice (some ⟨FB, 0, none⟩) n C0) := (b1.cell (p := ⟨r, 0, none⟩) hrl).trans c0
  have e0 : W2.cell? ⟨w.heap.size, 0, none⟩ = some (.slice none 0 0) := lies_cell l2 0
  have g0 := lies_free l2 0
  have B2 := Lib.hid b2
  have F2 := Lib.hid f2
  have L2 := Lib.hid l2
  have Z1 := Lib.hid z1
  have Z2 := Lib.hid z2
  have HC := Lib.hid hC'
  clear hW2 b1 l1 b2 f2 l2 c0 hap0 z1 z2 hC'
  go_upto_region 3 with (at_builtin; refine wpList_app_eq rfl _ _ 74 rfl (.slice none 0 0) (.slice (some ⟨FB, 0, none⟩) n C0) _ rfl rfl HAP.out ?_)
  obtain ⟨W3, hW3⟩ : ∃ W3, W3 = W2.setCell ⟨w.heap.size, 0, none⟩ (.slice (some ⟨W1.heap.size, 0, none⟩) n C') := ⟨_, rfl⟩
  rw [← hW3]
  have g3 : W2.grownBy W3 (some w.heap.size) := by rw [hW3]; exact only_setCell (World.grownBy.refl W2 _) 0 _
  have l3 : Lies W3 w.heap.size 77 #[.slice (some ⟨W1.heap.size, 0, none⟩) n C', Value.slice none 0 0, Value.int IntKind.i64 lf, Value.bool nb] := by rw [hW3]; exact lies_set L2.out 0 _
  have b3 : Below w.heap.size w W3 := ⟨g3.os.trans B2.out.os, g3.tape.trans B2.out.tape, g3.output.trans B2.out.output, Nat.le_trans B2.out.size g3.size, fun k hk => (g3.block k (Nat.lt_of_lt_of_le hk B2.out.size) (fun e => by injection e with e; omega)).trans (B2.out.block k hk)⟩
  have f3 : Lies W3 W1.heap.size 78 (yRow (cutB F (512 * n)) (512 * C')) := (g3.block W1.heap.size (lies_lt F2.out) (fun e => by injection e with e; have := Z1.out; omega)).trans F2.out
  clear HAP d0 e0 g0 hW3 g3
  have d1 : W3.cell? ⟨r, 1, none⟩ = some (.slice (some ⟨hbk, 0, none⟩) N C) := (b3.cell (p := ⟨r, 1, none⟩) hrl).trans (lies_cell H.out.self 1)
  have e1 : W3.cell? ⟨w.heap.size, 1, none⟩ = some (.slice none 0 0) := lies_cell l3 1
  have g1 := lies_free l3 1
  have B3 := Lib.hid b3
  have F3 := Lib.hid f3
  have L3 := Lib.hid l3
  clear b3 f3 l3
  obtain ⟨i0, hi, hz0, hz1, hz2⟩ := info_parts info84
  have hN2 : N = ws.length := by
    rcases H.out.held.2 with ⟨e, _⟩ | ⟨gg, cap, cur, e, _⟩
    · cases e
    · injection e with _ e _
  have hheld := World.ownsRow.kept H.out.held ⟨B3.out.os, B3.out.tape, B3.out.output, B3.out.size, fun k hk _ => B3.out.block k hk⟩ (row := none) (by cases hv' : Value.ownBlock (.slice (some ⟨hbk, 0, none⟩) N C) <;> simp)
  have NW := Lib.hid (fun (j : Nat) (u : Value) (hj : (ws.flatMap wrow)[j]? = some u) => (World.ownsRow.cells hheld (g := hbk) rfl j u hj))
  have hzs : (Value.cells (.agg (wcel 0 nil8))).size = 513 := wcel_size _ _
  have HN2 := Lib.hid hN2
  have hNN : N ≤ 70000 := by omega
  have ONE := Lib.hid (show ∀ u ∈ ws.flatMap wrow, u.oneCell' = true from fun u hu => by
    obtain ⟨x, _, hx⟩ := List.mem_flatMap.1 hu
    simp only [wrow, List.mem_cons, List.mem_map] at hx
    rcases hx with rfl | ⟨j, _, rfl⟩ <;> rfl)
  have LEN := Lib.hid (show (ws.flatMap wrow).length = N * 513 by rw [wflat_len, hN2])
  clear hheld hN2
  go_wp2_with (at_builtin; refine wpList_append_own _ rfl _ _ 75 rfl W3.heap.size 84 i0 _ 513 520 Try.underlying75 hi hz0 hz1 hz2 hzs (by decide) (.slice none 0 0) 0 [] rfl (World.ownsRow_nil _ _ _ _) ⟨hbk, 0, none⟩ N C (ws.flatMap wrow) rfl LEN.out NW.out ONE.out (by unfold maxLen; omega) (by omega) (Nat.le_refl _) ?_; intro v' w4 hown' hgrow hnil; rw [Nat.zero_add, List.nil_append] at hown'; have HO4 := Lib.hid hown'; have G4 := Lib.hid (grown_below (B := W3.heap.size) hgrow (fun k e => by cases e) (Nat.le_refl _)); clear hown' hgrow hnil; have e1 : w4.cell? ⟨w.heap.size, 1, none⟩ = some (.slice none 0 0) := (G4.out.cell (p := ⟨w.heap.size, 1, none⟩) (lies_lt L3.out)).trans (lies_cell L3.out 1); have g1 := lies_free (lies_below L3.out G4.out (lies_lt L3.out)) 1; obtain ⟨A', C4, ev⟩ : ∃ A' C4, v' = .slice A' N C4 := (by rcases HO4.out.2 with ⟨e, e0⟩ | ⟨gg, cap, cur, e, _⟩; exact ⟨none, 0, by rw [e, e0]⟩; exact ⟨_, _, e⟩); subst ev)
  go_ret
  have L4 := Lib.hid (lies_below L3.out G4.out (lies_lt L3.out))
  have g4 : w4.grownBy (w4.setCell ⟨w.heap.size, 1, none⟩ (.slice A' N C4)) (some w.heap.size) := only_setCell (World.grownBy.refl w4 _) 1 _
  have hNs : N = ws.length := HN2.out
  have hown : (w4.setCell ⟨w.heap.size, 1, none⟩ (.slice A' N C4)).ownsRow W3.heap.size 84 513 (.slice A' N C4) N (ws.flatMap wrow) := World.ownsRow.kept HO4.out g4 (.inr (own84 HO4.out L4.out (by decide)))
  have zz := Z1.out
  have z3 := B3.out.size
  refine ⟨w.heap.size, W1.heap.size, C', .slice A' N C4, rfl, { self := ?_, fast := ?_, held := ⟨H.out.held.1, ?_⟩, most := ⟨H.out.most.1, H.out.most.2.1, HC.out⟩, ats := H.out.ats, apart := ?_ }, ⟨Nat.le_refl _, by omega, fun k hk => ?_⟩, ?_⟩
  · rw [← HOB.out]; exact lies_set L4.out 1 _
  · exact (g4.block _ (lies_lt (lies_below F3.out G4.out (lies_lt F3.out))) (fun e => by injection e with e; omega)).trans (lies_below F3.out G4.out (lies_lt F3.out))
  · rw [← hNs]
    rcases hown.2 with h0 | ⟨gg, cap, cur, e, h1, h2, h3⟩
    · exact .inl h0
    · exact .inr ⟨gg, cap, cur, e, Nat.zero_le _, h2, h3⟩
  · omega
  · have := World.ownsRow.lt hown k hk
    omega
  · exact ⟨g4.os.trans (G4.out.os.trans B3.out.os), g4.tape.trans (G4.out.tape.trans B3.out.tape), g4.output.trans (G4.out.output.trans B3.out.output), Nat.le_trans B3.out.size (Nat.le_trans G4.out.size g4.size), fun k hk => (g4.block k (Nat.lt_of_lt_of_le hk (Nat.le_trans B3.out.size G4.out.size)) (fun e => by injection e with e; omega)).trans ((G4.out.block k (Nat.lt_of_lt_of_le hk B3.out.size)).trans (B3.out.block k hk))⟩

theorem rtwin_any {r FB C0 : Nat} {rv : Value} {n : Nat} {F : Bytes} {ws : List (Nat × Bytes)} {on : Bool} {lf : Int} (w : World) (hN : ws.length ≤ 70000) (h : Rdk w r FB C0 rv n F ws on lf) :
    Calls Try.prog 15 #[.pointer (some ⟨r, 0, none⟩)] w fun e w' => ∃ r' FB' C' rv', e = .returned (.pointer (some ⟨r', 0, none⟩)) ∧ Rdk w' r' FB' C' rv' n (cutB F (512 * n)) ws on lf ∧ (w.heap.size ≤ r' ∧ w.heap.size ≤ FB' ∧ ∀ k, rv'.ownBlock = some k → w.heap.size ≤ k) ∧ Below w.heap.size w w' := by
  rcases h.held.2 with ⟨e, e0⟩ | ⟨gg, cap, cur, e, _⟩
  · subst e
    exact rtwin_nil w h
  · subst e
    exact rtwin_some w hN h
theorem rd_twin {r n : Nat} {F : Bytes} {ws : List (Nat × Bytes)} {on : Bool} {lf : Int} {fp : Nat → Prop} (w : World) (hN : ws.length ≤ 70000) (h : RD w r n F ws on lf fp) :
    Calls Try.prog 15 #[.pointer (some ⟨r, 0, none⟩)] w fun e w' => ∃ r' fp', e = .returned (.pointer (some ⟨r', 0, none⟩)) ∧ RD w' r' n F ws on lf fp' ∧ (∀ i, fp' i → w.heap.size ≤ i) ∧ Below w.heap.size w w' := by
  obtain ⟨⟨F2, FB, C0, rv, hF, hd, _⟩, _⟩ := h
  refine (rtwin_any w hN hd).mono fun e w' ⟨r', FB', C', rv', he, hd', ⟨l1, l2, l3⟩, hb⟩ => ⟨r', fun i => w.heap.size ≤ i ∧ i < w'.heap.size, he, ⟨⟨_, FB', C', rv', fun j hj => ?_, hd', ⟨l1, lies_lt hd'.self⟩, ⟨l2, lies_lt hd'.fast⟩, fun k hk => ⟨l3 k hk, (World.ownsRow.lt hd'.held k hk).2⟩⟩, fun i hi => hi.2⟩, fun i hi => hi.1, hb⟩
  unfold cutB
  rw [if_pos hj]
  exact hF j hj
end Go.Proofs.Ytibidljblkfciaa
