/-
What is proved here: where a stock lies in memory; stock.New, Find, Len and Size, by contracts.
-/
import Derived.Test.YtlnmaejpchncoaaDoorKBas
set_option linter.unusedSimpArgs false
namespace Go.Proofs.YtlnmaejpchncoaaDoor.K
open Go.Stk Go.RowKit Go.Word
attribute [local go_sem] guard_eq guard_ne st_eql st_neq

theorem keyed9 : Maps.Keyed Tryd.prog 9 := Maps.string_keyed Tryd.underlying9
theorem key_st (l : Bt) (h : l.length ≤ 100000) : keyOf Tryd.prog 9 (St l) = some (.string l) := by
  unfold St
  simp [keyOf, mapKey, Tryd.underlying9, ByteArray.size, maxLen]
  omega
theorem is_key (l : Bt) : WideAt.IsKeyLit (.string l) := by simp [WideAt.IsKeyLit]
theorem wf_int {z : Int} (h1 : -9223372036854775808 ≤ z) (h2 : z ≤ 9223372036854775807) : (Lit.int .i64 z).wf = true := by
  have e1 : IntKind.i64.min = -9223372036854775808 := by decide
  have e2 : IntKind.i64.max = 9223372036854775807 := by decide
  simp only [Lit.wf, Bool.and_eq_true, decide_eq_true_eq, e1, e2]
  exact ⟨h1, h2⟩
/-- the places of contents, by their bytes, in a map -/
def PlAt (w : World) (b : Nat) (cs : List Bt) : Prop := ∃ D : DataW Unit, w.ownsMap Tryd.prog 9 (plainElem Tryd.prog 3) b cs.length D ∧ ∀ l : Bt, Maps.has D (.string l) = decide (l ∈ cs) ∧ (l ∈ cs → D.atKey (.string l) (.lit (.int .i64 0)) = .lit (.int .i64 (cs.idxOf l : Nat)))
section
variable {w w' : World} {b : Nat} {cs : List Bt}
theorem pl_made (w : World) : PlAt (w.alloc (.map #[] 0)) w.heap.size [] := ⟨.map [], World.ownsMap_made _ _ _ _, fun l => ⟨by simp; rfl, fun h => by simp at h⟩⟩
theorem pl_same (h : PlAt w b cs) (hb : w'.heap[b]? = w.heap[b]?) : PlAt w' b cs := by
  obtain ⟨D, ⟨es, clock, h1, h2⟩, h3⟩ := h
  exact ⟨D, ⟨es, clock, hb.trans h1, h2⟩, h3⟩
theorem pl_lt (h : PlAt w b cs) : b < w.heap.size := by
  obtain ⟨D, h1, _⟩ := h
  exact h1.lt
set_option maxRecDepth 100000 in
theorem pl_look (h : PlAt w b cs) (l : Bt) (hl : l.length ≤ 100000) : ∃ c : Int, (∀ q, (Instr.lookup 48 (.map (some b)) (St l) true).run Tryd.prog (w.drewN q) = .ok (.tuple #[.int .i64 c, .bool (decide (l ∈ cs))]) (w.drewN q)) ∧ (l ∈ cs → c = (cs.idxOf l : Nat)) := by
  obtain ⟨D, h1, h2⟩ := h
  have key : ∀ W : World, W.ownsMap Tryd.prog 9 (plainElem Tryd.prog 3) b cs.length D → ∃ c : Int, (Instr.lookup 48 (.map (some b)) (St l) true).run Tryd.prog W = .ok (.tuple #[.int .i64 c, .bool (decide (l ∈ cs))]) W ∧ D.atKey (.string l) (.lit (.int .i64 0)) = .lit (.int .i64 c) := fun W h1 => by
    obtain ⟨v, ps, hr, hv⟩ := h1.look_ok keyed9 Tryd.underlying48 (Tryd.zeroValue3 W) (plainElem_int Tryd.underlying3 (by decide)) (key_st l hl)
    obtain ⟨c, rfl, hc, hwc⟩ := plainElem_int_inv Tryd.underlying3 hv
    simp only [Prod.mk.injEq] at hc
    exact ⟨c, by rw [hr, (h2 l).1], hc.1⟩
  obtain ⟨c, _, hc⟩ := key w h1
  refine ⟨c, fun q => ?_, fun hm => ?_⟩
  · obtain ⟨c', h3, h4⟩ := key (w.drewN q) h1
    rw [hc] at h4
    simp only [DataW.lit.injEq, Lit.int.injEq, true_and] at h4
    rw [h3, h4]
  · have := hc.symm.trans ((h2 l).2 hm)
    simp only [DataW.lit.injEq, Lit.int.injEq, true_and] at this
    exact this
set_option maxRecDepth 100000 in
theorem pl_put (h : PlAt w b cs) (l : Bt) (hl : l.length ≤ 100000) (hn : cs.length ≤ 100000) (hno : l ∉ cs) : ∃ w', (Instr.mapUpdate 48 (.map (some b)) (St l) (.int .i64 (cs.length : Nat))).run Tryd.prog w = .ok () w' ∧ PlAt w' b (cs ++ [l]) ∧ w.grownBy w' (some b) := by
  obtain ⟨D, h1, h2⟩ := h
  obtain ⟨w', hr, h3, h4⟩ := h1.update keyed9 Tryd.underlying48 (by unfold maxLen; omega) (key_st l hl) (plainElem_int Tryd.underlying3 (wf_int (z := (cs.length : Nat)) (by omega) (by omega)))
  refine ⟨w', hr, ⟨_, by rw [List.length_append]; exact h3, fun x => ?_⟩, h4⟩
  by_cases e : x = l
  · subst e
    rw [Maps.has_put_same h1.isMap (is_key x), Maps.atKey_put_same h1.isMap (is_key x)]
    refine ⟨by simp, fun _ => ?_⟩
    rw [List.idxOf_append, if_neg hno]
    simp
  · have hne : (Lit.string x) ≠ (Lit.string l) := by simpa using e
    rw [Maps.has_put_other hne, Maps.atKey_put_other hne, (h2 x).1]
    refine ⟨by simp [e], fun hm => ?_⟩
    have hm' : x ∈ cs := by
      rcases List.mem_append.1 hm with h | h
      · exact h
      · exact absurd (List.mem_singleton.1 h) e
    rw [List.idxOf_append, if_pos hm']
    exact (h2 x).2 hm'
end
theorem nil_look (l : Bt) (w : World) (hl : l.length ≤ 100000) : (Instr.lookup 48 (.map none) (St l) true).run Tryd.prog w = .ok (.tuple #[.int .i64 0, .bool false]) w := by
  simpa using Maps.look_nil (w := w) true keyed9 Tryd.underlying48 (Tryd.zeroValue3 w) (key_st l hl)

/-- where contents end, in cells -/
def endsV (cs : List Bt) : List Value := (List.range cs.length).map fun i => .int .i64 (endN cs i : Nat)
theorem endsV_len (cs : List Bt) : (endsV cs).length = cs.length := by simp [endsV]
theorem endsV_at (cs : List Bt) (i : Nat) (h : i < cs.length) : (endsV cs)[i]? = some (.int .i64 (endN cs i : Nat)) := by simp [endsV, h]
theorem endsV_snoc (cs : List Bt) (b : Bt) : endsV (cs ++ [b]) = endsV cs ++ [.int .i64 ((cs ++ [b]).flatten.length : Nat)] := by
  unfold endsV
  rw [List.length_append, List.length_singleton, List.range_succ, List.map_append]
  congr 1
  · refine List.map_congr_left (fun i hi => ?_)
    have hi : i < cs.length := by simpa using hi
    rw [endN_snoc hi]
  · rw [List.map_singleton, endN_last]
/-- a stock: its struct in block g, its rows and its map, all in blocks of P -/
structure Stk (w : World) (P : Nat → Prop) (g : Nat) (lim : Int) (cs : List Bt) (vB vE vM : Value) : Prop where
  cell : Lies w g 50 #[.int .i64 lim, vB, vE, vM]
  bytes : OwnB w 0 vB cs.flatten
  ends : w.ownsRow 0 3 1 vE cs.length (endsV cs)
  map : (vM = .map none ∧ cs = []) ∨ ∃ m, vM = .map (some m) ∧ PlAt w m cs ∧ P m
  nodup : cs.Nodup
  pg : P g
  pb : ∀ b, vB.ownBlock = some b → P b
  pe : ∀ b, vE.ownBlock = some b → P b
/-- all but the blocks of P is as it was -/
structure Keeps (P : Nat → Prop) (w w' : World) : Prop where
  os : w'.os = w.os
  tape : w'.tape = w.tape
  output : w'.output = w.output
  size : w.heap.size ≤ w'.heap.size
  block : ∀ i, i < w.heap.size → ¬ P i → w'.heap[i]? = w.heap[i]?
def Sub (w : World) (P P' : Nat → Prop) : Prop := ∀ i, P' i → P i ∨ w.heap.size ≤ i
theorem own_same {w w' : World} {B e size : Nat} {v : Value} {n : Nat} {xs : List Value} (h : w.ownsRow B e size v n xs) (hb : ∀ b, v.ownBlock = some b → b < w.heap.size → w'.heap[b]? = w.heap[b]?) : w'.ownsRow B e size v n xs := by
  obtain ⟨h0, h1⟩ := h
  refine ⟨h0, ?_⟩
  rcases h1 with h1 | ⟨g, cap, cur, e1, hbg, hg, r⟩
  · exact .inl h1
  · exact .inr ⟨g, cap, cur, e1, hbg, (hb g (by rw [e1]; rfl) (Array.getElem?_eq_some_iff.1 hg).1).trans hg, r⟩
section
variable {w w' : World} {P Q : Nat → Prop} {g : Nat} {lim : Int} {cs : List Bt} {vB vE vM : Value}
theorem keeps_refl (P : Nat → Prop) (w : World) : Keeps P w w := ⟨rfl, rfl, rfl, Nat.le_refl _, fun _ _ _ => rfl⟩
theorem keeps_below (h : Below w.heap.size w w') : Keeps P w w' := ⟨h.os, h.tape, h.output, h.size, fun i hi _ => h.block i hi⟩
theorem below_keeps {m : Nat} (h : Keeps P w w') (hm : m ≤ w.heap.size) (hf : ∀ i, P i → m ≤ i) : Below m w w' := ⟨h.os, h.tape, h.output, h.size, fun i hi => h.block i (by omega) (fun hi2 => by have := hf i hi2; omega)⟩
theorem keeps_trans {w2 : World} {P' : Nat → Prop} (h : Keeps P w w') (h2 : Keeps P' w' w2) (hs : Sub w P P') : Keeps P w w2 :=
  ⟨h2.os.trans h.os, h2.tape.trans h.tape, h2.output.trans h.output, Nat.le_trans h.size h2.size, fun i hi hn => (h2.block i (Nat.lt_of_lt_of_le hi h.size) (fun hp => by
    rcases hs i hp with h3 | h3
    · exact hn h3
    · omega)).trans (h.block i hi hn)⟩
theorem sub_refl (w : World) (P : Nat → Prop) : Sub w P P := fun _ h => .inl h
theorem sub_trans {w1 : World} {P' P'' : Nat → Prop} (h : Sub w P P') (h2 : Sub w1 P' P'') (hs : w.heap.size ≤ w1.heap.size) : Sub w P P'' := fun i hi => by
  rcases h2 i hi with h3 | h3
  · exact h i h3
  · exact .inr (by omega)
theorem stk_same (h : Stk w P g lim cs vB vE vM) (hb : ∀ i, P i → i < w.heap.size → w'.heap[i]? = w.heap[i]?) : Stk w' P g lim cs vB vE vM where
  cell := (hb g h.pg (lies_lt h.cell)).trans h.cell
  bytes := own_same h.bytes (fun b e hl => hb b (h.pb b e) hl)
  ends := own_same h.ends (fun b e hl => hb b (h.pe b e) hl)
  map := by
    rcases h.map with h1 | ⟨m, e, h1, h2⟩
    · exact .inl h1
    · exact .inr ⟨m, e, pl_same h1 (hb m h2 (pl_lt h1)), h2⟩
  nodup := h.nodup
  pg := h.pg
  pb := h.pb
  pe := h.pe
theorem stk_below (h : Stk w P g lim cs vB vE vM) (hb : Below w.heap.size w w') : Stk w' P g lim cs vB vE vM := stk_same h (fun i _ hi => hb.block i hi)
theorem stk_keeps (h : Stk w P g lim cs vB vE vM) (hb : Keeps Q w w') (ha : ∀ i, P i → ¬ Q i) : Stk w' P g lim cs vB vE vM := stk_same h (fun i hp hi => hb.block i hi (ha i hp))
theorem stk_mono (h : Stk w P g lim cs vB vE vM) (hs : ∀ i, P i → Q i) : Stk w Q g lim cs vB vE vM where
  cell := h.cell
  bytes := h.bytes
  ends := h.ends
  map := by
    rcases h.map with h1 | ⟨m, e, h1, h2⟩
    · exact .inl h1
    · exact .inr ⟨m, e, h1, hs m h2⟩
  nodup := h.nodup
  pg := hs g h.pg
  pb := fun b e => hs b (h.pb b e)
  pe := fun b e => hs b (h.pe b e)
theorem stk_cells (h : Stk w P g lim cs vB vE vM) : w.cell? ⟨g, 0, none⟩ = some (.int .i64 lim) ∧ w.cell? ⟨g, 1, none⟩ = some vB ∧ w.cell? ⟨g, 2, none⟩ = some vE ∧ w.cell? ⟨g, 3, none⟩ = some vM :=
  ⟨lies_cell h.cell 0, lies_cell h.cell 1, lies_cell h.cell 2, lies_cell h.cell 3⟩
/-- the stock's rows as slices -/
theorem stk_rows (h : Stk w P g lim cs vB vE vM) : (∃ A c, vB = .slice A cs.flatten.length c ∧ cs.flatten.length ≤ c ∧ BytesAt w A cs.flatten ∧ (A = none → c = 0)) ∧ ∃ E d, vE = .slice E cs.length d := by
  obtain ⟨A, c, rfl⟩ := own_slice h.bytes
  obtain ⟨E, d, rfl⟩ := own_slice h.ends
  have hb := own_bytes h.bytes
  exact ⟨⟨A, c, rfl, hb.2.2.1, hb.2.1, hb.2.2.2⟩, E, d, rfl⟩
end

theorem num_any (z : Int) (w : World) : Calls Tryd.prog 10 #[.int .i64 z] w fun e w' => e = .returned (.int .i64 z) ∧ w = w' := by
  go_enter Tryd.func10, Tryd.ntmps10
  go_wp2
  go_ret
  exact ⟨rfl, rfl⟩
theorem new_no (lim : Int) (w : World) (h : lim < 0 ∨ 65536 < lim) : Calls Tryd.prog 12 #[.int .i64 lim] w fun e w' => e = .returned (.tuple #[.pointer none, .int .i64 1]) ∧ w = w' := by
  by_cases h0 : lim < 0
  · clear h
    go_enter Tryd.func12, Tryd.ntmps12
    go_wp2
    go_ret2
    exact ⟨rfl, rfl⟩
  have h1 : 65536 < lim := by omega
  clear h
  go_enter Tryd.func12, Tryd.ntmps12
  go_wp2
  go_ret2
  exact ⟨rfl, rfl⟩
set_option maxRecDepth 100000 in
theorem new_any (lim : Int) (w : World) (h0 : 0 ≤ lim) (h1 : lim ≤ 65536) : Calls Tryd.prog 12 #[.int .i64 lim] w fun e w' => e = .returned (.tuple #[.pointer (some ⟨w.heap.size, 0, none⟩), .int .i64 0]) ∧ Stk w' (fun i => i = w.heap.size) w.heap.size lim [] (.slice none 0 0) (.slice none 0 0) (.map none) ∧ Below w.heap.size w w' ∧ w'.heap.size = w.heap.size + 1 := by
  have n0 : ¬ lim < 0 := by omega
  have n1 : ¬ 65536 < lim := by omega
  go_enter Tryd.func12, Tryd.ntmps12
  go_wp2
  go_ret2
  refine ⟨rfl, ⟨lies_new w 50 _, ownB_nil _ _, World.ownsRow_nil _ _ _ _, .inl ⟨rfl, rfl⟩, List.nodup_nil, rfl, fun b e => ?_, fun b e => ?_⟩, (Below.refl _ _).alloc (Nat.le_refl _) _, by simp⟩
  · simp [Value.ownBlock] at e
  · simp [Value.ownBlock] at e
section
variable {P : Nat → Prop} {g : Nat} {lim : Int} {cs : List Bt} {vB vE vM : Value}
theorem len_any (w : World) (h : Stk w P g lim cs vB vE vM) : Calls Tryd.prog 26 #[.pointer (some ⟨g, 0, none⟩)] w fun e w' => e = .returned (.int .i64 cs.length) ∧ w = w' := by
  obtain ⟨_, E, d, rfl⟩ := stk_rows h
  obtain ⟨_, _, c2, _⟩ := stk_cells h
  clear h
  generalize cs.length = n at *
  go_enter Tryd.func26, Tryd.ntmps26
  go_wp2
  go_ret
  exact ⟨rfl, rfl⟩
theorem size_any (w : World) (h : Stk w P g lim cs vB vE vM) : Calls Tryd.prog 14 #[.pointer (some ⟨g, 0, none⟩)] w fun e w' => e = .returned (.int .i64 cs.flatten.length) ∧ w = w' := by
  obtain ⟨⟨A, c, rfl, _⟩, _⟩ := stk_rows h
  obtain ⟨_, c1, _, _⟩ := stk_cells h
  clear h
  generalize cs.flatten.length = n at *
  go_enter Tryd.func14, Tryd.ntmps14
  go_wp2
  go_ret
  exact ⟨rfl, rfl⟩
set_option maxRecDepth 100000 in
theorem find_q (A : Option Addr) (c : Nat) (b : Bt) (w : World) (h : Stk w P g lim cs vB vE vM) (hb : BytesAt w A b) (hl : b.length ≤ 100000) : Calls Tryd.prog 19 #[.pointer (some ⟨g, 0, none⟩), .slice A b.length c] w fun e w' => e = .returned (.int .i64 (find cs b)) ∧ ∃ m, w' = w.drewN m := by
  obtain ⟨_, _, _, c3⟩ := stk_cells h
  have cv := fun q => run_text A b c (w.drewN q) hb
  rcases h.map with ⟨rfl, rfl⟩ | ⟨m, rfl, hm, _⟩
  · have lk := fun q => nil_look b (w.drewN q) hl
    have e0 : find [] b = -1 := find_no (by simp)
    rw [e0]
    clear h hb e0
    generalize b.length = n at *
    go_enter Tryd.func19, Tryd.ntmps19
    go_upto_region 3 with (fail)
    go_quiet (fail)
    go_wp2
    go_ret
    exact ⟨rfl, _, rfl⟩
  · obtain ⟨z, lk, hz⟩ := pl_look hm b hl
    by_cases hin : b ∈ cs
    · rw [hz hin, decide_eq_true hin] at lk
      rw [find_yes hin]
      clear h hb hm hz hin
      generalize b.length = n at *
      generalize cs.idxOf b = k at *
      go_enter Tryd.func19, Tryd.ntmps19
      go_upto_region 3 with (fail)
      go_quiet (fail)
      go_wp2
      go_ret
      exact ⟨rfl, _, rfl⟩
    · rw [decide_eq_false hin] at lk
      rw [find_no hin]
      clear h hb hm hz hin
      generalize b.length = n at *
      go_enter Tryd.func19, Tryd.ntmps19
      go_upto_region 3 with (fail)
      go_quiet (fail)
      go_wp2
      go_ret
      exact ⟨rfl, _, rfl⟩
theorem find_any (A : Option Addr) (c : Nat) (b : Bt) (w : World) (h : Stk w P g lim cs vB vE vM) (hb : BytesAt w A b) (hl : b.length ≤ 100000) : Calls Tryd.prog 19 #[.pointer (some ⟨g, 0, none⟩), .slice A b.length c] w fun e w' => e = .returned (.int .i64 (find cs b)) ∧ Below w.heap.size w w' :=
  (find_q A c b w h hb hl).mono (fun e w' h => ⟨h.1, by obtain ⟨m, rfl⟩ := h.2; exact below_drewN (Below.refl _ _) _⟩)
end
end Go.Proofs.YtlnmaejpchncoaaDoor.K
