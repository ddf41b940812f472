/-
What is proved here: actions and needs that a law of order builds in memory.
-/
import Derived.Test.YtnbjfmkckebfgaaGreatOal
import Derived.Deep.MidRow
set_option linter.unusedSimpArgs false
set_option linter.unusedVariables false
namespace Go.Proofs.YtnbjfmkckebfgaaGreat
open Go.Cmp Go.RowKit
theorem act_info : (Tryz.prog.info? 26).map (fun i => (i.zero, i.size, i.bytes)) = some (some (.agg #[.int .i64 0, .string { data := #[] }, .string { data := #[] }, .int .i64 0, .int .i64 0]), 5, 56) := by kernel_rfl
theorem mk_acts (w : World) (k : Nat) (hk : k ≤ 5000) : (Instr.makeSlice 23 (.int .i64 (k : Int)) (.int .i64 (k : Int))).run Tryz.prog w = .ok (.slice (some ⟨w.heap.size, 0, Option.none⟩) k k) (w.alloc (.cells (madeCells #[.int .i64 0, .string { data := #[] }, .string { data := #[] }, .int .i64 0, .int .i64 0] (k * 5)) 26)) := by
  obtain ⟨i, hi, hz, hs, hb⟩ := info_parts act_info
  have h := run_make (P := Tryz.prog) w 23 26 i (.agg #[.int .i64 0, .string { data := #[] }, .string { data := #[] }, .int .i64 0, .int .i64 0]) Tryz.underlying23 hi hz .i64 .i64 k k (by omega) (Int.le_refl _) (by rw [hb]; omega) (by omega)
  rw [hs] at h
  exact h
/-- what a law builds: the actions, the needs -/
structure LwM (X : World) (n : Nat) (vs : List Value) (T : Gr) (wr : World) : Prop where
  acts : ∃ cs, Lies wr X.heap.size 26 cs ∧ cs.size = n * 5
  row : Lies wr (X.heap.size + 1) 27 vs.toArray
  sep : Sep wr (X.heap.size + 2) vs (zg T)
  low : Below X.heap.size X wr
  len : T.length = n
  sz : X.heap.size + 2 ≤ wr.heap.size
theorem lw_start (X : World) (n : Nat) (cs : Array Value) (hc : cs.size = n * 5) : LwM X n (List.replicate n nilV) (none n) ((X.alloc (.cells cs 26)).alloc (.cells (Array.replicate n (.slice Option.none 0 0)) 27)) := by
  refine ⟨⟨cs, lies_alloc (lies_new X 26 cs) _, hc⟩, ?_, ?_, ((Below.refl _ X).alloc (Nat.le_refl _) _).alloc (by simp) _, List.length_replicate, by simp⟩
  · have := lies_new (X.alloc (.cells cs 26)) 27 (Array.replicate n (.slice Option.none 0 0))
    rw [World.size_alloc] at this
    rw [List.toArray_replicate]
    exact this
  · have := sep_made ((X.alloc (.cells cs 26)).alloc (.cells (Array.replicate n (.slice Option.none 0 0)) 27)) (X.heap.size + 2) n
    rw [show zg (none n) = List.replicate n [] by unfold zg Cmp.none; rw [List.map_replicate]; rfl]
    exact this
theorem lw_act {X : World} {n : Nat} {vs : List Value} {T : Gr} {wr : World} (h : LwM X n vs T wr) {i : Nat} (hi : i < n) (cells : List Value) (hc : cells.length = 5) : LwM X n vs T (wr.setCells X.heap.size (i * 5) cells) := by
  obtain ⟨cs, hL, hs⟩ := h.acts
  obtain ⟨cs', h1, h2, _⟩ := lies_setCells X.heap.size 26 cells (i * 5) wr cs hL (by rw [hc, hs]; omega)
  have hb := but_setCells X.heap.size cells (i * 5) wr
  refine ⟨⟨cs', h1, by rw [h2, hs]⟩, hb.lies h.row (by omega), h.sep.but hb (fun u k hu hk e => by have := (own_heap (h.sep.own u hu) k hk).1; omega), h.low.trans (hb.below (by have := h.sz; omega) (fun k hk => by omega)), h.len, by have := hb.size; have := h.sz; omega⟩
theorem lw_there {X : World} {n : Nat} {vs : List Value} {T : Gr} {wr : World} (h : LwM X n vs T wr) {i : Nat} (hi : i < n) : wr.there X.heap.size (i * 5) 5 := by
  obtain ⟨cs, hL, hs⟩ := h.acts
  intro j hj
  refine ⟨?_, lies_free hL _⟩
  rw [lies_cell hL, Array.getElem?_eq_getElem (by omega)]
  rfl
theorem own_one (w : World) (B : Nat) (z : Int) (hB : B ≤ w.heap.size) : OwnI (w.alloc (.cells #[.int .i64 z] 3)) B (.slice (some ⟨w.heap.size, 0, Option.none⟩) 1 1) [z] :=
  ⟨by simp, .inr ⟨w.heap.size, 1, _, rfl, hB, lies_new w 3 #[.int .i64 z], Nat.le_refl _, by decide, by simp, by simp [iV]⟩⟩
theorem lw_need {X : World} {n : Nat} {vs : List Value} {T : Gr} {wr : World} (h : LwM X n vs T wr) {i : Nat} (hi : i < n) (hv : vs.getD i undef = nilV) (z : Nat) :
    LwM X n (vs.set i (.slice (some ⟨wr.heap.size, 0, Option.none⟩) 1 1)) (T.set i [z]) ((wr.alloc (.cells #[.int .i64 (z : Int)] 3)).setCell ⟨X.heap.size + 1, i, Option.none⟩ (.slice (some ⟨wr.heap.size, 0, Option.none⟩) 1 1)) := by
  have hsz := h.sz
  have hb1 : But (fun k => some k = (vs.getD i undef).ownBlock) wr (wr.alloc (.cells #[.int .i64 (z : Int)] 3)) := (But.refl _ wr).alloc _
  have hw : But (· = X.heap.size + 1) (wr.alloc (.cells #[.int .i64 (z : Int)] 3)) ((wr.alloc (.cells #[.int .i64 (z : Int)] 3)).setCell ⟨X.heap.size + 1, i, Option.none⟩ (.slice (some ⟨wr.heap.size, 0, Option.none⟩) 1 1)) := (But.refl (· = X.heap.size + 1) _).setCell (p := ⟨X.heap.size + 1, i, Option.none⟩) (fun _ => rfl) _
  obtain ⟨cs, hL, hs⟩ := h.acts
  have hst := h.sep.turn (v := i) (by simp [zg, h.len]; exact hi) hb1 (own_one wr (X.heap.size + 2) (z : Int) hsz) (.inr (fun k hk => by injection hk with hk; have hk' : wr.heap.size = k := hk; omega))
  refine ⟨⟨cs, hw.lies (lies_alloc hL _) (by omega), hs⟩, ?_, ?_, ?_, by simp [h.len], by simp [World.setCell]; omega⟩
  · have := lies_set (lies_alloc h.row (.cells #[.int .i64 (z : Int)] 3)) i (.slice (some ⟨wr.heap.size, 0, Option.none⟩) 1 1)
    rwa [List.setIfInBounds_toArray] at this
  · rw [zg_set]
    exact hst.but hw (fun u k hu hk e => by have := (own_heap (hst.own u hu) k hk).1; omega)
  · exact (h.low.alloc (by omega) _).setCell (p := ⟨X.heap.size + 1, i, Option.none⟩) (by show X.heap.size ≤ X.heap.size + 1; omega) _
theorem lw_ls {X : World} {n : Nat} {vs : List Value} {T : Gr} {wr : World} (h : LwM X n vs T wr) : LsAt wr (some ⟨X.heap.size + 1, 0, Option.none⟩) (zg T) :=
  sep_ls h.sep (lies_lt h.row) (fun j u hj => by rw [Nat.zero_add, lies_cell h.row, List.getElem?_toArray]; exact hj)
end Go.Proofs.YtnbjfmkckebfgaaGreat
