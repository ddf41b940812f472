/-
What is proved here: package comp's look at what lies between components, by a contract.
-/
import Derived.Test.YtnbjfmkckebfgaaGreatPuo
import Derived.Test.YtnbjfmkckebfgaaGreatApl
import Derived.Deep.QuietTactic
import Derived.Deep.AppendLies
import Derived.BigQuiet
import Derived.RegionTactic
import Derived.Deep.RegionLaw
import Derived.ChangeAlike
set_option linter.unusedSimpArgs false
set_option linter.unusedVariables false
namespace Go.Proofs.YtnbjfmkckebfgaaGreat
open Go.Cmp Go.RowKit
def iRow (l : List Nat) : Array Value := ((zs l).map iV).toArray
theorem iRow_at {l : List Nat} {v : Nat} (h : v < l.length) : (iRow l)[v]? = some (.int .i64 (l.getD v 0 : Int)) := by
  unfold iRow zs
  rw [List.getElem?_toArray, List.getElem?_map, List.getElem?_map, List.getElem?_eq_getElem h, List.getD_eq_getElem?_getD, List.getElem?_eq_getElem h]
  rfl
theorem iRow_set (l : List Nat) (v x : Nat) : (iRow l).setIfInBounds v (.int .i64 (x : Int)) = iRow (l.set v x) := by
  unfold iRow zs
  rw [List.setIfInBounds_toArray, List.map_set, List.map_set]
  rfl
theorem iRow_zero (n : Nat) : Array.replicate n (.int .i64 0) = iRow (List.replicate n 0) := by
  rw [← List.toArray_replicate]; simp [iRow, zs, iV]
/-- what between makes: the lists of those that ask in block R, the numbers of needs in block O, the components of the numbers in the third block -/
structure BtM (w : World) (R O : Nat) (vs : List Value) (T : Gr) (op f : List Nat) (wr : World) : Prop where
  row : Lies wr R 27 vs.toArray
  sep : Sep wr (w.heap.size + 3) vs (zg T)
  opn : Lies wr O 3 (iRow op)
  off : Lies wr (w.heap.size + 1 + 1) 3 (iRow f)
  low : Below w.heap.size w wr
  sz : w.heap.size + 3 ≤ wr.heap.size
theorem btM_off {w : World} {R O : Nat} {vs : List Value} {T : Gr} {op f : List Nat} {wr : World} (h : BtM w R O vs T op f wr) (hB : R ≠ O ∧ (w.heap.size ≤ R ∧ R < w.heap.size + 2) ∧ w.heap.size ≤ O ∧ O < w.heap.size + 2) (v x : Nat) : BtM w R O vs T op (f.set v x) (wr.setCell ⟨w.heap.size + 1 + 1, v, none⟩ (.int .i64 (x : Int))) := by
  have hb : But (· = w.heap.size + 1 + 1) wr (wr.setCell ⟨w.heap.size + 1 + 1, v, none⟩ (.int .i64 (x : Int))) := (But.refl (· = w.heap.size + 1 + 1) wr).setCell (p := ⟨w.heap.size + 1 + 1, v, none⟩) (fun _ => rfl) _
  refine ⟨hb.lies h.row (by omega), h.sep.but hb (fun u k hu hk e => by have := (own_heap (h.sep.own u hu) k hk).1; omega), hb.lies h.opn (by omega), by have := lies_set h.off v (.int .i64 (x : Int)); rwa [iRow_set] at this, h.low.setCell (p := ⟨w.heap.size + 1 + 1, v, none⟩) (show w.heap.size ≤ w.heap.size + 1 + 1 by omega) _, by simpa [World.setCell] using h.sz⟩
theorem ofA_lt {G : Gr} {S : List (List Nat)} (h : Groups G S) {f : List Nat} (hf : OfA S G.length S.length 0 f) {v : Nat} (hv : v < G.length) : f.getD v 0 < S.length := by
  obtain ⟨g, hg, hvg⟩ := h.all v hv
  obtain ⟨k, hk, rfl⟩ := List.getElem_of_mem hg
  have e : nx S k = S[k] := by unfold nx; rw [List.getD_eq_getElem?_getD, List.getElem?_eq_getElem hk]; rfl
  rw [hf.done k hk v (by rw [e]; exact hvg)]
  exact hk
theorem Sep.drewN {w : World} {B : Nat} {vs : List Value} {T : List (List Int)} (h : Sep w B vs T) (n : Nat) : Sep (w.drewN n) B vs T := ⟨h.len, h.own, h.sep⟩
theorem btM_drewN {w : World} {R O : Nat} {vs : List Value} {T : Gr} {op f : List Nat} {wr : World} (h : BtM w R O vs T op f wr) (q : Nat) : BtM w R O vs T op f (wr.drewN q) := ⟨h.row, h.sep.drewN q, h.opn, h.off, below_drewN h.low q, h.sz⟩
theorem btM_at {w : World} {R O : Nat} {vs : List Value} {T : Gr} {op f : List Nat} {wr : World} (h : BtM w R O vs T op f wr) {v : Nat} (hv : v < T.length) : wr.cell? ⟨R, v, none⟩ = some (vs.getD v undef) ∧ OwnI wr (w.heap.size + 3) (vs.getD v undef) (zs (nx T v)) ∧ vs.toArray[v]? = some (vs.getD v undef) := by
  have hvz : v < (zg T).length := by simpa using hv
  have ho := h.sep.own v hvz
  rw [zg_getD] at ho
  have hl : v < vs.length := by rw [h.sep.len]; exact hvz
  have ha : vs.toArray[v]? = some (vs.getD v undef) := by
    rw [List.getElem?_toArray, List.getElem?_eq_getElem hl, List.getD_eq_getElem?_getD, List.getElem?_eq_getElem hl]
    rfl
  exact ⟨by rw [lies_cell h.row, ha], ho, ha⟩
theorem btM_app {w : World} {R O : Nat} {vs : List Value} {T : Gr} {op f : List Nat} {wr w1 : World} (h : BtM w R O vs T op f wr) (hB : R ≠ O ∧ (w.heap.size ≤ R ∧ R < w.heap.size + 2) ∧ w.heap.size ≤ O ∧ O < w.heap.size + 2) {d : Nat} (hd : d < T.length) {o : Obj} (hg : (wr.alloc o).grownBy w1 (vs.getD d undef).ownBlock) :
    Lies w1 R 27 vs.toArray ∧ Lies w1 (w.heap.size + 1 + 1) 3 (iRow f) := by
  have hvz : d < (zg T).length := by simpa using hd
  have hb : But (fun k => some k = (vs.getD d undef).ownBlock) wr w1 := ((But.refl _ wr).alloc o).trans (But.grown hg)
  have hP : ∀ k, some k = (vs.getD d undef).ownBlock → w.heap.size + 3 ≤ k := fun k hk => (own_heap (h.sep.own d hvz) k hk.symm).1
  exact ⟨hb.lies h.row (fun x => by have := hP _ x; omega), hb.lies h.off (fun x => by have := hP _ x; omega)⟩
theorem btM_more {w : World} {R O : Nat} {vs : List Value} {T : Gr} {op f : List Nat} {wr w1 : World} (h : BtM w R O vs T op f wr) (hB : R ≠ O ∧ (w.heap.size ≤ R ∧ R < w.heap.size + 2) ∧ w.heap.size ≤ O ∧ O < w.heap.size + 2) {d g : Nat} (hd : d < T.length) {o : Obj} (hg : (wr.alloc o).grownBy w1 (vs.getD d undef).ownBlock) {GB C : Nat}
    (ho : OwnI w1 (w.heap.size + 3) (.slice (some ⟨GB, 0, none⟩) ((nx T d).length + 1) C) (zs (nx T d) ++ [(g : Int)])) (hat : (vs.getD d undef).ownBlock = some GB ∨ GB = (wr.alloc o).heap.size) :
    BtM w R O (vs.set d (.slice (some ⟨GB, 0, none⟩) ((nx T d).length + 1) C)) (T.set d (nx T d ++ [g])) op f (w1.setCell ⟨R, d, none⟩ (.slice (some ⟨GB, 0, none⟩) ((nx T d).length + 1) C)) := by
  have hvz : d < (zg T).length := by simpa using hd
  have hb : But (fun k => some k = (vs.getD d undef).ownBlock) wr w1 := ((But.refl _ wr).alloc o).trans (But.grown hg)
  have hP : ∀ k, some k = (vs.getD d undef).ownBlock → w.heap.size + 3 ≤ k := fun k hk => (own_heap (h.sep.own d hvz) k hk.symm).1
  have hs : (wr.alloc o).heap.size = wr.heap.size + 1 := by simp
  have h1 := h.sep.turn hvz hb ho (by
    rcases hat with h1 | h1
    · exact .inl h1.symm
    · exact .inr (fun k hk => by injection hk with hk; have hk' : GB = k := hk; omega))
  have hw : But (· = R) w1 (w1.setCell ⟨R, d, none⟩ (.slice (some ⟨GB, 0, none⟩) ((nx T d).length + 1) C)) := (But.refl (· = R) w1).setCell (p := ⟨R, d, none⟩) (fun _ => rfl) _
  have e : zg (T.set d (nx T d ++ [g])) = (zg T).set d (zs (nx T d) ++ [(g : Int)]) := by rw [zg_set]; simp [zs]
  refine ⟨?_, ?_, hw.lies (hb.lies h.opn (fun x => by have := hP _ x; omega)) (fun x => hB.1 x.symm), hw.lies (hb.lies h.off (fun x => by have := hP _ x; omega)) (by omega), ?_, ?_⟩
  · have := lies_set (btM_app h hB hd hg).1 d (.slice (some ⟨GB, 0, none⟩) ((nx T d).length + 1) C)
    rwa [List.setIfInBounds_toArray] at this
  · rw [e]
    exact h1.but hw (fun u k hu hk x => by have := (own_heap (h1.own u hu) k hk).1; omega)
  · exact (h.low.trans (hb.below (by have := h.sz; omega) (fun k hk => by have := hP k hk; omega))).setCell (p := ⟨R, d, none⟩) (show w.heap.size ≤ R by omega) _
  · have := h.sz; have := hb.size; simp [World.setCell]; omega
theorem btM_open {w : World} {R O : Nat} {vs : List Value} {T : Gr} {op f : List Nat} {wr : World} (h : BtM w R O vs T op f wr) (hB : R ≠ O ∧ (w.heap.size ≤ R ∧ R < w.heap.size + 2) ∧ w.heap.size ≤ O ∧ O < w.heap.size + 2) (g x : Nat) : BtM w R O vs T (op.set g x) f (wr.setCell ⟨O, g, none⟩ (.int .i64 (x : Int))) := by
  have hb : But (· = O) wr (wr.setCell ⟨O, g, none⟩ (.int .i64 (x : Int))) := (But.refl (· = O) wr).setCell (p := ⟨O, g, none⟩) (fun _ => rfl) _
  refine ⟨hb.lies h.row hB.1, h.sep.but hb (fun u k hu hk e => by have := (own_heap (h.sep.own u hu) k hk).1; omega), by have := lies_set h.opn g (.int .i64 (x : Int)); rwa [iRow_set] at this, hb.lies h.off (by omega), h.low.setCell (p := ⟨O, g, none⟩) (show w.heap.size ≤ O by omega) _, by simpa [World.setCell] using h.sz⟩
theorem own_snoc {w1 : World} {B GB C d g : Nat} {T : Gr} (h : w1.ownsRow B 3 1 (.slice (some ⟨GB, 0, none⟩) ((nx T d).length + 1) C) ((nx T d).length + 1) ((zs (nx T d)).map iV ++ [.int .i64 (g : Int)])) : OwnI w1 B (.slice (some ⟨GB, 0, none⟩) ((nx T d).length + 1) C) (zs (nx T d) ++ [(g : Int)]) := by
  unfold OwnI
  rw [List.map_append, List.length_append, zs_len]
  exact h
theorem cut_key {S A : Nat → Nat → World → Prop} {G : Prop} (main : (∀ a b c, A a b c → S a b c) → G) (key : ∀ a b c, A a b c → S a b c) : G := main key
/-- what between tells -/
def BtwE (G : Gr) (S : List (List Nat)) (w : World) (e : Ending) (w' : World) : Prop := ∃ (R O : Nat) (vs : List Value) (T : Gr) (op : List Nat), e = .returned (.tuple #[.slice (some ⟨R, 0, none⟩) S.length S.length, .slice (some ⟨O, 0, none⟩) S.length S.length]) ∧
  Asks G S T op ∧ Lies w' R 27 vs.toArray ∧ Sep w' (w.heap.size + 3) vs (zg T) ∧ Lies w' O 3 (iRow op) ∧ Below w.heap.size w w' ∧ w.heap.size ≤ R ∧ R < w.heap.size + 3 ∧ w.heap.size ≤ O ∧ O < w.heap.size + 3
end Go.Proofs.YtnbjfmkckebfgaaGreat
