/-
What is proved here: Compact, Delete and the look for a number over rows of one's own, by contracts; slices.Sorted over the values of a list.
-/
import Derived.Test.YtnbjfmkckebfgaaGreatAdd
import Derived.Test.YtnbjfmkckebfgaaGreatShc
set_option linter.unusedSimpArgs false
set_option linter.unusedVariables false
namespace Go.Proofs.YtnbjfmkckebfgaaGreat
open Go.Cmp Go.RowKit Go.Shelf Go.Sort Go.Lib
theorem lies_put {w : World} {g o q : Nat} {cur : Array Value} {t : TypeId} (D : Array Int) (h : Lies w g t cur) : Lies (putRow encI (Sort.ahead w q) g o D) g t (putCells encI o D cur) := by
  unfold Lies at *
  have hg : g < w.heap.size := (Array.getElem?_eq_some_iff.1 h).1
  simp [putRow, mapBlock, Sort.ahead, Array.getElem?_modify, h, onCells]
theorem but_putr {w : World} {g o q : Nat} (D : Array Int) : But (· = g) w (putRow encI (Sort.ahead w q) g o D) := by
  refine ⟨rfl, rfl, rfl, by simp [putRow, mapBlock, Sort.ahead], fun k hk hne => ?_⟩
  have : g ≠ k := fun e => hne e.symm
  simp [putRow, mapBlock, Sort.ahead, Array.getElem?_modify, this]
theorem win_put {w : World} {B g o c q : Nat} {l : List Int} (h : Win w B (.slice (some ⟨g, o, none⟩) l.length c) l) (m : List Int) (D : Array Int) (hD : D.size = l.length) (hm : m.length ≤ l.length) (he : ∀ j, j < m.length → D[j]? = m[j]?) :
    Win (putRow encI (Sort.ahead w q) g o D) B (.slice (some ⟨g, o, none⟩) m.length c) m := by
  rcases h with ⟨h0, _⟩ | ⟨g', o', c', cur, hv, hB, hL, hlc, hcm, hoc, hcells⟩
  · cases h0
  · injection hv with e1 e2 e3
    injection e1 with e1
    injection e1 with e1 e4
    subst e1 e3 e4
    refine .inr ⟨g, o, c, putCells encI o D cur, rfl, hB, lies_put D hL, by omega, hcm, by simp [putCells]; exact hoc, fun j hj => ?_⟩
    have hlt : o + j < cur.size := by omega
    have hjD : j < D.size := by omega
    have h1 := he j hj
    rw [Array.getElem?_eq_getElem hjD, List.getElem?_eq_getElem hj] at h1
    injection h1 with h1
    simp only [putCells, Array.getElem?_mapIdx, Array.getElem?_eq_getElem hlt, Option.map_some]
    rw [if_pos ⟨by omega, by omega⟩, show o + j - o = j by omega, getElem!_pos D j hjD, h1, List.getElem?_map, List.getElem?_eq_getElem hj]
    rfl
theorem win_holds {w : World} {B g o c : Nat} {l : List Int} (h : Win w B (.slice (some ⟨g, o, none⟩) l.length c) l) : Holds encI w g o l.toArray := by
  rcases h with ⟨h0, _⟩ | ⟨g', o', c', cur, hv, hB, hL, hlc, hcm, hoc, hcells⟩
  · cases h0
  · injection hv with e1 e2 e3
    injection e1 with e1
    injection e1 with e1 e4
    subst e1 e3 e4
    intro j hj
    have hj' : j < l.length := by simpa using hj
    refine ⟨?_, lies_free hL _⟩
    rw [lies_cell hL, hcells j hj', List.getElem?_map, List.getElem?_eq_getElem hj', getElem!_pos l.toArray j hj]
    rfl
theorem win_of {w : World} {B : Nat} {v : Value} {l : List Int} (h : OwnI w B v l) : Win w B v l := by
  unfold OwnI at h
  rcases h.2 with ⟨h0, h1⟩ | ⟨g, cap, cur, hv, hg, hb, hn, hcap, hs, ht⟩
  · exact .inl ⟨h0, List.eq_nil_of_length_eq_zero h1⟩
  · refine .inr ⟨g, 0, cap, cur, hv, hg, hb, hn, hcap, by omega, fun j hj => ?_⟩
    rw [← ht, Nat.zero_add, List.getElem?_take_of_lt (by omega), Array.getElem?_toList]
theorem delete_any (B : Nat) (v : Value) (l : List Int) (i : Nat) (w : World) (h : Win w B v l) (hi : i < l.length) :
    Calls Tryz.prog 41 #[v, .int .i64 (i : Int), .int .i64 ((i : Int) + 1)] w fun e w' => ∃ v', e = .returned v' ∧ Win w' B v' (l.take i ++ l.drop (i + 1)) ∧ But (fun k => some k = wblk v) w w' ∧ wblk v' = wblk v := by
  obtain ⟨g, o, c, cur, rfl, hB, hL, hlc, hcm, hoc, hcells⟩ := win_first h (by omega)
  have hcon := Tryz.slices_Delete_int_arr g o c i (i + 1) l.toArray w (win_holds h) (by simpa using hlc) (by rw [← maxLen_eq]; exact hcm) (by omega) (by simp; omega)
  rw [show l.toArray.size = l.length by simp] at hcon
  refine (show Calls Tryz.prog 41 #[.slice (some ⟨g, o, none⟩) l.length c, .int .i64 (i : Int), .int .i64 ((i : Int) + 1)] w _ from hcon).mono ?_
  rintro e w' ⟨rfl, q, rfl⟩
  have hlen : (l.take i ++ l.drop (i + 1)).length = l.length - (i + 1 - i) := by simp; omega
  refine ⟨_, rfl, ?_, (but_putr _).mono (fun k _ hk => by subst hk; rfl), rfl⟩
  rw [← hlen]
  refine win_put h _ _ (by simp; omega) (by omega) (fun j hj => ?_)
  rw [List.getElem?_toArray, List.getElem?_append_left (by simpa using hj)]
end Go.Proofs.YtnbjfmkckebfgaaGreat
