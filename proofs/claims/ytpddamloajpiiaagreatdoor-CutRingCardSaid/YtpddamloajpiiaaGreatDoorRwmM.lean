/-
What is proved here: Compact, Delete and the look for a number over rows of one's own, by contracts; slices.Sorted over the values of a list.
-/
import Derived.Test.YtpddamloajpiiaaGreatDoorMa4
import Derived.Test.YtpddamloajpiiaaGreatDoorMa1
import Derived.Test.YtpddamloajpiiaaGreatDoorApsM
import Derived.Test.YtpddamloajpiiaaGreatDoorShcM
import Derived.Test.YtpddamloajpiiaaGreatDoorCpuM
import Derived.Shelf.Slices.In.SortNone
set_option linter.unusedSimpArgs false
set_option linter.unusedVariables false
namespace Go.Proofs.YtpddamloajpiiaaGreatDoor
open Go.Cmp Go.RowKit Go.Shelf Go.Sort Go.Lib
theorem lies_put {w : World} {g o q : Nat} {cur : Array Value} {t : TypeId} (D : Array Int) (h : Lies w g t cur) : Lies (putRow encI (Sort.ahead w q) g o D) g t (putCells encI o D cur) := by
  unfold Lies at *
  have hg : g < w.heap.size := (Array.getElem?_eq_some_iff.1 h).1
  simp [putRow, mapBlock, Sort.ahead, Array.getElem?_modify, h, onCells]
theorem but_putr {w : World} {g o q : Nat} (D : Array Int) : But (· = g) w (putRow encI (Sort.ahead w q) g o D) := by
  refine ⟨rfl, rfl, rfl, by simp [putRow, mapBlock, Sort.ahead], fun k hk hne => ?_⟩
  have : g ≠ k := fun e => hne e.symm
  simp [putRow, mapBlock, Sort.ahead, Array.getElem?_modify, this]
theorem win_put {w : World} {B g o c q : Nat} {l : List Int} (h : Win w B (.slice (some ⟨g, o, none⟩) l.length c) l) (m : List Int) (D : Array Int) (hD : D.size = l.length) (hm : m.length ≤ l.length) (he : ∀ j, j < m.length → D[j]? = m[j]?) :
    Win (putRow encI (Sort.ahead w q) g o D) B (.slice (some ⟨g, o, none⟩) m.length c) m := by
  rcases h with ⟨h0, _⟩ | ⟨g', o', c', cur, hv, hB, hL, hlc, hcm, hoc, hcells⟩
  · cases h0
  · injection hv with e1 e2 e3
    injection e1 with e1
    injection e1 with e1 e4
    subst e1 e3 e4
    refine .inr ⟨g, o, c, putCells encI o D cur, rfl, hB, lies_put D hL, by omega, hcm, by simp [putCells]; exact hoc, fun j hj => ?_⟩
    have hlt : o + j < cur.size := by omega
    have hjD : j < D.size := by omega
    have h1 := he j hj
    rw [Array.getElem?_eq_getElem hjD, List.getElem?_eq_getElem hj] at h1
    injection h1 with h1
    simp only [putCells, Array.getElem?_mapIdx, Array.getElem?_eq_getElem hlt, Option.map_some]
    rw [if_pos ⟨by omega, by omega⟩, show o + j - o = j by omega, getElem!_pos D j hjD, h1, List.getElem?_map, List.getElem?_eq_getElem hj]
    rfl
theorem win_holds {w : World} {B g o c : Nat} {l : List Int} (h : Win w B (.slice (some ⟨g, o, none⟩) l.length c) l) : Holds encI w g o l.toArray := by
  rcases h with ⟨h0, _⟩ | ⟨g', o', c', cur, hv, hB, hL, hlc, hcm, hoc, hcells⟩
  · cases h0
  · injection hv with e1 e2 e3
    injection e1 with e1
    injection e1 with e1 e4
    subst e1 e3 e4
    intro j hj
    have hj' : j < l.length := by simpa using hj
    refine ⟨?_, lies_free hL _⟩
    rw [lies_cell hL, hcells j hj', List.getElem?_map, List.getElem?_eq_getElem hj', getElem!_pos l.toArray j hj]
    rfl
theorem win_of {w : World} {B : Nat} {v : Value} {l : List Int} (h : OwnI w B v l) : Win w B v l := by
  unfold OwnI at h
  rcases h.2 with ⟨h0, h1⟩ | ⟨g, cap, cur, hv, hg, hb, hn, hcap, hs, ht⟩
  · exact .inl ⟨h0, List.eq_nil_of_length_eq_zero h1⟩
  · refine .inr ⟨g, 0, cap, cur, hv, hg, hb, hn, hcap, by omega, fun j hj => ?_⟩
    rw [← ht, Nat.zero_add, List.getElem?_take_of_lt (by omega), Array.getElem?_toList]
theorem compact_any (B : Nat) (v : Value) (l : List Int) (w : World) (h : Win w B v l) (hl : l.length ≤ 100000) :
    Calls Tryz.prog 31 #[v] w fun e w' => ∃ v', e = .returned v' ∧ Win w' B v' (compactUpTo l.toArray l.toArray.size) ∧ But (fun k => some k = wblk v) w w' ∧ wblk v' = wblk v := by
  have hW := h
  rcases h with ⟨rfl, rfl⟩ | ⟨g, o, c, cur, rfl, hB, hL, hlc, hcm, hoc, hcells⟩
  · refine (Tryz.slices_Compact_int_empty none 0 w).mono ?_
    rintro e w' ⟨rfl, rfl⟩
    exact ⟨_, rfl, .inl ⟨rfl, rfl⟩, .refl _ _, rfl⟩
  · have hcon := Tryz.slices_Compact_int_arr g o c l.toArray w (win_holds hW) (by simp; omega) (by simpa using hlc)
    rw [show l.toArray.size = l.length by simp] at hcon ⊢
    have hle : (compactUpTo l.toArray l.length).length ≤ l.length := by
      unfold compactUpTo
      rw [List.length_map]
      exact Nat.le_trans (List.length_filter_le _ _) (by simp)
    refine hcon.mono ?_
    rintro e w' ⟨rfl, q, rfl⟩
    refine ⟨_, rfl, win_put hW _ _ (by simp; omega) hle (fun j hj => ?_), (but_putr _).mono (fun k _ hk => by subst hk; rfl), rfl⟩
    rw [List.getElem?_toArray, List.getElem?_append_left hj]
theorem delete_any (B : Nat) (v : Value) (l : List Int) (i : Nat) (w : World) (h : Win w B v l) (hi : i < l.length) :
    Calls Tryz.prog 89 #[v, .int .i64 (i : Int), .int .i64 ((i : Int) + 1)] w fun e w' => ∃ v', e = .returned v' ∧ Win w' B v' (l.take i ++ l.drop (i + 1)) ∧ But (fun k => some k = wblk v) w w' ∧ wblk v' = wblk v := by
  obtain ⟨g, o, c, cur, rfl, hB, hL, hlc, hcm, hoc, hcells⟩ := win_first h (by omega)
  have hcon := Tryz.slices_Delete_int_arr g o c i (i + 1) l.toArray w (win_holds h) (by simpa using hlc) (by rw [← maxLen_eq]; exact hcm) (by omega) (by simp; omega)
  rw [show l.toArray.size = l.length by simp] at hcon
  refine (show Calls Tryz.prog 89 #[.slice (some ⟨g, o, none⟩) l.length c, .int .i64 (i : Int), .int .i64 ((i : Int) + 1)] w _ from hcon).mono ?_
  rintro e w' ⟨rfl, q, rfl⟩
  have hlen : (l.take i ++ l.drop (i + 1)).length = l.length - (i + 1 - i) := by simp; omega
  refine ⟨_, rfl, ?_, (but_putr _).mono (fun k _ hk => by subst hk; rfl), rfl⟩
  rw [← hlen]
  refine win_put h _ _ (by simp; omega) (by omega) (fun j hj => ?_)
  rw [List.getElem?_toArray, List.getElem?_append_left (by simpa using hj)]
theorem find_any (B : Nat) (v : Value) (l : List Int) (g : Int) (w : World) (h : Win w B v l) (hs : l.Pairwise (· ≤ ·)) (hl : l.length ≤ 100000) :
    Calls Tryz.prog 48 #[v, .int .i64 g] w fun e w' => e = .returned (.tuple #[.int .i64 (less l g : Int), .bool (l.contains g)]) ∧ ∃ q, w' = w.drewN q := by
  rcases h with ⟨rfl, rfl⟩ | ⟨b, o, c, cur, rfl, _, hL, hlc, hcm, hoc, hcells⟩
  · refine (show Calls Tryz.prog 48 _ _ _ from Any.slices_BinarySearch_int_empty searchI none 0 g w).mono ?_
    rintro e w' ⟨rfl, rfl⟩
    exact ⟨rfl, 0, rfl⟩
  · refine (show Calls Tryz.prog 48 _ _ _ from Any.slices_BinarySearch_int searchI b o l.length c l g w (Nat.le_refl _) (by omega) (fun j hj => by
      rw [lies_cell hL, hcells j hj, List.getElem?_map, List.getElem?_eq_getElem hj, List.getD_eq_getElem?_getD, List.getElem?_eq_getElem hj]
      rfl) (by rw [List.take_length]; exact hs)).mono ?_
    rintro e w' ⟨rfl, h⟩
    rw [List.take_length]
    exact ⟨rfl, h⟩
theorem vals_any (A : Option Addr) (k c : Nat) (w : World) :
    Calls Tryz.prog 33 #[.slice A k c] w fun e w' => e = .returned (.func (.func 57) #[] #[.pointer (some ⟨w.heap.size, 0, none⟩)]) ∧ w' = w.alloc (.cells #[.slice A k c] 33) := by
  go_enter Tryz.func33, Tryz.ntmps33
  go_wp2
  go_ret
  exact ⟨rfl, rfl⟩
theorem sort_own (B : Nat) (v : Value) (l : List Int) (w : World) (h : OwnI w B v l) (hl : l.length ≤ 100000) :
    Calls Tryz.prog 53 #[v] w fun e w' => e = .returned (.tuple #[]) ∧ OwnI w' B v (sortZ l) ∧ But (fun k => some k = v.ownBlock) w w' := by
  by_cases h0 : 0 < l.length
  · obtain ⟨g, cap, rfl, _⟩ := World.ownsRow.form h (by omega)
    exact sortI_any B (some ⟨g, 0, none⟩) cap l w h h0 hl
  · obtain rfl : l = [] := List.eq_nil_of_length_eq_zero (by omega)
    have hv : ∃ p cap, v = .slice p 0 cap := by
      rcases h.2 with ⟨h1, _⟩ | ⟨g, cap, cur, hv, _⟩
      · exact ⟨none, 0, h1⟩
      · exact ⟨_, cap, hv⟩
    obtain ⟨p, cap, rfl⟩ := hv
    refine (show Calls Tryz.prog 53 _ _ _ from Any.slices_Sort_int_none sortI p cap w).mono ?_
    rintro e w' ⟨rfl, rfl⟩
    exact ⟨rfl, by simpa [sortZ] using h, .refl _ _⟩
theorem sorted_any (F : List Nat) (hF0 : F.length ≤ 100000) (Bs c : Nat) (A : Option Addr) (w : World) (hb : w.cell? ⟨Bs, 0, none⟩ = some (.slice A F.length c)) (hBs : Bs < w.heap.size) (hI : IntsAt w A (zs F)) :
    Calls Tryz.prog 32 #[.func (.func 57) #[] #[.pointer (some ⟨Bs, 0, none⟩)]] w fun e W' => ∃ v, e = .returned v ∧ OwnI W' w.heap.size v (sortZ (zs F)) ∧ Below w.heap.size w W' := by
  have K := Lib.hid (col_any F hF0 Bs c A w hb hBs hI)
  have KS := Lib.hid (fun (W : World) (v : Value) (h : OwnI W w.heap.size v (zs F)) => sort_own w.heap.size v (zs F) W h (by rw [zs_len]; exact hF0))
  clear hb hI
  go_enter Tryz.func32, Tryz.ntmps32
  go_upto_region 2 with (go_at_call 56; (with_reducible refine K.out.mono ?_); rintro e w1 ⟨v, rfl, ho, hB⟩; have HO := Lib.hid ho; have HB := Lib.hid hB; have KW := Lib.hid (KS.out w1 v ho); clear ho hB)
  go_wp2_with (go_at_call 53; (with_reducible refine KW.out.mono ?_); rintro e w2 ⟨rfl, ho, hB⟩; have HO2 := Lib.hid ho; have HB2 := Lib.hid hB; clear ho hB)
  go_ret
  exact ⟨v, rfl, HO2.out, HB.out.trans (HB2.out.below HB.out.size (fun k hk => (own_heap HO.out k hk.symm).1))⟩
end Go.Proofs.YtpddamloajpiiaaGreatDoor
