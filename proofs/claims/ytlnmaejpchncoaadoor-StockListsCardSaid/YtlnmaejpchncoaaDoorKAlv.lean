/-
What is proved here: the laws' alive, by a contract.
-/
import Derived.Test.YtlnmaejpchncoaaDoorKAdd
set_option linter.unusedSimpArgs false
namespace Go.Proofs.YtlnmaejpchncoaaDoor.K
open Go.Stk Go.RowKit Go.Word
attribute [local go_sem] guard_eq guard_ne st_eql st_neq
theorem bytes_new (w : World) (l : Bt) (z : Nat × Nat) : BytesAt (w.alloc (.cells (l.map yB).toArray 5 z)) (some ⟨w.heap.size, 0, none⟩) l := fun i hi => by
  refine ⟨w.heap.size, 0, rfl, by simp, ?_⟩
  rw [cell_of_row _ w.heap.size (0 + i) (l.map yB).toArray 5 z (heap_alloc_new w _)]
  rw [Nat.zero_add, List.getElem?_toArray, List.getElem?_map, List.getElem?_eq_getElem hi]
  rfl
theorem keeps_up {P : Nat → Prop} {w w1 w2 : World} (hk : Keeps P w1 w2) (hb : Below w.heap.size w w1) (hf : ∀ i, P i → w.heap.size ≤ i) : Below w.heap.size w w2 := hb.trans (below_keeps hk hb.size hf)
theorem sub_low {P P' : Nat → Prop} {w : World} {m : Nat} (h : Sub w P P') (hm : m ≤ w.heap.size) (hf : ∀ i, P i → m ≤ i) : ∀ i, P' i → m ≤ i := fun i hi => by
  rcases h i hi with h | h
  · exact hf i h
  · omega
theorem stk_cut {w : World} {P : Nat → Prop} {g : Nat} {lim : Int} {cs : List Bt} {vB vE vM : Value} (h : Stk w P g lim cs vB vE vM) : Stk w (fun i => P i ∧ i < w.heap.size) g lim cs vB vE vM where
  cell := h.cell
  bytes := h.bytes
  ends := h.ends
  map := by
    rcases h.map with h1 | ⟨m, e, h1, h2⟩
    · exact .inl h1
    · exact .inr ⟨m, e, h1, h2, pl_lt h1⟩
  nodup := h.nodup
  pg := ⟨h.pg, lies_lt h.cell⟩
  pb := fun b e => ⟨h.pb b e, (h.bytes.lt b e).2⟩
  pe := fun b e => ⟨h.pe b e, (h.ends.lt b e).2⟩
set_option maxRecDepth 100000 in
set_option maxHeartbeats 4000000 in
theorem alive_any (w : World) : Calls Tryd.prog 4 #[] w fun e w' => e = .returned (.bool true) ∧ Below w.heap.size w w' := by
  have N := Lib.hid (new_any 5 w (by decide) (by decide))
  have W0 := fun (X : World) => Lib.run_convert_bytes_const (P := Tryd.prog) X 24 5 #[.int .u8 97, .int .u8 98, .int .u8 99] 3 3 Tryd.underlying24 Tryd.underlying5
  have W9 := fun (X : World) => Lib.run_convert_bytes_const (P := Tryd.prog) X 24 5 #[.int .u8 100, .int .u8 101] 2 2 Tryd.underlying24 Tryd.underlying5
  go_enter Tryd.func4, Tryd.ntmps4
  go_upto_region 4 with (first
    | (go_at_call 12; (with_reducible refine N.out.mono ?_); rintro e w1 ⟨rfl, hs, hb, hz⟩; have S1 := Lib.hid hs; have B1 := Lib.hid hb; have Z1 := Lib.hid hz; clear hs hb hz)
    | (go_at_call 10; (with_reducible refine (num_any _ _).mono ?_); rintro e w1' ⟨rfl, rfl⟩))
  have B2 : Below w1.heap.size w1 (w1.alloc (.cells #[.int .u8 97, .int .u8 98, .int .u8 99] 5 (3, 4))) := (Below.refl _ _).alloc (Nat.le_refl _) _
  have A2 := Lib.hid (add_any (some ⟨w1.heap.size, 0, none⟩) 3 [97, 98, 99] _ (stk_below S1.out B2) (bytes_new w1 [97, 98, 99] (3, 4)) (fun _ a e => by injection e with e; subst e; show ¬ w1.heap.size = w.heap.size; have := Z1.out; omega) (by decide) (by decide) (by decide))
  have e2 : addA 5 [] [97, 98, 99] = (0, 0, [[97, 98, 99]]) := by decide
  rw [e2, show List.length ([97, 98, 99] : Bt) = 3 from rfl] at A2
  have HB2 := Lib.hid (B1.out.trans (B2.mono B1.out.size))
  have cv1 := W0 w1
  have cv1 : (convert 24 24 (.slice (some ⟨w1.heap.size, 0, none⟩) 3 3)).run Tryd.prog (w1.alloc (.cells #[.int .u8 97, .int .u8 98, .int .u8 99] 5)) = .ok (.slice (some ⟨w1.heap.size, 0, none⟩) 3 3) (w1.alloc (.cells #[.int .u8 97, .int .u8 98, .int .u8 99] 5 (3, 4))) := cv1
  clear B2 W0
  generalize hX : w1.alloc (.cells #[.int .u8 97, .int .u8 98, .int .u8 99] 5 (3, 4)) = X at *
  have HX := Lib.hid hX
  clear hX
  go_upto_region 5 with (go_at_call 13; (with_reducible refine A2.out.mono ?_); rintro e w2 ⟨P', vB', vE', vM', rfl, hs, hsub, hk⟩; have S2 := Lib.hid hs; have SB := Lib.hid hsub; have K2 := Lib.hid hk; clear hs hsub hk)
  have P0 : ∀ i, i = w.heap.size → w.heap.size ≤ i := fun i hi => by omega
  have HK2 := Lib.hid (keeps_up K2.out HB2.out P0)
  have L2 := Lib.hid (sub_low SB.out HB2.out.size P0)
  clear cv1 A2 K2 SB P0 HX
  have B3 : Below w2.heap.size w2 (w2.alloc (.cells #[.int .u8 100, .int .u8 101] 5 (2, 3))) := (Below.refl _ _).alloc (Nat.le_refl _) _
  have A3 := Lib.hid (add_any (some ⟨w2.heap.size, 0, none⟩) 2 [100, 101] _ (stk_below (stk_cut S2.out) B3) (bytes_new w2 [100, 101] (2, 3)) (fun _ a e => by injection e with e; subst e; exact fun h => Nat.lt_irrefl _ h.2) (by decide) (by decide) (by decide))
  have e3 : addA 5 [[97, 98, 99]] [100, 101] = (1, 0, [[97, 98, 99], [100, 101]]) := by decide
  rw [e3, show List.length ([100, 101] : Bt) = 2 from rfl] at A3
  have HB3 := Lib.hid (HK2.out.trans (B3.mono HK2.out.size))
  have cv2 := W9 w2
  have cv2 : (convert 24 24 (.slice (some ⟨w2.heap.size, 0, none⟩) 2 2)).run Tryd.prog (w2.alloc (.cells #[.int .u8 100, .int .u8 101] 5)) = .ok (.slice (some ⟨w2.heap.size, 0, none⟩) 2 2) (w2.alloc (.cells #[.int .u8 100, .int .u8 101] 5 (2, 3))) := cv2
  clear B3 W9
  generalize w2.alloc (.cells #[.int .u8 100, .int .u8 101] 5 (2, 3)) = Y at *
  go_upto_region 6 with (go_at_call 13; (with_reducible refine A3.out.mono ?_); rintro e w3 ⟨P3, vB3, vE3, vM3, rfl, hs, hsub, hk⟩; have S3 := Lib.hid hs; have K3 := Lib.hid hk; clear hs hsub hk)
  have HK3 := Lib.hid (keeps_up K3.out HB3.out (fun i hi => L2.out i hi.1))
  have Z3 := Lib.hid (size_any w3 S3.out)
  rw [show (List.flatten [[97, 98, 99], [100, 101]] : Bt).length = 5 from rfl] at Z3
  clear cv2 A3 K3
  go_wp2_with (first
    | (go_at_call 10; (with_reducible refine (num_any _ _).mono ?_); rintro e w1' ⟨rfl, rfl⟩)
    | (go_at_call 14; (with_reducible refine Z3.out.mono ?_); rintro e w4 ⟨rfl, rfl⟩))
  go_ret
  exact ⟨rfl, HK3.out⟩
end Go.Proofs.YtlnmaejpchncoaaDoor.K
