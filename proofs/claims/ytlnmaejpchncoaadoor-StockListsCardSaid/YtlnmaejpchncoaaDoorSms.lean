/-
What is proved here: Sums of a list of contents, whole, by a contract.
-/
import Derived.Test.YtlnmaejpchncoaaDoorSus
set_option linter.unusedSimpArgs false
set_option linter.unusedVariables false
namespace Go.Proofs.YtlnmaejpchncoaaDoor
open Go.Word Go.RowKit Go.Stk
theorem lens_of {w : World} {A : Option Addr} {ls : List Go.Stk.Bt} (h : K.ListAt w A ls) : K.LensAt w A (ls.map List.length) := fun i hi => by
  have hi' : i < ls.length := by simpa using hi
  obtain ⟨b, o, DA, dc, e, hl, h1, _⟩ := h i hi'
  exact ⟨b, o, DA, dc, e, hl, by rw [h1]; simp⟩
set_option maxRecDepth 100000 in
theorem sums_no (LA : Option Addr) (lc : Nat) (ls : List Go.Stk.Bt) (w : World) (hL : K.ListAt w LA ls) (hb : ∀ x ∈ ls, x.length ≤ 100000) (hc : checkL (ls.map List.length) ≠ 0) :
    Calls Tryd.prog 7 #[.slice LA ls.length lc] w fun e w' => e = .returned (.tuple #[.slice none 0 0, .int .i64 (checkL (ls.map List.length))]) ∧ Below w.heap.size w w' := by
  have bw := below_new w (.cells #[.slice LA ls.length lc] 22)
  have CK := Lib.hid (K.check_any LA lc (ls.map List.length) (w.alloc (.cells #[.slice LA ls.length lc] 22)) (lens_of (K.listAt_below hL bw)) (fun n hn => by obtain ⟨x, hx, rfl⟩ := List.mem_map.1 hn; exact Nat.le_trans (hb x hx) (by decide)))
  rw [List.length_map] at CK
  have hz : (checkL (ls.map List.length) != 0) = true := by simpa using hc
  have BW := Lib.hid bw
  have c0 := lies_cell (lies_new w 22 #[.slice LA ls.length lc]) 0
  simp only [List.getElem?_toArray, List.getElem?_cons_zero] at c0
  clear hL hb hc bw
  generalize checkL (ls.map List.length) = z at *
  generalize ls.length = n at *
  go_enter Tryd.func7, Tryd.ntmps7
  go_wp2_with (go_at_call 6; (with_reducible refine CK.out.mono ?_); rintro e w1 ⟨rfl, rfl⟩)
  go_ret2
  exact ⟨rfl, BW.out⟩
set_option maxRecDepth 100000 in
theorem sums_any (LA : Option Addr) (lc : Nat) (ls : List Go.Stk.Bt) (w : World) (hk : Keyed w) (hL : ListC w LA ls) (hn : ls.length ≤ 100000) (hb : ∀ x ∈ ls, x.length ≤ 100000) (hc : checkL (ls.map List.length) = 0) :
    Calls Tryd.prog 7 #[.slice LA ls.length lc] w fun e w' => (∃ G, e = .returned (.tuple #[.slice (some ⟨G, 0, none⟩) ls.length ls.length, .int .i64 0]) ∧ DigAt w' G ls.length ls.length ls) ∧ Below w.heap.size w w' := by
  have bw := below_new w (.cells #[.slice LA ls.length lc] 22)
  have CK := Lib.hid (K.check_any LA lc (ls.map List.length) (w.alloc (.cells #[.slice LA ls.length lc] 22)) (lens_of (K.listAt_below (listC_at hL) bw)) (fun n hn => by obtain ⟨x, hx, rfl⟩ := List.mem_map.1 hn; exact Nat.le_trans (hb x hx) (by decide)))
  rw [List.length_map, hc] at CK
  have c0 := lies_cell (lies_new w 22 #[.slice LA ls.length lc]) 0
  simp only [List.getElem?_toArray, List.getElem?_cons_zero] at c0
  have GA := Lib.hid (gather_any w.heap.size LA lc ls (w.alloc (.cells #[.slice LA ls.length lc] 22)) (keyed_below hk bw) c0 (lies_lt (lies_new w 22 _)) (listC_below hL bw) hn hb)
  have BW := Lib.hid bw
  clear hL hb hc bw hk
  obtain ⟨n, hne⟩ : ∃ n, n = ls.length := ⟨_, rfl⟩
  rw [← hne] at CK c0 GA BW hn ⊢
  clear hne
  go_enter Tryd.func7, Tryd.ntmps7
  go_wp2_with (first
    | (go_at_call 6; (with_reducible refine CK.out.mono ?_); rintro e w1 ⟨rfl, rfl⟩)
    | (go_at_call 15; (with_reducible refine GA.out.mono ?_); rintro e w2 ⟨rfl, hd, hb⟩; have HD := Lib.hid hd; have HB := Lib.hid hb; clear hd hb))
  go_ret2
  exact ⟨⟨_, rfl, by have := HD.out; rw [World.size_alloc] at this; exact this⟩, BW.out.trans (HB.out.mono BW.out.size)⟩
end Go.Proofs.YtlnmaejpchncoaaDoor
