/-
What is proved here: ordered's closure that puts a number among those that are ready, by a contract.
-/
import Derived.Test.YtfgpaffcfkbjlaaWin
import Derived.BigQuiet
import Derived.Deep.QuietTactic
set_option linter.unusedSimpArgs false
set_option linter.unusedVariables false
namespace Go.Proofs.Ytfgpaffcfkbjlaa
open Go.Cmp Go.RowKit Go.Shelf
/-- how many are less -/
def less (l : List Int) (g : Int) : Nat := l.countP (· < g)
theorem less_le (l : List Int) (g : Int) : less l g ≤ l.length := List.countP_le_length
theorem search_any (B : Nat) (v : Value) (l : List Int) (g : Int) (w : World) (h : Win w B v l) (hs : l.Pairwise (· ≤ ·)) (hl : l.length ≤ 100000) :
    Calls Try.prog 35 #[v, .int .i64 g] w fun e w' => ∃ b, e = .returned (.tuple #[.int .i64 (less l g : Int), .bool b]) ∧ ∃ q, w' = w.drewN q := by
  rcases h with ⟨rfl, rfl⟩ | ⟨b, o, c, cur, rfl, _, hL, hlc, hcm, hoc, hcells⟩
  · refine (show Calls Try.prog 35 _ _ _ from Any.slices_BinarySearch_int_empty searchI none 0 g w).mono ?_
    rintro e w' ⟨rfl, rfl⟩
    exact ⟨_, rfl, 0, rfl⟩
  · refine (show Calls Try.prog 35 _ _ _ from Any.slices_BinarySearch_int searchI b o l.length c l g w (Nat.le_refl _) (by omega) (fun j hj => by
      rw [lies_cell hL, hcells j hj, List.getElem?_map, List.getElem?_eq_getElem hj, List.getD_eq_getElem?_getD, List.getElem?_eq_getElem hj]
      rfl) (by rw [List.take_length]; exact hs)).mono ?_
    rintro e w' ⟨rfl, h⟩
    rw [List.take_length]
    exact ⟨_, rfl, h⟩
/-- a number put in its place -/
def ins (l : List Int) (g : Int) : List Int := insAt l (less l g) g
structure AddE (w : World) (B RB : Nat) (v : Value) (l' : List Int) (w' : World) : Prop where
  ex : ∃ v', Lies w' RB 33 #[v'] ∧ Win w' B v' l' ∧ (wblk v' = wblk v ∨ ∃ k, wblk v' = some k ∧ w.heap.size ≤ k)
  but : But (fun k => k = RB ∨ some k = wblk v) w w'
set_option maxRecDepth 100000 in
set_option maxHeartbeats 4000000 in
theorem add_any (B RB : Nat) (v : Value) (l : List Int) (g : Int) (w : World) (h : Win w B v l) (hs : l.Pairwise (· ≤ ·)) (hl : l.length ≤ 100000) (hR : Lies w RB 33 #[v]) (hRB : RB < B) (hB : B ≤ w.heap.size) :
    Calls Try.prog 34 #[.int .i64 g, .pointer (some ⟨RB, 0, none⟩)] w fun e w' => e = .returned (.tuple #[]) ∧ AddE w B RB v (ins l g) w' := by
  have hwk := win_block h
  have hvo : v.oneCell' = true := by rcases h with ⟨rfl, _⟩ | ⟨_, _, _, _, rfl, _⟩ <;> rfl
  have c0 := lies_cell hR 0
  simp only [List.getElem?_toArray, List.getElem?_cons_zero] at c0
  have KS := Lib.hid (search_any B v l g w h hs hl)
  have HW := Lib.hid h
  have HR := Lib.hid hR
  have HK := Lib.hid hwk
  have LL := Lib.hid (less_le l g)
  have HL := Lib.hid hl
  have HB := Lib.hid hB
  have HRB := Lib.hid hRB
  clear h hs hl hwk hRB hB hR
  go_enter Try.func34, Try.ntmps34
  go_upto_region 1 with (go_at_call 35; (with_reducible refine KS.out.mono ?_); rintro e w1 ⟨b, rfl, q, rfl⟩; have R1 := Lib.hid (lies_drewN HR.out q); have W1 := Lib.hid (win_but HW.out ((But.refl (fun _ => False) w).drewN q) (fun _ _ => id)); have c1 := lies_cell R1.out 0; simp only [List.getElem?_toArray, List.getElem?_cons_zero] at c1; clear c0)
  have S1 := Lib.hid (show (w.drewN q).heap.size = w.heap.size from rfl)
  have B1 := Lib.hid ((But.refl (fun k => k = RB ∨ some k = wblk v) w).drewN q)
  generalize w.drewN q = X at *
  have LN := lies_new X 3 #[iV g]
  have KI := Lib.hid (insert_any B v l (less l g) X.heap.size g (X.alloc (.cells #[iV g] 3)) (win_but W1.out ((But.refl (fun _ => False) X).alloc _) (fun _ _ => id)) LL.out HL.out LN (fun e => by have := (HK.out _ e).2; have := S1.out; omega) (by have := S1.out; have := HB.out; simp; omega))
  have R2 := Lib.hid (lies_alloc R1.out (.cells #[iV g] 3))
  clear LN
  unfold iV at *
  go_wp2_with (go_at_call 36; (with_reducible refine KI.out.mono ?_); rintro e w2 ⟨G, o, m, c, rfl, hW2, hB2, hk⟩; have R3 := hB2.lies R2.out (fun e => by have := (HK.out RB e.symm).1; have := HRB.out; omega); have c3 := lies_cell R3 0; have f3 := lies_free R3 0; simp only [List.getElem?_toArray, List.getElem?_cons_zero] at c3; have R4 := Lib.hid R3; have W4 := Lib.hid hW2; have B4 := Lib.hid hB2; have K4 := Lib.hid hk; clear R3 hW2 hB2 hk)
  refine Go.Great.bodyPost_end0 rfl rfl ?_
  refine ⟨rfl, ⟨_, by have := lies_set R4.out 0 (.slice (some ⟨G, o, none⟩) m c); simpa using this, win_but W4.out ((But.refl (· = RB) w2).setCell (p := ⟨RB, 0, none⟩) (fun _ => rfl) _) (fun k hk e => ?_), ?_⟩, ?_⟩
  · subst e
    have := (win_block W4.out _ hk).1
    have := HRB.out
    omega
  · rcases K4.out with h | h
    · exact .inl h.symm
    · exact .inr ⟨G, rfl, by have := S1.out; simp at h; omega⟩
  · exact (B1.out.trans (((But.refl (fun k => k = RB ∨ some k = wblk v) X).alloc (.cells #[.int .i64 g] 3)).step B4.out (fun k _ h => .inr h))).setCell (p := ⟨RB, 0, none⟩) (fun _ => .inl rfl) _
end Go.Proofs.Ytfgpaffcfkbjlaa
