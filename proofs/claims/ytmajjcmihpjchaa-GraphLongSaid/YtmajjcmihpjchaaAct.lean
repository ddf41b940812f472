/-
What is proved here: package graph's looks at one rename, by contracts.
-/
import Derived.Test.YtmajjcmihpjchaaNum
import Derived.Test.YtmajjcmihpjchaaTools
import Derived.Deep.MidRow
import Derived.Lib.Hide
set_option linter.unusedSimpArgs false
set_option linter.unusedVariables false
namespace Go.Gra
open Go.Pth
/-- a rename: from, to -/
abbrev Mv := Bt × Bt
end Go.Gra
namespace Go.Proofs.Ytmajjcmihpjchaa
open Go.Pth Go.Tre Go.RowKit Go.Word Go.Shelf Go.Mat Go.Gra
attribute [local go_sem] guard_eq guard_ne st_eql st_neq
def mvC (m : Mv) : List Value := [.int .i64 3, St m.1, St m.2, .int .i64 0, .int .i64 0]
def mvV (m : Mv) : Value := .agg #[.int .i64 3, St m.1, St m.2, .int .i64 0, .int .i64 0]
/-- a list of renames that lies in memory -/
def ActsAt (w : World) (A : Option Addr) (ms : List Mv) : Prop := ∀ i (h : i < ms.length), ∃ b o, A = some ⟨b, o, none⟩ ∧ b < w.heap.size ∧ w.rangeAt b (o + i * 5) (mvC ms[i])
theorem actsAt_below {w w' : World} {A : Option Addr} {ms : List Mv} (h : ActsAt w A ms) (hb : Below w.heap.size w w') : ActsAt w' A ms := fun i hi => by
  obtain ⟨b, o, e, hl, hr⟩ := h i hi
  exact ⟨b, o, e, Nat.lt_of_lt_of_le hl hb.size, fun j v hj => (hb.cell (p := ⟨b, o + i * 5 + j, none⟩) hl).trans (hr j v hj)⟩
theorem add_zero' (a : Addr) : a.add 0 = a := by unfold Addr.add; simp
theorem store_one (P : Program) (w : World) (a : Addr) (v : Value) (hv : v.oneCell' = true) : (storeCells a [v]).run P w = stored P w a v .plain := by
  unfold storeCells
  rw [Sem.run_bind, add_zero', run_store P w a v .plain hv]
  unfold storeCells stored
  cases w.cell? a with
  | none => cases w.farStore P a v ((Mode.plain) == .atomic) <;> rfl
  | some u => by_cases h : w.frozen? a = true <;> simp [h]
theorem store_st (P : Program) (w : World) (a : Addr) (x : Bt) : (storeCells a [St x]).run P w = stored P w a (St x) .plain := store_one P w a _ rfl
section
variable (m : Mv) (w : World)
theorem unknown_mv : Calls Try.prog 13 #[mvV m] w fun e w' => e = .returned (.bool false) ∧ Below w.heap.size w w' := by
  have L := lies_new w 26 #[.int .i64 3, St m.1, St m.2, .int .i64 0, .int .i64 0]
  have x0 := lies_cell L 0
  simp only [List.getElem?_toArray, List.getElem?_cons_zero] at x0
  have HB := Lib.hid (show Below w.heap.size w (w.alloc (.cells #[.int .i64 3, St m.1, St m.2, .int .i64 0, .int .i64 0] 26)) from (Below.refl _ _).alloc (Nat.le_refl _) _)
  clear L
  unfold mvV
  go_enter Try.func13, Try.ntmps13
  go_wp2
  go_ret
  exact ⟨rfl, HB.out⟩
/-- one text, in a row of the call's own -/
def OneE (l : Bt) (e : Ending) (W W' : World) : Prop := (∃ g, e = .returned (.slice (some ⟨g, 0, none⟩) 1 1) ∧ Lies W' g 9 #[St l] ∧ W.heap.size ≤ g) ∧ Below W.heap.size W W'
theorem empties_mv : Calls Try.prog 15 #[mvV m] w fun e w' => OneE m.1 e w w' := by
  have L := lies_new w 43 #[.int .i64 3, St m.1, St m.2, .int .i64 0, .int .i64 0]
  have x0 := lies_cell L 0
  have x1 := lies_cell L 1
  simp only [List.getElem?_toArray, List.getElem?_cons_zero, List.getElem?_cons_succ] at x0 x1
  have L2 := Lib.hid (lies_new (w.alloc (.cells #[.int .i64 3, St m.1, St m.2, .int .i64 0, .int .i64 0] 43)) 9 #[St m.1])
  have HB := Lib.hid (show Below w.heap.size w ((w.alloc (.cells #[.int .i64 3, St m.1, St m.2, .int .i64 0, .int .i64 0] 43)).alloc (.cells #[St m.1] 9)) from ((Below.refl _ _).alloc (Nat.le_refl _) _).alloc (by simp) _)
  clear L
  unfold mvV
  go_enter Try.func15, Try.ntmps15
  go_wp2
  · rename_i h
    rcases h with h | h
    · exact absurd h (by simp [St])
    · exact absurd h (by simp [St])
  · go_ret
    refine ⟨⟨_, rfl, by have := L2.out; rwa [World.size_alloc] at this, by omega⟩, HB.out⟩
theorem fills_mv : Calls Try.prog 16 #[mvV m] w fun e w' => OneE m.2 e w w' := by
  have L := lies_new w 43 #[.int .i64 3, St m.1, St m.2, .int .i64 0, .int .i64 0]
  have x0 := lies_cell L 0
  have x2 := lies_cell L 2
  simp only [List.getElem?_toArray, List.getElem?_cons_zero, List.getElem?_cons_succ] at x0 x2
  have L2 := Lib.hid (lies_new (w.alloc (.cells #[.int .i64 3, St m.1, St m.2, .int .i64 0, .int .i64 0] 43)) 9 #[St m.2])
  have HB := Lib.hid (show Below w.heap.size w ((w.alloc (.cells #[.int .i64 3, St m.1, St m.2, .int .i64 0, .int .i64 0] 43)).alloc (.cells #[St m.2] 9)) from ((Below.refl _ _).alloc (Nat.le_refl _) _).alloc (by simp) _)
  clear L
  unfold mvV
  go_enter Try.func16, Try.ntmps16
  go_wp2
  · rename_i h
    rcases h with h | h
    · exact absurd h (by simp [St])
    · exact absurd h (by simp [St])
  · go_ret
    refine ⟨⟨_, rfl, by have := L2.out; rwa [World.size_alloc] at this, by omega⟩, HB.out⟩
def NoneE (e : Ending) (W W' : World) : Prop := e = .returned (.slice none 0 0) ∧ Below W.heap.size W W'
theorem makes_mv : Calls Try.prog 17 #[mvV m] w fun e w' => NoneE e w w' := by
  have L := lies_new w 43 #[.int .i64 3, St m.1, St m.2, .int .i64 0, .int .i64 0]
  have x0 := lies_cell L 0
  simp only [List.getElem?_toArray, List.getElem?_cons_zero] at x0
  have HB := Lib.hid (show Below w.heap.size w (w.alloc (.cells #[.int .i64 3, St m.1, St m.2, .int .i64 0, .int .i64 0] 43)) from (Below.refl _ _).alloc (Nat.le_refl _) _)
  clear L
  unfold mvV
  go_enter Try.func17, Try.ntmps17
  go_wp2
  go_ret
  exact ⟨rfl, HB.out⟩
theorem uses_mv : Calls Try.prog 20 #[mvV m] w fun e w' => NoneE e w w' := by
  have L := lies_new w 43 #[.int .i64 3, St m.1, St m.2, .int .i64 0, .int .i64 0]
  have x0 := lies_cell L 0
  simp only [List.getElem?_toArray, List.getElem?_cons_zero] at x0
  have HB := Lib.hid (show Below w.heap.size w (w.alloc (.cells #[.int .i64 3, St m.1, St m.2, .int .i64 0, .int .i64 0] 43)) from (Below.refl _ _).alloc (Nat.le_refl _) _)
  clear L
  unfold mvV
  go_enter Try.func20, Try.ntmps20
  go_wp2
  go_ret
  exact ⟨rfl, HB.out⟩
theorem clears_mv (C : Nat) : Calls Try.prog 29 #[mvV m, .pointer (some ⟨C, 0, none⟩)] w fun e w' => NoneE e w w' := by
  have L := lies_new w 43 #[.int .i64 3, St m.1, St m.2, .int .i64 0, .int .i64 0]
  have x0 := lies_cell L 0
  simp only [List.getElem?_toArray, List.getElem?_cons_zero] at x0
  have HB := Lib.hid (show Below w.heap.size w (w.alloc (.cells #[.int .i64 3, St m.1, St m.2, .int .i64 0, .int .i64 0] 43)) from (Below.refl _ _).alloc (Nat.le_refl _) _)
  clear L
  unfold mvV
  go_enter Try.func29, Try.ntmps29
  go_wp2
  go_ret
  exact ⟨rfl, HB.out⟩
theorem below_setCell' {B : Nat} {w W : World} (h : Below B w W) {p : Addr} (hp : B ≤ p.block) (v : Value) : Below B w (W.setCell p v) := below_setCell h hp v
theorem enters_mv (hl : m.2.length ≤ 100000) : Calls Try.prog 18 #[mvV m] w fun e w' => OneE (upP m.2) e w w' := by
  have L := lies_new w 43 #[.int .i64 3, St m.1, St m.2, .int .i64 0, .int .i64 0]
  have HB := Lib.hid (show Below w.heap.size w (w.alloc (.cells #[.int .i64 3, St m.1, St m.2, .int .i64 0, .int .i64 0] 43)) from (Below.refl _ _).alloc (Nat.le_refl _) _)
  have HL := Lib.hid hl
  have R0 := Lib.hid (show (w.alloc (.cells #[.int .i64 3, St m.1, St m.2, .int .i64 0, .int .i64 0] 43)).rangeAt w.heap.size 0 [.int .i64 3, St m.1, St m.2, .int .i64 0, .int .i64 0] from fun j v hj => by
    rw [Nat.zero_add]
    have := lies_cell L j
    rw [this]
    simpa using hj)
  have KF := Lib.hid (fun W => fills_mv m W)
  clear L hl
  have KP := Lib.hid (fun W => parent_any m.2 W HL.out)
  obtain ⟨u, hu⟩ : ∃ u, u = upP m.2 := ⟨_, rfl⟩
  rw [← hu] at KP
  rw [← hu]
  clear hu
  unfold mvV at *
  go_enter Try.func18, Try.ntmps18
  go_upto_region 1 with (fail)
  generalize w.alloc (.cells #[.int .i64 3, St m.1, St m.2, .int .i64 0, .int .i64 0] 43) = X at *
  go_upto_region 2 with (first
    | (refine wpList_load_mid rfl 43 _ rfl w.heap.size 0 rfl [.int .i64 3, St m.1, St m.2, .int .i64 0, .int .i64 0] _ R0.out Try.underlying43 rfl (by kernel_rfl) ?_)
    | (go_at_call 16; (with_reducible refine (KF.out X).mono ?_); rintro e w1 ⟨⟨g, rfl, hg, hg1⟩, hb⟩; have H1 := Lib.hid (HB.out.trans (hb.mono HB.out.size)); have G1 := Lib.hid hg; have GE := Lib.hid (show w.heap.size ≤ g from Nat.le_trans HB.out.size hg1); clear hb hg hg1))
  clear HB R0 KF
  go_wp2
  go_loopw [10] (fun v10 wr => ∃ i : Nat, i ≤ 1 ∧ v10 = .int .i64 (i : Int) ∧ Below w.heap.size w wr ∧ (i = 0 → Lies wr g 9 #[St m.2]) ∧ (i = 1 → Lies wr g 9 #[St u])) (fun v10 _ => 1 - (intOf v10).toNat)
  case atStart => exact ⟨0, Nat.zero_le _, rfl, H1.out, fun _ => G1.out, fun h => by cases h⟩
  case round =>
    obtain ⟨i, hi, rfl, hb, h0, h1⟩ := hrel
    have H2 := Lib.hid hb
    rcases (show i = 0 ∨ i = 1 by omega) with rfl | rfl
    · have hL := h0 rfl
      have y0 := lies_cell hL 0
      simp only [List.getElem?_toArray, List.getElem?_cons_zero] at y0
      have HL2 := Lib.hid hL
      clear hb h0 h1 hL
      go_upto_region 5 with (fail)
      go_upto_region 6 with (first | (rw [store_st]; go_simp) | (go_at_call 28; (with_reducible refine (KP.out wr).mono ?_); rintro e w2 ⟨rfl, hb⟩; have z0 := lies_cell (lies_below HL2.out hb (lies_lt HL2.out)) 0; have f0 := lies_free (lies_below HL2.out hb (lies_lt HL2.out)) 0; (simp only [List.getElem?_toArray, List.getElem?_cons_zero] at z0); have H3 := Lib.hid (H2.out.trans (hb.mono H2.out.size)); have L3 := Lib.hid (lies_below HL2.out hb (lies_lt HL2.out)); clear hb))
      have H4 := Lib.hid (below_setCell' H3.out (p := ⟨g, 0, none⟩) GE.out (St u))
      have L4 := Lib.hid (show Lies (w2.setCell ⟨g, 0, none⟩ (St u)) g 9 #[St u] from by have := lies_set L3.out 0 (St u); simpa using this)
      generalize w2.setCell ⟨g, 0, none⟩ (St u) = w5 at *
      go_wp2
      go_roundw
      case rel => exact ⟨1, by omega, rfl, H4.out, (fun h => by cases h), fun _ => L4.out⟩
      case measure => first | (simp [intOf]; done) | (simp [intOf]; omega)
    · have hL := Lib.hid (h1 rfl)
      clear hb h0 h1
      go_wp2
      go_ret
      exact ⟨⟨_, rfl, hL.out, GE.out⟩, H2.out⟩
end
end Go.Proofs.Ytmajjcmihpjchaa
