/-
What is proved here: gather over a stock's cut, by a contract.
-/
import Derived.Test.YtlnmaejpchncoaaGet
import Derived.Test.YtlnmaejpchncoaaMny
set_option linter.unusedSimpArgs false
set_option linter.unusedVariables false
namespace Go.Proofs.Ytlnmaejpchncoaa
open Go.Stk Go.RowKit Go.Word
attribute [local go_sem] guard_eq guard_ne st_eql st_neq
/-- the slices that All tells, of which i are laid -/
def cutV (A : Option Addr) (cs : List Bt) (j : Nat) : Value := .slice (cutA A cs j) (cs.getD j []).length (cs.getD j []).length
def cutRow (A : Option Addr) (cs : List Bt) (i : Nat) : List Value := (List.range cs.length).map fun j => if j < i then cutV A cs j else .slice none 0 0
theorem cutRow_len (A : Option Addr) (cs : List Bt) (i : Nat) : (cutRow A cs i).length = cs.length := by simp [cutRow]
theorem cutRow_at (A : Option Addr) (cs : List Bt) (i j : Nat) (h : j < cs.length) : (cutRow A cs i)[j]? = some (if j < i then cutV A cs j else .slice none 0 0) := by simp [cutRow, h]
theorem cutRow_zero (A : Option Addr) (cs : List Bt) : cutRow A cs 0 = List.replicate cs.length (.slice none 0 0) := by
  apply List.ext_getElem?
  intro j
  by_cases h : j < cs.length
  · rw [cutRow_at A cs 0 j h, List.getElem?_replicate, if_pos h, if_neg (by omega)]
  · rw [List.getElem?_eq_none (by rw [cutRow_len]; omega), List.getElem?_eq_none (by simp; omega)]
theorem cutRow_step (A : Option Addr) (cs : List Bt) (i : Nat) (h : i < cs.length) : (cutRow A cs i).set i (cutV A cs i) = cutRow A cs (i + 1) := by
  apply List.ext_getElem?
  intro j
  rw [List.getElem?_set, cutRow_len]
  by_cases hj : j < cs.length
  · rw [cutRow_at A cs (i + 1) j hj]
    by_cases e : i = j
    · subst e
      rw [if_pos rfl, if_pos h, if_pos (by omega)]
    · rw [if_neg e, cutRow_at A cs i j hj]
      by_cases h1 : j < i
      · rw [if_pos h1, if_pos (by omega)]
      · rw [if_neg h1, if_neg (by omega)]
  · rw [List.getElem?_eq_none (l := cutRow A cs (i + 1)) (by rw [cutRow_len]; omega)]
    by_cases e : i = j
    · omega
    · rw [if_neg e, List.getElem?_eq_none (by rw [cutRow_len]; omega)]
theorem cut_below {w w' : World} {g : Nat} {cs : List Bt} {A : Option Addr} {c : Nat} {E : Option Addr} {d : Nat} (h : Cut w g cs A c E d) (hb : Below w.heap.size w w') (hg : g < w.heap.size) (hE : ∀ b, E = some ⟨b, 0, none⟩ → b < w.heap.size) : Cut w' g cs A c E d :=
  ⟨(hb.cell (p := ⟨g, 1, none⟩) hg).trans h.b1, h.hc, (hb.cell (p := ⟨g, 2, none⟩) hg).trans h.b2, fun j hj => by
    obtain ⟨b, e, hc⟩ := h.en j hj
    exact ⟨b, e, (hb.cell (p := ⟨b, j, none⟩) (hE b e)).trans hc⟩⟩
set_option maxRecDepth 100000 in
set_option maxHeartbeats 4000000 in
theorem gather_any (t : Nat) (cs : List Bt) (A : Option Addr) (c : Nat) (E : Option Addr) (d : Nat) (w : World) (h : Cut w t cs A c E d) (ht : t < w.heap.size) (hE : ∀ b, E = some ⟨b, 0, none⟩ → b < w.heap.size) (hL : cs.length ≤ 100000) :
    Calls Try.prog 24 #[.int .i64 (cs.length : Nat), .func (.func 22) #[.pointer (some ⟨t, 0, none⟩)] #[]] w fun e w' => e = .returned (.slice (some ⟨w.heap.size, 0, none⟩) cs.length cs.length) ∧ w'.ownsRow w.heap.size 31 1 (.slice (some ⟨w.heap.size, 0, none⟩) cs.length cs.length) cs.length (cutRow A cs cs.length) ∧ Below w.heap.size w w' := by
  have mk := mk_slices w cs.length (by omega)
  have o0 : (w.alloc (.cells (madeCells #[.slice none 0 0] cs.length) 31)).ownsRow w.heap.size 31 1 (.slice (some ⟨w.heap.size, 0, none⟩) cs.length cs.length) cs.length (cutRow A cs 0) := by
    have := World.ownsRow_lit (base := w.heap.size) (size := 1) (e := 31) w (madeCells #[.slice none 0 0] cs.length) cs.length (Nat.le_refl _) (by unfold maxLen; omega) (by simp [madeCells])
    have e : (madeCells #[.slice none 0 0] cs.length).toList = cutRow A cs 0 := by
      rw [cutRow_zero]
      apply List.ext_getElem?
      intro j
      by_cases hj : j < cs.length
      · rw [Array.getElem?_toList, made_at _ _ j hj, List.getElem?_replicate, if_pos hj]
      · rw [List.getElem?_eq_none (by simp [madeCells]; omega), List.getElem?_eq_none (by simp; omega)]
    rw [e] at this
    exact this
  have b0 : Below w.heap.size w (w.alloc (.cells (madeCells #[.slice none 0 0] cs.length) 31)) := (Below.refl _ _).alloc (Nat.le_refl _) _
  have O0 := Lib.hid o0
  have B0 := Lib.hid b0
  have HC := Lib.hid h
  have HE := Lib.hid hE
  clear o0 b0 h hE
  obtain ⟨L, hLe⟩ : ∃ L, L = cs.length := ⟨_, rfl⟩
  have LL := Lib.hid hLe
  rw [← hLe] at mk O0 B0 hL ⊢
  clear hLe
  go_enter Try.func24, Try.ntmps24
  go_upto_region 2 with (fail)
  generalize w.alloc (.cells (madeCells #[.slice none 0 0] L) 31) = W1 at *
  clear mk
  go_wp2
  go_loopw [6, 11] (fun _ v11 wr => ∃ i : Nat, i ≤ L ∧ v11 = .int .i64 (i : Int) ∧ wr.ownsRow w.heap.size 31 1 (.slice (some ⟨w.heap.size, 0, none⟩) L L) L (cutRow A cs i) ∧ Below w.heap.size w wr) (fun _ v11 _ => L - (intOf v11).toNat)
  case atStart => exact ⟨0, Nat.zero_le _, rfl, O0.out, B0.out⟩
  case round =>
    obtain ⟨i, hi, rfl, ho, hb⟩ := hrel
    have HO := Lib.hid ho
    have HB := Lib.hid hb
    clear ho hb
    by_cases hlt : i < L
    · have li : (i : Int) < (L : Int) := by omega
      have lf : i < cs.length := by have := LL.out; omega
      have CU := Lib.hid (cut_any t cs A c E d i wr (cut_below HC.out HB.out ht HE.out) lf (by have := LL.out; omega))
      have ev : Value.slice (cutA A cs i) cs[i].length cs[i].length = cutV A cs i := by
        unfold cutV
        rw [List.getD_eq_getElem?_getD, List.getElem?_eq_getElem lf]
        rfl
      rw [ev] at CU
      obtain ⟨DA, DN, hcv⟩ : ∃ DA DN, cutV A cs i = .slice DA DN DN := ⟨_, _, rfl⟩
      rw [hcv] at CU
      have st := fun q => World.ownsRow.stored (w := wr.drewN q) (own_same HO.out (fun _ _ _ => rfl)) i (cutV A cs i)
      rw [cutRow_step A cs i lf, hcv] at st
      have ST := Lib.hid st
      have c1 := (HO.out.cellAt i (by omega)).trans (cutRow_at A cs i i lf)
      have f1 := HO.out.frozenAt i
      rw [if_neg (by omega)] at c1
      clear st ev hcv
      go_wp2_with (go_at_call 22; (with_reducible refine CU.out.mono ?_); rintro e w2 ⟨rfl, k2, rfl⟩; have S2 := Lib.hid (ST.out k2))
      go_roundw
      case rel => exact ⟨i + 1, by omega, by go_num, S2.out.1, (below_drewN HB.out k2).grown S2.out.2 (by have := HB.out.size; exact this) (fun k e => by injection e with e; omega)⟩
      case measure => first | (simp [intOf]; done) | (simp [intOf]; omega)
    · obtain rfl : i = L := by omega
      have li : ¬ ((i : Int) < (i : Int)) := by omega
      go_wp2
      go_ret
      exact ⟨rfl, by have := HO.out; have := LL.out; subst this; exact HO.out, HB.out⟩
end Go.Proofs.Ytlnmaejpchncoaa
