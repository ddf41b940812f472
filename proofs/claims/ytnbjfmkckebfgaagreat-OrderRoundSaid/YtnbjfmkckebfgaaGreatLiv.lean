/-
What is proved here: that answers are fixed; what is told of needs that are not taken.
-/
import Derived.Test.YtnbjfmkckebfgaaGreatDel
import Derived.Test.YtnbjfmkckebfgaaGreatPuu
set_option linter.unusedSimpArgs false
set_option linter.unusedVariables false
namespace Go.Proofs.YtnbjfmkckebfgaaGreat
open Go.Cmp Go.RowKit
set_option maxRecDepth 100000 in
theorem round_bad (A : Option Addr) (c : Nat) (N : List (List Int)) (w : World) (hL : LsAt w A N) (hn : N.length ≤ 1000000000) (hs : ∀ l ∈ N, l.length ≤ 1000000000) (hb : chk N ≠ 0) :
    Calls Tryz.prog 13 #[.slice A N.length c] w fun e w' => e = .returned (.tuple #[.slice none 0 0, .int .i64 (chk N)]) ∧ Below w.heap.size w w' := by
  have hb0 := below_alloc w (.cells #[.slice A N.length c] 24)
  have KC := Lib.hid (check_any A c N _ (lsAt_below hL hb0) hn hs)
  have cb := lies_cell (lies_new w 24 #[.slice A N.length c]) 0
  simp only [List.getElem?_toArray, List.getElem?_cons_zero] at cb
  have HB0 := Lib.hid hb0
  have hz : (chk N != 0) = true := by simp [hb]
  generalize chk N = z at *
  generalize N.length = n at *
  clear hL hs hb0
  go_enter Tryz.func13, Tryz.ntmps13
  go_upto_region 1 with (fail)
  generalize w.alloc (.cells #[.slice A n c] 24) = X at *
  go_wp2_with (go_at_call 35; (with_reducible refine KC.out.mono ?_); rintro e w1 ⟨rfl, hb⟩; have B1 := Lib.hid (HB0.out.trans (hb.mono HB0.out.size)); clear hb)
  go_ret2
  exact ⟨rfl, B1.out⟩
/-- one number in a row of its own -/
theorem one_own (w : World) (B : Nat) (z : Int) (hB : B ≤ w.heap.size) : OwnI (w.alloc (.cells #[iV z] 3)) B (.slice (some ⟨w.heap.size, 0, none⟩) 1 1) [z] :=
  ⟨by simp, .inr ⟨w.heap.size, 1, #[iV z], rfl, hB, heap_alloc_new _ _, Nat.le_refl _, by decide, rfl, by simp⟩⟩
theorem one_ints {w : World} {g : Nat} {z : Int} (h : Lies w g 3 #[iV z]) : IntsAt w (some ⟨g, 0, none⟩) [z] := fun i hi => by
  have : i = 0 := by simpa using hi
  subst this
  exact ⟨g, 0, rfl, lies_lt h, by rw [lies_cell h]; rfl⟩
theorem liv_ls {W : World} {a b c d : Nat} (h1 : Lies W a 3 #[iV 1]) (h2 : Lies W b 3 #[iV 0]) (h3 : Lies W c 3 #[iV 0]) (h4 : Lies W d 27 #[.slice (some ⟨a, 0, none⟩) 1 1, .slice (some ⟨b, 0, none⟩) 1 1, .slice (some ⟨c, 0, none⟩) 1 1]) : LsAt W (some ⟨d, 0, none⟩) (zg liv) := fun i hi => by
  have hi3 : i < 3 := by simpa [liv] using hi
  rcases (show i = 0 ∨ i = 1 ∨ i = 2 by omega) with rfl | rfl | rfl
  · exact ⟨d, 0, _, 1, rfl, lies_lt h4, by rw [lies_cell h4]; rfl, Nat.le_refl _, one_ints h1⟩
  · exact ⟨d, 0, _, 1, rfl, lies_lt h4, by rw [lies_cell h4]; rfl, Nat.le_refl _, one_ints h2⟩
  · exact ⟨d, 0, _, 1, rfl, lies_lt h4, by rw [lies_cell h4]; rfl, Nat.le_refl _, one_ints h3⟩
/-- a component's slice, and its first number -/
theorem grps_first {w : World} {B : Nat} {A : Option Addr} {C : Nat} {es : List Ent} (h : Grps w B (.slice A es.length C) es) {k : Nat} (hk : k < es.length) : ∃ g, A = some ⟨g, 0, none⟩ ∧ w.cell? ⟨g, k, none⟩ = some (.slice es[k].A es[k].r.length es[k].c) ∧ IntsAt w es[k].A (zs es[k].r) := by
  obtain ⟨g, e, _, hc⟩ := grps_cell h hk
  rw [Nat.zero_add] at hc
  exact ⟨g, e, hc, (ownI_ints (h.own _ (List.getElem_mem hk))).2⟩
theorem liv_out {w w' : World} {e : Ending} (h : CpsE liv w e w') : ∃ g C A0 C0 b o C1, e = .returned (.tuple #[.slice (some ⟨g, 0, none⟩) 2 C, .int .i64 0]) ∧ w'.cell? ⟨g, 0, none⟩ = some (.slice A0 2 C0) ∧ w'.cell? ⟨g, 1, none⟩ = some (.slice (some ⟨b, o, none⟩) 1 C1) ∧ w'.cell? ⟨b, o, none⟩ = some (.int .i64 2) ∧ Below w.heap.size w w' := by
  obtain ⟨A, C, es, T, out, rfl, hC, hG, hB⟩ := h
  obtain ⟨hS, rfl⟩ := liv_turn hC
  have hl : es.length = 2 := by have := congrArg List.length hS; simpa using this
  obtain ⟨e0, e1, rfl⟩ : ∃ e0 e1, es = [e0, e1] := by
    clear hS hC hG
    match es, hl with
    | [a, b], _ => exact ⟨a, b, rfl⟩
  simp only [List.map_cons, List.map_nil, List.cons.injEq, and_true] at hS
  obtain ⟨r0, r1⟩ := hS
  have hG' : Grps w' w.heap.size (.slice A [e0, e1].length C) [e0, e1] := hG
  obtain ⟨g, rfl, c0, _⟩ := grps_first hG' (k := 0) (by simp)
  obtain ⟨g', eg, c1, i1⟩ := grps_first hG' (k := 1) (by simp)
  injection eg with eg
  injection eg with eg
  subst eg
  simp only [List.getElem_cons_zero, List.getElem_cons_succ] at c0 c1 i1
  rw [r0] at c0
  rw [r1] at c1 i1
  obtain ⟨b, o, eA, _, cc⟩ := i1 0 (by simp [zs])
  rw [eA] at c1
  exact ⟨g, C, _, _, b, o, _, rfl, c0, c1, cc, hB⟩
end Go.Proofs.YtnbjfmkckebfgaaGreat
