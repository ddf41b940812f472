/-
What is proved here: what each law of cut begins with, by a contract; what Break tells of rings.
-/
import Derived.Test.YtpddamloajpiiaaGreatDoorBkrM

set_option linter.unusedSimpArgs false
set_option linter.unusedVariables false
namespace Go.Proofs.YtpddamloajpiiaaGreatDoor
open Go.Cmp Go.RowKit Go.Cut Go.Pth Go.Word Go.Shelf

/-- what Break tells of a ring of renames -/
structure RgO (l : List Ac) (n : Nat) (W : World) (g c ng nc b o c2 : Nat) (A0 : Option Addr) (c0 : Nat) (e : Ending) (w' : World) : Prop where
  eq : e = .returned (.tuple #[.slice (some ⟨g, 0, none⟩) (n + 1) c, .slice (some ⟨ng, 0, none⟩) (n + 1) nc, .int .i64 1, .int .i64 0])
  acts : ∀ j u, (acs (l.set 0 { l.getD 0 default with t := [46, 116, 115, 45, 48] } ++ [⟨3, [46, 116, 115, 45, 48], (l.getD 0 default).t, 0, 0⟩]))[j]? = some u → w'.cell? ⟨g, j, none⟩ = some u
  last : w'.cell? ⟨ng, n, none⟩ = some (.slice (some ⟨b, o, none⟩) 2 c2)
  l0 : w'.cell? ⟨b, o, none⟩ = some (.int .i64 0)
  l1 : w'.cell? ⟨b, o + 1, none⟩ = some (.int .i64 1)
  first : w'.cell? ⟨ng, 0, none⟩ = some (.slice A0 0 c0)
  low : Below W.heap.size W w'
theorem brk_out {l : List Ac} {n : Nat} {W w' : World} {e : Ending} (h : BrkE l (ring n) W e w') (h1 : 2 ≤ n) (h2 : n ≤ 30) (hl : l.length = n) (h3 : ∀ a ∈ l, a.op = 3) (hk : keptP (l.getD 0 default).p = false) : ∃ g c ng nc b o c2 A0 c0, RgO l n W g c ng nc b o c2 A0 c0 e w' := by
  obtain ⟨x, s', hR, hP, hb, hc⟩ := h
  rw [rise_ring] at hR
  obtain ⟨rfl, rfl⟩ := ring_cut h1 (by omega) hl h3 hk hR
  obtain ⟨ha, hcu, hnl, hnx⟩ := ring_split h1 hl h3
  rcases hc with ⟨_, av, nv, vs, rfl, hA, hrow, hrws⟩ | ⟨h0, _⟩
  · rw [ha] at hA
    rw [hcu]
    have hal : (l.set 0 { l.getD 0 default with t := [46, 116, 115, 45, 48] } ++ [(⟨3, [46, 116, 115, 45, 48], (l.getD 0 default).t, 0, 0⟩ : Ac)]).length = n + 1 := by simp [hl]
    obtain ⟨g, c, cur, eA, hBg, hLg, hlc, hcm, hcs, hct⟩ := own_some hA (by rw [hal]; omega)
    rw [hal] at eA hct
    subst eA
    have hvl : vs.length = n + 1 := by rw [hrws.len, hnl]
    rw [hvl] at hrow
    obtain ⟨ng, nc, eN, hgN, hgl⟩ := World.ownsRow.form hrow (by omega)
    subst eN
    have hw : ∀ j, Win w' W.heap.size (vs.getD j nilV) (zs (if j = 0 then [] else if j < n then (if j + 1 < n then [j + 1] else [0]) else if j = n then [0, 1] else [])) := fun j => by
      have := hrws.win j
      rw [hnx j] at this
      exact this
    have hwn := hw n
    have hw0 := hw 0
    rw [if_neg (by omega), if_neg (by omega), if_pos rfl] at hwn
    rw [if_pos rfl] at hw0
    obtain ⟨b, o, c2, cb, eb, _, hLb, _, _, _, hcb⟩ := win_first hwn (by decide)
    obtain ⟨A0, c0, e0⟩ := win_slice hw0
    have hcell : ∀ j, j < n + 1 → w'.cell? ⟨ng, j, none⟩ = some (vs.getD j nilV) := fun j hj => by
      rw [hrow.cellAt j (by omega), List.getD_eq_getElem?_getD, List.getElem?_eq_getElem (by omega)]
      rfl
    refine ⟨g, c, ng, nc, b, o, c2, A0, c0, rfl, fun j u hj => ?_, ?_, ?_, ?_, ?_, hb⟩
    · have hjl : j < (n + 1) * 5 := by have := (List.getElem?_eq_some_iff.1 hj).1; rw [acs_len, hal] at this; exact this
      rw [lies_cell hLg, ← Array.getElem?_toList]
      have e : (cur.toList.take ((n + 1) * 5))[j]? = cur.toList[j]? := List.getElem?_take_of_lt hjl
      rw [← e, hct]
      exact hj
    · rw [hcell n (by omega), eb]; rfl
    · have := hcb 0 (by decide)
      rw [lies_cell hLb]
      exact this
    · have := hcb 1 (by decide)
      rw [lies_cell hLb]
      exact this
    · rw [hcell 0 (by omega), e0]; rfl
  · exact absurd rfl h0
/-- of a ring with no rename -/
theorem brk_stuck {l : List Ac} {n : Nat} {W w' : World} {e : Ending} (h : BrkE l (ring n) W e w') (h1 : 0 < n) (hl : l.length = n) (h3 : ∀ a ∈ l, a.op ≠ 3) : e = .returned (.tuple #[nilV, nilV, .int .i64 0, .int .i64 33]) ∧ Below W.heap.size W w' := by
  obtain ⟨x, s', hR, hP, hb, hc⟩ := h
  rw [rise_ring] at hR
  obtain ⟨rfl, rfl⟩ := ring_stuck h1 (fun i hi => by
    unfold movP
    rw [decide_eq_false (by
      rw [List.getD_eq_getElem?_getD, List.getElem?_eq_getElem (by omega)]
      exact h3 _ (List.getElem_mem _))]
    rfl) hR
  rcases hc with ⟨h0, _⟩ | ⟨_, rfl⟩
  · exact absurd h0 (by decide)
  · exact ⟨rfl, hb⟩
/-- whatever the ring -/
theorem brk_some {l : List Ac} {G : Gr} {W w' : World} {e : Ending} (h : BrkE l G W e w') : ∃ A n c B m d k x, e = .returned (.tuple #[.slice A n c, .slice B m d, .int .i64 k, .int .i64 x]) ∧ Below W.heap.size W w' := by
  obtain ⟨x, s', hR, hP, hb, hc⟩ := h
  rcases hc with ⟨_, av, nv, vs, rfl, hA, hrow, hrws⟩ | ⟨_, rfl⟩
  · obtain ⟨A, c, rfl, _⟩ := own_acts hA
    obtain ⟨B, d, rfl, _⟩ := rws_ls hrow hrws
    exact ⟨_, _, _, _, _, _, _, _, rfl, hb⟩
  · exact ⟨_, _, _, _, _, _, _, _, rfl, hb⟩
theorem cnum_any (z : Int) (w : World) : Calls Tryz.prog 15 #[.int .i64 z] w fun e w' => e = .returned (.int .i64 z) ∧ w' = w := by
  go_enter Tryz.func15, Tryz.ntmps15
  go_wp2
  go_ret
  exact ⟨rfl, rfl⟩
def two : List Ac := [⟨3, [97], [98], 0, 0⟩, ⟨3, [98], [97], 0, 0⟩]
theorem kept_a : keptP [97] = false := by decide
end Go.Proofs.YtpddamloajpiiaaGreatDoor
