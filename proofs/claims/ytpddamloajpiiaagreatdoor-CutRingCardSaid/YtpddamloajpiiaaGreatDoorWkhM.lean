/-
What is proved here: what cut's stores leave of the work in memory.
-/
import Derived.Test.YtpddamloajpiiaaGreatDoorWkqM
set_option linter.unusedSimpArgs false
set_option linter.unusedVariables false
namespace Go.Proofs.YtpddamloajpiiaaGreatDoor
open Go.Cmp Go.RowKit Go.Cut Go.Pth Go.Word Go.Shelf
/-- a store into the box of the work -/
theorem wkb_box {B WB c' : Nat} {s : Wk} {fs sn fs' sn' : Int} {to to' : Bt} {av nv : Value} {vs : List Value} {w w' : World} (h : WkB B WB s fs sn to av nv vs w) (hb : But (· = WB) w w') (hL : Lies w' WB 49 #[.int .i64 fs', .int .i64 sn', St to', av, nv, .int .i64 (c' : Int)]) :
    WkB B WB ⟨s.acts, s.needs, c'⟩ fs' sn' to' av nv vs w' :=
  ⟨hL, own_but h.own hb (fun k hk e => own_ne h.own h.box (by decide) (e ▸ hk)), own_but h.row hb (fun k hk e => own_ne h.row h.box (by decide) (e ▸ hk)),
    ⟨h.rws.len, fun i => win_but (h.rws.win i) hb (fun k hk e => win_ne (h.rws.win i) h.box (by decide) (e ▸ hk)), h.rws.sep⟩, h.wb⟩
theorem own_some {w : World} {B : Nat} {v : Value} {l : List Ac} (h : OwnA w B v l) (h0 : 0 < l.length) : ∃ g c cur, v = .slice (some ⟨g, 0, none⟩) l.length c ∧ B ≤ g ∧ Lies w g 29 cur ∧ l.length ≤ c ∧ c ≤ maxLen ∧ cur.size = c * 5 ∧ cur.toList.take (l.length * 5) = acs l := by
  unfold OwnA at h
  rcases h.2 with ⟨_, h1⟩ | ⟨g, cap, cur, rfl, hB, hg, hn, hcap, hs, ht⟩
  · omega
  · exact ⟨g, cap, cur, rfl, hB, hg, hn, hcap, hs, ht⟩
theorem acs_set : ∀ (l : List Ac) (i : Nat) (a : Ac) (j : Nat), i < l.length → (acs (l.set i a))[j]? = if i * 5 ≤ j ∧ j < i * 5 + 5 then (acC a)[j - i * 5]? else (acs l)[j]? := by
  intro l i a j hi
  have h5 : ∀ b : Ac, (acC b).length = 5 := fun _ => rfl
  by_cases hj : j < l.length * 5
  · obtain ⟨k, r, hk, hr, rfl⟩ : ∃ k r, k < l.length ∧ r < 5 ∧ j = k * 5 + r := ⟨j / 5, j % 5, by omega, by omega, by omega⟩
    rw [acs_at _ k (by simpa using hk) r hr, acs_at _ k hk r hr, List.getElem_set]
    by_cases e : i = k
    · subst e
      rw [if_pos rfl, if_pos (by omega)]
      congr 1
      omega
    · rw [if_neg e, if_neg (by omega)]
  · rw [List.getElem?_eq_none (by rw [acs_len]; simp; omega), if_neg (by omega), List.getElem?_eq_none (by rw [acs_len]; omega)]
/-- a store into where an action goes -/
theorem own_to {w : World} {B g c : Nat} {l : List Ac} {i : Nat} (t : Bt) (h : OwnA w B (.slice (some ⟨g, 0, none⟩) l.length c) l) (hi : i < l.length) :
    OwnA (w.setCell ⟨g, i * 5 + 2, none⟩ (St t)) B (.slice (some ⟨g, 0, none⟩) l.length c) (l.set i { l.getD i default with t := t }) := by
  obtain ⟨g', c', cur, hv, hB, hL, hlc, hcm, hs, ht⟩ := own_some h (by omega)
  injection hv with e1 _ e3
  injection e1 with e1
  injection e1 with e1
  subst e1 e3
  have hg : l.getD i default = l[i] := by rw [List.getD_eq_getElem?_getD, List.getElem?_eq_getElem hi]; rfl
  have hL2 := lies_set hL (i * 5 + 2) (St t)
  unfold OwnA
  refine ⟨by rw [acs_len], .inr ⟨g, c, _, by simp, hB, hL2, by simpa using hlc, hcm, by simpa using hs, ?_⟩⟩
  apply List.ext_getElem?
  intro j
  rw [acs_set _ _ _ _ hi, hg]
  have hlen : (l.set i { l[i] with t := t }).length = l.length := by simp
  rw [hlen]
  by_cases hj : j < l.length * 5
  · rw [List.getElem?_take_of_lt hj, Array.getElem?_toList, Array.getElem?_setIfInBounds]
    have h1 : cur[j]? = (acs l)[j]? := by rw [← ht, List.getElem?_take_of_lt hj, Array.getElem?_toList]
    by_cases e : i * 5 + 2 = j
    · subst e
      rw [if_pos rfl, if_pos (by omega), if_pos (by omega)]
      rw [show i * 5 + 2 - i * 5 = 2 by omega]
      rfl
    · rw [if_neg e, h1]
      by_cases e2 : i * 5 ≤ j ∧ j < i * 5 + 5
      · rw [if_pos e2]
        obtain ⟨r, hr, rfl⟩ : ∃ r, r < 5 ∧ j = i * 5 + r := ⟨j - i * 5, by omega, by omega⟩
        rw [acs_at l i hi r hr, show i * 5 + r - i * 5 = r by omega]
        match r, hr, e with
        | 0, _, _ => rfl
        | 1, _, _ => rfl
        | 2, _, e => exact absurd rfl e
        | 3, _, _ => rfl
        | 4, _, _ => rfl
      · rw [if_neg e2]
  · rw [List.getElem?_take_eq_none (by omega), if_neg (by omega), List.getElem?_eq_none (by rw [acs_len]; omega)]
/-- the same of the whole work -/
theorem wkb_to {B WB g n c : Nat} {s : Wk} {fs sn : Int} {to : Bt} {nv : Value} {vs : List Value} {w : World} {i : Nat} (t : Bt) (h : WkB B WB s fs sn to (.slice (some ⟨g, 0, none⟩) n c) nv vs w) (hn : n = s.acts.length) (hi : i < s.acts.length) :
    WkB B WB ⟨s.acts.set i { s.acts.getD i default with t := t }, s.needs, s.cuts⟩ fs sn to (.slice (some ⟨g, 0, none⟩) n c) nv vs (w.setCell ⟨g, i * 5 + 2, none⟩ (St t)) := by
  subst hn
  obtain ⟨g', c', cur, hv, hB, hL, _⟩ := own_some h.own (by omega)
  injection hv with e1 _ e3
  injection e1 with e1
  injection e1 with e1
  subst e1
  have bs : But (· = g) w (w.setCell ⟨g, i * 5 + 2, none⟩ (St t)) := (But.refl (· = g) w).setCell (p := ⟨g, i * 5 + 2, none⟩) (fun _ => rfl) _
  have hne : g ≠ WB := fun e => by
    have hb := h.box
    unfold Lies at hL hb
    rw [e, hb] at hL
    injection hL with hL
    injection hL with _ h2 _
    exact absurd h2 (by decide)
  refine ⟨bs.lies h.box (fun e => hne e.symm), ?_, own_but h.row bs (fun k hk e => own_ne h.row hL (by decide) (e ▸ hk)), ⟨h.rws.len, fun j => win_but (h.rws.win j) bs (fun k hk e => win_ne (h.rws.win j) hL (by decide) (e ▸ hk)), h.rws.sep⟩, h.wb⟩
  have := own_to t h.own hi
  exact this
theorem acs_snoc (l : List Ac) (a : Ac) : acs (l ++ [a]) = acs l ++ acC a := by simp [acs]
/-- an action appended, and the box that holds the slice -/
theorem wkb_push {B WB : Nat} {s : Wk} {fs sn : Int} {to : Bt} {av nv v' : Value} {vs : List Value} {w w1 : World} {a : Ac} (h : WkB B WB s fs sn to av nv vs w) (hb : But (fun k => some k = av.ownBlock) w w1) (hown : w1.ownsRow B 29 5 v' (s.acts.length + 1) (acs s.acts ++ acC a)) :
    WkB B WB ⟨s.acts ++ [a], s.needs, s.cuts⟩ fs sn to v' nv vs (w1.setCell ⟨WB, 3, none⟩ v') := by
  have hne : ∀ k, some k = av.ownBlock → ∃ cs, Lies w k 29 cs := fun k hk => (own_heap h.own k hk.symm).2.2
  have hbox : ¬ some WB = av.ownBlock := fun e => own_ne h.own h.box (by decide) e.symm
  have L1 := hb.lies h.box hbox
  have bs : But (· = WB) w1 (w1.setCell ⟨WB, 3, none⟩ v') := (But.refl (· = WB) w1).setCell (p := ⟨WB, 3, none⟩) (fun _ => rfl) _
  have hO : OwnA w1 B v' (s.acts ++ [a]) := by
    unfold OwnA
    rw [acs_snoc, List.length_append, List.length_singleton]
    exact hown
  refine ⟨?_, own_but hO bs (fun k hk e => own_ne hO L1 (by decide) (e ▸ hk)), ?_, ⟨h.rws.len, fun i => ?_, h.rws.sep⟩, h.wb⟩
  · have := lies_set L1 3 v'
    simpa using this
  · have r1 := own_but h.row hb (fun k hk e => by
      obtain ⟨cs, hl⟩ := hne k e
      exact own_ne h.row hl (by decide) hk)
    exact own_but r1 bs (fun k hk e => own_ne r1 L1 (by decide) (e ▸ hk))
  · have r1 := win_but (h.rws.win i) hb (fun k hk e => by
      obtain ⟨cs, hl⟩ := hne k e
      exact win_ne (h.rws.win i) hl (by decide) hk)
    exact win_but r1 bs (fun k hk e => win_ne r1 L1 (by decide) (e ▸ hk))
end Go.Proofs.YtpddamloajpiiaaGreatDoor
