/-
What is proved here: what lies in memory behind cut's split's append, when the old list is gone.
-/
import Derived.Test.YtpddamloajpiiaaGreatDoorSpaM
set_option linter.unusedSimpArgs false
set_option linter.unusedVariables false
namespace Go.Proofs.YtpddamloajpiiaaGreatDoor
open Go.Cmp Go.RowKit Go.Cut Go.Pth Go.Word Go.Shelf
theorem zero29c (w : World) : (zeroValue 29).run Tryz.prog w = .ok (.agg #[.int .i64 0, .string { data := #[] }, .string { data := #[] }, .int .i64 0, .int .i64 0]) w := by kernel_rfl
theorem own_setc {W : World} {B t g m cp : Nat} {xs : List Value} (h : W.ownsRow B t 1 (.slice (some ⟨g, 0, none⟩) m cp) m xs) (i : Nat) (u : Value) : (W.setCell ⟨g, i, none⟩ u).ownsRow B t 1 (.slice (some ⟨g, 0, none⟩) m cp) m (xs.set i u) := by
  rcases h.2 with ⟨h0, _⟩ | ⟨g', cap', cur, hv, hB, hg, hn, hcap, hs, ht⟩
  · cases h0
  · injection hv with e1 e2 e3
    injection e1 with e1
    injection e1 with e1
    subst e1 e3
    have hL : Lies W g t cur := hg
    refine ⟨by have := h.1; simpa using this, .inr ⟨g, cp, cur.setIfInBounds i u, rfl, hB, lies_set hL i u, hn, hcap, by simpa using hs, ?_⟩⟩
    rw [Array.toList_setIfInBounds, List.take_set, ht]
theorem wkb_need {X W : World} {B WB gn cp i cuts : Nat} {acts : List Ac} {needs : Gr} {fs sn : Int} {to : Bt} {av NV v7 : Value} {vs : List Value} (h : WkB B WB ⟨acts, needs, cuts⟩ fs sn to av NV vs X) (hi : i < vs.length)
    (hs : Sq19 X B WB #[.int .i64 fs, .int .i64 sn, St to, av, .slice (some ⟨gn, 0, none⟩) (vs.length + 1) cp, .int .i64 (cuts : Int)] (vs.getD i nilV) (put i (nx needs i)) v7 NV vs (.slice (some ⟨gn, 0, none⟩) (vs.length + 1) cp) W) :
    WkB B WB ⟨acts, (needs ++ [put i (nx needs i)]).set i [], cuts⟩ fs sn to av (.slice (some ⟨gn, 0, none⟩) (vs.length + 1) cp) ((vs ++ [v7]).set i nilV) (W.setCell ⟨gn, i, none⟩ nilV) := by
  have hw : But (· = gn) W (W.setCell ⟨gn, i, none⟩ nilV) := (But.refl (· = gn) W).setCell (p := ⟨gn, i, none⟩) (fun _ => rfl) _
  obtain ⟨hgB, hgl, cur, hLg⟩ := own_heap hs.row gn rfl
  have hlen : vs.length = needs.length := h.rws.len
  have hwr : ∀ j, Win X B (vs.getD j nilV) (zs (nx needs j)) := h.rws.win
  have hP : ∀ j k, j ≠ i → wblk (vs.getD j nilV) = some k → ¬ ((some k = wblk (vs.getD i nilV) ∨ some k = NV.ownBlock) ∨ k = WB) := fun j k hj hk hp => by
    rcases hp with (e | e) | e
    · exact h.rws.sep j i k hj hk e.symm
    · obtain ⟨_, _, cs, hl⟩ := own_heap h.row k e.symm
      exact win_ne (hwr j) hl (by decide) hk
    · subst e
      exact win_ne (hwr j) h.box (by decide) hk
  have hold : ∀ j, j ≠ i → Win W B (vs.getD j nilV) (zs (nx needs j)) := fun j hj => win_but (hwr j) hs.but (fun k hk => hP j k hj hk)
  have hgd : ∀ j, ((vs ++ [v7]).set i nilV).getD j nilV = if i = j then nilV else if j = vs.length then v7 else vs.getD j nilV := fun j => by
    rw [getD_setv _ _ _ _ (by simp; omega)]
    by_cases e : i = j
    · rw [if_pos e, if_pos e]
    · rw [if_neg e, if_neg e, List.getD_eq_getElem?_getD, List.getElem?_append]
      by_cases e2 : j < vs.length
      · rw [if_pos e2, if_neg (by omega), ← List.getD_eq_getElem?_getD]
      · rw [if_neg e2]
        by_cases e3 : j = vs.length
        · subst e3; simp
        · rw [if_neg e3, List.getElem?_eq_none (by simp; omega), List.getD_eq_getElem?_getD, List.getElem?_eq_none (by omega)]
  refine ⟨hw.lies hs.box (fun e => own_ne hs.row hs.box (by decide) (by rw [e]; rfl)), ?_, ?_, ⟨by simp [hlen], fun j => ?_, fun a b k hab => ?_⟩, h.wb⟩
  · have h1 : OwnA W B av acts := own_but h.own hs.but (fun k hk hp => by
      obtain ⟨_, _, cs, hl⟩ := own_heap h.own k hk
      rcases hp with (e | e) | e
      · exact win_ne (hwr i) hl (by decide) e.symm
      · exact own_ne h.row hl (by decide) e.symm
      · subst e; exact own_ne h.own h.box (by decide) hk)
    exact own_but h1 hw (fun k hk e => own_ne h1 hLg (by decide) (e ▸ hk))
  · have := own_setc hs.row i nilV
    rw [show ((vs ++ [v7]).set i nilV).length = vs.length + 1 by simp]
    exact this
  · show Win _ B _ (zs (nx ((needs ++ [put i (nx needs i)]).set i []) j))
    rw [hgd]
    by_cases e : i = j
    · subst e
      rw [if_pos rfl, nx_set, if_pos ⟨rfl, by simp; omega⟩]
      exact .inl ⟨rfl, rfl⟩
    · have e9 : nx ((needs ++ [put i (nx needs i)]).set i []) j = nx (needs ++ [put i (nx needs i)]) j := by rw [nx_set, if_neg (fun x => e x.1)]
      rw [if_neg e, e9]
      by_cases e2 : j = vs.length
      · rw [if_pos e2, nx_app, if_pos (by rw [e2, hlen])]
        exact win_but hs.win hw (fun k hk x => win_ne hs.win hLg (by decide) (x ▸ hk))
      · rw [if_neg e2, nx_app, if_neg (by rw [← hlen]; exact e2)]
        have h1 := hold j (fun x => e x.symm)
        exact win_but h1 hw (fun k hk x => win_ne h1 hLg (by decide) (x ▸ hk))
  · rw [hgd, hgd]
    have h7 : ∀ j, j ≠ i → j ≠ vs.length → ∀ k, wblk v7 = some k → wblk (vs.getD j nilV) ≠ some k := fun j hj hjn k hk hk2 => by
      rcases hs.blk with e | e
      · exact h.rws.sep j i k hj hk2 (e ▸ hk)
      · have h1 := e k hk
        have h2 := (win_block (hwr j) k hk2).2
        omega
    by_cases ea : i = a
    · rw [if_pos ea]; intro x; cases x
    · rw [if_neg ea]
      by_cases eb : i = b
      · rw [if_pos eb]; intro _ x; cases x
      · rw [if_neg eb]
        by_cases ea2 : a = vs.length
        · rw [if_pos ea2]
          by_cases eb2 : b = vs.length
          · exact absurd (ea2.trans eb2.symm) hab
          · rw [if_neg eb2]
            exact fun hk => h7 b (fun x => eb x.symm) eb2 k hk
        · rw [if_neg ea2]
          by_cases eb2 : b = vs.length
          · rw [if_pos eb2]
            exact fun hk hk2 => h7 a (fun x => ea x.symm) ea2 k hk2 hk
          · rw [if_neg eb2]
            exact h.rws.sep a b k hab
end Go.Proofs.YtpddamloajpiiaaGreatDoor
