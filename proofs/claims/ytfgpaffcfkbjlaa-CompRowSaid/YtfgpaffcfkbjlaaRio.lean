/-
What is proved here: what Components and Round tell of rings in a row, in memory.
-/
import Derived.Test.YtfgpaffcfkbjlaaRml
import Derived.Test.YtfgpaffcfkbjlaaRig
import Derived.Test.YtfgpaffcfkbjlaaClo
set_option linter.unusedSimpArgs false
set_option linter.unusedVariables false
namespace Go.Proofs.Ytfgpaffcfkbjlaa
open Go.Cmp Go.RowKit
theorem rig_out {ns : List Nat} {G : Gr} (hR : Rigs ns G) (hm : 0 < ns.length) {w w' : World} {e : Ending} (h : CpsE G w e w') : ∃ g C, e = .returned (.tuple #[.slice (some ⟨g, 0, none⟩) ns.length C, .int .i64 0]) ∧ Below w.heap.size w w' ∧
    ∀ t, t < ns.length → ∃ b o c, w'.cell? ⟨g, t, none⟩ = some (.slice (some ⟨b, o, none⟩) (ns.getD (ns.length - 1 - t) 0) c) ∧ w'.cell? ⟨b, o, none⟩ = some (.int .i64 (fs ns (ns.length - 1 - t) : Int)) := by
  obtain ⟨A, C, es, T, out, rfl, hC, hG, hB⟩ := h
  obtain ⟨hS, hout⟩ := rig_turn hR hC
  have hlen : out.length = ns.length := by rw [hout]; simp
  have hl2 : (out.map fun k => es.getD k dE).length = ns.length := by simp [hlen]
  have hr : ∀ t (ht : t < ns.length), ((out.map fun k => es.getD k dE)[t]'(by omega)).r = blk ns (ns.length - 1 - t) := fun t ht => by
    rw [List.getElem_map, getD_r, hS, nx_blk]
    have : out[t]'(by omega) = ns.length - 1 - t := by simp [hout]
    rw [this, if_pos (by omega)]
  have hcell : ∀ t (ht : t < ns.length), ∃ g b o c, A = some ⟨g, 0, none⟩ ∧ w'.cell? ⟨g, t, none⟩ = some (.slice (some ⟨b, o, none⟩) (ns.getD (ns.length - 1 - t) 0) c) ∧ w'.cell? ⟨b, o, none⟩ = some (.int .i64 (fs ns (ns.length - 1 - t) : Int)) := fun t ht => by
    obtain ⟨tl, htl⟩ := blk_head (hR.2 (ns.length - 1 - t) (by omega))
    obtain ⟨g, b, o, c, e1, e2, e3⟩ := grps_firstR hG (k := t) (by omega) ((hr t ht).trans htl)
    have hl : tl.length + 1 = ns.getD (ns.length - 1 - t) 0 := by
      have := congrArg List.length htl
      simpa [blk] using this.symm
    rw [hl] at e2
    exact ⟨g, b, o, c, e1, e2, e3⟩
  obtain ⟨g, _, _, _, rfl, _⟩ := hcell 0 hm
  rw [hlen]
  refine ⟨g, C, rfl, hB, fun t ht => ?_⟩
  obtain ⟨g', b, o, c, e1, e2⟩ := hcell t ht
  injection e1 with e1
  injection e1 with e1
  subst e1
  exact ⟨b, o, c, e2⟩
theorem count_at (ns : List Nat) (p : Nat → Bool) : ((List.range ns.length).map fun i => ns.getD i 0).countP p = ns.countP p := by
  congr 1
  refine List.ext_getElem (by simp) (fun i h1 h2 => ?_)
  simp only [List.getElem_map, List.getElem_range]
  rw [List.getD_eq_getElem?_getD, List.getElem?_eq_getElem h2]
  rfl
theorem rig_rnd {ns : List Nat} {G : Gr} (hR : Rigs ns G) {w w' : World} {e : Ending} (h : RndE G w e w') : ∃ A C, e = .returned (.tuple #[.slice A (ns.countP (1 < ·)) C, .int .i64 0]) ∧ Below w.heap.size w w' := by
  obtain ⟨A, C, es, rfl, hS, hG, hB⟩ := h
  have hS2 := groups_eq hS (rig_groups hR)
  have hl : (es.filter fun e => !stillP G e.r).length = ns.countP (1 < ·) := by
    rw [← List.countP_eq_length_filter]
    have e1 : es.countP (fun e => !stillP G e.r) = (es.map Ent.r).countP (fun r => !stillP G r) := by rw [List.countP_map]; rfl
    rw [e1, hS2, List.countP_map]
    refine Eq.trans ?_ (count_at ns (fun x => decide (1 < x)))
    rw [List.countP_map]
    refine List.countP_congr fun i hi => ?_
    have hi := List.mem_range.1 hi
    have := hR.2 i hi
    simp only [Function.comp, rig_still hR hi]
    have hd : decide (ns.getD i 0 = 1) = !decide (1 < ns.getD i 0) := by
      by_cases e : ns.getD i 0 = 1
      · rw [decide_eq_true e, decide_eq_false (by omega)]; rfl
      · rw [decide_eq_false e, decide_eq_true (by omega)]; rfl
    rw [hd, Bool.not_not]
  rw [hl]
  exact ⟨A, C, rfl, hB⟩
end Go.Proofs.Ytfgpaffcfkbjlaa
