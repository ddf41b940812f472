/-
What is proved here: rings and where they begin, as they are written in memory.
-/
import Derived.Test.YtfgpaffcfkbjlaaLiv
set_option linter.unusedSimpArgs false
set_option linter.unusedVariables false
namespace Go.Proofs.Ytfgpaffcfkbjlaa
open Go.Cmp Go.RowKit
structure RM (W0 : World) (V4 : Value) (es : List Ent) (V5 : Value) (F : List Nat) (W : World) : Prop where
  grp : Grps W W0.heap.size V4 es
  own5 : OwnI W W0.heap.size V5 (zs F)
  sep : ∀ e ∈ es, ∀ k, e.rv.ownBlock = some k → V5.ownBlock ≠ some k
  low : Below W0.heap.size W0 W
variable {W0 W W' : World} {V4 V5 : Value} {es : List Ent} {F : List Nat}
theorem rm_0 (W0 : World) : RM W0 (.slice none 0 0) [] (.slice none 0 0) [] W0 :=
  ⟨⟨World.ownsRow_nil _ _ _ _, (fun e he => by cases he), .nil⟩, ownI_nil _ _, (fun e he => by cases he), Below.refl _ _⟩
theorem grps_but {B : Nat} {P : Nat → Prop} (h : Grps W B V4 es) (hb : But P W W') (h4 : ∀ k, V4.ownBlock = some k → ¬ P k) (he : ∀ e ∈ es, ∀ k, e.rv.ownBlock = some k → ¬ P k) : Grps W' B V4 es :=
  ⟨own_but h.row hb h4, fun e hm => own_but (h.own e hm) hb (he e hm), h.sep⟩
theorem rm_alloc (h : RM W0 V4 es V5 F W) (o : Obj) : RM W0 V4 es V5 F (W.alloc o) :=
  ⟨grps_but h.grp ((But.refl (fun _ => False) W).alloc o) (fun _ _ => id) (fun _ _ _ _ => id), h.own5.alloc o, h.sep, h.low.alloc h.low.size _⟩
theorem ne_row {B : Nat} {v u : Value} {n m : Nat} {xs ys : List Value} {t t' : TypeId} (h : W.ownsRow B t 1 v n xs) (h' : W.ownsRow B t' 1 u m ys) (hne : t ≠ t') : ∀ k, v.ownBlock = some k → u.ownBlock ≠ some k := fun k hk hk2 => by
  obtain ⟨_, _, cs, hl⟩ := own_heap h k hk
  exact own_ne h' hl hne hk2
/-- one more place -/
theorem rm_first (h : RM W0 V4 es V5 F W) {x G C : Nat} (ho : OwnI W' W0.heap.size (.slice (some ⟨G, 0, none⟩) (F.length + 1) C) (zs F ++ [(x : Int)])) (hg : W.grownBy W' V5.ownBlock) (hat : V5.ownBlock = some G ∨ W.heap.size ≤ G) :
    RM W0 V4 es (.slice (some ⟨G, 0, none⟩) (F.length + 1) C) (F ++ [x]) W' := by
  have hb := But.grown hg
  have ez : zs (F ++ [x]) = zs F ++ [(x : Int)] := by simp [zs]
  refine ⟨grps_but h.grp hb (fun k hk e => ne_row h.grp.row h.own5 (by decide) k hk e.symm) (fun e he k hk e2 => h.sep e he k hk e2.symm), by rw [ez]; exact ho, fun e he k hk e2 => ?_, h.low.trans (hb.below h.low.size (fun k hk => (own_heap h.own5 k hk.symm).1))⟩
  have e3 : G = k := by simpa [Value.ownBlock] using e2
  subst e3
  rcases hat with h1 | h1
  · exact h.sep e he _ hk h1
  · have := (own_heap (h.grp.own e he) _ hk).2.1; omega
/-- one more list -/
theorem rm_put (h : RM W0 V4 es V5 F W) {e : Ent} (hO : OwnI W W0.heap.size e.rv (zs e.r)) (hf : ∀ k, e.rv.ownBlock = some k → V5.ownBlock ≠ some k ∧ ∀ e' ∈ es, e'.rv.ownBlock ≠ some k) {G C : Nat} (ho : W'.ownsRow W0.heap.size 33 1 (.slice (some ⟨G, 0, none⟩) (es.length + 1) C) (es.length + 1) (es.map Ent.rv ++ [e.rv])) (hg : W.grownBy W' V4.ownBlock) :
    RM W0 (.slice (some ⟨G, 0, none⟩) (es.length + 1) C) (es ++ [e]) V5 F W' := by
  have hb := But.grown hg
  refine ⟨⟨by rw [List.length_append, List.map_append]; exact ho, fun e' he => ?_, ?_⟩, own_but h.own5 hb (fun k hk e2 => ne_row h.grp.row h.own5 (by decide) k e2.symm hk), fun e' he k hk => ?_, h.low.trans (hb.below h.low.size (fun k hk => (own_heap h.grp.row k hk.symm).1))⟩
  · have : OwnI W W0.heap.size e'.rv (zs e'.r) := by
      rcases List.mem_append.1 he with he | he
      · exact h.grp.own e' he
      · obtain rfl := List.mem_singleton.1 he; exact hO
    exact own_but this hb (fun k hk e2 => ne_row h.grp.row this (by decide) k e2.symm hk)
  · refine List.pairwise_append.2 ⟨h.grp.sep, List.pairwise_singleton _ _, fun a ha b hb2 => ?_⟩
    obtain rfl := List.mem_singleton.1 hb2
    exact fun k hk hk2 => (hf k hk2).2 a ha hk
  · rcases List.mem_append.1 he with he | he
    · exact h.sep e' he k hk
    · obtain rfl := List.mem_singleton.1 he; exact (hf k hk).1
theorem rm_ls {n C : Nat} {A : Option Addr} (h : RM W0 (.slice A n C) es V5 F W) (hn : n = es.length) : LsAt W A (zg (es.map Ent.r)) := by
  subst hn
  exact grps_ls h.grp
end Go.Proofs.Ytfgpaffcfkbjlaa
