/-
What is proved here: drawn regions by facts that hang on the values too; what lies in memory while cut's split appends a list.
-/
import Derived.Test.YtpddamloajpiiaaGreatDoorSgtM
import Derived.Test.YtpddamloajpiiaaGreatDoorWkhM
import Derived.Test.YtpddamloajpiiaaGreatDoorTlsM
import Derived.Test.YtpddamloajpiiaaGreatDoorLeiM
set_option linter.unusedSimpArgs false
set_option linter.unusedVariables false
namespace Go.Word
section
variable {P : Program} {md : Region.Mode} {ops : Array Oper} {Q : Exit → Act → World → Prop} {own : Nat → Option Nat} {vals : Nat → Value} {a0 : Act}
theorem every_factV (rank : Nat → Nat) (F : Array Bool → Nat → Value → World → Prop) (Inv : Array Bool → (Nat → Value) → World → Prop)
    (hac : ∀ (i : Nat) (oi : Oper), ops[i]? = some oi → ∀ e ∈ oi.after, Region.binds md e = true → rank e.on < rank i)
    (hon : ∀ (i : Nat) (oi : Oper), ops[i]? = some oi → ∀ e ∈ oi.after, e.on < ops.size)
    (hdst : ∀ i oi, ops[i]? = some oi → (oi.dst = none ∧ ∀ t, own t ≠ some i) ∨ ∃ d, oi.dst = some d ∧ d < a0.tmps.size ∧ own d = some i ∧ ∀ t, own t = some i → t = d)
    (hop : ∀ i oi a w listed vals, ops[i]? = some oi → listed.size = ops.size → Shut md ops listed → listed.getD i false = false → (∀ e ∈ oi.after, Region.binds md e = true → listed.getD e.on false = true) → Tabd own vals a0 listed a → (∀ k, listed.getD k false = true → F listed k (vals k) w) → Inv listed vals w →
      (Region.wanted oi (yielded ops a.tmps) = true ∧ ∀ K : Act → World → Prop, (∀ v w', F (listed.setIfInBounds i true) i v w' → (∀ k u, k ≠ i → listed.getD k false = true → F listed k u w → F (listed.setIfInBounds i true) k u w') → Inv (listed.setIfInBounds i true) (upd vals i v) w' → K (a.put oi.dst v) w') → Oper.wp P oi a w K Q) ∨
      (Region.wanted oi (yielded ops a.tmps) = false ∧ F (listed.setIfInBounds i true) i undef w ∧ (∀ k u, k ≠ i → listed.getD k false = true → F listed k u w → F (listed.setIfInBounds i true) k u w) ∧ Inv (listed.setIfInBounds i true) (upd vals i undef) w))
    (hend : ∀ a w listed vals, (∀ i, i < ops.size → listed.getD i false = true) → Tabd own vals a0 listed a → (∀ k, k < ops.size → F listed k (vals k) w) → Inv listed vals w → Q .normal a w) :
    ∀ (fuel : Nat) (listed : Array Bool) (a : Act) (w : World) (vals : Nat → Value), listed.size = ops.size → Shut md ops listed → listed.toList.count false ≤ fuel → Tabd own vals a0 listed a → (∀ k, listed.getD k false = true → F listed k (vals k) w) → Inv listed vals w → wpAny P md ops Q fuel listed a w := by
  intro fuel
  induction fuel with
  | zero =>
    intro listed a w vals hs hcl hc ht hF hI
    have hr : Region.ready md ops listed = [] := List.eq_nil_iff_forall_not_mem.2 fun j hj => by
      obtain ⟨hun, oj, hoj, _⟩ := mem_ready.1 hj
      have hjlt : j < ops.size := (Array.getElem?_eq_some_iff.1 hoj).1
      have := count_pos (by omega) hun
      omega
    have ha := all_listed hac hs hon hr
    exact ⟨hr, hend a w listed vals ha ht (fun k hk => hF k (ha k hk)) hI⟩
  | succ fuel ih =>
    intro listed a w vals hs hcl hc ht hF hI
    refine ⟨fun hr => ?_, fun i hi => ?_⟩
    · have ha := all_listed hac hs hon hr
      exact hend a w listed vals ha ht (fun k hk => hF k (ha k hk)) hI
    obtain ⟨hun, oi, hoi, hdeps⟩ := mem_ready.1 hi
    have hilt : i < ops.size := (Array.getElem?_eq_some_iff.1 hoi).1
    have hun2 : listed.getD i false = false := by
      rw [Array.getD_eq_getD_getElem?, Array.getElem?_eq_getElem (by omega)] at hun ⊢
      simpa using hun
    have next : ∀ v w', F (listed.setIfInBounds i true) i v w' → (∀ k u, k ≠ i → listed.getD k false = true → F listed k u w → F (listed.setIfInBounds i true) k u w') → Inv (listed.setIfInBounds i true) (upd vals i v) w' → wpAny P md ops Q fuel (listed.setIfInBounds i true) (a.put oi.dst v) w' := fun v w' h1 h2 h3 => by
      have ht1 := tabd_upd v ht hun2
      have hv : upd vals i v i = v := upd_same vals i v
      have ht' : Tabd own (upd vals i v) a0 (listed.setIfInBounds i true) (a.put oi.dst v) := by
        rcases hdst i oi hoi with ⟨hd, hno⟩ | ⟨d, hd, hdl, hod, hinj⟩
        · have := tabd_skip ht1 hno
          rw [hv] at this
          rw [hd]; exact this
        · have := tabd_put ht1 (by omega) hdl hod hinj
          rw [hv] at this
          rw [hd]; exact this
      refine ih _ _ _ (upd vals i v) (by simp [hs]) (shut_set hcl hs hoi hdeps) (count_set (by omega) hun hc) ht' (fun k hk => ?_) h3
      by_cases e : k = i
      · subst e
        rw [hv]; exact h1
      · rw [upd_other e]
        rw [getD_set_ne false (Ne.symm e)] at hk
        exact h2 k _ e hk (hF k hk)
    unfold wpOp
    rw [hoi]
    rcases hop i oi a w listed vals hoi hs hcl hun2 hdeps ht hF hI with ⟨hw, hK⟩ | ⟨hw, hv, hk, hI2⟩
    · simp only [hw, if_true]
      exact .inl (hK _ next)
    · simp only [hw, Bool.false_eq_true, if_false]
      exact next undef w hv hk hI2
end
end Go.Word
namespace Go.Proofs.YtpddamloajpiiaaGreatDoor
open Go.Cmp Go.RowKit Go.Cut Go.Pth Go.Word Go.Shelf
/-- behind the call that puts a place among a list -/
structure Sq7 (X : World) (B : Nat) (RV : Value) (F : List Nat) (v7 : Value) (W : World) : Prop where
  win : Win W B v7 (zs F)
  blk : wblk v7 = wblk RV ∨ ∀ k, wblk v7 = some k → X.heap.size ≤ k
  but : But (fun k => some k = wblk RV) X W
theorem Sq7.grown {X : World} {B : Nat} {RV v7 : Value} {F : List Nat} {W W' : World} (h : Sq7 X B RV F v7 W) (hb : But (fun _ => False) W W') : Sq7 X B RV F v7 W' :=
  ⟨win_but h.win hb (fun _ _ => id), h.blk, h.but.step hb (fun _ _ e => e.elim)⟩
/-- behind the append -/
structure Sq16 (X : World) (B : Nat) (RV : Value) (F : List Nat) (v7 NV : Value) (vs : List Value) (nv : Value) (W : World) : Prop where
  row : W.ownsRow B 33 1 nv (vs.length + 1) (vs ++ [v7])
  win : Win W B v7 (zs F)
  blk : wblk v7 = wblk RV ∨ ∀ k, wblk v7 = some k → X.heap.size ≤ k
  but : But (fun k => some k = wblk RV ∨ some k = NV.ownBlock) X W
theorem Sq16.grown {X : World} {B : Nat} {RV v7 NV nv : Value} {vs : List Value} {F : List Nat} {W W' : World} (h : Sq16 X B RV F v7 NV vs nv W) (hb : But (fun _ => False) W W') : Sq16 X B RV F v7 NV vs nv W' :=
  ⟨own_but h.row hb (fun _ _ => id), win_but h.win hb (fun _ _ => id), h.blk, h.but.step hb (fun _ _ e => e.elim)⟩
/-- behind the store -/
structure Sq19 (X : World) (B WB : Nat) (cs : Array Value) (RV : Value) (F : List Nat) (v7 NV : Value) (vs : List Value) (nv : Value) (W : World) : Prop where
  box : Lies W WB 49 cs
  row : W.ownsRow B 33 1 nv (vs.length + 1) (vs ++ [v7])
  win : Win W B v7 (zs F)
  blk : wblk v7 = wblk RV ∨ ∀ k, wblk v7 = some k → X.heap.size ≤ k
  but : But (fun k => (some k = wblk RV ∨ some k = NV.ownBlock) ∨ k = WB) X W
theorem Sq19.grown {X : World} {B WB : Nat} {cs : Array Value} {RV v7 NV nv : Value} {vs : List Value} {F : List Nat} {W W' : World} (h : Sq19 X B WB cs RV F v7 NV vs nv W) (hb : But (fun _ => False) W W') : Sq19 X B WB cs RV F v7 NV vs nv W' :=
  ⟨hb.lies h.box id, own_but h.row hb (fun _ _ => id), win_but h.win hb (fun _ _ => id), h.blk, h.but.step hb (fun _ _ e => e.elim)⟩
theorem sq19_of {X : World} {B WB : Nat} {cs : Array Value} {RV v7 NV nv : Value} {vs : List Value} {F : List Nat} {W : World} (h : Sq16 X B RV F v7 NV vs nv W) (hL : Lies W WB 49 cs) (i : Nat) : Sq19 X B WB (cs.setIfInBounds i nv) RV F v7 NV vs nv (W.setCell ⟨WB, i, none⟩ nv) := by
  have hw : But (· = WB) W (W.setCell ⟨WB, i, none⟩ nv) := (But.refl (· = WB) W).setCell (p := ⟨WB, i, none⟩) (fun _ => rfl) _
  exact ⟨lies_set hL i nv, own_but h.row hw (fun k hk e => own_ne h.row hL (by decide) (e ▸ hk)), win_but h.win hw (fun k hk e => win_ne h.win hL (by decide) (e ▸ hk)), h.blk, (h.but.mono (fun _ _ e => .inl e)).trans (hw.mono (fun _ _ e => .inr e))⟩
end Go.Proofs.YtpddamloajpiiaaGreatDoor
