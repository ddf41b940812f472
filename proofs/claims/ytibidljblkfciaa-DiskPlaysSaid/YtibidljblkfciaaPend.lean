/-
What is proved here: Pending tells the blocks of the writes that are held back, in their order, by a contract.
-/
import Derived.Test.YtibidljblkfciaaIter
set_option linter.unusedSimpArgs false
namespace Go.Proofs.Ytibidljblkfciaa
open Go.Word Go.RowKit Go.Shelf

attribute [local go_sem] Oper.semAt_some

theorem int_info : (Try.prog.info? 3).map (fun i => (i.zero, i.size, i.bytes)) = some (some (.int .i64 0), 1, 8) := by kernel_rfl
def ats (pre : List (Nat × Ent)) : List Value := pre.map fun x => .int .i64 (x.2.at_ : Int)
theorem lies_own (B : Nat) (t : TypeId) (cs : Array Value) {X Y : World} {row : Option Nat} (h : Lies X B t cs) (hg : X.grownBy Y row) (hr : ∀ r, row = some r → ∃ o : Obj, X.heap[r]? = some o ∧ o.isCells = false) : Lies Y B t cs :=
  (hg.block B (lies_lt h) (fun e => by
    obtain ⟨o, ho, hc⟩ := hr B e.symm
    unfold Lies at h
    rw [h] at ho
    injection ho with ho
    subst ho
    cases hc)).trans h

theorem ats_upto (hs : List Ent) (d : Ent) : ats (upto (fun j => (j, hs.getD j d)) hs.length) = hs.map fun e => .int .i64 (e.at_ : Int) := by
  apply List.ext_getElem
  · simp [ats, upto]
  · intro i h1 h2
    have : i < hs.length := by simpa [ats, upto] using h1
    simp [ats, upto, List.getD_eq_getElem?_getD, this]
set_option maxRecDepth 100000 in
set_option maxHeartbeats 4000000 in
theorem pend_in (F : Fence) (n : Nat) (h27 : F.fn 27) (h33 : F.fn 33) (h43 : F.fn 43) (hro : F.round = none) (hn : 3 ≤ n) (g base : Nat) (hv : Value) (hs : List Ent) (d : Ent) (w : World) (hN : hs.length ≤ 70000) (hg : g < w.heap.size) (hc1 : w.cell? ⟨g, 1, none⟩ = some hv)
    (hO : w.ownsRow base 73 3 hv hs.length (hs.flatMap Ent.cells)) :
    CallsIn F n Try.prog 27 #[.pointer (some ⟨g, 0, none⟩)] w fun e W' => ∃ v, e = .returned v ∧ W'.ownsRow w.heap.size 3 1 v hs.length (hs.map fun e => .int .i64 (e.at_ : Int)) ∧ Below w.heap.size w W' := by
  have h1 : 1 ≤ n := by omega
  obtain ⟨i0, hi, hz0, hz1, hz2⟩ := info_parts int_info
  refine callsIn_of_wp_marks Try.func27 rfl h27 ?_ hro
  simp only [Try.ntmps27, List.size_toArray, List.length_cons, List.length_nil, Nat.reduceAdd, Nat.reduceSub, Array.replicate_succ, Array.replicate_zero, List.push_toArray, List.append_toArray, List.nil_append, List.cons_append]
  gi_wp2_with (gi_at_call 33; refine (writes_in F (n - 1) h33 hro _ _).mono ?_; rintro e w' ⟨rfl, rfl⟩)
  have bO := Boxed.new w 31 (.slice none 0 0)
  have bN := Boxed.new (w.alloc (.cells #[.slice none 0 0] 31)) 25 (.pointer (some ⟨g, 0, none⟩))
  rw [World.size_alloc] at bN
  have hB0 : Below w.heap.size w ((w.alloc (.cells #[.slice none 0 0] 31)).alloc (.cells #[.pointer (some ⟨g, 0, none⟩)] 25)) := ((Below.refl _ w).alloc (Nat.le_refl _) _).alloc (by simp) _
  have hob : ∀ k, hv.ownBlock = some k → k < w.heap.size := fun k hk => (World.ownsRow.lt hO k hk).2
  have hO' := World.ownsRow.alloc (World.ownsRow.alloc hO (.cells #[.slice none 0 0] 31)) (.cells #[.pointer (some ⟨g, 0, none⟩)] 25)
  refine wpIn_rangeFunc_ownH hro h1 (gf := 43) (lb := #[.pointer (some ⟨w.heap.size + 1, 0, none⟩)]) rfl h43 (enters_of Try.func43 (by kernel_rfl) rfl)
    (writes_stops F (n - 1) h43 hro (by omega) (w.heap.size + 1) w.heap.size g base hv hs d _ (by simp) (by simp; omega) hN hg hob bN.cell (by rw [hB0.cell (p := ⟨g, 1, none⟩) hg]; exact hc1) hO') belowK_t (belowK_b (by simp; omega)) (Below.refl _ _) (fun _ => rfl)
    (fun pre W => (∃ v, Boxed W w.heap.size 31 v ∧ W.ownsRow w.heap.size 3 1 v pre.length (ats pre) ∧ True) ∧ Below w.heap.size w W)
    (fun _ _ _ => False)
    (OwnFrom.and (Own.from (holdsRow_own w.heap.size w.heap.size 31 3 1 (fun pre => pre.length) (fun pre => ats pre) (fun _ _ => True)) _) (ownFrom_below (Nat.le_refl _) (by simp; omega)))
    (fun _ _ _ _ _ hs _ _ => hs)
    ⟨⟨_, bO.alloc _, World.ownsRow_nil _ _ _ _, trivial⟩, hB0⟩
    (fun x a' W => ∃ Bx, Lies W Bx 73 (Ent.arr x.2) ∧ a' = { tmps := #[.pointer (some ⟨g, 0, none⟩), undef, .slice none 0 0, .pointer (some ⟨w.heap.size, 0, none⟩), undef, .pointer (some ⟨Bx, 0, none⟩), .pointer (some ⟨g, 0, none⟩), .func (.func 43) #[] #[.pointer (some ⟨w.heap.size + 1, 0, none⟩)], .int .i64 (x.1 : Int), .agg (Ent.arr x.2), undef, undef, undef, undef, undef, undef, undef], defers := [] })
    (fun x a' _ X Y row hs hg hr => by obtain ⟨Bx, h1, h2⟩ := hs; exact ⟨Bx, lies_own Bx 73 _ h1 hg (fun r e => (hr r e).2), h2⟩)
    ?assign ?body ?done ?stop
  case assign =>
    rintro l pre x W K ⟨⟨v, hv1, hrow, _⟩, hB⟩ hK
    dsimp only [encW, Ent.arr]
    gi_wp2
    exact hK _ _ ((KeepsOthers.alloc _ _).from _) ((Below.refl _ W).alloc hB.size _) ⟨⟨v, hv1.alloc _, World.ownsRow.alloc hrow _, trivial⟩, hB.alloc hB.size _⟩ ⟨W.heap.size, lies_new W 73 _, rfl⟩
  case body =>
    rintro l pre x a' W hl ⟨r, hr⟩ ⟨⟨v, hv1, hrow, _⟩, hB⟩ ⟨Bx, hx, rfl⟩ hlt
    have hc := hv1.cell
    have cx : W.cell? ⟨Bx, 0, none⟩ = some (.int .i64 (x.2.at_ : Int)) := lies_cell hx 0
    gi_wp2_with (gi_at_builtin; refine wpListIn_append_own _ rfl _ _ 31 rfl w.heap.size 3 i0 (.int .i64 0) 1 8 Try.underlying31 hi hz0 hz1 hz2 rfl (by decide) _ _ _ rfl (hrow.alloc _) ⟨W.heap.size, 0, none⟩ 1 1 [.int .i64 (x.2.at_ : Int)] rfl rfl (cell_one_new _ _ _) (by simp [Value.oneCell']) (by unfold maxLen; omega) (by omega) (by have := hB.size; simp; omega) ?_; intro v' w1 hown' hgrow _; obtain ⟨g', cap', rfl⟩ := ownsRow_succ hown'; obtain ⟨hv1', hv2, hr2, hk2, hb2⟩ := hv1.appended (by decide) hrow hB.size (Nat.le_refl _) hown' hgrow; have hc1' := hv1'.cell; have hf1 := hv1'.frozen)
    exact ⟨hk2.from _, hb2, ⟨_, hv2, by simpa [ats] using hr2, trivial⟩, hB.trans hb2⟩
  case done =>
    rintro D ys W hD rfl ⟨⟨v, hv1, hrow, _⟩, hB⟩ hK
    have hc := hv1.cell
    gi_wp2
    refine ⟨by simp, .inl ⟨_, _, rfl, run_takeDeferred hK, ?_⟩⟩
    exact ⟨_, results_tmp rfl _ _ _, v, rfl, ownsRow_putObj (by rw [upto_length, ats_upto] at hrow; exact hrow) _ hK rfl, hB.trans (belowK_b (w := w) (Nat.le_refl _) W D _ _ (by simp at hD; omega) hK rfl rfl)⟩
  case stop =>
    rintro D c pre W _ _ h _
    exact h.elim
/-- Pending: how many there are -/
theorem pend_any (g base : Nat) (hv : Value) (hs : List Ent) (w : World) (hN : hs.length ≤ 70000) (hg : g < w.heap.size) (hc1 : w.cell? ⟨g, 1, none⟩ = some hv) (hO : w.ownsRow base 73 3 hv hs.length (hs.flatMap Ent.cells)) :
    Calls Try.prog 27 #[.pointer (some ⟨g, 0, none⟩)] w fun e w' => ∃ A C, e = .returned (.slice A hs.length C) ∧ w'.ownsRow w.heap.size 3 1 (.slice A hs.length C) hs.length (hs.map fun e => .int .i64 (e.at_ : Int)) ∧ Below w.heap.size w w' := by
  refine (callsIn_wide (n := 3)).1 ((pend_in .wide 3 trivial trivial trivial rfl (by omega) g base hv hs ⟨0, 0, 0, fun _ => 0, fun _ => 0⟩ w hN hg hc1 hO).mono ?_)
  rintro e w' ⟨v, rfl, hr, hb⟩
  rcases hr.2 with ⟨e1, e2⟩ | ⟨gg, cap, cur, e1, _⟩
  · have e3 : v = .slice none hs.length 0 := by rw [e1, e2]
    exact ⟨none, 0, by rw [e3], by rw [← e3]; exact hr, hb⟩
  · exact ⟨_, _, by rw [e1], by rw [← e1]; exact hr, hb⟩
end Go.Proofs.Ytibidljblkfciaa
