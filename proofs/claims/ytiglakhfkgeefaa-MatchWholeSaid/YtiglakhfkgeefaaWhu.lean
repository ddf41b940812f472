/-
What is proved here: what Match finds, without the document's own answer, and how it hangs together with what Fresh finds (on lists alone). the third pass of Match, and what is fresh, side by side (on lists alone).
-/
import Derived.Test.YtiglakhfkgeefaaFrs
import Derived.Test.YtiglakhfkgeefaaPm
set_option linter.unusedSimpArgs false
set_option linter.unusedVariables false
namespace Go.Mat
open Go.Pth Go.Tre
/-- what holds at each stand -/
structure MInv (sds tds : List Bt) (st : Mst) : Prop where
  len : st.1.length = tds.length
  free : ∀ d, ∀ g ∈ st.2.F d, ∃ k : Nat, g = (k : Int) ∧ k < sds.length ∧ sds.getD k [] = d
  kept : ∀ i, i < tds.length → ∀ g r, st.1.getD i z3 = ((1, g, r) : Sr) → r = 0 ∧ ∃ k : Nat, g = (k : Int) ∧ k < sds.length ∧ sds.getD k [] = tds.getD i [] ∧ g ∉ st.2.F (tds.getD i [])
  once : ∀ i j, i < tds.length → j < tds.length → ∀ g, st.1.getD i z3 = ((1, g, 0) : Sr) → st.1.getD j z3 = ((1, g, 0) : Sr) → i = j
  first : ∀ d a, st.2.f1 d = some a → ∃ k : Nat, a = (k : Int) ∧ k < tds.length ∧ tds.getD k [] = d ∧ ((st.1.getD k z3).1 = 1 ∨ (st.1.getD k z3).1 = 3)
  every : ∀ k, k < sds.length → (k : Int) ∈ st.2.F (sds.getD k []) ∨ ∃ i, i < tds.length ∧ st.1.getD i z3 = ((1, (k : Int), 0) : Sr)
  firsts : ∀ i, i < tds.length → (st.1.getD i z3).1 = 1 → st.2.f1 (tds.getD i []) ≠ none
  kind : ∀ i, i < tds.length → st.1.getD i z3 = z3 ∨ ∃ g, st.1.getD i z3 = ((1, g, 0) : Sr)
theorem getD_set_sr (l : List Sr) (i j : Nat) (x : Sr) (h : i < l.length) : (l.set i x).getD j z3 = if i = j then x else l.getD j z3 := by
  simp only [List.getD_eq_getElem?_getD, List.getElem?_set]
  by_cases e : i = j
  · subst e; simp [h]
  · simp [e]
theorem firstS_same (f1 : Bt → Option Int) (d : Bt) (i : Int) : ∃ a, firstS f1 d i d = some a ∧ (a = i ∨ f1 d = some a) := by
  unfold firstS
  cases h : f1 d with
  | none => exact ⟨i, updF_same _ _ _, .inl rfl⟩
  | some a =>
    by_cases hl : i < a
    · simp only [hl, if_true]
      exact ⟨i, updF_same _ _ _, .inl rfl⟩
    · simp only [hl, if_false]
      exact ⟨a, h, .inr rfl⟩
theorem firstS_other (f1 : Bt → Option Int) (d x : Bt) (i : Int) (h : x ≠ d) : firstS f1 d i x = f1 x := by
  unfold firstS
  cases f1 d with
  | none => exact updF_other h
  | some a =>
    by_cases hl : i < a
    · simp only [hl, if_true]
      exact updF_other h
    · simp only [hl, if_false]
/-- a file is kept as one that is free -/
theorem inv_keep {sds tds : List Bt} {st : Mst} (h : MInv sds tds st) (i : Nat) (hi : i < tds.length) (hz : st.1.getD i z3 = z3) (fr : Int) (hf : fr ∈ st.2.F (tds.getD i [])) : MInv sds tds (st.1.set i (1, fr, 0), keepS st.2 (i : Int) (tds.getD i []) fr) := by
  have hil : i < st.1.length := by rw [h.len]; exact hi
  have e := fun j => getD_set_sr st.1 i j (1, fr, 0) hil
  obtain ⟨k, hk, hk1, hk2⟩ := h.free _ fr hf
  have hF : ∀ d g, g ∈ (keepS st.2 (i : Int) (tds.getD i []) fr).F d ↔ g ∈ st.2.F d ∧ ¬ (d = tds.getD i [] ∧ g = fr) := fun d g => by
    show g ∈ updF st.2.F (tds.getD i []) (strikeN (st.2.F (tds.getD i [])) fr) d ↔ _
    by_cases e1 : d = tds.getD i []
    · subst e1
      rw [updF_same]
      unfold strikeN
      simp [List.mem_filter]
    · rw [updF_other e1]
      simp only [e1, false_and, not_false_eq_true, and_true]
  have notk : ∀ j, j < tds.length → st.1.getD j z3 ≠ ((1, fr, 0) : Sr) := fun j hj e1 => by
    obtain ⟨_, k', hk', _, hd, hno⟩ := h.kept j hj fr 0 e1
    have : tds.getD j [] = tds.getD i [] := by
      rw [← hd, ← hk2]
      congr 1
      omega
    rw [this] at hno
    exact hno hf
  refine ⟨by rw [List.length_set]; exact h.len, fun d g hg => h.free d g ((hF d g).1 hg).1, fun j hj g r => ?_, fun a b ha hb g => ?_, fun d a => ?_, fun q hq => ?_, fun j hj => ?_, fun j hj => ?_⟩
  · intro e1
    simp only [e] at e1
    by_cases ej : i = j
    · subst ej
      simp only [if_true] at e1
      injection e1 with _ e1
      injection e1 with e1 e2
      subst e1 e2
      exact ⟨rfl, k, hk, hk1, hk2, fun hm => ((hF _ _).1 hm).2 ⟨rfl, rfl⟩⟩
    · rw [if_neg ej] at e1
      obtain ⟨r0, k', hk', h1, h2, h3⟩ := h.kept j hj g r e1
      exact ⟨r0, k', hk', h1, h2, fun hm => h3 ((hF _ _).1 hm).1⟩
  · intro e1 e2
    simp only [e] at e1 e2
    by_cases ea : i = a
    · by_cases eb : i = b
      · omega
      · rw [if_pos ea] at e1
        rw [if_neg eb] at e2
        injection e1 with _ e1
        injection e1 with e1 _
        subst e1
        exact absurd e2 (notk b hb)
    · by_cases eb : i = b
      · rw [if_neg ea] at e1
        rw [if_pos eb] at e2
        injection e2 with _ e2
        injection e2 with e2 _
        subst e2
        exact absurd e1 (notk a ha)
      · rw [if_neg ea] at e1
        rw [if_neg eb] at e2
        exact h.once a b ha hb g e1 e2
  · intro hd
    have hd : firstS st.2.f1 (tds.getD i []) (i : Int) d = some a := hd
    by_cases e1 : d = tds.getD i []
    · subst e1
      obtain ⟨a', h1, h2⟩ := firstS_same st.2.f1 (tds.getD i []) (i : Int)
      rw [h1] at hd
      injection hd with hd
      subst hd
      rcases h2 with rfl | h2
      · exact ⟨i, rfl, hi, rfl, .inl (by simp only [e, if_true])⟩
      · obtain ⟨k', q1, q2, q3, q4⟩ := h.first _ _ h2
        refine ⟨k', q1, q2, q3, ?_⟩
        simp only [e]
        by_cases ek : i = k'
        · rw [if_pos ek]; exact .inl rfl
        · rw [if_neg ek]; exact q4
    · rw [firstS_other _ _ _ _ e1] at hd
      obtain ⟨k', q1, q2, q3, q4⟩ := h.first _ _ hd
      refine ⟨k', q1, q2, q3, ?_⟩
      simp only [e]
      by_cases ek : i = k'
      · rw [if_pos ek]; exact .inl rfl
      · rw [if_neg ek]; exact q4
  · rcases h.every q hq with h1 | ⟨j, h1, h2⟩
    · by_cases e1 : sds.getD q [] = tds.getD i [] ∧ (q : Int) = fr
      · exact .inr ⟨i, hi, by simp only [e, if_true]; rw [← e1.2]⟩
      · exact .inl ((hF _ _).2 ⟨h1, e1⟩)
    · refine .inr ⟨j, h1, ?_⟩
      simp only [e]
      have : i ≠ j := fun e2 => by
        subst e2
        rw [hz] at h2
        have := congrArg (fun y : Sr => y.1) h2
        simp [z3] at this
      rw [if_neg this]
      exact h2
  · intro e1
    show firstS st.2.f1 (tds.getD i []) (i : Int) (tds.getD j []) ≠ none
    by_cases e2 : tds.getD j [] = tds.getD i []
    · rw [e2]
      obtain ⟨a', h1, _⟩ := firstS_same st.2.f1 (tds.getD i []) (i : Int)
      rw [h1]
      simp
    · rw [firstS_other _ _ _ _ e2]
      simp only [e] at e1
      have : i ≠ j := fun e3 => e2 (by rw [e3])
      rw [if_neg this] at e1
      exact h.firsts j hj e1
  · simp only [e]
    by_cases e2 : i = j
    · rw [if_pos e2]; exact .inr ⟨fr, rfl⟩
    · rw [if_neg e2]; exact h.kind j hj
/-- a step of the first two passes -/
theorem inv_pick {sds tds : List Bt} {named : Bt → Option Int} {nm : Nat → List Bt} {stock : Bt → Option Int} {st : Mst} (h : MInv sds tds st) (i : Nat) (d : Bt) (hi : i < tds.length) (hd : tds.getD i [] = d) (hz : st.1.getD i z3 = z3) (j : Nat) (hj : j < 2) : MInv sds tds (st.1.set i (skP named nm stock j st.2 i d).1, (skP named nm stock j st.2 i d).2) := by
  subst hd
  have same : MInv sds tds (st.1.set i (0, 0, 0), st.2) := by
    have e : st.1.set i ((0, 0, 0) : Sr) = st.1 := by
      apply List.ext_getElem (by simp)
      intro q h1 h2
      rw [List.getElem_set]
      split
      · rename_i e1
        subst e1
        have := hz
        rw [List.getD_eq_getElem?_getD, List.getElem?_eq_getElem h2, Option.getD_some] at this
        rw [this]
      · rfl
    rw [e]
    exact h
  match j, hj with
  | 0, _ =>
    show MInv sds tds (st.1.set i (seek1S (nm i) named st.2 (i : Int) (tds.getD i [])).1, (seek1S (nm i) named st.2 (i : Int) (tds.getD i [])).2)
    unfold seek1S
    cases hp : pickF named (st.2.F (tds.getD i [])) (nm i) with
    | none => exact same
    | some fr => exact inv_keep h i hi hz fr (pickF_mem hp)
  | 1, _ =>
    show MInv sds tds (st.1.set i (seek2S st.2 (i : Int) (tds.getD i [])).1, (seek2S st.2 (i : Int) (tds.getD i [])).2)
    unfold seek2S
    cases hp : st.2.F (tds.getD i []) with
    | nil => exact same
    | cons fr r => exact inv_keep h i hi hz fr (by rw [hp]; exact List.mem_cons_self)
theorem inv_pass {sds tds : List Bt} {named : Bt → Option Int} {nm : Nat → List Bt} {stock : Bt → Option Int} (j : Nat) (hj : j < 2) : ∀ (xs : List TxK) (st : Mst), (∀ x ∈ xs, x.1.1 < tds.length ∧ tds.getD x.1.1 [] = x.1.2) → MInv sds tds st → MInv sds tds (passM (skP named nm stock j) xs st)
  | [], _, _, h => h
  | x :: r, st, hx, h => by
    show MInv sds tds (passM (skP named nm stock j) r (stepM (skP named nm stock j) st x))
    refine inv_pass j hj r _ (fun y hy => hx y (List.mem_cons_of_mem _ hy)) ?_
    unfold stepM
    split
    · rename_i hz
      obtain ⟨h1, h2⟩ := hx x (List.mem_cons_self)
      exact inv_pick h x.1.1 x.1.2 h1 h2 hz j hj
    · exact h
theorem txL_at (ds : List Bt) (hn : ds.length ≤ 1000) (hd : ∀ x ∈ ds, x.length ≤ 100000) : ∀ x ∈ txL ds, x.1.1 < ds.length ∧ ds.getD x.1.1 [] = x.1.2 := fun x hx => by
  unfold txL txTo at hx
  obtain ⟨j, hj, rfl⟩ := List.mem_map.1 hx
  have hj := List.mem_range.1 hj
  have e : ds.getD j [] = ds[j] := by rw [List.getD_eq_getElem?_getD, List.getElem?_eq_getElem hj, Option.getD_some]
  have := txK_val j (ds.getD j []) (by omega) (by rw [e]; exact hd _ (List.getElem_mem hj))
  rw [this]
  exact ⟨hj, rfl⟩
theorem shelf_free (ds : List Bt) (hd : ∀ x ∈ ds, x.length ≤ 100000) (hn : ds.length ≤ 1000) : ∀ (i : Nat), i ≤ ds.length → ∀ d, ∀ g ∈ shelfP (txTo ds i) d, ∃ k : Nat, g = (k : Int) ∧ k < ds.length ∧ ds.getD k [] = d
  | 0, _, d, g, hg => by cases hg
  | i + 1, hi, d, g, hg => by
    have hil : i < ds.length := hi
    rw [txTo_succ ds i hil, shelfP_snoc] at hg
    unfold shelfStep at hg
    rw [txK_val i ds[i] (by omega) (hd _ (List.getElem_mem _))] at hg
    by_cases e : d = ds[i]
    · subst e
      rw [updF_same] at hg
      rcases List.mem_append.1 hg with hg | hg
      · exact shelf_free ds hd hn i (by omega) _ g hg
      · exact ⟨i, List.mem_singleton.1 hg, hil, by rw [List.getD_eq_getElem?_getD, List.getElem?_eq_getElem hil, Option.getD_some]⟩
    · rw [updF_other e] at hg
      exact shelf_free ds hd hn i (by omega) d g hg
theorem inv_start (sds tds : List Bt) (hd : ∀ x ∈ sds, x.length ≤ 100000) (hn : sds.length ≤ 1000) : MInv sds tds (List.replicate tds.length z3, ⟨shelfP (txL sds), fun _ => none⟩) := by
  have hz : ∀ i, (List.replicate tds.length z3).getD i z3 = z3 := fun i => by
    simp only [List.getD_eq_getElem?_getD, List.getElem?_replicate]
    split <;> rfl
  have no : ∀ i g r, (List.replicate tds.length z3).getD i z3 ≠ ((1, g, r) : Sr) := fun i g r e => by
    rw [hz i] at e
    have := congrArg (fun y : Sr => y.1) e
    simp [z3] at this
  refine ⟨by simp, fun d g hg => shelf_free sds hd hn _ (Nat.le_refl _) d g hg, fun i _ g r e => absurd e (no i g r), fun i j _ _ g e => absurd e (no i g 0), fun d a e => (by cases e), fun k hk => .inl ?_, fun i _ e => ?_, fun i _ => .inl (hz i)⟩
  · have := shelf_has sds hd hn sds.length (Nat.le_refl _) k hk hk
    rw [List.getD_eq_getElem?_getD, List.getElem?_eq_getElem hk, Option.getD_some]
    exact this
  · have e : ((List.replicate tds.length z3).getD i z3).1 = 1 := e
    rw [hz i] at e
    simp [z3] at e
/-- the second pass leaves nothing free for what it does not find -/
theorem step_empty {named : Bt → Option Int} {nm : Nat → List Bt} {stock : Bt → Option Int} (st : Mst) (x : TxK) (d : Bt) (h : st.2.F d = []) : (stepM (skP named nm stock 1) st x).2.F d = [] := by
  unfold stepM
  split
  · show (seek2S st.2 (x.1.1 : Int) x.1.2).2.F d = []
    unfold seek2S
    cases hp : st.2.F x.1.2 with
    | nil => exact h
    | cons fr r =>
      show updF st.2.F x.1.2 (strikeN (st.2.F x.1.2) fr) d = []
      by_cases e : d = x.1.2
      · subst e
        rw [h] at hp
        cases hp
      · rw [updF_other e]; exact h
  · exact h
theorem pass_empty {named : Bt → Option Int} {nm : Nat → List Bt} {stock : Bt → Option Int} (d : Bt) : ∀ (xs : List TxK) (st : Mst), st.2.F d = [] → (passM (skP named nm stock 1) xs st).2.F d = []
  | [], _, h => h
  | x :: r, st, h => pass_empty d r _ (step_empty st x d h)
theorem pass_left {named : Bt → Option Int} {nm : Nat → List Bt} {stock : Bt → Option Int} : ∀ (xs : List TxK) (st : Mst), (∀ x ∈ xs, x.1.1 < st.1.length) → ∀ x ∈ xs, (passM (skP named nm stock 1) xs st).1.getD x.1.1 z3 = z3 → (passM (skP named nm stock 1) xs st).2.F x.1.2 = []
  | [], _, _, x, hx, _ => by cases hx
  | y :: r, st, hl, x, hx, hz => by
    have hz' : (passM (skP named nm stock 1) r (stepM (skP named nm stock 1) st y)).1.getD x.1.1 z3 = z3 := hz
    show (passM (skP named nm stock 1) r (stepM (skP named nm stock 1) st y)).2.F x.1.2 = []
    have hl2 : ∀ z ∈ r, z.1.1 < (stepM (skP named nm stock 1) st y).1.length := fun z hzr => by
      have := hl z (List.mem_cons_of_mem _ hzr)
      unfold stepM
      split <;> simpa using this
    rcases List.mem_cons.1 hx with rfl | hx
    · have h0 : (stepM (skP named nm stock 1) st x).1.getD x.1.1 z3 = z3 := Decidable.byContradiction fun hne => by
        rw [pass_stays _ _ r _ hne] at hz'
        exact hne hz'
      refine pass_empty x.1.2 r _ ?_
      have hlx := hl x (List.mem_cons_self)
      unfold stepM at h0 ⊢
      split
      · rename_i hzz
        rw [if_pos hzz] at h0
        show (seek2S st.2 (x.1.1 : Int) x.1.2).2.F x.1.2 = []
        have h0 : (st.1.set x.1.1 (seek2S st.2 (x.1.1 : Int) x.1.2).1).getD x.1.1 z3 = z3 := h0
        rw [getD_set_sr _ _ _ _ hlx, if_pos rfl] at h0
        unfold seek2S at h0 ⊢
        cases hp : st.2.F x.1.2 with
        | nil => exact hp
        | cons fr q =>
          rw [hp] at h0
          have := congrArg (fun y : Sr => y.1) h0
          simp [z3] at this
      · rename_i hzz
        rw [if_neg hzz] at h0
        exact absurd h0 hzz
    · exact pass_left r _ hl2 x hx hz'
/-- behind the second pass -/
structure MInv1 (sds tds : List Bt) (st : Mst) : Prop extends MInv sds tds st where
  none : ∀ i, i < tds.length → st.1.getD i z3 = z3 → ∀ k, k < sds.length → sds.getD k [] = tds.getD i [] → st.2.f1 (tds.getD i []) ≠ none
theorem inv_two {named : Bt → Option Int} {nm : Nat → List Bt} {stock : Bt → Option Int} (sds tds : List Bt) (hd : ∀ x ∈ sds, x.length ≤ 100000) (hn : sds.length ≤ 1000) (hd2 : ∀ x ∈ tds, x.length ≤ 100000) (hn2 : tds.length ≤ 1000) :
    MInv1 sds tds (passM (skP named nm stock 1) (txL tds) (passM (skP named nm stock 0) (txL tds) (List.replicate tds.length z3, ⟨shelfP (txL sds), fun _ => Option.none⟩))) := by
  have ha := txL_at tds hn2 hd2
  have h0 := inv_pass (named := named) (nm := nm) (stock := stock) 0 (by omega) (txL tds) _ ha (inv_start sds tds hd hn)
  have h1 := inv_pass (named := named) (nm := nm) (stock := stock) 1 (by omega) (txL tds) _ ha h0
  refine ⟨h1, fun i hi hz k hk hkd => ?_⟩
  have hin : txK i tds[i] ∈ txL tds := by
    unfold txL txTo
    exact List.mem_map.2 ⟨i, List.mem_range.2 hi, by rw [List.getD_eq_getElem?_getD, List.getElem?_eq_getElem hi, Option.getD_some]⟩
  have hv := txK_val i tds[i] (by omega) (hd2 _ (List.getElem_mem hi))
  have hF := pass_left (named := named) (nm := nm) (stock := stock) (txL tds) _ (fun x hx => by rw [h0.len]; exact (ha x hx).1) (txK i tds[i]) hin (by rw [hv]; exact hz)
  rw [hv] at hF
  have e : tds.getD i [] = tds[i] := by rw [List.getD_eq_getElem?_getD, List.getElem?_eq_getElem hi, Option.getD_some]
  rcases h1.every k hk with h2 | ⟨j, hj, h2⟩
  · rw [hkd, e] at h2
    have hF2 : (passM (skP named nm stock 1) (txL tds) (passM (skP named nm stock 0) (txL tds) (List.replicate tds.length z3, ⟨shelfP (txL sds), fun _ => Option.none⟩))).2.F tds[i] = [] := hF
    rw [hF2] at h2
    cases h2
  · obtain ⟨_, k', hk', _, hd', _⟩ := h1.kept j hj _ _ h2
    have e2 : tds.getD j [] = tds.getD i [] := by
      rw [← hd', ← hkd]
      congr 1
      omega
    rw [← e2]
    exact h1.firsts j hj (by rw [h2])
end Go.Mat
set_option linter.unusedSimpArgs false
set_option linter.unusedVariables false
namespace Go.Mat
open Go.Pth Go.Tre
def cnt3 (l : List Sr) : Nat := l.countP (fun y => y.1 == 3)
theorem cnt3_set (l : List Sr) (i : Nat) (x : Sr) (h : i < l.length) (h0 : l.getD i z3 = z3) : cnt3 (l.set i x) = cnt3 l + (if x.1 == 3 then 1 else 0) := by
  unfold cnt3
  rw [List.countP_set h]
  have e : l[i] = z3 := by
    rw [List.getD_eq_getElem?_getD, List.getElem?_eq_getElem h, Option.getD_some] at h0
    exact h0
  rw [e]
  simp [z3]
theorem setP_mem : ∀ (pre : List TxK) (d : Bt), setP pre d = true ↔ ∃ x ∈ pre, x.1.2 = d := by
  have key : ∀ (pre : List TxK) (S : Bt → Bool) (d : Bt), pre.foldl (fun S k => fun x => x == k.1.2 || S x) S d = true ↔ S d = true ∨ ∃ x ∈ pre, x.1.2 = d := by
    intro pre
    induction pre with
    | nil => intro S d; simp
    | cons k r ih =>
      intro S d
      rw [List.foldl_cons, ih]
      constructor
      · rintro (h | ⟨x, hx, e⟩)
        · simp only [Bool.or_eq_true, beq_iff_eq] at h
          rcases h with h | h
          · exact .inr ⟨k, List.mem_cons_self, h.symm⟩
          · exact .inl h
        · exact .inr ⟨x, List.mem_cons_of_mem _ hx, e⟩
      · rintro (h | ⟨x, hx, e⟩)
        · left; simp [h]
        · rcases List.mem_cons.1 hx with rfl | hx
          · left; simp [e]
          · exact .inr ⟨x, hx, e⟩
  intro pre d
  have := key pre (fun _ => false) d
  simpa [setP] using this
theorem setP_txL (ds : List Bt) (hd : ∀ x ∈ ds, x.length ≤ 100000) (hn : ds.length ≤ 1000) (d : Bt) : setP (txL ds) d = true ↔ d ∈ ds := by
  rw [setP_mem]
  constructor
  · rintro ⟨x, hx, rfl⟩
    obtain ⟨h1, h2⟩ := txL_at ds hn hd x hx
    rw [← h2, List.getD_eq_getElem?_getD, List.getElem?_eq_getElem h1, Option.getD_some]
    exact List.getElem_mem h1
  · intro h
    obtain ⟨j, hj, rfl⟩ := List.getElem_of_mem h
    refine ⟨txK j ds[j], ?_, by rw [txK_val j ds[j] (by omega) (hd _ (List.getElem_mem hj))]⟩
    unfold txL txTo
    exact List.mem_map.2 ⟨j, List.mem_range.2 hj, by rw [List.getD_eq_getElem?_getD, List.getElem?_eq_getElem hj, Option.getD_some]⟩
theorem mem_getD {ds : List Bt} {d : Bt} : d ∈ ds ↔ ∃ k, k < ds.length ∧ ds.getD k [] = d := by
  constructor
  · intro h
    obtain ⟨j, hj, rfl⟩ := List.getElem_of_mem h
    exact ⟨j, hj, by rw [List.getD_eq_getElem?_getD, List.getElem?_eq_getElem hj, Option.getD_some]⟩
  · rintro ⟨k, hk, rfl⟩
    rw [List.getD_eq_getElem?_getD, List.getElem?_eq_getElem hk, Option.getD_some]
    exact List.getElem_mem hk
def Kd (x : Sr) : Prop := x.1 = 1 ∨ x.1 = 3
/-- what holds in the third pass, behind the first i files -/
structure PInv (sds tds ls : List Bt) (st1 : Mst) (i : Nat) (st : Mst) : Prop where
  len : st.1.length = tds.length
  hi : ∀ j, i ≤ j → st.1.getD j z3 = st1.1.getD j z3
  old : ∀ j, st1.1.getD j z3 ≠ z3 → st.1.getD j z3 = st1.1.getD j z3
  first : ∀ d a, st.2.f1 d = some a → ∃ k : Nat, a = (k : Int) ∧ k < tds.length ∧ tds.getD k [] = d ∧ Kd (st.1.getD k z3)
  seen : ∀ j, j < i → st1.1.getD j z3 = z3 → (st.1.getD j z3 = z3 ∧ stockF ls (tds.getD j []) = none ∧ tds.getD j [] ∉ sds) ∨ (∃ a : Nat, st.1.getD j z3 = ((2, (a : Int), 0) : Sr) ∧ a < tds.length ∧ a ≠ j ∧ tds.getD a [] = tds.getD j [] ∧ Kd (st.1.getD a z3)) ∨ (∃ r, st.1.getD j z3 = ((3, 0, r) : Sr) ∧ stockF ls (tds.getD j []) = some r ∧ tds.getD j [] ∉ sds)
  grow : ∀ d, st1.2.f1 d ≠ none → st.2.f1 d ≠ none
  cnt : (∀ j, j < i → st.1.getD j z3 ≠ z3) → cnt3 st.1 = (frP (setP (txL sds)) (txTo tds i)).2.length ∧ ∀ d, d ∉ sds → ((frP (setP (txL sds)) (txTo tds i)).1 d = true ↔ st.2.f1 d ≠ none)
theorem fr_base (K0 : Bt → Bool) : ∀ (pre : List TxK) (d : Bt), K0 d = true → (frP K0 pre).1 d = true := by
  have key : ∀ (pre : List TxK) (st : Fst) (d : Bt), st.1 d = true → (pre.foldl frStep st).1 d = true := by
    intro pre
    induction pre with
    | nil => intro st d h; exact h
    | cons k r ih =>
      intro st d h
      rw [List.foldl_cons]
      refine ih _ _ ?_
      unfold frStep
      split
      · exact h
      · simp [h]
  intro pre d h
  exact key pre _ d h
theorem p_start {sds tds ls : List Bt} {st1 : Mst} (h : MInv1 sds tds st1) (hz : cnt3 st1.1 = 0) (hs : ∀ d, setP (txL sds) d = true ↔ d ∈ sds) : PInv sds tds ls st1 0 st1 := by
  refine ⟨h.len, fun _ _ => rfl, fun _ _ => rfl, h.first, fun j hj => by omega, fun _ h => h, fun _ => ⟨?_, fun d hd => ?_⟩⟩
  · rw [hz]; rfl
  · constructor
    · intro e
      exact absurd ((hs d).1 e) hd
    · intro e
      cases hf : st1.2.f1 d with
      | none => exact absurd hf e
      | some a =>
        obtain ⟨k, rfl, hk, hkd, hkk⟩ := h.first d a hf
        rcases h.kind k hk with h1 | ⟨g, h1⟩
        · rw [h1] at hkk
          rcases hkk with h2 | h2 <;> simp [z3] at h2
        · obtain ⟨_, q, hq, hql, hqd, _⟩ := h.kept k hk g 0 h1
          exact absurd (mem_getD.2 ⟨q, hql, by rw [hqd, hkd]⟩) hd
theorem kd_keep {l : List Sr} {i k : Nat} {x : Sr} (h : i < l.length) (h0 : l.getD i z3 = z3) (hk : Kd (l.getD k z3)) : Kd ((l.set i x).getD k z3) ∧ k ≠ i := by
  have : k ≠ i := fun e => by
    subst e
    rw [h0] at hk
    rcases hk with h2 | h2 <;> simp [z3] at h2
  rw [getD_set_sr _ _ _ _ h, if_neg (Ne.symm this)]
  exact ⟨hk, this⟩
theorem p_step {named : Bt → Option Int} {nm : Nat → List Bt} {sds tds ls : List Bt} {st1 st : Mst} {i : Nat} (h1 : MInv1 sds tds st1) (hs : ∀ d, setP (txL sds) d = true ↔ d ∈ sds) (hi : i < tds.length) (hn : tds.length ≤ 1000) (hd : ∀ x ∈ tds, x.length ≤ 100000) (h : PInv sds tds ls st1 i st) :
    PInv sds tds ls st1 (i + 1) (stepM (skP named nm (stockF ls) 2) st (txK i tds[i])) := by
  have hv : (txK i tds[i]).1 = (i, tds[i]) := txK_val i tds[i] (by omega) (hd _ (List.getElem_mem hi))
  have hil : i < st.1.length := by rw [h.len]; exact hi
  have et : tds.getD i [] = tds[i] := by rw [List.getD_eq_getElem?_getD, List.getElem?_eq_getElem hi, Option.getD_some]
  have eK : frP (setP (txL sds)) (txTo tds (i + 1)) = frStep (frP (setP (txL sds)) (txTo tds i)) (txK i tds[i]) := by rw [txTo_succ tds i hi, frP_snoc]
  unfold stepM
  rw [hv]
  simp only
  by_cases hz : st.1.getD i z3 = z3
  · rw [if_pos hz]
    have hz1 : st1.1.getD i z3 = z3 := by rw [← h.hi i (Nat.le_refl _)]; exact hz
    show PInv sds tds ls st1 (i + 1) (st.1.set i (seek3S (stockF ls) st.2 (i : Int) tds[i]).1, (seek3S (stockF ls) st.2 (i : Int) tds[i]).2)
    have G : ∀ (x : Sr) (s2 : MS), (∀ d a, s2.f1 d = some a → st.2.f1 d = some a ∨ (d = tds[i] ∧ a = (i : Int) ∧ x.1 = 3)) → (∀ d, st.2.f1 d ≠ none → s2.f1 d ≠ none) →
        ((x = z3 ∧ stockF ls (tds.getD i []) = none ∧ tds.getD i [] ∉ sds) ∨ (∃ a : Nat, x = ((2, (a : Int), 0) : Sr) ∧ a < tds.length ∧ a ≠ i ∧ tds.getD a [] = tds.getD i [] ∧ Kd (st.1.getD a z3)) ∨ (∃ r, x = ((3, 0, r) : Sr) ∧ stockF ls (tds.getD i []) = some r ∧ tds.getD i [] ∉ sds)) →
        (x ≠ z3 → cnt3 st.1 = (frP (setP (txL sds)) (txTo tds i)).2.length → (∀ d, d ∉ sds → ((frP (setP (txL sds)) (txTo tds i)).1 d = true ↔ st.2.f1 d ≠ none)) → cnt3 st.1 + (if x.1 == 3 then 1 else 0) = (frP (setP (txL sds)) (txTo tds (i + 1))).2.length ∧ ∀ d, d ∉ sds → ((frP (setP (txL sds)) (txTo tds (i + 1))).1 d = true ↔ s2.f1 d ≠ none)) →
        PInv sds tds ls st1 (i + 1) (st.1.set i x, s2) := fun x s2 g1 g2 g3 g4 => by
      have e := fun j => getD_set_sr st.1 i j x hil
      refine ⟨by rw [List.length_set]; exact h.len, fun j hj => ?_, fun j hj => ?_, fun d a hda => ?_, fun j hj hjz => ?_, fun d hdn => g2 d (h.grow d hdn), fun hall => ?_⟩
      · show (st.1.set i x).getD j z3 = _
        rw [e, if_neg (by omega)]
        exact h.hi j (by omega)
      · show (st.1.set i x).getD j z3 = _
        rw [e]
        by_cases e2 : i = j
        · subst e2; exact absurd hz1 hj
        · rw [if_neg e2]; exact h.old j hj
      · rcases g1 d a hda with h2 | ⟨h2, h3, h4⟩
        · obtain ⟨k, q1, q2, q3, q4⟩ := h.first d a h2
          exact ⟨k, q1, q2, q3, (kd_keep hil hz q4).1⟩
        · refine ⟨i, h3, hi, by rw [et, h2], ?_⟩
          show Kd ((st.1.set i x).getD i z3)
          rw [e, if_pos rfl]
          exact .inr h4
      · have ej : ∀ (j : Nat), (st.1.set i x, s2).1.getD j z3 = if i = j then x else st.1.getD j z3 := e
        by_cases e2 : i = j
        · subst e2
          rw [ej, if_pos rfl]
          rcases g3 with ⟨q1, q2, q3⟩ | ⟨a, q1, q2, q3, q4, q5⟩ | ⟨r, q1, q2, q3⟩
          · exact .inl ⟨q1, q2, q3⟩
          · refine .inr (.inl ⟨a, q1, q2, q3, q4, (kd_keep hil hz q5).1⟩)
          · exact .inr (.inr ⟨r, q1, q2, q3⟩)
        · rw [ej, if_neg e2]
          rcases h.seen j (by omega) hjz with q | ⟨a, q1, q2, q3, q4, q5⟩ | q
          · exact .inl q
          · exact .inr (.inl ⟨a, q1, q2, q3, q4, (kd_keep hil hz q5).1⟩)
          · exact .inr (.inr q)
      · have hx : x ≠ z3 := by
          have := hall i (by omega)
          have e3 : (st.1.set i x).getD i z3 = x := by rw [e, if_pos rfl]
          rw [show (st.1.set i x, s2).1.getD i z3 = x from e3] at this
          exact this
        obtain ⟨c1, c2⟩ := h.cnt (fun j hj => by
          have := hall j (by omega)
          have e3 : (st.1.set i x).getD j z3 = st.1.getD j z3 := by rw [e, if_neg (by omega)]
          rw [show (st.1.set i x, s2).1.getD j z3 = _ from e3] at this
          exact this)
        obtain ⟨c3, c4⟩ := g4 hx c1 c2
        exact ⟨by show cnt3 (st.1.set i x) = _; rw [cnt3_set _ _ _ hil hz]; exact c3, c4⟩
    have nin : ∀ hf : st.2.f1 tds[i] = none, tds[i] ∉ sds := fun hf hm => by
      obtain ⟨k, hk, hkd⟩ := mem_getD.1 hm
      exact h.grow _ (by rw [← et]; exact h1.none i hi hz1 k hk (by rw [hkd, et])) hf
    unfold seek3S
    cases hf : st.2.f1 tds[i] with
    | some a =>
      obtain ⟨k, rfl, hk, hkd, hkk⟩ := h.first _ a hf
      refine G (2, (k : Int), 0) st.2 (fun d a h => .inl h) (fun d h => h) (.inr (.inl ⟨k, rfl, hk, (kd_keep hil hz (x := z3) hkk).2, by rw [hkd, et], hkk⟩)) (fun _ c1 c2 => ?_)
      rw [eK]
      have hK : (frP (setP (txL sds)) (txTo tds i)).1 tds[i] = true := by
        by_cases hm : tds[i] ∈ sds
        · exact fr_base _ _ _ ((hs _).2 hm)
        · exact (c2 _ hm).2 (by rw [hf]; simp)
      unfold frStep
      rw [hv]
      simp only
      rw [if_pos hK]
      exact ⟨by simpa using c1, c2⟩
    | none =>
      have hnin := nin hf
      cases hk : stockF ls tds[i] with
      | some r =>
        refine G (3, 0, r) ⟨st.2.F, updF st.2.f1 tds[i] (some (i : Int))⟩ (fun d a hda => ?_) (fun d hdn => ?_) (.inr (.inr ⟨r, rfl, by rw [et]; exact hk, by rw [et]; exact hnin⟩)) (fun _ c1 c2 => ?_)
        · have hda : updF st.2.f1 tds[i] (some (i : Int)) d = some a := hda
          by_cases e : d = tds[i]
          · subst e
            rw [updF_same] at hda
            injection hda with hda
            exact .inr ⟨rfl, hda.symm, rfl⟩
          · rw [updF_other e] at hda
            exact .inl hda
        · show updF st.2.f1 tds[i] (some (i : Int)) d ≠ none
          by_cases e : d = tds[i]
          · subst e; rw [updF_same]; simp
          · rw [updF_other e]; exact hdn
        · rw [eK]
          have hK : ¬ (frP (setP (txL sds)) (txTo tds i)).1 tds[i] = true := fun e => (c2 _ hnin).1 e hf
          unfold frStep
          rw [hv]
          simp only
          rw [if_neg hK]
          refine ⟨by simp [c1], fun d hdn => ?_⟩
          show (d == tds[i] || (frP (setP (txL sds)) (txTo tds i)).1 d) = true ↔ updF st.2.f1 tds[i] (some (i : Int)) d ≠ none
          by_cases e : d = tds[i]
          · subst e
            rw [updF_same]
            simp
          · rw [updF_other e]
            have : (d == tds[i]) = false := by simpa using e
            rw [this]
            simpa using c2 d hdn
      | none =>
        exact G (0, 0, 0) st.2 (fun d a h => .inl h) (fun d h => h) (.inl ⟨rfl, by rw [et]; exact hk, by rw [et]; exact hnin⟩) (fun hx => absurd rfl hx)
  · rw [if_neg hz]
    have hz1 : st1.1.getD i z3 ≠ z3 := by rw [← h.hi i (Nat.le_refl _)]; exact hz
    refine ⟨h.len, fun j hj => h.hi j (by omega), h.old, h.first, fun j hj hjz => ?_, h.grow, fun hall => ?_⟩
    · by_cases e : j = i
      · subst e; exact absurd hjz hz1
      · exact h.seen j (by omega) hjz
    · obtain ⟨c1, c2⟩ := h.cnt (fun j hj => hall j (by omega))
      have hm : tds[i] ∈ sds := by
        rcases h1.kind i hi with h2 | ⟨g, h2⟩
        · exact absurd h2 hz1
        · obtain ⟨_, q, hq, hql, hqd, _⟩ := h1.kept i hi g 0 h2
          exact mem_getD.2 ⟨q, hql, by rw [hqd, et]⟩
      rw [eK]
      unfold frStep
      rw [hv]
      simp only
      rw [if_pos (fr_base _ _ _ ((hs _).2 hm))]
      exact ⟨c1, c2⟩
theorem fr_mem (K0 : Bt → Bool) : ∀ (pre : List TxK) (d : Bt), ((frP K0 pre).1 d = true ↔ K0 d = true ∨ ∃ x ∈ pre, x.1.2 = d) ∧ (d ∈ (frP K0 pre).2 ↔ K0 d = false ∧ ∃ x ∈ pre, x.1.2 = d) := by
  have key : ∀ (n : Nat) (pre : List TxK) (d : Bt), pre.length = n → ((frP K0 pre).1 d = true ↔ K0 d = true ∨ ∃ x ∈ pre, x.1.2 = d) ∧ (d ∈ (frP K0 pre).2 ↔ K0 d = false ∧ ∃ x ∈ pre, x.1.2 = d) := by
    intro n
    induction n with
    | zero =>
      intro pre d h
      obtain rfl : pre = [] := List.length_eq_zero_iff.1 h
      simp [frP]
    | succ n ih =>
      intro pre d h
      obtain ⟨q, k, rfl⟩ : ∃ q k, pre = q ++ [k] := ⟨pre.dropLast, pre.getLast (by intro e; rw [e] at h; simp at h), (List.dropLast_concat_getLast _).symm⟩
      have hq : q.length = n := by simpa using h
      obtain ⟨i1, i2⟩ := ih q d hq
      obtain ⟨k1, k2⟩ := ih q k.1.2 hq
      rw [frP_snoc]
      have ex : (∃ x ∈ q ++ [k], x.1.2 = d) ↔ (∃ x ∈ q, x.1.2 = d) ∨ k.1.2 = d := by
        constructor
        · rintro ⟨x, hx, e⟩
          rcases List.mem_append.1 hx with hx | hx
          · exact .inl ⟨x, hx, e⟩
          · rw [List.mem_singleton] at hx; subst hx; exact .inr e
        · rintro (⟨x, hx, e⟩ | e)
          · exact ⟨x, List.mem_append_left _ hx, e⟩
          · exact ⟨k, List.mem_append_right _ (List.mem_singleton.2 rfl), e⟩
      rw [ex]
      unfold frStep
      by_cases hk : (frP K0 q).1 k.1.2 = true
      · rw [if_pos hk]
        have hk' := k1.1 hk
        refine ⟨?_, ?_⟩
        · rw [i1]
          constructor
          · rintro (h1 | h1)
            · exact .inl h1
            · exact .inr (.inl h1)
          · rintro (h1 | h1 | h1)
            · exact .inl h1
            · exact .inr h1
            · subst h1; exact hk'
        · rw [i2]
          constructor
          · rintro ⟨h1, h2⟩; exact ⟨h1, .inl h2⟩
          · rintro ⟨h1, h2 | h2⟩
            · exact ⟨h1, h2⟩
            · subst h2
              rcases hk' with h3 | h3
              · rw [h1] at h3; cases h3
              · exact ⟨h1, h3⟩
      · rw [if_neg hk]
        have hk' : K0 k.1.2 = false ∧ ¬ ∃ x ∈ q, x.1.2 = k.1.2 := by
          constructor
          · cases h3 : K0 k.1.2 with
            | false => rfl
            | true => exact absurd (k1.2 (.inl h3)) hk
          · exact fun h3 => hk (k1.2 (.inr h3))
        refine ⟨?_, ?_⟩
        · show (d == k.1.2 || (frP K0 q).1 d) = true ↔ _
          rw [Bool.or_eq_true, beq_iff_eq, i1]
          constructor
          · rintro (h1 | h1 | h1)
            · exact .inr (.inr h1.symm)
            · exact .inl h1
            · exact .inr (.inl h1)
          · rintro (h1 | h1 | h1)
            · exact .inr (.inl h1)
            · exact .inr (.inr h1)
            · exact .inl h1.symm
        · show d ∈ (frP K0 q).2 ++ [k.1.2] ↔ _
          rw [List.mem_append, List.mem_singleton, i2]
          constructor
          · rintro (⟨h1, h2⟩ | h1)
            · exact ⟨h1, .inl h2⟩
            · subst h1; exact ⟨hk'.1, .inr rfl⟩
          · rintro ⟨h1, h2 | h2⟩
            · exact .inl ⟨h1, h2⟩
            · exact .inr h2.symm
  intro pre d
  exact key pre.length pre d rfl
structure Whole (sds tds ls : List Bt) (L : List Sr) (F : List Bt) : Prop where
  len : L.length = tds.length
  each : ∀ i, i < tds.length → (L.getD i z3 = z3 ∧ tds.getD i [] ∉ ls ∧ tds.getD i [] ∉ sds) ∨ (∃ g : Nat, L.getD i z3 = ((1, (g : Int), 0) : Sr) ∧ g < sds.length ∧ sds.getD g [] = tds.getD i []) ∨
    (∃ a : Nat, L.getD i z3 = ((2, (a : Int), 0) : Sr) ∧ a < tds.length ∧ a ≠ i ∧ tds.getD a [] = tds.getD i [] ∧ Kd (L.getD a z3)) ∨ (∃ r : Nat, L.getD i z3 = ((3, 0, (r : Int)) : Sr) ∧ r < ls.length ∧ ls.getD r [] = tds.getD i [] ∧ tds.getD i [] ∉ sds)
  once : ∀ i j, i < tds.length → j < tds.length → ∀ g, L.getD i z3 = ((1, g, 0) : Sr) → L.getD j z3 = ((1, g, 0) : Sr) → i = j
  cnt : z3 ∉ L → cnt3 L = F.length
  fresh : ∀ d, d ∈ F ↔ d ∉ sds ∧ d ∈ tds
theorem cnt3_two {sds tds : List Bt} {st : Mst} (h : MInv sds tds st) : cnt3 st.1 = 0 := by
  unfold cnt3
  rw [List.countP_eq_zero]
  intro x hx
  obtain ⟨j, hj, rfl⟩ := List.getElem_of_mem hx
  have e : st.1.getD j z3 = st.1[j] := by rw [List.getD_eq_getElem?_getD, List.getElem?_eq_getElem hj, Option.getD_some]
  rcases h.kind j (by rw [← h.len]; exact hj) with h1 | ⟨g, h1⟩
  · rw [← e, h1]; simp [z3]
  · rw [← e, h1]; simp
theorem whole_match (sn tn : List Nd) (sf tf : List Fl) (ls : List Bt) (hn : tf.length ≤ 1000) (hn2 : sf.length ≤ 1000) (hd : ∀ x ∈ tf, x.data.length ≤ 100000) (hd2 : ∀ x ∈ sf, x.data.length ≤ 100000) (hl : ls.length ≤ 100000) :
    Whole (sf.map Fl.data) (tf.map Fl.data) ls (matchL sn sf tn tf ls).1 (freshL sf tf) := by
  have hdt : ∀ x ∈ tf.map Fl.data, x.length ≤ 100000 := fun x hx => by obtain ⟨y, hy, rfl⟩ := List.mem_map.1 hx; exact hd y hy
  have hds : ∀ x ∈ sf.map Fl.data, x.length ≤ 100000 := fun x hx => by obtain ⟨y, hy, rfl⟩ := List.mem_map.1 hx; exact hd2 y hy
  have hlt : (tf.map Fl.data).length ≤ 1000 := by simpa using hn
  have hls : (sf.map Fl.data).length ≤ 1000 := by simpa using hn2
  have h1 := inv_two (named := namedF sn) (nm := namesM tn) (stock := stockF ls) (sf.map Fl.data) (tf.map Fl.data) hds hls hdt hlt
  have hs := setP_txL (sf.map Fl.data) hds hls
  have hp : ∀ i, i ≤ (tf.map Fl.data).length → PInv (sf.map Fl.data) (tf.map Fl.data) ls (passM (skP (namedF sn) (namesM tn) (stockF ls) 1) (txL (tf.map Fl.data)) (passM (skP (namedF sn) (namesM tn) (stockF ls) 0) (txL (tf.map Fl.data)) (List.replicate (tf.map Fl.data).length z3, ⟨shelfP (txL (sf.map Fl.data)), fun _ => none⟩))) i
      (passM (skP (namedF sn) (namesM tn) (stockF ls) 2) (txTo (tf.map Fl.data) i) (passM (skP (namedF sn) (namesM tn) (stockF ls) 1) (txL (tf.map Fl.data)) (passM (skP (namedF sn) (namesM tn) (stockF ls) 0) (txL (tf.map Fl.data)) (List.replicate (tf.map Fl.data).length z3, ⟨shelfP (txL (sf.map Fl.data)), fun _ => none⟩)))) := by
    intro i
    induction i with
    | zero => intro _; exact p_start h1 (cnt3_two h1.toMInv) hs
    | succ i ih =>
      intro hi
      rw [txTo_succ (tf.map Fl.data) i hi, passM_snoc]
      exact p_step h1 hs hi hlt hdt (ih (by omega))
  have hP := hp (tf.map Fl.data).length (Nat.le_refl _)
  have eM : matchL sn sf tn tf ls = passM (skP (namedF sn) (namesM tn) (stockF ls) 2) (txTo (tf.map Fl.data) (tf.map Fl.data).length) (passM (skP (namedF sn) (namesM tn) (stockF ls) 1) (txL (tf.map Fl.data)) (passM (skP (namedF sn) (namesM tn) (stockF ls) 0) (txL (tf.map Fl.data)) (List.replicate (tf.map Fl.data).length z3, ⟨shelfP (txL (sf.map Fl.data)), fun _ => none⟩))) := by
    have e0 : List.replicate tf.length z3 = List.replicate (tf.map Fl.data).length z3 := by rw [List.length_map]
    unfold matchL
    rw [e0]
    rfl
  rw [eM]
  have eF : freshL sf tf = (frP (setP (txL (sf.map Fl.data))) (txTo (tf.map Fl.data) (tf.map Fl.data).length)).2 := rfl
  rw [eF]
  generalize passM (skP (namedF sn) (namesM tn) (stockF ls) 1) (txL (tf.map Fl.data)) (passM (skP (namedF sn) (namesM tn) (stockF ls) 0) (txL (tf.map Fl.data)) (List.replicate (tf.map Fl.data).length z3, ⟨shelfP (txL (sf.map Fl.data)), fun _ => none⟩)) = st1 at *
  generalize passM (skP (namedF sn) (namesM tn) (stockF ls) 2) (txTo (tf.map Fl.data) (tf.map Fl.data).length) st1 = st at *
  have kept : ∀ i, i < (tf.map Fl.data).length → ∀ g, st.1.getD i z3 = ((1, g, 0) : Sr) → st1.1.getD i z3 = ((1, g, 0) : Sr) := fun i hi g e => by
    by_cases hz : st1.1.getD i z3 = z3
    · rcases hP.seen i hi hz with ⟨q, _⟩ | ⟨a, q, _⟩ | ⟨r, q, _⟩
      · rw [q] at e; have := congrArg (fun y : Sr => y.1) e; simp [z3] at this
      · rw [q] at e; have := congrArg (fun y : Sr => y.1) e; simp at this
      · rw [q] at e; have := congrArg (fun y : Sr => y.1) e; simp at this
    · rw [← hP.old i hz]; exact e
  refine ⟨hP.len, fun i hi => ?_, fun i j hi hj g e1 e2 => h1.once i j hi hj g (kept i hi g e1) (kept j hj g e2), fun hz => ?_, fun d => ?_⟩
  · by_cases hz : st1.1.getD i z3 = z3
    · rcases hP.seen i hi hz with ⟨q1, q2, q3⟩ | q | ⟨r, q1, q2, q3⟩
      · refine .inl ⟨q1, fun hm => ?_, q3⟩
        obtain ⟨k, hk, hkd⟩ := mem_getD.1 hm
        exact stockF_none hl q2 k hk hkd
      · exact .inr (.inr (.inl q))
      · obtain ⟨k, rfl, hk, hkd, _⟩ := stockF_some hl q2
        exact .inr (.inr (.inr ⟨k, q1, hk, hkd, q3⟩))
    · rcases h1.kind i hi with h2 | ⟨g, h2⟩
      · exact absurd h2 hz
      · obtain ⟨_, q, rfl, hql, hqd, _⟩ := h1.kept i hi g 0 h2
        exact .inr (.inl ⟨q, by rw [hP.old i hz]; exact h2, hql, hqd⟩)
  · exact (hP.cnt (fun j hj e => hz (getD_mem_z3 (by rw [hP.len]; exact hj) e))).1
  · rw [(fr_mem _ _ d).2]
    have e1 : setP (txL (sf.map Fl.data)) d = false ↔ d ∉ sf.map Fl.data := by
      rw [← hs d]
      simp
    have e2 : (∃ x ∈ txTo (tf.map Fl.data) (tf.map Fl.data).length, x.1.2 = d) ↔ d ∈ tf.map Fl.data := by
      have := setP_txL (tf.map Fl.data) hdt hlt d
      rw [setP_mem] at this
      exact this
    rw [e1, e2]
end Go.Mat
