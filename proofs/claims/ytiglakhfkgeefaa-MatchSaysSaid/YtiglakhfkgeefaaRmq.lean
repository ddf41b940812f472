/-
What is proved here: the document's two passes over the files, and Match's, are one (on lists alone). the document's own answer to Match, and Match's, are one (on lists alone). what the document's own Match keeps in memory while it runs, and lengths of its lists. the document's own Match, by a contract.
-/
import Derived.Test.YtiglakhfkgeefaaRf3
import Derived.Test.YtiglakhfkgeefaaWhu
set_option linter.unusedSimpArgs false
set_option linter.unusedVariables false
namespace Go.Mat
open Go.Pth Go.Tre Go.Proofs.Ytiglakhfkgeefaa
def okL (sds : List Bt) (tk : List Bool) (d : Bt) : List Int := ((List.range sds.length).filter (okT sds tk d)).map (fun g : Nat => (g : Int))
def isK (tds : List Bt) (out : List Sr) (k : Int) (d : Bt) (g : Nat) : Bool := decide (tds.getD g [] = d) && decide ((out.getD g z3).1 = k)
structure RI (sds tds : List Bt) (st : Mst) (tk : List Bool) : Prop where
  len : st.1.length = tds.length
  lenT : tk.length = sds.length
  free : ∀ d, st.2.F d = okL sds tk d
  first : ∀ d, st.2.f1 d = ((List.range tds.length).find? (isK tds st.1 1 d)).map (fun g : Nat => (g : Int))
  kind : ∀ g, st.1.getD g z3 = z3 ∨ (st.1.getD g z3).1 = 1
theorem find_congr {l : List Nat} {p q : Nat → Bool} (h : ∀ x ∈ l, p x = q x) : l.find? p = l.find? q := by
  induction l with
  | nil => rfl
  | cons a r ih =>
    rw [List.find?_cons, List.find?_cons, h a List.mem_cons_self, ih (fun x hx => h x (List.mem_cons_of_mem _ hx))]
theorem getD_set_b (l : List Bool) (i j : Nat) (h : i < l.length) : (l.set i true).getD j false = if i = j then true else l.getD j false := by
  simp only [List.getD_eq_getElem?_getD, List.getElem?_set]
  by_cases e : i = j
  · subst e; simp [h]
  · simp [e]
theorem find_or {n f : Nat} (hf : f < n) {p q : Nat → Bool} (h : ∀ x, x < n → q x = (p x || decide (x = f))) : (List.range n).find? q = some (match (List.range n).find? p with | none => f | some a => if f < a then f else a) := by
  cases e : (List.range n).find? p with
  | none =>
    rw [List.find?_eq_none] at e
    show _ = some f
    refine find_range hf (fun j hj => ?_) (by rw [h f hf]; simp)
    have := e j (List.mem_range.2 (by omega))
    rw [h j (by omega)]
    have h2 : j ≠ f := by omega
    simpa [h2] using this
  | some a =>
    rw [List.find?_range_eq_some] at e
    obtain ⟨e1, e2, e3⟩ := e
    have e2 := List.mem_range.1 e2
    have np : ∀ j, j < a → p j = false := fun j hj => by have := e3 j hj; simpa using this
    by_cases hl : f < a
    · simp only [hl, if_true]
      refine find_range hf (fun j hj => ?_) (by rw [h f hf]; simp)
      rw [h j (by omega), np j (by omega)]
      have h2 : j ≠ f := by omega
      simp [h2]
    · simp only [hl, if_false]
      refine find_range e2 (fun j hj => ?_) (by rw [h a e2, e1]; rfl)
      rw [h j (by omega), np j hj]
      have h2 : j ≠ f := by omega
      simp [h2]
theorem okT_set {sds : List Bt} {tk : List Bool} {d : Bt} {g x : Nat} (hg : g < tk.length) : okT sds (tk.set g true) d x = (decide (sds.getD x [] = d) && !(if g = x then true else tk.getD x false)) := by
  unfold okT
  rw [getD_set_b _ _ _ hg]
theorem ri_keep {sds tds : List Bt} {st : Mst} {tk : List Bool} (h : RI sds tds st tk) (f g : Nat) (hf : f < tds.length) (hz : st.1.getD f z3 = z3) (hg : g < sds.length) (hk : okT sds tk (tds.getD f []) g = true) :
    RI sds tds (st.1.set f (1, (g : Int), 0), keepS st.2 (f : Int) (tds.getD f []) (g : Int)) (tk.set g true) := by
  have hfl : f < st.1.length := by rw [h.len]; exact hf
  have hgl : g < tk.length := by rw [h.lenT]; exact hg
  have e := fun j => getD_set_sr st.1 f j (1, (g : Int), 0) hfl
  have hgd : sds.getD g [] = tds.getD f [] := by
    unfold okT at hk
    rw [Bool.and_eq_true] at hk
    exact of_decide_eq_true hk.1
  refine ⟨by rw [List.length_set]; exact h.len, by rw [List.length_set]; exact h.lenT, fun d => ?_, fun d => ?_, fun j => ?_⟩
  · show updF st.2.F (tds.getD f []) (strikeN (st.2.F (tds.getD f [])) (g : Int)) d = _
    by_cases ed : d = tds.getD f []
    · subst ed
      rw [updF_same, h.free]
      unfold strikeN okL
      rw [List.filter_map, List.filter_filter]
      congr 1
      refine List.filter_congr (fun x hx => ?_)
      rw [okT_set hgl]
      unfold okT
      by_cases ex : g = x
      · subst ex; simp
      · have : ¬ ((x : Int) = (g : Int)) := by omega
        simp [ex, this]
    · rw [updF_other ed, h.free]
      unfold okL
      congr 1
      refine List.filter_congr (fun x hx => ?_)
      rw [okT_set hgl]
      unfold okT
      by_cases ex : g = x
      · subst ex
        have : ¬ (sds.getD g [] = d) := by rw [hgd]; exact fun q => ed q.symm
        simp only [decide_eq_false this, Bool.false_and]
      · simp [ex]
  · show firstS st.2.f1 (tds.getD f []) (f : Int) d = _
    by_cases ed : d = tds.getD f []
    · subst ed
      have hq : ∀ x, x < tds.length → isK tds (st.1.set f (1, (g : Int), 0)) 1 (tds.getD f []) x = (isK tds st.1 1 (tds.getD f []) x || decide (x = f)) := fun x hx => by
        unfold isK
        rw [e]
        by_cases ex : f = x
        · subst ex; simp
        · have : ¬ x = f := fun q => ex q.symm
          simp [ex, this]
      rw [find_or hf hq]
      unfold firstS
      rw [h.first]
      cases hc : (List.range tds.length).find? (isK tds st.1 1 (tds.getD f [])) with
      | none =>
        show updF st.2.f1 (tds.getD f []) (some (f : Int)) (tds.getD f []) = _
        rw [updF_same]
        rfl
      | some a =>
        show (if (f : Int) < (a : Int) then updF st.2.f1 (tds.getD f []) (some (f : Int)) else st.2.f1) (tds.getD f []) = _
        by_cases hl : f < a
        · have : (f : Int) < (a : Int) := by omega
          rw [if_pos this, updF_same]
          simp [hl]
        · have : ¬ (f : Int) < (a : Int) := by omega
          rw [if_neg this, h.first, hc]
          simp [hl]
    · rw [firstS_other _ _ _ _ ed, h.first]
      congr 1
      refine find_congr (fun x hx => ?_)
      unfold isK
      rw [e]
      by_cases ex : f = x
      · subst ex
        have : ¬ (tds.getD f [] = d) := fun q => ed q.symm
        simp only [decide_eq_false this, Bool.false_and]
      · simp [ex]
  · simp only [e]
    by_cases ej : f = j
    · rw [if_pos ej]; exact .inr rfl
    · rw [if_neg ej]; exact h.kind j
/-! names -/
section
variable {sn : List Nd} {sf : List Fl} (h : looseE sn sf = 0)
include h
theorem q_named (sds : List Bt) (tk : List Bool) (d p : Bt) : namedQ sn sds tk d p = match namedF sn p with | some g => if okT sds tk d g.toNat = true then some g else none | none => none := by
  have hnd := chain_nodup sn [] (loose_chain h)
  rcases findI_cases sn p with hc | ⟨i, hi, hc, hpi⟩
  · rw [q_none hc]
    cases e : namedF sn p with
    | none => rfl
    | some g =>
      obtain ⟨x, hx, h1, _⟩ := named_some hnd e
      obtain ⟨j, hj, rfl⟩ := List.getElem_of_mem hx
      have := loose_find h j hj
      rw [h1, hc] at this
      omega
  · rw [q_at hi hc]
    by_cases hf : 0 ≤ sn[i].file
    · have := named_in sn (fun _ => none) hnd sn[i] (List.getElem_mem hi) hf
      rw [hpi] at this
      have e : namedF sn p = some sn[i].file := this
      rw [e]
      have : sn[i].file ≠ -1 := by omega
      simp only [this, ne_eq, not_false_eq_true, true_and]
    · have h1 : sn[i].file = -1 := by rcases (loose_node h sn[i] (List.getElem_mem hi)).2 with q | q <;> omega
      rw [if_neg (by rw [h1]; simp)]
      cases e : namedF sn p with
      | none => rfl
      | some g =>
        exfalso
        obtain ⟨x, hx, q1, q2, q3⟩ := named_some hnd e
        obtain ⟨j, hj, rfl⟩ := List.getElem_of_mem hx
        have := loose_inj h j i hj hi (by rw [q1, hpi])
        subst this
        omega
theorem pick_named (sds : List Bt) (tk : List Bool) (d : Bt) (hl : sds.length = sf.length) : ∀ nm : List Bt, pickF (namedF sn) (okL sds tk d) nm = nm.findSome? (namedQ sn sds tk d)
  | [] => rfl
  | p :: r => by
    have ih := pick_named sds tk d hl r
    rw [List.findSome?_cons, q_named h]
    unfold pickF
    cases e : namedF sn p with
    | none => exact ih
    | some g =>
      have hnd := chain_nodup sn [] (loose_chain h)
      obtain ⟨x, hx, q1, q2, q3⟩ := named_some hnd e
      have hb := loose_files h x hx
      have hgl : g.toNat < sds.length := by rw [hl]; omega
      have hmem : g ∈ okL sds tk d ↔ okT sds tk d g.toNat = true := by
        unfold okL
        constructor
        · intro hm
          obtain ⟨k, hk, rfl⟩ := List.mem_map.1 hm
          rw [Int.toNat_natCast]
          exact (List.mem_filter.1 hk).2
        · intro hm
          exact List.mem_map.2 ⟨g.toNat, List.mem_filter.2 ⟨List.mem_range.2 hgl, hm⟩, by omega⟩
      show (if g ∈ okL sds tk d then some g else pickF (namedF sn) (okL sds tk d) r) = _
      by_cases hm : okT sds tk d g.toNat = true
      · rw [if_pos (hmem.2 hm)]
        simp [hm]
      · rw [if_neg (fun q => hm (hmem.1 q)), ih]
        simp [hm]
end
theorem named_of {sn : List Nd} {sds : List Bt} {tk : List Bool} {d : Bt} {nm : List Bt} : namedP sn sds tk d nm = (nm.findSome? (namedQ sn sds tk d)).getD (-1) := rfl
theorem alike_of {sds : List Bt} {tk : List Bool} {d : Bt} : alikeP sds tk d = ((okL sds tk d).head?).getD (-1) := by
  unfold okL alikeP
  rw [List.head?_map, List.head?_filter]
  cases (List.range sds.length).find? (okT sds tk d) <;> rfl
/-! the document's passes -/
def rFind (j : Nat) (sn tn : List Nd) (sds tds : List Bt) (tk : List Bool) (f : Nat) : Int := if j = 0 then namedP sn sds tk (tds.getD f []) (namesM tn f) else alikeP sds tk (tds.getD f [])
def rStep (j : Nat) (sn tn : List Nd) (sds tds : List Bt) (s : List Sr × List Bool) (f : Nat) : List Sr × List Bool :=
  if (s.1.getD f z3).1 ≠ 0 then s else if 0 ≤ rFind j sn tn sds tds s.2 f then (s.1.set f (1, rFind j sn tn sds tds s.2 f, 0), s.2.set (rFind j sn tn sds tds s.2 f).toNat true) else s
def rTo (j : Nat) (sn tn : List Nd) (sds tds : List Bt) (s : List Sr × List Bool) (i : Nat) : List Sr × List Bool := (List.range i).foldl (rStep j sn tn sds tds) s
theorem rTo_succ (j : Nat) (sn tn : List Nd) (sds tds : List Bt) (s : List Sr × List Bool) (i : Nat) : rTo j sn tn sds tds s (i + 1) = rStep j sn tn sds tds (rTo j sn tn sds tds s i) i := by
  unfold rTo
  rw [List.range_succ, List.foldl_append]
  rfl
theorem set_same {l : List Sr} {i : Nat} (h : l.getD i z3 = z3) (hi : i < l.length) : l.set i z3 = l := by
  apply List.ext_getElem?
  intro k
  rw [List.getElem?_set]
  by_cases e : i = k
  · subst e
    rw [if_pos rfl, if_pos hi]
    rw [List.getD_eq_getElem?_getD, List.getElem?_eq_getElem hi, Option.getD_some] at h
    rw [List.getElem?_eq_getElem hi, h]
  · rw [if_neg e]
theorem named_ok {sn : List Nd} {sf : List Fl} (h : looseE sn sf = 0) {sds : List Bt} {tk : List Bool} {d : Bt} (hl : sds.length = sf.length) {nm : List Bt} {fr : Int} (e : nm.findSome? (namedQ sn sds tk d) = some fr) : ∃ g : Nat, fr = (g : Int) ∧ g < sds.length ∧ okT sds tk d g = true := by
  have := pick_named h sds tk d hl nm
  rw [e] at this
  have hm := pickF_mem this
  unfold okL at hm
  obtain ⟨g, hg, rfl⟩ := List.mem_map.1 hm
  have hg := List.mem_filter.1 hg
  exact ⟨g, rfl, List.mem_range.1 hg.1, hg.2⟩
theorem pass_eq {sn : List Nd} {sf : List Fl} (h : looseE sn sf = 0) (tn : List Nd) (sds tds : List Bt) (hl : sds.length = sf.length) (ls : List Bt) (hd : ∀ x ∈ tds, x.length ≤ 100000) (hn : tds.length ≤ 1000) (j : Nat) (hj : j < 2) (st : Mst) (tk : List Bool) (h0 : RI sds tds st tk) :
    ∀ i, i ≤ tds.length → RI sds tds (passM (skP (namedF sn) (namesM tn) (stockF ls) j) (txTo tds i) st) (rTo j sn tn sds tds (st.1, tk) i).2 ∧ (passM (skP (namedF sn) (namesM tn) (stockF ls) j) (txTo tds i) st).1 = (rTo j sn tn sds tds (st.1, tk) i).1
  | 0, _ => ⟨h0, rfl⟩
  | i + 1, hi => by
    obtain ⟨a, b⟩ := pass_eq h tn sds tds hl ls hd hn j hj st tk h0 i (by omega)
    have hil : i < tds.length := hi
    have ed : tds.getD i [] = tds[i] := by rw [List.getD_eq_getElem?_getD, List.getElem?_eq_getElem hil, Option.getD_some]
    rw [txTo_succ tds i hil, passM_snoc, rTo_succ]
    generalize passM (skP (namedF sn) (namesM tn) (stockF ls) j) (txTo tds i) st = s at *
    generalize rTo j sn tn sds tds (st.1, tk) i = q at *
    obtain ⟨q1, tq⟩ := q
    simp only at a b
    subst b
    unfold stepM rStep
    rw [txK_val i tds[i] (by omega) (hd _ (List.getElem_mem _))]
    rw [← ed]
    show RI sds tds (if s.1.getD i z3 = z3 then (s.1.set i (skP (namedF sn) (namesM tn) (stockF ls) j s.2 i (tds.getD i [])).1, (skP (namedF sn) (namesM tn) (stockF ls) j s.2 i (tds.getD i [])).2) else s) _ ∧ _
    by_cases hz : s.1.getD i z3 = z3
    · have hk : ¬ ((s.1.getD i z3).1 ≠ 0) := by rw [hz]; simp [z3]
      simp only [hz, if_true]
      have hz0 : ¬ (z3.1 ≠ 0) := by simp [z3]
      simp only [hz0, if_false]
      have hsl : i < s.1.length := by rw [a.len]; exact hil
      have key : ∀ (r : Option Int), (∀ fr, r = some fr → ∃ g : Nat, fr = (g : Int) ∧ g < sds.length ∧ okT sds tq (tds.getD i []) g = true) → rFind j sn tn sds tds tq i = r.getD (-1) →
          (skP (namedF sn) (namesM tn) (stockF ls) j s.2 i (tds.getD i [])) = (match r with | some fr => ((1, fr, 0), keepS s.2 (i : Int) (tds.getD i []) fr) | none => ((0, 0, 0), s.2)) →
          RI sds tds (s.1.set i (skP (namedF sn) (namesM tn) (stockF ls) j s.2 i (tds.getD i [])).1, (skP (namedF sn) (namesM tn) (stockF ls) j s.2 i (tds.getD i [])).2) (if 0 ≤ rFind j sn tn sds tds tq i then (s.1.set i (1, rFind j sn tn sds tds tq i, 0), tq.set (rFind j sn tn sds tds tq i).toNat true) else (s.1, tq)).2 ∧
          (s.1.set i (skP (namedF sn) (namesM tn) (stockF ls) j s.2 i (tds.getD i [])).1, (skP (namedF sn) (namesM tn) (stockF ls) j s.2 i (tds.getD i [])).2).1 = (if 0 ≤ rFind j sn tn sds tds tq i then (s.1.set i (1, rFind j sn tn sds tds tq i, 0), tq.set (rFind j sn tn sds tds tq i).toNat true) else (s.1, tq)).1 := by
        intro r h1 h2 h3
        rw [h3, h2]
        cases r with
        | none =>
          have : ¬ (0 : Int) ≤ -1 := by omega
          simp only [Option.getD_none, this, if_false]
          refine ⟨?_, set_same hz hsl⟩
          have e : s.1.set i (0, 0, 0) = s.1 := set_same hz hsl
          rw [e]
          exact a
        | some fr =>
          obtain ⟨g, rfl, g1, g2⟩ := h1 fr rfl
          have : (0 : Int) ≤ (g : Int) := by omega
          simp only [Option.getD_some, this, if_true, Int.toNat_natCast, and_true]
          exact ri_keep a i g hil hz g1 g2
      match j, hj with
      | 0, _ =>
        refine key ((namesM tn i).findSome? (namedQ sn sds tq (tds.getD i []))) (fun fr e => named_ok h hl e) rfl ?_
        show seek1S (namesM tn i) (namedF sn) s.2 (i : Int) (tds.getD i []) = _
        unfold seek1S
        rw [a.free, pick_named h sds tq _ hl]
        cases (namesM tn i).findSome? (namedQ sn sds tq (tds.getD i [])) <;> rfl
      | 1, _ =>
        refine key ((okL sds tq (tds.getD i [])).head?) (fun fr e => ?_) ?_ ?_
        · have hm : fr ∈ okL sds tq (tds.getD i []) := List.mem_of_head? e
          unfold okL at hm
          obtain ⟨g, hg, rfl⟩ := List.mem_map.1 hm
          have hg := List.mem_filter.1 hg
          exact ⟨g, rfl, List.mem_range.1 hg.1, hg.2⟩
        · exact alike_of
        · show seek2S s.2 (i : Int) (tds.getD i []) = _
          unfold seek2S
          rw [a.free]
          cases okL sds tq (tds.getD i []) <;> rfl
    · have hk : (s.1.getD i z3).1 ≠ 0 := by
        rcases a.kind i with h1 | h1
        · exact absurd h1 hz
        · rw [h1]; decide
      simp only [hz, if_false, hk, ne_eq, not_false_eq_true, if_true]
      exact ⟨a, trivial⟩
end Go.Mat
set_option linter.unusedSimpArgs false
set_option linter.unusedVariables false
namespace Go.Mat
open Go.Pth Go.Tre Go.Proofs.Ytiglakhfkgeefaa
def fromP (tds : List Bt) (o : List Sr) (d : Bt) (i : Nat) : Option Nat := ((List.range tds.length).find? (isK tds o 1 d)).or ((List.range i).find? (isK tds o 3 d))
def r3Step (tds ls : List Bt) (i : Nat) (o : List Sr) : Option (List Sr) :=
  if (o.getD i z3).1 ≠ 0 then some o else match fromP tds o (tds.getD i []) i with
    | some g => some (o.set i (2, (g : Int), 0))
    | none => if Stk.find ls (tds.getD i []) < 0 then none else some (o.set i (3, 0, Stk.find ls (tds.getD i [])))
def r3To (tds ls : List Bt) (o : List Sr) : Nat → Option (List Sr)
  | 0 => some o
  | i + 1 => (r3To tds ls o i).bind (r3Step tds ls i)
theorem fromP_succ (tds : List Bt) (o : List Sr) (d : Bt) (i : Nat) : fromP tds o d (i + 1) = (fromP tds o d i).or (if isK tds o 3 d i = true then some i else none) := by
  unfold fromP
  rw [List.range_succ, List.find?_append, Option.or_assoc]
  congr 2
  rw [List.find?_singleton]
theorem fromP_set (tds : List Bt) (o : List Sr) (d : Bt) (i : Nat) (x : Sr) (hi : i < o.length) (hz : o.getD i z3 = z3) (hx : x.1 ≠ 1) : fromP tds (o.set i x) d i = fromP tds o d i := by
  unfold fromP
  congr 1
  · refine find_congr (fun k _ => ?_)
    unfold isK
    rw [getD_set_sr o i k x hi]
    by_cases e : i = k
    · subst e
      rw [if_pos rfl, hz]
      have h0 : ¬ (z3.1 = 1) := by simp [z3]
      rw [decide_eq_false hx, decide_eq_false h0]
    · rw [if_neg e]
  · refine find_congr (fun k hk => ?_)
    have := List.mem_range.1 hk
    unfold isK
    rw [getD_set_sr o i k x hi, if_neg (by omega)]
theorem stock_eq (ls : List Bt) (hn : ls.length ≤ 100000) (d : Bt) : stockF ls d = if Stk.find ls d < 0 then none else some (Stk.find ls d) := by
  cases e : stockF ls d with
  | none =>
    have h := stockF_none hn e
    have : d ∉ ls := fun hm => by
      obtain ⟨k, hk, hd⟩ := mem_getD.1 hm
      exact h k hk hd
    rw [Stk.find_no this]
    rfl
  | some z =>
    obtain ⟨i, rfl, h1, h2, h3⟩ := stockF_some hn e
    have hg : ls[i] = d := by rw [List.getD_eq_getElem?_getD, List.getElem?_eq_getElem h1, Option.getD_some] at h2; exact h2
    have hno : d ∉ ls.take i := fun hm => by
      obtain ⟨k, hk, hd⟩ := List.getElem_of_mem hm
      rw [List.length_take] at hk
      rw [List.getElem_take] at hd
      exact h3 k (by omega) (by rw [List.getD_eq_getElem?_getD, List.getElem?_eq_getElem (show k < ls.length by omega), Option.getD_some]; exact hd)
    rw [Stk.find_step h1 hno hg]
    have : ¬ (i : Int) < 0 := by omega
    rw [if_neg this]
structure R3 (tds : List Bt) (st : Mst) (i : Nat) : Prop where
  len : st.1.length = tds.length
  first : ∀ d, st.2.f1 d = (fromP tds st.1 d i).map (fun g : Nat => (g : Int))
  ahead : ∀ g, i ≤ g → st.1.getD g z3 = z3 ∨ (st.1.getD g z3).1 = 1
  past : ∀ g, g < i → st.1.getD g z3 ≠ z3
theorem r3_of {sds tds : List Bt} {st : Mst} {tk : List Bool} (h : RI sds tds st tk) : R3 tds st 0 := by
  refine ⟨h.len, fun d => ?_, fun g _ => h.kind g, fun g hg => by omega⟩
  rw [h.first]
  unfold fromP
  simp
theorem r3_step (named : Bt → Option Int) (nm : Nat → List Bt) (tds ls : List Bt) (hls : ls.length ≤ 100000) (st : Mst) (i : Nat) (hi : i < tds.length) (h : R3 tds st i) (x : TxK) (hx : x.1 = (i, tds.getD i [])) :
    (∀ o, r3Step tds ls i st.1 = some o → (stepM (skP named nm (stockF ls) 2) st x).1 = o ∧ R3 tds (stepM (skP named nm (stockF ls) 2) st x) (i + 1)) ∧
    (r3Step tds ls i st.1 = none → (stepM (skP named nm (stockF ls) 2) st x).1.getD i z3 = z3) := by
  have hil : i < st.1.length := by rw [h.len]; exact hi
  unfold stepM
  rw [hx]
  show (∀ o, _ → (if st.1.getD i z3 = z3 then (st.1.set i (seek3S (stockF ls) st.2 (i : Int) (tds.getD i [])).1, (seek3S (stockF ls) st.2 (i : Int) (tds.getD i [])).2) else st).1 = o ∧ R3 tds (if st.1.getD i z3 = z3 then (st.1.set i (seek3S (stockF ls) st.2 (i : Int) (tds.getD i [])).1, (seek3S (stockF ls) st.2 (i : Int) (tds.getD i [])).2) else st) (i + 1)) ∧
    (_ → (if st.1.getD i z3 = z3 then (st.1.set i (seek3S (stockF ls) st.2 (i : Int) (tds.getD i [])).1, (seek3S (stockF ls) st.2 (i : Int) (tds.getD i [])).2) else st).1.getD i z3 = z3)
  by_cases hz : st.1.getD i z3 = z3
  · have hk : ¬ ((st.1.getD i z3).1 ≠ 0) := by rw [hz]; simp [z3]
    rw [if_pos hz]
    unfold r3Step
    rw [if_neg hk]
    unfold seek3S
    rw [h.first, stock_eq ls hls]
    -- what holds of the list with its i-th set
    have fin : ∀ (y : Sr) (F1 : Bt → Option Int), y.1 ≠ 0 → y.1 ≠ 1 → (∀ d, F1 d = ((fromP tds st.1 d i).or (if isK tds (st.1.set i y) 3 d i = true then some i else none)).map (fun g : Nat => (g : Int))) → R3 tds (st.1.set i y, ⟨st.2.F, F1⟩) (i + 1) := by
      intro y F1 y0 y1 hF
      refine ⟨by rw [List.length_set]; exact h.len, fun d => ?_, fun g hg => ?_, fun g hg => ?_⟩
      · show F1 d = _
        rw [fromP_succ, fromP_set tds st.1 d i y hil hz y1]
        exact hF d
      · show (st.1.set i y).getD g z3 = z3 ∨ _
        rw [getD_set_sr _ _ _ _ hil, if_neg (by omega)]
        exact h.ahead g (by omega)
      · show (st.1.set i y).getD g z3 ≠ z3
        rw [getD_set_sr _ _ _ _ hil]
        by_cases e : i = g
        · rw [if_pos e]
          intro q
          exact y0 (by rw [q])
        · rw [if_neg e]
          exact h.past g (by omega)
    have kd : ∀ (y : Sr) (d : Bt), isK tds (st.1.set i y) 3 d i = (decide (tds.getD i [] = d) && decide (y.1 = 3)) := fun y d => by
      unfold isK
      rw [getD_set_sr _ _ _ _ hil, if_pos rfl]
    cases e : fromP tds st.1 (tds.getD i []) i with
    | some g =>
      refine ⟨fun o ho => ?_, fun ho => by cases ho⟩
      injection ho with ho
      subst ho
      refine ⟨rfl, fin (2, (g : Int), 0) st.2.f1 (by show (2 : Int) ≠ 0; decide) (by show (2 : Int) ≠ 1; decide) (fun d => ?_)⟩
      rw [kd, h.first]
      have : ¬ ((2 : Int) = 3) := by decide
      simp only [decide_eq_false this, Bool.and_false, Bool.false_eq_true, if_false, Option.or_none]
    | none =>
      by_cases hf : Stk.find ls (tds.getD i []) < 0
      · rw [show (if Stk.find ls (tds.getD i []) < 0 then (none : Option Int) else some (Stk.find ls (tds.getD i []))) = none from if_pos hf]
        rw [if_pos hf]
        refine ⟨fun o ho => (by cases ho), fun _ => ?_⟩
        show (st.1.set i z3).getD i z3 = z3
        rw [getD_set_sr _ _ _ _ hil, if_pos rfl]
      · rw [show (if Stk.find ls (tds.getD i []) < 0 then (none : Option Int) else some (Stk.find ls (tds.getD i []))) = some (Stk.find ls (tds.getD i [])) from if_neg hf]
        rw [if_neg hf]
        refine ⟨fun o ho => ?_, fun ho => by cases ho⟩
        injection ho with ho
        subst ho
        refine ⟨rfl, fin (3, 0, Stk.find ls (tds.getD i [])) (updF st.2.f1 (tds.getD i []) (some (i : Int))) (by show (3 : Int) ≠ 0; decide) (by show (3 : Int) ≠ 1; decide) (fun d => ?_)⟩
        rw [kd]
        by_cases ed : d = tds.getD i []
        · subst ed
          rw [updF_same, e]
          simp
        · have : ¬ (tds.getD i [] = d) := fun q => ed q.symm
          rw [updF_other ed, h.first]
          simp only [decide_eq_false this, Bool.false_and, Bool.false_eq_true, if_false, Option.or_none]
  · have hk1 : (st.1.getD i z3).1 = 1 := by
      rcases h.ahead i (Nat.le_refl _) with q | q
      · exact absurd q hz
      · exact q
    have hk : (st.1.getD i z3).1 ≠ 0 := by rw [hk1]; decide
    rw [if_neg hz]
    unfold r3Step
    rw [if_pos hk]
    refine ⟨fun o ho => ?_, fun ho => by cases ho⟩
    injection ho with ho
    refine ⟨ho, h.len, fun d => ?_, fun g hg => h.ahead g (by omega), fun g hg => ?_⟩
    · rw [fromP_succ, h.first]
      have : isK tds st.1 3 d i = false := by
        unfold isK
        rw [hk1]
        have : ¬ ((1 : Int) = 3) := by decide
        rw [decide_eq_false this, Bool.and_false]
      rw [this]
      simp
    · by_cases e : g = i
      · subst e; exact hz
      · exact h.past g (by omega)
theorem r3_eq (named : Bt → Option Int) (nm : Nat → List Bt) (tds ls : List Bt) (hls : ls.length ≤ 100000) (hd : ∀ x ∈ tds, x.length ≤ 100000) (hn : tds.length ≤ 1000) (st : Mst) (h0 : R3 tds st 0) :
    ∀ i, i ≤ tds.length → (passM (skP named nm (stockF ls) 2) (txTo tds i) st).1.length = tds.length ∧
      (∀ o, r3To tds ls st.1 i = some o → (passM (skP named nm (stockF ls) 2) (txTo tds i) st).1 = o ∧ R3 tds (passM (skP named nm (stockF ls) 2) (txTo tds i) st) i) ∧
      (r3To tds ls st.1 i = none → ∃ g, g < i ∧ (passM (skP named nm (stockF ls) 2) (txTo tds i) st).1.getD g z3 = z3)
  | 0, _ => ⟨h0.len, fun o ho => (by injection ho with ho; exact ⟨ho, h0⟩), fun ho => by cases ho⟩
  | i + 1, hi => by
    obtain ⟨a, b, c⟩ := r3_eq named nm tds ls hls hd hn st h0 i (by omega)
    have hil : i < tds.length := hi
    have ed : tds.getD i [] = tds[i] := by rw [List.getD_eq_getElem?_getD, List.getElem?_eq_getElem hil, Option.getD_some]
    have hx : (txK i tds[i]).1 = (i, tds.getD i []) := by rw [ed]; exact txK_val i tds[i] (by omega) (hd _ (List.getElem_mem _))
    rw [txTo_succ tds i hil, passM_snoc]
    generalize txK i tds[i] = x at *
    generalize passM (skP named nm (stockF ls) 2) (txTo tds i) st = s at *
    have hlen : (stepM (skP named nm (stockF ls) 2) s x).1.length = tds.length := by
      unfold stepM
      split
      · show (s.1.set _ _).length = _
        rw [List.length_set]; exact a
      · exact a
    refine ⟨hlen, ?_⟩
    show (∀ o, (r3To tds ls st.1 i).bind (r3Step tds ls i) = some o → _) ∧ ((r3To tds ls st.1 i).bind (r3Step tds ls i) = none → _)
    cases e : r3To tds ls st.1 i with
    | none =>
      obtain ⟨g, hg, hz⟩ := c e
      refine ⟨fun o ho => (by cases ho), fun _ => ⟨g, by omega, ?_⟩⟩
      unfold stepM
      rw [hx]
      split
      · show (s.1.set i _).getD g z3 = z3
        rw [getD_set_sr _ _ _ _ (by rw [a]; exact hil), if_neg (by omega)]
        exact hz
      · exact hz
    | some o =>
      obtain ⟨h1, h2⟩ := b o e
      subst h1
      obtain ⟨k1, k2⟩ := r3_step named nm tds ls hls s i hil h2 x hx
      exact ⟨fun o' ho => k1 o' ho, fun ho => ⟨i, by omega, k2 ho⟩⟩
/-! the start -/
theorem shelf_all (ds : List Bt) (hd : ∀ x ∈ ds, x.length ≤ 100000) (hn : ds.length ≤ 1000) (d : Bt) : ∀ (i : Nat), i ≤ ds.length → shelfP (txTo ds i) d = ((List.range i).filter (fun g => decide (ds.getD g [] = d))).map (fun g : Nat => (g : Int))
  | 0, _ => rfl
  | i + 1, hi => by
    have hil : i < ds.length := hi
    have ed : ds.getD i [] = ds[i] := by rw [List.getD_eq_getElem?_getD, List.getElem?_eq_getElem hil, Option.getD_some]
    rw [txTo_succ ds i hil, shelfP_snoc, List.range_succ, List.filter_append, List.map_append]
    unfold shelfStep
    rw [txK_val i ds[i] (by omega) (hd _ (List.getElem_mem _))]
    by_cases e : d = ds[i]
    · subst e
      rw [updF_same, shelf_all ds hd hn _ i (by omega)]
      congr 1
      rw [List.filter_cons, ed]
      simp
    · rw [updF_other e, shelf_all ds hd hn d i (by omega)]
      have : ¬ (ds.getD i [] = d) := by rw [ed]; exact fun q => e q.symm
      rw [List.filter_cons, decide_eq_false this]
      simp
theorem ri_start (sds tds : List Bt) (hd : ∀ x ∈ sds, x.length ≤ 100000) (hn : sds.length ≤ 1000) : RI sds tds (List.replicate tds.length z3, ⟨shelfP (txL sds), fun _ => none⟩) (List.replicate sds.length false) := by
  have rz : ∀ g, (List.replicate tds.length z3).getD g z3 = z3 := fun g => by
    rw [List.getD_eq_getElem?_getD, List.getElem?_replicate]
    split <;> rfl
  refine ⟨List.length_replicate, List.length_replicate, fun d => ?_, fun d => ?_, fun g => .inl (rz g)⟩
  · show shelfP (txTo sds sds.length) d = _
    rw [shelf_all sds hd hn d _ (Nat.le_refl _)]
    unfold okL
    congr 1
    refine List.filter_congr (fun x hx => ?_)
    unfold okT
    have : (List.replicate sds.length false).getD x false = false := by
      rw [List.getD_eq_getElem?_getD, List.getElem?_replicate]
      split <;> rfl
    rw [this]
    simp
  · rw [List.find?_eq_none.2]
    · rfl
    · intro x hx
      unfold isK
      show ¬ (decide (tds.getD x [] = d) && decide (((List.replicate tds.length z3).getD x z3).1 = 1)) = true
      rw [rz]
      simp
/-- the document's own answer, of right trees and a right stock: none where a content is not at hand -/
def refL (sn tn : List Nd) (sds tds ls : List Bt) : Option (List Sr) :=
  r3To tds ls (rTo 1 sn tn sds tds (rTo 0 sn tn sds tds (List.replicate tds.length z3, List.replicate sds.length false) tds.length) tds.length).1 tds.length
theorem match_ref {sn tn : List Nd} {sf tf : List Fl} (h : looseE sn sf = 0) (ls : List Bt) (hls : ls.length ≤ 100000) (hn : tf.length ≤ 1000) (hn2 : sf.length ≤ 1000) (hd : ∀ x ∈ tf, x.data.length ≤ 100000) (hd2 : ∀ x ∈ sf, x.data.length ≤ 100000) :
    (∀ o, refL sn tn (sf.map Fl.data) (tf.map Fl.data) ls = some o → (matchL sn sf tn tf ls).1 = o ∧ z3 ∉ o) ∧ (refL sn tn (sf.map Fl.data) (tf.map Fl.data) ls = none → z3 ∈ (matchL sn sf tn tf ls).1) := by
  have hd' : ∀ x ∈ tf.map Fl.data, x.length ≤ 100000 := fun x hx => by obtain ⟨y, hy, rfl⟩ := List.mem_map.1 hx; exact hd y hy
  have hd2' : ∀ x ∈ sf.map Fl.data, x.length ≤ 100000 := fun x hx => by obtain ⟨y, hy, rfl⟩ := List.mem_map.1 hx; exact hd2 y hy
  have hn' : (tf.map Fl.data).length ≤ 1000 := by rw [List.length_map]; exact hn
  have hl : (sf.map Fl.data).length = sf.length := List.length_map _
  have st := ri_start (sf.map Fl.data) (tf.map Fl.data) hd2' (by rw [hl]; exact hn2)
  have p0 := pass_eq h tn _ _ hl ls hd' hn' 0 (by decide) _ _ st _ (Nat.le_refl _)
  have p1 := pass_eq h tn _ _ hl ls hd' hn' 1 (by decide) _ _ p0.1 _ (Nat.le_refl _)
  have p2 := r3_eq (namedF sn) (namesM tn) _ ls hls hd' hn' _ (r3_of p1.1) _ (Nat.le_refl _)
  have e : matchL sn sf tn tf ls = passM (skP (namedF sn) (namesM tn) (stockF ls) 2) (txTo (tf.map Fl.data) (tf.map Fl.data).length) (passM (skP (namedF sn) (namesM tn) (stockF ls) 1) (txTo (tf.map Fl.data) (tf.map Fl.data).length) (passM (skP (namedF sn) (namesM tn) (stockF ls) 0) (txTo (tf.map Fl.data) (tf.map Fl.data).length) (List.replicate (tf.map Fl.data).length z3, ⟨shelfP (txL (sf.map Fl.data)), fun _ => none⟩))) := by
    have hlt : (tf.map Fl.data).length = tf.length := List.length_map _
    unfold matchL
    rw [← hlt]
    rfl
  have er : refL sn tn (sf.map Fl.data) (tf.map Fl.data) ls = r3To (tf.map Fl.data) ls (passM (skP (namedF sn) (namesM tn) (stockF ls) 1) (txTo (tf.map Fl.data) (tf.map Fl.data).length) (passM (skP (namedF sn) (namesM tn) (stockF ls) 0) (txTo (tf.map Fl.data) (tf.map Fl.data).length) (List.replicate (tf.map Fl.data).length z3, ⟨shelfP (txL (sf.map Fl.data)), fun _ => none⟩))).1 (tf.map Fl.data).length := by
    unfold refL
    rw [p1.2, p0.2]
  rw [e, er]
  obtain ⟨a, b, c⟩ := p2
  refine ⟨fun o ho => ?_, fun ho => ?_⟩
  · obtain ⟨h1, h2⟩ := b o ho
    refine ⟨h1, fun hm => ?_⟩
    subst h1
    obtain ⟨k, hk, hz⟩ := List.getElem_of_mem hm
    refine h2.past k (by rw [← a]; exact hk) ?_
    rw [List.getD_eq_getElem?_getD, List.getElem?_eq_getElem hk, Option.getD_some]
    exact hz
  · obtain ⟨g, hg, hz⟩ := c ho
    exact getD_mem_z3 (by rw [a]; exact hg) hz
end Go.Mat
set_option linter.unusedSimpArgs false
set_option linter.unusedVariables false
namespace Go.Mat
open Go.Pth Go.Tre Go.Proofs.Ytiglakhfkgeefaa
theorem rStep_len {j : Nat} {sn tn : List Nd} {sds tds : List Bt} {s : List Sr × List Bool} {f : Nat} : (rStep j sn tn sds tds s f).1.length = s.1.length ∧ (rStep j sn tn sds tds s f).2.length = s.2.length := by
  unfold rStep
  split
  · exact ⟨rfl, rfl⟩
  · split
    · exact ⟨List.length_set, List.length_set⟩
    · exact ⟨rfl, rfl⟩
theorem rTo_len {j : Nat} {sn tn : List Nd} {sds tds : List Bt} {s : List Sr × List Bool} : ∀ i, (rTo j sn tn sds tds s i).1.length = s.1.length ∧ (rTo j sn tn sds tds s i).2.length = s.2.length
  | 0 => ⟨rfl, rfl⟩
  | i + 1 => by
    rw [rTo_succ]
    exact ⟨rStep_len.1.trans (rTo_len i).1, rStep_len.2.trans (rTo_len i).2⟩
theorem rfind_lt {sn : List Nd} {sf : List Fl} (h : looseE sn sf = 0) {tn : List Nd} {sds tds : List Bt} (hl : sds.length = sf.length) {tk : List Bool} {j f : Nat} (h0 : 0 ≤ rFind j sn tn sds tds tk f) : ∃ g : Nat, rFind j sn tn sds tds tk f = (g : Int) ∧ g < sds.length := by
  unfold rFind at *
  split at h0
  · rename_i hj
    rw [if_pos hj]
    unfold namedP at *
    cases e : (namesM tn f).findSome? (namedQ sn sds tk (tds.getD f [])) with
    | none => rw [e] at h0; simp at h0
    | some fr =>
      obtain ⟨g, rfl, h1, _⟩ := named_ok h hl e
      exact ⟨g, rfl, h1⟩
  · rename_i hj
    rw [if_neg hj]
    unfold alikeP at *
    cases e : (List.range sds.length).find? (okT sds tk (tds.getD f [])) with
    | none => rw [e] at h0; simp at h0
    | some g => exact ⟨g, rfl, List.mem_range.1 (List.mem_of_find?_eq_some e)⟩
/-- the two passes -/
def pS (sn tn : List Nd) (sds tds : List Bt) : Nat → List Sr × List Bool
  | 0 => (List.replicate tds.length z3, List.replicate sds.length false)
  | j + 1 => rTo j sn tn sds tds (pS sn tn sds tds j) tds.length
theorem pS_len (sn tn : List Nd) (sds tds : List Bt) : ∀ j, (pS sn tn sds tds j).1.length = tds.length ∧ (pS sn tn sds tds j).2.length = sds.length
  | 0 => ⟨List.length_replicate, List.length_replicate⟩
  | j + 1 => ⟨(rTo_len _).1.trans (pS_len sn tn sds tds j).1, (rTo_len _).2.trans (pS_len sn tn sds tds j).2⟩
theorem refL_pS (sn tn : List Nd) (sds tds ls : List Bt) : refL sn tn sds tds ls = r3To tds ls (pS sn tn sds tds 2).1 tds.length := rfl
theorem r3To_len {tds ls : List Bt} {o : List Sr} : ∀ (i : Nat) (q : List Sr), r3To tds ls o i = some q → q.length = o.length
  | 0, q, h => by injection h with h; rw [← h]
  | i + 1, q, h => by
    have h : (r3To tds ls o i).bind (r3Step tds ls i) = some q := h
    cases e : r3To tds ls o i with
    | none => rw [e] at h; cases h
    | some p =>
      rw [e] at h
      have h : r3Step tds ls i p = some q := h
      have := r3To_len i p e
      unfold r3Step at h
      split at h
      · injection h with h; rw [← h]; exact this
      · split at h
        · injection h with h; rw [← h, List.length_set]; exact this
        · split at h
          · cases h
          · injection h with h; rw [← h, List.length_set]; exact this
theorem r3To_none {tds ls : List Bt} {o : List Sr} {i : Nat} (h : r3To tds ls o i = none) : ∀ n, r3To tds ls o (i + n) = none
  | 0 => h
  | n + 1 => by
    show (r3To tds ls o (i + n)).bind _ = none
    rw [r3To_none h n]
    rfl
end Go.Mat
namespace Go.Proofs.Ytiglakhfkgeefaa
open Go.Mat Go.Stk Go.Pth Go.Tre Go.RowKit Go.Word Go.Shelf
structure RmW (w : World) (S T : Array Value) (gO gU : Nat) (out : List Sr) (tk : List Bool) (W : World) : Prop where
  b : Below w.heap.size w W
  s : Lies W w.heap.size 25 S
  t : Lies W (w.heap.size + 1) 25 T
  o : SrcR W gO out
  u : BlsAt W gU tk
  gt : w.heap.size + 1 < gO ∧ w.heap.size + 1 < gU ∧ gO ≠ gU
section
variable {w W W' : World} {S T : Array Value} {gO gU : Nat} {out : List Sr} {tk : List Bool}
theorem rm_below (h : RmW w S T gO gU out tk W) (hb : Below W.heap.size W W') : RmW w S T gO gU out tk W' :=
  ⟨h.b.trans (hb.mono h.b.size), lies_below h.s hb (lies_lt h.s), lies_below h.t hb (lies_lt h.t), srcR_below h.o (Nat.le_refl _) hb, lies_below h.u hb (lies_lt h.u), h.gt⟩
theorem rm_tk (h : RmW w S T gO gU out tk W) (g : Nat) : RmW w S T gO gU out (tk.set g true) (W.setCell ⟨gU, g, none⟩ (.bool true)) := by
  have e : ∀ k, k ≠ gU → (W.setCell ⟨gU, g, none⟩ (.bool true)).heap[k]? = W.heap[k]? := fun k hk => Below.heap_setCell W ⟨gU, g, none⟩ _ k hk
  have hg := h.gt
  refine ⟨below_setCell (p := ⟨gU, g, none⟩) h.b (by show w.heap.size ≤ gU; omega) _, (e _ (by omega)).trans h.s, (e _ (by omega)).trans h.t, srcR_keep h.o (e _ hg.2.2), ?_, h.gt⟩
  have := lies_set h.u g (.bool true)
  unfold BlsAt
  rw [List.map_set]
  simpa using this
theorem rm_out (h : RmW w S T gO gU out tk W) (i : Nat) (hi : i < out.length) (y : Sr) : RmW w S T gO gU (out.set i y) tk (W.setCells gO (i * 3) (srL y)) := by
  obtain ⟨h1, h2⟩ := srcR_set h.o i hi y
  have hg := h.gt
  have e : ∀ k, k < W.heap.size → k ≠ gO → (W.setCells gO (i * 3) (srL y)).heap[k]? = W.heap[k]? := fun k hk hne => h2.block k hk (by simpa using hne)
  refine ⟨⟨h2.os.trans h.b.os, h2.tape.trans h.b.tape, h2.output.trans h.b.output, Nat.le_trans h.b.size h2.size, fun k hk => (e k (Nat.lt_of_lt_of_le hk h.b.size) (by omega)).trans (h.b.block k hk)⟩, (e _ (lies_lt h.s) (by omega)).trans h.s, (e _ (lies_lt h.t) (by omega)).trans h.t, h1, (e _ (lies_lt h.u) (Ne.symm hg.2.2)).trans h.u, h.gt⟩
end
end Go.Proofs.Ytiglakhfkgeefaa
set_option linter.unusedSimpArgs false
set_option linter.unusedVariables false
namespace Go.Proofs.Ytiglakhfkgeefaa
open Go.Mat Go.Stk Go.Pth Go.Tre Go.RowKit Go.Word Go.Shelf
attribute [local go_sem] guard_eq guard_ne st_eql st_neq
/-- how the document's own Match ends -/
def RmE (ns : List Nd) (fs : List Fl) (ms : List Nd) (gs : List Fl) (ls : List Bt) (e : Ending) (W : World) : Prop := ∃ v, e = .returned (.tuple #[v, .int .i64 (errM ns fs ms gs ls)]) ∧
  (errM ns fs ms gs ls = 0 → ∃ g, v = .slice (some ⟨g, 0, none⟩) gs.length gs.length ∧ SrcR W g (matchL ns fs ms gs ls).1) ∧ (errM ns fs ms gs ls ≠ 0 → v = .slice none 0 0)
theorem rmE_bad {ns ms : List Nd} {fs gs : List Fl} {ls : List Bt} {W : World} {E : Int} (h0 : E ≠ 0) (h : errM ns fs ms gs ls = E) : RmE ns fs ms gs ls (.returned (.tuple #[.slice none 0 0, .int .i64 E])) W :=
  ⟨_, by rw [h], fun e => absurd (h.symm.trans e) h0, fun _ => rfl⟩
theorem rmE_good {ns ms : List Nd} {fs gs : List Fl} {ls : List Bt} {W : World} {g k : Nat} (h : errM ns fs ms gs ls = 0) (hk : k = gs.length) (hs : SrcR W g (matchL ns fs ms gs ls).1) : RmE ns fs ms gs ls (.returned (.tuple #[.slice (some ⟨g, 0, none⟩) k k, .int .i64 0])) W :=
  ⟨_, by rw [h], fun _ => ⟨g, by rw [hk], hs⟩, fun e => absurd h e⟩
theorem getD_data {gs : List Fl} {f : Nat} (h : f < gs.length) : (gs.map Fl.data).getD f [] = gs[f].data := by
  rw [List.getD_eq_getElem?_getD, List.getElem?_map, List.getElem?_eq_getElem h]
  rfl
theorem named_r (NA FA MA GA : Option Addr) (nc fc mc gc U uc : Nat) (ns ms : List Nd) (fs gs : List Fl) (f : Nat) (tk : List Bool) (w : World) (hN : NodesAt w NA ns) (hF : FilesAt w FA fs) (hM : NodesAt w MA ms) (hG : FilesAt w GA gs) (hU : BlsAt w U tk) (hf : f < gs.length) (ht : tk.length = fs.length) (hn : fs.length ≤ 1000000)
    (hn1 : ns.length ≤ 300) (hn2 : ms.length ≤ 300) (hx : ∀ x ∈ ns, x.file = -1 ∨ 0 ≤ x.file ∧ x.file < fs.length) :
    Calls Try.prog 36 #[.agg #[.slice NA ns.length nc, .slice FA fs.length fc], .agg #[.slice MA ms.length mc, .slice GA gs.length gc], .int .i64 (f : Int), .slice (some ⟨U, 0, none⟩) fs.length uc] w fun e w' => e = .returned (.int .i64 (rFind 0 ns ms (fs.map Fl.data) (gs.map Fl.data) tk f)) ∧ Below w.heap.size w w' := by
  have := named_any NA FA MA GA nc fc mc gc U uc ns ms fs gs f tk w hN hF hM hG hU hf ht hn hn1 hn2 hx
  rw [← getD_data hf, namesF_M] at this
  exact this
theorem alike_r (NA FA MA GA : Option Addr) (nc fc mc gc n n2 U uc : Nat) (ns ms : List Nd) (fs gs : List Fl) (f : Nat) (tk : List Bool) (w : World) (hF : FilesAt w FA fs) (hG : FilesAt w GA gs) (hU : BlsAt w U tk) (hf : f < gs.length) (ht : tk.length = fs.length) (hn : fs.length ≤ 1000000) :
    Calls Try.prog 37 #[.agg #[.slice NA n nc, .slice FA fs.length fc], .agg #[.slice MA n2 mc, .slice GA gs.length gc], .int .i64 (f : Int), .slice (some ⟨U, 0, none⟩) fs.length uc] w fun e w' => e = .returned (.int .i64 (rFind 1 ns ms (fs.map Fl.data) (gs.map Fl.data) tk f)) ∧ Below w.heap.size w w' := by
  have := alike_any NA FA MA GA nc fc mc gc n n2 U uc fs gs f tk w hF hG hU hf ht hn
  rw [← getD_data hf] at this
  exact this
set_option maxRecDepth 100000 in
set_option maxHeartbeats 16000000 in
theorem refmatch_any (NA FA MA GA LA : Option Addr) (nc fc mc gc lc : Nat) (ns ms : List Nd) (fs gs : List Fl) (ls : List Bt) (w : World) (hN : NodesAt w NA ns) (hF : FilesAt w FA fs) (hM : NodesAt w MA ms) (hG : FilesAt w GA gs) (hL : ListQ w LA ls)
    (hs : Small ns fs) (ht : Small ms gs) (hl : SmallL ls) :
    Calls Try.prog 17 #[.agg #[.slice NA ns.length nc, .slice FA fs.length fc], .agg #[.slice MA ms.length mc, .slice GA gs.length gc], .slice LA ls.length lc] w fun e w' => RmE ns fs ms gs ls e w' ∧ Below w.heap.size w w' := by
  have C1 := Lib.hid (fun (W : World) (h : Below w.heap.size w W) => check_ref NA FA nc fc ns fs W (nodesAt_below hN h) (filesAt_below hF h) (fun x hx => by have := hs.2.2.1 x hx; omega))
  have C2 := Lib.hid (fun (W : World) (h : Below w.heap.size w W) => check_ref MA GA mc gc ms gs W (nodesAt_below hM h) (filesAt_below hG h) (fun x hx => by have := ht.2.2.1 x hx; omega))
  have C3 := Lib.hid (fun (W : World) (h : Below w.heap.size w W) => refscheck_any LA lc (ls.map List.length) W (lensAt_of (listQ_below hL h)) (by intro y hy; obtain ⟨x, hx, rfl⟩ := List.mem_map.1 hy; have := hl.2 x hx; omega))
  have KN := Lib.hid (fun (W : World) (h : Below w.heap.size w W) (U f : Nat) (tk : List Bool) (hU : BlsAt W U tk) (hf : f < gs.length) (h1 : tk.length = fs.length) (hx : ∀ x ∈ ns, x.file = -1 ∨ 0 ≤ x.file ∧ x.file < fs.length) => named_r NA FA MA GA nc fc mc gc U fs.length ns ms fs gs f tk W (nodesAt_below hN h) (filesAt_below hF h) (nodesAt_below hM h) (filesAt_below hG h) hU hf h1 (by have := hs.2.1; omega) hs.1 ht.1 hx)
  have KA := Lib.hid (fun (W : World) (h : Below w.heap.size w W) (U f : Nat) (tk : List Bool) (hU : BlsAt W U tk) (hf : f < gs.length) (h1 : tk.length = fs.length) => alike_r NA FA MA GA nc fc mc gc ns.length ms.length U fs.length ns ms fs gs f tk W (filesAt_below hF h) (filesAt_below hG h) hU hf h1 (by have := hs.2.1; omega))
  have KF := Lib.hid (fun (W : World) (h : Below w.heap.size w W) (DA : Option Addr) (dc : Nat) (b : Bt) (hb : BytesAt W DA b) => reffind_any LA DA lc dc ls b W (listQ_below hL h) hb (by have := hl.1; omega))
  have HGs := Lib.hid (fun (W : World) (h : Below w.heap.size w W) => filesAt_below hG h)
  have MR := Lib.hid (fun (h : looseE ns fs = 0) => match_ref (tn := ms) (tf := gs) h ls (by have := hl.1; omega) (by have := ht.2.1; omega) (by have := hs.2.1; omega) (fun x hx => by have := ht.2.2.2 x hx; omega) (fun x hx => by have := hs.2.2.2 x hx; omega))
  have SM := Lib.hid (And.intro hs (And.intro ht hl))
  obtain ⟨n, hne⟩ : ∃ n, n = ns.length := ⟨_, rfl⟩
  obtain ⟨m, hme⟩ : ∃ m, m = fs.length := ⟨_, rfl⟩
  obtain ⟨nl, hnl⟩ : ∃ nl, nl = ms.length := ⟨_, rfl⟩
  obtain ⟨k, hke⟩ : ∃ k, k = gs.length := ⟨_, rfl⟩
  obtain ⟨kl, hkl⟩ : ∃ kl, kl = ls.length := ⟨_, rfl⟩
  have ME := Lib.hid hme
  have KE := Lib.hid hke
  have LE := Lib.hid hkl
  have hmB : m ≤ 300 := by rw [hme]; exact hs.2.1
  have hkB : k ≤ 300 := by rw [hke]; exact ht.2.1
  rw [List.length_map] at C3
  rw [← hne, ← hme] at C1
  rw [← hnl, ← hke] at C2
  rw [← hkl] at C3
  rw [← hkl] at KF
  rw [← hne, ← hme, ← hnl, ← hke] at KN
  rw [← hne, ← hme, ← hnl, ← hke] at KA
  rw [← hne, ← hme, ← hnl, ← hke, ← hkl]
  clear hN hF hM hG hL hs ht hl hne hme hnl hke hkl
  have L1 := lies_alloc (lies_new w 25 #[.slice NA n nc, .slice FA m fc]) (.cells #[.slice MA nl mc, .slice GA k gc] 25)
  have L2 := lies_new (w.alloc (.cells #[.slice NA n nc, .slice FA m fc] 25)) 25 #[.slice MA nl mc, .slice GA k gc]
  rw [World.size_alloc] at L2
  have hB : Below w.heap.size w ((w.alloc (.cells #[.slice NA n nc, .slice FA m fc] 25)).alloc (.cells #[.slice MA nl mc, .slice GA k gc] 25)) := ((Below.refl _ _).alloc (Nat.le_refl _) _).alloc (by simp) _
  have HB := Lib.hid hB
  have LX := Lib.hid L1
  have LY := Lib.hid L2
  have XS := Lib.hid (show ((w.alloc (.cells #[.slice NA n nc, .slice FA m fc] 25)).alloc (.cells #[.slice MA nl mc, .slice GA k gc] 25)).heap.size = w.heap.size + 2 by simp)
  clear hB L1 L2
  go_enter Try.func17, Try.ntmps17
  go_upto_region 1 with (fail)
  generalize (w.alloc (.cells #[.slice NA n nc, .slice FA m fc] 25)).alloc (.cells #[.slice MA nl mc, .slice GA k gc] 25) = X at *
  have R1 := Lib.hid (rng2 LX.out)
  obtain ⟨c1, hc1⟩ : ∃ c1, c1 = checkE ns fs := ⟨_, rfl⟩
  have E1 := Lib.hid hc1
  rw [← hc1] at C1
  clear hc1
  go_upto_region 2 with (first
    | (refine wpList_load_mid rfl 25 _ rfl w.heap.size 0 rfl [.slice NA n nc, .slice FA m fc] _ R1.out Try.underlying25 rfl (by kernel_rfl) ?_)
    | (go_at_call 20; (with_reducible refine (C1.out X HB.out).mono ?_); rintro e w1 ⟨rfl, hb⟩; have B1 := Lib.hid (HB.out.trans (hb.mono HB.out.size)); have S1 := Lib.hid (lies_below LX.out hb (lies_lt LX.out)); have T1 := Lib.hid (lies_below LY.out hb (lies_lt LY.out)); have Z1 := Lib.hid (show w.heap.size + 2 ≤ w1.heap.size by have := hb.size; have := XS.out; omega); clear hb))
  clear C1 R1 HB LX LY XS
  by_cases h1 : c1 ≠ 0
  · have g1 : (c1 != 0) = true := by simpa using h1
    have g2 : (c1 == 0) = false := by simpa using h1
    have EE := Lib.hid (show errM ns fs ms gs ls = c1 by unfold errM; rw [← E1.out, if_neg h1, if_pos h1])
    have H1 := Lib.hid h1
    clear h1
    go_wp2
    (try simp only [Exit.inBlock, Exit.then])
    refine bodyPost_ret (results_tmp2 rfl _ _ _) rfl ?_
    exact ⟨rmE_bad H1.out EE.out, B1.out⟩
  obtain rfl : c1 = 0 := Decidable.not_not.1 h1
  clear h1
  have R2 := Lib.hid (rng2 T1.out)
  obtain ⟨c2, hc2⟩ : ∃ c2, c2 = checkE ms gs := ⟨_, rfl⟩
  have E2 := Lib.hid hc2
  rw [← hc2] at C2
  clear hc2
  go_upto_region 3 with (fail)
  go_upto_region 4 with (first
    | (refine wpList_load_mid rfl 25 _ rfl (w.heap.size + 1) 0 rfl [.slice MA nl mc, .slice GA k gc] _ R2.out Try.underlying25 rfl (by kernel_rfl) ?_)
    | (go_at_call 20; (with_reducible refine (C2.out w1 B1.out).mono ?_); rintro e w2 ⟨rfl, hb⟩; have B2 := Lib.hid (B1.out.trans (hb.mono B1.out.size)); have S2 := Lib.hid (lies_below S1.out hb (lies_lt S1.out)); have T2 := Lib.hid (lies_below T1.out hb (lies_lt T1.out)); have Z2 := Lib.hid (show w.heap.size + 2 ≤ w2.heap.size by have := hb.size; have := Z1.out; omega); clear hb))
  clear C2 R2 B1 S1 T1 Z1
  have EA := Lib.hid (show (if checkE ns fs = 0 then checkE ms gs else checkE ns fs) = c2 by rw [← E1.out, if_pos rfl, E2.out])
  by_cases h1 : c2 ≠ 0
  · have g1 : (c2 != 0) = true := by simpa using h1
    have g2 : (c2 == 0) = false := by simpa using h1
    have EE := Lib.hid (show errM ns fs ms gs ls = c2 by unfold errM; rw [EA.out, if_pos h1])
    have H1 := Lib.hid h1
    clear h1
    go_wp2
    (try simp only [Exit.inBlock, Exit.then])
    refine bodyPost_ret (results_tmp2 rfl _ _ _) rfl ?_
    exact ⟨rmE_bad H1.out EE.out, B2.out⟩
  obtain rfl : c2 = 0 := Decidable.not_not.1 h1
  clear h1
  obtain ⟨c3, hc3⟩ : ∃ c3, c3 = Stk.checkL (ls.map List.length) := ⟨_, rfl⟩
  have E3 := Lib.hid hc3
  rw [← hc3] at C3
  clear hc3
  go_upto_region 5 with (fail)
  go_upto_region 6 with (go_at_call 22; (with_reducible refine (C3.out w2 B2.out).mono ?_); rintro e w3 ⟨rfl, rfl⟩)
  clear C3
  by_cases h1 : c3 ≠ 0
  · have g1 : (c3 != 0) = true := by simpa using h1
    have g2 : (c3 == 0) = false := by simpa using h1
    have n0 : ¬ ((0 : Int) ≠ 0) := fun h => h rfl
    have EE := Lib.hid (show errM ns fs ms gs ls = c3 by unfold errM; rw [EA.out, if_neg n0, ← E3.out, if_pos h1])
    have H1 := Lib.hid h1
    clear h1 n0
    go_wp2
    (try simp only [Exit.inBlock, Exit.then])
    refine bodyPost_ret (results_tmp2 rfl _ _ _) rfl ?_
    exact ⟨rmE_bad H1.out EE.out, B2.out⟩
  obtain rfl : c3 = 0 := Decidable.not_not.1 h1
  clear h1
  have LO := Lib.hid (check_loose E1.out.symm)
  have EM := Lib.hid (show errM ns fs ms gs ls = if z3 ∈ (matchL ns fs ms gs ls).1 then 32 else 0 by
    unfold errM
    have n0 : ¬ ((0 : Int) ≠ 0) := fun h => h rfl
    rw [EA.out, if_neg n0, ← E3.out, if_neg n0])
  have M2 := Lib.hid (MR.out LO.out)
  clear MR E1 E2 E3 EA
  obtain ⟨sds, hsd⟩ : ∃ sds, sds = fs.map Fl.data := ⟨_, rfl⟩
  obtain ⟨tds, htd⟩ : ∃ tds, tds = gs.map Fl.data := ⟨_, rfl⟩
  have SD := Lib.hid hsd
  have TD := Lib.hid htd
  have sl : sds.length = m := by rw [hsd, List.length_map]; exact ME.out.symm
  have tl : tds.length = k := by rw [htd, List.length_map]; exact KE.out.symm
  have SL := Lib.hid sl
  have TL := Lib.hid tl
  rw [← hsd, ← htd, refL_pS, tl] at M2
  rw [← hsd, ← htd] at KN KA
  have P0 := Lib.hid (show pS ns ms sds tds 0 = (List.replicate k z3, List.replicate m false) by rw [← sl, ← tl]; rfl)
  have PS := Lib.hid (fun j => show pS ns ms sds tds (j + 1) = rTo j ns ms sds tds (pS ns ms sds tds j) k by rw [← tl]; rfl)
  have PL := Lib.hid (pS_len ns ms sds tds)
  rw [sl, tl] at PL
  clear hsd htd sl tl
  have c0 := lies_cell T2.out 1
  have c1 := lies_cell S2.out 1
  simp only [List.getElem?_toArray, List.getElem?_cons_zero, List.getElem?_cons_succ] at c0 c1
  have MD := made_srcs w2 k (by omega)
  have MB := made_bools (w2.alloc (.cells (madeCells #[.int .i64 0, .int .i64 0, .int .i64 0] (k * 3)) 54)) m (by omega)
  have c2 : (w2.alloc (.cells (madeCells #[.int .i64 0, .int .i64 0, .int .i64 0] (k * 3)) 54)).cell? ⟨w.heap.size, 1, none⟩ = some (.slice FA m fc) := lies_cell (lies_alloc S2.out _) 1
  rw [World.size_alloc] at MB
  obtain ⟨gO, hgO⟩ : ∃ gO, gO = w2.heap.size := ⟨_, rfl⟩
  have GO := Lib.hid hgO
  have RW := Lib.hid (show RmW w #[.slice NA n nc, .slice FA m fc] #[.slice MA nl mc, .slice GA k gc] gO (gO + 1) (List.replicate k z3) (List.replicate m false) ((w2.alloc (.cells (madeCells #[.int .i64 0, .int .i64 0, .int .i64 0] (k * 3)) 54)).alloc (.cells (madeCells #[.bool false] m) 4)) from by
    have z := Z2.out
    refine ⟨(B2.out.alloc B2.out.size _).alloc (by simp; have := B2.out.size; omega) _, lies_alloc (lies_alloc S2.out _) _, lies_alloc (lies_alloc T2.out _) _, ?_, ?_, by omega, by omega, by omega⟩
    · rw [hgO]
      exact srcR_keep (srcR_made w2 k) (heap_alloc_old _ _ (by simp))
    · rw [hgO]
      have := lies_new (w2.alloc (.cells (madeCells #[.int .i64 0, .int .i64 0, .int .i64 0] (k * 3)) 54)) 4 (madeCells #[.bool false] m)
      rw [World.size_alloc] at this
      have e : madeCells #[.bool false] m = ((List.replicate m false).map Value.bool).toArray := by
        apply Array.ext
        · simp [size_madeCells]
        · intro i h1 h2
          simp [madeCells, Nat.mod_one]
      unfold BlsAt
      rw [← e]
      exact this)
  rw [← hgO] at MD MB
  clear hgO B2 S2 T2 Z2
  go_upto_region 10 with (fail)
  generalize (w2.alloc (.cells (madeCells #[.int .i64 0, .int .i64 0, .int .i64 0] (k * 3)) 54)).alloc (.cells (madeCells #[.bool false] m) 4) = XU at *
  clear MD MB c0 c1 c2
  have RW := Lib.hid (show RmW w #[.slice NA n nc, .slice FA m fc] #[.slice MA nl mc, .slice GA k gc] gO (gO + 1) (pS ns ms sds tds 0).1 (pS ns ms sds tds 0).2 XU from by rw [P0.out]; exact RW.out)
  go_wp2
  go_loopw [11] (fun v11 wr => ∃ p j : Nat, p = j + 1 ∧ j ≤ 2 ∧ v11 = .int .i64 (p : Int) ∧ RmW w #[.slice NA n nc, .slice FA m fc] #[.slice MA nl mc, .slice GA k gc] gO (gO + 1) (pS ns ms sds tds j).1 (pS ns ms sds tds j).2 wr) (fun v11 _ => 3 - (intOf v11).toNat)
  case atStart => exact ⟨1, 0, rfl, by omega, rfl, RW.out⟩
  case round =>
    obtain ⟨p, j, hp, hj, rfl, hR⟩ := hrel
    have RJ := Lib.hid hR
    clear hR
    by_cases hj2 : j < 2
    · have lj : (p : Int) ≤ 2 := by omega
      go_wp2
      go_loopw [12] (fun v12 wr => ∃ i : Nat, i ≤ k ∧ v12 = .int .i64 (i : Int) ∧ RmW w #[.slice NA n nc, .slice FA m fc] #[.slice MA nl mc, .slice GA k gc] gO (gO + 1) (rTo j ns ms sds tds (pS ns ms sds tds j) i).1 (rTo j ns ms sds tds (pS ns ms sds tds j) i).2 wr) (fun v12 _ => k - (intOf v12).toNat)
      case atStart => exact ⟨0, Nat.zero_le _, rfl, RJ.out⟩
      case round =>
        obtain ⟨i, hi, rfl, hR⟩ := hrel
        have y0 := lies_cell hR.t 1
        simp only [List.getElem?_toArray, List.getElem?_cons_zero, List.getElem?_cons_succ] at y0
        by_cases hlt : i < k
        · have li : (i : Int) < (k : Int) := by omega
          have lf : i < gs.length := by have := KE.out; omega
          have ST := rTo_succ j ns ms sds tds (pS ns ms sds tds j) i
          have ql := (rTo_len (j := j) (sn := ns) (tn := ms) (sds := sds) (tds := tds) (s := pS ns ms sds tds j) i)
          have ql1 : (rTo j ns ms sds tds (pS ns ms sds tds j) i).1.length = k := ql.1.trans (PL.out j).1
          have ql2 : (rTo j ns ms sds tds (pS ns ms sds tds j) i).2.length = m := ql.2.trans (PL.out j).2
          obtain ⟨q, hq⟩ : ∃ q, q = rTo j ns ms sds tds (pS ns ms sds tds j) i := ⟨_, rfl⟩
          have QE := Lib.hid hq
          rw [← hq] at ST ql1 ql2 hR
          have lq : i < q.1.length := by omega
          have r0 := srcR_at hR.o i lq
          have GD : q.1.getD i z3 = q.1[i] := by rw [List.getD_eq_getElem?_getD, List.getElem?_eq_getElem lq, Option.getD_some]
          have RI := Lib.hid hR
          have STE := Lib.hid ST
          have GDE := Lib.hid GD
          have QL := Lib.hid (And.intro ql1 ql2)
          have x0 := r0 0 _ rfl
          simp only [Nat.add_zero] at x0
          obtain ⟨kd, hkd⟩ : ∃ kd, kd = q.1[i].1 := ⟨_, rfl⟩
          rw [← hkd] at x0
          have KD := Lib.hid hkd
          clear hR hq ST GD ql ql1 ql2 r0 hkd
          by_cases hk : kd = 0
          · subst hk
            have RS := Lib.hid (rng2 RI.out.s)
            have RT := Lib.hid (rng2 RI.out.t)
            have UU := RI.out.u
            have FND := Lib.hid (rfind_lt LO.out (tn := ms) (sds := sds) (tds := tds) (by rw [SL.out]; exact ME.out) (tk := q.2) (j := j) (f := i))
            have STP := Lib.hid (show rStep j ns ms sds tds q i = if 0 ≤ rFind j ns ms sds tds q.2 i then (q.1.set i (1, rFind j ns ms sds tds q.2 i, 0), q.2.set (rFind j ns ms sds tds q.2 i).toNat true) else q by
              unfold rStep
              rw [if_neg (by rw [GDE.out, ← KD.out]; simp)])
            rcases (show j = 0 ∨ j = 1 by omega) with rfl | rfl
            · have KC := Lib.hid (KN.out wr RI.out.b (gO + 1) i q.2 UU hlt QL.out.2 (by intro x hx; have := loose_files LO.out x hx; have := ME.out; omega))
              clear UU
              have g1 : ((p : Int) == 1) = true := by subst hp; rfl
              obtain ⟨r, hr⟩ : ∃ r, r = rFind 0 ns ms sds tds q.2 i := ⟨_, rfl⟩
              rw [← hr] at KC FND STP
              clear hr
              go_upto_region 19 with (fail)
              go_upto_region 21 with (first
                | (refine wpList_load_mid rfl 25 _ rfl w.heap.size 0 rfl [.slice NA n nc, .slice FA m fc] _ RS.out Try.underlying25 rfl (by kernel_rfl) ?_)
                | (refine wpList_load_mid rfl 25 _ rfl (w.heap.size + 1) 0 rfl [.slice MA nl mc, .slice GA k gc] _ RT.out Try.underlying25 rfl (by kernel_rfl) ?_)
                | (go_at_call 36; (with_reducible refine KC.out.mono ?_); rintro e w5 ⟨rfl, hb⟩; have R5 := Lib.hid (rm_below RI.out hb); clear hb))
              clear RS RT KC x0 y0
              by_cases hr0 : 0 ≤ r
              · obtain ⟨g, rfl, hg⟩ := FND.out hr0
                have hgm : g < m := by have := SL.out; omega
                have lg : (g : Int) < (m : Int) := by omega
                have gge : (g : Int) ≥ 0 := by omega
                have gq : g < q.2.length := by have := QL.out.2; omega
                have u0 := bls_cell R5.out.u g gq
                have uz := lies_free R5.out.u g
                have R6 := Lib.hid (rm_tk R5.out g)
                have TH := Lib.hid (srcR_there R6.out.o i (by have := QL.out.1; omega))
                have RN := Lib.hid (show RmW w #[.slice NA n nc, .slice FA m fc] #[.slice MA nl mc, .slice GA k gc] gO (gO + 1) (rTo 0 ns ms sds tds (pS ns ms sds tds 0) (i + 1)).1 (rTo 0 ns ms sds tds (pS ns ms sds tds 0) (i + 1)).2 ((w5.setCell ⟨gO + 1, g, none⟩ (.bool true)).setCells gO (i * 3) [.int .i64 1, .int .i64 (g : Int), .int .i64 0]) from by
                  rw [STE.out, STP.out, if_pos hr0, Int.toNat_natCast]
                  exact rm_out R6.out i (by have := QL.out.1; omega) (1, (g : Int), 0))
                clear STE STP FND hr0 hg
                go_upto_region 23 with (fail)
                generalize w5.setCell ⟨gO + 1, g, none⟩ (.bool true) = X7 at *
                clear u0 uz R5 lg gge RI SL TL P0 PS PL M2 KF KN KA HGs SM KE LE EM LO
                go_upto_region 15 with (refine wpList_store_mid rfl 54 _ _ rfl gO (i * 3) #[.int .i64 1, .int .i64 (g : Int), .int .i64 0] rfl rfl TH.out (by kernel_rfl) (by simp [Value.oneCell']) ?_)
                generalize X7.setCells gO (i * 3) [.int .i64 1, .int .i64 (g : Int), .int .i64 0] = X8 at *
                go_wp2
                obtain rfl : p = 1 := by omega
                refine ⟨⟨_, _, _, _, _, _, _, _, _, _, _, _, _, _, _, _, _, _, _, _, _, _, _, _, _, _, _, _, _, _, _, _, _, _, _, _, _, ?rel, rfl⟩, ?measure⟩
                case rel => exact ⟨i + 1, by omega, by go_num, RN.out⟩
                case measure => first | (simp [intOf]; done) | (simp [intOf]; omega)
              · have nge : ¬ r ≥ 0 := hr0
                have RN := Lib.hid (show RmW w #[.slice NA n nc, .slice FA m fc] #[.slice MA nl mc, .slice GA k gc] gO (gO + 1) (rTo 0 ns ms sds tds (pS ns ms sds tds 0) (i + 1)).1 (rTo 0 ns ms sds tds (pS ns ms sds tds 0) (i + 1)).2 w5 from by
                  rw [STE.out, STP.out, if_neg hr0]
                  exact R5.out)
                clear STE STP FND
                go_wp2
                obtain rfl : p = 1 := by omega
                go_roundw
                case rel => exact ⟨i + 1, by omega, by go_num, RN.out⟩
                case measure => first | (simp [intOf]; done) | (simp [intOf]; omega)
            · have KC := Lib.hid (KA.out wr RI.out.b (gO + 1) i q.2 UU hlt QL.out.2)
              clear UU
              have g1 : ((p : Int) == 1) = false := by subst hp; rfl
              obtain ⟨r, hr⟩ : ∃ r, r = rFind 1 ns ms sds tds q.2 i := ⟨_, rfl⟩
              rw [← hr] at KC FND STP
              clear hr
              go_upto_region 20 with (fail)
              go_upto_region 21 with (first
                | (refine wpList_load_mid rfl 25 _ rfl w.heap.size 0 rfl [.slice NA n nc, .slice FA m fc] _ RS.out Try.underlying25 rfl (by kernel_rfl) ?_)
                | (refine wpList_load_mid rfl 25 _ rfl (w.heap.size + 1) 0 rfl [.slice MA nl mc, .slice GA k gc] _ RT.out Try.underlying25 rfl (by kernel_rfl) ?_)
                | (go_at_call 37; (with_reducible refine KC.out.mono ?_); rintro e w5 ⟨rfl, hb⟩; have R5 := Lib.hid (rm_below RI.out hb); clear hb))
              clear RS RT KC x0 y0
              by_cases hr0 : 0 ≤ r
              · obtain ⟨g, rfl, hg⟩ := FND.out hr0
                have hgm : g < m := by have := SL.out; omega
                have lg : (g : Int) < (m : Int) := by omega
                have gge : (g : Int) ≥ 0 := by omega
                have gq : g < q.2.length := by have := QL.out.2; omega
                have u0 := bls_cell R5.out.u g gq
                have uz := lies_free R5.out.u g
                have R6 := Lib.hid (rm_tk R5.out g)
                have TH := Lib.hid (srcR_there R6.out.o i (by have := QL.out.1; omega))
                have RN := Lib.hid (show RmW w #[.slice NA n nc, .slice FA m fc] #[.slice MA nl mc, .slice GA k gc] gO (gO + 1) (rTo 1 ns ms sds tds (pS ns ms sds tds 1) (i + 1)).1 (rTo 1 ns ms sds tds (pS ns ms sds tds 1) (i + 1)).2 ((w5.setCell ⟨gO + 1, g, none⟩ (.bool true)).setCells gO (i * 3) [.int .i64 1, .int .i64 (g : Int), .int .i64 0]) from by
                  rw [STE.out, STP.out, if_pos hr0, Int.toNat_natCast]
                  exact rm_out R6.out i (by have := QL.out.1; omega) (1, (g : Int), 0))
                clear STE STP FND hr0 hg
                go_upto_region 23 with (fail)
                generalize w5.setCell ⟨gO + 1, g, none⟩ (.bool true) = X7 at *
                clear u0 uz R5 lg gge RI SL TL P0 PS PL M2 KF KN KA HGs SM KE LE EM LO
                go_upto_region 15 with (refine wpList_store_mid rfl 54 _ _ rfl gO (i * 3) #[.int .i64 1, .int .i64 (g : Int), .int .i64 0] rfl rfl TH.out (by kernel_rfl) (by simp [Value.oneCell']) ?_)
                generalize X7.setCells gO (i * 3) [.int .i64 1, .int .i64 (g : Int), .int .i64 0] = X8 at *
                go_wp2
                obtain rfl : p = 2 := by omega
                refine ⟨⟨_, _, _, _, _, _, _, _, _, _, _, _, _, _, _, _, _, _, _, _, _, _, _, _, _, _, _, _, _, _, _, _, _, _, _, _, _, ?rel, rfl⟩, ?measure⟩
                case rel => exact ⟨i + 1, by omega, by go_num, RN.out⟩
                case measure => first | (simp [intOf]; done) | (simp [intOf]; omega)
              · have nge : ¬ r ≥ 0 := hr0
                have RN := Lib.hid (show RmW w #[.slice NA n nc, .slice FA m fc] #[.slice MA nl mc, .slice GA k gc] gO (gO + 1) (rTo 1 ns ms sds tds (pS ns ms sds tds 1) (i + 1)).1 (rTo 1 ns ms sds tds (pS ns ms sds tds 1) (i + 1)).2 w5 from by
                  rw [STE.out, STP.out, if_neg hr0]
                  exact R5.out)
                clear STE STP FND
                go_wp2
                obtain rfl : p = 2 := by omega
                go_roundw
                case rel => exact ⟨i + 1, by omega, by go_num, RN.out⟩
                case measure => first | (simp [intOf]; done) | (simp [intOf]; omega)
          · have kb : (kd != 0) = true := by simpa using hk
            have RN := Lib.hid (show RmW w #[.slice NA n nc, .slice FA m fc] #[.slice MA nl mc, .slice GA k gc] gO (gO + 1) (rTo j ns ms sds tds (pS ns ms sds tds j) (i + 1)).1 (rTo j ns ms sds tds (pS ns ms sds tds j) (i + 1)).2 wr from by
              have : rStep j ns ms sds tds q i = q := by
                unfold rStep
                rw [if_pos (by rw [GDE.out, ← KD.out]; exact hk)]
              rw [STE.out, this]
              exact RI.out)
            clear hk
            go_wp2
            go_roundw
            case rel => exact ⟨i + 1, by omega, by go_num, RN.out⟩
            case measure => first | (simp [intOf]; done) | (simp [intOf]; omega)
        · have hik : i = k := by omega
          subst hik
          have li : ¬ (i : Int) < (i : Int) := by omega
          have RN := Lib.hid (show RmW w #[.slice NA n nc, .slice FA m fc] #[.slice MA nl mc, .slice GA i gc] gO (gO + 1) (pS ns ms sds tds (j + 1)).1 (pS ns ms sds tds (j + 1)).2 wr from by
            rw [PS.out j]; exact hR)
          clear hR
          go_wp2
          go_roundw
          case rel => exact ⟨p + 1, j + 1, by omega, by omega, by go_num, RN.out⟩
          case measure => first | (simp [intOf]; done) | (simp [intOf]; omega)
    · have lj : ¬ (p : Int) ≤ 2 := by omega
      obtain rfl : j = 2 := by omega
      obtain ⟨o2, ho2⟩ : ∃ o2, o2 = (pS ns ms sds tds 2).1 := ⟨_, rfl⟩
      obtain ⟨tk, htk⟩ : ∃ tk, tk = (pS ns ms sds tds 2).2 := ⟨_, rfl⟩
      have O2L := Lib.hid (show o2.length = k by rw [ho2]; exact (PL.out 2).1)
      have RJ2 := Lib.hid (show RmW w #[.slice NA n nc, .slice FA m fc] #[.slice MA nl mc, .slice GA k gc] gO (gO + 1) o2 tk wr from by rw [ho2, htk]; exact RJ.out)
      rw [← ho2] at M2
      clear ho2 htk RJ PS P0 PL KN KA RW
      go_wp2
      go_loopw [14] (fun v14 wr => ∃ (i : Nat) (o : List Sr), i ≤ k ∧ v14 = .int .i64 (i : Int) ∧ r3To tds ls o2 i = some o ∧ RmW w #[.slice NA n nc, .slice FA m fc] #[.slice MA nl mc, .slice GA k gc] gO (gO + 1) o tk wr) (fun v14 _ => k - (intOf v14).toNat)
      case atStart => exact ⟨0, o2, Nat.zero_le _, rfl, rfl, RJ2.out⟩
      case round =>
        obtain ⟨i, o, hi, rfl, ho, hR⟩ := hrel
        have OL := Lib.hid (show o.length = k from (r3To_len i o ho).trans O2L.out)
        have RI := Lib.hid hR
        have HO := Lib.hid ho
        have y0 := lies_cell hR.t 1
        simp only [List.getElem?_toArray, List.getElem?_cons_zero, List.getElem?_cons_succ] at y0
        clear hR ho
        by_cases hlt : i < k
        · have li : (i : Int) < (k : Int) := by omega
          have lf : i < gs.length := by have := KE.out; omega
          have lq : i < o.length := by have := OL.out; omega
          have r0 := srcR_at RI.out.o i lq
          have GDE := Lib.hid (show o.getD i z3 = o[i] by rw [List.getD_eq_getElem?_getD, List.getElem?_eq_getElem lq, Option.getD_some])
          have x0 := r0 0 _ rfl
          simp only [Nat.add_zero] at x0
          obtain ⟨kd, hkd⟩ : ∃ kd, kd = o[i].1 := ⟨_, rfl⟩
          rw [← hkd] at x0
          have KD := Lib.hid hkd
          have NXT := Lib.hid (show r3To tds ls o2 (i + 1) = r3Step tds ls i o by
            show (r3To tds ls o2 i).bind (r3Step tds ls i) = _
            rw [HO.out]
            rfl)
          clear r0 hkd
          by_cases hk : kd = 0
          · subst hk
            obtain ⟨b2, o3, DB, db, eB, hl2, m2, d2, hby2⟩ := HGs.out wr RI.out.b i lf
            have TE := Lib.hid (show tds.getD i [] = gs[i].data by rw [TD.out]; exact getD_data lf)
            obtain ⟨d, hd⟩ : ∃ d, d = gs[i].data := ⟨_, rfl⟩
            rw [← hd] at d2 hby2 TE
            have D2 := Lib.hid d2
            have BY2 := Lib.hid hby2
            subst eB
            clear hd m2 d2 hby2 hl2
            generalize wr = W0 at *
            go_wp2
            go_loopw [15, 16] (fun v15 v16 wq => ∃ (g q : Nat) (F : Int), g ≤ k ∧ v16 = .int .i64 (g : Int) ∧ v15 = .int .i64 F ∧ ((F = -1 ∧ ∀ x, x < g → isK tds o 1 d x = false) ∨ (∃ x : Nat, F = (x : Int) ∧ (List.range k).find? (isK tds o 1 d) = some x)) ∧ wq = W0.drewN q) (fun _ v16 _ => k - (intOf v16).toNat)
            case atStart => exact ⟨0, 0, -1, Nat.zero_le _, rfl, rfl, .inl ⟨rfl, fun x hx => by omega⟩, rfl⟩
            case round =>
              obtain ⟨g, q, F, hg, rfl, rfl, hF, hw⟩ := hrel
              have FF := Lib.hid hF
              have HQ := Lib.hid hw
              have RQ := Lib.hid (show RmW w #[.slice NA n nc, .slice FA m fc] #[.slice MA nl mc, .slice (some ⟨b2, o3, none⟩) k gc] gO (gO + 1) o tk wr from rm_below RI.out (by rw [hw]; exact below_drewN (Below.refl _ _) _))
              have z0 := lies_cell RQ.out.t 1
              simp only [List.getElem?_toArray, List.getElem?_cons_zero, List.getElem?_cons_succ] at z0
              clear hF hw
              by_cases hg2 : g < k
              · have lg : (g : Int) < (k : Int) := by omega
                by_cases hF0 : F < 0
                · have lgf : g < gs.length := by have := KE.out; omega
                  have lgo : g < o.length := by have := OL.out; omega
                  have FN := Lib.hid (show F = -1 ∧ ∀ x, x < g → isK tds o 1 d x = false by
                    rcases FF.out with h | ⟨x, h, _⟩
                    · exact h
                    · omega)
                  obtain ⟨b1, o1, DA, dc, eA, hl1, m1, d1, hby1⟩ := HGs.out wr RQ.out.b g lgf
                  injection eA with eA
                  injection eA with e1 e2 _
                  subst e1 e2
                  have TG := Lib.hid (show tds.getD g [] = gs[g].data by rw [TD.out]; exact getD_data lgf)
                  have r1 := srcR_at RQ.out.o g lgo
                  have k0 := r1 0 _ rfl
                  simp only [Nat.add_zero] at k0
                  have GDG := Lib.hid (show o.getD g z3 = o[g] by rw [List.getD_eq_getElem?_getD, List.getElem?_eq_getElem lgo, Option.getD_some])
                  have y2 : wr.cell? ⟨b2, o3 + i * 2 + 1, none⟩ = some (.slice DB d.length db) := by rw [HQ.out]; exact D2.out
                  have SA := fun q => Lib.hid (same_any DA DB dc db gs[g].data d (wr.drewN q) (bytesAt_below hby1 (below_drewN (Below.refl _ _) q)) (bytesAt_below BY2.out (by rw [HQ.out, World.drewN_drewN]; exact below_drewN (Below.refl _ _) _)))
                  have IK := Lib.hid (show isK tds o 1 d g = (same gs[g].data d && decide (o[g].1 = 1)) by
                    unfold isK
                    rw [TG.out, GDG.out]
                    rfl)
                  clear m1 hby1 hl1 r1 TG GDG
                  obtain ⟨x, hx⟩ : ∃ x, x = gs[g].data := ⟨_, rfl⟩
                  obtain ⟨kg, hkg⟩ : ∃ kg, kg = o[g].1 := ⟨_, rfl⟩
                  rw [← hx] at d1 SA
                  rw [← hx, ← hkg] at IK
                  rw [← hkg] at k0
                  clear hx hkg
                  generalize x.length = xl at *
                  generalize d.length = dl at *
                  have FA2 := Lib.hid FN.out.2
                  obtain rfl : F = -1 := FN.out.1
                  clear FN FF hF0
                  have NFIND := Lib.hid (fun (h : isK tds o 1 d g = true) => find_range hg2 FA2.out h)
                  have NNONE := Lib.hid (fun (h : isK tds o 1 d g = false) => (show ∀ x, x < g + 1 → isK tds o 1 d x = false from fun y hy => by
                    rcases Nat.lt_or_ge y g with h1 | h1
                    · exact FA2.out y h1
                    · obtain rfl : y = g := by omega
                      exact h))
                  by_cases he : x = d
                  · have se : same x d = true := decide_eq_true he
                    rw [se] at SA IK
                    clear he
                    by_cases hk1 : kg = 1
                    · subst hk1
                      have NF := Lib.hid (NFIND.out (by rw [IK.out]; rfl))
                      clear IK se NFIND NNONE
                      go_upto_region 32 with (fail)
                      go_quiet ((go_at_call 38; exact Calls.quiet_of (SA _).out))
                      clear SA
                      go_wp2
                      go_roundw
                      case rel => exact ⟨g + 1, q + nq, (g : Int), by omega, by go_num, rfl, .inr ⟨g, rfl, NF.out⟩, by rw [HQ.out, World.drewN_drewN]⟩
                      case measure => first | (simp [intOf]; done) | (simp [intOf]; omega)
                    · have kb : (kg == 1) = false := by simpa using hk1
                      have NF := Lib.hid (NNONE.out (by rw [IK.out, decide_eq_false hk1]; rfl))
                      clear IK se NFIND NNONE hk1
                      go_upto_region 32 with (fail)
                      go_quiet ((go_at_call 38; exact Calls.quiet_of (SA _).out))
                      clear SA
                      go_wp2
                      go_roundw
                      case rel => exact ⟨g + 1, q + nq, -1, by omega, by go_num, rfl, .inl ⟨rfl, NF.out⟩, by rw [HQ.out, World.drewN_drewN]⟩
                      case measure => first | (simp [intOf]; done) | (simp [intOf]; omega)
                  · have se : same x d = false := decide_eq_false he
                    rw [se] at SA IK
                    have NF := Lib.hid (NNONE.out (by rw [IK.out]; rfl))
                    clear IK se NFIND NNONE he
                    go_upto_region 32 with (fail)
                    go_quiet ((go_at_call 38; exact Calls.quiet_of (SA _).out))
                    clear SA
                    go_wp2
                    go_roundw
                    case rel => exact ⟨g + 1, q + nq, -1, by omega, by go_num, rfl, .inl ⟨rfl, NF.out⟩, by rw [HQ.out, World.drewN_drewN]⟩
                    case measure => first | (simp [intOf]; done) | (simp [intOf]; omega)
                · have H1 := Lib.hid (show (F = -1 ∧ (List.range k).find? (isK tds o 1 d) = none) ∨ (∃ x : Nat, F = (x : Int) ∧ fromP tds o d i = some x) by
                    rcases FF.out with ⟨h1, h2⟩ | ⟨x, h1, h2⟩
                    · omega
                    · right
                      refine ⟨x, h1, ?_⟩
                      unfold fromP
                      rw [TL.out, h2]
                      rfl)
                  clear FF
                  go_wp2
                  go_loopw [15, 18] (fun v15 v18 wq => ∃ (g2 q2 : Nat) (F2 : Int), g2 ≤ i ∧ v18 = .int .i64 (g2 : Int) ∧ v15 = .int .i64 F2 ∧ ((F2 = -1 ∧ (List.range k).find? (isK tds o 1 d) = none ∧ ∀ x, x < g2 → isK tds o 3 d x = false) ∨ (∃ x : Nat, F2 = (x : Int) ∧ fromP tds o d i = some x)) ∧ wq = W0.drewN q2) (fun _ v18 _ => i - (intOf v18).toNat)
                  case atStart =>
                    refine ⟨0, q, F, Nat.zero_le _, rfl, rfl, ?_, HQ.out⟩
                    rcases H1.out with ⟨h1, h2⟩ | h
                    · exact .inl ⟨h1, h2, fun x hx => by omega⟩
                    · exact .inr h
                  case round =>
                    obtain ⟨g2, q2, F2, hg2', rfl, rfl, hF, hw⟩ := hrel
                    clear HQ RQ z0
                    have FF := Lib.hid hF
                    have HQ := Lib.hid hw
                    have RQ := Lib.hid (show RmW w #[.slice NA n nc, .slice FA m fc] #[.slice MA nl mc, .slice (some ⟨b2, o3, none⟩) k gc] gO (gO + 1) o tk wr from rm_below RI.out (by rw [hw]; exact below_drewN (Below.refl _ _) _))
                    have z0 := lies_cell RQ.out.t 1
                    simp only [List.getElem?_toArray, List.getElem?_cons_zero, List.getElem?_cons_succ] at z0
                    clear hF hw
                    by_cases hgi : g2 < i
                    · have lg2 : (g2 : Int) < (i : Int) := by omega
                      have lg3 : (g2 : Int) < (k : Int) := by omega
                      by_cases hF0 : F2 < 0
                      · have lgf : g2 < gs.length := by have := KE.out; omega
                        have lgo : g2 < o.length := by have := OL.out; omega
                        have FN := Lib.hid (show F2 = -1 ∧ (List.range k).find? (isK tds o 1 d) = none ∧ ∀ x, x < g2 → isK tds o 3 d x = false by
                          rcases FF.out with h | ⟨x, h, _⟩
                          · exact h
                          · omega)
                        obtain ⟨b1, o1, DA, dc, eA, hl1, m1, d1, hby1⟩ := HGs.out wr RQ.out.b g2 lgf
                        injection eA with eA
                        injection eA with e1 e2 _
                        subst e1 e2
                        have TG := Lib.hid (show tds.getD g2 [] = gs[g2].data by rw [TD.out]; exact getD_data lgf)
                        have r1 := srcR_at RQ.out.o g2 lgo
                        have k0 := r1 0 _ rfl
                        simp only [Nat.add_zero] at k0
                        have GDG := Lib.hid (show o.getD g2 z3 = o[g2] by rw [List.getD_eq_getElem?_getD, List.getElem?_eq_getElem lgo, Option.getD_some])
                        have y2 : wr.cell? ⟨b2, o3 + i * 2 + 1, none⟩ = some (.slice DB d.length db) := by rw [HQ.out]; exact D2.out
                        have SA := fun q => Lib.hid (same_any DA DB dc db gs[g2].data d (wr.drewN q) (bytesAt_below hby1 (below_drewN (Below.refl _ _) q)) (bytesAt_below BY2.out (by rw [HQ.out, World.drewN_drewN]; exact below_drewN (Below.refl _ _) _)))
                        have IK := Lib.hid (show isK tds o 3 d g2 = (same gs[g2].data d && decide (o[g2].1 = 3)) by
                          unfold isK
                          rw [TG.out, GDG.out]
                          rfl)
                        clear m1 hby1 hl1 r1 TG GDG
                        obtain ⟨x, hx⟩ : ∃ x, x = gs[g2].data := ⟨_, rfl⟩
                        obtain ⟨kg, hkg⟩ : ∃ kg, kg = o[g2].1 := ⟨_, rfl⟩
                        rw [← hx] at d1 SA
                        rw [← hx, ← hkg] at IK
                        rw [← hkg] at k0
                        clear hx hkg
                        generalize x.length = xl at *
                        generalize d.length = dl at *
                        have F1N := Lib.hid FN.out.2.1
                        have FA2 := Lib.hid FN.out.2.2
                        obtain rfl : F2 = -1 := FN.out.1
                        clear FN FF hF0 H1
                        have NFIND := Lib.hid (fun (h : isK tds o 3 d g2 = true) => (show fromP tds o d i = some g2 from by
                          unfold fromP
                          rw [TL.out, F1N.out, find_range hgi FA2.out h]
                          rfl))
                        have NNONE := Lib.hid (fun (h : isK tds o 3 d g2 = false) => (show ∀ x, x < g2 + 1 → isK tds o 3 d x = false from fun y hy => by
                          rcases Nat.lt_or_ge y g2 with h1 | h1
                          · exact FA2.out y h1
                          · obtain rfl : y = g2 := by omega
                            exact h))
                        by_cases he : x = d
                        · have se : same x d = true := decide_eq_true he
                          rw [se] at SA IK
                          clear he
                          by_cases hk1 : kg = 3
                          · subst hk1
                            have NF := Lib.hid (NFIND.out (by rw [IK.out]; rfl))
                            clear IK se NFIND NNONE
                            go_upto_region 38 with (fail)
                            go_quiet ((go_at_call 38; exact Calls.quiet_of (SA _).out))
                            clear SA
                            go_wp2
                            go_roundw
                            case rel => exact ⟨g2 + 1, q2 + nq, (g2 : Int), by omega, by go_num, rfl, .inr ⟨g2, rfl, NF.out⟩, by rw [HQ.out, World.drewN_drewN]⟩
                            case measure => first | (simp [intOf]; done) | (simp [intOf]; omega)
                          · have kb : (kg == 3) = false := by simpa using hk1
                            have NF := Lib.hid (NNONE.out (by rw [IK.out, decide_eq_false hk1]; rfl))
                            clear IK se NFIND NNONE hk1
                            go_upto_region 38 with (fail)
                            go_quiet ((go_at_call 38; exact Calls.quiet_of (SA _).out))
                            clear SA
                            go_wp2
                            go_roundw
                            case rel => exact ⟨g2 + 1, q2 + nq, -1, by omega, by go_num, rfl, .inl ⟨rfl, F1N.out, NF.out⟩, by rw [HQ.out, World.drewN_drewN]⟩
                            case measure => first | (simp [intOf]; done) | (simp [intOf]; omega)
                        · have se : same x d = false := decide_eq_false he
                          rw [se] at SA IK
                          have NF := Lib.hid (NNONE.out (by rw [IK.out]; rfl))
                          clear IK se NFIND NNONE he
                          go_upto_region 38 with (fail)
                          go_quiet ((go_at_call 38; exact Calls.quiet_of (SA _).out))
                          clear SA
                          go_wp2
                          go_roundw
                          case rel => exact ⟨g2 + 1, q2 + nq, -1, by omega, by go_num, rfl, .inl ⟨rfl, F1N.out, NF.out⟩, by rw [HQ.out, World.drewN_drewN]⟩
                          case measure => first | (simp [intOf]; done) | (simp [intOf]; omega)
                      · have lg2 : (g2 : Int) < (i : Int) := by omega
                        have HX := Lib.hid (show ∃ x : Nat, F2 = (x : Int) ∧ fromP tds o d i = some x by
                          rcases FF.out with ⟨h, _⟩ | h
                          · omega
                          · exact h)
                        clear FF H1
                        obtain ⟨x, hx1, hx2⟩ : ∃ x : Nat, F2 = (x : Int) ∧ fromP tds o d i = some x := HX.out
                        subst hx1
                        have gge : (x : Int) ≥ 0 := by omega
                        have nF : ¬ (x : Int) < 0 := by omega
                        have TH := Lib.hid (srcR_there RQ.out.o i (by have := OL.out; omega))
                        have RX := Lib.hid (show r3To tds ls o2 (i + 1) = some (o.set i (2, (x : Int), 0)) by
                          rw [NXT.out]
                          unfold r3Step
                          rw [if_neg (by rw [GDE.out, ← KD.out]; simp), TE.out, hx2]
                          try rfl)
                        have RN := Lib.hid (show RmW w _ _ gO (gO + 1) (o.set i (2, (x : Int), 0)) tk (wr.setCells gO (i * 3) [.int .i64 2, .int .i64 (x : Int), .int .i64 0]) from rm_out RQ.out i (by have := OL.out; omega) (2, (x : Int), 0))
                        clear HX hx2 HQ NXT TE KF M2 EM LO HGs KE TL GDE KD D2 BY2
                        go_upto_region 42 with (fail)
                        clear z0 gge nF
                        go_upto_region 26 with (refine wpList_store_mid rfl 54 _ _ rfl gO (i * 3) #[.int .i64 2, .int .i64 (x : Int), .int .i64 0] rfl rfl TH.out (by kernel_rfl) (by simp [Value.oneCell']) ?_)
                        generalize wr.setCells gO (i * 3) [.int .i64 2, .int .i64 (x : Int), .int .i64 0] = X8 at *
                        go_wp2
                        go_roundw
                        case rel => exact ⟨i + 1, _, by omega, by go_num, RX.out, RN.out⟩
                        case measure => first | (simp [intOf]; done) | (simp [intOf]; omega)
                    · obtain rfl : g2 = i := by omega
                      have lg2 : ¬ (g2 : Int) < (g2 : Int) := by omega
                      clear H1
                      rcases FF.out with ⟨hf1, hf2, hf3⟩ | hfx
                      · have FNO := Lib.hid (show fromP tds o d g2 = none by
                          unfold fromP
                          rw [TL.out, hf2, find_range_no hf3]
                          rfl)
                        subst hf1
                        clear FF hf2 hf3
                        have nF : ((-1 : Int)) < 0 := by omega
                        have y2 : wr.cell? ⟨b2, o3 + g2 * 2 + 1, none⟩ = some (.slice DB d.length db) := by rw [HQ.out]; exact D2.out
                        have BY3 : BytesAt wr DB d := by rw [HQ.out]; exact bytesAt_below BY2.out (below_drewN (Below.refl _ _) _)
                        have KC := Lib.hid (KF.out wr RQ.out.b DB db d BY3)
                        obtain ⟨fz, hfz⟩ : ∃ fz, fz = Stk.find ls d := ⟨_, rfl⟩
                        rw [← hfz] at KC
                        have FZ := Lib.hid hfz
                        have NXF := Lib.hid (show r3To tds ls o2 (g2 + 1) = if fz < 0 then none else some (o.set g2 (3, 0, fz)) by
                          rw [NXT.out]
                          unfold r3Step
                          rw [if_neg (by rw [GDE.out, ← KD.out]; simp), TE.out, FNO.out, FZ.out]
                          try rfl)
                        clear hfz BY3 FNO HQ NXT TE KF HGs D2 BY2 GDE KD
                        generalize d.length = dl at *
                        go_upto_region 43 with (fail)
                        go_upto_region 44 with (go_at_call 23; (with_reducible refine KC.out.mono ?_); rintro e w5 ⟨rfl, m5, hw5⟩; have R5 := Lib.hid (show RmW w #[.slice NA n nc, .slice FA m fc] #[.slice MA nl mc, .slice (some ⟨b2, o3, none⟩) k gc] gO (gO + 1) o tk w5 from rm_below RQ.out (by rw [hw5]; exact below_drewN (Below.refl _ _) _)); clear hw5)
                        clear KC y2 z0
                        by_cases hf0 : fz < 0
                        · have EE := Lib.hid (show errM ns fs ms gs ls = 32 by
                            rw [EM.out, if_pos]
                            refine M2.out.2 ?_
                            have h1 : r3To tds ls o2 (g2 + 1) = none := by rw [NXF.out, if_pos hf0]
                            have h2 := r3To_none h1 (k - (g2 + 1))
                            rwa [show g2 + 1 + (k - (g2 + 1)) = k by omega] at h2)
                          go_wp2
                          (try simp only [Exit.inBlock, Exit.then])
                          refine bodyPost_ret (results_tmp2 rfl _ _ _) rfl ?_
                          exact ⟨rmE_bad (by decide) EE.out, R5.out.b⟩
                        · have nlt : ¬ fz < 0 := hf0
                          have TH := Lib.hid (srcR_there R5.out.o g2 (by have := OL.out; omega))
                          have RX := Lib.hid (show r3To tds ls o2 (g2 + 1) = some (o.set g2 (3, 0, fz)) by rw [NXF.out, if_neg hf0])
                          have RN := Lib.hid (show RmW w _ _ gO (gO + 1) (o.set g2 (3, 0, fz)) tk (w5.setCells gO (g2 * 3) [.int .i64 3, .int .i64 0, .int .i64 fz]) from rm_out R5.out g2 (by have := OL.out; omega) (3, 0, fz))
                          clear NXF hf0 EM M2 KE LO
                          go_upto_region 46 with (fail)
                          clear nlt
                          go_upto_region 26 with (refine wpList_store_mid rfl 54 _ _ rfl gO (g2 * 3) #[.int .i64 3, .int .i64 0, .int .i64 fz] rfl rfl TH.out (by kernel_rfl) (by simp [Value.oneCell']) ?_)
                          generalize w5.setCells gO (g2 * 3) [.int .i64 3, .int .i64 0, .int .i64 fz] = X8 at *
                          go_wp2
                          go_roundw
                          case rel => exact ⟨g2 + 1, _, by omega, by go_num, RX.out, RN.out⟩
                          case measure => first | (simp [intOf]; done) | (simp [intOf]; omega)
                      · have HX := Lib.hid hfx
                        clear FF hfx
                        obtain ⟨x, hx1, hx2⟩ : ∃ x : Nat, F2 = (x : Int) ∧ fromP tds o d g2 = some x := HX.out
                        subst hx1
                        have gge : (x : Int) ≥ 0 := by omega
                        have nF : ¬ (x : Int) < 0 := by omega
                        have TH := Lib.hid (srcR_there RQ.out.o g2 (by have := OL.out; omega))
                        have RX := Lib.hid (show r3To tds ls o2 (g2 + 1) = some (o.set g2 (2, (x : Int), 0)) by
                          rw [NXT.out]
                          unfold r3Step
                          rw [if_neg (by rw [GDE.out, ← KD.out]; simp), TE.out, hx2]
                          try rfl)
                        have RN := Lib.hid (show RmW w _ _ gO (gO + 1) (o.set g2 (2, (x : Int), 0)) tk (wr.setCells gO (g2 * 3) [.int .i64 2, .int .i64 (x : Int), .int .i64 0]) from rm_out RQ.out g2 (by have := OL.out; omega) (2, (x : Int), 0))
                        clear HX hx2 HQ NXT TE KF M2 EM LO HGs KE TL GDE KD D2 BY2
                        go_upto_region 42 with (fail)
                        clear z0 gge nF
                        go_upto_region 26 with (refine wpList_store_mid rfl 54 _ _ rfl gO (g2 * 3) #[.int .i64 2, .int .i64 (x : Int), .int .i64 0] rfl rfl TH.out (by kernel_rfl) (by simp [Value.oneCell']) ?_)
                        generalize wr.setCells gO (g2 * 3) [.int .i64 2, .int .i64 (x : Int), .int .i64 0] = X8 at *
                        go_wp2
                        go_roundw
                        case rel => exact ⟨g2 + 1, _, by omega, by go_num, RX.out, RN.out⟩
                        case measure => first | (simp [intOf]; done) | (simp [intOf]; omega)
              · have hgk : g = k := by omega
                subst hgk
                have lg : ¬ (g : Int) < (g : Int) := by omega
                have H1 := Lib.hid (show (F = -1 ∧ (List.range g).find? (isK tds o 1 d) = none) ∨ (∃ x : Nat, F = (x : Int) ∧ fromP tds o d i = some x) by
                  rcases FF.out with ⟨h1, h2⟩ | ⟨x, h1, h2⟩
                  · left
                    refine ⟨h1, ?_⟩
                    exact find_range_no h2
                  · right
                    refine ⟨x, h1, ?_⟩
                    unfold fromP
                    rw [TL.out, h2]
                    rfl)
                clear FF
                go_wp2
                go_loopw [15, 18] (fun v15 v18 wq => ∃ (g2 q2 : Nat) (F2 : Int), g2 ≤ i ∧ v18 = .int .i64 (g2 : Int) ∧ v15 = .int .i64 F2 ∧ ((F2 = -1 ∧ (List.range g).find? (isK tds o 1 d) = none ∧ ∀ x, x < g2 → isK tds o 3 d x = false) ∨ (∃ x : Nat, F2 = (x : Int) ∧ fromP tds o d i = some x)) ∧ wq = W0.drewN q2) (fun _ v18 _ => i - (intOf v18).toNat)
                case atStart =>
                  refine ⟨0, q, F, Nat.zero_le _, rfl, rfl, ?_, HQ.out⟩
                  rcases H1.out with ⟨h1, h2⟩ | h
                  · exact .inl ⟨h1, h2, fun x hx => by omega⟩
                  · exact .inr h
                case round =>
                  obtain ⟨g2, q2, F2, hg2', rfl, rfl, hF, hw⟩ := hrel
                  clear HQ RQ z0
                  have FF := Lib.hid hF
                  have HQ := Lib.hid hw
                  have RQ := Lib.hid (show RmW w #[.slice NA n nc, .slice FA m fc] #[.slice MA nl mc, .slice (some ⟨b2, o3, none⟩) g gc] gO (gO + 1) o tk wr from rm_below RI.out (by rw [hw]; exact below_drewN (Below.refl _ _) _))
                  have z0 := lies_cell RQ.out.t 1
                  simp only [List.getElem?_toArray, List.getElem?_cons_zero, List.getElem?_cons_succ] at z0
                  clear hF hw
                  by_cases hgi : g2 < i
                  · have lg2 : (g2 : Int) < (i : Int) := by omega
                    have lg3 : (g2 : Int) < (g : Int) := by omega
                    by_cases hF0 : F2 < 0
                    · have lgf : g2 < gs.length := by have := KE.out; omega
                      have lgo : g2 < o.length := by have := OL.out; omega
                      have FN := Lib.hid (show F2 = -1 ∧ (List.range g).find? (isK tds o 1 d) = none ∧ ∀ x, x < g2 → isK tds o 3 d x = false by
                        rcases FF.out with h | ⟨x, h, _⟩
                        · exact h
                        · omega)
                      obtain ⟨b1, o1, DA, dc, eA, hl1, m1, d1, hby1⟩ := HGs.out wr RQ.out.b g2 lgf
                      injection eA with eA
                      injection eA with e1 e2 _
                      subst e1 e2
                      have TG := Lib.hid (show tds.getD g2 [] = gs[g2].data by rw [TD.out]; exact getD_data lgf)
                      have r1 := srcR_at RQ.out.o g2 lgo
                      have k0 := r1 0 _ rfl
                      simp only [Nat.add_zero] at k0
                      have GDG := Lib.hid (show o.getD g2 z3 = o[g2] by rw [List.getD_eq_getElem?_getD, List.getElem?_eq_getElem lgo, Option.getD_some])
                      have y2 : wr.cell? ⟨b2, o3 + i * 2 + 1, none⟩ = some (.slice DB d.length db) := by rw [HQ.out]; exact D2.out
                      have SA := fun q => Lib.hid (same_any DA DB dc db gs[g2].data d (wr.drewN q) (bytesAt_below hby1 (below_drewN (Below.refl _ _) q)) (bytesAt_below BY2.out (by rw [HQ.out, World.drewN_drewN]; exact below_drewN (Below.refl _ _) _)))
                      have IK := Lib.hid (show isK tds o 3 d g2 = (same gs[g2].data d && decide (o[g2].1 = 3)) by
                        unfold isK
                        rw [TG.out, GDG.out]
                        rfl)
                      clear m1 hby1 hl1 r1 TG GDG
                      obtain ⟨x, hx⟩ : ∃ x, x = gs[g2].data := ⟨_, rfl⟩
                      obtain ⟨kg, hkg⟩ : ∃ kg, kg = o[g2].1 := ⟨_, rfl⟩
                      rw [← hx] at d1 SA
                      rw [← hx, ← hkg] at IK
                      rw [← hkg] at k0
                      clear hx hkg
                      generalize x.length = xl at *
                      generalize d.length = dl at *
                      have F1N := Lib.hid FN.out.2.1
                      have FA2 := Lib.hid FN.out.2.2
                      obtain rfl : F2 = -1 := FN.out.1
                      clear FN FF hF0 H1
                      have NFIND := Lib.hid (fun (h : isK tds o 3 d g2 = true) => (show fromP tds o d i = some g2 from by
                        unfold fromP
                        rw [TL.out, F1N.out, find_range hgi FA2.out h]
                        rfl))
                      have NNONE := Lib.hid (fun (h : isK tds o 3 d g2 = false) => (show ∀ x, x < g2 + 1 → isK tds o 3 d x = false from fun y hy => by
                        rcases Nat.lt_or_ge y g2 with h1 | h1
                        · exact FA2.out y h1
                        · obtain rfl : y = g2 := by omega
                          exact h))
                      by_cases he : x = d
                      · have se : same x d = true := decide_eq_true he
                        rw [se] at SA IK
                        clear he
                        by_cases hk1 : kg = 3
                        · subst hk1
                          have NF := Lib.hid (NFIND.out (by rw [IK.out]; rfl))
                          clear IK se NFIND NNONE
                          go_upto_region 38 with (fail)
                          go_quiet ((go_at_call 38; exact Calls.quiet_of (SA _).out))
                          clear SA
                          go_wp2
                          go_roundw
                          case rel => exact ⟨g2 + 1, q2 + nq, (g2 : Int), by omega, by go_num, rfl, .inr ⟨g2, rfl, NF.out⟩, by rw [HQ.out, World.drewN_drewN]⟩
                          case measure => first | (simp [intOf]; done) | (simp [intOf]; omega)
                        · have kb : (kg == 3) = false := by simpa using hk1
                          have NF := Lib.hid (NNONE.out (by rw [IK.out, decide_eq_false hk1]; rfl))
                          clear IK se NFIND NNONE hk1
                          go_upto_region 38 with (fail)
                          go_quiet ((go_at_call 38; exact Calls.quiet_of (SA _).out))
                          clear SA
                          go_wp2
                          go_roundw
                          case rel => exact ⟨g2 + 1, q2 + nq, -1, by omega, by go_num, rfl, .inl ⟨rfl, F1N.out, NF.out⟩, by rw [HQ.out, World.drewN_drewN]⟩
                          case measure => first | (simp [intOf]; done) | (simp [intOf]; omega)
                      · have se : same x d = false := decide_eq_false he
                        rw [se] at SA IK
                        have NF := Lib.hid (NNONE.out (by rw [IK.out]; rfl))
                        clear IK se NFIND NNONE he
                        go_upto_region 38 with (fail)
                        go_quiet ((go_at_call 38; exact Calls.quiet_of (SA _).out))
                        clear SA
                        go_wp2
                        go_roundw
                        case rel => exact ⟨g2 + 1, q2 + nq, -1, by omega, by go_num, rfl, .inl ⟨rfl, F1N.out, NF.out⟩, by rw [HQ.out, World.drewN_drewN]⟩
                        case measure => first | (simp [intOf]; done) | (simp [intOf]; omega)
                    · have lg2 : (g2 : Int) < (i : Int) := by omega
                      have HX := Lib.hid (show ∃ x : Nat, F2 = (x : Int) ∧ fromP tds o d i = some x by
                        rcases FF.out with ⟨h, _⟩ | h
                        · omega
                        · exact h)
                      clear FF H1
                      obtain ⟨x, hx1, hx2⟩ : ∃ x : Nat, F2 = (x : Int) ∧ fromP tds o d i = some x := HX.out
                      subst hx1
                      have gge : (x : Int) ≥ 0 := by omega
                      have nF : ¬ (x : Int) < 0 := by omega
                      have TH := Lib.hid (srcR_there RQ.out.o i (by have := OL.out; omega))
                      have RX := Lib.hid (show r3To tds ls o2 (i + 1) = some (o.set i (2, (x : Int), 0)) by
                        rw [NXT.out]
                        unfold r3Step
                        rw [if_neg (by rw [GDE.out, ← KD.out]; simp), TE.out, hx2]
                        try rfl)
                      have RN := Lib.hid (show RmW w _ _ gO (gO + 1) (o.set i (2, (x : Int), 0)) tk (wr.setCells gO (i * 3) [.int .i64 2, .int .i64 (x : Int), .int .i64 0]) from rm_out RQ.out i (by have := OL.out; omega) (2, (x : Int), 0))
                      clear HX hx2 HQ NXT TE KF M2 EM LO HGs KE TL GDE KD D2 BY2
                      go_upto_region 42 with (fail)
                      clear z0 gge nF
                      go_upto_region 26 with (refine wpList_store_mid rfl 54 _ _ rfl gO (i * 3) #[.int .i64 2, .int .i64 (x : Int), .int .i64 0] rfl rfl TH.out (by kernel_rfl) (by simp [Value.oneCell']) ?_)
                      generalize wr.setCells gO (i * 3) [.int .i64 2, .int .i64 (x : Int), .int .i64 0] = X8 at *
                      go_wp2
                      go_roundw
                      case rel => exact ⟨i + 1, _, by omega, by go_num, RX.out, RN.out⟩
                      case measure => first | (simp [intOf]; done) | (simp [intOf]; omega)
                  · obtain rfl : g2 = i := by omega
                    have lg2 : ¬ (g2 : Int) < (g2 : Int) := by omega
                    clear H1
                    rcases FF.out with ⟨hf1, hf2, hf3⟩ | hfx
                    · have FNO := Lib.hid (show fromP tds o d g2 = none by
                        unfold fromP
                        rw [TL.out, hf2, find_range_no hf3]
                        rfl)
                      subst hf1
                      clear FF hf2 hf3
                      have nF : ((-1 : Int)) < 0 := by omega
                      have y2 : wr.cell? ⟨b2, o3 + g2 * 2 + 1, none⟩ = some (.slice DB d.length db) := by rw [HQ.out]; exact D2.out
                      have BY3 : BytesAt wr DB d := by rw [HQ.out]; exact bytesAt_below BY2.out (below_drewN (Below.refl _ _) _)
                      have KC := Lib.hid (KF.out wr RQ.out.b DB db d BY3)
                      obtain ⟨fz, hfz⟩ : ∃ fz, fz = Stk.find ls d := ⟨_, rfl⟩
                      rw [← hfz] at KC
                      have FZ := Lib.hid hfz
                      have NXF := Lib.hid (show r3To tds ls o2 (g2 + 1) = if fz < 0 then none else some (o.set g2 (3, 0, fz)) by
                        rw [NXT.out]
                        unfold r3Step
                        rw [if_neg (by rw [GDE.out, ← KD.out]; simp), TE.out, FNO.out, FZ.out]
                        try rfl)
                      clear hfz BY3 FNO HQ NXT TE KF HGs D2 BY2 GDE KD
                      generalize d.length = dl at *
                      go_upto_region 43 with (fail)
                      go_upto_region 44 with (go_at_call 23; (with_reducible refine KC.out.mono ?_); rintro e w5 ⟨rfl, m5, hw5⟩; have R5 := Lib.hid (show RmW w #[.slice NA n nc, .slice FA m fc] #[.slice MA nl mc, .slice (some ⟨b2, o3, none⟩) g gc] gO (gO + 1) o tk w5 from rm_below RQ.out (by rw [hw5]; exact below_drewN (Below.refl _ _) _)); clear hw5)
                      clear KC y2 z0
                      by_cases hf0 : fz < 0
                      · have EE := Lib.hid (show errM ns fs ms gs ls = 32 by
                          rw [EM.out, if_pos]
                          refine M2.out.2 ?_
                          have h1 : r3To tds ls o2 (g2 + 1) = none := by rw [NXF.out, if_pos hf0]
                          have h2 := r3To_none h1 (g - (g2 + 1))
                          rwa [show g2 + 1 + (g - (g2 + 1)) = g by omega] at h2)
                        go_wp2
                        (try simp only [Exit.inBlock, Exit.then])
                        refine bodyPost_ret (results_tmp2 rfl _ _ _) rfl ?_
                        exact ⟨rmE_bad (by decide) EE.out, R5.out.b⟩
                      · have nlt : ¬ fz < 0 := hf0
                        have TH := Lib.hid (srcR_there R5.out.o g2 (by have := OL.out; omega))
                        have RX := Lib.hid (show r3To tds ls o2 (g2 + 1) = some (o.set g2 (3, 0, fz)) by rw [NXF.out, if_neg hf0])
                        have RN := Lib.hid (show RmW w _ _ gO (gO + 1) (o.set g2 (3, 0, fz)) tk (w5.setCells gO (g2 * 3) [.int .i64 3, .int .i64 0, .int .i64 fz]) from rm_out R5.out g2 (by have := OL.out; omega) (3, 0, fz))
                        clear NXF hf0 EM M2 KE LO
                        go_upto_region 46 with (fail)
                        clear nlt
                        go_upto_region 26 with (refine wpList_store_mid rfl 54 _ _ rfl gO (g2 * 3) #[.int .i64 3, .int .i64 0, .int .i64 fz] rfl rfl TH.out (by kernel_rfl) (by simp [Value.oneCell']) ?_)
                        generalize w5.setCells gO (g2 * 3) [.int .i64 3, .int .i64 0, .int .i64 fz] = X8 at *
                        go_wp2
                        go_roundw
                        case rel => exact ⟨g2 + 1, _, by omega, by go_num, RX.out, RN.out⟩
                        case measure => first | (simp [intOf]; done) | (simp [intOf]; omega)
                    · have HX := Lib.hid hfx
                      clear FF hfx
                      obtain ⟨x, hx1, hx2⟩ : ∃ x : Nat, F2 = (x : Int) ∧ fromP tds o d g2 = some x := HX.out
                      subst hx1
                      have gge : (x : Int) ≥ 0 := by omega
                      have nF : ¬ (x : Int) < 0 := by omega
                      have TH := Lib.hid (srcR_there RQ.out.o g2 (by have := OL.out; omega))
                      have RX := Lib.hid (show r3To tds ls o2 (g2 + 1) = some (o.set g2 (2, (x : Int), 0)) by
                        rw [NXT.out]
                        unfold r3Step
                        rw [if_neg (by rw [GDE.out, ← KD.out]; simp), TE.out, hx2]
                        try rfl)
                      have RN := Lib.hid (show RmW w _ _ gO (gO + 1) (o.set g2 (2, (x : Int), 0)) tk (wr.setCells gO (g2 * 3) [.int .i64 2, .int .i64 (x : Int), .int .i64 0]) from rm_out RQ.out g2 (by have := OL.out; omega) (2, (x : Int), 0))
                      clear HX hx2 HQ NXT TE KF M2 EM LO HGs KE TL GDE KD D2 BY2
                      go_upto_region 42 with (fail)
                      clear z0 gge nF
                      go_upto_region 26 with (refine wpList_store_mid rfl 54 _ _ rfl gO (g2 * 3) #[.int .i64 2, .int .i64 (x : Int), .int .i64 0] rfl rfl TH.out (by kernel_rfl) (by simp [Value.oneCell']) ?_)
                      generalize wr.setCells gO (g2 * 3) [.int .i64 2, .int .i64 (x : Int), .int .i64 0] = X8 at *
                      go_wp2
                      go_roundw
                      case rel => exact ⟨g2 + 1, _, by omega, by go_num, RX.out, RN.out⟩
                      case measure => first | (simp [intOf]; done) | (simp [intOf]; omega)
          · have kb : (kd != 0) = true := by simpa using hk
            have RN := Lib.hid (show r3To tds ls o2 (i + 1) = some o by
              rw [NXT.out]
              unfold r3Step
              rw [if_pos (by rw [GDE.out, ← KD.out]; exact hk)])
            clear hk
            go_wp2
            go_roundw
            case rel => exact ⟨i + 1, o, by omega, by go_num, RN.out, RI.out⟩
            case measure => first | (simp [intOf]; done) | (simp [intOf]; omega)
        · have hik : i = k := by omega
          subst hik
          have li : ¬ (i : Int) < (i : Int) := by omega
          have FIN := Lib.hid (M2.out.1 o HO.out)
          have EE := Lib.hid (show errM ns fs ms gs ls = 0 by rw [EM.out, if_neg]; rw [FIN.out.1]; exact FIN.out.2)
          go_wp2
          (try simp only [Exit.inBlock, Exit.then])
          refine bodyPost_ret (results_tmp2 rfl _ _ _) rfl ?_
          exact ⟨rmE_good EE.out KE.out (by rw [FIN.out.1]; exact RI.out.o), RI.out.b⟩
end Go.Proofs.Ytiglakhfkgeefaa
