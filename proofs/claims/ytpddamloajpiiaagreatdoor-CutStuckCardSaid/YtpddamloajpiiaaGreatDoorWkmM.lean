/-
What is proved here: what lies in memory while cut straightens, and what the calls that it makes ask of it.
-/
import Derived.Test.YtpddamloajpiiaaGreatDoorWrdM
set_option linter.unusedSimpArgs false
set_option linter.unusedVariables false
namespace Go.Proofs.YtpddamloajpiiaaGreatDoor
open Go.Cmp Go.RowKit Go.Cut Go.Pth Go.Word Go.Shelf
def tmpN (k : Nat) : Bt := tempOf (k : Int)
/-- what straightening comes to: an error, and the work as it then is -/
inductive StrR : Wk → Int → Wk → Prop
  | done {s : Wk} {S : Gr} : Groups s.needs S → (S.filter fun r => !stillP s.needs r) = [] → StrR s 0 s
  | stuck {s : Wk} {S gs : Gr} {g : List Nat} : Groups s.needs S → (S.filter fun r => !stillP s.needs r) = g :: gs → (∀ i ∈ g, movP keptP (s.acts.getD i default) = false) → StrR s 33 s
  | full {s : Wk} {S gs : Gr} {g pre post : List Nat} {i : Nat} : Groups s.needs S → (S.filter fun r => !stillP s.needs r) = g :: gs → g = pre ++ i :: post → (∀ j ∈ pre, movP keptP (s.acts.getD j default) = false) → movP keptP (s.acts.getD i default) = true →
      s.acts.length = 1024 → StrR s 2 s
  | cut {s s' : Wk} {S gs : Gr} {g pre post : List Nat} {i : Nat} {e : Int} : Groups s.needs S → (S.filter fun r => !stillP s.needs r) = g :: gs → g = pre ++ i :: post → (∀ j ∈ pre, movP keptP (s.acts.getD j default) = false) → movP keptP (s.acts.getD i default) = true →
      s.acts.length ≠ 1024 → StrR (splitP tmpN s i) e s' → StrR s e s'
/-- the work as it lies in memory -/
structure WkB (B WB : Nat) (s : Wk) (fs sn : Int) (to : Bt) (av nv : Value) (vs : List Value) (w : World) : Prop where
  box : Lies w WB 49 #[.int .i64 fs, .int .i64 sn, St to, av, nv, .int .i64 (s.cuts : Int)]
  own : OwnA w B av s.acts
  row : w.ownsRow B 33 1 nv vs.length vs
  rws : Rws w B vs s.needs
  wb : B ≤ WB
/-- what holds of it -/
structure WkP (s : Wk) : Prop where
  len : s.acts.length = s.needs.length
  up : ∀ i, Rise (nx s.needs i)
  ok : Ok s.needs
  big : s.acts.length ≤ 1024
  txt : ∀ a ∈ s.acts, a.p.length ≤ 100000
  cut : s.cuts ≤ s.acts.length
def WkM (B WB : Nat) (s : Wk) (w : World) : Prop := ∃ fs sn to av nv vs, WkB B WB s fs sn to av nv vs w
theorem wkb_but {P : Nat → Prop} {B WB : Nat} {s : Wk} {fs sn : Int} {to : Bt} {av nv : Value} {vs : List Value} {w w' : World} (h : WkB B WB s fs sn to av nv vs w) (hb : But P w w') (hP : ∀ k, k < w.heap.size → ¬ P k) : WkB B WB s fs sn to av nv vs w' := by
  refine ⟨hb.lies h.box (hP _ (lies_lt h.box)), own_but h.own hb (fun k hk => hP k (own_heap h.own k hk).2.1), own_but h.row hb (fun k hk => hP k (own_heap h.row k hk).2.1), ⟨h.rws.len, fun i => win_but (h.rws.win i) hb (fun k hk => hP k (win_block (h.rws.win i) k hk).2), h.rws.sep⟩, h.wb⟩
theorem wkb_below {B WB : Nat} {s : Wk} {fs sn : Int} {to : Bt} {av nv : Value} {vs : List Value} {w w' : World} (h : WkB B WB s fs sn to av nv vs w) (hb : Below w.heap.size w w') : WkB B WB s fs sn to av nv vs w' :=
  wkb_but h (But.ofBelow hb (fun _ => False)) (fun _ _ => id)
theorem own_acts {w : World} {B : Nat} {v : Value} {l : List Ac} (h : OwnA w B v l) : ∃ A c, v = .slice A l.length c ∧ ActsAt w A l := by
  unfold OwnA at h
  rcases h.2 with ⟨rfl, h0⟩ | ⟨g, cap, cur, rfl, hB, hg, hn, hcap, hs, ht⟩
  · obtain rfl : l = [] := List.eq_nil_of_length_eq_zero h0
    exact ⟨none, 0, rfl, fun i hi => by cases hi⟩
  · refine ⟨_, cap, rfl, fun i hi => ⟨g, 0, rfl, (Array.getElem?_eq_some_iff.1 hg).1, fun j u hj => ?_⟩⟩
    have hj5 : j < 5 := by have := (List.getElem?_eq_some_iff.1 hj).1; simpa [acC] using this
    have h1 := acs_at l i hi j hj5
    have hL : Lies w g 29 cur := hg
    rw [lies_cell hL, Nat.zero_add, ← Array.getElem?_toList]
    have h2 : (cur.toList.take (l.length * 5))[i * 5 + j]? = cur.toList[i * 5 + j]? := List.getElem?_take_of_lt (by omega)
    rw [← h2, ht, h1]
    exact hj
theorem win_ints {w : World} {B n c : Nat} {A : Option Addr} {l : List Int} (h : Win w B (.slice A n c) l) : n = l.length ∧ l.length ≤ c ∧ IntsAt w A l := by
  rcases h with ⟨h0, rfl⟩ | ⟨g, o, c', cur, hv, hB, hL, hlc, hcm, hoc, hcells⟩
  · injection h0 with h1 h2 h3
    subst h1 h2 h3
    exact ⟨rfl, Nat.le_refl _, intsAt_nil _ _⟩
  · injection hv with e1 e2 e3
    subst e1 e2 e3
    refine ⟨rfl, hlc, fun i hi => ⟨g, o, rfl, lies_lt hL, ?_⟩⟩
    rw [lies_cell hL, hcells i hi, List.getElem?_map, List.getElem?_eq_getElem hi]
    rfl
theorem rws_ls {w : World} {B : Nat} {nv : Value} {vs : List Value} {G : Gr} (hr : w.ownsRow B 33 1 nv vs.length vs) (h : Rws w B vs G) : ∃ A c, nv = .slice A G.length c ∧ LsAt w A (zg G) := by
  rcases hr.2 with ⟨rfl, h0⟩ | ⟨g, cap, cur, rfl, hB, hg, hn, hcap, hs, ht⟩
  · have : G = [] := List.eq_nil_of_length_eq_zero (by rw [← h.len, h0])
    subst this
    exact ⟨none, 0, rfl, fun i hi => by cases hi⟩
  · refine ⟨_, cap, by rw [h.len], fun i hi => ?_⟩
    have hiG : i < G.length := by simpa using hi
    have hiv : i < vs.length := by rw [h.len]; exact hiG
    have hw := h.win i
    obtain ⟨A', c', e⟩ := win_slice hw
    have hL : Lies w g 33 cur := hg
    have hv : vs.getD i nilV = vs[i] := by rw [List.getD_eq_getElem?_getD, List.getElem?_eq_getElem hiv]; rfl
    have hN : (zg G)[i] = zs (nx G i) := by
      unfold nx
      rw [List.getD_eq_getElem?_getD, List.getElem?_eq_getElem hiG]
      simp [zg]
    rw [e] at hw
    obtain ⟨_, h2, h3⟩ := win_ints hw
    refine ⟨g, 0, A', c', rfl, lies_lt hL, ?_, by rw [hN]; exact h2, by rw [hN]; exact h3⟩
    rw [lies_cell hL, Nat.zero_add, ← Array.getElem?_toList]
    have h4 : (cur.toList.take (vs.length * 1))[i]? = cur.toList[i]? := List.getElem?_take_of_lt (by omega)
    rw [← h4, ht, List.getElem?_eq_getElem hiv, ← hv, e, hN]
theorem rise_big {G : Gr} (hG : Ok G) (hu : ∀ i, Rise (nx G i)) : ∀ l ∈ G, l.length ≤ G.length := fun l hl => by
  obtain ⟨i, hi, rfl⟩ := List.getElem_of_mem hl
  have h := hu i
  unfold nx at h
  rw [List.getD_eq_getElem?_getD, List.getElem?_eq_getElem hi] at h
  exact nodup_bound _ _ (List.Pairwise.imp (fun {a b} h => Nat.ne_of_lt h) h) (hG _ (List.getElem_mem hi))
end Go.Proofs.YtpddamloajpiiaaGreatDoor
