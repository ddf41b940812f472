/-
What is proved here: that a search through lists of numbers, and one through the lists turned, tell the components. On lists alone.
-/
import Derived.Test.YtnbjfmkckebfgaaGreatTrn
import Derived.Test.YtnbjfmkckebfgaaGreatGrp
set_option linter.unusedSimpArgs false
set_option linter.unusedVariables false
namespace Go.Cmp
theorem rch_turned {G T : Gr} (h : Turned G T) {u v : Nat} (k : Rch T u v) : Rch G v u := by
  induction k with
  | refl => exact .refl
  | step _ hx ih => exact (Rch.one ((h.mem _ _).1 hx)).trans ih
theorem turned_rch {G T : Gr} (h : Turned G T) {u v : Nat} (k : Rch G u v) : Rch T v u := by
  induction k with
  | refl => exact .refl
  | step _ hx ih => exact (Rch.one ((h.mem _ _).2 hx)).trans ih
theorem J.closed {G : Gr} {n : Nat} {L : List Nat} {m : List Bool} (h : J G n L [] m) {u v : Nat} (hu : u ∈ L) (k : Rch G u v) : v ∈ L := by
  rcases h.out hu k with h1 | ⟨s, h1, _⟩
  · exact h1
  · cases h1
theorem J.marked {G : Gr} {n : Nat} {L : List Nat} {m : List Bool} (h : J G n L [] m) (v : Nat) : m.getD v false = true ↔ v ∈ L := by
  rw [h.mark v]; simp
theorem j_empty (G : Gr) : J G G.length [] [] (List.replicate G.length false) := by
  refine ⟨by simp, fun v => ?_, (fun v hv => by simp at hv), .nil, .nil, (fun v hv => by cases hv), (fun v hv => by cases hv), (fun v hv => by cases hv)⟩
  rw [List.getD_eq_getElem?_getD, List.getElem?_replicate]
  split <;> simp
/-- a component -/
def Scc (G : Gr) (g : List Nat) : Prop := ∃ r ∈ g, ∀ v, v ∈ g ↔ Rch G r v ∧ Rch G v r
theorem scc_all {G : Gr} {g : List Nat} (h : Scc G g) {u v : Nat} (hu : u ∈ g) : v ∈ g ↔ Rch G u v ∧ Rch G v u := by
  obtain ⟨r, _, hr⟩ := h
  have h1 := (hr u).1 hu
  rw [hr v]
  exact ⟨fun h2 => ⟨h1.2.trans h2.1, h2.2.trans h1.1⟩, fun h2 => ⟨h1.1.trans h2.1, h2.2.trans h1.2⟩⟩
/-- what the second search has found when it has looked at the last k of those that the first one left -/
structure PB (G T : Gr) (F F2 : List Nat) (m : List Bool) (LL : List (List Nat)) (k : Nat) : Prop where
  j : J T G.length F2 [] m
  done : ∀ v ∈ F.drop (F.length - k), v ∈ F2
  scc : ∀ g ∈ LL, Scc G g
  up : ∀ g ∈ LL, g.Pairwise (· < ·)
  cov : ∀ v, v ∈ F2 ↔ ∃ g ∈ LL, v ∈ g
  dis : LL.Pairwise fun a b => ∀ v ∈ a, v ∉ b
theorem pb_0 {G T : Gr} (hT : Turned G T) (F : List Nat) : PB G T F [] (List.replicate G.length false) [] 0 := by
  refine ⟨(by have := j_empty T; rwa [hT.len] at this), fun v hv => ?_, (fun g hg => by cases hg), (fun g hg => by cases hg), (fun v => by simp), .nil⟩
  rw [Nat.sub_zero, List.drop_length] at hv
  cases hv
theorem drop_next {F : List Nat} {k : Nat} (hk : k < F.length) : F.drop (F.length - (k + 1)) = F[F.length - 1 - k]'(by omega) :: F.drop (F.length - k) := by
  rw [List.drop_eq_getElem_cons (by omega)]
  congr 1
  · congr 1; omega
  · congr 1; omega
theorem pb_skip {G T : Gr} {F F2 : List Nat} {m : List Bool} {LL : List (List Nat)} {k : Nat} (h : PB G T F F2 m LL k) (hk : k < F.length) (hm : m.getD (F[F.length - 1 - k]'(by omega)) false = true) : PB G T F F2 m LL (k + 1) := by
  refine ⟨h.j, fun v hv => ?_, h.scc, h.up, h.cov, h.dis⟩
  rw [drop_next hk] at hv
  rcases List.mem_cons.1 hv with rfl | hv
  · exact (h.j.marked _).1 hm
  · exact h.done v hv
theorem split_unique {r : Nat} : ∀ {a b a' b' : List Nat}, (a ++ r :: b).Nodup → a ++ r :: b = a' ++ r :: b' → a = a' ∧ b = b'
  | [], b, [], b' => fun _ h => by simp at h; exact ⟨rfl, h⟩
  | [], b, y :: a', b' => fun hn h => by
    simp at h
    obtain ⟨rfl, h⟩ := h
    subst h
    simp at hn
  | x :: a, b, [], b' => fun hn h => by
    simp at h
    obtain ⟨rfl, h⟩ := h
    simp at hn
  | x :: a, b, y :: a', b' => fun hn h => by
    simp only [List.cons_append, List.cons.injEq] at h
    obtain ⟨rfl, h⟩ := h
    obtain ⟨rfl, rfl⟩ := split_unique (by simp only [List.cons_append, List.nodup_cons] at hn; exact hn.2) h
    exact ⟨rfl, rfl⟩
theorem pb_step {G T : Gr} (hT : Turned G T) {F F2 : List Nat} {mA m : List Bool} (hA : J G G.length F [] mA) (hall : ∀ v, v < G.length → v ∈ F) {LL : List (List Nat)} {k : Nat} (h : PB G T F F2 m LL k) (hk : k < F.length) {l g : List Nat} {m' : List Bool}
    (hf : Fnd T m (F[F.length - 1 - k]'(by omega)) l m') (hm : m.getD (F[F.length - 1 - k]'(by omega)) false = false) (hp : g.Perm l) (hs : g.Pairwise (· < ·)) : PB G T F (F2 ++ l) m' (LL ++ [g]) (k + 1) := by
  obtain ⟨r, hr⟩ : ∃ r, r = F[F.length - 1 - k]'(by omega) := ⟨_, rfl⟩
  rw [← hr] at hf hm
  have hj : J T T.length F2 [] m := by rw [hT.len]; exact h.j
  obtain ⟨hj2, hrl, hreach⟩ := fnd_of (ok_turned hT) hj hf
  rw [hT.len] at hj2
  have hnot : r ∉ F2 := fun x => by rw [(h.j.marked r).2 x] at hm; cases hm
  have hdl : ∀ v ∈ l, v ∉ F2 := fun v hv hv2 => by
    have := (List.nodup_append.1 (by have := hj2.nd; rwa [List.append_nil] at this)).2.2 v hv2 v hv
    exact this rfl
  have hnb : ∀ x, NB F r x → x = r ∨ x ∈ F2 := fun x hx => by
    obtain ⟨a, b, hab, hx⟩ := hx
    rcases List.mem_cons.1 hx with rfl | hx
    · exact .inl rfl
    · refine .inr (h.done x ?_)
      have hnd : F.Nodup := by have := hA.nd; rwa [List.append_nil] at this
      have h2 : F = F.take (F.length - 1 - k) ++ r :: F.drop (F.length - k) := by
        have h3 := (List.take_append_drop (F.length - (k + 1)) F).symm
        rw [drop_next hk, ← hr] at h3
        rw [show F.length - 1 - k = F.length - (k + 1) by omega]
        exact h3
      have h4 := split_unique (by rw [← hab]; exact hnd) (hab.symm.trans h2)
      rw [← h4.2]; exact hx
  have hset : ∀ v, v ∈ l ↔ Rch G r v ∧ Rch G v r := fun v => by
    constructor
    · intro hv
      have h1 := rch_turned hT (hreach v hv)
      refine ⟨?_, h1⟩
      have hvF : v ∈ F := hall v (hj2.lt v (.inl (List.mem_append_right _ hv)))
      have hrF : r ∈ F := by rw [hr]; exact List.getElem_mem _
      rcases hA.last v hvF r hrF h1 with ⟨x, hx, h2, h3⟩ | ⟨s, hs, _⟩
      · rcases hnb x hx with rfl | hx
        · exact h3
        · exact absurd (h.j.closed hx (turned_rch hT h2)) (hdl v hv)
      · cases hs
    · intro ⟨h1, h2⟩
      have := hj2.closed (List.mem_append_right F2 hrl) (turned_rch hT h2)
      rcases List.mem_append.1 this with h3 | h3
      · exact absurd (h.j.closed h3 (turned_rch hT h1)) hnot
      · exact h3
  refine ⟨hj2, fun v hv => ?_, fun x hx => ?_, fun x hx => ?_, fun v => ?_, ?_⟩
  · rw [drop_next hk, ← hr] at hv
    rcases List.mem_cons.1 hv with rfl | hv
    · exact List.mem_append_right _ hrl
    · exact List.mem_append_left _ (h.done v hv)
  · rcases List.mem_append.1 hx with hx | hx
    · exact h.scc x hx
    · obtain rfl := List.mem_singleton.1 hx
      exact ⟨r, hp.mem_iff.2 hrl, fun v => by rw [hp.mem_iff]; exact hset v⟩
  · rcases List.mem_append.1 hx with hx | hx
    · exact h.up x hx
    · obtain rfl := List.mem_singleton.1 hx; exact hs
  · rw [List.mem_append, h.cov v]
    constructor
    · rintro (⟨x, h1, h2⟩ | h1)
      · exact ⟨x, List.mem_append_left _ h1, h2⟩
      · exact ⟨g, by simp, hp.mem_iff.2 h1⟩
    · rintro ⟨x, h1, h2⟩
      rcases List.mem_append.1 h1 with h1 | h1
      · exact .inl ⟨x, h1, h2⟩
      · obtain rfl := List.mem_singleton.1 h1
        exact .inr (hp.mem_iff.1 h2)
  · refine List.pairwise_append.2 ⟨h.dis, by simp, fun a ha b hb v hv hv2 => ?_⟩
    obtain rfl := List.mem_singleton.1 hb
    exact hdl v (hp.mem_iff.1 hv2) ((h.cov v).2 ⟨a, ha, hv⟩)
/-- the components, each rising, by their least numbers -/
structure Groups (G : Gr) (LL : List (List Nat)) : Prop where
  scc : ∀ g ∈ LL, Scc G g
  up : ∀ g ∈ LL, g.Pairwise (· < ·)
  all : ∀ v, v < G.length → ∃ g ∈ LL, v ∈ g
  lt : ∀ g ∈ LL, ∀ v ∈ g, v < G.length
  ord : LL.Pairwise fun a b => ∀ x y, a.head? = some x → b.head? = some y → x < y
  dis : LL.Pairwise fun a b => ∀ v ∈ a, v ∉ b
open Go.Proofs.YtnbjfmkckebfgaaGreat in
theorem groups_of {G T : Gr} {F F2 : List Nat} {m : List Bool} {LL LS : List (List Nat)} (h : PB G T F F2 m LL F.length) (hall : ∀ v, v < G.length → v ∈ F) (hp : LS.Perm LL) (hs : LS.Pairwise fun a b => ¬ cmpL (zs b) (zs a) < 0) : Groups G LS := by
  have hdis : LS.Pairwise fun a b => ∀ v ∈ a, v ∉ b := (hp.pairwise_iff (fun {a b} h v hv hv2 => h v hv2 hv)).2 h.dis
  have h2 : ∀ v, v < G.length → v ∈ F2 := fun v hv => h.done v (by rw [Nat.sub_self]; exact hall v hv)
  refine ⟨fun g hg => h.scc g (hp.mem_iff.1 hg), fun g hg => h.up g (hp.mem_iff.1 hg), fun v hv => ?_, fun g hg v hv => ?_, ?_, hdis⟩
  · obtain ⟨g, h3, h4⟩ := (h.cov v).1 (h2 v hv)
    exact ⟨g, hp.mem_iff.2 h3, h4⟩
  · exact h.j.lt v (.inl ((h.cov v).2 ⟨g, hp.mem_iff.1 hg, hv⟩))
  · refine (hs.and hdis).imp fun {a b} hab x y hx hy => ?_
    obtain ⟨h3, h4⟩ := hab
    cases a with
    | nil => cases hx
    | cons a0 ar =>
      cases b with
      | nil => cases hy
      | cons b0 br =>
        injection hx with hx
        injection hy with hy
        subst hx hy
        have hne : a0 ≠ b0 := fun e => h4 a0 (by simp) (by rw [e]; simp)
        rcases Nat.lt_or_ge a0 b0 with h5 | h5
        · exact h5
        · refine absurd ?_ h3
          simp only [zs, List.map_cons, cmpL]
          rw [if_pos (by omega)]
          decide
/-- numbers put in order -/
def srtN (l : List Nat) : List Nat := (Go.Proofs.YtnbjfmkckebfgaaGreat.sortZ (Go.Proofs.YtnbjfmkckebfgaaGreat.zs l)).map Int.toNat
open Go.Proofs.YtnbjfmkckebfgaaGreat in
theorem srtN_of (l : List Nat) (hn : l.Nodup) : (srtN l).Perm l ∧ (srtN l).Pairwise (· < ·) ∧ zs (srtN l) = sortZ (zs l) ∧ (srtN l).length = l.length := by
  have hp : (sortZ (zs l)).Perm (zs l) := List.mergeSort_perm _ _
  have h1 : ((zs l).map Int.toNat) = l := by simp [zs, Function.comp_def]
  have hpN : (srtN l).Perm l := by
    have := hp.map Int.toNat
    rw [h1] at this
    exact this
  have hback : zs (srtN l) = sortZ (zs l) := by
    unfold srtN zs
    rw [List.map_map]
    refine (List.map_congr_left fun z hz => ?_).trans (List.map_id _)
    have := hp.mem_iff.1 hz
    obtain ⟨n, _, rfl⟩ := List.mem_map.1 this
    simp
  have hs : (sortZ (zs l)).Pairwise (fun x y => x ≤ y) := by
    have := List.pairwise_mergeSort (le := fun x y : Int => decide (x ≤ y)) (fun a b c h1 h2 => by simp at *; omega) (fun a b => by simp; omega) (zs l)
    exact this.imp (fun h => of_decide_eq_true h)
  refine ⟨hpN, ?_, hback, hpN.length_eq⟩
  have hnd : (srtN l).Nodup := hpN.symm.nodup hn
  rw [← hback] at hs
  have h3 : (srtN l).Pairwise (fun x y => x ≤ y) := by
    unfold zs at hs
    rw [List.pairwise_map] at hs
    exact hs.imp (fun h => by omega)
  exact (h3.and hnd).imp (fun h => by have := h.1; have := h.2; omega)
end Go.Cmp
