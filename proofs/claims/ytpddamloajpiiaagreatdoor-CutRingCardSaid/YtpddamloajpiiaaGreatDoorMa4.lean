/-
What is proved here: several texts in one (Puo, Btw, Add): each says what it is about.
-/
import Derived.Test.YtpddamloajpiiaaGreatDoorMa3
import Derived.Test.YtpddamloajpiiaaGreatDoorMa2
import Derived.Deep.QuietTactic
import Derived.Deep.AppendLies
import Derived.BigQuiet
import Derived.RegionTactic
import Derived.Deep.RegionLaw
import Derived.ChangeAlike
/-
What is proved here: which components need which, and how often. On lists alone.
-/
set_option linter.unusedSimpArgs false
set_option linter.unusedVariables false
namespace Go.Cmp
theorem getD_setN (l : List Nat) (v k x : Nat) : (l.set v x).getD k 0 = if v = k ∧ k < l.length then x else l.getD k 0 := by
  rw [List.getD_eq_getElem?_getD, List.getElem?_set]
  by_cases e : v = k
  · subst e
    by_cases h : v < l.length
    · simp [h]
    · simp [h, List.getD_eq_getElem?_getD]
  · rw [if_neg e, if_neg (fun h => e h.1), ← List.getD_eq_getElem?_getD]
/-- the component of each number, as far as k components and j numbers of the next -/
structure OfA (S : Gr) (n k j : Nat) (f : List Nat) : Prop where
  len : f.length = n
  done : ∀ g, g < k → ∀ v ∈ nx S g, f.getD v 0 = g
  now : ∀ v ∈ (nx S k).take j, f.getD v 0 = k
theorem groups_ne {G : Gr} {S : List (List Nat)} (h : Groups G S) {a b v : Nat} (ha : v ∈ nx S a) (hb : v ∈ nx S b) : a = b := by
  have hl : ∀ {k}, v ∈ nx S k → k < S.length := fun {k} hk => by
    rcases Nat.lt_or_ge k S.length with h1 | h1
    · exact h1
    · unfold nx at hk; rw [List.getD_eq_getElem?_getD, List.getElem?_eq_none h1] at hk; cases hk
  have hg : ∀ {k} (hk : k < S.length), nx S k = S[k] := fun {k} hk => by unfold nx; rw [List.getD_eq_getElem?_getD, List.getElem?_eq_getElem hk]; rfl
  have la := hl ha
  have lb := hl hb
  rw [hg la] at ha
  rw [hg lb] at hb
  have := List.pairwise_iff_getElem.1 h.dis
  rcases Nat.lt_trichotomy a b with h1 | h1 | h1
  · exact absurd hb (this a b la lb h1 v ha)
  · exact h1
  · exact absurd ha (this b a lb la h1 v hb)
theorem ofA_step {G : Gr} {S : List (List Nat)} (h : Groups G S) {k j : Nat} {f : List Nat} (hf : OfA S G.length k j f) (hj : j < (nx S k).length) (hk : k < S.length) : OfA S G.length k (j + 1) (f.set (nx S k)[j] k) := by
  have hv : (nx S k)[j] ∈ nx S k := List.getElem_mem hj
  have hlt : (nx S k)[j] < f.length := by
    rw [hf.len]
    refine h.lt (nx S k) ?_ _ hv
    unfold nx; rw [List.getD_eq_getElem?_getD, List.getElem?_eq_getElem hk]; exact List.getElem_mem hk
  refine ⟨by simp [hf.len], fun g hg v hvg => ?_, fun v hvt => ?_⟩
  · rw [getD_setN]
    by_cases e : (nx S k)[j] = v
    · subst e
      have := groups_ne h hvg hv
      omega
    · rw [if_neg (fun x => e x.1)]; exact hf.done g hg v hvg
  · rw [getD_setN]
    by_cases e : (nx S k)[j] = v
    · rw [if_pos ⟨e, by omega⟩]
    · rw [if_neg (fun x => e x.1)]
      rw [List.take_succ_eq_append_getElem hj] at hvt
      rcases List.mem_append.1 hvt with h1 | h1
      · exact hf.now v h1
      · exact absurd (List.mem_singleton.1 h1).symm e
theorem ofA_next {S : Gr} {n k : Nat} {f : List Nat} (h : OfA S n k (nx S k).length f) : OfA S n (k + 1) 0 f := by
  refine ⟨h.len, fun g hg v hv => ?_, fun v hv => by simp at hv⟩
  rcases Nat.lt_or_ge g k with h1 | h1
  · exact h.done g h1 v hv
  · obtain rfl : g = k := by omega
    exact h.now v (by rw [List.take_length]; exact hv)
/-- how often a number stands in lists -/
def tot (T : Gr) (K g : Nat) : Nat := ((List.range K).map fun h => (nx T h).count g).sum
theorem tot_set (T : Gr) (K g h : Nat) (l : List Nat) (hh : h < K) (hT : h < T.length) : tot (T.set h l) K g + (nx T h).count g = tot T K g + l.count g := by
  unfold tot
  have := sum_set (fun k => (nx (T.set h l) k).count g) (fun k => (nx T k).count g) K h hh (fun k hk => by
    show (nx (T.set h l) k).count g = _
    rw [nx_set, if_neg (fun x => hk x.1.symm)])
  simp only [nx_set, true_and, if_pos hT] at this
  simp only [nx_set] at this ⊢
  exact this
/-- the pairs looked at -/
def Seen (G : Gr) (i j a b : Nat) : Prop := (a < i ∧ b ∈ nx G a) ∨ (a = i ∧ b ∈ (nx G i).take j)
/-- what is told of the pairs looked at -/
structure BtI (G : Gr) (K : Nat) (f : List Nat) (i j : Nat) (T : Gr) (op : List Nat) : Prop where
  lenT : T.length = K
  lenO : op.length = K
  mem : ∀ h g, g ∈ nx T h ↔ ∃ a b, Seen G i j a b ∧ f.getD a 0 = g ∧ f.getD b 0 = h ∧ g ≠ h
  cnt : ∀ g, g < K → op.getD g 0 = tot T K g
  big : ∀ h, (nx T h).length ≤ i * 1024 + j
  bigO : ∀ g, op.getD g 0 ≤ i * 1024 + j
theorem seen_succ {G : Gr} {i j a b : Nat} (hj : j < (nx G i).length) : Seen G i (j + 1) a b ↔ Seen G i j a b ∨ (a = i ∧ b = (nx G i)[j]) := by
  unfold Seen
  rw [List.take_succ_eq_append_getElem hj]
  simp only [List.mem_append, List.mem_singleton]
  constructor
  · rintro (h | ⟨h, h2 | h2⟩)
    · exact .inl (.inl h)
    · exact .inl (.inr ⟨h, h2⟩)
    · exact .inr ⟨h, h2⟩
  · rintro ((h | ⟨h, h2⟩) | ⟨h, h2⟩)
    · exact .inl h
    · exact .inr ⟨h, .inl h2⟩
    · exact .inr ⟨h, .inr h2⟩
theorem bti_skip {G : Gr} {K : Nat} {f : List Nat} {i j : Nat} {T : Gr} {op : List Nat} (h : BtI G K f i j T op) (hj : j < (nx G i).length) (he : f.getD (nx G i)[j] 0 = f.getD i 0) : BtI G K f i (j + 1) T op := by
  refine ⟨h.lenT, h.lenO, fun a b => ?_, h.cnt, fun x => by have := h.big x; omega, fun x => by have := h.bigO x; omega⟩
  rw [h.mem]
  constructor
  · rintro ⟨x, y, h1, h2⟩; exact ⟨x, y, (seen_succ hj).2 (.inl h1), h2⟩
  · rintro ⟨x, y, h1, h2, h3, h4⟩
    rcases (seen_succ hj).1 h1 with h5 | ⟨rfl, rfl⟩
    · exact ⟨x, y, h5, h2, h3, h4⟩
    · rw [← h2, ← h3] at h4; exact absurd he.symm h4
theorem bti_step {G : Gr} {K : Nat} {f : List Nat} {i j : Nat} {T : Gr} {op : List Nat} (h : BtI G K f i j T op) (hj : j < (nx G i).length) {g d : Nat} (hd : f.getD (nx G i)[j] 0 = d) (hg : f.getD i 0 = g) (hne : d ≠ g) (hdK : d < K) (hgK : g < K) :
    BtI G K f i (j + 1) (T.set d (nx T d ++ [g])) (op.set g (op.getD g 0 + 1)) := by
  have lT := h.lenT
  have lO := h.lenO
  refine ⟨by simp [lT], by simp [lO], fun a b => ?_, fun x hx => ?_, fun x => ?_, fun x => ?_⟩
  · rw [nx_set]
    by_cases e : d = a
    · subst e
      rw [if_pos ⟨rfl, by omega⟩, List.mem_append, List.mem_singleton, h.mem]
      constructor
      · rintro (⟨x, y, h1, h2⟩ | rfl)
        · exact ⟨x, y, (seen_succ hj).2 (.inl h1), h2⟩
        · exact ⟨i, _, (seen_succ hj).2 (.inr ⟨rfl, rfl⟩), hg, hd, fun x => hne x.symm⟩
      · rintro ⟨x, y, h1, h2, h3, h4⟩
        rcases (seen_succ hj).1 h1 with h5 | ⟨rfl, rfl⟩
        · exact .inl ⟨x, y, h5, h2, h3, h4⟩
        · exact .inr (h2.symm.trans hg)
    · rw [if_neg (fun x => e x.1), h.mem]
      constructor
      · rintro ⟨x, y, h1, h2⟩; exact ⟨x, y, (seen_succ hj).2 (.inl h1), h2⟩
      · rintro ⟨x, y, h1, h2, h3, h4⟩
        rcases (seen_succ hj).1 h1 with h5 | ⟨rfl, rfl⟩
        · exact ⟨x, y, h5, h2, h3, h4⟩
        · exact absurd (hd.symm.trans h3) e
  · have h1 := tot_set T K x d (nx T d ++ [g]) hdK (by omega)
    rw [List.count_append, List.count_singleton] at h1
    rw [getD_setN]
    have h2 := h.cnt x hx
    by_cases e : g = x
    · subst e
      rw [if_pos ⟨rfl, by omega⟩]
      simp at h1
      omega
    · rw [if_neg (fun y => e y.1)]
      have e2 : (g == x) = false := by simpa using e
      rw [e2] at h1
      simp at h1
      omega
  · rw [nx_set]
    have := h.big d
    have := h.big x
    split
    · rw [List.length_append]; simp; omega
    · omega
  · rw [getD_setN]
    have := h.bigO g
    have := h.bigO x
    split <;> omega
set_option maxRecDepth 100000 in
theorem bti_next {G : Gr} {K : Nat} {f : List Nat} {i : Nat} {T : Gr} {op : List Nat} (hb : (nx G i).length ≤ 1024) (h : BtI G K f i (nx G i).length T op) : BtI G K f (i + 1) 0 T op := by
  refine ⟨h.lenT, h.lenO, fun a b => ?_, h.cnt, fun x => by have := h.big x; omega, fun x => by have := h.bigO x; omega⟩
  rw [h.mem]
  have e : ∀ x y, Seen G i (nx G i).length x y ↔ Seen G (i + 1) 0 x y := fun x y => by
    unfold Seen
    rw [List.take_length]
    simp only [List.take_zero, List.not_mem_nil, and_false, or_false]
    constructor
    · rintro (⟨h1, h2⟩ | ⟨rfl, h2⟩)
      · exact ⟨by omega, h2⟩
      · exact ⟨by omega, h2⟩
    · rintro ⟨h1, h2⟩
      rcases Nat.lt_or_ge x i with h3 | h3
      · exact .inl ⟨h3, h2⟩
      · obtain rfl : x = i := by omega
        exact .inr ⟨rfl, h2⟩
  simp only [e]
theorem bti_0 (G : Gr) (K : Nat) (f : List Nat) : BtI G K f 0 0 (List.replicate K []) (List.replicate K 0) := by
  have e : ∀ v, nx (List.replicate K ([] : List Nat)) v = [] := fun v => by
    unfold nx
    rw [List.getD_eq_getElem?_getD, List.getElem?_replicate]
    split <;> rfl
  have e2 : ∀ v, (List.replicate K 0).getD v 0 = 0 := fun v => by
    rw [List.getD_eq_getElem?_getD, List.getElem?_replicate]
    split <;> rfl
  refine ⟨by simp, by simp, fun a b => ?_, fun g hg => ?_, fun x => by rw [e]; simp, fun x => by rw [e2]; omega⟩
  · rw [e]
    simp only [List.not_mem_nil, false_iff]
    rintro ⟨x, y, h1, _⟩
    unfold Seen at h1
    simp at h1
  · rw [e2]
    unfold tot
    have : (List.range K).map (fun h => (nx (List.replicate K ([] : List Nat)) h).count g) = List.replicate K 0 := by
      apply List.ext_getElem
      · simp
      · intro i h1 h2; simp [e]
    rw [this]; simp
/-- of each component those that need it, and of each how many needs it has -/
structure Asks (G : Gr) (S : List (List Nat)) (T : Gr) (op : List Nat) : Prop where
  lenT : T.length = S.length
  lenO : op.length = S.length
  mem : ∀ h g, g ∈ nx T h ↔ g ≠ h ∧ g < S.length ∧ h < S.length ∧ ∃ a ∈ nx S g, ∃ b ∈ nx S h, b ∈ nx G a
  cnt : ∀ g, g < S.length → op.getD g 0 = tot T S.length g
  big : ∀ h, (nx T h).length ≤ 1048576
  bigO : ∀ g, op.getD g 0 ≤ 1048576
theorem nx_pos {S : Gr} {k v : Nat} (h : v ∈ nx S k) : k < S.length := by
  rcases Nat.lt_or_ge k S.length with h1 | h1
  · exact h1
  · unfold nx at h; rw [List.getD_eq_getElem?_getD, List.getElem?_eq_none h1] at h; cases h
theorem nx_mem {S : Gr} {k : Nat} (h : k < S.length) : nx S k ∈ S := by
  unfold nx; rw [List.getD_eq_getElem?_getD, List.getElem?_eq_getElem h]; exact List.getElem_mem h
set_option maxRecDepth 100000 in
theorem asks_of {G : Gr} (hG : Ok G) {S : List (List Nat)} (h : Groups G S) {f : List Nat} (hf : OfA S G.length S.length 0 f) {T : Gr} {op : List Nat} (hn : G.length ≤ 1024) (hb : BtI G S.length f G.length 0 T op) : Asks G S T op := by
  have hof : ∀ v, v < G.length → ∃ k, k < S.length ∧ v ∈ nx S k ∧ f.getD v 0 = k := fun v hv => by
    obtain ⟨g, hg, hvg⟩ := h.all v hv
    obtain ⟨k, hk, rfl⟩ := List.getElem_of_mem hg
    have e : nx S k = S[k] := by unfold nx; rw [List.getD_eq_getElem?_getD, List.getElem?_eq_getElem hk]; rfl
    exact ⟨k, hk, by rw [e]; exact hvg, hf.done k hk v (by rw [e]; exact hvg)⟩
  have hk : G.length * 1024 ≤ 1048576 := by omega
  refine ⟨hb.lenT, hb.lenO, fun d g => ?_, hb.cnt, fun x => by have := hb.big x; omega, fun x => by have := hb.bigO x; omega⟩
  rw [hb.mem]
  constructor
  · rintro ⟨a, b, hs, h1, h2, h3⟩
    have hba : b ∈ nx G a := by
      unfold Seen at hs
      simp only [List.take_zero, List.not_mem_nil, and_false, or_false] at hs
      exact hs.2
    obtain ⟨hb', ha'⟩ := nx_lt hG hba
    obtain ⟨k1, l1, m1, e1⟩ := hof a ha'
    obtain ⟨k2, l2, m2, e2⟩ := hof b hb'
    rw [e1] at h1
    rw [e2] at h2
    subst h1 h2
    exact ⟨h3, l1, l2, a, m1, b, m2, hba⟩
  · rintro ⟨h3, l1, l2, a, m1, b, m2, hba⟩
    exact ⟨a, b, .inl ⟨(nx_lt hG hba).2, hba⟩, hf.done g l1 a m1, hf.done d l2 b m2, h3⟩
end Go.Cmp

/-
What is proved here: package comp's look at what lies between components, by a contract.
-/
set_option linter.unusedSimpArgs false
set_option linter.unusedVariables false
namespace Go.Proofs.YtpddamloajpiiaaGreatDoor
open Go.Cmp Go.RowKit
def iRow (l : List Nat) : Array Value := ((zs l).map iV).toArray
theorem iRow_at {l : List Nat} {v : Nat} (h : v < l.length) : (iRow l)[v]? = some (.int .i64 (l.getD v 0 : Int)) := by
  unfold iRow zs
  rw [List.getElem?_toArray, List.getElem?_map, List.getElem?_map, List.getElem?_eq_getElem h, List.getD_eq_getElem?_getD, List.getElem?_eq_getElem h]
  rfl
theorem iRow_set (l : List Nat) (v x : Nat) : (iRow l).setIfInBounds v (.int .i64 (x : Int)) = iRow (l.set v x) := by
  unfold iRow zs
  rw [List.setIfInBounds_toArray, List.map_set, List.map_set]
  rfl
theorem iRow_zero (n : Nat) : Array.replicate n (.int .i64 0) = iRow (List.replicate n 0) := by
  rw [← List.toArray_replicate]; simp [iRow, zs, iV]
/-- what between makes: the lists of those that ask in block R, the numbers of needs in block O, the components of the numbers in the third block -/
structure BtM (w : World) (R O : Nat) (vs : List Value) (T : Gr) (op f : List Nat) (wr : World) : Prop where
  row : Lies wr R 33 vs.toArray
  sep : Sep wr (w.heap.size + 3) vs (zg T)
  opn : Lies wr O 3 (iRow op)
  off : Lies wr (w.heap.size + 1 + 1) 3 (iRow f)
  low : Below w.heap.size w wr
  sz : w.heap.size + 3 ≤ wr.heap.size
theorem btM_off {w : World} {R O : Nat} {vs : List Value} {T : Gr} {op f : List Nat} {wr : World} (h : BtM w R O vs T op f wr) (hB : R ≠ O ∧ (w.heap.size ≤ R ∧ R < w.heap.size + 2) ∧ w.heap.size ≤ O ∧ O < w.heap.size + 2) (v x : Nat) : BtM w R O vs T op (f.set v x) (wr.setCell ⟨w.heap.size + 1 + 1, v, none⟩ (.int .i64 (x : Int))) := by
  have hb : But (· = w.heap.size + 1 + 1) wr (wr.setCell ⟨w.heap.size + 1 + 1, v, none⟩ (.int .i64 (x : Int))) := (But.refl (· = w.heap.size + 1 + 1) wr).setCell (p := ⟨w.heap.size + 1 + 1, v, none⟩) (fun _ => rfl) _
  refine ⟨hb.lies h.row (by omega), h.sep.but hb (fun u k hu hk e => by have := (own_heap (h.sep.own u hu) k hk).1; omega), hb.lies h.opn (by omega), by have := lies_set h.off v (.int .i64 (x : Int)); rwa [iRow_set] at this, h.low.setCell (p := ⟨w.heap.size + 1 + 1, v, none⟩) (show w.heap.size ≤ w.heap.size + 1 + 1 by omega) _, by simpa [World.setCell] using h.sz⟩
theorem ofA_lt {G : Gr} {S : List (List Nat)} (h : Groups G S) {f : List Nat} (hf : OfA S G.length S.length 0 f) {v : Nat} (hv : v < G.length) : f.getD v 0 < S.length := by
  obtain ⟨g, hg, hvg⟩ := h.all v hv
  obtain ⟨k, hk, rfl⟩ := List.getElem_of_mem hg
  have e : nx S k = S[k] := by unfold nx; rw [List.getD_eq_getElem?_getD, List.getElem?_eq_getElem hk]; rfl
  rw [hf.done k hk v (by rw [e]; exact hvg)]
  exact hk
theorem Sep.drewN {w : World} {B : Nat} {vs : List Value} {T : List (List Int)} (h : Sep w B vs T) (n : Nat) : Sep (w.drewN n) B vs T := ⟨h.len, h.own, h.sep⟩
theorem btM_drewN {w : World} {R O : Nat} {vs : List Value} {T : Gr} {op f : List Nat} {wr : World} (h : BtM w R O vs T op f wr) (q : Nat) : BtM w R O vs T op f (wr.drewN q) := ⟨h.row, h.sep.drewN q, h.opn, h.off, below_drewN h.low q, h.sz⟩
theorem btM_at {w : World} {R O : Nat} {vs : List Value} {T : Gr} {op f : List Nat} {wr : World} (h : BtM w R O vs T op f wr) {v : Nat} (hv : v < T.length) : wr.cell? ⟨R, v, none⟩ = some (vs.getD v undef) ∧ OwnI wr (w.heap.size + 3) (vs.getD v undef) (zs (nx T v)) ∧ vs.toArray[v]? = some (vs.getD v undef) := by
  have hvz : v < (zg T).length := by simpa using hv
  have ho := h.sep.own v hvz
  rw [zg_getD] at ho
  have hl : v < vs.length := by rw [h.sep.len]; exact hvz
  have ha : vs.toArray[v]? = some (vs.getD v undef) := by
    rw [List.getElem?_toArray, List.getElem?_eq_getElem hl, List.getD_eq_getElem?_getD, List.getElem?_eq_getElem hl]
    rfl
  exact ⟨by rw [lies_cell h.row, ha], ho, ha⟩
theorem btM_app {w : World} {R O : Nat} {vs : List Value} {T : Gr} {op f : List Nat} {wr w1 : World} (h : BtM w R O vs T op f wr) (hB : R ≠ O ∧ (w.heap.size ≤ R ∧ R < w.heap.size + 2) ∧ w.heap.size ≤ O ∧ O < w.heap.size + 2) {d : Nat} (hd : d < T.length) {o : Obj} (hg : (wr.alloc o).grownBy w1 (vs.getD d undef).ownBlock) :
    Lies w1 R 33 vs.toArray ∧ Lies w1 (w.heap.size + 1 + 1) 3 (iRow f) := by
  have hvz : d < (zg T).length := by simpa using hd
  have hb : But (fun k => some k = (vs.getD d undef).ownBlock) wr w1 := ((But.refl _ wr).alloc o).trans (But.grown hg)
  have hP : ∀ k, some k = (vs.getD d undef).ownBlock → w.heap.size + 3 ≤ k := fun k hk => (own_heap (h.sep.own d hvz) k hk.symm).1
  exact ⟨hb.lies h.row (fun x => by have := hP _ x; omega), hb.lies h.off (fun x => by have := hP _ x; omega)⟩
theorem btM_more {w : World} {R O : Nat} {vs : List Value} {T : Gr} {op f : List Nat} {wr w1 : World} (h : BtM w R O vs T op f wr) (hB : R ≠ O ∧ (w.heap.size ≤ R ∧ R < w.heap.size + 2) ∧ w.heap.size ≤ O ∧ O < w.heap.size + 2) {d g : Nat} (hd : d < T.length) {o : Obj} (hg : (wr.alloc o).grownBy w1 (vs.getD d undef).ownBlock) {GB C : Nat}
    (ho : OwnI w1 (w.heap.size + 3) (.slice (some ⟨GB, 0, none⟩) ((nx T d).length + 1) C) (zs (nx T d) ++ [(g : Int)])) (hat : (vs.getD d undef).ownBlock = some GB ∨ GB = (wr.alloc o).heap.size) :
    BtM w R O (vs.set d (.slice (some ⟨GB, 0, none⟩) ((nx T d).length + 1) C)) (T.set d (nx T d ++ [g])) op f (w1.setCell ⟨R, d, none⟩ (.slice (some ⟨GB, 0, none⟩) ((nx T d).length + 1) C)) := by
  have hvz : d < (zg T).length := by simpa using hd
  have hb : But (fun k => some k = (vs.getD d undef).ownBlock) wr w1 := ((But.refl _ wr).alloc o).trans (But.grown hg)
  have hP : ∀ k, some k = (vs.getD d undef).ownBlock → w.heap.size + 3 ≤ k := fun k hk => (own_heap (h.sep.own d hvz) k hk.symm).1
  have hs : (wr.alloc o).heap.size = wr.heap.size + 1 := by simp
  have h1 := h.sep.turn hvz hb ho (by
    rcases hat with h1 | h1
    · exact .inl h1.symm
    · exact .inr (fun k hk => by injection hk with hk; have hk' : GB = k := hk; omega))
  have hw : But (· = R) w1 (w1.setCell ⟨R, d, none⟩ (.slice (some ⟨GB, 0, none⟩) ((nx T d).length + 1) C)) := (But.refl (· = R) w1).setCell (p := ⟨R, d, none⟩) (fun _ => rfl) _
  have e : zg (T.set d (nx T d ++ [g])) = (zg T).set d (zs (nx T d) ++ [(g : Int)]) := by rw [zg_set]; simp [zs]
  refine ⟨?_, ?_, hw.lies (hb.lies h.opn (fun x => by have := hP _ x; omega)) (fun x => hB.1 x.symm), hw.lies (hb.lies h.off (fun x => by have := hP _ x; omega)) (by omega), ?_, ?_⟩
  · have := lies_set (btM_app h hB hd hg).1 d (.slice (some ⟨GB, 0, none⟩) ((nx T d).length + 1) C)
    rwa [List.setIfInBounds_toArray] at this
  · rw [e]
    exact h1.but hw (fun u k hu hk x => by have := (own_heap (h1.own u hu) k hk).1; omega)
  · exact (h.low.trans (hb.below (by have := h.sz; omega) (fun k hk => by have := hP k hk; omega))).setCell (p := ⟨R, d, none⟩) (show w.heap.size ≤ R by omega) _
  · have := h.sz; have := hb.size; simp [World.setCell]; omega
theorem btM_open {w : World} {R O : Nat} {vs : List Value} {T : Gr} {op f : List Nat} {wr : World} (h : BtM w R O vs T op f wr) (hB : R ≠ O ∧ (w.heap.size ≤ R ∧ R < w.heap.size + 2) ∧ w.heap.size ≤ O ∧ O < w.heap.size + 2) (g x : Nat) : BtM w R O vs T (op.set g x) f (wr.setCell ⟨O, g, none⟩ (.int .i64 (x : Int))) := by
  have hb : But (· = O) wr (wr.setCell ⟨O, g, none⟩ (.int .i64 (x : Int))) := (But.refl (· = O) wr).setCell (p := ⟨O, g, none⟩) (fun _ => rfl) _
  refine ⟨hb.lies h.row hB.1, h.sep.but hb (fun u k hu hk e => by have := (own_heap (h.sep.own u hu) k hk).1; omega), by have := lies_set h.opn g (.int .i64 (x : Int)); rwa [iRow_set] at this, hb.lies h.off (by omega), h.low.setCell (p := ⟨O, g, none⟩) (show w.heap.size ≤ O by omega) _, by simpa [World.setCell] using h.sz⟩
theorem own_snoc {w1 : World} {B GB C d g : Nat} {T : Gr} (h : w1.ownsRow B 3 1 (.slice (some ⟨GB, 0, none⟩) ((nx T d).length + 1) C) ((nx T d).length + 1) ((zs (nx T d)).map iV ++ [.int .i64 (g : Int)])) : OwnI w1 B (.slice (some ⟨GB, 0, none⟩) ((nx T d).length + 1) C) (zs (nx T d) ++ [(g : Int)]) := by
  unfold OwnI
  rw [List.map_append, List.length_append, zs_len]
  exact h
theorem cut_key {S A : Nat → Nat → World → Prop} {G : Prop} (main : (∀ a b c, A a b c → S a b c) → G) (key : ∀ a b c, A a b c → S a b c) : G := main key
/-- what between tells -/
def BtwE (G : Gr) (S : List (List Nat)) (w : World) (e : Ending) (w' : World) : Prop := ∃ (R O : Nat) (vs : List Value) (T : Gr) (op : List Nat), e = .returned (.tuple #[.slice (some ⟨R, 0, none⟩) S.length S.length, .slice (some ⟨O, 0, none⟩) S.length S.length]) ∧
  Asks G S T op ∧ Lies w' R 33 vs.toArray ∧ Sep w' (w.heap.size + 3) vs (zg T) ∧ Lies w' O 3 (iRow op) ∧ Below w.heap.size w w' ∧ w.heap.size ≤ R ∧ R < w.heap.size + 3 ∧ w.heap.size ≤ O ∧ O < w.heap.size + 3
set_option maxRecDepth 100000 in
set_option maxHeartbeats 8000000 in
theorem between_any (LA GA : Option Addr) (lc gc : Nat) (G : Gr) (S : List (List Nat)) (hG : Ok G) (hS : Groups G S) (hn : G.length ≤ 1024) (hg : ∀ l ∈ G, l.length ≤ 1024) (hK : S.length ≤ 1024) (w : World) (hL : LsAt w LA (zg G)) (hA : LsAt w GA (zg S)) :
    Calls Tryz.prog 46 #[.slice LA G.length lc, .slice GA S.length gc] w (BtwE G S w) := by
  obtain ⟨n, hnn⟩ : ∃ n, n = G.length := ⟨_, rfl⟩
  obtain ⟨K, hKK⟩ : ∃ K, K = S.length := ⟨_, rfl⟩
  have mk1 := fun W => mk_lists W S.length (by omega)
  have mk2 := fun W => mk_ints W S.length (by omega)
  have mk3 := fun W => mk_ints W G.length (by omega)
  have HL := Lib.hid hL
  have HA := Lib.hid hA
  have HG := Lib.hid hG
  have HS := Lib.hid hS
  have HGL := Lib.hid (show ∀ v, (nx G v).length ≤ 1024 from fun v => by
    unfold nx
    rw [List.getD_eq_getElem?_getD]
    cases e : G[v]? with
    | none => simp
    | some l => exact hg l (List.mem_of_getElem? e))
  have HN := Lib.hid hnn
  have HKK := Lib.hid hKK
  have HHN := Lib.hid hn
  rw [← hnn] at mk3 hn ⊢
  rw [← hKK] at mk1 mk2 hK ⊢
  clear hL hA hG hS hg hnn hKK
  go_enter Tryz.func46, Tryz.ntmps46
  go_wp2
  go_region
  · have X0 : BtM w w.heap.size (w.heap.size + 1) (List.replicate K nilV) (List.replicate K []) (List.replicate K 0) (List.replicate n 0) ((((w.alloc (.cells (Array.replicate K (.slice none 0 0)) 33)).alloc (.cells (Array.replicate K (.int .i64 0)) 3)).alloc (.cells (Array.replicate n (.int .i64 0)) 3)).drew) := by
      have s2 : (((w.alloc (.cells (Array.replicate K (.slice none 0 0)) 33)).alloc (.cells (Array.replicate K (.int .i64 0)) 3))).heap.size = w.heap.size + 1 + 1 := by simp
      have l3 := lies_new (((w.alloc (.cells (Array.replicate K (.slice none 0 0)) 33)).alloc (.cells (Array.replicate K (.int .i64 0)) 3))) 3 (iRow (List.replicate n 0))
      rw [s2] at l3
      rw [iRow_zero n]
      have sp := sep_made ((((w.alloc (.cells (Array.replicate K (.slice none 0 0)) 33)).alloc (.cells (Array.replicate K (.int .i64 0)) 3)).alloc (.cells (iRow (List.replicate n 0)) 3)).drew) (w.heap.size + 3) K
      refine ⟨by have := lies_alloc (lies_alloc (lies_new w 33 (Array.replicate K (.slice none 0 0))) (.cells (Array.replicate K (.int .i64 0)) 3)) (.cells (iRow (List.replicate n 0)) 3); rw [← List.toArray_replicate] at this ⊢; exact this, by simpa [zg, zs] using sp, by have l := lies_new (w.alloc (.cells (Array.replicate K (.slice none 0 0)) 33)) 3 (Array.replicate K (.int .i64 0)); rw [World.size_alloc, iRow_zero] at l; have := lies_alloc l (.cells (iRow (List.replicate n 0)) 3); rw [iRow_zero]; exact this, l3, ((((Below.refl _ w).alloc (Nat.le_refl _) _).alloc (by simp) _).alloc (by rw [s2]; omega) _).drew, by show w.heap.size + 3 ≤ (((w.alloc (.cells (Array.replicate K (.slice none 0 0)) 33)).alloc (.cells (Array.replicate K (.int .i64 0)) 3)).alloc _).heap.size; rw [World.size_alloc, s2]; omega⟩
    have M0 := Lib.hid X0
    clear X0
    have hRO : w.heap.size ≠ (w.heap.size + 1) := by omega
    have hRb : w.heap.size ≤ w.heap.size ∧ w.heap.size < w.heap.size + 2 := by omega
    have hOb : w.heap.size ≤ (w.heap.size + 1) ∧ (w.heap.size + 1) < w.heap.size + 2 := by omega
    have HB := Lib.hid (And.intro hRO (And.intro hRb hOb))
    clear hRO hRb hOb
    go_upto_region 3 with (fail)
    clear mk1 mk2 mk3
    generalize (((w.alloc (.cells (Array.replicate K (.slice none 0 0)) 33)).alloc (.cells (Array.replicate K (.int .i64 0)) 3)).alloc (.cells (Array.replicate n (.int .i64 0)) 3)).drew = X at *
    go_wp2
    go_loopw [26] (fun v26 wr => ∃ (k : Nat) (f : List Nat), k ≤ K ∧ v26 = .int .i64 (k : Int) ∧ OfA S G.length k 0 f ∧ BtM w w.heap.size (w.heap.size + 1) (List.replicate K nilV) (List.replicate K []) (List.replicate K 0) f wr) (fun v26 _ => K - (intOf v26).toNat)
    case atStart => exact ⟨0, _, Nat.zero_le _, rfl, ⟨by rw [List.length_replicate]; exact HN.out, fun g hg => by omega, fun v hv => by simp at hv⟩, M0.out⟩
    case round =>
      obtain ⟨k, f, hk, rfl, hO, hM⟩ := hrel
      have HO := Lib.hid hO
      have HM := Lib.hid hM
      clear hO hM
      by_cases hlt : k < K
      · have lk : (k : Int) < (K : Int) := by omega
        have hkS : k < S.length := by have := HKK.out; omega
        obtain ⟨b, o, A, c, eG, hbw, c2, hAr⟩ := ls_at HA.out (v := k) hkS
        replace c2 := (HM.out.low.cell (p := ⟨b, o + k, none⟩) hbw).trans c2
        subst eG
        obtain ⟨m, hm⟩ : ∃ m, m = (nx S k).length := ⟨_, rfl⟩
        have ME := Lib.hid hm
        have HAr := Lib.hid hAr.1
        have hmb : m ≤ 1024 := by
          rw [hm]
          have hnd : (nx S k).Nodup := (HS.out.up _ (nx_mem hkS)).imp (fun h => by omega)
          have := nodup_bound G.length _ hnd (fun v hv => HS.out.lt _ (nx_mem hkS) v hv)
          have := HHN.out
          omega
        rw [← hm] at c2
        clear hm hAr hbw
        go_upto_region 7 with (fail)
        go_loopw [33] (fun v33 wq => ∃ (j : Nat) (f : List Nat), j ≤ m ∧ v33 = .int .i64 (j : Int) ∧ OfA S G.length k j f ∧ BtM w w.heap.size (w.heap.size + 1) (List.replicate K nilV) (List.replicate K []) (List.replicate K 0) f wq) (fun v33 _ => m - (intOf v33).toNat)
        case atStart => exact ⟨0, f, Nat.zero_le _, rfl, HO.out, HM.out⟩
        case round =>
          obtain ⟨j, f2, hj, rfl, hO2, hM2⟩ := hrel
          by_cases hjl : j < m
          · have lj : (j : Int) < (m : Int) := by omega
            have hjg : j < (nx S k).length := by rw [← ME.out]; exact hjl
            obtain ⟨b2, o2, eA, hb2, c3⟩ := HAr.out j (by simpa using hjg)
            have ez : (zs (nx S k))[j]'(by simpa using hjg) = ((nx S k)[j] : Int) := by simp [zs]
            rw [ez] at c3
            replace c3 := (hM2.low.cell (p := ⟨b2, o2 + j, none⟩) hb2).trans c3
            have OS := Lib.hid (ofA_step HS.out hO2 hjg hkS)
            have hvg : (nx S k)[j] < n := by rw [HN.out]; exact HS.out.lt _ (nx_mem hkS) _ (List.getElem_mem hjg)
            obtain ⟨v, hv⟩ : ∃ v, v = (nx S k)[j] := ⟨_, rfl⟩
            rw [← hv] at c3 hvg OS
            have vi : (v : Int) < (n : Int) := by omega
            have c4 := (lies_cell hM2.off v).trans (iRow_at (l := f2) (v := v) (by rw [hO2.len, ← HN.out]; exact hvg))
            have f4 := lies_free hM2.off v
            have M2 := Lib.hid (btM_off hM2 HB.out v k)
            subst eA
            clear hO2 hM2 ez hb2 hv
            unfold iV at *
            go_wp2
            go_roundw
            case rel => exact ⟨j + 1, _, by omega, by go_num, OS.out, M2.out⟩
            case measure => first | (simp [intOf]; done) | (simp [intOf]; omega)
          · obtain rfl : j = m := by omega
            have lj : ¬ (j : Int) < (j : Int) := by omega
            have O2 := Lib.hid hO2
            have M2 := Lib.hid hM2
            clear hO2 hM2
            go_wp2
            go_roundw
            case rel => exact ⟨k + 1, f2, by omega, by go_num, ofA_next (by have := O2.out; rw [ME.out] at this; exact this), M2.out⟩
            case measure => first | (simp [intOf]; done) | (simp [intOf]; omega)
      · obtain rfl : k = K := by omega
        have lk : ¬ (k : Int) < (k : Int) := by omega
        have HO2 := Lib.hid (show OfA S G.length S.length 0 f by have := HO.out; rw [HKK.out] at this; exact this)
        have BI := Lib.hid (bti_0 G k f)
        go_upto_region 13 with (fail)
        go_loopw [45] (fun v45 wr => ∃ (i : Nat) (T : Gr) (op : List Nat) (vs : List Value), i ≤ n ∧ v45 = .int .i64 (i : Int) ∧ BtI G k f i 0 T op ∧ BtM w w.heap.size (w.heap.size + 1) vs T op f wr) (fun v45 _ => n - (intOf v45).toNat)
        case atStart => exact ⟨0, _, _, _, Nat.zero_le _, rfl, BI.out, HM.out⟩
        case round =>
          obtain ⟨i, T, op, vs, hi, rfl, hT, hM⟩ := hrel
          have HT := Lib.hid hT
          have HM := Lib.hid hM
          clear hT hM
          by_cases hlt : i < n
          · have li : (i : Int) < (n : Int) := by omega
            have hiG : i < G.length := by have := HN.out; omega
            obtain ⟨b, o, A, c, eG, hbw, c2, hAr⟩ := ls_at HL.out (v := i) hiG
            replace c2 := (HM.out.low.cell (p := ⟨b, o + i, none⟩) hbw).trans c2
            subst eG
            obtain ⟨m, hm⟩ : ∃ m, m = (nx G i).length := ⟨_, rfl⟩
            have ME := Lib.hid hm
            have HAr := Lib.hid hAr.1
            have hmb : m ≤ 1024 := by rw [hm]; exact HGL.out i
            rw [← hm] at c2
            clear hm hAr hbw
            go_upto_region 16 with (fail)
            go_loopw [52] (fun v52 wq => ∃ (j : Nat) (T : Gr) (op : List Nat) (vs : List Value), j ≤ m ∧ v52 = .int .i64 (j : Int) ∧ BtI G k f i j T op ∧ BtM w w.heap.size (w.heap.size + 1) vs T op f wq) (fun v52 _ => m - (intOf v52).toNat)
            case atStart => exact ⟨0, T, op, vs, Nat.zero_le _, rfl, HT.out, HM.out⟩
            case round =>
              obtain ⟨j, T2, op2, vs2, hj, rfl, hT2, hM2⟩ := hrel
              by_cases hjl : j < m
              · have lj : (j : Int) < (m : Int) := by omega
                have hjg : j < (nx G i).length := by rw [← ME.out]; exact hjl
                obtain ⟨b2, o2, eA, hb2, c3⟩ := HAr.out j (by simpa using hjg)
                have ez : (zs (nx G i))[j]'(by simpa using hjg) = ((nx G i)[j] : Int) := by simp [zs]
                rw [ez] at c3
                replace c3 := (hM2.low.cell (p := ⟨b2, o2 + j, none⟩) hb2).trans c3
                have hvG : (nx G i)[j] < G.length := (nx_lt HG.out (List.getElem_mem hjg)).1
                obtain ⟨d, hd⟩ : ∃ d, d = f.getD (nx G i)[j] 0 := ⟨_, rfl⟩
                obtain ⟨g, hg⟩ : ∃ g, g = f.getD i 0 := ⟨_, rfl⟩
                have hdK : d < k := by rw [hd, HKK.out]; exact ofA_lt HS.out HO2.out hvG
                have hgK : g < k := by rw [hg, HKK.out]; exact ofA_lt HS.out HO2.out hiG
                have cv := (lies_cell hM2.off (nx G i)[j]).trans (iRow_at (l := f) (v := (nx G i)[j]) (by rw [HO2.out.len]; exact hvG))
                have ci := (lies_cell hM2.off i).trans (iRow_at (l := f) (v := i) (by rw [HO2.out.len]; exact hiG))
                rw [← hd] at cv
                rw [← hg] at ci
                have hvn : (nx G i)[j] < n := by rw [HN.out]; exact hvG
                obtain ⟨v, hv⟩ : ∃ v, v = (nx G i)[j] := ⟨_, rfl⟩
                rw [← hv] at c3 cv hvn
                have vi : (v : Int) < (n : Int) := by omega
                have di : (d : Int) < (k : Int) := by omega
                have gi : (g : Int) < (k : Int) := by omega
                subst eA
                by_cases hne : d = g
                · have SK := Lib.hid (bti_skip hT2 hjg (by rw [← hd, ← hg]; exact hne))
                  have hnb : ((d : Int) != (g : Int)) = false := by simp [hne]
                  have M2 := Lib.hid hM2
                  clear hT2 hM2 ez hb2 hv hd hg
                  unfold iV at *
                  go_upto_region 18 with (fail)
                  go_quiet (fail)
                  have M3 := Lib.hid (btM_drewN M2.out nq)
                  clear M2 cv ci c3 c2
                  generalize wr.drewN nq = W at *
                  go_wp2
                  go_roundw
                  case rel => exact ⟨j + 1, T2, op2, vs2, by omega, by go_num, SK.out, M3.out⟩
                  case measure => first | (simp [intOf]; done) | (simp [intOf]; omega)
                · have hnb : ((d : Int) != (g : Int)) = true := by simp; omega
                  have ST := Lib.hid (bti_step hT2 hjg hd.symm hg.symm hne hdK hgK)
                  have M2 := Lib.hid hM2
                  have hdT : d < T2.length := by rw [hT2.lenT]; exact hdK
                  have hgO : g < op2.length := by rw [hT2.lenO]; exact hgK
                  have hbg := hT2.big d
                  have hbo := hT2.bigO g
                  have hdv : f.getD v 0 = d := by rw [hd, hv]
                  have hgv : f.getD i 0 = g := hg.symm
                  have HDV := Lib.hid (And.intro hdv hgv)
                  clear hT2 hM2 ez hb2 hv hd hg hdv hgv
                  unfold iV at *
                  go_upto_region 18 with (fail)
                  go_quiet (fail)
                  obtain ⟨hdv, hgv⟩ := HDV.out
                  have M3 := btM_drewN M2.out nq
                  clear M2 cv ci c3 c2
                  generalize wr.drewN nq = W at *
                  have cv := (lies_cell M3.off v).trans (iRow_at (l := f) (v := v) (by rw [HO2.out.len, ← HN.out]; exact hvn))
                  have ci := (lies_cell M3.off i).trans (iRow_at (l := f) (v := i) (by rw [HO2.out.len]; exact hiG))
                  obtain ⟨cd, od, va⟩ := btM_at M3 hdT
                  obtain ⟨VV, hVV⟩ : ∃ VV, VV = vs2.getD d undef := ⟨_, rfl⟩
                  rw [← hVV] at cd
                  have M4 := Lib.hid M3
                  have cva := lies_cell (lies_alloc M3.off (.cells #[.int .i64 (g : Int)] 3)) v
                  have cia := lies_cell (lies_alloc M3.off (.cells #[.int .i64 (g : Int)] 3)) i
                  have cda := lies_cell (lies_alloc M3.row (.cells #[.int .i64 (g : Int)] 3)) d
                  rw [iRow_at (l := f) (v := v) (by rw [HO2.out.len, ← HN.out]; exact hvn)] at cva
                  rw [iRow_at (l := f) (v := i) (by rw [HO2.out.len]; exact hiG)] at cia
                  rw [va, ← hVV] at cda
                  have HFD := Lib.hid (show f.getD v 0 = d ∧ f.getD i 0 = g from ⟨hdv, hgv⟩)
                  rw [hdv] at cv cva
                  rw [hgv] at ci cia
                  have VA := Lib.hid va
                  have hVV' := Lib.hid hVV
                  have HFL := Lib.hid (show v < f.length ∧ i < f.length by rw [HO2.out.len, ← HN.out]; exact ⟨hvn, by omega⟩)
                  have OW := Lib.hid (show OwnI ((W.alloc (.cells #[.int .i64 (g : Int)] 3)).drew) (w.heap.size + 3) VV (zs (nx T2 d)) by rw [hVV]; exact World.ownsRow.alloc od _)
                  have LN := Lib.hid (lies_new W 3 #[.int .i64 (g : Int)])
                  have SZ := Lib.hid (show w.heap.size + 3 ≤ (W.alloc (.cells #[.int .i64 (g : Int)] 3)).heap.size by have := M3.sz; simp; omega)
                  have LB := Lib.hid (show (zs (nx T2 d)).length ≤ 100000000 by rw [zs_len]; omega)
                  have HDT := Lib.hid hdT
                  obtain ⟨i0, hi0, hz0, hz1, hz2⟩ := info_parts int_info
                  have HI0 := Lib.hid hi0
                  have HZ0 := Lib.hid hz0
                  have HZ1 := Lib.hid hz1
                  have HZ2 := Lib.hid hz2
                  clear M3 va hVV od hi0 hz0 hz1 hz2 hdv hgv
                  go_upto_region 19 with (fail)
                  have MX := Lib.hid (show (zs (nx T2 d)).length + 1 ≤ maxLen by
                    have := LB.out
                    have : (100000001 : Nat) ≤ maxLen := by decide
                    omega)
                  have VB := Lib.hid (show (vs2.getD d undef).ownBlock = VV.ownBlock by rw [hVV'.out])
                  apply cut_key (A := fun GB C W2 => Hid (BtM w w.heap.size (w.heap.size + 1) (vs2.set d (.slice (some ⟨GB, 0, none⟩) ((nx T2 d).length + 1) C)) (T2.set d (nx T2 d ++ [g])) op2 f W2))
                  · intro key
                    go_region_law (first
                      | (refine step_append_lies _ (by rfl) _ _ _ (by rfl) (w.heap.size + 3) 3 i0 _ 1 8 Tryz.underlying33 HI0.out HZ0.out HZ1.out HZ2.out rfl (by omega) VV (zs (nx T2 d)).length ((zs (nx T2 d)).map iV) (by rfl) OW.out ⟨W.heap.size, 0, none⟩ 1 1 [.int .i64 (g : Int)] (by rfl) (by rfl) (World.news_of_block (cs := #[.int .i64 (g : Int)]) (t := 3) (fr := (0, 0)) (heap_alloc_new _ _)) (by simp [Value.oneCell']) (by omega) MX.out (by have := LB.out; omega) SZ.out (W.alloc (.cells #[.int .i64 (g : Int)] 3)).heap.size rfl ?_; intro GB C w1 hown1 hgrow hat hlt1; rw [zs_len] at hown1 ⊢; have hg2 := (show (W.alloc (.cells #[.int .i64 (g : Int)] 3)).grownBy w1 (vs2.getD d undef).ownBlock from by rw [VB.out]; exact ⟨hgrow.os, hgrow.tape, hgrow.output, hgrow.size, hgrow.block⟩); have FA := btM_app M4.out HB.out HDT.out hg2; have cR1 := (lies_cell FA.1 d).trans VA.out; have fR1 := lies_free FA.1 d; have cv1 := (lies_cell FA.2 v).trans (iRow_at (l := f) (v := v) HFL.out.1); have ci1 := (lies_cell FA.2 i).trans (iRow_at (l := f) (v := i) HFL.out.2); rw [HFD.out.1] at cv1; rw [HFD.out.2] at ci1; have M5 := Lib.hid (btM_more M4.out HB.out HDT.out (GB := GB) (C := C) (g := g) hg2 (own_snoc hown1) (by rw [VB.out]; exact hat)); clear FA hg2 hgrow hat hlt1 hown1))
                    all_goals
                      generalize hW2 : World.setCell _ _ _ = W2
                      refine key GB C W2 ?_
                      rw [← hW2]
                      exact M5
                  · intro GB C W2 M5
                    have M6 := M5.out
                    clear M5
                    have ci := (lies_cell M6.off i).trans (iRow_at (l := f) (v := i) HFL.out.2)
                    rw [HFD.out.2] at ci
                    have co := (lies_cell M6.opn g).trans (iRow_at (l := op2) (v := g) hgO)
                    have fo := lies_free M6.opn g
                    have ST' := ST.out
                    have M7 := btM_open M6 HB.out g (op2.getD g 0 + 1)
                    have hb2 := hbo
                    generalize op2.getD g 0 = p at *
                    have pl : (p : Int) ≤ 2000000 := by omega
                    have p0 : (0 : Int) ≤ (p : Int) := by omega
                    have M7 := Lib.hid M7
                    have ST' := Lib.hid ST'
                    clear M6
                    go_wp2
                    go_roundw
                    case rel => exact ⟨j + 1, _, _, _, by omega, by go_num, ST'.out, by have := M7.out; rw [show ((p + 1 : Nat) : Int) = (p : Int) + 1 by omega] at this; (try rw [wrap64_in _ (by omega)]); exact this⟩
                    case measure => first | (simp [intOf]; done) | (simp [intOf]; omega)
              · obtain rfl : j = m := by omega
                have lj : ¬ (j : Int) < (j : Int) := by omega
                have T2H := Lib.hid hT2
                have M2 := Lib.hid hM2
                clear hT2 hM2
                go_wp2
                go_roundw
                case rel => exact ⟨i + 1, T2, op2, vs2, by omega, by go_num, bti_next (HGL.out i) (by have := T2H.out; rw [ME.out] at this; exact this), M2.out⟩
                case measure => first | (simp [intOf]; done) | (simp [intOf]; omega)
          · obtain rfl : i = n := by omega
            have li : ¬ (i : Int) < (i : Int) := by omega
            go_wp2
            go_ret2
            refine ⟨w.heap.size, (w.heap.size + 1), vs, T, op, by rw [← HKK.out]; rfl, asks_of HG.out HS.out HO2.out HHN.out (by have := HT.out; rw [HKK.out, HN.out] at this; exact this), HM.out.row, HM.out.sep, HM.out.opn, HM.out.low, by omega, by omega, by omega, by omega⟩
  · have X0 : BtM w (w.heap.size + 1) w.heap.size (List.replicate K nilV) (List.replicate K []) (List.replicate K 0) (List.replicate n 0) ((((w.alloc (.cells (Array.replicate K (.int .i64 0)) 3)).alloc (.cells (Array.replicate K (.slice none 0 0)) 33)).alloc (.cells (Array.replicate n (.int .i64 0)) 3)).drew) := by
      have s2 : (((w.alloc (.cells (Array.replicate K (.int .i64 0)) 3)).alloc (.cells (Array.replicate K (.slice none 0 0)) 33))).heap.size = w.heap.size + 1 + 1 := by simp
      have l3 := lies_new (((w.alloc (.cells (Array.replicate K (.int .i64 0)) 3)).alloc (.cells (Array.replicate K (.slice none 0 0)) 33))) 3 (iRow (List.replicate n 0))
      rw [s2] at l3
      rw [iRow_zero n]
      have sp := sep_made ((((w.alloc (.cells (Array.replicate K (.int .i64 0)) 3)).alloc (.cells (Array.replicate K (.slice none 0 0)) 33)).alloc (.cells (iRow (List.replicate n 0)) 3)).drew) (w.heap.size + 3) K
      refine ⟨by have l := lies_new (w.alloc (.cells (Array.replicate K (.int .i64 0)) 3)) 33 (Array.replicate K (.slice none 0 0)); rw [World.size_alloc, ← List.toArray_replicate] at l; have := lies_alloc l (.cells (iRow (List.replicate n 0)) 3); rw [← List.toArray_replicate]; exact this, by simpa [zg, zs] using sp, by have := lies_alloc (lies_alloc (lies_new w 3 (Array.replicate K (.int .i64 0))) (.cells (Array.replicate K (.slice none 0 0)) 33)) (.cells (iRow (List.replicate n 0)) 3); rw [iRow_zero] at this ⊢; exact this, l3, ((((Below.refl _ w).alloc (Nat.le_refl _) _).alloc (by simp) _).alloc (by rw [s2]; omega) _).drew, by show w.heap.size + 3 ≤ (((w.alloc (.cells (Array.replicate K (.int .i64 0)) 3)).alloc (.cells (Array.replicate K (.slice none 0 0)) 33)).alloc _).heap.size; rw [World.size_alloc, s2]; omega⟩
    have M0 := Lib.hid X0
    clear X0
    have hRO : (w.heap.size + 1) ≠ w.heap.size := by omega
    have hRb : w.heap.size ≤ (w.heap.size + 1) ∧ (w.heap.size + 1) < w.heap.size + 2 := by omega
    have hOb : w.heap.size ≤ w.heap.size ∧ w.heap.size < w.heap.size + 2 := by omega
    have HB := Lib.hid (And.intro hRO (And.intro hRb hOb))
    clear hRO hRb hOb
    go_upto_region 3 with (fail)
    clear mk1 mk2 mk3
    generalize (((w.alloc (.cells (Array.replicate K (.int .i64 0)) 3)).alloc (.cells (Array.replicate K (.slice none 0 0)) 33)).alloc (.cells (Array.replicate n (.int .i64 0)) 3)).drew = X at *
    go_wp2
    go_loopw [26] (fun v26 wr => ∃ (k : Nat) (f : List Nat), k ≤ K ∧ v26 = .int .i64 (k : Int) ∧ OfA S G.length k 0 f ∧ BtM w (w.heap.size + 1) w.heap.size (List.replicate K nilV) (List.replicate K []) (List.replicate K 0) f wr) (fun v26 _ => K - (intOf v26).toNat)
    case atStart => exact ⟨0, _, Nat.zero_le _, rfl, ⟨by rw [List.length_replicate]; exact HN.out, fun g hg => by omega, fun v hv => by simp at hv⟩, M0.out⟩
    case round =>
      obtain ⟨k, f, hk, rfl, hO, hM⟩ := hrel
      have HO := Lib.hid hO
      have HM := Lib.hid hM
      clear hO hM
      by_cases hlt : k < K
      · have lk : (k : Int) < (K : Int) := by omega
        have hkS : k < S.length := by have := HKK.out; omega
        obtain ⟨b, o, A, c, eG, hbw, c2, hAr⟩ := ls_at HA.out (v := k) hkS
        replace c2 := (HM.out.low.cell (p := ⟨b, o + k, none⟩) hbw).trans c2
        subst eG
        obtain ⟨m, hm⟩ : ∃ m, m = (nx S k).length := ⟨_, rfl⟩
        have ME := Lib.hid hm
        have HAr := Lib.hid hAr.1
        have hmb : m ≤ 1024 := by
          rw [hm]
          have hnd : (nx S k).Nodup := (HS.out.up _ (nx_mem hkS)).imp (fun h => by omega)
          have := nodup_bound G.length _ hnd (fun v hv => HS.out.lt _ (nx_mem hkS) v hv)
          have := HHN.out
          omega
        rw [← hm] at c2
        clear hm hAr hbw
        go_upto_region 7 with (fail)
        go_loopw [33] (fun v33 wq => ∃ (j : Nat) (f : List Nat), j ≤ m ∧ v33 = .int .i64 (j : Int) ∧ OfA S G.length k j f ∧ BtM w (w.heap.size + 1) w.heap.size (List.replicate K nilV) (List.replicate K []) (List.replicate K 0) f wq) (fun v33 _ => m - (intOf v33).toNat)
        case atStart => exact ⟨0, f, Nat.zero_le _, rfl, HO.out, HM.out⟩
        case round =>
          obtain ⟨j, f2, hj, rfl, hO2, hM2⟩ := hrel
          by_cases hjl : j < m
          · have lj : (j : Int) < (m : Int) := by omega
            have hjg : j < (nx S k).length := by rw [← ME.out]; exact hjl
            obtain ⟨b2, o2, eA, hb2, c3⟩ := HAr.out j (by simpa using hjg)
            have ez : (zs (nx S k))[j]'(by simpa using hjg) = ((nx S k)[j] : Int) := by simp [zs]
            rw [ez] at c3
            replace c3 := (hM2.low.cell (p := ⟨b2, o2 + j, none⟩) hb2).trans c3
            have OS := Lib.hid (ofA_step HS.out hO2 hjg hkS)
            have hvg : (nx S k)[j] < n := by rw [HN.out]; exact HS.out.lt _ (nx_mem hkS) _ (List.getElem_mem hjg)
            obtain ⟨v, hv⟩ : ∃ v, v = (nx S k)[j] := ⟨_, rfl⟩
            rw [← hv] at c3 hvg OS
            have vi : (v : Int) < (n : Int) := by omega
            have c4 := (lies_cell hM2.off v).trans (iRow_at (l := f2) (v := v) (by rw [hO2.len, ← HN.out]; exact hvg))
            have f4 := lies_free hM2.off v
            have M2 := Lib.hid (btM_off hM2 HB.out v k)
            subst eA
            clear hO2 hM2 ez hb2 hv
            unfold iV at *
            go_wp2
            go_roundw
            case rel => exact ⟨j + 1, _, by omega, by go_num, OS.out, M2.out⟩
            case measure => first | (simp [intOf]; done) | (simp [intOf]; omega)
          · obtain rfl : j = m := by omega
            have lj : ¬ (j : Int) < (j : Int) := by omega
            have O2 := Lib.hid hO2
            have M2 := Lib.hid hM2
            clear hO2 hM2
            go_wp2
            go_roundw
            case rel => exact ⟨k + 1, f2, by omega, by go_num, ofA_next (by have := O2.out; rw [ME.out] at this; exact this), M2.out⟩
            case measure => first | (simp [intOf]; done) | (simp [intOf]; omega)
      · obtain rfl : k = K := by omega
        have lk : ¬ (k : Int) < (k : Int) := by omega
        have HO2 := Lib.hid (show OfA S G.length S.length 0 f by have := HO.out; rw [HKK.out] at this; exact this)
        have BI := Lib.hid (bti_0 G k f)
        go_upto_region 13 with (fail)
        go_loopw [45] (fun v45 wr => ∃ (i : Nat) (T : Gr) (op : List Nat) (vs : List Value), i ≤ n ∧ v45 = .int .i64 (i : Int) ∧ BtI G k f i 0 T op ∧ BtM w (w.heap.size + 1) w.heap.size vs T op f wr) (fun v45 _ => n - (intOf v45).toNat)
        case atStart => exact ⟨0, _, _, _, Nat.zero_le _, rfl, BI.out, HM.out⟩
        case round =>
          obtain ⟨i, T, op, vs, hi, rfl, hT, hM⟩ := hrel
          have HT := Lib.hid hT
          have HM := Lib.hid hM
          clear hT hM
          by_cases hlt : i < n
          · have li : (i : Int) < (n : Int) := by omega
            have hiG : i < G.length := by have := HN.out; omega
            obtain ⟨b, o, A, c, eG, hbw, c2, hAr⟩ := ls_at HL.out (v := i) hiG
            replace c2 := (HM.out.low.cell (p := ⟨b, o + i, none⟩) hbw).trans c2
            subst eG
            obtain ⟨m, hm⟩ : ∃ m, m = (nx G i).length := ⟨_, rfl⟩
            have ME := Lib.hid hm
            have HAr := Lib.hid hAr.1
            have hmb : m ≤ 1024 := by rw [hm]; exact HGL.out i
            rw [← hm] at c2
            clear hm hAr hbw
            go_upto_region 16 with (fail)
            go_loopw [52] (fun v52 wq => ∃ (j : Nat) (T : Gr) (op : List Nat) (vs : List Value), j ≤ m ∧ v52 = .int .i64 (j : Int) ∧ BtI G k f i j T op ∧ BtM w (w.heap.size + 1) w.heap.size vs T op f wq) (fun v52 _ => m - (intOf v52).toNat)
            case atStart => exact ⟨0, T, op, vs, Nat.zero_le _, rfl, HT.out, HM.out⟩
            case round =>
              obtain ⟨j, T2, op2, vs2, hj, rfl, hT2, hM2⟩ := hrel
              by_cases hjl : j < m
              · have lj : (j : Int) < (m : Int) := by omega
                have hjg : j < (nx G i).length := by rw [← ME.out]; exact hjl
                obtain ⟨b2, o2, eA, hb2, c3⟩ := HAr.out j (by simpa using hjg)
                have ez : (zs (nx G i))[j]'(by simpa using hjg) = ((nx G i)[j] : Int) := by simp [zs]
                rw [ez] at c3
                replace c3 := (hM2.low.cell (p := ⟨b2, o2 + j, none⟩) hb2).trans c3
                have hvG : (nx G i)[j] < G.length := (nx_lt HG.out (List.getElem_mem hjg)).1
                obtain ⟨d, hd⟩ : ∃ d, d = f.getD (nx G i)[j] 0 := ⟨_, rfl⟩
                obtain ⟨g, hg⟩ : ∃ g, g = f.getD i 0 := ⟨_, rfl⟩
                have hdK : d < k := by rw [hd, HKK.out]; exact ofA_lt HS.out HO2.out hvG
                have hgK : g < k := by rw [hg, HKK.out]; exact ofA_lt HS.out HO2.out hiG
                have cv := (lies_cell hM2.off (nx G i)[j]).trans (iRow_at (l := f) (v := (nx G i)[j]) (by rw [HO2.out.len]; exact hvG))
                have ci := (lies_cell hM2.off i).trans (iRow_at (l := f) (v := i) (by rw [HO2.out.len]; exact hiG))
                rw [← hd] at cv
                rw [← hg] at ci
                have hvn : (nx G i)[j] < n := by rw [HN.out]; exact hvG
                obtain ⟨v, hv⟩ : ∃ v, v = (nx G i)[j] := ⟨_, rfl⟩
                rw [← hv] at c3 cv hvn
                have vi : (v : Int) < (n : Int) := by omega
                have di : (d : Int) < (k : Int) := by omega
                have gi : (g : Int) < (k : Int) := by omega
                subst eA
                by_cases hne : d = g
                · have SK := Lib.hid (bti_skip hT2 hjg (by rw [← hd, ← hg]; exact hne))
                  have hnb : ((d : Int) != (g : Int)) = false := by simp [hne]
                  have M2 := Lib.hid hM2
                  clear hT2 hM2 ez hb2 hv hd hg
                  unfold iV at *
                  go_upto_region 18 with (fail)
                  go_quiet (fail)
                  have M3 := Lib.hid (btM_drewN M2.out nq)
                  clear M2 cv ci c3 c2
                  generalize wr.drewN nq = W at *
                  go_wp2
                  go_roundw
                  case rel => exact ⟨j + 1, T2, op2, vs2, by omega, by go_num, SK.out, M3.out⟩
                  case measure => first | (simp [intOf]; done) | (simp [intOf]; omega)
                · have hnb : ((d : Int) != (g : Int)) = true := by simp; omega
                  have ST := Lib.hid (bti_step hT2 hjg hd.symm hg.symm hne hdK hgK)
                  have M2 := Lib.hid hM2
                  have hdT : d < T2.length := by rw [hT2.lenT]; exact hdK
                  have hgO : g < op2.length := by rw [hT2.lenO]; exact hgK
                  have hbg := hT2.big d
                  have hbo := hT2.bigO g
                  have hdv : f.getD v 0 = d := by rw [hd, hv]
                  have hgv : f.getD i 0 = g := hg.symm
                  have HDV := Lib.hid (And.intro hdv hgv)
                  clear hT2 hM2 ez hb2 hv hd hg hdv hgv
                  unfold iV at *
                  go_upto_region 18 with (fail)
                  go_quiet (fail)
                  obtain ⟨hdv, hgv⟩ := HDV.out
                  have M3 := btM_drewN M2.out nq
                  clear M2 cv ci c3 c2
                  generalize wr.drewN nq = W at *
                  have cv := (lies_cell M3.off v).trans (iRow_at (l := f) (v := v) (by rw [HO2.out.len, ← HN.out]; exact hvn))
                  have ci := (lies_cell M3.off i).trans (iRow_at (l := f) (v := i) (by rw [HO2.out.len]; exact hiG))
                  obtain ⟨cd, od, va⟩ := btM_at M3 hdT
                  obtain ⟨VV, hVV⟩ : ∃ VV, VV = vs2.getD d undef := ⟨_, rfl⟩
                  rw [← hVV] at cd
                  have M4 := Lib.hid M3
                  have cva := lies_cell (lies_alloc M3.off (.cells #[.int .i64 (g : Int)] 3)) v
                  have cia := lies_cell (lies_alloc M3.off (.cells #[.int .i64 (g : Int)] 3)) i
                  have cda := lies_cell (lies_alloc M3.row (.cells #[.int .i64 (g : Int)] 3)) d
                  rw [iRow_at (l := f) (v := v) (by rw [HO2.out.len, ← HN.out]; exact hvn)] at cva
                  rw [iRow_at (l := f) (v := i) (by rw [HO2.out.len]; exact hiG)] at cia
                  rw [va, ← hVV] at cda
                  have HFD := Lib.hid (show f.getD v 0 = d ∧ f.getD i 0 = g from ⟨hdv, hgv⟩)
                  rw [hdv] at cv cva
                  rw [hgv] at ci cia
                  have VA := Lib.hid va
                  have hVV' := Lib.hid hVV
                  have HFL := Lib.hid (show v < f.length ∧ i < f.length by rw [HO2.out.len, ← HN.out]; exact ⟨hvn, by omega⟩)
                  have OW := Lib.hid (show OwnI ((W.alloc (.cells #[.int .i64 (g : Int)] 3)).drew) (w.heap.size + 3) VV (zs (nx T2 d)) by rw [hVV]; exact World.ownsRow.alloc od _)
                  have LN := Lib.hid (lies_new W 3 #[.int .i64 (g : Int)])
                  have SZ := Lib.hid (show w.heap.size + 3 ≤ (W.alloc (.cells #[.int .i64 (g : Int)] 3)).heap.size by have := M3.sz; simp; omega)
                  have LB := Lib.hid (show (zs (nx T2 d)).length ≤ 100000000 by rw [zs_len]; omega)
                  have HDT := Lib.hid hdT
                  obtain ⟨i0, hi0, hz0, hz1, hz2⟩ := info_parts int_info
                  have HI0 := Lib.hid hi0
                  have HZ0 := Lib.hid hz0
                  have HZ1 := Lib.hid hz1
                  have HZ2 := Lib.hid hz2
                  clear M3 va hVV od hi0 hz0 hz1 hz2 hdv hgv
                  go_upto_region 19 with (fail)
                  have MX := Lib.hid (show (zs (nx T2 d)).length + 1 ≤ maxLen by
                    have := LB.out
                    have : (100000001 : Nat) ≤ maxLen := by decide
                    omega)
                  have VB := Lib.hid (show (vs2.getD d undef).ownBlock = VV.ownBlock by rw [hVV'.out])
                  apply cut_key (A := fun GB C W2 => Hid (BtM w (w.heap.size + 1) w.heap.size (vs2.set d (.slice (some ⟨GB, 0, none⟩) ((nx T2 d).length + 1) C)) (T2.set d (nx T2 d ++ [g])) op2 f W2))
                  · intro key
                    go_region_law (first
                      | (refine step_append_lies _ (by rfl) _ _ _ (by rfl) (w.heap.size + 3) 3 i0 _ 1 8 Tryz.underlying33 HI0.out HZ0.out HZ1.out HZ2.out rfl (by omega) VV (zs (nx T2 d)).length ((zs (nx T2 d)).map iV) (by rfl) OW.out ⟨W.heap.size, 0, none⟩ 1 1 [.int .i64 (g : Int)] (by rfl) (by rfl) (World.news_of_block (cs := #[.int .i64 (g : Int)]) (t := 3) (fr := (0, 0)) (heap_alloc_new _ _)) (by simp [Value.oneCell']) (by omega) MX.out (by have := LB.out; omega) SZ.out (W.alloc (.cells #[.int .i64 (g : Int)] 3)).heap.size rfl ?_; intro GB C w1 hown1 hgrow hat hlt1; rw [zs_len] at hown1 ⊢; have hg2 := (show (W.alloc (.cells #[.int .i64 (g : Int)] 3)).grownBy w1 (vs2.getD d undef).ownBlock from by rw [VB.out]; exact ⟨hgrow.os, hgrow.tape, hgrow.output, hgrow.size, hgrow.block⟩); have FA := btM_app M4.out HB.out HDT.out hg2; have cR1 := (lies_cell FA.1 d).trans VA.out; have fR1 := lies_free FA.1 d; have cv1 := (lies_cell FA.2 v).trans (iRow_at (l := f) (v := v) HFL.out.1); have ci1 := (lies_cell FA.2 i).trans (iRow_at (l := f) (v := i) HFL.out.2); rw [HFD.out.1] at cv1; rw [HFD.out.2] at ci1; have M5 := Lib.hid (btM_more M4.out HB.out HDT.out (GB := GB) (C := C) (g := g) hg2 (own_snoc hown1) (by rw [VB.out]; exact hat)); clear FA hg2 hgrow hat hlt1 hown1))
                    all_goals
                      generalize hW2 : World.setCell _ _ _ = W2
                      refine key GB C W2 ?_
                      rw [← hW2]
                      exact M5
                  · intro GB C W2 M5
                    have M6 := M5.out
                    clear M5
                    have ci := (lies_cell M6.off i).trans (iRow_at (l := f) (v := i) HFL.out.2)
                    rw [HFD.out.2] at ci
                    have co := (lies_cell M6.opn g).trans (iRow_at (l := op2) (v := g) hgO)
                    have fo := lies_free M6.opn g
                    have ST' := ST.out
                    have M7 := btM_open M6 HB.out g (op2.getD g 0 + 1)
                    have hb2 := hbo
                    generalize op2.getD g 0 = p at *
                    have pl : (p : Int) ≤ 2000000 := by omega
                    have p0 : (0 : Int) ≤ (p : Int) := by omega
                    have M7 := Lib.hid M7
                    have ST' := Lib.hid ST'
                    clear M6
                    go_wp2
                    go_roundw
                    case rel => exact ⟨j + 1, _, _, _, by omega, by go_num, ST'.out, by have := M7.out; rw [show ((p + 1 : Nat) : Int) = (p : Int) + 1 by omega] at this; (try rw [wrap64_in _ (by omega)]); exact this⟩
                    case measure => first | (simp [intOf]; done) | (simp [intOf]; omega)
              · obtain rfl : j = m := by omega
                have lj : ¬ (j : Int) < (j : Int) := by omega
                have T2H := Lib.hid hT2
                have M2 := Lib.hid hM2
                clear hT2 hM2
                go_wp2
                go_roundw
                case rel => exact ⟨i + 1, T2, op2, vs2, by omega, by go_num, bti_next (HGL.out i) (by have := T2H.out; rw [ME.out] at this; exact this), M2.out⟩
                case measure => first | (simp [intOf]; done) | (simp [intOf]; omega)
          · obtain rfl : i = n := by omega
            have li : ¬ (i : Int) < (i : Int) := by omega
            go_wp2
            go_ret2
            refine ⟨(w.heap.size + 1), w.heap.size, vs, T, op, by rw [← HKK.out]; rfl, asks_of HG.out HS.out HO2.out HHN.out (by have := HT.out; rw [HKK.out, HN.out] at this; exact this), HM.out.row, HM.out.sep, HM.out.opn, HM.out.low, by omega, by omega, by omega, by omega⟩
end Go.Proofs.YtpddamloajpiiaaGreatDoor

/-
What is proved here: ordered's closure that puts a number among those that are ready, by a contract.
-/
set_option linter.unusedSimpArgs false
set_option linter.unusedVariables false
namespace Go.Proofs.YtpddamloajpiiaaGreatDoor
open Go.Cmp Go.RowKit Go.Shelf
/-- how many are less -/
def less (l : List Int) (g : Int) : Nat := l.countP (· < g)
theorem less_le (l : List Int) (g : Int) : less l g ≤ l.length := List.countP_le_length
theorem search_any (B : Nat) (v : Value) (l : List Int) (g : Int) (w : World) (h : Win w B v l) (hs : l.Pairwise (· ≤ ·)) (hl : l.length ≤ 100000) :
    Calls Tryz.prog 48 #[v, .int .i64 g] w fun e w' => ∃ b, e = .returned (.tuple #[.int .i64 (less l g : Int), .bool b]) ∧ ∃ q, w' = w.drewN q := by
  rcases h with ⟨rfl, rfl⟩ | ⟨b, o, c, cur, rfl, _, hL, hlc, hcm, hoc, hcells⟩
  · refine (show Calls Tryz.prog 48 _ _ _ from Any.slices_BinarySearch_int_empty searchI none 0 g w).mono ?_
    rintro e w' ⟨rfl, rfl⟩
    exact ⟨_, rfl, 0, rfl⟩
  · refine (show Calls Tryz.prog 48 _ _ _ from Any.slices_BinarySearch_int searchI b o l.length c l g w (Nat.le_refl _) (by omega) (fun j hj => by
      rw [lies_cell hL, hcells j hj, List.getElem?_map, List.getElem?_eq_getElem hj, List.getD_eq_getElem?_getD, List.getElem?_eq_getElem hj]
      rfl) (by rw [List.take_length]; exact hs)).mono ?_
    rintro e w' ⟨rfl, h⟩
    rw [List.take_length]
    exact ⟨_, rfl, h⟩
/-- a number put in its place -/
def ins (l : List Int) (g : Int) : List Int := insAt l (less l g) g
structure AddE (w : World) (B RB : Nat) (v : Value) (l' : List Int) (w' : World) : Prop where
  ex : ∃ v', Lies w' RB 33 #[v'] ∧ Win w' B v' l' ∧ (wblk v' = wblk v ∨ ∃ k, wblk v' = some k ∧ w.heap.size ≤ k)
  but : But (fun k => k = RB ∨ some k = wblk v) w w'
set_option maxRecDepth 100000 in
set_option maxHeartbeats 4000000 in
theorem add_any (B RB : Nat) (v : Value) (l : List Int) (g : Int) (w : World) (h : Win w B v l) (hs : l.Pairwise (· ≤ ·)) (hl : l.length ≤ 100000) (hR : Lies w RB 33 #[v]) (hRB : RB < B) (hB : B ≤ w.heap.size) :
    Calls Tryz.prog 47 #[.int .i64 g, .pointer (some ⟨RB, 0, none⟩)] w fun e w' => e = .returned (.tuple #[]) ∧ AddE w B RB v (ins l g) w' := by
  have hwk := win_block h
  have hvo : v.oneCell' = true := by rcases h with ⟨rfl, _⟩ | ⟨_, _, _, _, rfl, _⟩ <;> rfl
  have c0 := lies_cell hR 0
  simp only [List.getElem?_toArray, List.getElem?_cons_zero] at c0
  have KS := Lib.hid (search_any B v l g w h hs hl)
  have HW := Lib.hid h
  have HR := Lib.hid hR
  have HK := Lib.hid hwk
  have LL := Lib.hid (less_le l g)
  have HL := Lib.hid hl
  have HB := Lib.hid hB
  have HRB := Lib.hid hRB
  clear h hs hl hwk hRB hB hR
  go_enter Tryz.func47, Tryz.ntmps47
  go_upto_region 1 with (go_at_call 48; (with_reducible refine KS.out.mono ?_); rintro e w1 ⟨b, rfl, q, rfl⟩; have R1 := Lib.hid (lies_drewN HR.out q); have W1 := Lib.hid (win_but HW.out ((But.refl (fun _ => False) w).drewN q) (fun _ _ => id)); have c1 := lies_cell R1.out 0; simp only [List.getElem?_toArray, List.getElem?_cons_zero] at c1; clear c0)
  have S1 := Lib.hid (show (w.drewN q).heap.size = w.heap.size from rfl)
  have B1 := Lib.hid ((But.refl (fun k => k = RB ∨ some k = wblk v) w).drewN q)
  generalize w.drewN q = X at *
  have LN := lies_new X 3 #[iV g]
  have KI := Lib.hid (insert_any B v l (less l g) X.heap.size g (X.alloc (.cells #[iV g] 3)) (win_but W1.out ((But.refl (fun _ => False) X).alloc _) (fun _ _ => id)) LL.out HL.out LN (fun e => by have := (HK.out _ e).2; have := S1.out; omega) (by have := S1.out; have := HB.out; simp; omega))
  have R2 := Lib.hid (lies_alloc R1.out (.cells #[iV g] 3))
  clear LN
  unfold iV at *
  go_wp2_with (go_at_call 49; (with_reducible refine KI.out.mono ?_); rintro e w2 ⟨G, o, m, c, rfl, hW2, hB2, hk⟩; have R3 := hB2.lies R2.out (fun e => by have := (HK.out RB e.symm).1; have := HRB.out; omega); have c3 := lies_cell R3 0; have f3 := lies_free R3 0; simp only [List.getElem?_toArray, List.getElem?_cons_zero] at c3; have R4 := Lib.hid R3; have W4 := Lib.hid hW2; have B4 := Lib.hid hB2; have K4 := Lib.hid hk; clear R3 hW2 hB2 hk)
  refine Go.Great.bodyPost_end0 rfl rfl ?_
  refine ⟨rfl, ⟨_, by have := lies_set R4.out 0 (.slice (some ⟨G, o, none⟩) m c); simpa using this, win_but W4.out ((But.refl (· = RB) w2).setCell (p := ⟨RB, 0, none⟩) (fun _ => rfl) _) (fun k hk e => ?_), ?_⟩, ?_⟩
  · subst e
    have := (win_block W4.out _ hk).1
    have := HRB.out
    omega
  · rcases K4.out with h | h
    · exact .inl h.symm
    · exact .inr ⟨G, rfl, by have := S1.out; simp at h; omega⟩
  · exact (B1.out.trans (((But.refl (fun k => k = RB ∨ some k = wblk v) X).alloc (.cells #[.int .i64 g] 3)).step B4.out (fun k _ h => .inr h))).setCell (p := ⟨RB, 0, none⟩) (fun _ => .inl rfl) _
end Go.Proofs.YtpddamloajpiiaaGreatDoor
