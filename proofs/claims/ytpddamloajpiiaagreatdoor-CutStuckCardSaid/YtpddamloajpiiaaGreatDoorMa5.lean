/-
What is proved here: several texts in one (Puq, Orm, Ord, Bck): each says what it is about.
-/
import Derived.Test.YtpddamloajpiiaaGreatDoorMa4
import Derived.Deep.Onto
import Derived.BigQuiet
import Derived.Deep.QuietTactic
import Derived.Test.YtpddamloajpiiaaGreatDoorMa2
import Derived.RangeFuncWrites
import Derived.ControlIn
import Derived.Sort.CutIn
import Derived.LoopIn
/-
What is proved here: in what order components are told, each behind those that it needs. On lists alone.
-/
set_option linter.unusedSimpArgs false
set_option linter.unusedVariables false
namespace Go.Cmp
/-- put in its place -/
def insN (l : List Nat) (g : Nat) : List Nat := l.take (l.countP (· < g)) ++ g :: l.drop (l.countP (· < g))
theorem insN_mem (l : List Nat) (g x : Nat) : x ∈ insN l g ↔ x = g ∨ x ∈ l := by
  unfold insN
  rw [List.mem_append, List.mem_cons]
  constructor
  · rintro (h | h | h)
    · exact .inr (List.mem_of_mem_take h)
    · exact .inl h
    · exact .inr (List.mem_of_mem_drop h)
  · rintro (h | h)
    · exact .inr (.inl h)
    · rw [← List.take_append_drop (l.countP (· < g)) l] at h
      rcases List.mem_append.1 h with h | h
      · exact .inl h
      · exact .inr (.inr h)
theorem cut_less : ∀ (l : List Nat) (g : Nat), l.Pairwise (· < ·) → (∀ x ∈ l.take (l.countP (· < g)), x < g) ∧ ∀ x ∈ l.drop (l.countP (· < g)), g ≤ x
  | [], g, _ => ⟨fun x hx => by simp at hx, fun x hx => by simp at hx⟩
  | a :: t, g, h => by
    obtain ⟨h1, h2⟩ := List.pairwise_cons.1 h
    obtain ⟨i1, i2⟩ := cut_less t g h2
    by_cases e : a < g
    · rw [List.countP_cons_of_pos (by simpa using e)]
      refine ⟨fun x hx => ?_, fun x hx => i2 x (by simpa using hx)⟩
      rw [List.take_succ_cons, List.mem_cons] at hx
      rcases hx with rfl | hx
      · exact e
      · exact i1 x hx
    · have h0 : t.countP (· < g) = 0 := List.countP_eq_zero.2 (fun x hx => by have := h1 x hx; simp; omega)
      rw [List.countP_cons_of_neg (by simpa using e), h0]
      refine ⟨fun x hx => by simp at hx, fun x hx => ?_⟩
      rw [List.drop_zero, List.mem_cons] at hx
      rcases hx with rfl | hx
      · omega
      · have := h1 x hx; omega
theorem insN_srt {l : List Nat} (h : l.Pairwise (· < ·)) {g : Nat} (hg : g ∉ l) : (insN l g).Pairwise (· < ·) := by
  obtain ⟨h1, h2⟩ := cut_less l g h
  unfold insN
  refine List.pairwise_append.2 ⟨h.take, List.pairwise_cons.2 ⟨fun x hx => ?_, h.drop⟩, fun x hx y hy => ?_⟩
  · have := h2 x hx
    have : x ≠ g := fun e => hg (e ▸ List.mem_of_mem_drop hx)
    omega
  · have := h1 x hx
    rcases List.mem_cons.1 hy with rfl | hy
    · exact this
    · have := h2 y hy; omega
/-- how often a number stands in the lists of those not told -/
def rest (T : Gr) (K : Nat) (out : List Nat) (g : Nat) : Nat := ((List.range K).map fun h => if h ∈ out then 0 else (nx T h).count g).sum
theorem rest_nil (T : Gr) (K g : Nat) : rest T K [] g = tot T K g := by
  unfold rest tot
  simp
theorem rest_snoc (T : Gr) (K : Nat) (out : List Nat) (n g : Nat) (hn : n < K) (ho : n ∉ out) : rest T K (out ++ [n]) g + (nx T n).count g = rest T K out g := by
  have := sum_set (fun h => if h ∈ out ++ [n] then 0 else (nx T h).count g) (fun h => if h ∈ out then 0 else (nx T h).count g) K n hn (fun k hk => by
    simp only [List.mem_append, List.mem_singleton, hk, or_false])
  simp only [List.mem_append, List.mem_singleton, or_true, if_true, ho, if_false] at this
  unfold rest
  simp only [List.mem_append, List.mem_singleton]
  omega
theorem sum_zero {l : List Nat} (h : l.sum = 0) : ∀ x ∈ l, x = 0 := by
  induction l with
  | nil => intro x hx; cases hx
  | cons a t ih =>
    rw [List.sum_cons] at h
    intro x hx
    rcases List.mem_cons.1 hx with rfl | hx
    · omega
    · exact ih (by omega) x hx
theorem zero_sum {l : List Nat} (h : ∀ x ∈ l, x = 0) : l.sum = 0 := by
  induction l with
  | nil => rfl
  | cons a t ih =>
    rw [List.sum_cons, h a (by simp), ih (fun x hx => h x (List.mem_cons_of_mem _ hx))]
theorem nx_len {T : Gr} {h g : Nat} (hg : g ∈ nx T h) : h < T.length := by
  rcases Nat.lt_or_ge h T.length with h1 | h1
  · exact h1
  · unfold nx at hg; rw [List.getD_eq_getElem?_getD, List.getElem?_eq_none h1] at hg; cases hg
theorem rest_zero {T : Gr} {K : Nat} {out : List Nat} {g : Nat} (hT : T.length = K) : rest T K out g = 0 ↔ ∀ h, g ∈ nx T h → h ∈ out := by
  constructor
  · intro h0 h hg
    have := sum_zero h0 (if h ∈ out then 0 else (nx T h).count g) (List.mem_map.2 ⟨h, List.mem_range.2 (hT ▸ nx_len hg), rfl⟩)
    by_cases e : h ∈ out
    · exact e
    · rw [if_neg e] at this
      exact absurd hg (List.count_eq_zero.1 this)
  · intro h
    refine zero_sum fun x hx => ?_
    obtain ⟨k, _, rfl⟩ := List.mem_map.1 hx
    by_cases e : k ∈ out
    · exact if_pos e
    · rw [if_neg e]
      exact List.count_eq_zero.2 (fun hg => e (h k hg))
/-- each is told when all that it needs are told, and is the least of those not told of which that is so -/
def InTurn (T : Gr) (K : Nat) (out : List Nat) : Prop := ∀ p n s, out = p ++ n :: s → n < K ∧ n ∉ p ∧ (∀ h, n ∈ nx T h → h ∈ p) ∧ ∀ g, g < K → g ∉ p → (∀ h, g ∈ nx T h → h ∈ p) → n ≤ g
theorem told_nil (T : Gr) (K : Nat) : InTurn T K [] := fun p n s h => by simp at h
theorem told_snoc {T : Gr} {K : Nat} {out : List Nat} (h : InTurn T K out) {n : Nat} (hn : n < K ∧ n ∉ out ∧ (∀ h, n ∈ nx T h → h ∈ out) ∧ ∀ g, g < K → g ∉ out → (∀ h, g ∈ nx T h → h ∈ out) → n ≤ g) : InTurn T K (out ++ [n]) := by
  intro p m s e
  rcases List.eq_nil_or_concat s with rfl | ⟨s', x, rfl⟩
  · obtain ⟨h1, h2⟩ := List.append_inj' e rfl
    injection h2 with h2
    subst h1 h2
    exact hn
  · rw [List.concat_eq_append, ← List.cons_append, ← List.append_assoc] at e
    obtain ⟨h1, h2⟩ := List.append_inj' e rfl
    exact h p m s' h1
/-- those that are ready; what is left of the list of the one told last -/
structure Rd (T : Gr) (K : Nat) (op out pend l : List Nat) : Prop where
  lenO : op.length = K
  srt : l.Pairwise (· < ·)
  mem : ∀ g, g ∈ l ↔ g < K ∧ g ∉ out ∧ op.getD g 0 = 0
  cnt : ∀ g, g < K → op.getD g 0 = rest T K out g + pend.count g
  zero : ∀ g ∈ out, op.getD g 0 = 0
  told : InTurn T K out
  pd : ∀ g ∈ pend, g < K
  nd : out.Nodup
  big : ∀ g, op.getD g 0 ≤ 1048576
theorem rd_take {T : Gr} {K : Nat} {op out l : List Nat} {n : Nat} (hT : T.length = K) (hlt : ∀ h g, g ∈ nx T h → g < K) (h : Rd T K op out [] (n :: l)) : Rd T K op (out ++ [n]) (nx T n) l := by
  obtain ⟨hK, ho, hz⟩ := (h.mem n).1 (by simp)
  obtain ⟨s1, s2⟩ := List.pairwise_cons.1 h.srt
  refine ⟨h.lenO, s2, fun g => ?_, fun g hg => ?_, fun g hg => ?_, told_snoc h.told ⟨hK, ho, ?_, fun g h1 h2 h3 => ?_⟩, fun g hg => hlt _ _ hg, List.nodup_append.2 ⟨h.nd, by simp, fun a ha b hb e => by subst e; rw [List.mem_singleton.1 hb] at ha; exact ho ha⟩, h.big⟩
  · have := h.mem g
    rw [List.mem_cons] at this
    rw [List.mem_append, List.mem_singleton]
    constructor
    · intro hg
      obtain ⟨a, b, c⟩ := this.1 (.inr hg)
      exact ⟨a, fun x => x.elim b (fun e => by subst e; exact absurd (s1 _ hg) (by omega)), c⟩
    · rintro ⟨a, b, c⟩
      rcases this.2 ⟨a, fun x => b (.inl x), c⟩ with e | e
      · exact absurd (.inr e) b
      · exact e
  · have e1 := h.cnt g hg
    have e2 := rest_snoc T K out n g hK ho
    rw [List.count_nil] at e1
    omega
  · rcases List.mem_append.1 hg with h1 | h1
    · exact h.zero g h1
    · rw [List.mem_singleton.1 h1]; exact hz
  · refine (rest_zero hT).1 ?_
    have := h.cnt n hK
    omega
  · have e1 := h.cnt g h1
    rw [(rest_zero hT).2 h3] at e1
    rcases List.mem_cons.1 ((h.mem g).2 ⟨h1, h2, by simpa using e1⟩) with e | e
    · omega
    · have := s1 g e; omega
theorem rd_pos {T : Gr} {K : Nat} {op out l pend : List Nat} {g : Nat} (h : Rd T K op out (g :: pend) l) : g < K ∧ 0 < op.getD g 0 ∧ g ∉ out ∧ g ∉ l := by
  have hK := h.pd g (by simp)
  have h1 := h.cnt g hK
  rw [List.count_cons_self] at h1
  refine ⟨hK, by omega, fun hg => ?_, fun hg => ?_⟩
  · have := h.zero g hg; omega
  · have := ((h.mem g).1 hg).2.2; omega
theorem rd_dec {T : Gr} {K : Nat} {op out l pend : List Nat} {g : Nat} (h : Rd T K op out (g :: pend) l) : Rd T K (op.set g (op.getD g 0 - 1)) out pend (if op.getD g 0 - 1 = 0 then insN l g else l) := by
  obtain ⟨hK, hp, ho, hl⟩ := rd_pos h
  have hgO : g < op.length := by rw [h.lenO]; exact hK
  have hne : ∀ x, x ≠ g → (op.set g (op.getD g 0 - 1)).getD x 0 = op.getD x 0 := fun x hx => by rw [getD_setN, if_neg (fun e => hx e.1.symm)]
  have heq : (op.set g (op.getD g 0 - 1)).getD g 0 = op.getD g 0 - 1 := by rw [getD_setN, if_pos ⟨rfl, hgO⟩]
  refine ⟨by simp [h.lenO], ?_, fun x => ?_, fun x hx => ?_, fun x hx => ?_, h.told, fun x hx => h.pd x (List.mem_cons_of_mem _ hx), h.nd, fun x => ?_⟩
  · split
    · exact insN_srt h.srt hl
    · exact h.srt
  · by_cases e : x = g
    · subst e
      rw [heq]
      split
      · rw [insN_mem]
        exact ⟨fun _ => ⟨hK, ho, by assumption⟩, fun _ => .inl rfl⟩
      · exact ⟨fun x => absurd x hl, fun x => by omega⟩
    · rw [hne x e, ← h.mem x]
      split
      · rw [insN_mem]; simp [e]
      · rfl
  · by_cases e : x = g
    · subst e
      rw [heq]
      have := h.cnt x hx
      rw [List.count_cons_self] at this
      omega
    · rw [hne x e, h.cnt x hx, List.count_cons_of_ne (fun e2 => e e2.symm)]
  · rw [hne x (fun e => ho (e ▸ hx))]
    exact h.zero x hx
  · by_cases e : x = g
    · subst e
      rw [heq]
      have := h.big x
      omega
    · rw [hne x e]
      exact h.big x
/-- those that are ready at the start -/
structure R0 (op l : List Nat) (k : Nat) : Prop where
  srt : l.Pairwise (· < ·)
  mem : ∀ g, g ∈ l ↔ g < k ∧ op.getD g 0 = 0
theorem r0_0 (op : List Nat) : R0 op [] 0 := ⟨.nil, fun g => ⟨(fun h => by cases h), (fun h => by omega)⟩⟩
theorem r0_step {op l : List Nat} {k : Nat} (h : R0 op l k) : R0 op (if op.getD k 0 = 0 then insN l k else l) (k + 1) := by
  have hk : k ∉ l := fun x => by have := ((h.mem k).1 x).1; omega
  split
  · refine ⟨insN_srt h.srt hk, fun g => ?_⟩
    rw [insN_mem, h.mem g]
    constructor
    · rintro (rfl | ⟨a, b⟩)
      · exact ⟨by omega, by assumption⟩
      · exact ⟨by omega, b⟩
    · rintro ⟨a, b⟩
      rcases Nat.lt_or_ge g k with h1 | h1
      · exact .inr ⟨h1, b⟩
      · exact .inl (by omega)
  · refine ⟨h.srt, fun g => ?_⟩
    rw [h.mem g]
    constructor
    · rintro ⟨a, b⟩; exact ⟨by omega, b⟩
    · rintro ⟨a, b⟩
      rcases Nat.lt_or_ge g k with h1 | h1
      · exact ⟨h1, b⟩
      · obtain rfl : g = k := by omega
        exact absurd b (by assumption)
theorem rd_0 {G : Gr} {S : List (List Nat)} {T : Gr} {op l : List Nat} (hA : Asks G S T op) (h : R0 op l S.length) : Rd T S.length op [] [] l :=
  ⟨hA.lenO, h.srt, (fun g => by rw [h.mem g]; simp), (fun g hg => by rw [rest_nil, List.count_nil]; exact hA.cnt g hg), (fun g hg => by cases hg), told_nil _ _, (fun g hg => by cases hg), .nil, hA.bigO⟩
theorem r0_len {op l : List Nat} {k : Nat} (h : R0 op l k) : l.length ≤ k := nodup_bound k l (h.srt.imp (fun h => by omega)) (fun g hg => ((h.mem g).1 hg).1)
theorem rd_len {T : Gr} {K : Nat} {op out pend l : List Nat} (h : Rd T K op out pend l) : l.length ≤ K := nodup_bound K l (h.srt.imp (fun h => by omega)) (fun g hg => ((h.mem g).1 hg).1)
theorem rd_out {T : Gr} {K : Nat} {op out pend l : List Nat} (h : Rd T K op out pend l) : out.length ≤ K := nodup_bound K out h.nd (fun g hg => by
  obtain ⟨p, s, e⟩ := List.append_of_mem hg
  exact (h.told p g s e).1)
/-- how many are reached -/
theorem reach_fn (G : Gr) : ∃ f : Nat → Nat, ∀ a b, Rch G a b → ¬ Rch G b a → a < G.length → f b < f a := by
  classical
  refine ⟨fun u => ((List.range G.length).filter fun v => decide (Rch G u v)).length, fun a b h hn ha => ?_⟩
  have hs : ((List.range G.length).filter fun v => decide (Rch G b v)).Sublist ((List.range G.length).filter fun v => decide (Rch G a v)) := by
    have e : ((List.range G.length).filter fun v => decide (Rch G b v)) = (((List.range G.length).filter fun v => decide (Rch G a v)).filter fun v => decide (Rch G b v)) := by
      rw [List.filter_filter]
      refine List.filter_congr fun v hv => ?_
      by_cases e : Rch G b v
      · simp [e, h.trans e]
      · simp [e]
    rw [e]
    exact List.filter_sublist
  show ((List.range G.length).filter fun v => decide (Rch G b v)).length < ((List.range G.length).filter fun v => decide (Rch G a v)).length
  rcases Nat.lt_or_eq_of_le hs.length_le with h1 | h1
  · exact h1
  · have := hs.eq_of_length h1
    have hm : a ∈ (List.range G.length).filter fun v => decide (Rch G a v) := by simp [ha]; exact .refl
    rw [← this] at hm
    simp at hm
    exact absurd hm.2 hn
theorem groups_nx {G : Gr} {S : List (List Nat)} (h : Groups G S) {g : Nat} (hg : g < S.length) : Scc G (nx S g) := h.scc _ (nx_mem hg)
/-- all are told -/
theorem rd_all {G : Gr} {S : List (List Nat)} {T : Gr} {op op0 out : List Nat} (hS : Groups G S) (hA : Asks G S T op0) (h : Rd T S.length op out [] []) : ∀ g, g < S.length → g ∈ out := by
  obtain ⟨reach, reach_lt⟩ := reach_fn G
  have key : ∀ (m g : Nat), g < S.length → g ∉ out → ∀ a ∈ nx S g, reach a ≤ m → False := by
    intro m
    induction m using Nat.strongRecOn with
    | ind m ih =>
      intro g hg ho a ha hr
      have h0 : op.getD g 0 ≠ 0 := fun e => by
        have := (h.mem g).2 ⟨hg, ho, e⟩
        cases this
      have h1 : ¬ rest T S.length out g = 0 := fun e => by
        have := h.cnt g hg
        rw [e] at this
        exact h0 (by simpa using this)
      rw [rest_zero hA.lenT] at h1
      have ⟨k, hk⟩ := Classical.not_forall.1 h1
      have ⟨hk1, hk2⟩ := Classical.not_imp.1 hk
      obtain ⟨hne, _, hkS, x, hx, y, hy, hxy⟩ := (hA.mem k g).1 hk1
      have sg := groups_nx hS hg
      have sk := groups_nx hS hkS
      have hax : Rch G a x := ((scc_all sg ha).1 hx).1
      have hay : Rch G a y := hax.trans (.one hxy)
      have hnot : ¬ Rch G y a := fun e => by
        have : a ∈ nx S k := (scc_all sk hy).2 ⟨e, hay⟩
        exact hne (groups_ne hS ha this)
      have hal : a < G.length := hS.lt _ (nx_mem hg) a ha
      have := reach_lt a y hay hnot hal
      exact ih (reach y) (by omega) k hkS hk2 y hy (Nat.le_refl _)
  intro g hg
  by_cases ho : g ∈ out
  · exact ho
  · obtain ⟨r, hr, _⟩ := groups_nx hS hg
    exact (key _ g hg ho r hr (Nat.le_refl _)).elim
end Go.Cmp

/-
What is proved here: what ordered holds in memory, and how each of its steps keeps it.
-/
set_option linter.unusedSimpArgs false
set_option linter.unusedVariables false
namespace Go.Proofs.YtpddamloajpiiaaGreatDoor
open Go.Cmp Go.RowKit
theorem zs_insN (l : List Nat) (g : Nat) : zs (insN l g) = ins (zs l) (g : Int) := by
  have e : less (zs l) (g : Int) = l.countP (· < g) := by
    unfold less zs
    rw [List.countP_map]
    congr 1
    funext x
    simp
  unfold ins insAt insN
  rw [e]
  unfold zs
  rw [List.map_append, List.map_cons, List.map_take, List.map_drop]
structure OrM (w1 : World) (O : Nat) (op : List Nat) (rv : Value) (l : List Nat) (lv : Value) (cs : List Value) (W : World) : Prop where
  but : But (fun k => k = O ∨ w1.heap.size ≤ k) w1 W
  opn : Lies W O 3 (iRow op)
  box : Lies W w1.heap.size 33 #[rv]
  win : Win W (w1.heap.size + 1) rv (zs l)
  row : W.ownsRow (w1.heap.size + 1) 33 1 lv cs.length cs
  sep : ∀ k, wblk rv = some k → lv.ownBlock ≠ some k
  hO : O < w1.heap.size
variable {w1 W W' : World} {O : Nat} {op : List Nat} {rv : Value} {l : List Nat} {lv : Value} {cs : List Value}
theorem orm_size (h : OrM w1 O op rv l lv cs W) : w1.heap.size + 1 ≤ W.heap.size := lies_lt h.box
theorem orm_0 {w1 : World} {O : Nat} {op : List Nat} (hO : Lies w1 O 3 (iRow op)) : OrM w1 O op (.slice none 0 0) [] (.slice none 0 0) [] (w1.alloc (.cells #[.slice none 0 0] 33)) :=
  ⟨(But.refl _ _).alloc _, lies_alloc hO _, lies_new _ _ _, .inl ⟨rfl, rfl⟩, World.ownsRow_nil _ _ _ _, (fun k hk => by cases hk), lies_lt hO⟩
theorem orm_drewN (h : OrM w1 O op rv l lv cs W) (q : Nat) : OrM w1 O op rv l lv cs (W.drewN q) :=
  ⟨h.but.drewN q, h.opn, h.box, win_but h.win ((But.refl (fun _ => False) W).drewN q) (fun _ _ => id), h.row, h.sep, h.hO⟩
theorem orm_alloc (h : OrM w1 O op rv l lv cs W) (o : Obj) : OrM w1 O op rv l lv cs (W.alloc o) :=
  ⟨h.but.alloc _, lies_alloc h.opn _, lies_alloc h.box _, win_but h.win ((But.refl (fun _ => False) W).alloc o) (fun _ _ => id), h.row.alloc o, h.sep, h.hO⟩
theorem orm_open (h : OrM w1 O op rv l lv cs W) (g x : Nat) : OrM w1 O (op.set g x) rv l lv cs (W.setCell ⟨O, g, none⟩ (.int .i64 (x : Int))) := by
  have hO := h.hO
  have hb : But (· = O) W (W.setCell ⟨O, g, none⟩ (.int .i64 (x : Int))) := (But.refl (· = O) W).setCell (p := ⟨O, g, none⟩) (fun _ => rfl) _
  refine ⟨h.but.setCell (p := ⟨O, g, none⟩) (fun _ => .inl rfl) _, by have := lies_set h.opn g (.int .i64 (x : Int)); rwa [iRow_set] at this, hb.lies h.box (by omega), win_but h.win hb (fun k hk e => by have := (win_block h.win k hk).1; omega), own_but h.row hb (fun k hk e => by have := (own_heap h.row k hk).1; omega), h.sep, h.hO⟩
theorem orm_add (h : OrM w1 O op rv l lv cs W) {g : Nat} (ha : AddE W (w1.heap.size + 1) w1.heap.size rv (ins (zs l) (g : Int)) W') : ∃ rv', OrM w1 O op rv' (insN l g) lv cs W' := by
  have hO := h.hO
  obtain ⟨⟨v', h1, h2, h3⟩, hb⟩ := ha
  have hw := win_block h.win
  have hr : ∀ k, lv.ownBlock = some k → w1.heap.size + 1 ≤ k ∧ k < W.heap.size := fun k hk => ⟨(own_heap h.row k hk).1, (own_heap h.row k hk).2.1⟩
  refine ⟨v', h.but.step hb (fun k hk e => ?_), hb.lies h.opn ?_, h1, by rw [zs_insN]; exact h2, own_but h.row hb (fun k hk e => ?_), fun k hk e => ?_, h.hO⟩
  · rcases e with e | e
    · exact .inr (by omega)
    · exact .inr (by have := (hw k e.symm).1; omega)
  · rintro (e | e)
    · omega
    · have := (hw O e.symm).1; omega
  · rcases e with e | e
    · have := (hr k hk).1; omega
    · exact h.sep k e.symm hk
  · rcases h3 with h4 | ⟨j, h4, h5⟩
    · rw [h4] at hk; exact h.sep k hk e
    · rw [h4] at hk
      injection hk with hk
      have := (hr k e).2
      omega
/-- the first one taken from those that are ready -/
theorem orm_tail {g o m c x : Nat} (h : OrM w1 O op (.slice (some ⟨g, o, none⟩) (m + 1) c) (x :: l) lv cs W) (hm : m = l.length) (o' : Nat) (ho : o' = if c = 1 then o else o + 1) :
    OrM w1 O op (.slice (some ⟨g, o', none⟩) m (c - 1)) l lv cs (W.setCell ⟨w1.heap.size, 0, none⟩ (.slice (some ⟨g, o', none⟩) m (c - 1))) := by
  have hO := h.hO
  obtain ⟨g', oo, c', cur, hv, hB, hL, hlc, hcm, hoc, hcells⟩ := win_first h.win (by simp [zs])
  injection hv with e1 e2 e3
  injection e1 with e1
  injection e1 with e1 e4
  subst e1 e3 e4
  simp only [zs, List.map_cons, List.length_cons, List.length_map] at hlc hcells e2
  have hb : But (· = w1.heap.size) W (W.setCell ⟨w1.heap.size, 0, none⟩ (.slice (some ⟨g, o', none⟩) m (c - 1))) := (But.refl (· = w1.heap.size) W).setCell (p := ⟨w1.heap.size, 0, none⟩) (fun _ => rfl) _
  refine ⟨h.but.setCell (p := ⟨w1.heap.size, 0, none⟩) (fun _ => .inr (Nat.le_refl _)) _, hb.lies h.opn (by omega), by have := lies_set h.box 0 (.slice (some ⟨g, o', none⟩) m (c - 1)); simpa using this, ?_, own_but h.row hb (fun k hk e => by have := (own_heap h.row k hk).1; omega), fun k hk => h.sep k hk, h.hO⟩
  refine .inr ⟨g, o', c - 1, cur, by rw [hm]; simp [zs], hB, hb.lies hL (by omega), by simp [zs]; omega, by omega, by rw [ho]; split <;> omega, fun j hj => ?_⟩
  have hjl : j < l.length := by simpa [zs] using hj
  have hc1 : c ≠ 1 := by omega
  have := hcells (j + 1) (by omega)
  rw [ho, if_neg hc1, show o + 1 + j = o + (j + 1) by omega, this]
  simp [zs]
/-- one more told -/
theorem orm_list (h : OrM w1 O op rv l lv cs W) {u : Value} {G C : Nat} (ho : W'.ownsRow (w1.heap.size + 1) 33 1 (.slice (some ⟨G, 0, none⟩) (cs.length + 1) C) (cs.length + 1) (cs ++ [u])) (hg : W.grownBy W' lv.ownBlock) (hat : lv.ownBlock = some G ∨ W.heap.size ≤ G) :
    OrM w1 O op rv l (.slice (some ⟨G, 0, none⟩) (cs.length + 1) C) (cs ++ [u]) W' := by
  have hO := h.hO
  have hb := But.grown hg
  have hr : ∀ k, lv.ownBlock = some k → w1.heap.size + 1 ≤ k ∧ k < W.heap.size := fun k hk => ⟨(own_heap h.row k hk).1, (own_heap h.row k hk).2.1⟩
  refine ⟨h.but.step hb (fun k _ e => .inr (by have := (hr k e.symm).1; omega)), hb.lies h.opn (fun e => by have := (hr O e.symm).1; omega), hb.lies h.box (fun e => by have := (hr _ e.symm).1; omega), win_but h.win hb (fun k hk e => h.sep k hk e.symm), by simpa using ho, fun k hk e => ?_, h.hO⟩
  have e : G = k := by simpa [Value.ownBlock] using e
  subst e
  rcases hat with h1 | h1
  · exact h.sep _ hk h1
  · have := (win_block h.win _ hk).2; omega
theorem grps_ls {w : World} {B : Nat} {A : Option Addr} {C : Nat} {es : List Ent} (h : Grps w B (.slice A es.length C) es) : LsAt w A (zg (es.map Ent.r)) := fun i hi => by
  have hie : i < es.length := by simpa using hi
  obtain ⟨g, cap, hv, hB, hlt⟩ := World.ownsRow.form h.row (by omega)
  injection hv with e1 e2 e3
  subst e1
  have hc := (e3 ▸ h.row).cellAt i (by omega)
  rw [List.getElem?_map, List.getElem?_eq_getElem hie] at hc
  have ho := h.own _ (List.getElem_mem hie)
  have hI := ownI_ints ho
  have e : (zg (es.map Ent.r))[i] = zs es[i].r := by simp [zg]
  refine ⟨g, 0, es[i].A, es[i].c, rfl, hlt, ?_, ?_, ?_⟩
  · rw [Nat.zero_add, hc, e, ← hI.1]; rfl
  · rw [e, ← hI.1]
    rcases ho.2 with ⟨h1, h2⟩ | ⟨_, cap', _, h1, _, _, h2, _⟩
    · have : es[i].r.length = 0 := by simpa using h2
      omega
    · unfold Ent.rv at h1
      injection h1 with _ _ h1
      rw [h1]; simpa using h2
  · rw [e]; exact hI.2
theorem grps_cell {w : World} {B : Nat} {A : Option Addr} {C : Nat} {es : List Ent} (h : Grps w B (.slice A es.length C) es) {k : Nat} (hk : k < es.length) : ∃ g, A = some ⟨g, 0, none⟩ ∧ g < w.heap.size ∧ w.cell? ⟨g, 0 + k, none⟩ = some (.slice es[k].A es[k].r.length es[k].c) := by
  obtain ⟨g, cap, hv, hB, hlt⟩ := World.ownsRow.form h.row (by omega)
  injection hv with e1 e2 e3
  subst e1
  have hc := (e3 ▸ h.row).cellAt k (by omega)
  rw [List.getElem?_map, List.getElem?_eq_getElem hk] at hc
  exact ⟨g, rfl, hlt, by rw [Nat.zero_add, hc]; rfl⟩
theorem groups_len {G : Gr} {S : List (List Nat)} (h : Groups G S) : S.length ≤ G.length := by
  have hne : ∀ g ∈ S, ∃ x, g.head? = some x ∧ x ∈ g := fun g hg => by
    obtain ⟨r, hr, _⟩ := h.scc g hg
    cases g with
    | nil => cases hr
    | cons a t => exact ⟨a, rfl, by simp⟩
  have := nodup_bound G.length (S.map fun g => g.headD 0) (by
    rw [List.nodup_iff_pairwise_ne, List.pairwise_map]
    refine h.ord.imp_of_mem (fun {a b} ha hb hab e => ?_)
    obtain ⟨x, hx, _⟩ := hne a ha
    obtain ⟨y, hy, _⟩ := hne b hb
    have := hab x y hx hy
    simp [List.headD_eq_head?_getD, hx, hy] at e
    omega) (fun v hv => by
    obtain ⟨g, hg, rfl⟩ := List.mem_map.1 hv
    obtain ⟨x, hx, hx2⟩ := hne g hg
    have := h.lt g hg x hx2
    simpa [List.headD_eq_head?_getD, hx] using this)
  simpa using this
end Go.Proofs.YtpddamloajpiiaaGreatDoor

/-
What is proved here: package comp's order of components, by a contract.
-/
set_option linter.unusedSimpArgs false
set_option linter.unusedVariables false
namespace Go.Proofs.YtpddamloajpiiaaGreatDoor
open Go.Cmp Go.RowKit
theorem orm_below {w w1 W : World} {O : Nat} {op : List Nat} {rv : Value} {l : List Nat} {lv : Value} {cs : List Value} (h : OrM w1 O op rv l lv cs W) (hb : Below w.heap.size w w1) (hO : w.heap.size ≤ O) : Below w.heap.size w W :=
  hb.trans (h.but.below hb.size (fun k hk => by have := hb.size; omega))
theorem orm_ask {w w1 W : World} {O R : Nat} {op : List Nat} {rv : Value} {l : List Nat} {lv : Value} {cs : List Value} {vs : List Value} {T : Gr} (h : OrM w1 O op rv l lv cs W) (hR : Lies w1 R 33 vs.toArray) (hSp : Sep w1 (w.heap.size + 3) vs (zg T)) (hRO : R ≠ O) (hO : O < w.heap.size + 3) {x : Nat} (hx : x < T.length) :
    W.cell? ⟨R, x, none⟩ = some (vs.getD x undef) ∧ OwnI W (w.heap.size + 3) (vs.getD x undef) (zs (nx T x)) := by
  have hvz : x < (zg T).length := by simpa using hx
  have ho := hSp.own x hvz
  rw [zg_getD] at ho
  have hl : x < vs.length := by rw [hSp.len]; exact hvz
  have hRl := lies_lt hR
  refine ⟨?_, own_but ho h.but (fun k hk e => by have := own_heap ho k hk; omega)⟩
  rw [lies_cell (h.but.lies hR (by omega)), List.getElem?_toArray, List.getElem?_eq_getElem hl, List.getD_eq_getElem?_getD, List.getElem?_eq_getElem hl]
  rfl
theorem win_form {w : World} {B : Nat} {v : Value} {l : List Int} (h : Win w B v l) : ∃ A c, v = .slice A l.length c := by
  rcases h with ⟨rfl, rfl⟩ | ⟨g, o, c, _, rfl, _⟩
  · exact ⟨none, 0, rfl⟩
  · exact ⟨_, _, rfl⟩
def slen : Value → Nat
  | .slice _ n _ => n
  | _ => 0
theorem cut_key2 {S A : Nat → World → Prop} {G : Prop} (main : (∀ a c, A a c → S a c) → G) (key : ∀ a c, A a c → S a c) : G := main key
/-- what ordered tells -/
def OrdE (G : Gr) (T : Gr) (es : List Ent) (w : World) (e : Ending) (w' : World) : Prop := ∃ A C out, e = .returned (.slice A out.length C) ∧ InTurn T es.length out ∧ (∀ g, g < es.length → g ∈ out) ∧ out.Nodup ∧
  w'.ownsRow w.heap.size 33 1 (.slice A out.length C) out.length (out.map fun k => (es.getD k ⟨0, none, [], 0⟩).rv) ∧ Below w.heap.size w w'
def AskT (G : Gr) (S : List (List Nat)) (T : Gr) : Prop := ∃ op, Asks G S T op
set_option maxRecDepth 100000 in
set_option maxHeartbeats 8000000 in
theorem ordered_any (B0 : Nat) (LA GA : Option Addr) (lc gc : Nat) (G : Gr) (es : List Ent) (hG : Ok G) (hS : Groups G (es.map Ent.r)) (hn : G.length ≤ 1024) (hg : ∀ l ∈ G, l.length ≤ 1024) (w : World) (hL : LsAt w LA (zg G)) (hE : Grps w B0 (.slice GA es.length gc) es) :
    Calls Tryz.prog 29 #[.slice LA G.length lc, .slice GA es.length gc] w fun e w' => ∃ T, AskT G (es.map Ent.r) T ∧ OrdE G T es w e w' := by
  have hK : es.length ≤ 1024 := by have := groups_len hS; simp at this; omega
  have kb := between_any LA GA lc gc G (es.map Ent.r) hG hS hn hg (by simpa using hK) w hL (grps_ls hE)
  rw [List.length_map] at kb
  have KB := Lib.hid kb
  have HE := Lib.hid hE
  have HS := Lib.hid hS
  clear kb hL hG hg hn
  obtain ⟨n, hnn⟩ : ∃ n, n = G.length := ⟨_, rfl⟩
  obtain ⟨K, hKK⟩ : ∃ K, K = es.length := ⟨_, rfl⟩
  have HKK := Lib.hid hKK
  rw [← hKK] at hK KB ⊢
  rw [← hnn] at KB ⊢
  clear hE hS hnn hKK
  go_enter Tryz.func29, Tryz.ntmps29
  go_upto_region 2 with (go_at_call 46; (with_reducible refine KB.out.mono ?_); rintro e w1 ⟨R, O, vs, T, op, rfl, hA, hR, hSp, hO, hBl, r1, r2, o1, o2⟩; rw [List.length_map, ← HKK.out]; have HA := Lib.hid hA; have HR := Lib.hid hR; have HSp := Lib.hid hSp; have HO := Lib.hid hO; have HBl := Lib.hid hBl; have HRB := Lib.hid (And.intro r1 (And.intro r2 (And.intro o1 o2))); clear hA hR hSp hO hBl r1 r2 o1 o2)
  go_upto_region 3 with (fail)
  have M0 := Lib.hid (orm_0 HO.out)
  have RK := Lib.hid (show R ≠ O from fun e => by
    have h1 := HR.out
    have h2 := HO.out
    unfold Lies at h1 h2
    rw [e, h2] at h1
    injection h1 with h1
    injection h1 with _ h1 _
    cases h1)
  generalize w1.alloc (.cells #[.slice none 0 0] 33) = X at *
  go_upto_region 5 with (fail)
  go_loopw [23] (fun v23 wr => ∃ (k : Nat) (l : List Nat) (rv : Value), k ≤ K ∧ v23 = .int .i64 (k : Int) ∧ R0 op l k ∧ OrM w1 O op rv l (.slice none 0 0) [] wr) (fun v23 _ => K - (intOf v23).toNat)
  case atStart => exact ⟨0, [], _, Nat.zero_le _, rfl, r0_0 op, M0.out⟩
  case round =>
    obtain ⟨k, l, rv, hk, rfl, hR0, hM⟩ := hrel
    have H0 := Lib.hid hR0
    have HM := Lib.hid hM
    clear hR0 hM
    by_cases hlt : k < K
    · have lk : (k : Int) < (K : Int) := by omega
      have hkO : k < op.length := by rw [HA.out.lenO, List.length_map, ← HKK.out]; exact hlt
      have co := (lies_cell HM.out.opn k).trans (iRow_at (l := op) (v := k) hkO)
      obtain ⟨p, hp⟩ : ∃ p, p = op.getD k 0 := ⟨_, rfl⟩
      rw [← hp] at co
      have HP := Lib.hid hp
      have ST := Lib.hid (r0_step H0.out)
      have SZ := Lib.hid (orm_size HM.out)
      have KA := Lib.hid (add_any (w1.heap.size + 1) w1.heap.size rv (zs l) (k : Int) wr HM.out.win (by unfold zs; rw [List.pairwise_map]; exact H0.out.srt.imp (fun h => by omega)) (by have := r0_len H0.out; simp [zs]; omega) HM.out.box (Nat.lt_succ_self _) SZ.out)
      clear hp
      by_cases hz : p = 0
      · have hzb : ((p : Int) == 0) = true := by simp [hz]
        go_wp2_with (go_at_call 47; (with_reducible refine KA.out.mono ?_); rintro e w2 ⟨rfl, hAd⟩; have HAd := Lib.hid hAd; clear hAd)
        go_roundw
        case rel =>
          obtain ⟨rv', hM'⟩ := orm_add HM.out HAd.out
          exact ⟨k + 1, _, rv', by omega, by go_num, by have := ST.out; rwa [if_pos (by rw [← HP.out]; exact hz)] at this, hM'⟩
        case measure => first | (simp [intOf]; done) | (simp [intOf]; omega)
      · have hzb : ((p : Int) == 0) = false := by simp; omega
        go_wp2
        go_roundw
        case rel => exact ⟨k + 1, _, _, by omega, by go_num, by have := ST.out; rwa [if_neg (by rw [← HP.out]; exact hz)] at this, HM.out⟩
        case measure => first | (simp [intOf]; done) | (simp [intOf]; omega)
    · obtain rfl : k = K := by omega
      have lk : ¬ (k : Int) < (k : Int) := by omega
      have hTK : T.length = k := by rw [HA.out.lenT, List.length_map, ← HKK.out]
      have HTK := Lib.hid hTK
      have RD := Lib.hid (show Rd T k op [] [] l by have := rd_0 HA.out (by rw [List.length_map, ← HKK.out]; exact H0.out); rwa [List.length_map, ← HKK.out] at this)
      have HLT := Lib.hid (show ∀ h g, g ∈ nx T h → g < k from fun h g hg => by have := ((HA.out.mem h g).1 hg).2.1; rwa [List.length_map, ← HKK.out] at this)
      clear hTK
      go_upto_region 11 with (fail)
      go_loopw [10] (fun v10 wr => ∃ (out : List Nat) (l op : List Nat) (rv : Value), slen v10 = out.length ∧ Rd T k op out [] l ∧ OrM w1 O op rv l v10 (out.map fun i => (es.getD i ⟨0, none, [], 0⟩).rv) wr) (fun v10 _ => k - slen v10)
      case atStart => exact ⟨[], l, op, rv, rfl, RD.out, HM.out⟩
      case round =>
        obtain ⟨out, l2, op2, rv2, hsl, hRd, hM2⟩ := hrel
        have HSL := Lib.hid hsl
        have HR2 := Lib.hid hRd
        have HM2 := Lib.hid hM2
        clear hsl hRd hM2
        obtain ⟨A2, c2, hrv⟩ := win_form HM2.out.win
        rw [zs_len] at hrv
        subst hrv
        have cb := lies_cell HM2.out.box 0
        have fb := lies_free HM2.out.box 0
        simp only [List.getElem?_toArray, List.getElem?_cons_zero] at cb
        cases l2 with
        | nil =>
          simp only [List.length_nil] at cb HM2
          go_wp2
          go_ret
          obtain ⟨LA2, LC2, hLV⟩ := own_slice HM2.out.row
          rw [List.length_map] at hLV
          subst hLV
          refine ⟨T, ⟨op, HA.out⟩, LA2, LC2, out, rfl, by rw [← HKK.out]; exact HR2.out.told, fun g hg => rd_all HS.out HA.out (by rw [List.length_map, ← HKK.out]; exact HR2.out) g (by rw [List.length_map]; exact hg), HR2.out.nd, ?_, orm_below HM2.out HBl.out HRB.out.2.2.1⟩
          have := HM2.out.row.mono (base' := w.heap.size) (by have := HBl.out.size; omega)
          rwa [List.length_map] at this
        | cons x l3 =>
          obtain ⟨m, hm⟩ : ∃ m, m = l3.length := ⟨_, rfl⟩
          have HMm := Lib.hid hm
          rw [List.length_cons, ← hm] at cb HM2
          clear hm
          have lk : (0 : Int) < ((m + 1 : Nat) : Int) := by omega
          have lk2 : (0 : Nat) < m + 1 := by omega
          obtain ⟨gb, ob, c', cur, hv, _, hLc, hlc, hcm, hoc, hcells⟩ := win_first HM2.out.win (by simp [zs])
          injection hv with e1 e2 e3
          subst e1 e3
          have c0 := (lies_cell hLc ob).trans (by have := hcells 0 (by simp [zs]); simpa [zs, iV] using this)
          have hmc : m + 1 ≤ c2 := by rw [zs_len] at hlc; simpa [HMm.out] using hlc
          have hcm2 : c2 ≤ 9223372036854775807 := by rw [maxLen_eq] at hcm; exact hcm
          have lk3 : (1 : Int) ≤ ((m + 1 : Nat) : Int) := by omega
          have lk4 : ((m + 1 : Nat) : Int) ≤ (c2 : Int) := by omega
          have HW := Lib.hid (fun o' ho => orm_tail HM2.out HMm.out o' ho)
          have RT := Lib.hid (rd_take HTK.out HLT.out HR2.out)
          have hxk : x < k := ((HR2.out.mem x).1 (by simp)).1
          clear e2 hcells hLc hlc hcm hoc HM
          go_upto_region 13 with (fail)
          by_cases hc1 : c2 = 1
          · have W1 := HW.out ob (by rw [if_pos hc1])
            have e0 : c2 - 1 = 0 := by omega
            rw [e0] at W1
            have W1 := Lib.hid W1
            clear e0

            go_upto_region 14 with (fail)
            generalize World.setCell wr _ _ = W at *
            have hxe : x < es.length := by rw [← HKK.out]; exact hxk
            obtain ⟨gG, eG, hgw, cG⟩ := grps_cell HE.out hxe
            replace cG := ((orm_below W1.out HBl.out HRB.out.2.2.1).cell (p := ⟨gG, 0 + x, none⟩) hgw).trans cG
            rw [Nat.zero_add] at cG
            have hu : (es.getD x ⟨0, none, [], 0⟩).rv = .slice es[x].A es[x].r.length es[x].c := by rw [List.getD_eq_getElem?_getD, List.getElem?_eq_getElem hxe]; rfl
            obtain ⟨A3, n3, c3, hA3⟩ : ∃ A n c, A = es[x].A ∧ n = es[x].r.length ∧ c = es[x].c := ⟨_, _, _, rfl, rfl, rfl⟩
            rw [← hA3.1, ← hA3.2.1, ← hA3.2.2] at cG hu
            have xi : (x : Int) < (k : Int) := by omega
            have HU := Lib.hid hu
            subst eG
            obtain ⟨N, hN⟩ : ∃ N, N = (out.map fun i => (es.getD i ⟨0, none, [], 0⟩).rv).length := ⟨_, rfl⟩
            have HNo := Lib.hid hN
            have NB := Lib.hid (show N ≤ 1000000 by rw [hN, List.length_map]; have := rd_out HR2.out; omega)
            have A1 := Lib.hid (orm_alloc W1.out (.cells #[.slice A3 n3 c3] 33))
            have ROW := Lib.hid (show (W.alloc (.cells #[.slice A3 n3 c3] 33)).ownsRow (w1.heap.size + 1) 33 1 u10 N _ by rw [hN]; exact A1.out.row)
            have LN := Lib.hid (lies_new W 33 #[.slice A3 n3 c3])
            have SZ := Lib.hid (orm_size A1.out)
            clear hu hA3 hN hgw cb fb c0
            go_upto_region 15 with (refine wpList_app_slice rfl _ _ rfl (w1.heap.size + 1) W.heap.size (.slice A3 n3 c3) u10 N _ rfl ROW.out rfl LN.out rfl NB.out SZ.out ?_; intro GB GC w7 g1 g2 g3; have M7 := Lib.hid (orm_list A1.out (u := .slice A3 n3 c3) (G := GB) (C := GC) (by rw [← HNo.out]; exact g1) g2 (g3.imp id (fun e => by rw [e]; exact Nat.le_refl _))); clear g1 g2 g3)
            rw [← HNo.out] at M7
            clear A1 ROW LN SZ W1 cG
            have hxT : x < T.length := by rw [HTK.out]; exact hxk
            have HXT := Lib.hid hxT
            obtain ⟨cR, oR⟩ := orm_ask M7.out HR.out HSp.out RK.out HRB.out.2.2.2 hxT
            obtain ⟨A5, C5, h5⟩ := own_slice oR
            rw [zs_len] at h5
            obtain ⟨m5, hm5⟩ : ∃ m5, m5 = (nx T x).length := ⟨_, rfl⟩
            rw [← hm5] at h5
            have H5 := Lib.hid h5
            have HM5 := Lib.hid hm5
            have HM5b := Lib.hid (show m5 ≤ 1048576 by rw [hm5]; exact HA.out.big x)
            rw [h5] at cR
            clear oR h5 hm5 hxT
            go_upto_region 16 with (fail)
            go_loopw [55] (fun v55 wq => ∃ (j : Nat) (l op : List Nat) (rv : Value), j ≤ m5 ∧ v55 = .int .i64 (j : Int) ∧ Rd T k op (out ++ [x]) ((nx T x).drop j) l ∧ OrM w1 O op rv l (.slice (some ⟨GB, 0, none⟩) (N + 1) GC) ((out.map fun i => (es.getD i ⟨0, none, [], 0⟩).rv) ++ [.slice A3 n3 c3]) wq) (fun v55 _ => m5 - (intOf v55).toNat)
            case atStart => exact ⟨0, l3, op2, _, Nat.zero_le _, rfl, RT.out, M7.out⟩
            case round =>
              obtain ⟨j, l4, op4, rv4, hj, rfl, hR4, hM4⟩ := hrel
              have HR4 := Lib.hid hR4
              have HM4 := Lib.hid hM4
              clear hR4 hM4
              by_cases hjl : j < m5
              · have hm5b := HM5b.out
                have lj : (j : Int) < (m5 : Int) := by omega
                have hjg : j < (nx T x).length := by rw [← HM5.out]; exact hjl
                obtain ⟨_, o4⟩ := orm_ask HM4.out HR.out HSp.out RK.out HRB.out.2.2.2 HXT.out
                rw [H5.out] at o4
                obtain ⟨b2, ob2, eA, hb2, cj⟩ := (ownI_ints o4).2 j (by simpa using hjg)
                have ez : (zs (nx T x))[j]'(by simpa using hjg) = ((nx T x)[j] : Int) := by simp [zs]
                rw [ez] at cj
                have hdr : (nx T x).drop j = (nx T x)[j] :: (nx T x).drop (j + 1) := List.drop_eq_getElem_cons hjg
                obtain ⟨g, hg⟩ : ∃ g, g = (nx T x)[j] := ⟨_, rfl⟩
                rw [← hg] at cj hdr
                have hrd := HR4.out
                rw [hdr] at hrd
                obtain ⟨hgk, hgp, _, _⟩ := rd_pos hrd
                have hgO : g < op4.length := by rw [hrd.lenO]; exact hgk
                have RD5 := Lib.hid (rd_dec hrd)
                have co := (lies_cell HM4.out.opn g).trans (iRow_at (l := op4) (v := g) hgO)
                have fo := lies_free HM4.out.opn g
                have hbo : op4.getD g 0 ≤ 1048576 := hrd.big g
                obtain ⟨q, hq⟩ : ∃ q, q + 1 = op4.getD g 0 := ⟨op4.getD g 0 - 1, by omega⟩
                rw [← hq] at co hbo
                have HQ := Lib.hid (show op4.getD g 0 - 1 = q by omega)
                have M5 := Lib.hid (orm_open HM4.out g q)
                have gi : (g : Int) < (k : Int) := by omega
                have qb : (q : Int) ≤ 2000000000000 := by omega
                have q0 : (0 : Int) ≤ (q : Int) := by omega
                rw [Int.natCast_add] at co
                subst eA
                clear o4 hb2 ez hdr hrd hgp hq hg hbo
                unfold iV at *
                go_upto_region 19 with (fail)
                generalize wr.setCell ⟨O, g, none⟩ (.int .i64 (q : Int)) = W5 at *
                have c5 := (lies_cell M5.out.opn g).trans (iRow_at (l := op4.set g q) (v := g) (by simpa using hgO))
                rw [getD_setN, if_pos ⟨rfl, hgO⟩] at c5
                rw [HQ.out] at RD5
                have KA := Lib.hid (add_any (w1.heap.size + 1) w1.heap.size rv4 (zs l4) (g : Int) W5 M5.out.win (by unfold zs; rw [List.pairwise_map]; exact HR4.out.srt.imp (fun h => by omega)) (by have := rd_len HR4.out; simp [zs]; omega) M5.out.box (Nat.lt_succ_self _) (orm_size M5.out))
                by_cases hz : q = 0
                · have hzb : ((q : Int) == 0) = true := by simp [hz]
                  have RD6 := Lib.hid (show Rd T k (op4.set g q) (out ++ [x]) ((nx T x).drop (j + 1)) (insN l4 g) by have := RD5.out; rwa [if_pos hz] at this)
                  clear hz RD5
                  go_wp2_with (go_at_call 47; (with_reducible refine KA.out.mono ?_); rintro e w2 ⟨rfl, hAd⟩; have HAd := Lib.hid hAd; clear hAd)
                  go_roundw
                  case rel =>
                    obtain ⟨rv', hM'⟩ := orm_add M5.out HAd.out
                    exact ⟨j + 1, _, _, rv', by omega, by go_num, RD6.out, hM'⟩
                  case measure => first | (simp [intOf]; done) | (simp [intOf]; omega)
                · have hzb : ((q : Int) == 0) = false := by simp; omega
                  have RD6 := Lib.hid (show Rd T k (op4.set g q) (out ++ [x]) ((nx T x).drop (j + 1)) l4 by have := RD5.out; rwa [if_neg hz] at this)
                  clear RD5
                  go_wp2
                  go_roundw
                  case rel => exact ⟨j + 1, _, _, rv4, by omega, by go_num, RD6.out, M5.out⟩
                  case measure => first | (simp [intOf]; done) | (simp [intOf]; omega)
              · obtain rfl : j = m5 := by omega
                have lj : ¬ (j : Int) < (j : Int) := by omega
                go_wp2
                go_roundw
                case rel =>
                  refine ⟨out ++ [x], l4, op4, rv4, ?_, ?_, ?_⟩
                  · show N + 1 = _
                    rw [HNo.out]; simp
                  · have := HR4.out
                    rwa [HM5.out, List.drop_length] at this
                  · have := HM4.out
                    rw [List.map_append, List.map_cons, List.map_nil, HU.out]
                    exact this
                case measure =>
                  show k - (N + 1) < k - slen u10
                  rw [HSL.out]
                  have := rd_out HR4.out
                  rw [List.length_append, List.length_singleton] at this
                  have e := HNo.out
                  rw [List.length_map] at e
                  omega

          · have W1 := Lib.hid (HW.out (ob + 1) (by rw [if_neg hc1]))

            go_upto_region 14 with (fail)
            generalize World.setCell wr _ _ = W at *
            have hxe : x < es.length := by rw [← HKK.out]; exact hxk
            obtain ⟨gG, eG, hgw, cG⟩ := grps_cell HE.out hxe
            replace cG := ((orm_below W1.out HBl.out HRB.out.2.2.1).cell (p := ⟨gG, 0 + x, none⟩) hgw).trans cG
            rw [Nat.zero_add] at cG
            have hu : (es.getD x ⟨0, none, [], 0⟩).rv = .slice es[x].A es[x].r.length es[x].c := by rw [List.getD_eq_getElem?_getD, List.getElem?_eq_getElem hxe]; rfl
            obtain ⟨A3, n3, c3, hA3⟩ : ∃ A n c, A = es[x].A ∧ n = es[x].r.length ∧ c = es[x].c := ⟨_, _, _, rfl, rfl, rfl⟩
            rw [← hA3.1, ← hA3.2.1, ← hA3.2.2] at cG hu
            have xi : (x : Int) < (k : Int) := by omega
            have HU := Lib.hid hu
            subst eG
            obtain ⟨N, hN⟩ : ∃ N, N = (out.map fun i => (es.getD i ⟨0, none, [], 0⟩).rv).length := ⟨_, rfl⟩
            have HNo := Lib.hid hN
            have NB := Lib.hid (show N ≤ 1000000 by rw [hN, List.length_map]; have := rd_out HR2.out; omega)
            have A1 := Lib.hid (orm_alloc W1.out (.cells #[.slice A3 n3 c3] 33))
            have ROW := Lib.hid (show (W.alloc (.cells #[.slice A3 n3 c3] 33)).ownsRow (w1.heap.size + 1) 33 1 u10 N _ by rw [hN]; exact A1.out.row)
            have LN := Lib.hid (lies_new W 33 #[.slice A3 n3 c3])
            have SZ := Lib.hid (orm_size A1.out)
            clear hu hA3 hN hgw cb fb c0
            go_upto_region 15 with (refine wpList_app_slice rfl _ _ rfl (w1.heap.size + 1) W.heap.size (.slice A3 n3 c3) u10 N _ rfl ROW.out rfl LN.out rfl NB.out SZ.out ?_; intro GB GC w7 g1 g2 g3; have M7 := Lib.hid (orm_list A1.out (u := .slice A3 n3 c3) (G := GB) (C := GC) (by rw [← HNo.out]; exact g1) g2 (g3.imp id (fun e => by rw [e]; exact Nat.le_refl _))); clear g1 g2 g3)
            rw [← HNo.out] at M7
            clear A1 ROW LN SZ W1 cG
            have hxT : x < T.length := by rw [HTK.out]; exact hxk
            have HXT := Lib.hid hxT
            obtain ⟨cR, oR⟩ := orm_ask M7.out HR.out HSp.out RK.out HRB.out.2.2.2 hxT
            obtain ⟨A5, C5, h5⟩ := own_slice oR
            rw [zs_len] at h5
            obtain ⟨m5, hm5⟩ : ∃ m5, m5 = (nx T x).length := ⟨_, rfl⟩
            rw [← hm5] at h5
            have H5 := Lib.hid h5
            have HM5 := Lib.hid hm5
            have HM5b := Lib.hid (show m5 ≤ 1048576 by rw [hm5]; exact HA.out.big x)
            rw [h5] at cR
            clear oR h5 hm5 hxT
            go_upto_region 16 with (fail)
            go_loopw [55] (fun v55 wq => ∃ (j : Nat) (l op : List Nat) (rv : Value), j ≤ m5 ∧ v55 = .int .i64 (j : Int) ∧ Rd T k op (out ++ [x]) ((nx T x).drop j) l ∧ OrM w1 O op rv l (.slice (some ⟨GB, 0, none⟩) (N + 1) GC) ((out.map fun i => (es.getD i ⟨0, none, [], 0⟩).rv) ++ [.slice A3 n3 c3]) wq) (fun v55 _ => m5 - (intOf v55).toNat)
            case atStart => exact ⟨0, l3, op2, _, Nat.zero_le _, rfl, RT.out, M7.out⟩
            case round =>
              obtain ⟨j, l4, op4, rv4, hj, rfl, hR4, hM4⟩ := hrel
              have HR4 := Lib.hid hR4
              have HM4 := Lib.hid hM4
              clear hR4 hM4
              by_cases hjl : j < m5
              · have hm5b := HM5b.out
                have lj : (j : Int) < (m5 : Int) := by omega
                have hjg : j < (nx T x).length := by rw [← HM5.out]; exact hjl
                obtain ⟨_, o4⟩ := orm_ask HM4.out HR.out HSp.out RK.out HRB.out.2.2.2 HXT.out
                rw [H5.out] at o4
                obtain ⟨b2, ob2, eA, hb2, cj⟩ := (ownI_ints o4).2 j (by simpa using hjg)
                have ez : (zs (nx T x))[j]'(by simpa using hjg) = ((nx T x)[j] : Int) := by simp [zs]
                rw [ez] at cj
                have hdr : (nx T x).drop j = (nx T x)[j] :: (nx T x).drop (j + 1) := List.drop_eq_getElem_cons hjg
                obtain ⟨g, hg⟩ : ∃ g, g = (nx T x)[j] := ⟨_, rfl⟩
                rw [← hg] at cj hdr
                have hrd := HR4.out
                rw [hdr] at hrd
                obtain ⟨hgk, hgp, _, _⟩ := rd_pos hrd
                have hgO : g < op4.length := by rw [hrd.lenO]; exact hgk
                have RD5 := Lib.hid (rd_dec hrd)
                have co := (lies_cell HM4.out.opn g).trans (iRow_at (l := op4) (v := g) hgO)
                have fo := lies_free HM4.out.opn g
                have hbo : op4.getD g 0 ≤ 1048576 := hrd.big g
                obtain ⟨q, hq⟩ : ∃ q, q + 1 = op4.getD g 0 := ⟨op4.getD g 0 - 1, by omega⟩
                rw [← hq] at co hbo
                have HQ := Lib.hid (show op4.getD g 0 - 1 = q by omega)
                have M5 := Lib.hid (orm_open HM4.out g q)
                have gi : (g : Int) < (k : Int) := by omega
                have qb : (q : Int) ≤ 2000000000000 := by omega
                have q0 : (0 : Int) ≤ (q : Int) := by omega
                rw [Int.natCast_add] at co
                subst eA
                clear o4 hb2 ez hdr hrd hgp hq hg hbo
                unfold iV at *
                go_upto_region 19 with (fail)
                generalize wr.setCell ⟨O, g, none⟩ (.int .i64 (q : Int)) = W5 at *
                have c5 := (lies_cell M5.out.opn g).trans (iRow_at (l := op4.set g q) (v := g) (by simpa using hgO))
                rw [getD_setN, if_pos ⟨rfl, hgO⟩] at c5
                rw [HQ.out] at RD5
                have KA := Lib.hid (add_any (w1.heap.size + 1) w1.heap.size rv4 (zs l4) (g : Int) W5 M5.out.win (by unfold zs; rw [List.pairwise_map]; exact HR4.out.srt.imp (fun h => by omega)) (by have := rd_len HR4.out; simp [zs]; omega) M5.out.box (Nat.lt_succ_self _) (orm_size M5.out))
                by_cases hz : q = 0
                · have hzb : ((q : Int) == 0) = true := by simp [hz]
                  have RD6 := Lib.hid (show Rd T k (op4.set g q) (out ++ [x]) ((nx T x).drop (j + 1)) (insN l4 g) by have := RD5.out; rwa [if_pos hz] at this)
                  clear hz RD5
                  go_wp2_with (go_at_call 47; (with_reducible refine KA.out.mono ?_); rintro e w2 ⟨rfl, hAd⟩; have HAd := Lib.hid hAd; clear hAd)
                  go_roundw
                  case rel =>
                    obtain ⟨rv', hM'⟩ := orm_add M5.out HAd.out
                    exact ⟨j + 1, _, _, rv', by omega, by go_num, RD6.out, hM'⟩
                  case measure => first | (simp [intOf]; done) | (simp [intOf]; omega)
                · have hzb : ((q : Int) == 0) = false := by simp; omega
                  have RD6 := Lib.hid (show Rd T k (op4.set g q) (out ++ [x]) ((nx T x).drop (j + 1)) l4 by have := RD5.out; rwa [if_neg hz] at this)
                  clear RD5
                  go_wp2
                  go_roundw
                  case rel => exact ⟨j + 1, _, _, rv4, by omega, by go_num, RD6.out, M5.out⟩
                  case measure => first | (simp [intOf]; done) | (simp [intOf]; omega)
              · obtain rfl : j = m5 := by omega
                have lj : ¬ (j : Int) < (j : Int) := by omega
                go_wp2
                go_roundw
                case rel =>
                  refine ⟨out ++ [x], l4, op4, rv4, ?_, ?_, ?_⟩
                  · show N + 1 = _
                    rw [HNo.out]; simp
                  · have := HR4.out
                    rwa [HM5.out, List.drop_length] at this
                  · have := HM4.out
                    rw [List.map_append, List.map_cons, List.map_nil, HU.out]
                    exact this
                case measure =>
                  show k - (N + 1) < k - slen u10
                  rw [HSL.out]
                  have := rd_out HR4.out
                  rw [List.length_append, List.length_singleton] at this
                  have e := HNo.out
                  rw [List.length_map] at e
                  omega

end Go.Proofs.YtpddamloajpiiaaGreatDoor

/-
What is proved here: the library's iterator that goes backward through numbers, for a body that keeps them.
-/
set_option linter.unusedSimpArgs false
set_option linter.unusedVariables false
namespace Go.Cmp
/-- the places of a list, from its end -/
def bk (L k : Nat) : List (Fin L) := ((List.finRange L).reverse).take k
theorem bk_len (L k : Nat) (h : k ≤ L) : (bk L k).length = k := by simp [bk]; omega
theorem bk_succ (L k : Nat) (h : k < L) : bk L (k + 1) = bk L k ++ [⟨L - 1 - k, by omega⟩] := by
  unfold bk
  rw [List.take_succ_eq_append_getElem (by simp; omega)]
  congr 1
  simp [List.getElem_reverse]
theorem bk_snoc {L : Nat} {pre : List (Fin L)} {x : Fin L} (hlt : pre.length < L) (h : pre ++ [x] = bk L (pre ++ [x]).length) : pre = bk L pre.length ∧ x.1 = L - 1 - pre.length := by
  rw [List.length_append, List.length_singleton, bk_succ L pre.length hlt] at h
  have h2 := List.append_inj h (by rw [bk_len L _ (by omega)])
  exact ⟨h2.1, by have := h2.2; simp only [List.cons.injEq, and_true] at this; rw [this]⟩
end Go.Cmp
namespace Go.Proofs.YtpddamloajpiiaaGreatDoor
open Go.Cmp Go.RowKit
def KQ (Q : Nat → Prop) (A B : World) : Prop := (∀ i, Q i → B.heap[i]? = A.heap[i]?) ∧ A.heap.size ≤ B.heap.size
theorem kq_t {Q : Nat → Prop} {A B C : World} (h : KQ Q A B) (k : KQ Q B C) : KQ Q A C := ⟨fun i hi => (k.1 i hi).trans (h.1 i hi), Nat.le_trans h.2 k.2⟩
theorem kq_b {Q : Nat → Prop} {w : World} (hQ : ∀ i, Q i → i < w.heap.size) (W : World) (l : Nat) (o o' : Obj) (hl : w.heap.size ≤ l) (h : W.heap[l]? = some o) (_ : o.isCells = false) (_ : o.isWalk = false) : KQ Q W (W.putObj l o') :=
  ⟨fun i hi => by
    have hne : l ≠ i := fun e => by have := hQ i hi; omega
    show (W.heap.setIfInBounds l o')[i]? = _
    rw [Array.getElem?_setIfInBounds, if_neg hne], by simp [World.putObj]⟩
def encF (F : List Nat) (k : Fin F.length) : Array Value := #[.int .i64 (k.1 : Int), .int .i64 (F[k.1] : Int)]
attribute [local go_sem] Oper.semAt_some
set_option maxRecDepth 100000 in
set_option maxHeartbeats 4000000 in
theorem back_stops (nn : Nat) (hnn : 1 ≤ nn) (F : List Nat) (hF0 : F.length ≤ 100000) (Bs c : Nat) (A : Option Addr) (Q : Nat → Prop) (w : World)
    (hb1 : w.cell? ⟨Bs, 0, none⟩ = some (.slice A F.length c)) (hQB : Q Bs) (hQ : ∀ i, Q i → i < w.heap.size) (hI : IntsAt w A (zs F)) (hQA : ∀ b o, A = some ⟨b, o, none⟩ → 0 < F.length → Q b) :
    SeqStopsK .wide nn Tryz.prog 75 #[.pointer (some ⟨Bs, 0, none⟩)] (encF F) (KQ Q) (fun ys => ys = bk F.length F.length) (fun _ => True) F.length w := fun lp J Jx W hW hJ _ hY h0 => by
  have cB0 := (hW.cell (p := ⟨Bs, 0, none⟩) (hQ Bs hQB)).trans hb1
  have hKW : ∀ i, Q i → W.heap[i]? = w.heap[i]? := fun i hi => hW.block i (hQ i hi)
  have CB := Lib.hid cB0
  have HB := Lib.hid hQB
  have HF := Lib.hid (fun i (hi : i < F.length) => show ∃ b o, A = some ⟨b, o, none⟩ ∧ Q b ∧ W.cell? ⟨b, o + i, none⟩ = some (.int .i64 (F[i] : Int)) from by
    obtain ⟨b, o, e, hb, hc⟩ := hI i (by simpa using hi)
    have hq := hQA b o e (by omega)
    refine ⟨b, o, e, hq, cell_same (by simpa [zs, iV] using hc) (hKW b hq)⟩)
  obtain ⟨n, hn⟩ : ∃ n, n = F.length := ⟨_, rfl⟩
  have hn0 : n ≤ 100000 := by omega
  have w1 : wrap64 ((n : Int) - 1) = (n : Int) - 1 := by unfold wrap64; omega
  have HN := Lib.hid hn
  rw [← hn] at cB0 CB
  clear hb1 hI hKW hQ hQB hQA hn
  refine callsIn_of_wp Tryz.func75 rfl trivial ?_ rfl
  simp only [Tryz.ntmps75, List.size_toArray, List.length_cons, List.length_nil, Nat.reduceAdd, Nat.reduceSub, Array.replicate_succ, Array.replicate_zero, List.push_toArray, List.append_toArray, List.nil_append, List.cons_append]
  gi_wp2
  gi_loopw [3] (fun v3 wr => ∃ k : Nat, k ≤ n ∧ v3 = .int .i64 ((n : Int) - 1 - (k : Int)) ∧ J (bk F.length k) wr ∧ (∀ i, Q i → wr.heap[i]? = W.heap[i]?) ∧ W.heap.size ≤ wr.heap.size) (fun v3 _ => (intOf v3 + 1).toNat)
  case atStart => exact ⟨0, Nat.zero_le _, by simp, by simpa [bk] using h0, fun _ _ => rfl, Nat.le_refl _⟩
  case round =>
    obtain ⟨k, hk, rfl, hJr, hK, hz⟩ := hrel
    have HJR := Lib.hid hJr
    have HK := Lib.hid hK
    have HZ := Lib.hid hz
    have cB1 := (World.cell?_of_block (a := ⟨Bs, 0, none⟩) (hK Bs HB.out)).trans CB.out
    clear cB0 hJr hK hz
    by_cases hlt : k < n
    · obtain ⟨i, hi⟩ : ∃ i : Nat, i = n - 1 - k := ⟨_, rfl⟩
      have ei : (n : Int) - 1 - (k : Int) = (i : Int) := by omega
      have hin : i < n := by omega
      have hiF : i < F.length := by have := HN.out; omega
      obtain ⟨b, o, eA, hq, hc⟩ := HF.out i hiF
      subst eA
      have d1 := (World.cell?_of_block (a := ⟨b, o + i, none⟩) (HK.out b hq)).trans hc
      have FD := Lib.hid (show bk F.length (k + 1) = bk F.length k ++ [⟨i, hiF⟩] by rw [bk_succ F.length k (by have := HN.out; omega)]; congr 3; have := HN.out; omega)
      have li : (i : Int) < (n : Int) := by omega
      have l0 : (0 : Int) ≤ (i : Int) := by omega
      have w2 : wrap64 ((i : Int) - 1) = (i : Int) - 1 := by unfold wrap64; omega
      obtain ⟨fn, tmps, assign, body, hy, hR⟩ := hY (bk F.length k) ⟨i, hiF⟩ _ HJR.out (by rw [bk_len _ _ (by have := HN.out; omega)]; have := HN.out; omega)
      dsimp only [encF] at hy
      rw [ei]
      have EI := Lib.hid ei
      have HI := Lib.hid hi
      generalize F[i] = fi at *
      clear hc ei hi
      gi_wp2
      refine hR.mono ?_
      rintro e W4 (⟨rfl, hJ4, hk4⟩ | ⟨rfl, hJx4⟩)
      · have J4 := Lib.hid (show J (bk F.length (k + 1)) W4 by rw [FD.out]; exact hJ4)
        have KH4 := Lib.hid (show ∀ i, Q i → W4.heap[i]? = W.heap[i]? from fun i h1 => (hk4.1 i h1).trans (HK.out i h1))
        have Z4 := Lib.hid (Nat.le_trans HZ.out hk4.2)
        clear hJ4 hk4
        gi_wp2
        go_roundw
        case rel => exact ⟨k + 1, by omega, by have := EI.out; congr 1; omega, J4.out, KH4.out, Z4.out⟩
        case measure => first | (simp [intOf]; done) | (simp [intOf]; omega)
      · gi_wp2
        refine bodyPost_ret (results_none rfl _ _ _) rfl ?_
        exact ⟨⟨_, rfl⟩, .inr ⟨_, trivial, hJx4⟩⟩
    · obtain rfl : k = n := by omega
      have e1 : (k : Int) - 1 - (k : Int) = -1 := by omega
      rw [e1]
      gi_wp2
      go_end0
      exact ⟨⟨_, rfl⟩, .inl ⟨_, by rw [HN.out], HJR.out⟩⟩
end Go.Proofs.YtpddamloajpiiaaGreatDoor
