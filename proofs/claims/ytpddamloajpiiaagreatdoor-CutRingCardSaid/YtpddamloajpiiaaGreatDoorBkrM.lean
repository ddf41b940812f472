/-
What is proved here: actions and needs that a law of cut builds in memory, and Break of a ring of them.
-/
import Derived.Test.YtpddamloajpiiaaGreatDoorBrkM
import Derived.Test.YtpddamloajpiiaaGreatDoorRgcM
import Derived.Test.YtpddamloajpiiaaGreatDoorWkhM
import Derived.Test.YtpddamloajpiiaaGreatDoorTlsM
import Derived.Test.YtpddamloajpiiaaGreatDoorLeiM
set_option linter.unusedSimpArgs false
set_option linter.unusedVariables false
namespace Go.Proofs.YtpddamloajpiiaaGreatDoor
open Go.Cmp Go.RowKit Go.Cut Go.Pth Go.Word Go.Shelf
set_option maxRecDepth 100000 in
/-- the append of an action -/
theorem app_act (W : World) (B g : Nat) (av : Value) (l : List Ac) (a : Ac) (h : OwnA W B av l) (hL : Lies W g 29 #[.int .i64 a.op, St a.p, St a.t, .int .i64 a.mode, .int .i64 a.ref]) (hB : B ≤ W.heap.size) (hl : l.length ≤ 100000) :
    ∃ A C Z, (Builtin.append_ #[22, 22] 22 #[av, .slice (some ⟨g, 0, none⟩) 1 1]).run Tryz.prog W = .ok (.slice A (l.length + 1) C) Z ∧ OwnA Z B (.slice A (l.length + 1) C) (l ++ [a]) ∧ W.grownBy Z av.ownBlock := by
  obtain ⟨i0, hi, hz0, hz1, hz2⟩ := info_parts ac_info
  unfold OwnA at h
  obtain ⟨v', Z, hr, ho, hg, _⟩ := run_append_own_at (P := Tryz.prog) W B 22 22 29 i0 _ 5 56 Tryz.underlying22 hi hz0 hz1 hz2 rfl (by decide) av l.length (acs l) h ⟨g, 0, none⟩ 1 1 [.int .i64 a.op, St a.p, St a.t, .int .i64 a.mode, .int .i64 a.ref] rfl (fun q u hq => by
    match q, hq with
    | 0, hq => injection hq with hq; subst hq; exact lies_cell hL 0
    | 1, hq => injection hq with hq; subst hq; exact lies_cell hL 1
    | 2, hq => injection hq with hq; subst hq; exact lies_cell hL 2
    | 3, hq => injection hq with hq; subst hq; exact lies_cell hL 3
    | 4, hq => injection hq with hq; subst hq; exact lies_cell hL 4
    | q + 5, hq => simp at hq) (fun u hu => by
      simp only [List.mem_cons, List.not_mem_nil, or_false] at hu
      rcases hu with rfl | rfl | rfl | rfl | rfl <;> rfl) (by unfold maxLen; omega) (by omega) hB
  obtain ⟨A, C, rfl⟩ := own_slice ho
  refine ⟨A, C, Z, hr, ?_, hg⟩
  unfold OwnA
  rw [acs_snoc, List.length_append, List.length_singleton]
  exact ho
/-- what is built so far -/
structure BkM (B : Nat) (av nv : Value) (l : List Ac) (G : Gr) (vs : List Value) (W : World) : Prop where
  own : OwnA W B av l
  row : W.ownsRow B 33 1 nv vs.length vs
  rws : Rws W B vs G
  sz : B ≤ W.heap.size
theorem bk_start (W : World) : BkM W.heap.size (.slice none 0 0) (.slice none 0 0) [] [] [] W :=
  ⟨World.ownsRow_nil _ _ _ _, World.ownsRow_nil _ _ _ _, ⟨rfl, fun i => .inl ⟨by simp [nilV], by simp [nx, zs]⟩, fun i j k _ h => by simp [nilV, wblk] at h⟩, Nat.le_refl _⟩
theorem bk_act {B : Nat} {av nv av' : Value} {l : List Ac} {G : Gr} {vs : List Value} {W Z : World} {o : Obj} {a : Ac} (h : BkM B av nv l G vs W) (ho : OwnA Z B av' (l ++ [a])) (hg : (W.alloc o).grownBy Z av.ownBlock) : BkM B av' nv (l ++ [a]) G vs Z := by
  have hb : But (fun k => some k = av.ownBlock) W Z := ((But.refl _ W).alloc o).trans (But.grown hg)
  have hl : ∀ k, some k = av.ownBlock → ∃ cs, Lies W k 29 cs := fun k hk => (own_heap h.own k hk.symm).2.2
  refine ⟨ho, own_but h.row hb (fun k hk e => ?_), ⟨h.rws.len, fun i => win_but (h.rws.win i) hb (fun k hk e => ?_), h.rws.sep⟩, by have := hb.size; have := h.sz; omega⟩
  · obtain ⟨cs, hL⟩ := hl k e
    exact own_ne h.row hL (by decide) hk
  · obtain ⟨cs, hL⟩ := hl k e
    exact win_ne (h.rws.win i) hL (by decide) hk
theorem bk_row {B z : Nat} {av nv nv' : Value} {l : List Ac} {G : Gr} {vs : List Value} {W Z : World} {o : Obj} (h : BkM B av nv l G vs W) (hr : Z.ownsRow B 33 1 nv' (vs.length + 1) (vs ++ [.slice (some ⟨W.heap.size, 0, none⟩) 1 1])) (hg : ((W.alloc (.cells #[.int .i64 (z : Int)] 3)).alloc o).grownBy Z nv.ownBlock) :
    BkM B av nv' l (G ++ [[z]]) (vs ++ [.slice (some ⟨W.heap.size, 0, none⟩) 1 1]) Z := by
  have hb : But (fun k => some k = nv.ownBlock) W Z := (((But.refl _ W).alloc (.cells #[.int .i64 (z : Int)] 3)).alloc o).trans (But.grown hg)
  have hl : ∀ k, some k = nv.ownBlock → ∃ cs, Lies W k 33 cs := fun k hk => (own_heap h.row k hk.symm).2.2
  have hlt : ∀ k, some k = nv.ownBlock → k < W.heap.size := fun k hk => (own_heap h.row k hk.symm).2.1
  have hgd : ∀ j, (vs ++ [Value.slice (some ⟨W.heap.size, 0, none⟩) 1 1]).getD j nilV = if j = vs.length then .slice (some ⟨W.heap.size, 0, none⟩) 1 1 else vs.getD j nilV := fun j => by
    rw [List.getD_eq_getElem?_getD, List.getElem?_append]
    by_cases e2 : j < vs.length
    · rw [if_pos e2, if_neg (by omega), ← List.getD_eq_getElem?_getD]
    · rw [if_neg e2]
      by_cases e3 : j = vs.length
      · subst e3; simp
      · rw [if_neg e3, List.getElem?_eq_none (by simp; omega), List.getD_eq_getElem?_getD, List.getElem?_eq_none (by omega)]
  have hnew : Lies Z W.heap.size 3 #[.int .i64 (z : Int)] := by
    have h1 : Lies ((W.alloc (.cells #[.int .i64 (z : Int)] 3)).alloc o) W.heap.size 3 #[.int .i64 (z : Int)] := lies_alloc (lies_new W 3 _) o
    exact (But.grown hg).lies h1 (fun e => by have := hlt _ e; omega)
  have hlen := h.rws.len
  refine ⟨own_but h.own hb (fun k hk e => ?_), by rw [List.length_append]; exact hr, ⟨by simp [hlen], fun j => ?_, fun i j k hij hi hj => ?_⟩, by have := hb.size; have := h.sz; omega⟩
  · obtain ⟨cs, hL⟩ := hl k e
    exact own_ne h.own hL (by decide) hk
  · rw [hgd, nx_app]
    by_cases e : j = vs.length
    · rw [if_pos e, if_pos (by rw [e, hlen])]
      exact .inr ⟨W.heap.size, 0, 1, _, rfl, h.sz, hnew, Nat.le_refl _, by decide, by simp, fun q hq => by
        have : q = 0 := by simp [zs] at hq; omega
        subst this; rfl⟩
    · rw [if_neg e, if_neg (by rw [← hlen]; exact e)]
      exact win_but (h.rws.win j) hb (fun k hk e2 => by
        obtain ⟨cs, hL⟩ := hl k e2
        exact win_ne (h.rws.win j) hL (by decide) hk)
  · rw [hgd] at hi hj
    by_cases ei : i = vs.length
    · rw [if_pos ei] at hi
      have hk : W.heap.size = k := Option.some.inj hi
      by_cases ej : j = vs.length
      · exact hij (ei.trans ej.symm)
      · rw [if_neg ej] at hj
        have := (win_block (h.rws.win j) k hj).2
        omega
    · rw [if_neg ei] at hi
      by_cases ej : j = vs.length
      · rw [if_pos ej] at hj
        have hk : W.heap.size = k := Option.some.inj hj
        have := (win_block (h.rws.win i) k hi).2
        omega
      · rw [if_neg ej] at hj
        exact h.rws.sep i j k hij hi hj
/-- Break of a ring -/
theorem brk_ring (hS : SplitOK) {B n : Nat} {av nv : Value} {l : List Ac} {vs : List Value} {W : World} (h : BkM B av nv l (ring n) vs W) (hl : l.length = n) (h1 : 1 ≤ n) (h2 : n ≤ 30) (ht : ∀ a ∈ l, a.p.length ≤ 100000) (hT : Pow W) :
    Calls Tryz.prog 10 #[av, nv] W (BrkE l (ring n) W) := by
  have ho := h.own
  obtain ⟨LA, lc, eN, hLs⟩ := rws_ls h.row h.rws
  obtain ⟨g, c, cur, eA, hBg, hLg, hlc, hcm, hcs, hct⟩ := own_some ho (by omega)
  subst eN eA
  have hR := ring_len n
  exact break_of hS (some ⟨g, 0, none⟩) c LA lc l (ring n) ok_ring (by omega) (fun r hr => by
    obtain ⟨j, _, rfl⟩ := List.mem_map.1 hr
    split <;> simp) (by omega) ht W hT hLs (fun j u hj => ⟨g, 0, rfl, lies_lt hLg, by
      have hjl : j < l.length * 5 := by have := (List.getElem?_eq_some_iff.1 hj).1; rwa [acs_len] at this
      rw [Nat.zero_add, lies_cell hLg, ← Array.getElem?_toList]
      have e : (cur.toList.take (l.length * 5))[j]? = cur.toList[j]? := List.getElem?_take_of_lt hjl
      rw [← e, hct]
      exact hj⟩) (.inr ⟨g, 0, rfl⟩)
end Go.Proofs.YtpddamloajpiiaaGreatDoor
