/-
What is proved here: several texts in one (Gps, Cps, Del, Rno): each says what it is about.
-/
import Derived.Test.YtpddamloajpiiaaGreatDoorMa2
import Derived.Test.YtpddamloajpiiaaGreatDoorMa3
import Derived.Test.YtpddamloajpiiaaGreatDoorMa5
import Derived.RangeFuncWrites
import Derived.RangeFuncCalls
import Derived.ControlIn
import Derived.Sort.CutIn
import Derived.Maps.OwnIn
/-
What is proved here: package comp's groups, by a contract.
-/
set_option linter.unusedSimpArgs false
set_option linter.unusedVariables false
namespace Go.Proofs.YtpddamloajpiiaaGreatDoor
open Go.Cmp Go.RowKit
/-- what the first search keeps: the marks' row in block M, the variable that holds it in the next -/
structure GpA (w : World) (G : Gr) (i : Nat) (LV : Value) (F : List Nat) (m : List Bool) (wr : World) : Prop where
  mks : Lies wr w.heap.size 4 (bRow m)
  box : Lies wr (w.heap.size + 1) 70 #[.slice (some ⟨w.heap.size, 0, none⟩) G.length G.length]
  own : OwnI wr (w.heap.size + 2) LV (zs F)
  low : Below w.heap.size w wr
  sz : w.heap.size + 2 ≤ wr.heap.size
  j : J G G.length F [] m
  all : ∀ v, v < i → v ∈ F
theorem gpA_len {w : World} {G : Gr} {i : Nat} {LV : Value} {F : List Nat} {m : List Bool} {wr : World} (h : GpA w G i LV F m wr) : F.length ≤ G.length :=
  nodup_bound G.length F (by have := h.j.nd; rwa [List.append_nil] at this) (fun v hv => h.j.lt v (.inl hv))
theorem gpA_step {w : World} {G : Gr} (hG : Ok G) {i : Nat} {LV : Value} {F : List Nat} {m : List Bool} {wr w1 w2 : World} (h : GpA w G i LV F m wr) (hi : i < G.length) {e : Ending} {A : Option Addr} {C : Nat} {l : List Nat} {m' : List Bool} {v' : Value}
    (hm : Lies w1 w.heap.size 4 (bRow m')) (hb : But (· = w.heap.size) wr w1) (hd : (m.getD i false = true ∧ l = [] ∧ m' = m) ∨ (m.getD i false = false ∧ Fnd G m i l m'))
    (hv : OwnI w2 (w.heap.size + 2) v' (zs F ++ zs l)) (hb2 : But (fun k => some k = LV.ownBlock) w1 w2) : GpA w G (i + 1) v' (F ++ l) m' w2 := by
  have hP : ∀ k, some k = LV.ownBlock → w.heap.size + 2 ≤ k := fun k hk => (own_heap h.own k hk.symm).1
  have hs := h.sz
  refine ⟨hb2.lies hm (fun x => by have := hP _ x; omega), hb2.lies (hb.lies h.box (by omega)) (fun x => by have := hP _ x; omega), by simpa [zs] using hv, ?_, by have := hb.size; have := hb2.size; omega, ?_, ?_⟩
  · exact (h.low.trans (hb.below (by omega) (fun k hk => by omega))).trans (hb2.below (by have := hb.size; omega) (fun k hk => by have := hP _ hk; omega))
  · rcases hd with ⟨_, rfl, rfl⟩ | ⟨_, hf⟩
    · rw [List.append_nil]; exact h.j
    · exact (fnd_of hG h.j hf).1
  · intro v hlt
    rcases hd with ⟨hmk, rfl, rfl⟩ | ⟨_, hf⟩
    · rw [List.append_nil]
      by_cases e : v = i
      · subst e; exact (h.j.marked v).1 hmk
      · exact h.all v (by omega)
    · by_cases e : v = i
      · subst e; exact List.mem_append_right _ (fnd_of hG h.j hf).2.1
      · exact List.mem_append_left _ (h.all v (by omega))
theorem down_len {G : Gr} (hG : Ok G) {F : List Nat} {m m' : List Bool} {i : Nat} {l : List Nat} (h0 : J G G.length F [] m) (hd : (m.getD i false = true ∧ l = [] ∧ m' = m) ∨ (m.getD i false = false ∧ Fnd G m i l m')) : l.length ≤ G.length := by
  rcases hd with ⟨_, rfl, _⟩ | ⟨_, hf⟩
  · exact Nat.zero_le _
  · have := (fnd_of hG h0 hf).1
    have h2 := nodup_bound G.length (F ++ l) (by have := this.nd; rwa [List.append_nil] at this) (fun v hv => this.lt v (.inl hv))
    rw [List.length_append] at h2
    omega
/-- what lies when the second search begins -/
structure GpX (w w2 : World) (G T : Gr) (F : List Nat) (RB : Nat) (FA : Option Addr) (FC : Nat) (X : World) : Prop where
  low : Below w.heap.size w X
  mks : Lies X w.heap.size 4 (bRow (List.replicate G.length false))
  box : Lies X (w.heap.size + 1) 70 #[.slice (some ⟨w.heap.size, 0, none⟩) G.length G.length]
  tb : Lies X w2.heap.size 23 #[.slice (some ⟨RB, 0, none⟩) G.length G.length]
  tl : LsAt w2 (some ⟨RB, 0, none⟩) (zg T)
  mk2 : Lies w2 w.heap.size 4 (bRow (List.replicate G.length false))
  b2 : Below w2.heap.size w2 X
  gb : Lies X (w2.heap.size + 1) 23 #[.slice none 0 0]
  kb : Lies X (w2.heap.size + 2) 33 #[.slice FA F.length FC]
  fi : IntsAt X FA (zs F)
  fb : ∀ b o, FA = some ⟨b, o, none⟩ → b ≠ w.heap.size ∧ b < w2.heap.size
  sz : X.heap.size = w2.heap.size + 3
  tm : w.heap.size + 1 < w2.heap.size
theorem gpX_of {w w1 w2 : World} {G T : Gr} {F : List Nat} {FA : Option Addr} {FC : Nat} {vs : List Value} (hs : w.heap.size + 2 ≤ w1.heap.size) (hlo : Below w.heap.size w w1) (hm : Lies w1 w.heap.size 4 (bRow (List.replicate G.length false))) (hb : Lies w1 (w.heap.size + 1) 70 #[.slice (some ⟨w.heap.size, 0, none⟩) G.length G.length])
    (ho : OwnI w1 (w.heap.size + 2) (.slice FA F.length FC) (zs F)) (ht : TrM w1 w1.heap.size vs T w2) (hT : Turned G T) :
    GpX w w2 G T F w1.heap.size FA FC (((w2.alloc (.cells #[.slice (some ⟨w1.heap.size, 0, none⟩) G.length G.length] 23)).alloc (.cells #[.slice none 0 0] 23)).alloc (.cells #[.slice FA F.length FC] 33)) := by
  have s1 : (w2.alloc (.cells #[.slice (some ⟨w1.heap.size, 0, none⟩) G.length G.length] 23)).heap.size = w2.heap.size + 1 := by simp
  have s2 : ((w2.alloc (.cells #[.slice (some ⟨w1.heap.size, 0, none⟩) G.length G.length] 23)).alloc (.cells #[.slice none 0 0] 23)).heap.size = w2.heap.size + 2 := by simp
  have hz := ht.sz
  have hl2 : Below w1.heap.size w1 w2 := ht.low
  have l2 := lies_new (w2.alloc (.cells #[.slice (some ⟨w1.heap.size, 0, none⟩) G.length G.length] 23)) 23 #[.slice none 0 0]
  rw [s1] at l2
  have l3 := lies_new ((w2.alloc (.cells #[.slice (some ⟨w1.heap.size, 0, none⟩) G.length G.length] 23)).alloc (.cells #[.slice none 0 0] 23)) 33 #[.slice FA F.length FC]
  rw [s2] at l3
  have b3 : Below w2.heap.size w2 (((w2.alloc (.cells #[.slice (some ⟨w1.heap.size, 0, none⟩) G.length G.length] 23)).alloc (.cells #[.slice none 0 0] 23)).alloc (.cells #[.slice FA F.length FC] 33)) := (((Below.refl _ w2).alloc (Nat.le_refl _) _).alloc (by omega) _).alloc (by omega) _
  have b13 := hl2.trans (b3.mono (by omega))
  refine ⟨hlo.trans (b13.mono (by omega)), lies_below hm b13 (by omega), lies_below hb b13 (by omega), lies_alloc (lies_alloc (lies_new _ _ _) _) _, ?_, lies_below hm hl2 (by omega), b3, lies_alloc l2 _, l3, intsAt_below (ownI_ints ho).2 b13, fun b o e => ?_, by simp, by omega⟩
  · exact sep_ls (off := 0) ht.sep (lies_lt ht.row) (fun j u hu => by rw [Nat.zero_add, lies_cell ht.row, List.getElem?_toArray]; exact hu)
  · have := own_heap ho b (by rw [e]; rfl)
    omega
/-- what the second search keeps -/
def GpB (X : World) (M TB : Nat) (G T : Gr) (F : List Nat) (pre : List (Fin F.length)) (W : World) : Prop := ∃ (F2 : List Nat) (m : List Bool) (es : List Ent) (LV : Value),
  J T G.length F2 [] m ∧ Lies W M 4 (bRow m) ∧ Lies W (TB + 1) 23 #[LV] ∧ Grps W X.heap.size LV es ∧ But (fun k => k = M ∨ k = TB + 1) X W ∧ es.length ≤ pre.length ∧ (∀ e ∈ es, e.r.length ≤ G.length) ∧ (pre = bk F.length pre.length → PB G T F F2 m (es.map Ent.r) pre.length)
theorem lies_from {w w' : World} {g B : Nat} {t : TypeId} {cs : Array Value} {row : Option Nat} (h : Lies w g t cs) (hg : w.grownBy w' row) (hr : ∀ r, row = some r → B ≤ r ∧ ∃ o : Obj, w.heap[r]? = some o ∧ o.isCells = false) : Lies w' g t cs :=
  (But.grown hg).lies h (fun x => by
    obtain ⟨_, o, ho, hc⟩ := hr g x.symm
    unfold Lies at h
    rw [h] at ho
    injection ho with ho
    subst ho
    cases hc)
theorem own_from {w w' : World} {B B0 e size : Nat} {v : Value} {n : Nat} {xs : List Value} {row : Option Nat} (h : w.ownsRow B e size v n xs) (hg : w.grownBy w' row) (hr : ∀ r, row = some r → B0 ≤ r ∧ ∃ o : Obj, w.heap[r]? = some o ∧ o.isCells = false) : w'.ownsRow B e size v n xs :=
  own_but h (But.grown hg) (fun k hk x => by
    obtain ⟨_, o, ho, hc⟩ := hr k x.symm
    obtain ⟨_, _, cs, hl⟩ := own_heap h k hk
    unfold Lies at hl
    rw [hl] at ho
    injection ho with ho
    subst ho
    cases hc)
theorem gpB_from (X : World) (M TB : Nat) (G T : Gr) (F : List Nat) : OwnFrom X.heap.size (GpB X M TB G T F) := fun s W W' row ⟨F2, m, es, LV, h1, h2, h3, h4, h5, h6⟩ hg hr =>
  ⟨F2, m, es, LV, h1, lies_from h2 hg hr, lies_from h3 hg hr, ⟨own_from h4.row hg hr, fun e he => own_from (h4.own e he) hg hr, h4.sep⟩, h5.step (But.grown hg) (fun i hi x => by have := (hr i x.symm).1; omega), h6⟩
theorem gpX_ls {w w2 : World} {G T : Gr} {F : List Nat} {RB : Nat} {FA : Option Addr} {FC : Nat} {X W : World} (h : GpX w w2 G T F RB FA FC X) (hb : But (fun k => k = w.heap.size ∨ k = w2.heap.size + 1) X W) : LsAt W (some ⟨RB, 0, none⟩) (zg T) := by
  have h2 : But (· = w.heap.size) w2 W := (But.of_below (P := (· = w.heap.size)) h.b2).step hb (fun i hi x => by omega)
  exact lsAt_marks h.tl h.mk2 h2
theorem gpB_skip {X W w1 : World} {M TB : Nat} {G T : Gr} {F : List Nat} {pre : List (Fin F.length)} {x : Fin F.length} {F2 : List Nat} {m : List Bool} {es : List Ent} {LV : Value} (hMX : M < X.heap.size) (hMT : M ≠ TB + 1)
    (hJ : J T G.length F2 [] m) (hM : Lies W M 4 (bRow m)) (hL : Lies W (TB + 1) 23 #[LV]) (hG : Grps W X.heap.size LV es) (hB : But (fun k => k = M ∨ k = TB + 1) X W) (hlen : es.length ≤ pre.length) (hr : ∀ e ∈ es, e.r.length ≤ G.length) (hPB : pre = bk F.length pre.length → PB G T F F2 m (es.map Ent.r) pre.length)
    (hlt : pre.length < F.length) (h1 : But (· = M) W w1) (hM1 : Lies w1 M 4 (bRow m)) (hmk : m.getD F[x.1] false = true) : GpB X M TB G T F (pre ++ [x]) w1 := by
  refine ⟨F2, m, es, LV, hJ, hM1, h1.lies hL (fun x => hMT x.symm), ⟨own_but hG.row h1 (fun k hk y => own_ne hG.row hM (by decide) (y ▸ hk)), fun e he => own_but (hG.own e he) h1 (fun k hk y => own_ne (hG.own e he) hM (by decide) (y ▸ hk)), hG.sep⟩, hB.step h1 (fun k _ y => .inl y), by rw [List.length_append]; omega, hr, fun he => ?_⟩
  obtain ⟨h2, h3⟩ := bk_snoc hlt he
  rw [List.length_append]
  refine pb_skip (hPB h2) hlt ?_
  rw [← hmk]
  congr 2
  exact h3.symm
/-- a group more, in memory -/
theorem gp_more {X W w1 w2 w3 : World} {M TB : Nat} {LV v' : Value} {es : List Ent} {e : Ent} {o : Obj} {m m' : List Bool} (hMX : M < X.heap.size) (hTX : TB + 1 < X.heap.size) (hMT : M ≠ TB + 1) (hM : Lies W M 4 (bRow m)) (hL : Lies W (TB + 1) 23 #[LV]) (hG : Grps W X.heap.size LV es) (hB : But (fun k => k = M ∨ k = TB + 1) X W)
    (h1 : But (· = M) W w1) (hM1 : Lies w1 M 4 (bRow m')) (hv : OwnI w2 W.heap.size e.rv (zs e.r)) (h2 : But (fun k => some k = e.rv.ownBlock) w1 w2) (h3 : (w2.alloc o).grownBy w3 LV.ownBlock)
    (ho : w3.ownsRow X.heap.size 33 1 v' (es.length + 1) (es.map Ent.rv ++ [e.rv])) (hat : v'.ownBlock = LV.ownBlock ∨ v'.ownBlock = some (w2.alloc o).heap.size) :
    Lies w3 (TB + 1) 23 #[LV] ∧ (∀ w4, w4 = w3.setCell ⟨TB + 1, 0, none⟩ v' → Lies w4 M 4 (bRow m') ∧ Lies w4 (TB + 1) 23 #[v'] ∧ Grps w4 X.heap.size v' (es ++ [e]) ∧ But (fun k => k = M ∨ k = TB + 1) X w4 ∧ But (fun k => k = M ∨ k = TB + 1 ∨ some k = LV.ownBlock) W w4) := by
  have sW := hB.size
  have s1 := h1.size
  have s2 := h2.size
  have hbe : ∀ k, some k = e.rv.ownBlock → W.heap.size ≤ k ∧ k < w2.heap.size := fun k hk => ⟨(own_heap hv k hk.symm).1, (own_heap hv k hk.symm).2.1⟩
  have hbl : ∀ k, some k = LV.ownBlock → X.heap.size ≤ k ∧ k < W.heap.size := fun k hk => ⟨(own_heap hG.row k hk.symm).1, (own_heap hG.row k hk.symm).2.1⟩
  have b3 : But (fun k => some k = LV.ownBlock) w2 w3 := ((But.refl _ w2).alloc o).trans (But.grown h3)
  have bW1 : But (fun k => k = M ∨ k = TB + 1 ∨ some k = LV.ownBlock) W w1 := h1.mono (fun k _ h => .inl h)
  have bW2 : But (fun k => k = M ∨ k = TB + 1 ∨ some k = LV.ownBlock) W w2 := bW1.step h2 (fun k hk x => by have := hbe k x; omega)
  have bW3 : But (fun k => k = M ∨ k = TB + 1 ∨ some k = LV.ownBlock) W w3 := bW2.step b3 (fun k hk x => .inr (.inr x))
  have hL2 : Lies w2 (TB + 1) 23 #[LV] := h2.lies (h1.lies hL (fun x => hMT x.symm)) (fun x => by have := hbe _ x; omega)
  have hL3 : Lies w3 (TB + 1) 23 #[LV] := b3.lies hL2 (fun x => by have := hbl _ x; omega)
  refine ⟨hL3, fun w4 hw4 => ?_⟩
  have bs : But (· = TB + 1) w3 w4 := by rw [hw4]; exact (But.refl (· = TB + 1) w3).setCell (p := ⟨TB + 1, 0, none⟩) (fun _ => rfl) _
  have hM2 : Lies w2 M 4 (bRow m') := h2.lies hM1 (fun x => by have := hbe _ x; omega)
  have hM3 : Lies w3 M 4 (bRow m') := b3.lies hM2 (fun x => by have := hbl _ x; omega)
  refine ⟨bs.lies hM3 hMT, by rw [hw4]; exact lies_set hL3 0 v', ⟨?_, fun x hx => ?_, ?_⟩, hB.step (bW3.step bs (P := fun k => k = M ∨ k = TB + 1 ∨ some k = LV.ownBlock) (fun k _ x => .inr (.inl x))) (fun k hk x => ?_), bW3.step bs (fun k _ x => .inr (.inl x))⟩
  · rw [List.length_append, List.map_append]
    exact own_but ho bs (fun k hk x => own_ne ho hL3 (by decide) (x ▸ hk))
  · rcases List.mem_append.1 hx with hx | hx
    · have ox := hG.own x hx
      have o1 := own_but ox h1 (fun k hk y => own_ne ox hM (by decide) (y ▸ hk))
      have o2 := own_but o1 h2 (fun k hk y => by have := hbe k y; have := (own_heap ox k hk).2.1; omega)
      have o3 := own_but o2 b3 (fun k hk y => by
        obtain ⟨_, _, cs, hl⟩ := own_heap hG.row k y.symm
        exact own_ne ox hl (by decide) hk)
      exact own_but o3 bs (fun k hk y => own_ne ox hL (by decide) (y ▸ hk))
    · obtain rfl := List.mem_singleton.1 hx
      have o2 := own_base (B' := X.heap.size) hv (fun k hk => by have := (own_heap hv k hk).1; omega)
      have o3 := own_but o2 b3 (fun k hk y => by have := hbl k y; have := (own_heap hv k hk).1; omega)
      exact own_but o3 bs (fun k hk y => by have := (own_heap hv k hk).1; omega)
  · refine List.pairwise_append.2 ⟨hG.sep, by simp, fun a ha b hb => ?_⟩
    obtain rfl := List.mem_singleton.1 hb
    intro k hk hk2
    have := (own_heap (hG.own a ha) k hk).2.1
    have := (own_heap hv k hk2).1
    omega
  · rcases x with x | x | x
    · exact .inl x
    · exact .inr x
    · have := hbl k x; omega
theorem keeps_of {P : Nat → Prop} {B : Nat} {W W' : World} (h : But P W W') (hp : ∀ k, B ≤ k → P k → ∃ cs t, Lies W k t cs) : KeepsFrom B W W' :=
  ⟨h.size, fun k o hB hk ho => by
    have hlt : k < W.heap.size := (Array.getElem?_eq_some_iff.1 hk).1
    rw [h.block k hlt (fun x => ?_)]
    · exact hk
    · obtain ⟨cs, t, hl⟩ := hp k hB x
      unfold Lies at hl
      rw [hl] at hk
      injection hk with hk
      subst hk
      cases ho⟩
set_option maxRecDepth 100000 in
theorem wpListIn_app_slice {F : Fence} {nF : Nat} {w : World} {ops : Array Oper} {rest : List Oper} {o : Oper} {a : Act} {Q : Exit → Act → World → Prop} (hgd : o.guard = none) (s x : Operand)
    (ho : o.op = .call { callee := .builtin .append, args := #[s, x], argTypes := #[23, 23] }) (B g : Nat) (u v : Value) (n : Nat) (xs : List Value) (hs : a.eval s = v) (hown : w.ownsRow B 33 1 v n xs) (hx : a.eval x = .slice (some ⟨g, 0, none⟩) 1 1) (hg : Lies w g 33 #[u]) (hu : u.oneCell' = true)
    (hb : n ≤ 1000000) (hbase : B ≤ w.heap.size)
    (h : ∀ GB cap w', w'.ownsRow B 33 1 (.slice (some ⟨GB, 0, none⟩) (n + 1) cap) (n + 1) (xs ++ [u]) → w.grownBy w' v.ownBlock → ((Value.slice (some ⟨GB, 0, none⟩) (n + 1) cap).ownBlock = v.ownBlock ∨ (Value.slice (some ⟨GB, 0, none⟩) (n + 1) cap).ownBlock = some w.heap.size) → wpListIn F nF Tryz.prog ops Q rest (a.put o.dst (.slice (some ⟨GB, 0, none⟩) (n + 1) cap)) w') : wpListIn F nF Tryz.prog ops Q (o :: rest) a w := by
  obtain ⟨i0, hi, hz0, hz1, hz2⟩ := info_parts list_info
  refine wpListIn_append_own_at w hgd s x 23 ho B 33 i0 (.slice none 0 0) 1 24 Tryz.underlying23 hi hz0 hz1 hz2 rfl (by decide) v n xs hs hown ⟨g, 0, none⟩ 1 1 [u] hx (by simp) (fun j y hj => by
    match j, hj with
    | 0, hj => injection hj with hj; subst hj; exact lies_cell hg 0
    | j + 1, hj => simp at hj) (fun y hy => by simp at hy; subst hy; exact hu) (by unfold maxLen; omega) (by omega) hbase (fun v' w' h1 h2 _ h3 => by
    obtain ⟨GB, cap, rfl, _⟩ := World.ownsRow.form h1 (by omega)
    exact h GB cap w' h1 h2 h3)
/-- what groups tells -/
def GpsE (G : Gr) (w : World) (e : Ending) (w' : World) : Prop := ∃ A C es, e = .returned (.slice A es.length C) ∧ Groups G (es.map Ent.r) ∧ Grps w' w.heap.size (.slice A es.length C) es ∧ Below w.heap.size w w'
theorem back_in (n : Nat) (A : Option Addr) (k c : Nat) (w : World) :
    CallsIn .wide n Tryz.prog 52 #[.slice A k c] w fun e w' => e = .returned (.func (.func 75) #[] #[.pointer (some ⟨w.heap.size, 0, none⟩)]) ∧ w' = w.alloc (.cells #[.slice A k c] 33) := by
  refine callsIn_of_wp Tryz.func52 rfl trivial ?_ rfl
  simp only [Tryz.ntmps52, List.size_toArray, List.length_cons, List.length_nil, Nat.reduceAdd, Nat.reduceSub, Array.replicate_succ, Array.replicate_zero, List.push_toArray, List.append_toArray, List.nil_append, List.cons_append]
  gi_wp2
  go_ret
  exact ⟨rfl, rfl⟩
attribute [local go_sem] Oper.semAt_some
set_option maxRecDepth 100000 in
set_option maxHeartbeats 8000000 in
theorem groups_in (nn : Nat) (hnn : 4 ≤ nn) (LA : Option Addr) (lc : Nat) (G : Gr) (hG : Ok G) (hn : G.length ≤ 1024) (hg : ∀ l ∈ G, l.length ≤ 1024) (w : World) (hL : LsAt w LA (zg G)) :
    CallsIn .wide nn Tryz.prog 30 #[.slice LA G.length lc] w (GpsE G w) := by
  have h1 : 1 ≤ nn := by omega
  obtain ⟨n, hnn2⟩ : ∃ n, n = G.length := ⟨_, rfl⟩
  have mk := mk_marks w G.length (by omega)
  have A0 : GpA w G 0 (.slice none 0 0) [] (List.replicate G.length false) (((w.alloc (.cells (bRow (List.replicate G.length false)) 4)).alloc (.cells #[.slice (some ⟨w.heap.size, 0, none⟩) G.length G.length] 70))) := by
    have s1 : (w.alloc (.cells (bRow (List.replicate G.length false)) 4)).heap.size = w.heap.size + 1 := by simp
    have l2 := lies_new (w.alloc (.cells (bRow (List.replicate G.length false)) 4)) 70 #[.slice (some ⟨w.heap.size, 0, none⟩) G.length G.length]
    rw [s1] at l2
    exact ⟨lies_alloc (lies_new _ _ _) _, l2, ownI_nil _ _, ((Below.refl _ w).alloc (Nat.le_refl _) _).alloc (by simp) _, by simp, j_empty G, fun v hv => by omega⟩
  have HA := Lib.hid A0
  have HL := Lib.hid hL
  have HG := Lib.hid hG
  have HGL := Lib.hid hg
  have HN := Lib.hid hnn2
  rw [← hnn2] at mk hn ⊢
  clear A0 hL hG hg hnn2
  refine callsIn_of_wp_marks Tryz.func30 rfl trivial ?_ rfl
  simp only [Tryz.ntmps30, List.size_toArray, List.length_cons, List.length_nil, Nat.reduceAdd, Nat.reduceSub, Array.replicate_succ, Array.replicate_zero, List.push_toArray, List.append_toArray, List.nil_append, List.cons_append]
  refine wpIn_wide.2 ?_
  go_upto_region 3 with (fail)
  have XE := Lib.hid (show GpA w G 0 (.slice none 0 0) [] (List.replicate G.length false) ((w.alloc (.cells (bRow (List.replicate n false)) 4)).alloc (.cells #[.slice (some ⟨w.heap.size, 0, none⟩) n n] 70)) by have := HA.out; rw [← HN.out] at this ⊢; exact this)
  clear HA mk
  generalize (w.alloc (.cells (bRow (List.replicate n false)) 4)).alloc (.cells #[.slice (some ⟨w.heap.size, 0, none⟩) n n] 70) = X at *
  go_upto_region 4 with (fail)
  go_loopw [4, 16] (fun v4 v16 wr => ∃ (i : Nat) (F : List Nat) (m : List Bool), i ≤ n ∧ v16 = .int .i64 (i : Int) ∧ GpA w G i v4 F m wr) (fun _ v16 _ => n - (intOf v16).toNat)
  case atStart => exact ⟨0, [], _, Nat.zero_le _, rfl, XE.out⟩
  case round =>
    obtain ⟨i, F, m, hi, rfl, hA⟩ := hrel
    have HA := Lib.hid hA
    have b0 := lies_cell hA.box 0
    simp only [List.getElem?_toArray, List.getElem?_cons_zero] at b0
    rw [← HN.out] at b0
    clear hA
    by_cases hlt : i < n
    · have li : (i : Int) < (n : Int) := by omega
      have K := Lib.hid (show Calls Tryz.prog 50 #[.slice LA n lc, .int .i64 (i : Int), .slice (some ⟨w.heap.size, 0, none⟩) n n] wr (DownE G m i w.heap.size wr) by
        have := down_any LA lc G HG.out F m HA.out.j (by have := HN.out; omega) i (by have := HN.out; omega) w.heap.size G.length wr (lsAt_below HL.out HA.out.low) HA.out.mks
        rw [← HN.out] at this
        exact this)
      have LB := Lib.hid (show (zs F).length ≤ 100000000 by have := gpA_len HA.out; have := HN.out; rw [zs_len]; omega)
      go_wp2_with (first
        | (go_at_call 50; (with_reducible refine K.out.mono ?_); rintro e w1 ⟨A, C, l, m', rfl, hO, hM, hB, hD⟩; have HM1 := Lib.hid hM; have HB1 := Lib.hid hB; have HD1 := Lib.hid hD; have I1 := Lib.hid (ownI_ints hO).2; have O1 := Lib.hid (own_but HA.out.own hB (fun k hk x => own_ne HA.out.own HA.out.mks (by decide) (x ▸ hk))); have SZ1 := Lib.hid (Nat.le_trans HA.out.sz hB.size); have LB2 := Lib.hid (show (zs l).length ≤ 100000000 by have := down_len HG.out HA.out.j hD; have := HN.out; rw [zs_len]; omega); clear hO hM hB hD)
        | (refine wpList_app_list rfl _ _ rfl (w.heap.size + 2) u4 (zs F) rfl O1.out A l.length C (zs l) (zs_len l).symm rfl I1.out LB.out LB2.out SZ1.out ?_; intro v' w2 h1 h2; have A2 := Lib.hid (gpA_step HG.out HA.out (by have := HN.out; omega) (e := .returned v') (A := A) (C := C) HM1.out HB1.out HD1.out h1 h2); clear h1 h2))
      go_roundw
      case rel => exact ⟨i + 1, _, _, by omega, by go_num, A2.out⟩
      case measure => first | (simp [intOf]; done) | (simp [intOf]; omega)
    · obtain rfl : i = n := by omega
      have li : ¬ (i : Int) < (i : Int) := by omega
      have HALL := Lib.hid (show ∀ v, v < G.length → v ∈ F from fun v hv => HA.out.all v (by have := HN.out; omega))
      have HFL := Lib.hid (gpA_len HA.out)
      go_upto_region 8 with (fail)
      obtain ⟨w1, hcl, hM1, hB1⟩ := run_clear_marks wr 0 w.heap.size i m HA.out.mks (by have := HA.out.j.len; have := HN.out; omega)
      have M1 := Lib.hid hM1
      have B1 := Lib.hid hB1
      have S1 := Lib.hid (show w.heap.size + 2 ≤ w1.heap.size from Nat.le_trans HA.out.sz hB1.size)
      have L1 := Lib.hid (show LsAt w1 LA (zg G) from lsAt_but (lsAt_below HL.out HA.out.low) hB1 (fun k _ e o z hc => by subst e; obtain ⟨b, e⟩ := marks_cell HA.out.mks o _ hc; cases e) (fun k _ e o _ _ _ hc => by subst e; obtain ⟨b, e⟩ := marks_cell HA.out.mks o _ hc; cases e))
      have BX1 := Lib.hid (hB1.lies HA.out.box (show ¬ w.heap.size + 1 = w.heap.size by omega))
      have OF1 := Lib.hid (own_but HA.out.own hB1 (fun k hk x => own_ne HA.out.own HA.out.mks (by decide) (x ▸ hk)))
      have LO1 := Lib.hid (HA.out.low.trans (hB1.below (B := w.heap.size) (by have := HA.out.sz; omega) (fun k hk => by omega)))
      clear hM1 hB1
      go_upto_region 9 with (fail)
      clear hcl
      have KT := Lib.hid (show Calls Tryz.prog 51 #[.slice LA i lc] w1 fun e w' => e = .returned (.slice (some ⟨w1.heap.size, 0, none⟩) i i) ∧ TurnE G w1 w' by
        have := turned_any LA lc G HG.out (by have := HN.out; omega) HGL.out w1 L1.out
        rw [← HN.out] at this
        exact this)
      go_upto_region 10 with (go_at_call 51; (with_reducible refine KT.out.mono ?_); rintro e w2 ⟨rfl, T, vs, hT, hTM⟩; have HT := Lib.hid hT; have HTM := Lib.hid hTM; clear hT hTM)
      obtain ⟨FA, FC, hFA⟩ := own_slice OF1.out
      rw [zs_len] at hFA
      subst hFA
      have FX := Lib.hid (gpX_of S1.out LO1.out (by have := M1.out; rw [HN.out] at this; exact this) BX1.out OF1.out HTM.out HT.out)
      have KB := Lib.hid (fun W => (callsIn_wide (n := nn)).1 (back_in nn FA F.length FC W))
      clear li hi hlt b0
      go_wp2_with (go_at_call 52; (with_reducible refine (KB.out _).mono ?_); rintro e w4 ⟨rfl, rfl⟩)
      have hin := HN.out
      subst hin
      have HJA := Lib.hid HA.out.j
      have HFA := Lib.hid (show ∀ v ∈ F, v < G.length from fun v hv => HA.out.j.lt v (.inl hv))
      clear KB KT HTM OF1 HA M1 B1 S1 L1 BX1 LO1
      generalize hXe : ((w2.alloc (.cells #[.slice (some ⟨w1.heap.size, 0, none⟩) G.length G.length] 23)).alloc (.cells #[.slice none 0 0] 23)).alloc (.cells #[.slice FA F.length FC] 33) = Y at *
      clear hXe
      have II := Lib.hid (show GpB Y w.heap.size w2.heap.size G T F [] Y from
        ⟨[], List.replicate G.length false, [], .slice none 0 0, by have := j_empty T; rwa [HT.out.len] at this, FX.out.mks, FX.out.gb, ⟨World.ownsRow_nil _ _ _ _, (fun e he => by cases he), .nil⟩, .refl _ _, Nat.le_refl _, (fun e he => by cases he), fun _ => pb_0 HT.out F⟩)
      refine (wpIn_wide (n := nn)).1 ?_
      refine wpIn_rangeFunc_ownG rfl h1 (gf := 75) (lb := #[.pointer (some ⟨w2.heap.size + 1 + 1, 0, none⟩)]) rfl trivial (enters_of Tryz.func75 (by kernel_rfl) rfl)
        (back_stops (nn - 1) (by omega) F (by have := HFL.out; omega) (w2.heap.size + 1 + 1) FC FA (fun k => k < Y.heap.size ∧ k ≠ w.heap.size ∧ k ≠ w2.heap.size + 1) Y (lies_cell FX.out.kb 0) ⟨by have := FX.out.sz; omega, by have := FX.out.tm; omega, by omega⟩ (fun k hk => hk.1) FX.out.fi (fun b o e _ => by have := FX.out.fb b o e; have := FX.out.sz; exact ⟨by omega, by omega, by omega⟩)) kq_t (kq_b (fun k hk => hk.1)) (Below.refl _ _) (fun _ => rfl)
        (GpB Y w.heap.size w2.heap.size G T F) (fun _ _ _ => False) (gpB_from Y w.heap.size w2.heap.size G T F) (fun _ _ _ _ _ hs _ _ => hs) II.out
        (fun x => { tmps := List.toArray ((.slice LA G.length lc) :: undef :: (.slice none 0 0) :: (.pointer (some ⟨w.heap.size + 1, 0, none⟩)) :: (.slice FA F.length FC) :: u5 :: (.pointer (some ⟨w2.heap.size, 0, none⟩)) :: (.pointer (some ⟨w2.heap.size + 1, 0, none⟩)) :: undef :: (.int .i64 (F[x.1] : Int)) :: undef :: (.slice LA G.length lc) :: (.int .i64 (G.length : Int)) :: (.slice (some ⟨w.heap.size, 0, none⟩) G.length G.length) :: (.slice LA G.length lc) :: (.int .i64 (G.length : Int)) :: (.int .i64 (G.length : Int)) :: (.bool false) :: u18 :: u19 :: u20 :: u21 :: u22 :: u23 :: u24 :: u25 :: (.slice (some ⟨w.heap.size, 0, none⟩) G.length G.length) :: (.slice LA G.length lc) :: (.slice (some ⟨w1.heap.size, 0, none⟩) G.length G.length) :: (.slice FA F.length FC) :: (.func (.func 75) #[] #[.pointer (some ⟨w2.heap.size + 1 + 1, 0, none⟩)]) :: (.int .i64 (x.1 : Int)) :: (.int .i64 (F[x.1] : Int)) :: undef :: undef :: undef :: undef :: undef :: undef :: undef :: undef :: undef :: undef :: undef :: undef :: undef :: undef :: undef :: undef :: []), defers := [] })
        ?assign ?body ?done ?stop
      case assign =>
        intro l x W K hK
        dsimp only [encF]
        gi_wp2
        exact hK
      case body =>
        rintro lp pre x W ⟨F2, m2, es, LV, hJ, hM, hLb, hGr, hBt, hlen, hrl, hPB⟩ hlt
        obtain ⟨fx, hfx⟩ : ∃ fx, fx = F[x.1] := ⟨_, rfl⟩
        have HFX := Lib.hid hfx
        have hfn : fx < G.length := by rw [hfx]; exact HFA.out _ (List.getElem_mem _)
        have bx := lies_cell (hBt.lies FX.out.box (by have := FX.out.tm; omega)) 0
        have tx := lies_cell (hBt.lies FX.out.tb (by have := FX.out.tm; omega)) 0
        have lx := lies_cell hLb 0
        simp only [List.getElem?_toArray, List.getElem?_cons_zero] at bx tx lx
        have KD := Lib.hid (show Calls Tryz.prog 50 #[.slice (some ⟨w1.heap.size, 0, none⟩) G.length G.length, .int .i64 (fx : Int), .slice (some ⟨w.heap.size, 0, none⟩) G.length G.length] W (DownE T m2 fx w.heap.size W) by
          have := down_any (some ⟨w1.heap.size, 0, none⟩) G.length T (ok_turned HT.out) F2 m2 (by rw [HT.out.len]; exact hJ) (by rw [HT.out.len]; omega) fx (by rw [HT.out.len]; exact hfn) w.heap.size G.length W (gpX_ls FX.out hBt) hM
          rw [HT.out.len] at this
          exact this)
        have HI := Lib.hid (show GpB Y w.heap.size w2.heap.size G T F pre W from ⟨F2, m2, es, LV, hJ, hM, hLb, hGr, hBt, hlen, hrl, hPB⟩)
        have HJ := Lib.hid hJ
        have HM := Lib.hid hM
        have HLb := Lib.hid hLb
        have HGr := Lib.hid hGr
        have HBt := Lib.hid hBt
        have Hlen := Lib.hid hlen
        have Hrl := Lib.hid hrl
        have HPB := Lib.hid hPB
        have Hlt := Lib.hid hlt
        rw [← hfx]
        clear hfx hJ hM hLb hGr hBt hlen hrl hPB hlt
        have hn1 : 1 ≤ nn - 1 - 1 := by omega
        gi_upto_region 14 with (refine ⟨trivial, ?_⟩; gi_at_call 50; refine (CallsIn.inRound lp (callsIn_wide.2 KD.out)).mono ?_; rintro e w5 ⟨A, C, l, m', rfl, hO, hM1, hB1, hD⟩; have O5 := Lib.hid hO; have M5 := Lib.hid hM1; have B5 := Lib.hid hB1; have D5 := Lib.hid hD; clear hO hM1 hB1 hD)
        rcases D5.out with ⟨hmk, hl0, hmm⟩ | ⟨hun, hfd⟩
        · subst hl0 hmm
          have HMK := Lib.hid hmk
          clear hmk
          gi_wp2
          refine ⟨keeps_of B5.out (fun k hB hk => absurd hB (by have := FX.out.tm; have := FX.out.sz; omega)), ⟨fun k hk => B5.out.block k (Nat.lt_of_lt_of_le hk.1 HBt.out.size) hk.2.1, B5.out.size⟩, ?_⟩
          exact gpB_skip (by have := FX.out.tm; have := FX.out.sz; omega) (by have := FX.out.tm; omega) HJ.out HM.out HLb.out HGr.out HBt.out Hlen.out Hrl.out HPB.out Hlt.out B5.out M5.out (by rw [← HFX.out]; exact HMK.out)
        · have hJ2 := fnd_of (ok_turned HT.out) (by rw [HT.out.len]; exact HJ.out) hfd
          have hnd : l.Nodup := by
            have := hJ2.1.nd
            rw [List.append_nil] at this
            exact (List.nodup_append.1 this).2.1
          obtain ⟨hsp, hsl, hsz, hsn⟩ := srtN_of l hnd
          have hl0 : 0 < l.length := List.length_pos_of_mem hJ2.2.1
          have hlG : l.length ≤ G.length := by have := nodup_bound G.length l hnd (fun v hv => by have := hJ2.1.lt v (.inl (List.mem_append_right _ hv)); rw [HT.out.len] at this; exact this); exact this
          have KS := Lib.hid (show Calls Tryz.prog 53 #[.slice A l.length C] w5 fun e w' => e = .returned (.tuple #[]) ∧ OwnI w' W.heap.size (.slice A l.length C) (sortZ (zs l)) ∧ But (fun k => some k = (Value.slice A l.length C).ownBlock) w5 w' by
            have := sortI_any W.heap.size A C (zs l) w5 (by rw [zs_len]; exact O5.out) (by rw [zs_len]; exact hl0) (by rw [zs_len]; omega)
            rw [zs_len] at this
            exact this)
          have HUN := Lib.hid hun
          have HFD := Lib.hid hfd
          have HSP := Lib.hid hsp
          have HSL := Lib.hid hsl
          have HSZ := Lib.hid hsz
          have HSN := Lib.hid hsn
          have HLG := Lib.hid hlG
          have hl1 : (0 : Int) < (l.length : Int) := by omega
          obtain ⟨ln, hln⟩ : ∃ ln, ln = l.length := ⟨_, rfl⟩
          rw [← hln] at KS hl1 ⊢
          have HLN := Lib.hid hln
          clear hun hfd hsp hsl hsz hsn hJ2 hnd hl0 hlG hln
          gi_upto_region 16 with (refine ⟨trivial, ?_⟩; gi_at_call 53; refine (CallsIn.inRound lp (callsIn_wide.2 KS.out)).mono ?_; rintro e w6 ⟨rfl, hO6, hB6⟩; have O6 := Lib.hid hO6; have B6 := Lib.hid hB6; clear hO6 hB6)
          have erv : Ent.rv ⟨0, A, srtN l, C⟩ = .slice A ln C := by unfold Ent.rv; rw [HSN.out, HLN.out]
          have OE := Lib.hid (show OwnI w6 W.heap.size (Ent.rv ⟨0, A, srtN l, C⟩) (zs (srtN l)) by rw [erv, HSZ.out]; exact O6.out)
          have BE := Lib.hid (show But (fun k => some k = (Ent.rv ⟨0, A, srtN l, C⟩).ownBlock) w5 w6 by rw [erv]; exact B6.out)
          have ER := Lib.hid erv
          have hMX : w.heap.size < Y.heap.size := by have := FX.out.tm; have := FX.out.sz; omega
          have hTX : w2.heap.size + 1 < Y.heap.size := by have := FX.out.sz; omega
          have hMT : w.heap.size ≠ w2.heap.size + 1 := by have := FX.out.tm; omega
          have hbe : ∀ k, some k = (Ent.rv ⟨0, A, srtN l, C⟩).ownBlock → W.heap.size ≤ k := fun k hk => (own_heap OE.out k hk.symm).1
          have hWs := HBt.out.size
          have L6 := BE.out.lies (B5.out.lies HLb.out (fun x => hMT x.symm)) (fun y => by have := hbe _ y; omega)
          have l6 := lies_cell L6 0
          simp only [List.getElem?_toArray, List.getElem?_cons_zero] at l6
          have R5 := own_but HGr.out.row B5.out (fun k hk y => own_ne HGr.out.row HM.out (by decide) (y ▸ hk))
          have R6 := Lib.hid ((own_but R5 BE.out (fun k hk y => by have := hbe k y; have := (own_heap HGr.out.row k hk).2.1; omega)).alloc (.cells #[.slice A ln C] 33))
          have N6 := Lib.hid (lies_new w6 33 #[.slice A ln C])
          have S6 := Lib.hid (show Y.heap.size ≤ (w6.alloc (.cells #[.slice A ln C] 33)).heap.size by have := B5.out.size; have := BE.out.size; simp; omega)
          have HES := Lib.hid (show es.length ≤ 1000000 by have := Hlen.out; have := Hlt.out; have := HFL.out; omega)
          have HC := Lib.hid (And.intro hMX (And.intro hTX hMT))
          have GMH := Lib.hid (fun (v' : Value) (w7 : World) (g1 : w7.ownsRow Y.heap.size 33 1 v' (es.length + 1) (es.map Ent.rv ++ [.slice A ln C])) (g2 : (w6.alloc (.cells #[.slice A ln C] 33)).grownBy w7 LV.ownBlock) (g3 : v'.ownBlock = LV.ownBlock ∨ v'.ownBlock = some (w6.alloc (.cells #[.slice A ln C] 33)).heap.size) =>
            gp_more (X := Y) (W := W) (w1 := w5) (w2 := w6) (w3 := w7) (v' := v') (e := ⟨0, A, srtN l, C⟩) hMX hTX hMT HM.out HLb.out HGr.out HBt.out B5.out M5.out OE.out BE.out g2 (by rw [erv]; exact g1) g3)
          clear erv hMX hTX hMT hbe hWs L6 R5
          gi_wp2_with (refine wpListIn_app_slice rfl _ _ rfl Y.heap.size w6.heap.size (.slice A ln C) LV es.length (es.map Ent.rv) rfl R6.out rfl N6.out rfl HES.out S6.out ?_; intro GB GC w7 g1 g2 g3; have GM := GMH.out _ w7 g1 g2 g3; have c7 := lies_cell GM.1 0; have f7 := lies_free GM.1 0; simp only [List.getElem?_toArray, List.getElem?_cons_zero] at c7; have GE := Lib.hid (GM.2 _ rfl); clear GM g1 g2 g3)
          obtain ⟨k1, k2, k3, k4, k5⟩ := GE.out
          refine ⟨keeps_of k5 (fun k hB hk => ?_), ⟨fun k hk => k5.block k (Nat.lt_of_lt_of_le hk.1 HBt.out.size) (fun y => ?_), k5.size⟩, ?_⟩
          · rcases hk with hk | hk | hk
            · have := HC.out.1; omega
            · have := HC.out.2.1; omega
            · obtain ⟨_, _, cs, hl⟩ := own_heap HGr.out.row k hk.symm
              exact ⟨cs, _, hl⟩
          · rcases y with y | y | y
            · exact hk.2.1 y
            · exact hk.2.2 y
            · have := (own_heap HGr.out.row k y.symm).1
              have := hk.1
              omega
          · refine ⟨F2 ++ l, m', es ++ [⟨0, A, srtN l, C⟩], _, ?_, k1, k2, k3, k4, ?_, ?_, fun he => ?_⟩
            · have := (fnd_of (ok_turned HT.out) (by rw [HT.out.len]; exact HJ.out) HFD.out).1
              rwa [HT.out.len] at this
            · rw [List.length_append, List.length_append]; have := Hlen.out; simp; omega
            · intro e he
              rcases List.mem_append.1 he with he | he
              · exact Hrl.out e he
              · obtain rfl := List.mem_singleton.1 he
                show (srtN l).length ≤ _
                rw [HSN.out]; exact HLG.out
            · obtain ⟨h2, h3⟩ := bk_snoc Hlt.out he
              have hpb := HPB.out h2
              rw [List.length_append, List.map_append]
              have efx : fx = F[F.length - 1 - pre.length]'(by have := Hlt.out; omega) := by rw [HFX.out]; congr 1
              refine pb_step HT.out HJA.out HALL.out hpb Hlt.out (l := l) (g := srtN l) (by rw [← efx]; exact HFD.out) (by rw [← efx]; exact HUN.out) HSP.out HSL.out
      case done =>
        rintro D ys W hD rfl ⟨F2, m2, es, LV, hJ, hM, hLb, hGr, hBt, hlen, hrl, hPB⟩ hK
        rw [bk_len _ _ (Nat.le_refl _)] at hlen hPB
        have HPB := Lib.hid (hPB rfl)
        obtain ⟨LA2, LC2, hLV⟩ := own_slice hGr.row
        subst hLV
        have l0 := lies_cell hLb 0
        simp only [List.getElem?_toArray, List.getElem?_cons_zero] at l0
        have KS := Lib.hid (sortL_any Y.heap.size LA2 LC2 es W hGr (by have := HFL.out; omega) (fun e he => by have := hrl e he; omega))
        have HGr := Lib.hid hGr
        have HLb := Lib.hid hLb
        have HBt := Lib.hid hBt
        have HD := Lib.hid hD
        have HK := Lib.hid hK
        clear hJ hM hLb hGr hBt hlen hrl hPB hD hK
        go_step
        go_step
        go_step
        go_upto_region 18 with (go_at_call 54; (with_reducible refine KS.out.mono ?_); rintro e w8 ⟨rfl, es', hp, hs, hG8, hB8⟩; have HP8 := Lib.hid hp; have HS8 := Lib.hid hs; have HG8 := Lib.hid hG8; have HB8 := Lib.hid hB8; have l8 := lies_cell (hB8.lies HLb.out (fun y => own_ne HGr.out.row HLb.out (by decide) y.symm)) 0; simp only [List.getElem?_toArray, List.getElem?_cons_zero] at l8; clear hp hs hG8 hB8)
        go_wp2
        have hK8 : w8.heap[D]? = some (.deferred (some [])) := (HB8.out.block D (Array.getElem?_eq_some_iff.1 HK.out).1 (fun y => by
          obtain ⟨_, _, cs, hl⟩ := own_heap HGr.out.row D y.symm
          have := HK.out
          unfold Lies at hl
          rw [hl] at this
          cases this)).trans HK.out
        refine ⟨by simp, .inl ⟨_, _, rfl, run_takeDeferred hK8, ?_⟩⟩
        refine ⟨.slice LA2 es.length LC2, by simp [results, Tryz.f30, go_sem], LA2, LC2, es', ?_, ?_, ?_, ?_⟩
        · rw [HP8.out.length_eq]
        · exact groups_of (F := F) (by exact HPB.out) HALL.out (HP8.out.map Ent.r) (List.pairwise_map.2 (HS8.out.imp (fun h => by omega)))
        · have hg := grownBy_putObj' w8 D (.deferred none)
          have hr : ∀ r, some D = some r → Y.heap.size ≤ r ∧ ∃ o : Obj, w8.heap[r]? = some o ∧ o.isCells = false := fun r e => by cases e; exact ⟨HD.out, _, hK8, rfl⟩
          have hb : ∀ {v : Value} {n : Nat} {xs : List Value} {e : TypeId}, w8.ownsRow Y.heap.size e 1 v n xs → (w8.putObj D (.deferred none)).ownsRow w.heap.size e 1 v n xs := fun h => by
            have h2 := own_from h hg hr
            exact own_base h2 (fun k hk => by have := (own_heap h2 k hk).1; have := FX.out.tm; have := FX.out.sz; omega)
          refine ⟨?_, fun e he => hb (HG8.out.own e he), HG8.out.sep⟩
          have := hb HG8.out.row
          rwa [← HP8.out.length_eq] at this
        · have hg : But (fun k => some k = some D) w8 (w8.putObj D (.deferred none)) := But.grown (grownBy_putObj' w8 D (.deferred none))
          have h1 := FX.out.low.trans (HBt.out.below (B := w.heap.size) (by have := FX.out.tm; have := FX.out.sz; omega) (fun k hk => by have := FX.out.tm; omega))
          have h2 := h1.trans (HB8.out.below (B := w.heap.size) h1.size (fun k hk => by have := (own_heap HGr.out.row k hk.symm).1; have := FX.out.tm; have := FX.out.sz; omega))
          exact h2.trans (hg.below (B := w.heap.size) h2.size (fun k hk => by injection hk with hk; have := HD.out; have := FX.out.tm; have := FX.out.sz; omega))
      case stop =>
        rintro D c pre W _ _ h _
        exact h.elim
theorem groups_any (LA : Option Addr) (lc : Nat) (G : Gr) (hG : Ok G) (hn : G.length ≤ 1024) (hg : ∀ l ∈ G, l.length ≤ 1024) (w : World) (hL : LsAt w LA (zg G)) :
    Calls Tryz.prog 30 #[.slice LA G.length lc] w (GpsE G w) :=
  (callsIn_wide (n := 4)).1 (groups_in 4 (by omega) LA lc G hG hn hg w hL)
end Go.Proofs.YtpddamloajpiiaaGreatDoor

/-
What is proved here: package comp's Components, by a contract.
-/
set_option linter.unusedSimpArgs false
set_option linter.unusedVariables false
namespace Go.Proofs.YtpddamloajpiiaaGreatDoor
open Go.Cmp Go.RowKit
/-- the components, each behind those that it needs, and otherwise by their least numbers -/
structure Cmps (G : Gr) (S T : List (List Nat)) (out : List Nat) : Prop where
  grp : Groups G S
  ask : AskT G S T
  turn : InTurn T S.length out
  all : ∀ g, g < S.length → g ∈ out
  nd : out.Nodup
theorem len_sub : ∀ (l m : List Nat), l.Nodup → (∀ x ∈ l, x ∈ m) → l.length ≤ m.length
  | [], m, _, _ => Nat.zero_le _
  | a :: t, m, h, hs => by
    obtain ⟨h1, h2⟩ := List.nodup_cons.1 h
    have ha := hs a (by simp)
    have := len_sub t (m.erase a) h2 (fun x hx => (List.mem_erase_of_ne (fun (e : x = a) => h1 (by rw [← e]; exact hx))).2 (hs x (List.mem_cons_of_mem _ hx)))
    rw [List.length_erase_of_mem ha] at this
    have := List.length_pos_of_mem ha
    simp only [List.length_cons]
    omega
theorem cmps_lt {G : Gr} {S T : List (List Nat)} {out : List Nat} (h : Cmps G S T out) : ∀ k ∈ out, k < S.length := fun k hk => by
  obtain ⟨p, s, e⟩ := List.append_of_mem hk
  exact (h.turn p k s e).1
theorem cmps_len {G : Gr} {S T : List (List Nat)} {out : List Nat} (h : Cmps G S T out) : out.length = S.length := by
  refine Nat.le_antisymm (nodup_bound _ _ h.nd (cmps_lt h)) ?_
  have := len_sub (List.range S.length) out List.nodup_range (fun x hx => h.all x (List.mem_range.1 hx))
  simpa using this
def dE : Ent := ⟨0, none, [], 0⟩
theorem chk_ok {G : Gr} (hG : Ok G) (hn : G.length ≤ 1024) (hg : ∀ l ∈ G, l.length ≤ 1024) : chk (zg G) = 0 := by
  unfold chk
  have h1 : ¬ (1024 < (zg G).length ∨ (zg G).any longP = true) := by
    rintro (h | h)
    · simp at h; omega
    · obtain ⟨l, hl, h2⟩ := List.any_eq_true.1 h
      obtain ⟨l', hl', rfl⟩ := List.mem_map.1 hl
      have := hg l' hl'
      simp [longP, zs] at h2
      omega
  have h2 : ¬ (zg G).any (badP (zg G).length) = true := fun h => by
    obtain ⟨l, hl, h2⟩ := List.any_eq_true.1 h
    obtain ⟨l', hl', rfl⟩ := List.mem_map.1 hl
    unfold badP at h2
    obtain ⟨z, hz, h3⟩ := List.any_eq_true.1 h2
    obtain ⟨v, hv, rfl⟩ := List.mem_map.1 hz
    have := hG l' hl' v hv
    simp [noneP, zg] at h3
    omega
  rw [if_neg h1, if_neg h2]
theorem grps_pick {w2 w3 : World} {B : Nat} {A0 : Option Addr} {C0 : Nat} {es : List Ent} (h : Grps w2 B (.slice A0 es.length C0) es) (hb : Below w2.heap.size w2 w3) {A : Option Addr} {C : Nat} {out : List Nat} (hB : B ≤ w2.heap.size) (hlt : ∀ k ∈ out, k < es.length) (hnd : out.Nodup)
    (hrow : w3.ownsRow w2.heap.size 33 1 (.slice A out.length C) out.length (out.map fun k => (es.getD k dE).rv)) : Grps w3 B (.slice A (out.map fun k => es.getD k dE).length C) (out.map fun k => es.getD k dE) := by
  have hm : ∀ k, k < es.length → es.getD k dE ∈ es := fun k hk => by rw [List.getD_eq_getElem?_getD, List.getElem?_eq_getElem hk]; exact List.getElem_mem hk
  refine ⟨?_, fun e he => ?_, ?_⟩
  · rw [List.length_map, List.map_map]
    exact hrow.mono hB
  · obtain ⟨k, hk, rfl⟩ := List.mem_map.1 he
    exact own_but (h.own _ (hm k (hlt k hk))) (But.of_below (P := fun _ => False) hb) (fun _ _ h => h)
  · rw [List.pairwise_map]
    rw [List.nodup_iff_pairwise_ne] at hnd
    refine hnd.imp_of_mem (fun {a b} ha hb2 hne => ?_)
    have h1 := hlt a ha
    have h2 := hlt b hb2
    rw [List.getD_eq_getElem?_getD, List.getElem?_eq_getElem h1, List.getD_eq_getElem?_getD, List.getElem?_eq_getElem h2]
    have hp := List.pairwise_iff_getElem.1 h.sep
    rcases Nat.lt_or_gt_of_ne hne with h3 | h3
    · exact hp a b h1 h2 h3
    · exact apart_symm (hp b a h2 h1 h3)
/-- what Components tells of needs that are taken -/
def CpsE (G : Gr) (w : World) (e : Ending) (w' : World) : Prop := ∃ (A : Option Addr) (C : Nat) (es : List Ent) (T : Gr) (out : List Nat), e = .returned (.tuple #[.slice A out.length C, .int .i64 0]) ∧ Cmps G (es.map Ent.r) T out ∧ Grps w' w.heap.size (.slice A (out.map fun k => es.getD k dE).length C) (out.map fun k => es.getD k dE) ∧ Below w.heap.size w w'
set_option maxRecDepth 100000 in
set_option maxHeartbeats 2000000 in
theorem comps_any (LA : Option Addr) (lc : Nat) (G : Gr) (hG : Ok G) (hn : G.length ≤ 1024) (hg : ∀ l ∈ G, l.length ≤ 1024) (w : World) (hL : LsAt w LA (zg G)) :
    Calls Tryz.prog 17 #[.slice LA G.length lc] w (CpsE G w) := by
  have kc := check_any LA lc (zg G) w hL (by simp; omega) (fun l hl => by
    obtain ⟨l', hl', rfl⟩ := List.mem_map.1 hl
    have := hg l' hl'
    simp [zs]; omega)
  rw [chk_ok hG hn hg, show (zg G).length = G.length by simp [zg]] at kc
  have KC := Lib.hid kc
  have KG := Lib.hid (fun (W : World) (hb : Below w.heap.size w W) => groups_any LA lc G hG hn hg W (lsAt_below hL hb))
  have KO := Lib.hid (fun (W : World) (hb : Below w.heap.size w W) (B0 : Nat) (GA : Option Addr) (gc : Nat) (es : List Ent) (hS : Groups G (es.map Ent.r)) (hE : Grps W B0 (.slice GA es.length gc) es) => ordered_any B0 LA GA lc gc G es hG hS hn hg W (lsAt_below hL hb) hE)
  generalize G.length = n at *
  clear kc hL
  go_enter Tryz.func17, Tryz.ntmps17
  go_wp2_with (first
    | (go_at_call 28; (with_reducible refine KC.out.mono ?_); rintro e w1 ⟨rfl, hb⟩; have B1 := Lib.hid hb; have K1 := Lib.hid (KG.out w1 hb); clear hb)
    | (go_at_call 30; (with_reducible refine K1.out.mono ?_); rintro e w2 ⟨GA, gc, es, rfl, hS, hE, hb⟩; have B2 := Lib.hid hb; have HS := Lib.hid hS; have HE := Lib.hid hE; have K2 := Lib.hid (KO.out w2 (B1.out.trans (hb.mono B1.out.size)) _ GA gc es hS hE); clear hb hS hE)
    | (go_at_call 29; (with_reducible refine K2.out.mono ?_); rintro e w3 ⟨T, hT, A, C, out, rfl, h1, h2, h3, h4, h5⟩; have HT := Lib.hid hT; have H1 := Lib.hid h1; have H2 := Lib.hid h2; have H3 := Lib.hid h3; have H4 := Lib.hid h4; have H5 := Lib.hid h5; clear hT h1 h2 h3 h4 h5))
  go_ret2
  refine ⟨A, C, es, T, out, rfl, ⟨HS.out, HT.out, by rw [List.length_map]; exact H1.out, by rw [List.length_map]; exact H2.out, H3.out⟩, ?_, B1.out.trans ((B2.out.mono B1.out.size).trans (H5.out.mono (by have := B1.out.size; have := B2.out.size; omega)))⟩
  have := grps_pick HE.out H5.out (A := A) (C := C) (out := out) B2.out.size (fun k hk => by
    obtain ⟨p, s, e⟩ := List.append_of_mem hk
    exact (H1.out p k s e).1) H3.out H4.out
  exact ⟨this.row.mono B1.out.size, fun e he => (this.own e he).mono B1.out.size, this.sep⟩
end Go.Proofs.YtpddamloajpiiaaGreatDoor

/-
What is proved here: the library's DeleteFunc on components, by a contract; package comp's Round.
-/
set_option linter.unusedSimpArgs false
set_option linter.unusedVariables false
namespace Go.Proofs.YtpddamloajpiiaaGreatDoor
open Go.Cmp Go.RowKit Go.Sort Go.Shelf
/-- a component that the closure may look at while row g is written anew -/
structure DL (w : World) (g n : Nat) where
  e : Ent
  ok : IntsAt w e.A (zs e.r) ∧ (∀ b o, e.A = some ⟨b, o, none⟩ → b ≠ g) ∧ ∀ v ∈ e.r, v < n
instance (w : World) (g n : Nat) : Inhabited (DL w g n) := ⟨⟨⟨0, none, [], 0⟩, intsAt_nil _ _, (fun _ _ h => by cases h), fun v hv => by cases hv⟩⟩
def dlV {w : World} {g n : Nat} (x : DL w g n) : Value := x.e.rv
def dlP (G : Gr) {w : World} {g n : Nat} (x : DL w g n) : Bool := stillP G x.e.r
theorem del_any (B BB : Nat) (LA A : Option Addr) (lc C : Nat) (G : Gr) (es : List Ent) (w : World) (hg : ∀ l ∈ G, l.length ≤ 1024) (h : Grps w B (.slice A es.length C) es) (h0 : 0 < es.length) (hl : es.length ≤ 100000) (hr : ∀ e ∈ es, ∀ v ∈ e.r, v < G.length) (hB : B ≤ w.heap.size)
    (hw : ∀ W, Below B w W → LsAt W LA (zg G) ∧ Lies W BB 23 #[.slice LA G.length lc]) :
    Calls Tryz.prog 83 #[.slice A es.length C, .func (.func 81) #[] #[.pointer (some ⟨BB, 0, none⟩)]] w fun e w' => ∃ A' C', e = .returned (.slice A' (es.filter fun e => !stillP G e.r).length C') ∧ Grps w' B (.slice A' (es.filter fun e => !stillP G e.r).length C') (es.filter fun e => !stillP G e.r) ∧ Below B w w' := by
  obtain ⟨g, cap, hv, hBg, hgl⟩ := World.ownsRow.form h.row (by omega)
  injection hv with e1 e2 e3
  subst e1 e3
  obtain ⟨cs, hLg⟩ : ∃ cs, Lies w g 33 cs := (own_heap h.row g rfl).2.2
  have hok : ∀ e ∈ es, IntsAt w e.A (zs e.r) ∧ (∀ b o, e.A = some ⟨b, o, none⟩ → b ≠ g) ∧ ∀ v ∈ e.r, v < G.length := fun e he => by
    have ho := h.own e he
    refine ⟨(ownI_ints ho).2, fun b o hA hb => ?_, hr e he⟩
    subst hb
    exact own_ne ho hLg (by decide) (by unfold Ent.rv; rw [hA]; rfl)
  obtain ⟨d, hd⟩ : ∃ d : List (DL w g G.length), d.map (·.e) = es := ⟨es.attach.map fun e => ⟨e.1, hok e.1 e.2⟩, by rw [List.map_map]; exact List.attach_map_subtype_val es⟩
  have hdl : d.length = es.length := by have := congrArg List.length hd; rwa [List.length_map] at this
  have hsz : d.toArray.size = es.length := by simpa using hdl
  have hbut : ∀ (m : Nat) (os : Array Obj) (dk : Array (DL w g G.length)), But (· = g) w (sortWorld dlV w g 0 m dk os) := fun m os dk => but_put dk
  have hcon := AnyE.slices_DeleteFunc delF (dlV (w := w) (g := g) (n := G.length)) (fun _ => rfl) (dlP G) 81 #[.pointer (some ⟨BB, 0, none⟩)] (enters_of Tryz.func81 (by kernel_rfl) rfl) default (fun W => Tryz.zeroValue33 W) g 0 C d.toArray w
    (fun W x hW => by
      have hWB := hw W (hW.mono hB)
      exact still_any LA lc G hg BB x.e.A x.e.c x.e.r x.ok.2.2 W hWB.2 hWB.1 (intsAt_below x.ok.1 hW))
    (fun m os dk x hs => by
      have hb := hbut m os dk
      have hWB := hw _ (hb.below hB (fun k hk => by omega))
      exact still_any LA lc G hg BB x.e.A x.e.c x.e.r x.ok.2.2 _ hWB.2 hWB.1 (intsAt_off x.ok.1 hb x.ok.2.1))
    (fun j hj => by
      have hj' : j < d.length := by simpa using hj
      refine ⟨?_, h.row.frozenAt _⟩
      rw [Nat.zero_add, h.row.cellAt j (by omega)]
      have : (es.map Ent.rv)[j]? = some (dlV d[j]) := by
        rw [← hd, List.map_map, List.getElem?_map, List.getElem?_eq_getElem hj']
        rfl
      rw [this]
      simp [getElem!_pos d j hj']) (by omega) (by
        rw [hsz]
        rcases h.row.2 with ⟨h1, _⟩ | ⟨_, cap', _, h1, _, _, h2, _⟩
        · cases h1
        · injection h1 with _ _ h1; omega)
  rw [hsz] at hcon
  have hf : (d.toArray.toList.filter fun x => !dlP G x).map (·.e) = es.filter fun e => !stillP G e.r := by
    rw [show d.toArray.toList = d by simp]
    conv => rhs; rw [← hd]
    rw [List.filter_map]
    rfl
  have hfl : (d.toArray.toList.filter fun x => !dlP G x).length = (es.filter fun e => !stillP G e.r).length := by rw [← hf, List.length_map]
  refine (show Calls Tryz.prog 83 _ _ _ from hcon).mono ?_
  rintro e w' ⟨rfl, q, rfl⟩
  obtain ⟨F, hF⟩ : ∃ F, F = d.toArray.toList.filter fun x => !dlP G x := ⟨_, rfl⟩
  rw [← hF] at hf hfl ⊢
  have hFle : F.length ≤ es.length := by rw [hfl]; exact List.length_filter_le _ _
  have hw' : putRow dlV (Sort.ahead w q) g 0 (F ++ List.replicate (es.length - F.length) default).toArray = grow (putRow dlV (Sort.ahead w q) g 0 (F ++ List.replicate (es.length - F.length) default).toArray) #[] := (grow_empty _).symm
  rw [hw', ← hfl]
  have hO := own_less (n := 0) (own_put (enc := dlV (w := w) (g := g) (n := G.length)) (n := q) (os := #[]) (d := (F ++ List.replicate (es.length - F.length) default).toArray) h.row (by simp; omega)) hFle
  have hb : But (· = g) w (grow (putRow (dlV (w := w) (g := g) (n := G.length)) (Sort.ahead w q) g 0 (F ++ List.replicate (es.length - F.length) default).toArray) #[]) := but_put _
  refine ⟨_, _, rfl, ⟨?_, fun e he => ?_, ?_⟩, hb.below hB (fun k hk => by omega)⟩
  · rw [← hf, List.length_map, List.map_map]
    have e : ((F ++ List.replicate (es.length - F.length) (default : DL w g G.length)).toArray.toList.map dlV).take F.length = F.map dlV := by simp
    rw [e] at hO
    exact hO
  · have he2 : e ∈ es := (List.mem_filter.1 he).1
    exact own_but (h.own e he2) hb (fun k hk x => by subst x; exact own_ne (h.own e he2) hLg (by decide) hk)
  · exact h.sep.filter _
/-- what Round tells of needs that are taken -/
def RndE (G : Gr) (w : World) (e : Ending) (w' : World) : Prop := ∃ (A : Option Addr) (C : Nat) (es : List Ent), e = .returned (.tuple #[.slice A (es.filter fun e => !stillP G e.r).length C, .int .i64 0]) ∧ Groups G (es.map Ent.r) ∧ Grps w' w.heap.size (.slice A (es.filter fun e => !stillP G e.r).length C) (es.filter fun e => !stillP G e.r) ∧ Below w.heap.size w w'
set_option maxRecDepth 100000 in
set_option maxHeartbeats 2000000 in
theorem round_any (LA : Option Addr) (lc : Nat) (G : Gr) (hG : Ok G) (h0 : 0 < G.length) (hn : G.length ≤ 1024) (hg : ∀ l ∈ G, l.length ≤ 1024) (w : World) (hL : LsAt w LA (zg G)) :
    Calls Tryz.prog 58 #[.slice LA G.length lc] w (RndE G w) := by
  have hb0 := below_alloc w (.cells #[.slice LA G.length lc] 23)
  have kc := check_any LA lc (zg G) _ (lsAt_below hL hb0) (by simp; omega) (fun l hl => by
    obtain ⟨l', hl', rfl⟩ := List.mem_map.1 hl
    have := hg l' hl'
    simp [zs]; omega)
  rw [chk_ok hG hn hg, show (zg G).length = G.length by simp [zg]] at kc
  have LB := lies_new w 23 #[.slice LA G.length lc]
  have cb := lies_cell LB 0
  simp only [List.getElem?_toArray, List.getElem?_cons_zero] at cb
  have KC := Lib.hid kc
  have HB0 := Lib.hid hb0
  have HLB := Lib.hid LB
  have SZ := Lib.hid (World.size_alloc w (.cells #[.slice LA G.length lc] 23))
  have KG := Lib.hid (fun (W : World) (hb : Below w.heap.size w W) => groups_any LA lc G hG hn hg W (lsAt_below hL hb))
  have KD := Lib.hid (fun (X : World) (hX : Below w.heap.size w X) (hXL : Lies X w.heap.size 23 #[.slice LA G.length lc]) (hXs : w.heap.size < X.heap.size) (W : World) (A : Option Addr) (C : Nat) (es : List Ent) (hS : Groups G (es.map Ent.r)) (hE : Grps W X.heap.size (.slice A es.length C) es) (hb : Below X.heap.size X W) => del_any X.heap.size w.heap.size LA A lc C G es W hg hE (by
      obtain ⟨g, hg2, _⟩ := hS.all 0 h0
      have := List.length_pos_of_mem hg2
      simpa using this) (by have := groups_len hS; simp at this; omega) (fun e he v hv => hS.lt e.r (List.mem_map.2 ⟨e, he, rfl⟩) v hv) hb.size (fun W2 h2 => ⟨lsAt_below hL (hX.trans ((hb.trans h2).mono hX.size)), lies_below hXL (hb.trans h2) hXs⟩))
  generalize G.length = n at *
  clear kc hL hb0 LB
  go_enter Tryz.func58, Tryz.ntmps58
  go_upto_region 1 with (fail)
  generalize w.alloc (.cells #[.slice LA n lc] 23) = X at *
  go_upto_region 2 with (go_at_call 28; (with_reducible refine KC.out.mono ?_); rintro e w1 ⟨rfl, hb⟩; have B1 := Lib.hid hb; have L1 := Lib.hid (lies_below HLB.out hb (by have := SZ.out; omega)); have S1 := Lib.hid (show w.heap.size < w1.heap.size by have := SZ.out; have := hb.size; omega); have W1 := Lib.hid (HB0.out.trans (hb.mono HB0.out.size)); have c1 := lies_cell L1.out 0; simp only [List.getElem?_toArray, List.getElem?_cons_zero] at c1; clear hb cb)
  have K1 := Lib.hid (KG.out _ W1.out)
  go_wp2_with (first
    | (go_at_call 30; (with_reducible refine K1.out.mono ?_); rintro e w2 ⟨GA, gc, es, rfl, hS, hE, hb⟩; have B2 := Lib.hid hb; have HS := Lib.hid hS; have HE := Lib.hid hE; have K2 := Lib.hid (KD.out _ W1.out L1.out S1.out w2 GA gc es hS hE hb); clear hb hS hE)
    | (go_at_call 83; (with_reducible refine K2.out.mono ?_); rintro e w3 ⟨A, C, rfl, h1, h2⟩; have H1 := Lib.hid h1; have H2 := Lib.hid h2; clear h1 h2))
  go_ret2
  refine ⟨A, C, es, rfl, HS.out, ?_, W1.out.trans ((B2.out.trans H2.out).mono W1.out.size)⟩
  have := H1.out
  exact ⟨this.row.mono W1.out.size, fun e he => (this.own e he).mono W1.out.size, this.sep⟩
end Go.Proofs.YtpddamloajpiiaaGreatDoor

/-
What is proved here: package comp's Round of whatever needs are taken, none too, by a contract.
-/
set_option linter.unusedSimpArgs false
set_option linter.unusedVariables false
namespace Go.Proofs.YtpddamloajpiiaaGreatDoor
open Go.Cmp Go.RowKit
set_option maxRecDepth 100000 in
theorem index_nil (A : Option Addr) (C : Nat) (f : Value) (w : World) : Calls Tryz.prog 67 #[.slice A 0 C, f] w fun e w' => e = .returned (.int .i64 (-1)) ∧ w' = w := by
  go_enter Tryz.func67, Tryz.ntmps67
  go_wp2
  go_loopw [8] (fun v8 wr => v8 = .int .i64 0 ∧ wr = w) (fun _ _ => 0)
  case atStart => exact ⟨rfl, (by first | rfl | trivial)⟩
  case round =>
    obtain ⟨rfl, rfl⟩ := hrel
    go_wp2
    go_ret
    exact ⟨rfl, rfl⟩
set_option maxRecDepth 100000 in
theorem del_nil (A : Option Addr) (C : Nat) (f : Value) (w : World) : Calls Tryz.prog 83 #[.slice A 0 C, f] w fun e w' => e = .returned (.slice A 0 C) ∧ w' = w := by
  go_enter Tryz.func83, Tryz.ntmps83
  go_wp2_with (go_at_call 67; (with_reducible refine (index_nil _ _ _ _).mono ?_); rintro e w1 ⟨rfl, h⟩; have h := h.symm; subst h)
  go_ret
  exact ⟨rfl, rfl⟩
set_option maxRecDepth 100000 in
set_option maxHeartbeats 2000000 in
theorem round_nil (LA : Option Addr) (lc : Nat) (w : World) (hL : LsAt w LA (zg [])) : Calls Tryz.prog 58 #[.slice LA 0 lc] w (RndE [] w) := by
  have hb0 := below_alloc w (.cells #[.slice LA 0 lc] 23)
  have kc := check_any LA lc (zg []) _ (lsAt_below hL hb0) (by simp) (fun l hl => by cases hl)
  rw [show chk (zg []) = 0 from chk_ok (G := []) (fun l hl => by cases hl) (by simp) (fun l hl => by cases hl), show (zg []).length = 0 from rfl] at kc
  have LB := lies_new w 23 #[.slice LA 0 lc]
  have cb := lies_cell LB 0
  simp only [List.getElem?_toArray, List.getElem?_cons_zero] at cb
  have KC := Lib.hid kc
  have HB0 := Lib.hid hb0
  have HLB := Lib.hid LB
  have SZ := Lib.hid (World.size_alloc w (.cells #[.slice LA 0 lc] 23))
  have KG := Lib.hid (fun (W : World) (hb : Below w.heap.size w W) => show Calls Tryz.prog 30 #[.slice LA 0 lc] W (GpsE [] W) from groups_any LA lc [] (fun l hl => by cases hl) (by simp) (fun l hl => by cases hl) W (lsAt_below hL hb))
  clear kc hL hb0 LB
  go_enter Tryz.func58, Tryz.ntmps58
  go_upto_region 1 with (fail)
  generalize w.alloc (.cells #[.slice LA 0 lc] 23) = X at *
  go_upto_region 2 with (go_at_call 28; (with_reducible refine KC.out.mono ?_); rintro e w1 ⟨rfl, hb⟩; have L1 := Lib.hid (lies_below HLB.out hb (by have := SZ.out; omega)); have W1 := Lib.hid (HB0.out.trans (hb.mono HB0.out.size)); have c1 := lies_cell L1.out 0; simp only [List.getElem?_toArray, List.getElem?_cons_zero] at c1; clear hb cb)
  have K1 := Lib.hid (KG.out _ W1.out)
  go_wp2_with (first
    | (go_at_call 30; (with_reducible refine K1.out.mono ?_); rintro e w2 ⟨GA, gc, es, rfl, hS, hE, hb⟩; obtain rfl : es = [] := (by
        cases es with
        | nil => rfl
        | cons a t =>
          obtain ⟨r, hr, _⟩ := hS.scc a.r (by simp)
          exact absurd (hS.lt a.r (by simp) r hr) (Nat.not_lt_zero r)); have B2 := Lib.hid hb; have HS := Lib.hid hS; have HE := Lib.hid hE; clear hb hS hE)
    | (go_at_call 83; (with_reducible refine (del_nil _ _ _ _).mono ?_); rintro e w3 ⟨rfl, h⟩; have h := h.symm; subst h))
  go_ret2
  exact ⟨GA, gc, [], rfl, HS.out, ⟨HE.out.row.mono W1.out.size, (fun e he => by cases he), .nil⟩, W1.out.trans (B2.out.mono W1.out.size)⟩
theorem round_all (LA : Option Addr) (lc : Nat) (G : Gr) (hG : Ok G) (hn : G.length ≤ 1024) (hg : ∀ l ∈ G, l.length ≤ 1024) (w : World) (hL : LsAt w LA (zg G)) : Calls Tryz.prog 58 #[.slice LA G.length lc] w (RndE G w) := by
  cases G with
  | nil => exact round_nil LA lc w hL
  | cons a t => exact round_any LA lc (a :: t) hG (by simp) hn hg w hL
end Go.Proofs.YtpddamloajpiiaaGreatDoor
