/-
What is proved here: a content put behind the others.
-/
import Derived.Test.YtlnmaejpchncoaaDoorKStk
import Derived.Maps.AppendAt
import Derived.Carry
set_option linter.unusedSimpArgs false
namespace Go.Word
theorem wp_join {P : Program} {x y : Code} {Q : Exit → Act → World → Prop} {a : Act} {w : World} (R : Act → World → Prop) (hx : x.wp P (Exit.then R (fun _ _ _ => False)) a w) (hy : ∀ a w, R a w → y.wp P Q a w) : (Code.seq x y).wp P Q a w :=
  wp_seq (wp_mono hx (fun e a w h => by
    cases e with
    | normal => exact hy a w h
    | _ => exact h.elim))
theorem wpList_put_eq {P : Program} {w w' : World} {ops : Array Oper} {rest : List Oper} {o : Oper} {a : Act} {Q : Exit → Act → World → Prop} (hg : o.guard = none) (m x y : Operand) (t : TypeId) (hop : o.op = Op.mapUpdate t m x y)
    (mv xv yv : Value) (hm : a.eval m = mv) (hx : a.eval x = xv) (hy : a.eval y = yv) (hr : (Instr.mapUpdate t mv xv yv).run P w = .ok () w') (h : wpList P ops Q rest (a.put o.dst undef) w') : wpList P ops Q (o :: rest) a w := by
  refine wpList_plain hg fun K' hK' => ?_
  unfold Oper.wp
  simp [execOp, hop, hm, hx, hy, hr, Result.andThen]
  exact hK' _ _ h
end Go.Word
namespace Go.Proofs.YtlnmaejpchncoaaDoor.K
open Go.Stk Go.RowKit Go.Word
attribute [local go_sem] guard_eq guard_ne st_eql st_neq

theorem int_info : (Tryd.prog.info? 3).map (fun i => (i.zero, i.size, i.bytes)) = some (some (.int .i64 0), 1, 8) := by kernel_rfl
/-- bytes appended to a row of one's own -/
theorem app_bytes (w : World) (ty : TypeId) (v : Value) (l : Bt) (ho : OwnB w 0 v l) (A : Option Addr) (c : Nat) (d : Bt) (hd : BytesAt w A d) (hb1 : l.length ≤ 100000000) (hb2 : d.length ≤ 100000000) :
    ∃ v' w', (Builtin.append_ #[24, 24] ty #[v, .slice A d.length c]).run Tryd.prog w = .ok v' w' ∧ OwnB w' 0 v' (l ++ d) ∧ w.grownBy w' v.ownBlock ∧ (v'.ownBlock = v.ownBlock ∨ v'.ownBlock = some w.heap.size) := by
  obtain ⟨i0, hi, hz0, hz1, hz2⟩ := info_parts byte_info
  cases A with
  | none =>
    obtain rfl := bytesAt_none hd
    refine ⟨v, w, run_append_none_cap w 0 24 ty 5 i0 1 Tryd.underlying24 hi v l.length (l.map yB) c ho, by rw [List.append_nil]; exact ho, ⟨rfl, rfl, rfl, Nat.le_refl _, fun _ _ _ => rfl⟩, .inl rfl⟩
  | some ad =>
    obtain ⟨v', w', h1, h2, h3, _, h5⟩ := run_append_own_at (P := Tryd.prog) w 0 24 ty 5 i0 (.int .u8 0) 1 1 Tryd.underlying24 hi hz0 hz1 hz2 rfl (by decide) v l.length (l.map yB) ho ad d.length c (d.map yB) (by simp) (fun j u hj => by
      have hjl : j < d.length := by
        have := (List.getElem?_eq_some_iff.1 hj).1
        simpa using this
      obtain ⟨b, o, e, _, hc⟩ := hd j hjl
      injection e with e
      subst e
      rw [Addr.add_mid, hc]
      rw [List.getElem?_map, List.getElem?_eq_getElem hjl] at hj
      simpa [yB] using hj) (fun u hu => by obtain ⟨c, _, rfl⟩ := List.mem_map.1 hu; rfl) (by unfold maxLen; omega) (by omega) (Nat.zero_le _)
    refine ⟨v', w', h1, ?_, h3, h5⟩
    unfold OwnB
    rw [List.length_append, List.map_append]
    exact h2
theorem app_int (w : World) (ty : TypeId) (v : Value) (n : Nat) (xs : List Value) (ho : w.ownsRow 0 3 1 v n xs) (g : Nat) (z : Int) (hl : w.cell? ⟨g, 0, none⟩ = some (.int .i64 z)) (hb1 : n ≤ 1000000) :
    ∃ v' w', (Builtin.append_ #[47, 47] ty #[v, .slice (some ⟨g, 0, none⟩) 1 1]).run Tryd.prog w = .ok v' w' ∧ w'.ownsRow 0 3 1 v' (n + 1) (xs ++ [.int .i64 z]) ∧ w.grownBy w' v.ownBlock ∧ (v'.ownBlock = v.ownBlock ∨ v'.ownBlock = some w.heap.size) := by
  obtain ⟨i0, hi, hz0, hz1, hz2⟩ := info_parts int_info
  obtain ⟨v', w', h1, h2, h3, _, h5⟩ := run_append_own_at (P := Tryd.prog) w 0 47 ty 3 i0 (.int .i64 0) 1 8 Tryd.underlying47 hi hz0 hz1 hz2 rfl (by decide) v n xs ho ⟨g, 0, none⟩ 1 1 [.int .i64 z] rfl (fun j u hj => by
      match j, hj with
      | 0, hj => injection hj with hj; subst hj; exact hl
      | j + 1, hj => simp at hj) (fun u hu => by simp at hu; subst hu; rfl) (by unfold maxLen; omega) (by omega) (Nat.zero_le _)
  exact ⟨v', w', h1, h2, h3, h5⟩
theorem pl_obj {w : World} {m : Nat} {cs : List Bt} (h : PlAt w m cs) : ∃ es clock, w.heap[m]? = some (.map es clock) := by
  obtain ⟨D, ⟨es, clock, h1, h2⟩, h3⟩ := h
  exact ⟨es, clock, h1⟩
theorem ne_map {w : World} {m g : Nat} {cs : List Bt} {a : Array Value} {t : TypeId} {z : Nat × Nat} (h : PlAt w m cs) (hl : w.heap[g]? = some (.cells a t z)) : g ≠ m := fun e => by
  subst e
  obtain ⟨es, clock, h1⟩ := pl_obj h
  rw [h1] at hl
  injection hl with hl
  cases hl
theorem eqm_none (W : World) : (binOp .eql 48 (.map none) (.map none)).run Tryd.prog W = .ok (.bool true) W := by
  kernel_rfl
theorem eqm_some (m : Nat) (W : World) : (binOp .eql 48 (.map (some m)) (.map none)).run Tryd.prog W = .ok (.bool false) W := by
  kernel_rfl
theorem grown_below {w w' : World} (h : w.grownBy w' none) : Below w.heap.size w w' := ⟨h.os, h.tape, h.output, h.size, fun i hi => h.block i hi (by simp)⟩
/-- a stock that has no map comes to have one -/
theorem stk_made {w : World} {P : Nat → Prop} {g : Nat} {lim : Int} {vB vE : Value} (h : Stk w P g lim [] vB vE (.map none)) :
    Stk ((w.alloc (.map #[] 0)).setCell ⟨g, 3, none⟩ (.map (some w.heap.size))) (fun i => P i ∨ i = w.heap.size) g lim [] vB vE (.map (some w.heap.size)) ∧ Keeps P w ((w.alloc (.map #[] 0)).setCell ⟨g, 3, none⟩ (.map (some w.heap.size))) := by
  have b1 : Below w.heap.size w (w.alloc (.map #[] 0)) := (Below.refl _ _).alloc (Nat.le_refl _) _
  have h1 := stk_below h b1
  have gl := lies_lt h.cell
  have l2 := lies_set h1.cell 3 (.map (some w.heap.size))
  have o : ∀ i, i ≠ g → ((w.alloc (.map #[] 0)).setCell ⟨g, 3, none⟩ (.map (some w.heap.size))).heap[i]? = (w.alloc (.map #[] 0)).heap[i]? := fun i hi => heap_setCell_other _ _ i _ hi
  refine ⟨⟨l2, own_same h1.bytes (fun b e _ => o b (fun e2 => ?_)), own_same h1.ends (fun b e _ => o b (fun e2 => ?_)), .inr ⟨_, rfl, pl_same (pl_made w) (o _ (by omega)), .inr rfl⟩, List.nodup_nil, .inl h.pg, fun b e => .inl (h.pb b e), fun b e => .inl (h.pe b e)⟩, ⟨b1.os, b1.tape, b1.output, by simp [World.setCell], fun i hi hp => (o i (fun e => hp (e ▸ h.pg))).trans (b1.block i hi)⟩⟩
  · subst e2
    obtain ⟨_, a, h3⟩ := own_heap h1.bytes b e
    have h4 := h1.cell
    unfold Lies at h4
    rw [h4] at h3
    injection h3 with h3
    injection h3 with _ h5 _
    exact absurd h5 (by decide)
  · subst e2
    obtain ⟨_, a, h3⟩ := own_heap h1.ends b e
    have h4 := h1.cell
    unfold Lies at h4
    rw [h4] at h3
    injection h3 with h3
    injection h3 with _ h5 _
    exact absurd h5 (by decide)
/-- a stock's parts, between two writes -/
structure Half (w : World) (P : Nat → Prop) (g : Nat) (lim : Int) (l : Bt) (n : Nat) (es : List Value) (cs : List Bt) (vB vE : Value) (m : Nat) : Prop where
  cell : Lies w g 50 #[.int .i64 lim, vB, vE, .map (some m)]
  bytes : OwnB w 0 vB l
  ends : w.ownsRow 0 3 1 vE n es
  map : PlAt w m cs
  pg : P g
  pm : P m
  pb : ∀ b, vB.ownBlock = some b → P b
  pe : ∀ b, vE.ownBlock = some b → P b
section
variable {w w' : World} {P : Nat → Prop} {g : Nat} {lim : Int} {l l' : Bt} {n n' : Nat} {es es' : List Value} {cs cs' : List Bt} {vB vE v' : Value} {m : Nat}
theorem lies_eq {g g' : Nat} {t t' : TypeId} {a a' : Array Value} {z z' : Nat × Nat} (h : w.heap[g]? = some (.cells a t z)) (h' : w.heap[g']? = some (.cells a' t' z')) (ht : t ≠ t') : g ≠ g' := fun e => by
  subst e
  rw [h] at h'
  injection h' with h'
  injection h' with _ h5 _
  exact ht h5
theorem half_ne (h : Half w P g lim l n es cs vB vE m) : g ≠ m ∧ (∀ b, vB.ownBlock = some b → b ≠ g ∧ b ≠ m ∧ vE.ownBlock ≠ some b) ∧ (∀ b, vE.ownBlock = some b → b ≠ g ∧ b ≠ m ∧ vB.ownBlock ≠ some b) := by
  refine ⟨ne_map h.map h.cell, fun b e => ?_, fun b e => ?_⟩
  · obtain ⟨_, a, h3⟩ := own_heap h.bytes b e
    refine ⟨lies_eq h3 h.cell (by decide), ne_map h.map h3, fun e2 => ?_⟩
    obtain ⟨_, a2, h4⟩ := own_heap h.ends b e2
    exact lies_eq h3 h4 (by decide) rfl
  · obtain ⟨_, a, h3⟩ := own_heap h.ends b e
    refine ⟨lies_eq h3 h.cell (by decide), ne_map h.map h3, fun e2 => ?_⟩
    obtain ⟨_, a2, h4⟩ := own_heap h.bytes b e2
    exact lies_eq h3 h4 (by decide) rfl
theorem half_same (h : Half w P g lim l n es cs vB vE m) (hb : ∀ i, P i → i < w.heap.size → w'.heap[i]? = w.heap[i]?) : Half w' P g lim l n es cs vB vE m where
  cell := (hb g h.pg (lies_lt h.cell)).trans h.cell
  bytes := own_same h.bytes (fun b e hl => hb b (h.pb b e) hl)
  ends := own_same h.ends (fun b e hl => hb b (h.pe b e) hl)
  map := pl_same h.map (hb m h.pm (pl_lt h.map))
  pg := h.pg
  pm := h.pm
  pb := h.pb
  pe := h.pe
theorem half_alloc (h : Half w P g lim l n es cs vB vE m) (o : Obj) : Half (w.alloc o) P g lim l n es cs vB vE m := half_same h (fun i _ hi => Below.heap_alloc w o i hi)
theorem half_mono {Q : Nat → Prop} (h : Half w P g lim l n es cs vB vE m) (hs : ∀ i, P i → Q i) : Half w Q g lim l n es cs vB vE m where
  cell := h.cell
  bytes := h.bytes
  ends := h.ends
  map := h.map
  pg := hs _ h.pg
  pm := hs _ h.pm
  pb := fun b e => hs b (h.pb b e)
  pe := fun b e => hs b (h.pe b e)
theorem half_map (h : Half w P g lim l n es cs vB vE m) (hp : PlAt w' m cs') (hg : w.grownBy w' (some m)) : Half w' P g lim l n es cs' vB vE m := by
  obtain ⟨n1, n2, n3⟩ := half_ne h
  exact ⟨(hg.block g (lies_lt h.cell) (by simpa using n1)).trans h.cell, own_same h.bytes (fun b e hl => hg.block b hl (by simpa using (n2 b e).2.1)), own_same h.ends (fun b e hl => hg.block b hl (by simpa using (n3 b e).2.1)), hp, h.pg, h.pm, h.pb, h.pe⟩
theorem half_bytes (h : Half w P g lim l n es cs vB vE m) (ho : OwnB w' 0 v' l') (hg : w.grownBy w' vB.ownBlock) (hv : v'.ownBlock = vB.ownBlock ∨ v'.ownBlock = some w.heap.size) :
    Lies w' g 50 #[.int .i64 lim, vB, vE, .map (some m)] ∧ Half (w'.setCell ⟨g, 1, none⟩ v') (fun i => P i ∨ i = w.heap.size) g lim l' n es cs v' vE m ∧ Keeps P w (w'.setCell ⟨g, 1, none⟩ v') := by
  obtain ⟨n1, n2, n3⟩ := half_ne h
  have gl := lies_lt h.cell
  have lc : Lies w' g 50 #[.int .i64 lim, vB, vE, .map (some m)] := (hg.block g gl (fun e => (n2 g e.symm).1 rfl)).trans h.cell
  have o : ∀ i, i ≠ g → (w'.setCell ⟨g, 1, none⟩ v').heap[i]? = w'.heap[i]? := fun i hi => heap_setCell_other _ _ i _ hi
  have pv : ∀ b, v'.ownBlock = some b → P b ∨ b = w.heap.size := fun b e => by
    rcases hv with h1 | h1
    · rw [h1] at e; exact .inl (h.pb b e)
    · rw [h1] at e; injection e with e; exact .inr e.symm
  have bg : ∀ b, v'.ownBlock = some b → b ≠ g := fun b e => by
    obtain ⟨_, a, h3⟩ := own_heap ho b e
    exact lies_eq h3 lc (by decide)
  refine ⟨lc, ⟨lies_set lc 1 v', own_same ho (fun b e _ => o b (bg b e)), own_same h.ends (fun b e hl => (o b (n3 b e).1).trans (hg.block b hl (fun e2 => (n3 b e).2.2 e2.symm))), pl_same h.map ((o m (fun e => n1 e.symm)).trans (hg.block m (pl_lt h.map) (fun e2 => (n2 m e2.symm).2.1 rfl))), .inl h.pg, .inl h.pm, pv, fun b e => .inl (h.pe b e)⟩, ?_⟩
  exact ⟨hg.os, hg.tape, hg.output, by simpa [World.setCell] using hg.size, fun i hi hp => (o i (fun e => hp (e ▸ h.pg))).trans (hg.block i hi (fun e2 => hp (h.pb i e2.symm)))⟩
theorem half_ends (h : Half w P g lim l n es cs vB vE m) (ho : w'.ownsRow 0 3 1 v' n' es') (hg : w.grownBy w' vE.ownBlock) (hv : v'.ownBlock = vE.ownBlock ∨ v'.ownBlock = some w.heap.size) :
    Lies w' g 50 #[.int .i64 lim, vB, vE, .map (some m)] ∧ Half (w'.setCell ⟨g, 2, none⟩ v') (fun i => P i ∨ i = w.heap.size) g lim l n' es' cs vB v' m ∧ Keeps P w (w'.setCell ⟨g, 2, none⟩ v') := by
  obtain ⟨n1, n2, n3⟩ := half_ne h
  have gl := lies_lt h.cell
  have lc : Lies w' g 50 #[.int .i64 lim, vB, vE, .map (some m)] := (hg.block g gl (fun e => (n3 g e.symm).1 rfl)).trans h.cell
  have o : ∀ i, i ≠ g → (w'.setCell ⟨g, 2, none⟩ v').heap[i]? = w'.heap[i]? := fun i hi => heap_setCell_other _ _ i _ hi
  have pv : ∀ b, v'.ownBlock = some b → P b ∨ b = w.heap.size := fun b e => by
    rcases hv with h1 | h1
    · rw [h1] at e; exact .inl (h.pe b e)
    · rw [h1] at e; injection e with e; exact .inr e.symm
  have bg : ∀ b, v'.ownBlock = some b → b ≠ g := fun b e => by
    obtain ⟨_, a, h3⟩ := own_heap ho b e
    exact lies_eq h3 lc (by decide)
  refine ⟨lc, ⟨lies_set lc 2 v', own_same h.bytes (fun b e hl => (o b (n2 b e).1).trans (hg.block b hl (fun e2 => (n2 b e).2.2 e2.symm))), own_same ho (fun b e _ => o b (bg b e)), pl_same h.map ((o m (fun e => n1 e.symm)).trans (hg.block m (pl_lt h.map) (fun e2 => (n3 m e2.symm).2.1 rfl))), .inl h.pg, .inl h.pm, fun b e => .inl (h.pb b e), pv⟩, ?_⟩
  exact ⟨hg.os, hg.tape, hg.output, by simpa [World.setCell] using hg.size, fun i hi hp => (o i (fun e => hp (e ▸ h.pg))).trans (hg.block i hi (fun e2 => hp (h.pe i e2.symm)))⟩
theorem half_stk (h : Half w P g lim cs.flatten cs.length (endsV cs) cs vB vE m) (hn : cs.Nodup) : Stk w P g lim cs vB vE (.map (some m)) := ⟨h.cell, h.bytes, h.ends, .inr ⟨m, rfl, h.map, h.pm⟩, hn, h.pg, h.pb, h.pe⟩
theorem stk_half (h : Stk w P g lim cs vB vE (.map (some m))) : Half w P g lim cs.flatten cs.length (endsV cs) cs vB vE m := by
  rcases h.map with ⟨e, _⟩ | ⟨m2, e, h1, h2⟩
  · cases e
  · injection e with e
    injection e with e
    subst e
    exact ⟨h.cell, h.bytes, h.ends, h1, h.pg, h2, h.pb, h.pe⟩
end
/-- the walk of put, behind its first condition -/
def PutMid (P : Nat → Prop) (g : Nat) (lim : Int) (cs : List Bt) (vB vE : Value) (A : Option Addr) (k c : Nat) (w : World) (a : Act) (W : World) : Prop :=
  ∃ u6 u7 u8 u9 u10 u11 u12 u13 u14 m P1, a = { tmps := #[.pointer (some ⟨g, 0, none⟩), .slice A k c, undef, undef, .int .i64 0, undef, u6, u7, u8, u9, u10, u11, u12, u13, u14, undef, undef, undef, undef, undef, undef, undef, undef, undef, undef, undef, undef, undef, undef, undef, undef, undef, undef, undef, undef, undef, undef, undef, undef, undef, undef, undef, undef, undef, undef, undef, undef, undef], defers := [] } ∧ Stk W P1 g lim cs vB vE (.map (some m)) ∧ (∀ i, P1 i → P i ∨ i = w.heap.size) ∧ Keeps P w W
section
variable {P : Nat → Prop} {g : Nat} {lim : Int} {cs : List Bt} {vB vE vM : Value}
set_option maxRecDepth 100000 in
set_option maxHeartbeats 4000000 in
theorem put_any (A : Option Addr) (c : Nat) (b : Bt) (w : World) (h : Stk w P g lim cs vB vE vM) (hb : BytesAt w A b) (hA : 0 < b.length → ∀ a, A = some a → ¬ P a.block) (hl : b.length ≤ 100000) (hn : cs.length ≤ 100000) (hf : cs.flatten.length ≤ 10000000) (hno : b ∉ cs) :
    Calls Tryd.prog 20 #[.pointer (some ⟨g, 0, none⟩), .slice A b.length c] w fun e w' => ∃ P' vB' vE' vM', e = .returned (.int .i64 cs.length) ∧ Stk w' P' g lim (cs ++ [b]) vB' vE' vM' ∧ Sub w P P' ∧ Keeps P w w' := by
  obtain ⟨k, hk⟩ : ∃ k, k = b.length := ⟨_, rfl⟩
  rw [← hk]
  have KB := Lib.hid hk
  have HS := Lib.hid h
  have HB := Lib.hid hb
  have HA := Lib.hid hA
  have NO := Lib.hid hno
  clear hk hb hA hno
  obtain ⟨c0, c1, c2, c3⟩ := stk_cells h
  have f3 := lies_free h.cell 3
  go_enter Tryd.func20, Tryd.ntmps20
  refine wp_join (fun a W => a = { tmps := #[.pointer (some ⟨g, 0, none⟩), .slice A k c, undef, undef, .int .i64 0, undef, undef, undef, undef, undef, undef, undef, undef, undef, undef, undef, undef, undef, undef, undef, undef, undef, undef, undef, undef, undef, undef, undef, undef, undef, undef, undef, undef, undef, undef, undef, undef, undef, undef, undef, undef, undef, undef, undef, undef, undef, undef, undef], defers := [] } ∧ W = w) ?_ ?_
  · go_wp2
    exact ⟨trivial, trivial⟩
  rintro a W ⟨rfl, rfl⟩
  refine wp_join (PutMid P g lim cs vB vE A k c W) ?_ ?_
  · rcases h.map with ⟨e1, e2⟩ | ⟨m, rfl, hm, hp⟩
    · subst e1
      subst e2
      have st := stk_made h
      have HST := Lib.hid st
      clear st
      have em := eqm_none W
      have hmm := @run_makeMap Tryd.prog
      have la := lies_alloc h.cell (.map #[] 0)
      have c3b : (W.alloc (.map #[] 0)).cell? ⟨g, 3, none⟩ = some (.map none) := lies_cell la 3
      have f3b := lies_free la 3
      clear la
      go_wp2
      exact ⟨_, _, _, _, _, _, _, _, _, W.heap.size, _, rfl, HST.out.1, fun i hi => hi, HST.out.2⟩
    · clear h
      have em := eqm_some m W
      go_wp2
      exact ⟨_, _, _, _, _, _, _, _, _, m, P, rfl, HS.out, fun i hi => .inl hi, keeps_refl _ _⟩
  clear c0 c1 c2 c3 f3 h
  rintro a X ⟨u6, u7, u8, u9, u10, u11, u12, u13, u14, m, P1, rfl, hs, hsub, hk⟩
  have W0 := len_any X hs
  obtain ⟨c0, c1, c2, c3⟩ := stk_cells hs
  have HSUB := Lib.hid hsub
  have HK := Lib.hid hk
  have hA1 : 0 < b.length → ∀ a, A = some a → ¬ P1 a.block := fun h0 a e h => by
    have n1 := HA.out h0 a e
    obtain ⟨bb, o, e2, hl2, _⟩ := HB.out 0 h0
    rw [e] at e2
    injection e2 with e2
    subst e2
    have hl2 : bb < W.heap.size := hl2
    rcases hsub _ h with h1 | h1
    · exact n1 h1
    · have h1 : bb = W.heap.size := h1
      omega
  have hb1 : BytesAt X A b := fun i hi => by
    obtain ⟨bb, o, e, hl, hc⟩ := HB.out i hi
    have n1 := HA.out (by omega) _ e
    refine ⟨bb, o, e, Nat.lt_of_lt_of_le hl hk.size, ?_⟩
    rw [← hc]
    exact World.cell?_of_block (a := ⟨bb, o + i, none⟩) (hk.block bb hl n1)
  have cv1 := run_text A b c X.drew hb1
  rw [← KB.out] at cv1
  have hh := stk_half hs
  have ND := Lib.hid hs.nodup
  obtain ⟨W2, hr2, hp2, hg2⟩ := pl_put (w := X.drew) hh.map b hl hn NO.out
  have h2 : Half W2 P1 g lim _ _ _ (cs ++ [b]) vB vE m := half_map (w := X.drew) (half_same hh (fun _ _ _ => rfl)) hp2 hg2
  have keep2 : ∀ i, i < X.heap.size → ¬ P1 i → W2.heap[i]? = X.heap[i]? := fun i hi hn => hg2.block i hi (fun e => by injection e with e; exact hn (e ▸ hh.pm))
  have hb2 : BytesAt W2 A b := fun i hi => by
    obtain ⟨bb, o, e, hl, hc⟩ := hb1 i hi
    have n1 := hA1 (by omega) _ e
    refine ⟨bb, o, e, Nat.lt_of_lt_of_le hl hg2.size, ?_⟩
    rw [← hc]
    exact World.cell?_of_block (a := ⟨bb, o + i, none⟩) (keep2 bb hl n1)
  obtain ⟨v3, W3, hr3, ho3, hg3, hv3⟩ := app_bytes W2 31 vB cs.flatten h2.bytes A c b hb2 (by omega) (by omega)
  obtain ⟨lc3, h4, k4⟩ := half_bytes h2 ho3 hg3 hv3
  have K2 : Keeps P1 X W2 := ⟨hg2.os, hg2.tape, hg2.output, hg2.size, keep2⟩
  obtain ⟨E, d, rfl⟩ := own_slice h4.ends
  obtain ⟨A3, cB, rfl⟩ := own_slice h4.bytes
  have l5 : (cs.flatten ++ b).length ≤ 100000000 := by rw [List.length_append]; omega
  have R2 := Lib.hid hr2
  have R3 := Lib.hid hr3
  have LC2 := Lib.hid h2.cell
  have LC3 := Lib.hid lc3
  have H4 := Lib.hid h4
  have K4 := Lib.hid (keeps_trans K2 k4 (sub_refl _ _))
  have Z2 : Hid (X.heap.size ≤ W2.heap.size) := Lib.hid hg2.size
  rw [← KB.out] at R3
  clear hs hsub hk hb1 hb2 hr2 hp2 hg2 hA1 keep2 hr3 ho3 hg3 hv3 lc3 h4 k4 K2 hh h2
  obtain ⟨L, hL⟩ : ∃ L, L = cs.length := ⟨_, rfl⟩
  have LL := Lib.hid hL
  obtain ⟨N, hN⟩ : ∃ N, N = (cs.flatten ++ b).length := ⟨_, rfl⟩
  have NN := Lib.hid hN
  rw [← hL] at W0 c2 R2 LC2 LC3 H4 hn ⊢
  rw [← hN] at l5 H4 K4 R3
  clear hL hN
  have cv1 : (convert 24 9 (.slice A k c)).run Tryd.prog { heap := X.heap, tape := X.tape, drawn := X.drawn + 1, os := X.os, output := X.output } = .ok (St b) { heap := X.heap, tape := X.tape, drawn := X.drawn + 1, os := X.os, output := X.output } := cv1
  have R2 : Hid ((Instr.mapUpdate 48 (.map (some m)) (St b) (.int .i64 (L : Nat))).run Tryd.prog { heap := X.heap, tape := X.tape, drawn := X.drawn + 1, os := X.os, output := X.output } = .ok () W2) := R2
  go_upto_region 4 with (go_at_call 26; (with_reducible refine W0.mono ?_); rintro e w1 ⟨rfl, rfl⟩)
  go_still_tail 7, (by kernel_rfl)
  clear cv1 W0
  go_upto_region 5 with (refine wpList_put_eq rfl _ _ _ 48 rfl (.map (some m)) (St b) (.int .i64 (L : Nat)) rfl rfl rfl R2.out ?_)
  have q1 := lies_cell LC2.out 1
  simp only [List.getElem?_toArray, List.getElem?_cons_zero, List.getElem?_cons_succ] at q1
  have r1 := lies_cell LC3.out 1
  have r1f := lies_free LC3.out 1
  simp only [List.getElem?_toArray, List.getElem?_cons_zero, List.getElem?_cons_succ] at r1
  clear R2 LC2 c0 c1 c2 c3
  go_upto_region 6 with (refine wpList_app_run rfl _ _ rfl rfl rfl R3.out ?_)
  generalize W3.setCell ⟨g, 1, none⟩ (.slice A3 N cB) = W4 at *
  have HA4 := half_same (w' := W4.drew) H4.out (fun _ _ _ => rfl)
  have HB4 := half_alloc HA4 (.cells #[.int .i64 (N : Int)] 3)
  have LB := lies_new W4.drew 3 #[.int .i64 (N : Int)]
  obtain ⟨v5, Z, hr5, ho5, hg5, hv5⟩ := app_int (W4.drew.alloc (.cells #[.int .i64 (N : Int)] 3)) 48 (.slice E L d) L (endsV cs) HB4.ends W4.drew.heap.size (N : Int) (lies_cell LB 0) (by omega)
  obtain ⟨lc5, h6, k6⟩ := half_ends HB4 ho5 hg5 hv5
  obtain ⟨E5, d5, rfl⟩ := own_slice ho5
  have F4 := Lib.hid (fun (l : Array Bool) (hl : l.getD 14 false = false) => stc_all (i := 10) (j := 11) (k := 14) (A := W4.drew) (B := W4.drew.alloc (.cells #[.int .i64 (N : Int)] 3)) (C := Z) (D := Z.setCell ⟨g, 2, none⟩ (.slice E5 (L + 1) d5)) (l := l) (fun W => W.cell? ⟨g, 2, none⟩ = some (.slice E L d)) (lies_cell HA4.cell 2) (lies_cell HB4.cell 2) (lies_cell lc5 2) (fun h => by rw [hl] at h; cases h))
  have F8 := Lib.hid (fun (l : Array Bool) (hl : l.getD 14 false = false) => stc_all (i := 10) (j := 11) (k := 14) (A := W4.drew) (B := W4.drew.alloc (.cells #[.int .i64 (N : Int)] 3)) (C := Z) (D := Z.setCell ⟨g, 2, none⟩ (.slice E5 (L + 1) d5)) (l := l) (fun W => W.cell? ⟨g, 1, none⟩ = some (.slice A3 N cB)) (lies_cell HA4.cell 1) (lies_cell HB4.cell 1) (lies_cell lc5 1) (fun h => by rw [hl] at h; cases h))
  have HR := Lib.hid hr5
  have CZ := Lib.hid (show Z.cell? ⟨g, 2, none⟩ = some (.slice E L d) from lies_cell lc5 2)
  have FZ := Lib.hid (lies_free lc5 2)
  have H6 := Lib.hid h6
  have K6 := Lib.hid k6
  have S4 : Hid (Below W4.heap.size W4 (W4.drew.alloc (.cells #[.int .i64 (N : Int)] 3))) := Lib.hid ((Below.drew (Below.refl W4.heap.size W4)).alloc (Nat.le_refl W4.heap.size) _)
  obtain ⟨i1, hi1, hz1, hs1, hb1⟩ := info_parts int_info
  clear HA4 HB4 LB hr5 ho5 hg5 hv5 lc5 h6 k6 q1 r1 r1f
  refine wp_region_any (by kernel_rfl) ?_
  refine every_at (own := ownAll _) (vals := fun k_ => match k_ with | 0 => (.pointer (some ⟨g, 0, none⟩)) | 1 => (.pointer (some ⟨g, 0, none⟩)) | 2 => (.pointer (some ⟨g, 0, none⟩)) | 3 => (.pointer (some ⟨g, 2, none⟩)) | 4 => (.slice E L d) | 5 => (.pointer (some ⟨g, 0, none⟩)) | 6 => (.pointer (some ⟨g, 0, none⟩)) | 7 => (.pointer (some ⟨g, 1, none⟩)) | 8 => (.slice A3 N cB) | 9 => (.int .i64 (N : Int)) | 10 => (.slice (some ⟨W4.drew.heap.size, 0, none⟩) 1 1) | 11 => (.slice E5 (L + 1) d5) | 12 => (.pointer (some ⟨g, 0, none⟩)) | 13 => (.pointer (some ⟨g, 2, none⟩)) | 14 => undef | _ => undef) id (fun l W => W = (Stc 10 11 14 (W4.drew) (W4.drew.alloc (.cells #[.int .i64 (N : Int)] 3)) (Z) (Z.setCell ⟨g, 2, none⟩ (.slice E5 (L + 1) d5))) l) (acAll_of (by kernel_rfl)) (onAll_of (by kernel_rfl)) (dstAll_of (by kernel_rfl)) ?hop ?hend _ _ _ _ rfl (shut_none _) (of_decide_eq_true (by kernel_rfl)) (tabd_start (fun i => rep_false _ i)) rfl
  case hop =>
    intro x oi a w0 listed hoi hun hsz hcl hdeps ht hI
    have hx : x < 15 := (Array.getElem?_eq_some_iff.1 hoi).1
    have cx : x = 0 ∨ x = 1 ∨ x = 2 ∨ x = 3 ∨ x = 4 ∨ x = 5 ∨ x = 6 ∨ x = 7 ∨ x = 8 ∨ x = 9 ∨ x = 10 ∨ x = 11 ∨ x = 12 ∨ x = 13 ∨ x = 14 := by omega
    have sz : listed.size = 15 := hsz
    have uj : listed.getD 11 false = true → listed.getD 10 false = true := fun h => hcl 11 _ rfl h ⟨10, .data⟩ (by simp) rfl
    have uk : listed.getD 14 false = true → listed.getD 11 false = true := fun h => hcl 14 _ rfl h ⟨11, .data⟩ (by simp) rfl
    have ul4 : listed.getD 14 false = true → listed.getD 4 false = true := fun h => hcl 14 _ rfl h ⟨4, .phase⟩ (by simp) rfl
    have ul8 : listed.getD 14 false = true → listed.getD 8 false = true := fun h => hcl 14 _ rfl h ⟨8, .phase⟩ (by simp) rfl
    clear hcl
    obtain rfl | rfl | rfl | rfl | rfl | rfl | rfl | rfl | rfl | rfl | rfl | rfl | rfl | rfl | rfl := cx
    all_goals obtain rfl := Option.some.inj hoi
    · have e0 : a.eval (.tmp 0) = (.pointer (some ⟨g, 0, none⟩)) := (tabd_old ht (t := 0) (of_decide_eq_true (by kernel_rfl)) (by kernel_rfl)).trans rfl
      exact .inl ⟨rfl, fun K hk => wp_val (v := (.pointer (some ⟨g, 0, none⟩))) (by generalize a.eval = ρ at *; unfold execOp; simp only [e0]; go_simp) (hk _ (hI.trans (stc_keep (by decide) (by decide) (by decide)).symm))⟩
    · have e0 : a.eval (.tmp 0) = (.pointer (some ⟨g, 0, none⟩)) := (tabd_old ht (t := 0) (of_decide_eq_true (by kernel_rfl)) (by kernel_rfl)).trans rfl
      exact .inl ⟨rfl, fun K hk => wp_val (v := (.pointer (some ⟨g, 0, none⟩))) (by generalize a.eval = ρ at *; unfold execOp; simp only [e0]; go_simp) (hk _ (hI.trans (stc_keep (by decide) (by decide) (by decide)).symm))⟩
    · have d1 := hdeps ⟨1, .data⟩ (by simp) rfl
      have e34 : a.eval (.tmp 34) = (.pointer (some ⟨g, 0, none⟩)) := tabd_at ht (t := 34) (of_decide_eq_true (by kernel_rfl)) (by kernel_rfl) d1
      exact .inl ⟨rfl, fun K hk => wp_val (v := (.pointer (some ⟨g, 0, none⟩))) (by generalize a.eval = ρ at *; unfold execOp; simp only [e34]; go_simp) (hk _ (hI.trans (stc_keep (by decide) (by decide) (by decide)).symm))⟩
    · have d2 := hdeps ⟨2, .data⟩ (by simp) rfl
      have e35 : a.eval (.tmp 35) = (.pointer (some ⟨g, 0, none⟩)) := tabd_at ht (t := 35) (of_decide_eq_true (by kernel_rfl)) (by kernel_rfl) d2
      exact .inl ⟨rfl, fun K hk => wp_val (v := (.pointer (some ⟨g, 2, none⟩))) (by generalize a.eval = ρ at *; unfold execOp; simp only [e35]; go_simp) (hk _ (hI.trans (stc_keep (by decide) (by decide) (by decide)).symm))⟩
    · have d3 := hdeps ⟨3, .data⟩ (by simp) rfl
      have e36 : a.eval (.tmp 36) = (.pointer (some ⟨g, 2, none⟩)) := tabd_at ht (t := 36) (of_decide_eq_true (by kernel_rfl)) (by kernel_rfl) d3
      have h : w0.cell? ⟨g, 2, none⟩ = some ((.slice E L d)) := by rw [hI]; exact F4.out listed (no_of ul4 (by simp [hun]))
      exact .inl ⟨rfl, fun K hk => wp_val (v := (.slice E L d)) (by clear hk hI hoi hdeps ht; generalize a.eval = ρ at *; unfold execOp; simp only [e36]; go_simp) (hk _ (hI.trans (stc_keep (by decide) (by decide) (by decide)).symm))⟩
    · have e0 : a.eval (.tmp 0) = (.pointer (some ⟨g, 0, none⟩)) := (tabd_old ht (t := 0) (of_decide_eq_true (by kernel_rfl)) (by kernel_rfl)).trans rfl
      exact .inl ⟨rfl, fun K hk => wp_val (v := (.pointer (some ⟨g, 0, none⟩))) (by generalize a.eval = ρ at *; unfold execOp; simp only [e0]; go_simp) (hk _ (hI.trans (stc_keep (by decide) (by decide) (by decide)).symm))⟩
    · have d5 := hdeps ⟨5, .data⟩ (by simp) rfl
      have e38 : a.eval (.tmp 38) = (.pointer (some ⟨g, 0, none⟩)) := tabd_at ht (t := 38) (of_decide_eq_true (by kernel_rfl)) (by kernel_rfl) d5
      exact .inl ⟨rfl, fun K hk => wp_val (v := (.pointer (some ⟨g, 0, none⟩))) (by generalize a.eval = ρ at *; unfold execOp; simp only [e38]; go_simp) (hk _ (hI.trans (stc_keep (by decide) (by decide) (by decide)).symm))⟩
    · have d6 := hdeps ⟨6, .data⟩ (by simp) rfl
      have e39 : a.eval (.tmp 39) = (.pointer (some ⟨g, 0, none⟩)) := tabd_at ht (t := 39) (of_decide_eq_true (by kernel_rfl)) (by kernel_rfl) d6
      exact .inl ⟨rfl, fun K hk => wp_val (v := (.pointer (some ⟨g, 1, none⟩))) (by generalize a.eval = ρ at *; unfold execOp; simp only [e39]; go_simp) (hk _ (hI.trans (stc_keep (by decide) (by decide) (by decide)).symm))⟩
    · have d7 := hdeps ⟨7, .data⟩ (by simp) rfl
      have e40 : a.eval (.tmp 40) = (.pointer (some ⟨g, 1, none⟩)) := tabd_at ht (t := 40) (of_decide_eq_true (by kernel_rfl)) (by kernel_rfl) d7
      have h : w0.cell? ⟨g, 1, none⟩ = some ((.slice A3 N cB)) := by rw [hI]; exact F8.out listed (no_of ul8 (by simp [hun]))
      exact .inl ⟨rfl, fun K hk => wp_val (v := (.slice A3 N cB)) (by clear hk hI hoi hdeps ht; generalize a.eval = ρ at *; unfold execOp; simp only [e40]; go_simp) (hk _ (hI.trans (stc_keep (by decide) (by decide) (by decide)).symm))⟩
    · have d8 := hdeps ⟨8, .data⟩ (by simp) rfl
      have e41 : a.eval (.tmp 41) = (.slice A3 N cB) := tabd_at ht (t := 41) (of_decide_eq_true (by kernel_rfl)) (by kernel_rfl) d8
      exact .inl ⟨rfl, fun K hk => wp_val (v := (.int .i64 (N : Int))) (by generalize a.eval = ρ at *; unfold execOp; simp only [e41]; go_simp) (hk _ (hI.trans (stc_keep (by decide) (by decide) (by decide)).symm))⟩
    · have d9 := hdeps ⟨9, .data⟩ (by simp) rfl
      have e42 : a.eval (.tmp 42) = (.int .i64 (N : Int)) := tabd_at ht (t := 42) (of_decide_eq_true (by kernel_rfl)) (by kernel_rfl) d9
      have hst : (Stc 10 11 14 (W4.drew) (W4.drew.alloc (.cells #[.int .i64 (N : Int)] 3)) (Z) (Z.setCell ⟨g, 2, none⟩ (.slice E5 (L + 1) d5))) listed = W4.drew ∧ (Stc 10 11 14 (W4.drew) (W4.drew.alloc (.cells #[.int .i64 (N : Int)] 3)) (Z) (Z.setCell ⟨g, 2, none⟩ (.slice E5 (L + 1) d5))) (listed.setIfInBounds 10 true) = W4.drew.alloc (.cells #[.int .i64 (N : Int)] 3) := stc_0 (by decide) (by decide) uj uk (by omega) hun
      have hw : W4.drew = w0 := (hI.trans hst.1).symm
      subst hw
      exact .inl ⟨rfl, fun K hk => wp_buildSlice 47 3 1 _ rfl #[.int .i64 (N : Int)] i1 _ Tryd.underlying47 hi1 hz1 (by rw [hs1]; decide) (by rw [hs1]; decide) (by rw [hs1]; simp only [List.map_toArray, List.map_cons, List.map_nil, e42]; kernel_rfl) (hk _ hst.2.symm)⟩
    · have d4 := hdeps ⟨4, .data⟩ (by simp) rfl
      have d10 := hdeps ⟨10, .data⟩ (by simp) rfl
      have e37 : a.eval (.tmp 37) = (.slice E L d) := tabd_at ht (t := 37) (of_decide_eq_true (by kernel_rfl)) (by kernel_rfl) d4
      have e43 : a.eval (.tmp 43) = (.slice (some ⟨W4.drew.heap.size, 0, none⟩) 1 1) := tabd_at ht (t := 43) (of_decide_eq_true (by kernel_rfl)) (by kernel_rfl) d10
      have hst : (Stc 10 11 14 (W4.drew) (W4.drew.alloc (.cells #[.int .i64 (N : Int)] 3)) (Z) (Z.setCell ⟨g, 2, none⟩ (.slice E5 (L + 1) d5))) listed = W4.drew.alloc (.cells #[.int .i64 (N : Int)] 3) ∧ (Stc 10 11 14 (W4.drew) (W4.drew.alloc (.cells #[.int .i64 (N : Int)] 3)) (Z) (Z.setCell ⟨g, 2, none⟩ (.slice E5 (L + 1) d5))) (listed.setIfInBounds 11 true) = Z := stc_1 (by decide) (by decide) uk (by omega) hun d10
      have hw : W4.drew.alloc (.cells #[.int .i64 (N : Int)] 3) = w0 := (hI.trans hst.1).symm
      subst hw
      exact .inl ⟨rfl, fun K hk => wp_valT (v := (.slice E5 (L + 1) d5)) (w' := Z) (app_op _ _ rfl e37 e43 HR.out) (hk _ hst.2.symm)⟩
    · have d0 := hdeps ⟨0, .data⟩ (by simp) rfl
      have e33 : a.eval (.tmp 33) = (.pointer (some ⟨g, 0, none⟩)) := tabd_at ht (t := 33) (of_decide_eq_true (by kernel_rfl)) (by kernel_rfl) d0
      exact .inl ⟨rfl, fun K hk => wp_val (v := (.pointer (some ⟨g, 0, none⟩))) (by generalize a.eval = ρ at *; unfold execOp; simp only [e33]; go_simp) (hk _ (hI.trans (stc_keep (by decide) (by decide) (by decide)).symm))⟩
    · have d12 := hdeps ⟨12, .data⟩ (by simp) rfl
      have e45 : a.eval (.tmp 45) = (.pointer (some ⟨g, 0, none⟩)) := tabd_at ht (t := 45) (of_decide_eq_true (by kernel_rfl)) (by kernel_rfl) d12
      exact .inl ⟨rfl, fun K hk => wp_val (v := (.pointer (some ⟨g, 2, none⟩))) (by generalize a.eval = ρ at *; unfold execOp; simp only [e45]; go_simp) (hk _ (hI.trans (stc_keep (by decide) (by decide) (by decide)).symm))⟩
    · have d13 := hdeps ⟨13, .data⟩ (by simp) rfl
      have d11 := hdeps ⟨11, .data⟩ (by simp) rfl
      have e44 : a.eval (.tmp 44) = (.slice E5 (L + 1) d5) := tabd_at ht (t := 44) (of_decide_eq_true (by kernel_rfl)) (by kernel_rfl) d11
      have e46 : a.eval (.tmp 46) = (.pointer (some ⟨g, 2, none⟩)) := tabd_at ht (t := 46) (of_decide_eq_true (by kernel_rfl)) (by kernel_rfl) d13
      have hst : (Stc 10 11 14 (W4.drew) (W4.drew.alloc (.cells #[.int .i64 (N : Int)] 3)) (Z) (Z.setCell ⟨g, 2, none⟩ (.slice E5 (L + 1) d5))) listed = Z ∧ (Stc 10 11 14 (W4.drew) (W4.drew.alloc (.cells #[.int .i64 (N : Int)] 3)) (Z) (Z.setCell ⟨g, 2, none⟩ (.slice E5 (L + 1) d5))) (listed.setIfInBounds 14 true) = Z.setCell ⟨g, 2, none⟩ (.slice E5 (L + 1) d5) := stc_2 (by decide) (by omega) hun d11
      have hw : Z = w0 := (hI.trans hst.1).symm
      subst hw
      exact .inl ⟨rfl, fun K hk => wp_skipT (w' := Z.setCell ⟨g, 2, none⟩ (.slice E5 (L + 1) d5)) (by have h1 := CZ.out; have h2 := FZ.out; clear hk hst hI ht hoi hdeps; generalize a.eval = ρ at *; unfold execOp; simp only [e44, e46]; go_simp) (hk _ hst.2.symm)⟩
  case hend =>
    intro a w0 listed hall ht hI
    rw [tabd_fill ht (fun t i ho => hall i (ownAll_lt ho))]
    have hw : w0 = _ := hI.trans (stc_end (hall 14 (of_decide_eq_true (by kernel_rfl))))
    change (Exit.then _ _) Exit.normal { tmps := #[(.pointer (some ⟨g, 0, none⟩)), (.slice A k c), undef, undef, (.int .i64 0), (.int .i64 (L : Int)), u6, u7, u8, u9, u10, u11, u12, u13, u14, (.pointer (some ⟨g, 0, none⟩)), (.int .i64 (L : Int)), (.pointer (some ⟨g, 0, none⟩)), (.pointer (some ⟨g, 0, none⟩)), (.pointer (some ⟨g, 3, none⟩)), (.map (some m)), (.slice A k c), (St b), (.int .i64 (L : Int)), (.pointer (some ⟨g, 0, none⟩)), (.pointer (some ⟨g, 0, none⟩)), (.pointer (some ⟨g, 0, none⟩)), (.pointer (some ⟨g, 1, none⟩)), vB, (.slice A k c), (.slice A3 N cB), (.pointer (some ⟨g, 0, none⟩)), (.pointer (some ⟨g, 1, none⟩)), (.pointer (some ⟨g, 0, none⟩)), (.pointer (some ⟨g, 0, none⟩)), (.pointer (some ⟨g, 0, none⟩)), (.pointer (some ⟨g, 2, none⟩)), (.slice E L d), (.pointer (some ⟨g, 0, none⟩)), (.pointer (some ⟨g, 0, none⟩)), (.pointer (some ⟨g, 1, none⟩)), (.slice A3 N cB), (.int .i64 (N : Int)), (.slice (some ⟨W4.drew.heap.size, 0, none⟩) 1 1), (.slice E5 (L + 1) d5), (.pointer (some ⟨g, 0, none⟩)), (.pointer (some ⟨g, 2, none⟩)), undef], defers := [] } w0
    clear hall ht hI
    subst hw
    generalize Z.setCell ⟨g, 2, none⟩ (.slice E5 (L + 1) d5) = W6 at *
    clear HR F4 F8 CZ FZ
    go_wp2
    go_ret
    have e1 : (cs ++ [b]).flatten = cs.flatten ++ b := by rw [List.flatten_append]; simp
    have e2 : endsV (cs ++ [b]) = endsV cs ++ [.int .i64 (N : Int)] := by rw [endsV_snoc, e1, NN.out]
    have e3 : (cs ++ [b]).length = L + 1 := by rw [List.length_append, LL.out]; rfl
    have nd : (cs ++ [b]).Nodup := by
      rw [List.nodup_append]
      refine ⟨ND.out, by simp, fun x hx y hy e => ?_⟩
      rw [List.mem_singleton.1 hy] at e
      exact NO.out (e ▸ hx)
    have hst : Stk W6 _ g lim (cs ++ [b]) _ _ (.map (some m)) := half_stk (by rw [e1, e2, e3]; exact H6.out) nd
    have z1 := HK.out.size
    have z2 := Z2.out
    have z3 := K4.out.size
    have z4 := S4.out.size
    exact ⟨_, _, _, _, rfl, hst, fun i hi => by
      rcases hi with (hi | hi) | hi
      · rcases HSUB.out i hi with h | h
        · exact .inl h
        · exact .inr (by omega)
      · exact .inr (by omega)
      · exact .inr (by omega), keeps_trans HK.out (keeps_trans K4.out (keeps_trans (keeps_below S4.out) K6.out (sub_refl _ _)) (fun i hi => by
      rcases hi with hi | hi
      · exact .inl hi
      · exact .inr (by omega))) (fun i hi => by
      rcases HSUB.out i hi with h | h
      · exact .inl h
      · exact .inr (by omega))⟩
end
end Go.Proofs.YtlnmaejpchncoaaDoor.K
