/-
What is proved here: Crash of the disk: the disk behind it, whatever its bytes.
-/
import Derived.Test.YtibidljblkfciaaIterb
import Derived.Test.YtibidljblkfciaaHold
import Derived.Test.YtibidljblkfciaaTbm
set_option linter.unusedSimpArgs false
namespace Go.Proofs.Ytibidljblkfciaa
open Go.Word Go.RowKit Go.Shelf

attribute [local go_sem] Oper.semAt_some

theorem last_in (F : Fence) (n : Nat) (h42 : F.fn 42) (hro : F.round = none) (p : Option Addr) (w : World) :
    CallsIn F n Try.prog 42 #[.pointer p] w fun e w' => e = .returned (.func (.func 45) #[] #[.pointer (some ⟨w.heap.size, 0, none⟩)]) ∧ w' = w.alloc (.cells #[.pointer p] 25) := by
  refine callsIn_of_wp Try.func42 rfl h42 ?_ hro
  simp only [Try.ntmps42, List.size_toArray, List.length_cons, List.length_nil, Nat.reduceAdd, Nat.reduceSub, Array.replicate_succ, Array.replicate_zero, List.push_toArray, List.append_toArray, List.nil_append, List.cons_append]
  gi_wp2
  go_ret
  exact ⟨rfl, rfl⟩
/-- a disk stays where what turns is no cells -/
theorem dsk_own {X Y : World} {row : Option Nat} {g B base n K : Nat} {f : Nat → BitVec 8} {hv : Value} {hs : List Ent} {on : Bool} {lf : Int} (h : Dsk X g B base n K f hv hs on lf) (hg : X.grownBy Y row) (hr : ∀ r, row = some r → ∃ o : Obj, X.heap[r]? = some o ∧ o.isCells = false) : Dsk Y g B base n K f hv hs on lf where
  self := lies_own g 65 _ h.self hg hr
  bytes := lies_own B 5 _ h.bytes hg hr
  held := World.ownsRow.kept h.held hg (by
    cases hk : hv.ownBlock with
    | none => simp
    | some k =>
      refine .inr (fun e => ?_)
      obtain ⟨o, ho, hc⟩ := hr k e.symm
      rcases h.held.2 with ⟨rfl, _⟩ | ⟨gg, cap, cur, rfl, _, hgg, _⟩
      · cases hk
      · have e1 : gg = k := by simpa [Value.ownBlock] using hk
        subst e1
        rw [hgg] at ho
        injection ho with ho
        subst ho
        cases hc)
  size := h.size
  most := h.most
  ord := ⟨h.ord.1, h.ord.2.1, Nat.le_trans h.ord.2.2 hg.size⟩
  rows := fun e he => by
    obtain ⟨h1, h2, h3, h4, h5, h6, h7⟩ := h.rows e he
    exact ⟨h1, h2, h3, lies_own e.a 5 _ h4 hg hr, lies_own e.c 5 _ h5 hg hr, h6, h7⟩
theorem block_in (F : Fence) (m : Nat) (h40 : F.fn 40) (hro : F.round = none) (g B n K : Nat) (hv : Value) (on : Bool) (lf : Int) (at_ p : Nat) (w : World) (hK : K = 512 * n) (hn : n ≤ 4096) (hp : p = 512 * at_) (ha : at_ < n) (h : Lies w g 65 (DRow B K hv on lf)) :
    CallsIn F m Try.prog 40 #[.pointer (some ⟨g, 0, none⟩), .int .i64 (at_ : Int)] w fun e w' => e = .returned (.slice (some ⟨B, p, none⟩) 512 512) ∧ w = w' := by
  have c0 : w.cell? ⟨g, 0, none⟩ = some (.slice (some ⟨B, 0, none⟩) K K) := lies_cell h 0
  have hs := fun W => slice_block B K p (by omega) W
  have e1 : (at_ : Int) * 512 = (p : Int) := by omega
  have e2 : ((at_ : Int) + 1) * 512 = (p : Int) + 512 := by omega
  have hb : at_ ≤ 4096 := by omega
  clear h hK hp
  refine callsIn_of_wp Try.func40 rfl h40 ?_ hro
  simp only [Try.ntmps40, List.size_toArray, List.length_cons, List.length_nil, Nat.reduceAdd, Nat.reduceSub, Array.replicate_succ, Array.replicate_zero, List.push_toArray, List.append_toArray, List.nil_append, List.cons_append]
  gi_wp2
  go_ret
  exact ⟨rfl, rfl⟩
theorem call40 {ρ : Operand → Value} {oi : Oper} {w : World} {u v : Value} (x y : Operand) (ho : oi.op = .call { callee := .value (.func 40), args := #[x, y], argTypes := #[25, 3] }) (hf : ρ (.func 40) = .func (.func 40) #[] #[]) (hx : ρ x = u) (hy : ρ y = v) : (execOp ρ oi).run Try.prog w = .ok (.enter 40 #[u, v]) w := by
  unfold execOp
  simp only [ho]
  go_simp
theorem about40 {ρ : Operand → Value} {oi : Oper} {w : World} (x y : Operand) (ho : oi.op = .call { callee := .value (.func 40), args := #[x, y], argTypes := #[25, 3] }) (hf : ρ (.func 40) = .func (.func 40) #[] #[]) : oi.about Try.prog w ρ = some 40 := by
  unfold Oper.about
  simp only [ho]
  go_simp
theorem aboutCopy {ρ : Operand → Value} {oi : Oper} {w : World} (x y : Operand) (ho : oi.op = .call { callee := .builtin .copy, args := #[x, y], argTypes := #[44, 44] }) : oi.about Try.prog w ρ = none := by
  unfold Oper.about
  simp only [ho]
  go_simp
theorem openIn_take {F : Fence} {n : Nat} {P : Program} {md : Region.Mode} {ops : Array Oper} {Q : Exit → Act → World → Prop} {fuel : Nat} {listed : Array Bool} {a : Act} {w : World} (hro : F.round = none) (i : Nat) (d : Option Tmp) (v : Value) {oi : Oper} (hi : ops[i]? = some oi) (hd : oi.dst = d) (hs : Region.noSelect ops = true) (hf : Region.free md ops listed i = true) (hr : (Region.ready md ops listed).contains i = true)
    (hQ : ∀ c a w, Q (.panic c) (a.put oi.dst v) w → Q (.panic c) a w) (hy : YieldsFenced P ops oi v a)
    (h : wpAnyIn F n P md ops Q fuel (listed.setIfInBounds i true) (a.put d v) w) : wpAnyIn F n P md ops Q (fuel + 1) listed a w :=
  wpAnyIn_take hro hi hs hf hr hQ hy (by rw [hd]; exact h)
theorem openIn_value {F : Fence} {n : Nat} {P : Program} {md : Region.Mode} {ops : Array Oper} {Q : Exit → Act → World → Prop} {fuel : Nat} {listed : Array Bool} {a : Act} {w : World} {i : Nat} {rs : List Nat} (d : Option Tmp) (v : Value) {oi : Oper} (hi : ops[i]? = some oi) (hd : oi.dst = d) (hg : oi.guard = none) (hnd : ∀ c, oi.op ≠ .defer c) (hab : oi.about P w a.eval = none) (hr : (execOp a.eval oi).run P w = .ok (.value v) w)
    (h : wpAnyIn F n P md ops Q fuel (listed.setIfInBounds i true) (a.put d v) w) (hs : AllReadyIn F n P md ops Q fuel listed a w rs) : AllReadyIn F n P md ops Q fuel listed a w (i :: rs) :=
  AllReadyIn.cons hi (fun K hK => by
    rw [if_pos (by simp [Region.wanted, hg])]
    exact wpIn_value hnd hab hr (by rw [hd]; exact hK _ _ h)) hs
theorem openIn_skip {F : Fence} {n : Nat} {P : Program} {md : Region.Mode} {ops : Array Oper} {Q : Exit → Act → World → Prop} {fuel : Nat} {listed : Array Bool} {a : Act} {w : World} {i : Nat} {rs : List Nat} (w' : World) {oi : Oper} (hi : ops[i]? = some oi) (hd : oi.dst = none) (hg : oi.guard = none) (hnd : ∀ c, oi.op ≠ .defer c) (hab : oi.about P w a.eval = none) (hr : (execOp a.eval oi).run P w = .ok .skip w')
    (h : wpAnyIn F n P md ops Q fuel (listed.setIfInBounds i true) a w') (hs : AllReadyIn F n P md ops Q fuel listed a w rs) : AllReadyIn F n P md ops Q fuel listed a w (i :: rs) :=
  AllReadyIn.cons hi (fun K hK => by
    rw [if_pos (by simp [Region.wanted, hg])]
    refine ⟨fun f hf => (by rw [hab] at hf; cases hf), ?_⟩
    rw [Oper.semAt_eq _ _ _ hnd, hr]
    show K (a.put oi.dst undef) w'
    rw [hd]
    exact hK _ _ h) hs
theorem store63 {ρ : Operand → Value} {oi : Oper} {w : World} {g N C : Nat} {A : Option Addr} (x : Operand) (ho : oi.op = .store 63 x (.const (.slice none 0 0))) (hx : ρ x = .pointer (some ⟨g, 1, none⟩)) (hy : ρ (.const (.slice none 0 0)) = .slice none 0 0) (hc : w.cell? ⟨g, 1, none⟩ = some (.slice A N C)) (hf : w.frozen? ⟨g, 1, none⟩ = false) : (execOp ρ oi).run Try.prog w = .ok .skip (w.setCell ⟨g, 1, none⟩ (.slice none 0 0)) := by
  unfold execOp
  simp only [ho, hx, hy]
  go_simp
theorem store4 {ρ : Operand → Value} {oi : Oper} {w : World} {g : Nat} {b : Bool} (x : Operand) (ho : oi.op = .store 4 x (.const (.bool true))) (hx : ρ x = .pointer (some ⟨g, 2, none⟩)) (hy : ρ (.const (.bool true)) = .bool true) (hc : w.cell? ⟨g, 2, none⟩ = some (.bool b)) (hf : w.frozen? ⟨g, 2, none⟩ = false) : (execOp ρ oi).run Try.prog w = .ok .skip (w.setCell ⟨g, 2, none⟩ (.bool true)) := by
  unfold execOp
  simp only [ho, hx, hy]
  go_simp
theorem store3 {ρ : Operand → Value} {oi : Oper} {w : World} {g : Nat} {z : Int} (x : Operand) (ho : oi.op = .store 3 x (.const (.int .i64 (-1)))) (hx : ρ x = .pointer (some ⟨g, 3, none⟩)) (hy : ρ (.const (.int .i64 (-1))) = .int .i64 (-1)) (hc : w.cell? ⟨g, 3, none⟩ = some (.int .i64 z)) (hf : w.frozen? ⟨g, 3, none⟩ = false) : (execOp ρ oi).run Try.prog w = .ok .skip (w.setCell ⟨g, 3, none⟩ (.int .i64 (-1))) := by
  unfold execOp
  simp only [ho, hx, hy]
  go_simp
theorem rep_false (n i : Nat) : (Array.replicate n false).getD i false = false := by
  rw [Array.getD_eq_getD_getElem?]
  by_cases h : i < n <;> simp [h]
theorem ent_at {hs : List Ent} {d : Ent} {k : Nat} (h : k < hs.length) : hs.getD k d ∈ hs := by
  rw [List.getD_eq_getElem?_getD, List.getElem?_eq_getElem h]
  exact List.getElem_mem h
set_option maxRecDepth 100000 in
set_option maxHeartbeats 8000000 in
theorem crash_in (F : Fence) (n' : Nat) (h26 : F.fn 26) (h42 : F.fn 42) (h45 : F.fn 45) (h33 : F.fn 33) (h43 : F.fn 43) (h40 : F.fn 40) (hro : F.round = none) (hn : 4 ≤ n') {g B base n K : Nat} {f : Nat → BitVec 8} {hb N C : Nat} {hs : List Ent} {on : Bool} {lf : Int} (w : World) (hN : N = hs.length) (hNm : N ≤ 70000) (d : { e : Ent // e ∈ hs })
    (h : Dsk w g B base n K f (.slice (some ⟨hb, 0, none⟩) N C) hs on lf) :
    CallsIn F n' Try.prog 26 #[.pointer (some ⟨g, 0, none⟩), .slice none 0 0] w fun e w' => e = .returned (.tuple #[]) ∧ ∃ f', Dsk w' g B base n K f' (.slice none 0 0) [] true (-1) ∧ Below B w w' := by
  have h1 : 1 ≤ n' := by omega
  refine callsIn_of_wp_marks Try.func26 rfl h26 ?_ hro
  simp only [Try.ntmps26, List.size_toArray, List.length_cons, List.length_nil, Nat.reduceAdd, Nat.reduceSub, Array.replicate_succ, Array.replicate_zero, List.push_toArray, List.append_toArray, List.nil_append, List.cons_append]
  gi_wp2_with (gi_at_call 42; refine (last_in F (n' - 1) h42 hro _ _).mono ?_; rintro e w' ⟨rfl, rfl⟩)
  have bD := ((Boxed.new w 25 (.pointer (some ⟨g, 0, none⟩))).alloc (.cells #[.slice none 0 0] 31)).alloc (.cells #[.pointer (some ⟨g, 0, none⟩)] 25)
  have bK := (Boxed.new (w.alloc (.cells #[.pointer (some ⟨g, 0, none⟩)] 25)) 31 (.slice none 0 0)).alloc (.cells #[.pointer (some ⟨g, 0, none⟩)] 25)
  have bN := Boxed.new ((w.alloc (.cells #[.pointer (some ⟨g, 0, none⟩)] 25)).alloc (.cells #[.slice none 0 0] 31)) 25 (.pointer (some ⟨g, 0, none⟩))
  simp only [World.size_alloc] at bK bN
  have hB0 : Below w.heap.size w (((w.alloc (.cells #[.pointer (some ⟨g, 0, none⟩)] 25)).alloc (.cells #[.slice none 0 0] 31)).alloc (.cells #[.pointer (some ⟨g, 0, none⟩)] 25)) := (((Below.refl _ w).alloc (Nat.le_refl _) _).alloc (by simp) _).alloc (by simp; omega) _
  have hsz : (((w.alloc (.cells #[.pointer (some ⟨g, 0, none⟩)] 25)).alloc (.cells #[.slice none 0 0] 31)).alloc (.cells #[.pointer (some ⟨g, 0, none⟩)] 25)).heap.size = w.heap.size + 3 := by simp
  have hd0 := dsk_below h hB0
  obtain ⟨W0, hW0⟩ : ∃ W0, (((w.alloc (.cells #[.pointer (some ⟨g, 0, none⟩)] 25)).alloc (.cells #[.slice none 0 0] 31)).alloc (.cells #[.pointer (some ⟨g, 0, none⟩)] 25)) = W0 := ⟨_, rfl⟩
  rw [hW0] at bD bK bN hB0 hsz hd0 ⊢
  clear hW0
  have hord := h.ord
  have hgl := lies_lt h.self
  have hbl : hb < w.heap.size ∧ base ≤ hb := by
    have := World.ownsRow.lt h.held hb rfl
    exact ⟨this.2, this.1⟩
  have hcells : ∀ k, k < N → W0.cell? ⟨hb, k * 3, none⟩ = some (.int .i64 ((hs.getD k d.1).at_ : Int)) ∧ W0.cell? ⟨hb, k * 3 + 1, none⟩ = some (.slice (some ⟨(hs.getD k d.1).a, 0, none⟩) 512 512) ∧ W0.cell? ⟨hb, k * 3 + 2, none⟩ = some (.slice (some ⟨(hs.getD k d.1).c, 0, none⟩) 512 512) := fun k hk => by
    have at_ : ∀ i, i < 3 → W0.cell? ⟨hb, k * 3 + i, none⟩ = (Ent.cells (hs.getD k d.1))[i]? := fun i hi => by
      have hh := hd0.held
      rw [← hN] at hh
      rw [World.ownsRow.cellAt hh (k * 3 + i) (by omega)]
      exact flat_at hs k i d.1 (by omega) hi
    exact ⟨at_ 0 (by decide), at_ 1 (by decide), at_ 2 (by decide)⟩
  refine wpIn_rangeFunc_ownH hro (by omega) (gf := 45) (lb := #[.pointer (some ⟨w.heap.size + 1 + 1, 0, none⟩)]) rfl h45 (enters_of Try.func45 (by kernel_rfl) rfl)
    (encs := encLa (fun x : { e : Ent // e ∈ hs } => x.1)) (Kp := KB B (w.heap.size + 3)) (S := fun _ => True) (Sp := fun _ => True) (N := N) (w0 := W0)
    (fun l J Jx W hW hJ _ hY hj0 => (iterl_in (fun x : { e : Ent // e ∈ hs } => x.1) F (n' - 1) h45 hro (by omega) l (w.heap.size + 1 + 1) (w.heap.size + 3) B g hb N C (fun k => if hk : k < hs.length then ⟨hs.getD k d.1, ent_at hk⟩ else d) hNm (by omega) (by omega) (by omega) (by omega) (by omega) (by omega) J Jx hY W ((hW.cell (p := ⟨w.heap.size + 1 + 1, 0, none⟩) (by show w.heap.size + 1 + 1 < W0.heap.size; omega)).trans bN.cell) ((hW.cell (p := ⟨g, 1, none⟩) (by show g < W0.heap.size; omega)).trans (lies_cell hd0.self 1)) (fun k hk => by
      rw [dif_pos (by omega)]
      obtain ⟨x0, x1, x2⟩ := hcells k hk
      exact ⟨(hW.cell (p := ⟨hb, k * 3, none⟩) (by show hb < W0.heap.size; omega)).trans x0, (hW.cell (p := ⟨hb, k * 3 + 1, none⟩) (by show hb < W0.heap.size; omega)).trans x1, (hW.cell (p := ⟨hb, k * 3 + 2, none⟩) (by show hb < W0.heap.size; omega)).trans x2⟩) hj0).mono (fun e W' ⟨he, hr⟩ => ⟨he, by
        rcases hr with ⟨ys, _, hj⟩ | ⟨pre, _, hj⟩
        · exact .inl ⟨ys, trivial, hj⟩
        · exact .inr ⟨pre, trivial, hj⟩⟩))
    kb_t (fun W l o o' hl ho h1 h2 => kb_b (w := W0) (by omega) W l o o' hl ho h1 h2) (Below.refl _ _) (fun _ => rfl)
    (fun pre W => (Boxed W w.heap.size 25 (.pointer (some ⟨g, 0, none⟩)) ∧ Boxed W (w.heap.size + 1) 31 (.slice none 0 0)) ∧ ((∃ f', Dsk W g B base n K f' (.slice (some ⟨hb, 0, none⟩) N C) hs on lf) ∧ w.heap.size + 3 ≤ W.heap.size) ∧ Below B w W)
    (fun _ _ _ => False)
    (OwnFrom.and (OwnFrom.and (Own.from (boxed_own _ _ _) _) (Own.from (boxed_own _ _ _) _)) (OwnFrom.and (fun _ X Y row hs' hg hr => by obtain ⟨⟨f', hd⟩, hz⟩ := hs'; exact ⟨⟨f', dsk_own hd hg (fun r e => (hr r e).2)⟩, Nat.le_trans hz hg.size⟩) (ownFrom_below (by omega) (by omega))))
    (fun _ _ _ _ _ hs _ _ => hs)
    ⟨⟨bD, bK⟩, ⟨⟨f, hd0⟩, by omega⟩, hB0.mono (by omega)⟩
    (fun x a' W => ∃ Bx, w.heap.size + 3 ≤ Bx ∧ Lies W Bx 73 (Ent.arr x.1) ∧ a' = { tmps := #[.pointer (some ⟨g, 0, none⟩), .slice none 0 0, .pointer (some ⟨w.heap.size, 0, none⟩), .pointer (some ⟨w.heap.size + 1, 0, none⟩), .pointer (some ⟨Bx, 0, none⟩), undef, undef, .pointer (some ⟨g, 0, none⟩), .bool false, .pointer (some ⟨g, 0, none⟩), .func (.func 45) #[] #[.pointer (some ⟨w.heap.size + 1 + 1, 0, none⟩)], .agg (Ent.arr x.1), undef, undef, undef, undef, undef, undef, undef, undef, undef, undef, undef, undef, undef, undef, undef, undef, undef, undef, undef, undef, undef, undef, undef, undef, undef, undef, undef, undef, undef, undef, undef, undef, undef, undef, undef, undef, undef, undef, undef, undef, undef], defers := [] })
    (fun x a' _ X Y row hs hg hr => by obtain ⟨Bx, h0, h1, h2⟩ := hs; exact ⟨Bx, h0, lies_own Bx 73 _ h1 hg (fun r e => (hr r e).2), h2⟩)
    ?assign ?body ?done ?stop
  case assign =>
    rintro l pre x W K ⟨⟨bD1, bK1⟩, ⟨⟨f', hd1⟩, hz1⟩, hB1⟩ hK
    dsimp only [encLa, Ent.arr]
    gi_wp2
    exact hK _ _ ((KeepsOthers.alloc _ _).from _) (kb_below ((Below.refl _ W).alloc hz1 _)) ⟨⟨bD1.alloc _, bK1.alloc _⟩, ⟨⟨f', dsk_below hd1 ((Below.refl _ W).alloc (Nat.le_refl _) _)⟩, by simp; omega⟩, hB1.alloc (by omega) _⟩ ⟨W.heap.size, hz1, lies_new W 73 _, rfl⟩
  case body =>
    rintro l pre x a' W hl ⟨r, hr⟩ ⟨⟨bD1, bK1⟩, ⟨⟨f', hd1⟩, hz1⟩, hB1⟩ ⟨Bx, hBx, lx, rfl⟩ hlt
    have cD := bD1.cell
    have cx0 : W.cell? ⟨Bx, 0, none⟩ = some (.int .i64 (x.1.at_ : Int)) := lies_cell lx 0
    have cx1 : W.cell? ⟨Bx, 1, none⟩ = some (.slice (some ⟨x.1.a, 0, none⟩) 512 512) := lies_cell lx 1
    have cx2 : W.cell? ⟨Bx, 2, none⟩ = some (.slice (some ⟨x.1.c, 0, none⟩) 512 512) := lies_cell lx 2
    have h1m : 1 ≤ n' - 1 - 1 := by omega
    obtain ⟨r1, r2, r3, r4, r5, r6, r7⟩ := hd1.rows x.1 x.2
    obtain ⟨K0, hK0⟩ : ∃ k, k = K := ⟨_, rfl⟩
    have hK := hd1.size
    have hmost := hd1.most
    obtain ⟨p, hp⟩ : ∃ p, p = 512 * x.1.at_ := ⟨_, rfl⟩
    have BK := CallsIn.inRound l (block_in F (n' - 1 - 1 - 1) h40 hro g B n K _ on lf x.1.at_ p W.drew hK hmost.2 hp r1 hd1.self)
    gi_wp2
    refine wpIn_region_any (by kernel_rfl) ?_
    refine table_in (own := ownOf _ 7) (vals := fun i => match i with | 0 => .pointer (some ⟨g, 0, none⟩) | 1 => .pointer (some ⟨Bx, 0, none⟩) | 2 => .pointer (some ⟨Bx, 0, none⟩) | 3 => .int .i64 (x.1.at_ : Int) | 4 => .slice (some ⟨B, p, none⟩) 512 512 | 5 => .pointer (some ⟨Bx, 2, none⟩) | _ => .slice (some ⟨x.1.c, 0, none⟩) 512 512) 7 W.drew (ac_of (by kernel_rfl)) (dst_of (by kernel_rfl)) ?hop ?hall ?hl _ _ _ rfl ?hcl rfl (of_decide_eq_true (by kernel_rfl)) (tabd_start ?hst)
    case hop =>
      intro i oi a listed hoi hil hdeps ht
      have hi8 : i < 8 := (Array.getElem?_eq_some_iff.1 hoi).1
      obtain rfl | rfl | rfl | rfl | rfl | rfl | rfl : i = 0 ∨ i = 1 ∨ i = 2 ∨ i = 3 ∨ i = 4 ∨ i = 5 ∨ i = 6 := by omega
      · obtain rfl := Option.some.inj hoi
        exact ⟨rfl, fun K hk => wpIn_value (fun c h => by cases h) rfl (load25 (.tmp 2) rfl ((tabd_old ht (of_decide_eq_true (by kernel_rfl)) (by kernel_rfl)).trans rfl) cD) hk⟩
      · obtain rfl := Option.some.inj hoi
        exact ⟨rfl, fun K hk => wpIn_value (fun c h => by cases h) rfl (field730 (.tmp 4) rfl ((tabd_old ht (of_decide_eq_true (by kernel_rfl)) (by kernel_rfl)).trans rfl)) hk⟩
      · obtain rfl := Option.some.inj hoi
        have d1 := hdeps ⟨1, .data⟩ (by simp) rfl
        exact ⟨rfl, fun K hk => wpIn_value (fun c h => by cases h) rfl (field710 (.tmp 13) rfl (tabd_at ht (of_decide_eq_true (by kernel_rfl)) (by kernel_rfl) d1)) hk⟩
      · obtain rfl := Option.some.inj hoi
        have d1 := hdeps ⟨2, .data⟩ (by simp) rfl
        exact ⟨rfl, fun K hk => wpIn_value (fun c h => by cases h) rfl (load3 (.tmp 14) rfl (tabd_at ht (of_decide_eq_true (by kernel_rfl)) (by kernel_rfl) d1) cx0) hk⟩
      · obtain rfl := Option.some.inj hoi
        have d1 := hdeps ⟨0, .data⟩ (by simp) rfl
        have d2 := hdeps ⟨3, .data⟩ (by simp) rfl
        have v1 := tabd_at ht (t := 12) (of_decide_eq_true (by kernel_rfl)) (by kernel_rfl) d1
        have v2 := tabd_at ht (t := 15) (of_decide_eq_true (by kernel_rfl)) (by kernel_rfl) d2
        exact ⟨rfl, fun K' hk => wpIn_call (fun c h => by cases h) (fun f hf => by rw [about40 (.tmp 12) (.tmp 15) rfl rfl] at hf; injection hf with hf; subst hf; exact h40) (call40 (.tmp 12) (.tmp 15) rfl rfl v1 v2) h1m BK hk⟩
      · obtain rfl := Option.some.inj hoi
        exact ⟨rfl, fun K hk => wpIn_value (fun c h => by cases h) rfl (field731 (.tmp 4) rfl ((tabd_old ht (of_decide_eq_true (by kernel_rfl)) (by kernel_rfl)).trans rfl)) hk⟩
      · obtain rfl := Option.some.inj hoi
        have d1 := hdeps ⟨5, .data⟩ (by simp) rfl
        exact ⟨rfl, fun K hk => wpIn_value (fun c h => by cases h) rfl (load44 (.tmp 17) rfl (tabd_at ht (of_decide_eq_true (by kernel_rfl)) (by kernel_rfl) d1) cx2) hk⟩
    case hall =>
      intro listed hcl hlast i hi hne
      have e4 := hlast _ rfl ⟨4, .data⟩ (by simp) rfl
      have e6 := hlast _ rfl ⟨6, .data⟩ (by simp) rfl
      have e0 := hcl 4 _ rfl e4 ⟨0, .data⟩ (by simp) rfl
      have e3 := hcl 4 _ rfl e4 ⟨3, .data⟩ (by simp) rfl
      have e2 := hcl 3 _ rfl e3 ⟨2, .data⟩ (by simp) rfl
      have e1 := hcl 2 _ rfl e2 ⟨1, .data⟩ (by simp) rfl
      have e5 := hcl 6 _ rfl e6 ⟨5, .data⟩ (by simp) rfl
      have hi8 : i < 8 := hi
      obtain rfl | rfl | rfl | rfl | rfl | rfl | rfl : i = 0 ∨ i = 1 ∨ i = 2 ∨ i = 3 ∨ i = 4 ∨ i = 5 ∨ i = 6 := by omega
      all_goals assumption
    case hcl =>
      intro i oi _ hi
      rw [rep_false] at hi
      cases hi
    case hst => exact fun i => rep_false _ i
    case hl =>
      intro a listed hall ht K hk
      have v1 := tabd_at ht (t := 16) (of_decide_eq_true (by kernel_rfl)) (by kernel_rfl) (hall 4 (of_decide_eq_true (by kernel_rfl)) (by decide))
      have v2 := tabd_at ht (t := 18) (of_decide_eq_true (by kernel_rfl)) (by kernel_rfl) (hall 6 (of_decide_eq_true (by kernel_rfl)) (by decide))
      have hpK : p + 512 ≤ K0 := by rw [hK0]; omega
      refine (show Oper.wpIn _ _ _ _ _ _ _ _ from wpIn_turn (fun c h => by cases h) (fun f hf => by rw [aboutCopy (.tmp 16) (.tmp 18) rfl] at hf; cases hf) (copy_op (.tmp 16) (.tmp 18) rfl v1 v2 hd1.bytes r5 (by rw [hK0] at hpK; exact hpK)) (hk _ _ ⟨?_, ?_, ⟨?_, ?_⟩, ?_⟩))
      · exact KeepsFrom.of_grownBy (row := some B) (only_setRow (only_drew (World.grownBy.refl W (some B))) _) (fun j e => by cases e; omega)
      · exact ⟨rfl, rfl, rfl, by simp, fun i hi hb => setRow_other W B i _ hb⟩
      · exact (setRow_other _ _ _ _ (by omega)).trans bD1
      · exact (setRow_other _ _ _ _ (by omega)).trans bK1
      · exact ⟨⟨⟨_, dsk_bytes (f' := put f' p x.1.dc) (dsk_below hd1 (Below.drew (Below.refl _ _)))⟩, by simpa using hz1⟩, below_setRow hB1.drew (Nat.le_refl _) _⟩
  case done =>
    rintro D ys W hD _ ⟨⟨bD1, bK1⟩, ⟨⟨f', hd1⟩, hz1⟩, hB1⟩ hK
    have hord := h.ord
    have cD := bD1.cell
    have h1' : 1 ≤ n' := by omega
    gi_wp2_with (gi_at_call 33; refine (writes_in F (n' - 1) h33 hro _ _).mono ?_; rintro e w' ⟨rfl, rfl⟩)
    have bN2 := Boxed.new W 25 (.pointer (some ⟨g, 0, none⟩))
    have bb : Below W.heap.size W (W.alloc (.cells #[.pointer (some ⟨g, 0, none⟩)] 25)) := (Below.refl _ W).alloc (Nat.le_refl _) _
    have hd2 := dsk_below hd1 bb
    have bD2 := bD1.alloc (.cells #[.pointer (some ⟨g, 0, none⟩)] 25)
    have bK2 := bK1.alloc (.cells #[.pointer (some ⟨g, 0, none⟩)] 25)
    have hB2 : Below B w (W.alloc (.cells #[.pointer (some ⟨g, 0, none⟩)] 25)) := hB1.alloc (by omega) _
    have hDl : D < W.heap.size := (Array.getElem?_eq_some_iff.1 hK).1
    have hK2 : (W.alloc (.cells #[.pointer (some ⟨g, 0, none⟩)] 25)).heap[D]? = some (.deferred (some [])) := (bb.block D hDl).trans hK
    have hsz2 : (W.alloc (.cells #[.pointer (some ⟨g, 0, none⟩)] 25)).heap.size = W.heap.size + 1 := by simp
    obtain ⟨W2, hW2⟩ : ∃ W2, W.alloc (.cells #[.pointer (some ⟨g, 0, none⟩)] 25) = W2 := ⟨_, rfl⟩
    rw [hW2] at bN2 hd2 bD2 bK2 hB2 hK2 hsz2 ⊢
    clear hW2 bb
    have hcells2 : ∀ k, k < N → W2.cell? ⟨hb, k * 3, none⟩ = some (.int .i64 ((hs.getD k d.1).at_ : Int)) ∧ W2.cell? ⟨hb, k * 3 + 1, none⟩ = some (.slice (some ⟨(hs.getD k d.1).a, 0, none⟩) 512 512) ∧ W2.cell? ⟨hb, k * 3 + 2, none⟩ = some (.slice (some ⟨(hs.getD k d.1).c, 0, none⟩) 512 512) := fun k hk => by
      have at_ : ∀ i, i < 3 → W2.cell? ⟨hb, k * 3 + i, none⟩ = (Ent.cells (hs.getD k d.1))[i]? := fun i hi => by
        have hh := hd2.held
        rw [← hN] at hh
        rw [World.ownsRow.cellAt hh (k * 3 + i) (by omega)]
        exact flat_at hs k i d.1 (by omega) hi
      exact ⟨at_ 0 (by decide), at_ 1 (by decide), at_ 2 (by decide)⟩
    refine wpIn_rangeFunc_ownH hro (by omega) (gf := 43) (lb := #[.pointer (some ⟨W.heap.size, 0, none⟩)]) rfl h43 (enters_of Try.func43 (by kernel_rfl) rfl)
      (encs := encWa (fun x : { e : Ent // e ∈ hs } => x.1)) (Kp := KB B (W.heap.size + 1)) (S := fun _ => True) (Sp := fun _ => True) (N := N) (w0 := W2)
      (fun l J Jx X hX hJ _ hY hj0 => (iterb_in (fun x : { e : Ent // e ∈ hs } => x.1) F (n' - 1) h43 hro (by omega) l W.heap.size (W.heap.size + 1) B g hb N C (fun k => if hk : k < hs.length then ⟨hs.getD k d.1, ent_at hk⟩ else d) hNm (by omega) (by omega) J Jx hY X hJ (by have := hX.size; omega) ((hX.cell (p := ⟨W.heap.size, 0, none⟩) (by show W.heap.size < W2.heap.size; omega)).trans bN2.cell) ((hX.cell (p := ⟨g, 1, none⟩) (by show g < W2.heap.size; omega)).trans (lies_cell hd2.self 1)) (fun k hk => by
        rw [dif_pos (by omega)]
        obtain ⟨x0, x1, x2⟩ := hcells2 k hk
        exact ⟨(hX.cell (p := ⟨hb, k * 3, none⟩) (by show hb < W2.heap.size; omega)).trans x0, (hX.cell (p := ⟨hb, k * 3 + 1, none⟩) (by show hb < W2.heap.size; omega)).trans x1, (hX.cell (p := ⟨hb, k * 3 + 2, none⟩) (by show hb < W2.heap.size; omega)).trans x2⟩) hj0).mono (fun e W' ⟨he, hr⟩ => ⟨he, by
          rcases hr with ⟨ys, _, hj⟩ | ⟨pre, _, hj⟩
          · exact .inl ⟨ys, trivial, hj⟩
          · exact .inr ⟨pre, trivial, hj⟩⟩))
      kb_t (fun X l o o' hl ho h1 h2 => kb_b (w := W2) (by omega) X l o o' hl ho h1 h2) (Below.refl _ _) (fun _ => rfl)
      (fun pre X => (Boxed X w.heap.size 25 (.pointer (some ⟨g, 0, none⟩)) ∧ Boxed X (w.heap.size + 1) 31 (.slice none 0 0)) ∧ (((∃ f', Dsk X g B base n K f' (.slice (some ⟨hb, 0, none⟩) N C) hs on lf) ∧ (W.heap.size + 1 ≤ X.heap.size ∧ X.heap[D]? = some (.deferred (some [])))) ∧ Below B w X))
      (fun _ _ _ => False)
      (OwnFrom.and (OwnFrom.and (Own.from (boxed_own _ _ _) _) (Own.from (boxed_own _ _ _) _)) (OwnFrom.and (fun _ X Y row hs' hg hr => by obtain ⟨⟨f', hd⟩, hz, hq⟩ := hs'; exact ⟨⟨f', dsk_own hd hg (fun r e => (hr r e).2)⟩, Nat.le_trans hz hg.size, (hg.block D (by omega) (fun e => by have := (hr D e.symm).1; omega)).trans hq⟩) (ownFrom_below (by omega) (by omega))))
      (fun _ _ _ _ _ hs _ _ => hs)
      ⟨⟨bD2, bK2⟩, ⟨⟨_, hd2⟩, by omega, hK2⟩, hB2⟩
      (fun x a' X => ∃ Bx, W.heap.size + 1 ≤ Bx ∧ Lies X Bx 73 (Ent.arr x.2.1) ∧ a' = { tmps := #[.pointer (some ⟨g, 0, none⟩), .slice none 0 0, .pointer (some ⟨w.heap.size, 0, none⟩), .pointer (some ⟨w.heap.size + 1, 0, none⟩), undef, .int .i64 (x.1 : Int), .pointer (some ⟨Bx, 0, none⟩), .pointer (some ⟨g, 0, none⟩), .bool false, .pointer (some ⟨g, 0, none⟩), .func (.func 45) #[] #[.pointer (some ⟨w.heap.size + 1 + 1, 0, none⟩)], undef, undef, undef, undef, undef, undef, undef, undef, undef, .pointer (some ⟨g, 0, none⟩), .func (.func 43) #[] #[.pointer (some ⟨W.heap.size, 0, none⟩)], .int .i64 (x.1 : Int), .agg (Ent.arr x.2.1), undef, undef, undef, undef, undef, undef, undef, undef, undef, undef, undef, undef, undef, undef, undef, undef, undef, undef, undef, undef, undef, undef, undef, undef, undef, undef, undef, undef, undef], defers := [] })
      (fun x a' _ X Y row hs hg hr => by obtain ⟨Bx, h0, h1, h2⟩ := hs; exact ⟨Bx, h0, lies_own Bx 73 _ h1 hg (fun r e => (hr r e).2), h2⟩)
      ?assign2 ?body2 ?done2 ?stop2
    case assign2 =>
      rintro l pre x X KK ⟨⟨bD3, bK3⟩, ⟨⟨f3, hd3⟩, hz3, hq3⟩, hB3⟩ hKK
      dsimp only [encWa, Ent.arr]
      gi_wp2
      exact hKK _ _ ((KeepsOthers.alloc _ _).from _) (kb_below ((Below.refl _ X).alloc hz3 _)) ⟨⟨bD3.alloc _, bK3.alloc _⟩, ⟨⟨f3, dsk_below hd3 ((Below.refl _ X).alloc (Nat.le_refl _) _)⟩, by simp; omega, (Below.heap_alloc X _ D (Array.getElem?_eq_some_iff.1 hq3).1).trans hq3⟩, hB3.alloc (by omega) _⟩ ⟨X.heap.size, hz3, lies_new X 73 _, rfl⟩
    case body2 =>
      rintro l pre x a' X hl ⟨r, hr⟩ ⟨⟨bD3, bK3⟩, ⟨⟨f3, hd3⟩, hz3, hq3⟩, hB3⟩ ⟨Bx, hBx, lx, rfl⟩ hlt
      have cK := bK3.cell
      have t1 : ¬ (x.1 : Int) < 0 := by omega
      have HNN := Lib.hid hN
      clear hN hcells hcells2
      gi_wp2
      exact ⟨KeepsFrom.refl _ _, kb_refl _ _ _, ⟨bD3, bK3⟩, ⟨⟨f3, hd3⟩, hz3, hq3⟩, hB3⟩
    case done2 =>
      rintro D2 ys X hD2 _ ⟨⟨bD3, bK3⟩, ⟨⟨f3, hd3⟩, hz3, hq3⟩, hB3⟩ hK3
      have cD3 := bD3.cell
      have HNN := Lib.hid hN
      clear hN hcells hcells2
      gi_wp2
      have hord3 := hd3.ord
      have hgl3 := lies_lt hd3.self
      have cB : ∀ {Z : World} (v : Value) (o : Nat), Z.cell? ⟨w.heap.size, 0, none⟩ = some (.pointer (some ⟨g, 0, none⟩)) → (Z.setCell ⟨g, o, none⟩ v).cell? ⟨w.heap.size, 0, none⟩ = some (.pointer (some ⟨g, 0, none⟩)) := fun v o hz => by
        rw [World.cell?_setCell_other _ _ _ _ (by intro e; injection e with e _ _; omega)]
        exact hz
      have E0 := Lib.hid (show X.drew.cell? ⟨w.heap.size, 0, none⟩ = some (.pointer (some ⟨g, 0, none⟩)) from cD3)
      have E1 := Lib.hid (cB (.slice none 0 0) 1 E0.out)
      have E2 := Lib.hid (cB (.bool true) 2 E1.out)
      have l0 : Lies X.drew g 65 (DRow B K (.slice (some ⟨hb, 0, none⟩) N C) on lf) := hd3.self
      have l1 := lies_set l0 1 (.slice none 0 0)
      have l2 := lies_set l1 2 (.bool true)
      have l3 := lies_set l2 3 (.int .i64 (-1))
      have c1 : X.drew.cell? ⟨g, 1, none⟩ = some (.slice (some ⟨hb, 0, none⟩) N C) := lies_cell l0 1
      have f1 := lies_free l0 1
      have c2 : (X.drew.setCell ⟨g, 1, none⟩ (.slice none 0 0)).cell? ⟨g, 2, none⟩ = some (.bool on) := lies_cell l1 2
      have f2 := lies_free l1 2
      have c3 : ((X.drew.setCell ⟨g, 1, none⟩ (.slice none 0 0)).setCell ⟨g, 2, none⟩ (.bool true)).cell? ⟨g, 3, none⟩ = some (.int .i64 lf) := lies_cell l2 3
      have f3b := lies_free l2 3
      have hz0 : D < X.heap.size := (Array.getElem?_eq_some_iff.1 hq3).1
      have hz20 : D2 < X.heap.size := (Array.getElem?_eq_some_iff.1 hK3).1
      have hDD : D ≠ D2 := by omega
      obtain ⟨W5, hW5⟩ : ∃ W5, W5 = ((X.drew.setCell ⟨g, 1, none⟩ (.slice none 0 0)).setCell ⟨g, 2, none⟩ (.bool true)).setCell ⟨g, 3, none⟩ (.int .i64 (-1)) := ⟨_, rfl⟩
      have g5 : X.grownBy W5 (some g) := by rw [hW5]; exact only_setCell (only_setCell (only_setCell (only_drew (World.grownBy.refl X (some g))) 1 _) 2 _) 3 _
      have l5 : Lies W5 g 65 (DRow B K (.slice none 0 0) true (-1)) := by rw [hW5]; exact l3
      have hd5 : Dsk W5 g B base n K f3 (.slice none 0 0) [] true (-1) := {
        self := l5
        bytes := (g5.block B (lies_lt hd3.bytes) (fun e => by injection e with e; omega)).trans hd3.bytes
        held := ⟨rfl, .inl ⟨rfl, rfl⟩⟩
        size := hd3.size
        most := hd3.most
        ord := ⟨hord3.1, hord3.2.1, Nat.le_trans hord3.2.2 g5.size⟩
        rows := fun e he => by cases he }
      have q5 : W5.heap[D]? = some (.deferred (some [])) := (g5.block D hz0 (fun e => by injection e with e; omega)).trans hq3
      have k5 : W5.heap[D2]? = some (.deferred (some [])) := (g5.block D2 hz20 (fun e => by injection e with e; omega)).trans hK3
      have b5 : Below B w W5 := hB3.trans (grown_below (B := B) g5 (fun k e => by injection e with e; omega) (by omega))
      have q6 : (W5.putObj D2 (.deferred none)).heap[D]? = some (.deferred (some [])) := ((grownBy_putObj' W5 D2 (.deferred none)).block D (Array.getElem?_eq_some_iff.1 q5).1 (fun e => by injection e with e; exact hDD e)).trans q5
      have hd6 : Dsk (W5.putObj D2 (.deferred none)) g B base n K f3 (.slice none 0 0) [] true (-1) := dsk_own hd5 (grownBy_putObj' W5 D2 _) (fun r e => by cases e; exact ⟨_, k5, rfl⟩)
      have hd7 : Dsk ((W5.putObj D2 (.deferred none)).putObj D (.deferred none)) g B base n K f3 (.slice none 0 0) [] true (-1) := dsk_own hd6 (grownBy_putObj' _ D _) (fun r e => by cases e; exact ⟨_, q6, rfl⟩)
      have b7 : Below B w ((W5.putObj D2 (.deferred none)).putObj D (.deferred none)) := (b5.trans (belowK_b (w := w) (by omega) W5 D2 _ _ (by omega) k5 rfl rfl)).trans (belowK_b (w := w) (by omega) _ D _ _ (by omega) q6 rfl rfl)
      have FIN0 : ∀ tmps, bodyPostM F n' Try.prog Try.f26 (fun e w' => e = Ending.returned (Value.tuple #[]) ∧ ∃ f', Dsk w' g B base n K f' (.slice none 0 0) [] true (-1) ∧ Below B w w') .normal { tmps := tmps, defers := [{ target := .collected D2, args := #[] }, { target := .collected D, args := #[] }] } W5 := fun tmps => by
        refine ⟨by simp, .inl ⟨_, _, rfl, run_takeDeferred k5, ?_⟩⟩
        refine ⟨by simp, .inl ⟨_, _, rfl, run_takeDeferred q6, ?_⟩⟩
        exact ⟨_, results_none rfl _ _ _, rfl, f3, hd7, b7⟩
      rw [hW5] at FIN0
      have FIN := Lib.hid FIN0
      clear FIN0 b7 hd7 hd6 q6 b5 k5 q5 hd5 l5 g5 hW5
      refine wpIn_region_any (by kernel_rfl) ?_
      change wpAnyIn _ _ _ _ _ _ _ _ _ (World.drew X)
      refine wpAnyIn_ready (rs := [0, 1, 2]) (by kernel_rfl) (by simp) ?_
      refine (openIn_value (some 44) (.pointer (some ⟨g, 0, none⟩)) rfl rfl rfl (fun c h => by cases h) rfl (load25 (.tmp 2) rfl rfl E0.out) ?_ (openIn_value (some 45) (.pointer (some ⟨g, 0, none⟩)) rfl rfl rfl (fun c h => by cases h) rfl (load25 (.tmp 2) rfl rfl E0.out) ?_ (openIn_value (some 46) (.pointer (some ⟨g, 0, none⟩)) rfl rfl rfl (fun c h => by cases h) rfl (load25 (.tmp 2) rfl rfl E0.out) ?_ AllReadyIn.nil)))
      · simp only [Act.put, List.setIfInBounds_toArray, List.set_cons_zero, List.set_cons_succ]
        refine wpAnyIn_ready (rs := [1, 2, 3]) (by kernel_rfl) (by simp) ?_
        refine (openIn_value (some 45) (.pointer (some ⟨g, 0, none⟩)) rfl rfl rfl (fun c h => by cases h) rfl (load25 (.tmp 2) rfl rfl E0.out) ?_ (openIn_value (some 46) (.pointer (some ⟨g, 0, none⟩)) rfl rfl rfl (fun c h => by cases h) rfl (load25 (.tmp 2) rfl rfl E0.out) ?_ (openIn_value (some 47) (.pointer (some ⟨g, 0, none⟩)) rfl rfl rfl (fun c h => by cases h) rfl (by kernel_rfl) ?_ AllReadyIn.nil)))
        · simp only [Act.put, List.setIfInBounds_toArray, List.set_cons_zero, List.set_cons_succ]
          refine wpAnyIn_ready (rs := [2, 3]) (by kernel_rfl) (by simp) ?_
          refine (openIn_value (some 46) (.pointer (some ⟨g, 0, none⟩)) rfl rfl rfl (fun c h => by cases h) rfl (load25 (.tmp 2) rfl rfl E0.out) ?_ (openIn_value (some 47) (.pointer (some ⟨g, 0, none⟩)) rfl rfl rfl (fun c h => by cases h) rfl (by kernel_rfl) ?_ AllReadyIn.nil))
          · simp only [Act.put, List.setIfInBounds_toArray, List.set_cons_zero, List.set_cons_succ]
            refine wpAnyIn_ready (rs := [3]) (by kernel_rfl) (by simp) ?_
            refine (openIn_value (some 47) (.pointer (some ⟨g, 0, none⟩)) rfl rfl rfl (fun c h => by cases h) rfl (by kernel_rfl) ?_ AllReadyIn.nil)
            simp only [Act.put, List.setIfInBounds_toArray, List.set_cons_zero, List.set_cons_succ]
            refine wpAnyIn_ready (rs := [4]) (by kernel_rfl) (by simp) ?_
            refine (openIn_value (some 48) (.pointer (some ⟨g, 1, none⟩)) rfl rfl rfl (fun c h => by cases h) rfl (by kernel_rfl) ?_ AllReadyIn.nil)
            simp only [Act.put, List.setIfInBounds_toArray, List.set_cons_zero, List.set_cons_succ]
            refine wpAnyIn_ready (rs := [5]) (by kernel_rfl) (by simp) ?_
            refine (openIn_skip _ rfl rfl rfl (fun c h => by cases h) rfl (store63 (.tmp 48) rfl rfl rfl c1 f1) ?_ AllReadyIn.nil)
            refine wpAnyIn_ready (rs := [6]) (by kernel_rfl) (by simp) ?_
            refine (openIn_value (some 49) (.pointer (some ⟨g, 0, none⟩)) rfl rfl rfl (fun c h => by cases h) rfl (by kernel_rfl) ?_ AllReadyIn.nil)
            simp only [Act.put, List.setIfInBounds_toArray, List.set_cons_zero, List.set_cons_succ]
            refine wpAnyIn_ready (rs := [7]) (by kernel_rfl) (by simp) ?_
            refine (openIn_value (some 50) (.pointer (some ⟨g, 2, none⟩)) rfl rfl rfl (fun c h => by cases h) rfl (by kernel_rfl) ?_ AllReadyIn.nil)
            simp only [Act.put, List.setIfInBounds_toArray, List.set_cons_zero, List.set_cons_succ]
            refine wpAnyIn_ready (rs := [8]) (by kernel_rfl) (by simp) ?_
            refine (openIn_skip _ rfl rfl rfl (fun c h => by cases h) rfl (store4 (.tmp 50) rfl rfl rfl c2 f2) ?_ AllReadyIn.nil)
            refine wpAnyIn_ready (rs := [9]) (by kernel_rfl) (by simp) ?_
            refine (openIn_value (some 51) (.pointer (some ⟨g, 0, none⟩)) rfl rfl rfl (fun c h => by cases h) rfl (by kernel_rfl) ?_ AllReadyIn.nil)
            simp only [Act.put, List.setIfInBounds_toArray, List.set_cons_zero, List.set_cons_succ]
            refine wpAnyIn_ready (rs := [10]) (by kernel_rfl) (by simp) ?_
            refine (openIn_value (some 52) (.pointer (some ⟨g, 3, none⟩)) rfl rfl rfl (fun c h => by cases h) rfl (by kernel_rfl) ?_ AllReadyIn.nil)
            simp only [Act.put, List.setIfInBounds_toArray, List.set_cons_zero, List.set_cons_succ]
            refine wpAnyIn_ready (rs := [11]) (by kernel_rfl) (by simp) ?_
            refine (openIn_skip _ rfl rfl rfl (fun c h => by cases h) rfl (store3 (.tmp 52) rfl rfl rfl c3 f3b) ?_ AllReadyIn.nil)
            refine wpAnyIn_done (by kernel_rfl) ?_ _
            exact FIN.out _
          · simp only [Act.put, List.setIfInBounds_toArray, List.set_cons_zero, List.set_cons_succ]
            refine wpAnyIn_ready (rs := [2, 4]) (by kernel_rfl) (by simp) ?_
            refine (openIn_value (some 46) (.pointer (some ⟨g, 0, none⟩)) rfl rfl rfl (fun c h => by cases h) rfl (load25 (.tmp 2) rfl rfl E0.out) ?_ (openIn_value (some 48) (.pointer (some ⟨g, 1, none⟩)) rfl rfl rfl (fun c h => by cases h) rfl (by kernel_rfl) ?_ AllReadyIn.nil))
            · simp only [Act.put, List.setIfInBounds_toArray, List.set_cons_zero, List.set_cons_succ]
              refine wpAnyIn_ready (rs := [4]) (by kernel_rfl) (by simp) ?_
              refine (openIn_value (some 48) (.pointer (some ⟨g, 1, none⟩)) rfl rfl rfl (fun c h => by cases h) rfl (by kernel_rfl) ?_ AllReadyIn.nil)
              simp only [Act.put, List.setIfInBounds_toArray, List.set_cons_zero, List.set_cons_succ]
              refine wpAnyIn_ready (rs := [5]) (by kernel_rfl) (by simp) ?_
              refine (openIn_skip _ rfl rfl rfl (fun c h => by cases h) rfl (store63 (.tmp 48) rfl rfl rfl c1 f1) ?_ AllReadyIn.nil)
              refine wpAnyIn_ready (rs := [6]) (by kernel_rfl) (by simp) ?_
              refine (openIn_value (some 49) (.pointer (some ⟨g, 0, none⟩)) rfl rfl rfl (fun c h => by cases h) rfl (by kernel_rfl) ?_ AllReadyIn.nil)
              simp only [Act.put, List.setIfInBounds_toArray, List.set_cons_zero, List.set_cons_succ]
              refine wpAnyIn_ready (rs := [7]) (by kernel_rfl) (by simp) ?_
              refine (openIn_value (some 50) (.pointer (some ⟨g, 2, none⟩)) rfl rfl rfl (fun c h => by cases h) rfl (by kernel_rfl) ?_ AllReadyIn.nil)
              simp only [Act.put, List.setIfInBounds_toArray, List.set_cons_zero, List.set_cons_succ]
              refine wpAnyIn_ready (rs := [8]) (by kernel_rfl) (by simp) ?_
              refine (openIn_skip _ rfl rfl rfl (fun c h => by cases h) rfl (store4 (.tmp 50) rfl rfl rfl c2 f2) ?_ AllReadyIn.nil)
              refine wpAnyIn_ready (rs := [9]) (by kernel_rfl) (by simp) ?_
              refine (openIn_value (some 51) (.pointer (some ⟨g, 0, none⟩)) rfl rfl rfl (fun c h => by cases h) rfl (by kernel_rfl) ?_ AllReadyIn.nil)
              simp only [Act.put, List.setIfInBounds_toArray, List.set_cons_zero, List.set_cons_succ]
              refine wpAnyIn_ready (rs := [10]) (by kernel_rfl) (by simp) ?_
              refine (openIn_value (some 52) (.pointer (some ⟨g, 3, none⟩)) rfl rfl rfl (fun c h => by cases h) rfl (by kernel_rfl) ?_ AllReadyIn.nil)
              simp only [Act.put, List.setIfInBounds_toArray, List.set_cons_zero, List.set_cons_succ]
              refine wpAnyIn_ready (rs := [11]) (by kernel_rfl) (by simp) ?_
              refine (openIn_skip _ rfl rfl rfl (fun c h => by cases h) rfl (store3 (.tmp 52) rfl rfl rfl c3 f3b) ?_ AllReadyIn.nil)
              refine wpAnyIn_done (by kernel_rfl) ?_ _
              exact FIN.out _
            · simp only [Act.put, List.setIfInBounds_toArray, List.set_cons_zero, List.set_cons_succ]
              refine wpAnyIn_ready (rs := [2, 5]) (by kernel_rfl) (by simp) ?_
              refine (openIn_value (some 46) (.pointer (some ⟨g, 0, none⟩)) rfl rfl rfl (fun c h => by cases h) rfl (load25 (.tmp 2) rfl rfl E0.out) ?_ (openIn_skip _ rfl rfl rfl (fun c h => by cases h) rfl (store63 (.tmp 48) rfl rfl rfl c1 f1) ?_ AllReadyIn.nil))
              · simp only [Act.put, List.setIfInBounds_toArray, List.set_cons_zero, List.set_cons_succ]
                refine wpAnyIn_ready (rs := [5]) (by kernel_rfl) (by simp) ?_
                refine (openIn_skip _ rfl rfl rfl (fun c h => by cases h) rfl (store63 (.tmp 48) rfl rfl rfl c1 f1) ?_ AllReadyIn.nil)
                refine wpAnyIn_ready (rs := [6]) (by kernel_rfl) (by simp) ?_
                refine (openIn_value (some 49) (.pointer (some ⟨g, 0, none⟩)) rfl rfl rfl (fun c h => by cases h) rfl (by kernel_rfl) ?_ AllReadyIn.nil)
                simp only [Act.put, List.setIfInBounds_toArray, List.set_cons_zero, List.set_cons_succ]
                refine wpAnyIn_ready (rs := [7]) (by kernel_rfl) (by simp) ?_
                refine (openIn_value (some 50) (.pointer (some ⟨g, 2, none⟩)) rfl rfl rfl (fun c h => by cases h) rfl (by kernel_rfl) ?_ AllReadyIn.nil)
                simp only [Act.put, List.setIfInBounds_toArray, List.set_cons_zero, List.set_cons_succ]
                refine wpAnyIn_ready (rs := [8]) (by kernel_rfl) (by simp) ?_
                refine (openIn_skip _ rfl rfl rfl (fun c h => by cases h) rfl (store4 (.tmp 50) rfl rfl rfl c2 f2) ?_ AllReadyIn.nil)
                refine wpAnyIn_ready (rs := [9]) (by kernel_rfl) (by simp) ?_
                refine (openIn_value (some 51) (.pointer (some ⟨g, 0, none⟩)) rfl rfl rfl (fun c h => by cases h) rfl (by kernel_rfl) ?_ AllReadyIn.nil)
                simp only [Act.put, List.setIfInBounds_toArray, List.set_cons_zero, List.set_cons_succ]
                refine wpAnyIn_ready (rs := [10]) (by kernel_rfl) (by simp) ?_
                refine (openIn_value (some 52) (.pointer (some ⟨g, 3, none⟩)) rfl rfl rfl (fun c h => by cases h) rfl (by kernel_rfl) ?_ AllReadyIn.nil)
                simp only [Act.put, List.setIfInBounds_toArray, List.set_cons_zero, List.set_cons_succ]
                refine wpAnyIn_ready (rs := [11]) (by kernel_rfl) (by simp) ?_
                refine (openIn_skip _ rfl rfl rfl (fun c h => by cases h) rfl (store3 (.tmp 52) rfl rfl rfl c3 f3b) ?_ AllReadyIn.nil)
                refine wpAnyIn_done (by kernel_rfl) ?_ _
                exact FIN.out _
              · refine wpAnyIn_ready (rs := [2, 6]) (by kernel_rfl) (by simp) ?_
                refine (openIn_value (some 46) (.pointer (some ⟨g, 0, none⟩)) rfl rfl rfl (fun c h => by cases h) rfl (load25 (.tmp 2) rfl rfl E1.out) ?_ (openIn_value (some 49) (.pointer (some ⟨g, 0, none⟩)) rfl rfl rfl (fun c h => by cases h) rfl (by kernel_rfl) ?_ AllReadyIn.nil))
                · simp only [Act.put, List.setIfInBounds_toArray, List.set_cons_zero, List.set_cons_succ]
                  refine wpAnyIn_ready (rs := [6]) (by kernel_rfl) (by simp) ?_
                  refine (openIn_value (some 49) (.pointer (some ⟨g, 0, none⟩)) rfl rfl rfl (fun c h => by cases h) rfl (by kernel_rfl) ?_ AllReadyIn.nil)
                  simp only [Act.put, List.setIfInBounds_toArray, List.set_cons_zero, List.set_cons_succ]
                  refine wpAnyIn_ready (rs := [7]) (by kernel_rfl) (by simp) ?_
                  refine (openIn_value (some 50) (.pointer (some ⟨g, 2, none⟩)) rfl rfl rfl (fun c h => by cases h) rfl (by kernel_rfl) ?_ AllReadyIn.nil)
                  simp only [Act.put, List.setIfInBounds_toArray, List.set_cons_zero, List.set_cons_succ]
                  refine wpAnyIn_ready (rs := [8]) (by kernel_rfl) (by simp) ?_
                  refine (openIn_skip _ rfl rfl rfl (fun c h => by cases h) rfl (store4 (.tmp 50) rfl rfl rfl c2 f2) ?_ AllReadyIn.nil)
                  refine wpAnyIn_ready (rs := [9]) (by kernel_rfl) (by simp) ?_
                  refine (openIn_value (some 51) (.pointer (some ⟨g, 0, none⟩)) rfl rfl rfl (fun c h => by cases h) rfl (by kernel_rfl) ?_ AllReadyIn.nil)
                  simp only [Act.put, List.setIfInBounds_toArray, List.set_cons_zero, List.set_cons_succ]
                  refine wpAnyIn_ready (rs := [10]) (by kernel_rfl) (by simp) ?_
                  refine (openIn_value (some 52) (.pointer (some ⟨g, 3, none⟩)) rfl rfl rfl (fun c h => by cases h) rfl (by kernel_rfl) ?_ AllReadyIn.nil)
                  simp only [Act.put, List.setIfInBounds_toArray, List.set_cons_zero, List.set_cons_succ]
                  refine wpAnyIn_ready (rs := [11]) (by kernel_rfl) (by simp) ?_
                  refine (openIn_skip _ rfl rfl rfl (fun c h => by cases h) rfl (store3 (.tmp 52) rfl rfl rfl c3 f3b) ?_ AllReadyIn.nil)
                  refine wpAnyIn_done (by kernel_rfl) ?_ _
                  exact FIN.out _
                · simp only [Act.put, List.setIfInBounds_toArray, List.set_cons_zero, List.set_cons_succ]
                  refine wpAnyIn_ready (rs := [2, 7]) (by kernel_rfl) (by simp) ?_
                  refine (openIn_value (some 46) (.pointer (some ⟨g, 0, none⟩)) rfl rfl rfl (fun c h => by cases h) rfl (load25 (.tmp 2) rfl rfl E1.out) ?_ (openIn_value (some 50) (.pointer (some ⟨g, 2, none⟩)) rfl rfl rfl (fun c h => by cases h) rfl (by kernel_rfl) ?_ AllReadyIn.nil))
                  · simp only [Act.put, List.setIfInBounds_toArray, List.set_cons_zero, List.set_cons_succ]
                    refine wpAnyIn_ready (rs := [7]) (by kernel_rfl) (by simp) ?_
                    refine (openIn_value (some 50) (.pointer (some ⟨g, 2, none⟩)) rfl rfl rfl (fun c h => by cases h) rfl (by kernel_rfl) ?_ AllReadyIn.nil)
                    simp only [Act.put, List.setIfInBounds_toArray, List.set_cons_zero, List.set_cons_succ]
                    refine wpAnyIn_ready (rs := [8]) (by kernel_rfl) (by simp) ?_
                    refine (openIn_skip _ rfl rfl rfl (fun c h => by cases h) rfl (store4 (.tmp 50) rfl rfl rfl c2 f2) ?_ AllReadyIn.nil)
                    refine wpAnyIn_ready (rs := [9]) (by kernel_rfl) (by simp) ?_
                    refine (openIn_value (some 51) (.pointer (some ⟨g, 0, none⟩)) rfl rfl rfl (fun c h => by cases h) rfl (by kernel_rfl) ?_ AllReadyIn.nil)
                    simp only [Act.put, List.setIfInBounds_toArray, List.set_cons_zero, List.set_cons_succ]
                    refine wpAnyIn_ready (rs := [10]) (by kernel_rfl) (by simp) ?_
                    refine (openIn_value (some 52) (.pointer (some ⟨g, 3, none⟩)) rfl rfl rfl (fun c h => by cases h) rfl (by kernel_rfl) ?_ AllReadyIn.nil)
                    simp only [Act.put, List.setIfInBounds_toArray, List.set_cons_zero, List.set_cons_succ]
                    refine wpAnyIn_ready (rs := [11]) (by kernel_rfl) (by simp) ?_
                    refine (openIn_skip _ rfl rfl rfl (fun c h => by cases h) rfl (store3 (.tmp 52) rfl rfl rfl c3 f3b) ?_ AllReadyIn.nil)
                    refine wpAnyIn_done (by kernel_rfl) ?_ _
                    exact FIN.out _
                  · simp only [Act.put, List.setIfInBounds_toArray, List.set_cons_zero, List.set_cons_succ]
                    refine wpAnyIn_ready (rs := [2, 8]) (by kernel_rfl) (by simp) ?_
                    refine (openIn_value (some 46) (.pointer (some ⟨g, 0, none⟩)) rfl rfl rfl (fun c h => by cases h) rfl (load25 (.tmp 2) rfl rfl E1.out) ?_ (openIn_skip _ rfl rfl rfl (fun c h => by cases h) rfl (store4 (.tmp 50) rfl rfl rfl c2 f2) ?_ AllReadyIn.nil))
                    · simp only [Act.put, List.setIfInBounds_toArray, List.set_cons_zero, List.set_cons_succ]
                      refine wpAnyIn_ready (rs := [8]) (by kernel_rfl) (by simp) ?_
                      refine (openIn_skip _ rfl rfl rfl (fun c h => by cases h) rfl (store4 (.tmp 50) rfl rfl rfl c2 f2) ?_ AllReadyIn.nil)
                      refine wpAnyIn_ready (rs := [9]) (by kernel_rfl) (by simp) ?_
                      refine (openIn_value (some 51) (.pointer (some ⟨g, 0, none⟩)) rfl rfl rfl (fun c h => by cases h) rfl (by kernel_rfl) ?_ AllReadyIn.nil)
                      simp only [Act.put, List.setIfInBounds_toArray, List.set_cons_zero, List.set_cons_succ]
                      refine wpAnyIn_ready (rs := [10]) (by kernel_rfl) (by simp) ?_
                      refine (openIn_value (some 52) (.pointer (some ⟨g, 3, none⟩)) rfl rfl rfl (fun c h => by cases h) rfl (by kernel_rfl) ?_ AllReadyIn.nil)
                      simp only [Act.put, List.setIfInBounds_toArray, List.set_cons_zero, List.set_cons_succ]
                      refine wpAnyIn_ready (rs := [11]) (by kernel_rfl) (by simp) ?_
                      refine (openIn_skip _ rfl rfl rfl (fun c h => by cases h) rfl (store3 (.tmp 52) rfl rfl rfl c3 f3b) ?_ AllReadyIn.nil)
                      refine wpAnyIn_done (by kernel_rfl) ?_ _
                      exact FIN.out _
                    · refine wpAnyIn_ready (rs := [2]) (by kernel_rfl) (by simp) ?_
                      refine (openIn_value (some 46) (.pointer (some ⟨g, 0, none⟩)) rfl rfl rfl (fun c h => by cases h) rfl (load25 (.tmp 2) rfl rfl E2.out) ?_ AllReadyIn.nil)
                      simp only [Act.put, List.setIfInBounds_toArray, List.set_cons_zero, List.set_cons_succ]
                      refine wpAnyIn_ready (rs := [9]) (by kernel_rfl) (by simp) ?_
                      refine (openIn_value (some 51) (.pointer (some ⟨g, 0, none⟩)) rfl rfl rfl (fun c h => by cases h) rfl (by kernel_rfl) ?_ AllReadyIn.nil)
                      simp only [Act.put, List.setIfInBounds_toArray, List.set_cons_zero, List.set_cons_succ]
                      refine wpAnyIn_ready (rs := [10]) (by kernel_rfl) (by simp) ?_
                      refine (openIn_value (some 52) (.pointer (some ⟨g, 3, none⟩)) rfl rfl rfl (fun c h => by cases h) rfl (by kernel_rfl) ?_ AllReadyIn.nil)
                      simp only [Act.put, List.setIfInBounds_toArray, List.set_cons_zero, List.set_cons_succ]
                      refine wpAnyIn_ready (rs := [11]) (by kernel_rfl) (by simp) ?_
                      refine (openIn_skip _ rfl rfl rfl (fun c h => by cases h) rfl (store3 (.tmp 52) rfl rfl rfl c3 f3b) ?_ AllReadyIn.nil)
                      refine wpAnyIn_done (by kernel_rfl) ?_ _
                      exact FIN.out _
        · simp only [Act.put, List.setIfInBounds_toArray, List.set_cons_zero, List.set_cons_succ]
          refine wpAnyIn_ready (rs := [1, 3]) (by kernel_rfl) (by simp) ?_
          refine (openIn_value (some 45) (.pointer (some ⟨g, 0, none⟩)) rfl rfl rfl (fun c h => by cases h) rfl (load25 (.tmp 2) rfl rfl E0.out) ?_ (openIn_value (some 47) (.pointer (some ⟨g, 0, none⟩)) rfl rfl rfl (fun c h => by cases h) rfl (by kernel_rfl) ?_ AllReadyIn.nil))
          · simp only [Act.put, List.setIfInBounds_toArray, List.set_cons_zero, List.set_cons_succ]
            refine wpAnyIn_ready (rs := [3]) (by kernel_rfl) (by simp) ?_
            refine (openIn_value (some 47) (.pointer (some ⟨g, 0, none⟩)) rfl rfl rfl (fun c h => by cases h) rfl (by kernel_rfl) ?_ AllReadyIn.nil)
            simp only [Act.put, List.setIfInBounds_toArray, List.set_cons_zero, List.set_cons_succ]
            refine wpAnyIn_ready (rs := [4]) (by kernel_rfl) (by simp) ?_
            refine (openIn_value (some 48) (.pointer (some ⟨g, 1, none⟩)) rfl rfl rfl (fun c h => by cases h) rfl (by kernel_rfl) ?_ AllReadyIn.nil)
            simp only [Act.put, List.setIfInBounds_toArray, List.set_cons_zero, List.set_cons_succ]
            refine wpAnyIn_ready (rs := [5]) (by kernel_rfl) (by simp) ?_
            refine (openIn_skip _ rfl rfl rfl (fun c h => by cases h) rfl (store63 (.tmp 48) rfl rfl rfl c1 f1) ?_ AllReadyIn.nil)
            refine wpAnyIn_ready (rs := [6]) (by kernel_rfl) (by simp) ?_
            refine (openIn_value (some 49) (.pointer (some ⟨g, 0, none⟩)) rfl rfl rfl (fun c h => by cases h) rfl (by kernel_rfl) ?_ AllReadyIn.nil)
            simp only [Act.put, List.setIfInBounds_toArray, List.set_cons_zero, List.set_cons_succ]
            refine wpAnyIn_ready (rs := [7]) (by kernel_rfl) (by simp) ?_
            refine (openIn_value (some 50) (.pointer (some ⟨g, 2, none⟩)) rfl rfl rfl (fun c h => by cases h) rfl (by kernel_rfl) ?_ AllReadyIn.nil)
            simp only [Act.put, List.setIfInBounds_toArray, List.set_cons_zero, List.set_cons_succ]
            refine wpAnyIn_ready (rs := [8]) (by kernel_rfl) (by simp) ?_
            refine (openIn_skip _ rfl rfl rfl (fun c h => by cases h) rfl (store4 (.tmp 50) rfl rfl rfl c2 f2) ?_ AllReadyIn.nil)
            refine wpAnyIn_ready (rs := [9]) (by kernel_rfl) (by simp) ?_
            refine (openIn_value (some 51) (.pointer (some ⟨g, 0, none⟩)) rfl rfl rfl (fun c h => by cases h) rfl (by kernel_rfl) ?_ AllReadyIn.nil)
            simp only [Act.put, List.setIfInBounds_toArray, List.set_cons_zero, List.set_cons_succ]
            refine wpAnyIn_ready (rs := [10]) (by kernel_rfl) (by simp) ?_
            refine (openIn_value (some 52) (.pointer (some ⟨g, 3, none⟩)) rfl rfl rfl (fun c h => by cases h) rfl (by kernel_rfl) ?_ AllReadyIn.nil)
            simp only [Act.put, List.setIfInBounds_toArray, List.set_cons_zero, List.set_cons_succ]
            refine wpAnyIn_ready (rs := [11]) (by kernel_rfl) (by simp) ?_
            refine (openIn_skip _ rfl rfl rfl (fun c h => by cases h) rfl (store3 (.tmp 52) rfl rfl rfl c3 f3b) ?_ AllReadyIn.nil)
            refine wpAnyIn_done (by kernel_rfl) ?_ _
            exact FIN.out _
          · simp only [Act.put, List.setIfInBounds_toArray, List.set_cons_zero, List.set_cons_succ]
            refine wpAnyIn_ready (rs := [1, 4]) (by kernel_rfl) (by simp) ?_
            refine (openIn_value (some 45) (.pointer (some ⟨g, 0, none⟩)) rfl rfl rfl (fun c h => by cases h) rfl (load25 (.tmp 2) rfl rfl E0.out) ?_ (openIn_value (some 48) (.pointer (some ⟨g, 1, none⟩)) rfl rfl rfl (fun c h => by cases h) rfl (by kernel_rfl) ?_ AllReadyIn.nil))
            · simp only [Act.put, List.setIfInBounds_toArray, List.set_cons_zero, List.set_cons_succ]
              refine wpAnyIn_ready (rs := [4]) (by kernel_rfl) (by simp) ?_
              refine (openIn_value (some 48) (.pointer (some ⟨g, 1, none⟩)) rfl rfl rfl (fun c h => by cases h) rfl (by kernel_rfl) ?_ AllReadyIn.nil)
              simp only [Act.put, List.setIfInBounds_toArray, List.set_cons_zero, List.set_cons_succ]
              refine wpAnyIn_ready (rs := [5]) (by kernel_rfl) (by simp) ?_
              refine (openIn_skip _ rfl rfl rfl (fun c h => by cases h) rfl (store63 (.tmp 48) rfl rfl rfl c1 f1) ?_ AllReadyIn.nil)
              refine wpAnyIn_ready (rs := [6]) (by kernel_rfl) (by simp) ?_
              refine (openIn_value (some 49) (.pointer (some ⟨g, 0, none⟩)) rfl rfl rfl (fun c h => by cases h) rfl (by kernel_rfl) ?_ AllReadyIn.nil)
              simp only [Act.put, List.setIfInBounds_toArray, List.set_cons_zero, List.set_cons_succ]
              refine wpAnyIn_ready (rs := [7]) (by kernel_rfl) (by simp) ?_
              refine (openIn_value (some 50) (.pointer (some ⟨g, 2, none⟩)) rfl rfl rfl (fun c h => by cases h) rfl (by kernel_rfl) ?_ AllReadyIn.nil)
              simp only [Act.put, List.setIfInBounds_toArray, List.set_cons_zero, List.set_cons_succ]
              refine wpAnyIn_ready (rs := [8]) (by kernel_rfl) (by simp) ?_
              refine (openIn_skip _ rfl rfl rfl (fun c h => by cases h) rfl (store4 (.tmp 50) rfl rfl rfl c2 f2) ?_ AllReadyIn.nil)
              refine wpAnyIn_ready (rs := [9]) (by kernel_rfl) (by simp) ?_
              refine (openIn_value (some 51) (.pointer (some ⟨g, 0, none⟩)) rfl rfl rfl (fun c h => by cases h) rfl (by kernel_rfl) ?_ AllReadyIn.nil)
              simp only [Act.put, List.setIfInBounds_toArray, List.set_cons_zero, List.set_cons_succ]
              refine wpAnyIn_ready (rs := [10]) (by kernel_rfl) (by simp) ?_
              refine (openIn_value (some 52) (.pointer (some ⟨g, 3, none⟩)) rfl rfl rfl (fun c h => by cases h) rfl (by kernel_rfl) ?_ AllReadyIn.nil)
              simp only [Act.put, List.setIfInBounds_toArray, List.set_cons_zero, List.set_cons_succ]
              refine wpAnyIn_ready (rs := [11]) (by kernel_rfl) (by simp) ?_
              refine (openIn_skip _ rfl rfl rfl (fun c h => by cases h) rfl (store3 (.tmp 52) rfl rfl rfl c3 f3b) ?_ AllReadyIn.nil)
              refine wpAnyIn_done (by kernel_rfl) ?_ _
              exact FIN.out _
            · simp only [Act.put, List.setIfInBounds_toArray, List.set_cons_zero, List.set_cons_succ]
              refine wpAnyIn_ready (rs := [1, 5]) (by kernel_rfl) (by simp) ?_
              refine (openIn_value (some 45) (.pointer (some ⟨g, 0, none⟩)) rfl rfl rfl (fun c h => by cases h) rfl (load25 (.tmp 2) rfl rfl E0.out) ?_ (openIn_skip _ rfl rfl rfl (fun c h => by cases h) rfl (store63 (.tmp 48) rfl rfl rfl c1 f1) ?_ AllReadyIn.nil))
              · simp only [Act.put, List.setIfInBounds_toArray, List.set_cons_zero, List.set_cons_succ]
                refine wpAnyIn_ready (rs := [5]) (by kernel_rfl) (by simp) ?_
                refine (openIn_skip _ rfl rfl rfl (fun c h => by cases h) rfl (store63 (.tmp 48) rfl rfl rfl c1 f1) ?_ AllReadyIn.nil)
                refine wpAnyIn_ready (rs := [6]) (by kernel_rfl) (by simp) ?_
                refine (openIn_value (some 49) (.pointer (some ⟨g, 0, none⟩)) rfl rfl rfl (fun c h => by cases h) rfl (by kernel_rfl) ?_ AllReadyIn.nil)
                simp only [Act.put, List.setIfInBounds_toArray, List.set_cons_zero, List.set_cons_succ]
                refine wpAnyIn_ready (rs := [7]) (by kernel_rfl) (by simp) ?_
                refine (openIn_value (some 50) (.pointer (some ⟨g, 2, none⟩)) rfl rfl rfl (fun c h => by cases h) rfl (by kernel_rfl) ?_ AllReadyIn.nil)
                simp only [Act.put, List.setIfInBounds_toArray, List.set_cons_zero, List.set_cons_succ]
                refine wpAnyIn_ready (rs := [8]) (by kernel_rfl) (by simp) ?_
                refine (openIn_skip _ rfl rfl rfl (fun c h => by cases h) rfl (store4 (.tmp 50) rfl rfl rfl c2 f2) ?_ AllReadyIn.nil)
                refine wpAnyIn_ready (rs := [9]) (by kernel_rfl) (by simp) ?_
                refine (openIn_value (some 51) (.pointer (some ⟨g, 0, none⟩)) rfl rfl rfl (fun c h => by cases h) rfl (by kernel_rfl) ?_ AllReadyIn.nil)
                simp only [Act.put, List.setIfInBounds_toArray, List.set_cons_zero, List.set_cons_succ]
                refine wpAnyIn_ready (rs := [10]) (by kernel_rfl) (by simp) ?_
                refine (openIn_value (some 52) (.pointer (some ⟨g, 3, none⟩)) rfl rfl rfl (fun c h => by cases h) rfl (by kernel_rfl) ?_ AllReadyIn.nil)
                simp only [Act.put, List.setIfInBounds_toArray, List.set_cons_zero, List.set_cons_succ]
                refine wpAnyIn_ready (rs := [11]) (by kernel_rfl) (by simp) ?_
                refine (openIn_skip _ rfl rfl rfl (fun c h => by cases h) rfl (store3 (.tmp 52) rfl rfl rfl c3 f3b) ?_ AllReadyIn.nil)
                refine wpAnyIn_done (by kernel_rfl) ?_ _
                exact FIN.out _
              · refine wpAnyIn_ready (rs := [1]) (by kernel_rfl) (by simp) ?_
                refine (openIn_value (some 45) (.pointer (some ⟨g, 0, none⟩)) rfl rfl rfl (fun c h => by cases h) rfl (load25 (.tmp 2) rfl rfl E1.out) ?_ AllReadyIn.nil)
                simp only [Act.put, List.setIfInBounds_toArray, List.set_cons_zero, List.set_cons_succ]
                refine wpAnyIn_ready (rs := [6]) (by kernel_rfl) (by simp) ?_
                refine (openIn_value (some 49) (.pointer (some ⟨g, 0, none⟩)) rfl rfl rfl (fun c h => by cases h) rfl (by kernel_rfl) ?_ AllReadyIn.nil)
                simp only [Act.put, List.setIfInBounds_toArray, List.set_cons_zero, List.set_cons_succ]
                refine wpAnyIn_ready (rs := [7]) (by kernel_rfl) (by simp) ?_
                refine (openIn_value (some 50) (.pointer (some ⟨g, 2, none⟩)) rfl rfl rfl (fun c h => by cases h) rfl (by kernel_rfl) ?_ AllReadyIn.nil)
                simp only [Act.put, List.setIfInBounds_toArray, List.set_cons_zero, List.set_cons_succ]
                refine wpAnyIn_ready (rs := [8]) (by kernel_rfl) (by simp) ?_
                refine (openIn_skip _ rfl rfl rfl (fun c h => by cases h) rfl (store4 (.tmp 50) rfl rfl rfl c2 f2) ?_ AllReadyIn.nil)
                refine wpAnyIn_ready (rs := [9]) (by kernel_rfl) (by simp) ?_
                refine (openIn_value (some 51) (.pointer (some ⟨g, 0, none⟩)) rfl rfl rfl (fun c h => by cases h) rfl (by kernel_rfl) ?_ AllReadyIn.nil)
                simp only [Act.put, List.setIfInBounds_toArray, List.set_cons_zero, List.set_cons_succ]
                refine wpAnyIn_ready (rs := [10]) (by kernel_rfl) (by simp) ?_
                refine (openIn_value (some 52) (.pointer (some ⟨g, 3, none⟩)) rfl rfl rfl (fun c h => by cases h) rfl (by kernel_rfl) ?_ AllReadyIn.nil)
                simp only [Act.put, List.setIfInBounds_toArray, List.set_cons_zero, List.set_cons_succ]
                refine wpAnyIn_ready (rs := [11]) (by kernel_rfl) (by simp) ?_
                refine (openIn_skip _ rfl rfl rfl (fun c h => by cases h) rfl (store3 (.tmp 52) rfl rfl rfl c3 f3b) ?_ AllReadyIn.nil)
                refine wpAnyIn_done (by kernel_rfl) ?_ _
                exact FIN.out _
        · simp only [Act.put, List.setIfInBounds_toArray, List.set_cons_zero, List.set_cons_succ]
          refine wpAnyIn_ready (rs := [1, 2, 4]) (by kernel_rfl) (by simp) ?_
          refine (openIn_value (some 45) (.pointer (some ⟨g, 0, none⟩)) rfl rfl rfl (fun c h => by cases h) rfl (load25 (.tmp 2) rfl rfl E0.out) ?_ (openIn_value (some 46) (.pointer (some ⟨g, 0, none⟩)) rfl rfl rfl (fun c h => by cases h) rfl (load25 (.tmp 2) rfl rfl E0.out) ?_ (openIn_value (some 48) (.pointer (some ⟨g, 1, none⟩)) rfl rfl rfl (fun c h => by cases h) rfl (by kernel_rfl) ?_ AllReadyIn.nil)))
          · simp only [Act.put, List.setIfInBounds_toArray, List.set_cons_zero, List.set_cons_succ]
            refine wpAnyIn_ready (rs := [2, 4]) (by kernel_rfl) (by simp) ?_
            refine (openIn_value (some 46) (.pointer (some ⟨g, 0, none⟩)) rfl rfl rfl (fun c h => by cases h) rfl (load25 (.tmp 2) rfl rfl E0.out) ?_ (openIn_value (some 48) (.pointer (some ⟨g, 1, none⟩)) rfl rfl rfl (fun c h => by cases h) rfl (by kernel_rfl) ?_ AllReadyIn.nil))
            · simp only [Act.put, List.setIfInBounds_toArray, List.set_cons_zero, List.set_cons_succ]
              refine wpAnyIn_ready (rs := [4]) (by kernel_rfl) (by simp) ?_
              refine (openIn_value (some 48) (.pointer (some ⟨g, 1, none⟩)) rfl rfl rfl (fun c h => by cases h) rfl (by kernel_rfl) ?_ AllReadyIn.nil)
              simp only [Act.put, List.setIfInBounds_toArray, List.set_cons_zero, List.set_cons_succ]
              refine wpAnyIn_ready (rs := [5]) (by kernel_rfl) (by simp) ?_
              refine (openIn_skip _ rfl rfl rfl (fun c h => by cases h) rfl (store63 (.tmp 48) rfl rfl rfl c1 f1) ?_ AllReadyIn.nil)
              refine wpAnyIn_ready (rs := [6]) (by kernel_rfl) (by simp) ?_
              refine (openIn_value (some 49) (.pointer (some ⟨g, 0, none⟩)) rfl rfl rfl (fun c h => by cases h) rfl (by kernel_rfl) ?_ AllReadyIn.nil)
              simp only [Act.put, List.setIfInBounds_toArray, List.set_cons_zero, List.set_cons_succ]
              refine wpAnyIn_ready (rs := [7]) (by kernel_rfl) (by simp) ?_
              refine (openIn_value (some 50) (.pointer (some ⟨g, 2, none⟩)) rfl rfl rfl (fun c h => by cases h) rfl (by kernel_rfl) ?_ AllReadyIn.nil)
              simp only [Act.put, List.setIfInBounds_toArray, List.set_cons_zero, List.set_cons_succ]
              refine wpAnyIn_ready (rs := [8]) (by kernel_rfl) (by simp) ?_
              refine (openIn_skip _ rfl rfl rfl (fun c h => by cases h) rfl (store4 (.tmp 50) rfl rfl rfl c2 f2) ?_ AllReadyIn.nil)
              refine wpAnyIn_ready (rs := [9]) (by kernel_rfl) (by simp) ?_
              refine (openIn_value (some 51) (.pointer (some ⟨g, 0, none⟩)) rfl rfl rfl (fun c h => by cases h) rfl (by kernel_rfl) ?_ AllReadyIn.nil)
              simp only [Act.put, List.setIfInBounds_toArray, List.set_cons_zero, List.set_cons_succ]
              refine wpAnyIn_ready (rs := [10]) (by kernel_rfl) (by simp) ?_
              refine (openIn_value (some 52) (.pointer (some ⟨g, 3, none⟩)) rfl rfl rfl (fun c h => by cases h) rfl (by kernel_rfl) ?_ AllReadyIn.nil)
              simp only [Act.put, List.setIfInBounds_toArray, List.set_cons_zero, List.set_cons_succ]
              refine wpAnyIn_ready (rs := [11]) (by kernel_rfl) (by simp) ?_
              refine (openIn_skip _ rfl rfl rfl (fun c h => by cases h) rfl (store3 (.tmp 52) rfl rfl rfl c3 f3b) ?_ AllReadyIn.nil)
              refine wpAnyIn_done (by kernel_rfl) ?_ _
              exact FIN.out _
            · simp only [Act.put, List.setIfInBounds_toArray, List.set_cons_zero, List.set_cons_succ]
              refine wpAnyIn_ready (rs := [2, 5]) (by kernel_rfl) (by simp) ?_
              refine (openIn_value (some 46) (.pointer (some ⟨g, 0, none⟩)) rfl rfl rfl (fun c h => by cases h) rfl (load25 (.tmp 2) rfl rfl E0.out) ?_ (openIn_skip _ rfl rfl rfl (fun c h => by cases h) rfl (store63 (.tmp 48) rfl rfl rfl c1 f1) ?_ AllReadyIn.nil))
              · simp only [Act.put, List.setIfInBounds_toArray, List.set_cons_zero, List.set_cons_succ]
                refine wpAnyIn_ready (rs := [5]) (by kernel_rfl) (by simp) ?_
                refine (openIn_skip _ rfl rfl rfl (fun c h => by cases h) rfl (store63 (.tmp 48) rfl rfl rfl c1 f1) ?_ AllReadyIn.nil)
                refine wpAnyIn_ready (rs := [6]) (by kernel_rfl) (by simp) ?_
                refine (openIn_value (some 49) (.pointer (some ⟨g, 0, none⟩)) rfl rfl rfl (fun c h => by cases h) rfl (by kernel_rfl) ?_ AllReadyIn.nil)
                simp only [Act.put, List.setIfInBounds_toArray, List.set_cons_zero, List.set_cons_succ]
                refine wpAnyIn_ready (rs := [7]) (by kernel_rfl) (by simp) ?_
                refine (openIn_value (some 50) (.pointer (some ⟨g, 2, none⟩)) rfl rfl rfl (fun c h => by cases h) rfl (by kernel_rfl) ?_ AllReadyIn.nil)
                simp only [Act.put, List.setIfInBounds_toArray, List.set_cons_zero, List.set_cons_succ]
                refine wpAnyIn_ready (rs := [8]) (by kernel_rfl) (by simp) ?_
                refine (openIn_skip _ rfl rfl rfl (fun c h => by cases h) rfl (store4 (.tmp 50) rfl rfl rfl c2 f2) ?_ AllReadyIn.nil)
                refine wpAnyIn_ready (rs := [9]) (by kernel_rfl) (by simp) ?_
                refine (openIn_value (some 51) (.pointer (some ⟨g, 0, none⟩)) rfl rfl rfl (fun c h => by cases h) rfl (by kernel_rfl) ?_ AllReadyIn.nil)
                simp only [Act.put, List.setIfInBounds_toArray, List.set_cons_zero, List.set_cons_succ]
                refine wpAnyIn_ready (rs := [10]) (by kernel_rfl) (by simp) ?_
                refine (openIn_value (some 52) (.pointer (some ⟨g, 3, none⟩)) rfl rfl rfl (fun c h => by cases h) rfl (by kernel_rfl) ?_ AllReadyIn.nil)
                simp only [Act.put, List.setIfInBounds_toArray, List.set_cons_zero, List.set_cons_succ]
                refine wpAnyIn_ready (rs := [11]) (by kernel_rfl) (by simp) ?_
                refine (openIn_skip _ rfl rfl rfl (fun c h => by cases h) rfl (store3 (.tmp 52) rfl rfl rfl c3 f3b) ?_ AllReadyIn.nil)
                refine wpAnyIn_done (by kernel_rfl) ?_ _
                exact FIN.out _
              · refine wpAnyIn_ready (rs := [2, 6]) (by kernel_rfl) (by simp) ?_
                refine (openIn_value (some 46) (.pointer (some ⟨g, 0, none⟩)) rfl rfl rfl (fun c h => by cases h) rfl (load25 (.tmp 2) rfl rfl E1.out) ?_ (openIn_value (some 49) (.pointer (some ⟨g, 0, none⟩)) rfl rfl rfl (fun c h => by cases h) rfl (by kernel_rfl) ?_ AllReadyIn.nil))
                · simp only [Act.put, List.setIfInBounds_toArray, List.set_cons_zero, List.set_cons_succ]
                  refine wpAnyIn_ready (rs := [6]) (by kernel_rfl) (by simp) ?_
                  refine (openIn_value (some 49) (.pointer (some ⟨g, 0, none⟩)) rfl rfl rfl (fun c h => by cases h) rfl (by kernel_rfl) ?_ AllReadyIn.nil)
                  simp only [Act.put, List.setIfInBounds_toArray, List.set_cons_zero, List.set_cons_succ]
                  refine wpAnyIn_ready (rs := [7]) (by kernel_rfl) (by simp) ?_
                  refine (openIn_value (some 50) (.pointer (some ⟨g, 2, none⟩)) rfl rfl rfl (fun c h => by cases h) rfl (by kernel_rfl) ?_ AllReadyIn.nil)
                  simp only [Act.put, List.setIfInBounds_toArray, List.set_cons_zero, List.set_cons_succ]
                  refine wpAnyIn_ready (rs := [8]) (by kernel_rfl) (by simp) ?_
                  refine (openIn_skip _ rfl rfl rfl (fun c h => by cases h) rfl (store4 (.tmp 50) rfl rfl rfl c2 f2) ?_ AllReadyIn.nil)
                  refine wpAnyIn_ready (rs := [9]) (by kernel_rfl) (by simp) ?_
                  refine (openIn_value (some 51) (.pointer (some ⟨g, 0, none⟩)) rfl rfl rfl (fun c h => by cases h) rfl (by kernel_rfl) ?_ AllReadyIn.nil)
                  simp only [Act.put, List.setIfInBounds_toArray, List.set_cons_zero, List.set_cons_succ]
                  refine wpAnyIn_ready (rs := [10]) (by kernel_rfl) (by simp) ?_
                  refine (openIn_value (some 52) (.pointer (some ⟨g, 3, none⟩)) rfl rfl rfl (fun c h => by cases h) rfl (by kernel_rfl) ?_ AllReadyIn.nil)
                  simp only [Act.put, List.setIfInBounds_toArray, List.set_cons_zero, List.set_cons_succ]
                  refine wpAnyIn_ready (rs := [11]) (by kernel_rfl) (by simp) ?_
                  refine (openIn_skip _ rfl rfl rfl (fun c h => by cases h) rfl (store3 (.tmp 52) rfl rfl rfl c3 f3b) ?_ AllReadyIn.nil)
                  refine wpAnyIn_done (by kernel_rfl) ?_ _
                  exact FIN.out _
                · simp only [Act.put, List.setIfInBounds_toArray, List.set_cons_zero, List.set_cons_succ]
                  refine wpAnyIn_ready (rs := [2, 7]) (by kernel_rfl) (by simp) ?_
                  refine (openIn_value (some 46) (.pointer (some ⟨g, 0, none⟩)) rfl rfl rfl (fun c h => by cases h) rfl (load25 (.tmp 2) rfl rfl E1.out) ?_ (openIn_value (some 50) (.pointer (some ⟨g, 2, none⟩)) rfl rfl rfl (fun c h => by cases h) rfl (by kernel_rfl) ?_ AllReadyIn.nil))
                  · simp only [Act.put, List.setIfInBounds_toArray, List.set_cons_zero, List.set_cons_succ]
                    refine wpAnyIn_ready (rs := [7]) (by kernel_rfl) (by simp) ?_
                    refine (openIn_value (some 50) (.pointer (some ⟨g, 2, none⟩)) rfl rfl rfl (fun c h => by cases h) rfl (by kernel_rfl) ?_ AllReadyIn.nil)
                    simp only [Act.put, List.setIfInBounds_toArray, List.set_cons_zero, List.set_cons_succ]
                    refine wpAnyIn_ready (rs := [8]) (by kernel_rfl) (by simp) ?_
                    refine (openIn_skip _ rfl rfl rfl (fun c h => by cases h) rfl (store4 (.tmp 50) rfl rfl rfl c2 f2) ?_ AllReadyIn.nil)
                    refine wpAnyIn_ready (rs := [9]) (by kernel_rfl) (by simp) ?_
                    refine (openIn_value (some 51) (.pointer (some ⟨g, 0, none⟩)) rfl rfl rfl (fun c h => by cases h) rfl (by kernel_rfl) ?_ AllReadyIn.nil)
                    simp only [Act.put, List.setIfInBounds_toArray, List.set_cons_zero, List.set_cons_succ]
                    refine wpAnyIn_ready (rs := [10]) (by kernel_rfl) (by simp) ?_
                    refine (openIn_value (some 52) (.pointer (some ⟨g, 3, none⟩)) rfl rfl rfl (fun c h => by cases h) rfl (by kernel_rfl) ?_ AllReadyIn.nil)
                    simp only [Act.put, List.setIfInBounds_toArray, List.set_cons_zero, List.set_cons_succ]
                    refine wpAnyIn_ready (rs := [11]) (by kernel_rfl) (by simp) ?_
                    refine (openIn_skip _ rfl rfl rfl (fun c h => by cases h) rfl (store3 (.tmp 52) rfl rfl rfl c3 f3b) ?_ AllReadyIn.nil)
                    refine wpAnyIn_done (by kernel_rfl) ?_ _
                    exact FIN.out _
                  · simp only [Act.put, List.setIfInBounds_toArray, List.set_cons_zero, List.set_cons_succ]
                    refine wpAnyIn_ready (rs := [2, 8]) (by kernel_rfl) (by simp) ?_
                    refine (openIn_value (some 46) (.pointer (some ⟨g, 0, none⟩)) rfl rfl rfl (fun c h => by cases h) rfl (load25 (.tmp 2) rfl rfl E1.out) ?_ (openIn_skip _ rfl rfl rfl (fun c h => by cases h) rfl (store4 (.tmp 50) rfl rfl rfl c2 f2) ?_ AllReadyIn.nil))
                    · simp only [Act.put, List.setIfInBounds_toArray, List.set_cons_zero, List.set_cons_succ]
                      refine wpAnyIn_ready (rs := [8]) (by kernel_rfl) (by simp) ?_
                      refine (openIn_skip _ rfl rfl rfl (fun c h => by cases h) rfl (store4 (.tmp 50) rfl rfl rfl c2 f2) ?_ AllReadyIn.nil)
                      refine wpAnyIn_ready (rs := [9]) (by kernel_rfl) (by simp) ?_
                      refine (openIn_value (some 51) (.pointer (some ⟨g, 0, none⟩)) rfl rfl rfl (fun c h => by cases h) rfl (by kernel_rfl) ?_ AllReadyIn.nil)
                      simp only [Act.put, List.setIfInBounds_toArray, List.set_cons_zero, List.set_cons_succ]
                      refine wpAnyIn_ready (rs := [10]) (by kernel_rfl) (by simp) ?_
                      refine (openIn_value (some 52) (.pointer (some ⟨g, 3, none⟩)) rfl rfl rfl (fun c h => by cases h) rfl (by kernel_rfl) ?_ AllReadyIn.nil)
                      simp only [Act.put, List.setIfInBounds_toArray, List.set_cons_zero, List.set_cons_succ]
                      refine wpAnyIn_ready (rs := [11]) (by kernel_rfl) (by simp) ?_
                      refine (openIn_skip _ rfl rfl rfl (fun c h => by cases h) rfl (store3 (.tmp 52) rfl rfl rfl c3 f3b) ?_ AllReadyIn.nil)
                      refine wpAnyIn_done (by kernel_rfl) ?_ _
                      exact FIN.out _
                    · refine wpAnyIn_ready (rs := [2]) (by kernel_rfl) (by simp) ?_
                      refine (openIn_value (some 46) (.pointer (some ⟨g, 0, none⟩)) rfl rfl rfl (fun c h => by cases h) rfl (load25 (.tmp 2) rfl rfl E2.out) ?_ AllReadyIn.nil)
                      simp only [Act.put, List.setIfInBounds_toArray, List.set_cons_zero, List.set_cons_succ]
                      refine wpAnyIn_ready (rs := [9]) (by kernel_rfl) (by simp) ?_
                      refine (openIn_value (some 51) (.pointer (some ⟨g, 0, none⟩)) rfl rfl rfl (fun c h => by cases h) rfl (by kernel_rfl) ?_ AllReadyIn.nil)
                      simp only [Act.put, List.setIfInBounds_toArray, List.set_cons_zero, List.set_cons_succ]
                      refine wpAnyIn_ready (rs := [10]) (by kernel_rfl) (by simp) ?_
                      refine (openIn_value (some 52) (.pointer (some ⟨g, 3, none⟩)) rfl rfl rfl (fun c h => by cases h) rfl (by kernel_rfl) ?_ AllReadyIn.nil)
                      simp only [Act.put, List.setIfInBounds_toArray, List.set_cons_zero, List.set_cons_succ]
                      refine wpAnyIn_ready (rs := [11]) (by kernel_rfl) (by simp) ?_
                      refine (openIn_skip _ rfl rfl rfl (fun c h => by cases h) rfl (store3 (.tmp 52) rfl rfl rfl c3 f3b) ?_ AllReadyIn.nil)
                      refine wpAnyIn_done (by kernel_rfl) ?_ _
                      exact FIN.out _
          · simp only [Act.put, List.setIfInBounds_toArray, List.set_cons_zero, List.set_cons_succ]
            refine wpAnyIn_ready (rs := [1, 4]) (by kernel_rfl) (by simp) ?_
            refine (openIn_value (some 45) (.pointer (some ⟨g, 0, none⟩)) rfl rfl rfl (fun c h => by cases h) rfl (load25 (.tmp 2) rfl rfl E0.out) ?_ (openIn_value (some 48) (.pointer (some ⟨g, 1, none⟩)) rfl rfl rfl (fun c h => by cases h) rfl (by kernel_rfl) ?_ AllReadyIn.nil))
            · simp only [Act.put, List.setIfInBounds_toArray, List.set_cons_zero, List.set_cons_succ]
              refine wpAnyIn_ready (rs := [4]) (by kernel_rfl) (by simp) ?_
              refine (openIn_value (some 48) (.pointer (some ⟨g, 1, none⟩)) rfl rfl rfl (fun c h => by cases h) rfl (by kernel_rfl) ?_ AllReadyIn.nil)
              simp only [Act.put, List.setIfInBounds_toArray, List.set_cons_zero, List.set_cons_succ]
              refine wpAnyIn_ready (rs := [5]) (by kernel_rfl) (by simp) ?_
              refine (openIn_skip _ rfl rfl rfl (fun c h => by cases h) rfl (store63 (.tmp 48) rfl rfl rfl c1 f1) ?_ AllReadyIn.nil)
              refine wpAnyIn_ready (rs := [6]) (by kernel_rfl) (by simp) ?_
              refine (openIn_value (some 49) (.pointer (some ⟨g, 0, none⟩)) rfl rfl rfl (fun c h => by cases h) rfl (by kernel_rfl) ?_ AllReadyIn.nil)
              simp only [Act.put, List.setIfInBounds_toArray, List.set_cons_zero, List.set_cons_succ]
              refine wpAnyIn_ready (rs := [7]) (by kernel_rfl) (by simp) ?_
              refine (openIn_value (some 50) (.pointer (some ⟨g, 2, none⟩)) rfl rfl rfl (fun c h => by cases h) rfl (by kernel_rfl) ?_ AllReadyIn.nil)
              simp only [Act.put, List.setIfInBounds_toArray, List.set_cons_zero, List.set_cons_succ]
              refine wpAnyIn_ready (rs := [8]) (by kernel_rfl) (by simp) ?_
              refine (openIn_skip _ rfl rfl rfl (fun c h => by cases h) rfl (store4 (.tmp 50) rfl rfl rfl c2 f2) ?_ AllReadyIn.nil)
              refine wpAnyIn_ready (rs := [9]) (by kernel_rfl) (by simp) ?_
              refine (openIn_value (some 51) (.pointer (some ⟨g, 0, none⟩)) rfl rfl rfl (fun c h => by cases h) rfl (by kernel_rfl) ?_ AllReadyIn.nil)
              simp only [Act.put, List.setIfInBounds_toArray, List.set_cons_zero, List.set_cons_succ]
              refine wpAnyIn_ready (rs := [10]) (by kernel_rfl) (by simp) ?_
              refine (openIn_value (some 52) (.pointer (some ⟨g, 3, none⟩)) rfl rfl rfl (fun c h => by cases h) rfl (by kernel_rfl) ?_ AllReadyIn.nil)
              simp only [Act.put, List.setIfInBounds_toArray, List.set_cons_zero, List.set_cons_succ]
              refine wpAnyIn_ready (rs := [11]) (by kernel_rfl) (by simp) ?_
              refine (openIn_skip _ rfl rfl rfl (fun c h => by cases h) rfl (store3 (.tmp 52) rfl rfl rfl c3 f3b) ?_ AllReadyIn.nil)
              refine wpAnyIn_done (by kernel_rfl) ?_ _
              exact FIN.out _
            · simp only [Act.put, List.setIfInBounds_toArray, List.set_cons_zero, List.set_cons_succ]
              refine wpAnyIn_ready (rs := [1, 5]) (by kernel_rfl) (by simp) ?_
              refine (openIn_value (some 45) (.pointer (some ⟨g, 0, none⟩)) rfl rfl rfl (fun c h => by cases h) rfl (load25 (.tmp 2) rfl rfl E0.out) ?_ (openIn_skip _ rfl rfl rfl (fun c h => by cases h) rfl (store63 (.tmp 48) rfl rfl rfl c1 f1) ?_ AllReadyIn.nil))
              · simp only [Act.put, List.setIfInBounds_toArray, List.set_cons_zero, List.set_cons_succ]
                refine wpAnyIn_ready (rs := [5]) (by kernel_rfl) (by simp) ?_
                refine (openIn_skip _ rfl rfl rfl (fun c h => by cases h) rfl (store63 (.tmp 48) rfl rfl rfl c1 f1) ?_ AllReadyIn.nil)
                refine wpAnyIn_ready (rs := [6]) (by kernel_rfl) (by simp) ?_
                refine (openIn_value (some 49) (.pointer (some ⟨g, 0, none⟩)) rfl rfl rfl (fun c h => by cases h) rfl (by kernel_rfl) ?_ AllReadyIn.nil)
                simp only [Act.put, List.setIfInBounds_toArray, List.set_cons_zero, List.set_cons_succ]
                refine wpAnyIn_ready (rs := [7]) (by kernel_rfl) (by simp) ?_
                refine (openIn_value (some 50) (.pointer (some ⟨g, 2, none⟩)) rfl rfl rfl (fun c h => by cases h) rfl (by kernel_rfl) ?_ AllReadyIn.nil)
                simp only [Act.put, List.setIfInBounds_toArray, List.set_cons_zero, List.set_cons_succ]
                refine wpAnyIn_ready (rs := [8]) (by kernel_rfl) (by simp) ?_
                refine (openIn_skip _ rfl rfl rfl (fun c h => by cases h) rfl (store4 (.tmp 50) rfl rfl rfl c2 f2) ?_ AllReadyIn.nil)
                refine wpAnyIn_ready (rs := [9]) (by kernel_rfl) (by simp) ?_
                refine (openIn_value (some 51) (.pointer (some ⟨g, 0, none⟩)) rfl rfl rfl (fun c h => by cases h) rfl (by kernel_rfl) ?_ AllReadyIn.nil)
                simp only [Act.put, List.setIfInBounds_toArray, List.set_cons_zero, List.set_cons_succ]
                refine wpAnyIn_ready (rs := [10]) (by kernel_rfl) (by simp) ?_
                refine (openIn_value (some 52) (.pointer (some ⟨g, 3, none⟩)) rfl rfl rfl (fun c h => by cases h) rfl (by kernel_rfl) ?_ AllReadyIn.nil)
                simp only [Act.put, List.setIfInBounds_toArray, List.set_cons_zero, List.set_cons_succ]
                refine wpAnyIn_ready (rs := [11]) (by kernel_rfl) (by simp) ?_
                refine (openIn_skip _ rfl rfl rfl (fun c h => by cases h) rfl (store3 (.tmp 52) rfl rfl rfl c3 f3b) ?_ AllReadyIn.nil)
                refine wpAnyIn_done (by kernel_rfl) ?_ _
                exact FIN.out _
              · refine wpAnyIn_ready (rs := [1]) (by kernel_rfl) (by simp) ?_
                refine (openIn_value (some 45) (.pointer (some ⟨g, 0, none⟩)) rfl rfl rfl (fun c h => by cases h) rfl (load25 (.tmp 2) rfl rfl E1.out) ?_ AllReadyIn.nil)
                simp only [Act.put, List.setIfInBounds_toArray, List.set_cons_zero, List.set_cons_succ]
                refine wpAnyIn_ready (rs := [6]) (by kernel_rfl) (by simp) ?_
                refine (openIn_value (some 49) (.pointer (some ⟨g, 0, none⟩)) rfl rfl rfl (fun c h => by cases h) rfl (by kernel_rfl) ?_ AllReadyIn.nil)
                simp only [Act.put, List.setIfInBounds_toArray, List.set_cons_zero, List.set_cons_succ]
                refine wpAnyIn_ready (rs := [7]) (by kernel_rfl) (by simp) ?_
                refine (openIn_value (some 50) (.pointer (some ⟨g, 2, none⟩)) rfl rfl rfl (fun c h => by cases h) rfl (by kernel_rfl) ?_ AllReadyIn.nil)
                simp only [Act.put, List.setIfInBounds_toArray, List.set_cons_zero, List.set_cons_succ]
                refine wpAnyIn_ready (rs := [8]) (by kernel_rfl) (by simp) ?_
                refine (openIn_skip _ rfl rfl rfl (fun c h => by cases h) rfl (store4 (.tmp 50) rfl rfl rfl c2 f2) ?_ AllReadyIn.nil)
                refine wpAnyIn_ready (rs := [9]) (by kernel_rfl) (by simp) ?_
                refine (openIn_value (some 51) (.pointer (some ⟨g, 0, none⟩)) rfl rfl rfl (fun c h => by cases h) rfl (by kernel_rfl) ?_ AllReadyIn.nil)
                simp only [Act.put, List.setIfInBounds_toArray, List.set_cons_zero, List.set_cons_succ]
                refine wpAnyIn_ready (rs := [10]) (by kernel_rfl) (by simp) ?_
                refine (openIn_value (some 52) (.pointer (some ⟨g, 3, none⟩)) rfl rfl rfl (fun c h => by cases h) rfl (by kernel_rfl) ?_ AllReadyIn.nil)
                simp only [Act.put, List.setIfInBounds_toArray, List.set_cons_zero, List.set_cons_succ]
                refine wpAnyIn_ready (rs := [11]) (by kernel_rfl) (by simp) ?_
                refine (openIn_skip _ rfl rfl rfl (fun c h => by cases h) rfl (store3 (.tmp 52) rfl rfl rfl c3 f3b) ?_ AllReadyIn.nil)
                refine wpAnyIn_done (by kernel_rfl) ?_ _
                exact FIN.out _
          · simp only [Act.put, List.setIfInBounds_toArray, List.set_cons_zero, List.set_cons_succ]
            refine wpAnyIn_ready (rs := [1, 2, 5]) (by kernel_rfl) (by simp) ?_
            refine (openIn_value (some 45) (.pointer (some ⟨g, 0, none⟩)) rfl rfl rfl (fun c h => by cases h) rfl (load25 (.tmp 2) rfl rfl E0.out) ?_ (openIn_value (some 46) (.pointer (some ⟨g, 0, none⟩)) rfl rfl rfl (fun c h => by cases h) rfl (load25 (.tmp 2) rfl rfl E0.out) ?_ (openIn_skip _ rfl rfl rfl (fun c h => by cases h) rfl (store63 (.tmp 48) rfl rfl rfl c1 f1) ?_ AllReadyIn.nil)))
            · simp only [Act.put, List.setIfInBounds_toArray, List.set_cons_zero, List.set_cons_succ]
              refine wpAnyIn_ready (rs := [2, 5]) (by kernel_rfl) (by simp) ?_
              refine (openIn_value (some 46) (.pointer (some ⟨g, 0, none⟩)) rfl rfl rfl (fun c h => by cases h) rfl (load25 (.tmp 2) rfl rfl E0.out) ?_ (openIn_skip _ rfl rfl rfl (fun c h => by cases h) rfl (store63 (.tmp 48) rfl rfl rfl c1 f1) ?_ AllReadyIn.nil))
              · simp only [Act.put, List.setIfInBounds_toArray, List.set_cons_zero, List.set_cons_succ]
                refine wpAnyIn_ready (rs := [5]) (by kernel_rfl) (by simp) ?_
                refine (openIn_skip _ rfl rfl rfl (fun c h => by cases h) rfl (store63 (.tmp 48) rfl rfl rfl c1 f1) ?_ AllReadyIn.nil)
                refine wpAnyIn_ready (rs := [6]) (by kernel_rfl) (by simp) ?_
                refine (openIn_value (some 49) (.pointer (some ⟨g, 0, none⟩)) rfl rfl rfl (fun c h => by cases h) rfl (by kernel_rfl) ?_ AllReadyIn.nil)
                simp only [Act.put, List.setIfInBounds_toArray, List.set_cons_zero, List.set_cons_succ]
                refine wpAnyIn_ready (rs := [7]) (by kernel_rfl) (by simp) ?_
                refine (openIn_value (some 50) (.pointer (some ⟨g, 2, none⟩)) rfl rfl rfl (fun c h => by cases h) rfl (by kernel_rfl) ?_ AllReadyIn.nil)
                simp only [Act.put, List.setIfInBounds_toArray, List.set_cons_zero, List.set_cons_succ]
                refine wpAnyIn_ready (rs := [8]) (by kernel_rfl) (by simp) ?_
                refine (openIn_skip _ rfl rfl rfl (fun c h => by cases h) rfl (store4 (.tmp 50) rfl rfl rfl c2 f2) ?_ AllReadyIn.nil)
                refine wpAnyIn_ready (rs := [9]) (by kernel_rfl) (by simp) ?_
                refine (openIn_value (some 51) (.pointer (some ⟨g, 0, none⟩)) rfl rfl rfl (fun c h => by cases h) rfl (by kernel_rfl) ?_ AllReadyIn.nil)
                simp only [Act.put, List.setIfInBounds_toArray, List.set_cons_zero, List.set_cons_succ]
                refine wpAnyIn_ready (rs := [10]) (by kernel_rfl) (by simp) ?_
                refine (openIn_value (some 52) (.pointer (some ⟨g, 3, none⟩)) rfl rfl rfl (fun c h => by cases h) rfl (by kernel_rfl) ?_ AllReadyIn.nil)
                simp only [Act.put, List.setIfInBounds_toArray, List.set_cons_zero, List.set_cons_succ]
                refine wpAnyIn_ready (rs := [11]) (by kernel_rfl) (by simp) ?_
                refine (openIn_skip _ rfl rfl rfl (fun c h => by cases h) rfl (store3 (.tmp 52) rfl rfl rfl c3 f3b) ?_ AllReadyIn.nil)
                refine wpAnyIn_done (by kernel_rfl) ?_ _
                exact FIN.out _
              · refine wpAnyIn_ready (rs := [2, 6]) (by kernel_rfl) (by simp) ?_
                refine (openIn_value (some 46) (.pointer (some ⟨g, 0, none⟩)) rfl rfl rfl (fun c h => by cases h) rfl (load25 (.tmp 2) rfl rfl E1.out) ?_ (openIn_value (some 49) (.pointer (some ⟨g, 0, none⟩)) rfl rfl rfl (fun c h => by cases h) rfl (by kernel_rfl) ?_ AllReadyIn.nil))
                · simp only [Act.put, List.setIfInBounds_toArray, List.set_cons_zero, List.set_cons_succ]
                  refine wpAnyIn_ready (rs := [6]) (by kernel_rfl) (by simp) ?_
                  refine (openIn_value (some 49) (.pointer (some ⟨g, 0, none⟩)) rfl rfl rfl (fun c h => by cases h) rfl (by kernel_rfl) ?_ AllReadyIn.nil)
                  simp only [Act.put, List.setIfInBounds_toArray, List.set_cons_zero, List.set_cons_succ]
                  refine wpAnyIn_ready (rs := [7]) (by kernel_rfl) (by simp) ?_
                  refine (openIn_value (some 50) (.pointer (some ⟨g, 2, none⟩)) rfl rfl rfl (fun c h => by cases h) rfl (by kernel_rfl) ?_ AllReadyIn.nil)
                  simp only [Act.put, List.setIfInBounds_toArray, List.set_cons_zero, List.set_cons_succ]
                  refine wpAnyIn_ready (rs := [8]) (by kernel_rfl) (by simp) ?_
                  refine (openIn_skip _ rfl rfl rfl (fun c h => by cases h) rfl (store4 (.tmp 50) rfl rfl rfl c2 f2) ?_ AllReadyIn.nil)
                  refine wpAnyIn_ready (rs := [9]) (by kernel_rfl) (by simp) ?_
                  refine (openIn_value (some 51) (.pointer (some ⟨g, 0, none⟩)) rfl rfl rfl (fun c h => by cases h) rfl (by kernel_rfl) ?_ AllReadyIn.nil)
                  simp only [Act.put, List.setIfInBounds_toArray, List.set_cons_zero, List.set_cons_succ]
                  refine wpAnyIn_ready (rs := [10]) (by kernel_rfl) (by simp) ?_
                  refine (openIn_value (some 52) (.pointer (some ⟨g, 3, none⟩)) rfl rfl rfl (fun c h => by cases h) rfl (by kernel_rfl) ?_ AllReadyIn.nil)
                  simp only [Act.put, List.setIfInBounds_toArray, List.set_cons_zero, List.set_cons_succ]
                  refine wpAnyIn_ready (rs := [11]) (by kernel_rfl) (by simp) ?_
                  refine (openIn_skip _ rfl rfl rfl (fun c h => by cases h) rfl (store3 (.tmp 52) rfl rfl rfl c3 f3b) ?_ AllReadyIn.nil)
                  refine wpAnyIn_done (by kernel_rfl) ?_ _
                  exact FIN.out _
                · simp only [Act.put, List.setIfInBounds_toArray, List.set_cons_zero, List.set_cons_succ]
                  refine wpAnyIn_ready (rs := [2, 7]) (by kernel_rfl) (by simp) ?_
                  refine (openIn_value (some 46) (.pointer (some ⟨g, 0, none⟩)) rfl rfl rfl (fun c h => by cases h) rfl (load25 (.tmp 2) rfl rfl E1.out) ?_ (openIn_value (some 50) (.pointer (some ⟨g, 2, none⟩)) rfl rfl rfl (fun c h => by cases h) rfl (by kernel_rfl) ?_ AllReadyIn.nil))
                  · simp only [Act.put, List.setIfInBounds_toArray, List.set_cons_zero, List.set_cons_succ]
                    refine wpAnyIn_ready (rs := [7]) (by kernel_rfl) (by simp) ?_
                    refine (openIn_value (some 50) (.pointer (some ⟨g, 2, none⟩)) rfl rfl rfl (fun c h => by cases h) rfl (by kernel_rfl) ?_ AllReadyIn.nil)
                    simp only [Act.put, List.setIfInBounds_toArray, List.set_cons_zero, List.set_cons_succ]
                    refine wpAnyIn_ready (rs := [8]) (by kernel_rfl) (by simp) ?_
                    refine (openIn_skip _ rfl rfl rfl (fun c h => by cases h) rfl (store4 (.tmp 50) rfl rfl rfl c2 f2) ?_ AllReadyIn.nil)
                    refine wpAnyIn_ready (rs := [9]) (by kernel_rfl) (by simp) ?_
                    refine (openIn_value (some 51) (.pointer (some ⟨g, 0, none⟩)) rfl rfl rfl (fun c h => by cases h) rfl (by kernel_rfl) ?_ AllReadyIn.nil)
                    simp only [Act.put, List.setIfInBounds_toArray, List.set_cons_zero, List.set_cons_succ]
                    refine wpAnyIn_ready (rs := [10]) (by kernel_rfl) (by simp) ?_
                    refine (openIn_value (some 52) (.pointer (some ⟨g, 3, none⟩)) rfl rfl rfl (fun c h => by cases h) rfl (by kernel_rfl) ?_ AllReadyIn.nil)
                    simp only [Act.put, List.setIfInBounds_toArray, List.set_cons_zero, List.set_cons_succ]
                    refine wpAnyIn_ready (rs := [11]) (by kernel_rfl) (by simp) ?_
                    refine (openIn_skip _ rfl rfl rfl (fun c h => by cases h) rfl (store3 (.tmp 52) rfl rfl rfl c3 f3b) ?_ AllReadyIn.nil)
                    refine wpAnyIn_done (by kernel_rfl) ?_ _
                    exact FIN.out _
                  · simp only [Act.put, List.setIfInBounds_toArray, List.set_cons_zero, List.set_cons_succ]
                    refine wpAnyIn_ready (rs := [2, 8]) (by kernel_rfl) (by simp) ?_
                    refine (openIn_value (some 46) (.pointer (some ⟨g, 0, none⟩)) rfl rfl rfl (fun c h => by cases h) rfl (load25 (.tmp 2) rfl rfl E1.out) ?_ (openIn_skip _ rfl rfl rfl (fun c h => by cases h) rfl (store4 (.tmp 50) rfl rfl rfl c2 f2) ?_ AllReadyIn.nil))
                    · simp only [Act.put, List.setIfInBounds_toArray, List.set_cons_zero, List.set_cons_succ]
                      refine wpAnyIn_ready (rs := [8]) (by kernel_rfl) (by simp) ?_
                      refine (openIn_skip _ rfl rfl rfl (fun c h => by cases h) rfl (store4 (.tmp 50) rfl rfl rfl c2 f2) ?_ AllReadyIn.nil)
                      refine wpAnyIn_ready (rs := [9]) (by kernel_rfl) (by simp) ?_
                      refine (openIn_value (some 51) (.pointer (some ⟨g, 0, none⟩)) rfl rfl rfl (fun c h => by cases h) rfl (by kernel_rfl) ?_ AllReadyIn.nil)
                      simp only [Act.put, List.setIfInBounds_toArray, List.set_cons_zero, List.set_cons_succ]
                      refine wpAnyIn_ready (rs := [10]) (by kernel_rfl) (by simp) ?_
                      refine (openIn_value (some 52) (.pointer (some ⟨g, 3, none⟩)) rfl rfl rfl (fun c h => by cases h) rfl (by kernel_rfl) ?_ AllReadyIn.nil)
                      simp only [Act.put, List.setIfInBounds_toArray, List.set_cons_zero, List.set_cons_succ]
                      refine wpAnyIn_ready (rs := [11]) (by kernel_rfl) (by simp) ?_
                      refine (openIn_skip _ rfl rfl rfl (fun c h => by cases h) rfl (store3 (.tmp 52) rfl rfl rfl c3 f3b) ?_ AllReadyIn.nil)
                      refine wpAnyIn_done (by kernel_rfl) ?_ _
                      exact FIN.out _
                    · refine wpAnyIn_ready (rs := [2]) (by kernel_rfl) (by simp) ?_
                      refine (openIn_value (some 46) (.pointer (some ⟨g, 0, none⟩)) rfl rfl rfl (fun c h => by cases h) rfl (load25 (.tmp 2) rfl rfl E2.out) ?_ AllReadyIn.nil)
                      simp only [Act.put, List.setIfInBounds_toArray, List.set_cons_zero, List.set_cons_succ]
                      refine wpAnyIn_ready (rs := [9]) (by kernel_rfl) (by simp) ?_
                      refine (openIn_value (some 51) (.pointer (some ⟨g, 0, none⟩)) rfl rfl rfl (fun c h => by cases h) rfl (by kernel_rfl) ?_ AllReadyIn.nil)
                      simp only [Act.put, List.setIfInBounds_toArray, List.set_cons_zero, List.set_cons_succ]
                      refine wpAnyIn_ready (rs := [10]) (by kernel_rfl) (by simp) ?_
                      refine (openIn_value (some 52) (.pointer (some ⟨g, 3, none⟩)) rfl rfl rfl (fun c h => by cases h) rfl (by kernel_rfl) ?_ AllReadyIn.nil)
                      simp only [Act.put, List.setIfInBounds_toArray, List.set_cons_zero, List.set_cons_succ]
                      refine wpAnyIn_ready (rs := [11]) (by kernel_rfl) (by simp) ?_
                      refine (openIn_skip _ rfl rfl rfl (fun c h => by cases h) rfl (store3 (.tmp 52) rfl rfl rfl c3 f3b) ?_ AllReadyIn.nil)
                      refine wpAnyIn_done (by kernel_rfl) ?_ _
                      exact FIN.out _
            · simp only [Act.put, List.setIfInBounds_toArray, List.set_cons_zero, List.set_cons_succ]
              refine wpAnyIn_ready (rs := [1, 5]) (by kernel_rfl) (by simp) ?_
              refine (openIn_value (some 45) (.pointer (some ⟨g, 0, none⟩)) rfl rfl rfl (fun c h => by cases h) rfl (load25 (.tmp 2) rfl rfl E0.out) ?_ (openIn_skip _ rfl rfl rfl (fun c h => by cases h) rfl (store63 (.tmp 48) rfl rfl rfl c1 f1) ?_ AllReadyIn.nil))
              · simp only [Act.put, List.setIfInBounds_toArray, List.set_cons_zero, List.set_cons_succ]
                refine wpAnyIn_ready (rs := [5]) (by kernel_rfl) (by simp) ?_
                refine (openIn_skip _ rfl rfl rfl (fun c h => by cases h) rfl (store63 (.tmp 48) rfl rfl rfl c1 f1) ?_ AllReadyIn.nil)
                refine wpAnyIn_ready (rs := [6]) (by kernel_rfl) (by simp) ?_
                refine (openIn_value (some 49) (.pointer (some ⟨g, 0, none⟩)) rfl rfl rfl (fun c h => by cases h) rfl (by kernel_rfl) ?_ AllReadyIn.nil)
                simp only [Act.put, List.setIfInBounds_toArray, List.set_cons_zero, List.set_cons_succ]
                refine wpAnyIn_ready (rs := [7]) (by kernel_rfl) (by simp) ?_
                refine (openIn_value (some 50) (.pointer (some ⟨g, 2, none⟩)) rfl rfl rfl (fun c h => by cases h) rfl (by kernel_rfl) ?_ AllReadyIn.nil)
                simp only [Act.put, List.setIfInBounds_toArray, List.set_cons_zero, List.set_cons_succ]
                refine wpAnyIn_ready (rs := [8]) (by kernel_rfl) (by simp) ?_
                refine (openIn_skip _ rfl rfl rfl (fun c h => by cases h) rfl (store4 (.tmp 50) rfl rfl rfl c2 f2) ?_ AllReadyIn.nil)
                refine wpAnyIn_ready (rs := [9]) (by kernel_rfl) (by simp) ?_
                refine (openIn_value (some 51) (.pointer (some ⟨g, 0, none⟩)) rfl rfl rfl (fun c h => by cases h) rfl (by kernel_rfl) ?_ AllReadyIn.nil)
                simp only [Act.put, List.setIfInBounds_toArray, List.set_cons_zero, List.set_cons_succ]
                refine wpAnyIn_ready (rs := [10]) (by kernel_rfl) (by simp) ?_
                refine (openIn_value (some 52) (.pointer (some ⟨g, 3, none⟩)) rfl rfl rfl (fun c h => by cases h) rfl (by kernel_rfl) ?_ AllReadyIn.nil)
                simp only [Act.put, List.setIfInBounds_toArray, List.set_cons_zero, List.set_cons_succ]
                refine wpAnyIn_ready (rs := [11]) (by kernel_rfl) (by simp) ?_
                refine (openIn_skip _ rfl rfl rfl (fun c h => by cases h) rfl (store3 (.tmp 52) rfl rfl rfl c3 f3b) ?_ AllReadyIn.nil)
                refine wpAnyIn_done (by kernel_rfl) ?_ _
                exact FIN.out _
              · refine wpAnyIn_ready (rs := [1]) (by kernel_rfl) (by simp) ?_
                refine (openIn_value (some 45) (.pointer (some ⟨g, 0, none⟩)) rfl rfl rfl (fun c h => by cases h) rfl (load25 (.tmp 2) rfl rfl E1.out) ?_ AllReadyIn.nil)
                simp only [Act.put, List.setIfInBounds_toArray, List.set_cons_zero, List.set_cons_succ]
                refine wpAnyIn_ready (rs := [6]) (by kernel_rfl) (by simp) ?_
                refine (openIn_value (some 49) (.pointer (some ⟨g, 0, none⟩)) rfl rfl rfl (fun c h => by cases h) rfl (by kernel_rfl) ?_ AllReadyIn.nil)
                simp only [Act.put, List.setIfInBounds_toArray, List.set_cons_zero, List.set_cons_succ]
                refine wpAnyIn_ready (rs := [7]) (by kernel_rfl) (by simp) ?_
                refine (openIn_value (some 50) (.pointer (some ⟨g, 2, none⟩)) rfl rfl rfl (fun c h => by cases h) rfl (by kernel_rfl) ?_ AllReadyIn.nil)
                simp only [Act.put, List.setIfInBounds_toArray, List.set_cons_zero, List.set_cons_succ]
                refine wpAnyIn_ready (rs := [8]) (by kernel_rfl) (by simp) ?_
                refine (openIn_skip _ rfl rfl rfl (fun c h => by cases h) rfl (store4 (.tmp 50) rfl rfl rfl c2 f2) ?_ AllReadyIn.nil)
                refine wpAnyIn_ready (rs := [9]) (by kernel_rfl) (by simp) ?_
                refine (openIn_value (some 51) (.pointer (some ⟨g, 0, none⟩)) rfl rfl rfl (fun c h => by cases h) rfl (by kernel_rfl) ?_ AllReadyIn.nil)
                simp only [Act.put, List.setIfInBounds_toArray, List.set_cons_zero, List.set_cons_succ]
                refine wpAnyIn_ready (rs := [10]) (by kernel_rfl) (by simp) ?_
                refine (openIn_value (some 52) (.pointer (some ⟨g, 3, none⟩)) rfl rfl rfl (fun c h => by cases h) rfl (by kernel_rfl) ?_ AllReadyIn.nil)
                simp only [Act.put, List.setIfInBounds_toArray, List.set_cons_zero, List.set_cons_succ]
                refine wpAnyIn_ready (rs := [11]) (by kernel_rfl) (by simp) ?_
                refine (openIn_skip _ rfl rfl rfl (fun c h => by cases h) rfl (store3 (.tmp 52) rfl rfl rfl c3 f3b) ?_ AllReadyIn.nil)
                refine wpAnyIn_done (by kernel_rfl) ?_ _
                exact FIN.out _
            · refine wpAnyIn_ready (rs := [1, 2]) (by kernel_rfl) (by simp) ?_
              refine (openIn_value (some 45) (.pointer (some ⟨g, 0, none⟩)) rfl rfl rfl (fun c h => by cases h) rfl (load25 (.tmp 2) rfl rfl E1.out) ?_ (openIn_value (some 46) (.pointer (some ⟨g, 0, none⟩)) rfl rfl rfl (fun c h => by cases h) rfl (load25 (.tmp 2) rfl rfl E1.out) ?_ AllReadyIn.nil))
              · simp only [Act.put, List.setIfInBounds_toArray, List.set_cons_zero, List.set_cons_succ]
                refine wpAnyIn_ready (rs := [2, 6]) (by kernel_rfl) (by simp) ?_
                refine (openIn_value (some 46) (.pointer (some ⟨g, 0, none⟩)) rfl rfl rfl (fun c h => by cases h) rfl (load25 (.tmp 2) rfl rfl E1.out) ?_ (openIn_value (some 49) (.pointer (some ⟨g, 0, none⟩)) rfl rfl rfl (fun c h => by cases h) rfl (by kernel_rfl) ?_ AllReadyIn.nil))
                · simp only [Act.put, List.setIfInBounds_toArray, List.set_cons_zero, List.set_cons_succ]
                  refine wpAnyIn_ready (rs := [6]) (by kernel_rfl) (by simp) ?_
                  refine (openIn_value (some 49) (.pointer (some ⟨g, 0, none⟩)) rfl rfl rfl (fun c h => by cases h) rfl (by kernel_rfl) ?_ AllReadyIn.nil)
                  simp only [Act.put, List.setIfInBounds_toArray, List.set_cons_zero, List.set_cons_succ]
                  refine wpAnyIn_ready (rs := [7]) (by kernel_rfl) (by simp) ?_
                  refine (openIn_value (some 50) (.pointer (some ⟨g, 2, none⟩)) rfl rfl rfl (fun c h => by cases h) rfl (by kernel_rfl) ?_ AllReadyIn.nil)
                  simp only [Act.put, List.setIfInBounds_toArray, List.set_cons_zero, List.set_cons_succ]
                  refine wpAnyIn_ready (rs := [8]) (by kernel_rfl) (by simp) ?_
                  refine (openIn_skip _ rfl rfl rfl (fun c h => by cases h) rfl (store4 (.tmp 50) rfl rfl rfl c2 f2) ?_ AllReadyIn.nil)
                  refine wpAnyIn_ready (rs := [9]) (by kernel_rfl) (by simp) ?_
                  refine (openIn_value (some 51) (.pointer (some ⟨g, 0, none⟩)) rfl rfl rfl (fun c h => by cases h) rfl (by kernel_rfl) ?_ AllReadyIn.nil)
                  simp only [Act.put, List.setIfInBounds_toArray, List.set_cons_zero, List.set_cons_succ]
                  refine wpAnyIn_ready (rs := [10]) (by kernel_rfl) (by simp) ?_
                  refine (openIn_value (some 52) (.pointer (some ⟨g, 3, none⟩)) rfl rfl rfl (fun c h => by cases h) rfl (by kernel_rfl) ?_ AllReadyIn.nil)
                  simp only [Act.put, List.setIfInBounds_toArray, List.set_cons_zero, List.set_cons_succ]
                  refine wpAnyIn_ready (rs := [11]) (by kernel_rfl) (by simp) ?_
                  refine (openIn_skip _ rfl rfl rfl (fun c h => by cases h) rfl (store3 (.tmp 52) rfl rfl rfl c3 f3b) ?_ AllReadyIn.nil)
                  refine wpAnyIn_done (by kernel_rfl) ?_ _
                  exact FIN.out _
                · simp only [Act.put, List.setIfInBounds_toArray, List.set_cons_zero, List.set_cons_succ]
                  refine wpAnyIn_ready (rs := [2, 7]) (by kernel_rfl) (by simp) ?_
                  refine (openIn_value (some 46) (.pointer (some ⟨g, 0, none⟩)) rfl rfl rfl (fun c h => by cases h) rfl (load25 (.tmp 2) rfl rfl E1.out) ?_ (openIn_value (some 50) (.pointer (some ⟨g, 2, none⟩)) rfl rfl rfl (fun c h => by cases h) rfl (by kernel_rfl) ?_ AllReadyIn.nil))
                  · simp only [Act.put, List.setIfInBounds_toArray, List.set_cons_zero, List.set_cons_succ]
                    refine wpAnyIn_ready (rs := [7]) (by kernel_rfl) (by simp) ?_
                    refine (openIn_value (some 50) (.pointer (some ⟨g, 2, none⟩)) rfl rfl rfl (fun c h => by cases h) rfl (by kernel_rfl) ?_ AllReadyIn.nil)
                    simp only [Act.put, List.setIfInBounds_toArray, List.set_cons_zero, List.set_cons_succ]
                    refine wpAnyIn_ready (rs := [8]) (by kernel_rfl) (by simp) ?_
                    refine (openIn_skip _ rfl rfl rfl (fun c h => by cases h) rfl (store4 (.tmp 50) rfl rfl rfl c2 f2) ?_ AllReadyIn.nil)
                    refine wpAnyIn_ready (rs := [9]) (by kernel_rfl) (by simp) ?_
                    refine (openIn_value (some 51) (.pointer (some ⟨g, 0, none⟩)) rfl rfl rfl (fun c h => by cases h) rfl (by kernel_rfl) ?_ AllReadyIn.nil)
                    simp only [Act.put, List.setIfInBounds_toArray, List.set_cons_zero, List.set_cons_succ]
                    refine wpAnyIn_ready (rs := [10]) (by kernel_rfl) (by simp) ?_
                    refine (openIn_value (some 52) (.pointer (some ⟨g, 3, none⟩)) rfl rfl rfl (fun c h => by cases h) rfl (by kernel_rfl) ?_ AllReadyIn.nil)
                    simp only [Act.put, List.setIfInBounds_toArray, List.set_cons_zero, List.set_cons_succ]
                    refine wpAnyIn_ready (rs := [11]) (by kernel_rfl) (by simp) ?_
                    refine (openIn_skip _ rfl rfl rfl (fun c h => by cases h) rfl (store3 (.tmp 52) rfl rfl rfl c3 f3b) ?_ AllReadyIn.nil)
                    refine wpAnyIn_done (by kernel_rfl) ?_ _
                    exact FIN.out _
                  · simp only [Act.put, List.setIfInBounds_toArray, List.set_cons_zero, List.set_cons_succ]
                    refine wpAnyIn_ready (rs := [2, 8]) (by kernel_rfl) (by simp) ?_
                    refine (openIn_value (some 46) (.pointer (some ⟨g, 0, none⟩)) rfl rfl rfl (fun c h => by cases h) rfl (load25 (.tmp 2) rfl rfl E1.out) ?_ (openIn_skip _ rfl rfl rfl (fun c h => by cases h) rfl (store4 (.tmp 50) rfl rfl rfl c2 f2) ?_ AllReadyIn.nil))
                    · simp only [Act.put, List.setIfInBounds_toArray, List.set_cons_zero, List.set_cons_succ]
                      refine wpAnyIn_ready (rs := [8]) (by kernel_rfl) (by simp) ?_
                      refine (openIn_skip _ rfl rfl rfl (fun c h => by cases h) rfl (store4 (.tmp 50) rfl rfl rfl c2 f2) ?_ AllReadyIn.nil)
                      refine wpAnyIn_ready (rs := [9]) (by kernel_rfl) (by simp) ?_
                      refine (openIn_value (some 51) (.pointer (some ⟨g, 0, none⟩)) rfl rfl rfl (fun c h => by cases h) rfl (by kernel_rfl) ?_ AllReadyIn.nil)
                      simp only [Act.put, List.setIfInBounds_toArray, List.set_cons_zero, List.set_cons_succ]
                      refine wpAnyIn_ready (rs := [10]) (by kernel_rfl) (by simp) ?_
                      refine (openIn_value (some 52) (.pointer (some ⟨g, 3, none⟩)) rfl rfl rfl (fun c h => by cases h) rfl (by kernel_rfl) ?_ AllReadyIn.nil)
                      simp only [Act.put, List.setIfInBounds_toArray, List.set_cons_zero, List.set_cons_succ]
                      refine wpAnyIn_ready (rs := [11]) (by kernel_rfl) (by simp) ?_
                      refine (openIn_skip _ rfl rfl rfl (fun c h => by cases h) rfl (store3 (.tmp 52) rfl rfl rfl c3 f3b) ?_ AllReadyIn.nil)
                      refine wpAnyIn_done (by kernel_rfl) ?_ _
                      exact FIN.out _
                    · refine wpAnyIn_ready (rs := [2]) (by kernel_rfl) (by simp) ?_
                      refine (openIn_value (some 46) (.pointer (some ⟨g, 0, none⟩)) rfl rfl rfl (fun c h => by cases h) rfl (load25 (.tmp 2) rfl rfl E2.out) ?_ AllReadyIn.nil)
                      simp only [Act.put, List.setIfInBounds_toArray, List.set_cons_zero, List.set_cons_succ]
                      refine wpAnyIn_ready (rs := [9]) (by kernel_rfl) (by simp) ?_
                      refine (openIn_value (some 51) (.pointer (some ⟨g, 0, none⟩)) rfl rfl rfl (fun c h => by cases h) rfl (by kernel_rfl) ?_ AllReadyIn.nil)
                      simp only [Act.put, List.setIfInBounds_toArray, List.set_cons_zero, List.set_cons_succ]
                      refine wpAnyIn_ready (rs := [10]) (by kernel_rfl) (by simp) ?_
                      refine (openIn_value (some 52) (.pointer (some ⟨g, 3, none⟩)) rfl rfl rfl (fun c h => by cases h) rfl (by kernel_rfl) ?_ AllReadyIn.nil)
                      simp only [Act.put, List.setIfInBounds_toArray, List.set_cons_zero, List.set_cons_succ]
                      refine wpAnyIn_ready (rs := [11]) (by kernel_rfl) (by simp) ?_
                      refine (openIn_skip _ rfl rfl rfl (fun c h => by cases h) rfl (store3 (.tmp 52) rfl rfl rfl c3 f3b) ?_ AllReadyIn.nil)
                      refine wpAnyIn_done (by kernel_rfl) ?_ _
                      exact FIN.out _
              · simp only [Act.put, List.setIfInBounds_toArray, List.set_cons_zero, List.set_cons_succ]
                refine wpAnyIn_ready (rs := [1]) (by kernel_rfl) (by simp) ?_
                refine (openIn_value (some 45) (.pointer (some ⟨g, 0, none⟩)) rfl rfl rfl (fun c h => by cases h) rfl (load25 (.tmp 2) rfl rfl E1.out) ?_ AllReadyIn.nil)
                simp only [Act.put, List.setIfInBounds_toArray, List.set_cons_zero, List.set_cons_succ]
                refine wpAnyIn_ready (rs := [6]) (by kernel_rfl) (by simp) ?_
                refine (openIn_value (some 49) (.pointer (some ⟨g, 0, none⟩)) rfl rfl rfl (fun c h => by cases h) rfl (by kernel_rfl) ?_ AllReadyIn.nil)
                simp only [Act.put, List.setIfInBounds_toArray, List.set_cons_zero, List.set_cons_succ]
                refine wpAnyIn_ready (rs := [7]) (by kernel_rfl) (by simp) ?_
                refine (openIn_value (some 50) (.pointer (some ⟨g, 2, none⟩)) rfl rfl rfl (fun c h => by cases h) rfl (by kernel_rfl) ?_ AllReadyIn.nil)
                simp only [Act.put, List.setIfInBounds_toArray, List.set_cons_zero, List.set_cons_succ]
                refine wpAnyIn_ready (rs := [8]) (by kernel_rfl) (by simp) ?_
                refine (openIn_skip _ rfl rfl rfl (fun c h => by cases h) rfl (store4 (.tmp 50) rfl rfl rfl c2 f2) ?_ AllReadyIn.nil)
                refine wpAnyIn_ready (rs := [9]) (by kernel_rfl) (by simp) ?_
                refine (openIn_value (some 51) (.pointer (some ⟨g, 0, none⟩)) rfl rfl rfl (fun c h => by cases h) rfl (by kernel_rfl) ?_ AllReadyIn.nil)
                simp only [Act.put, List.setIfInBounds_toArray, List.set_cons_zero, List.set_cons_succ]
                refine wpAnyIn_ready (rs := [10]) (by kernel_rfl) (by simp) ?_
                refine (openIn_value (some 52) (.pointer (some ⟨g, 3, none⟩)) rfl rfl rfl (fun c h => by cases h) rfl (by kernel_rfl) ?_ AllReadyIn.nil)
                simp only [Act.put, List.setIfInBounds_toArray, List.set_cons_zero, List.set_cons_succ]
                refine wpAnyIn_ready (rs := [11]) (by kernel_rfl) (by simp) ?_
                refine (openIn_skip _ rfl rfl rfl (fun c h => by cases h) rfl (store3 (.tmp 52) rfl rfl rfl c3 f3b) ?_ AllReadyIn.nil)
                refine wpAnyIn_done (by kernel_rfl) ?_ _
                exact FIN.out _
      · simp only [Act.put, List.setIfInBounds_toArray, List.set_cons_zero, List.set_cons_succ]
        refine wpAnyIn_ready (rs := [0, 2]) (by kernel_rfl) (by simp) ?_
        refine (openIn_value (some 44) (.pointer (some ⟨g, 0, none⟩)) rfl rfl rfl (fun c h => by cases h) rfl (load25 (.tmp 2) rfl rfl E0.out) ?_ (openIn_value (some 46) (.pointer (some ⟨g, 0, none⟩)) rfl rfl rfl (fun c h => by cases h) rfl (load25 (.tmp 2) rfl rfl E0.out) ?_ AllReadyIn.nil))
        · simp only [Act.put, List.setIfInBounds_toArray, List.set_cons_zero, List.set_cons_succ]
          refine wpAnyIn_ready (rs := [2, 3]) (by kernel_rfl) (by simp) ?_
          refine (openIn_value (some 46) (.pointer (some ⟨g, 0, none⟩)) rfl rfl rfl (fun c h => by cases h) rfl (load25 (.tmp 2) rfl rfl E0.out) ?_ (openIn_value (some 47) (.pointer (some ⟨g, 0, none⟩)) rfl rfl rfl (fun c h => by cases h) rfl (by kernel_rfl) ?_ AllReadyIn.nil))
          · simp only [Act.put, List.setIfInBounds_toArray, List.set_cons_zero, List.set_cons_succ]
            refine wpAnyIn_ready (rs := [3]) (by kernel_rfl) (by simp) ?_
            refine (openIn_value (some 47) (.pointer (some ⟨g, 0, none⟩)) rfl rfl rfl (fun c h => by cases h) rfl (by kernel_rfl) ?_ AllReadyIn.nil)
            simp only [Act.put, List.setIfInBounds_toArray, List.set_cons_zero, List.set_cons_succ]
            refine wpAnyIn_ready (rs := [4]) (by kernel_rfl) (by simp) ?_
            refine (openIn_value (some 48) (.pointer (some ⟨g, 1, none⟩)) rfl rfl rfl (fun c h => by cases h) rfl (by kernel_rfl) ?_ AllReadyIn.nil)
            simp only [Act.put, List.setIfInBounds_toArray, List.set_cons_zero, List.set_cons_succ]
            refine wpAnyIn_ready (rs := [5]) (by kernel_rfl) (by simp) ?_
            refine (openIn_skip _ rfl rfl rfl (fun c h => by cases h) rfl (store63 (.tmp 48) rfl rfl rfl c1 f1) ?_ AllReadyIn.nil)
            refine wpAnyIn_ready (rs := [6]) (by kernel_rfl) (by simp) ?_
            refine (openIn_value (some 49) (.pointer (some ⟨g, 0, none⟩)) rfl rfl rfl (fun c h => by cases h) rfl (by kernel_rfl) ?_ AllReadyIn.nil)
            simp only [Act.put, List.setIfInBounds_toArray, List.set_cons_zero, List.set_cons_succ]
            refine wpAnyIn_ready (rs := [7]) (by kernel_rfl) (by simp) ?_
            refine (openIn_value (some 50) (.pointer (some ⟨g, 2, none⟩)) rfl rfl rfl (fun c h => by cases h) rfl (by kernel_rfl) ?_ AllReadyIn.nil)
            simp only [Act.put, List.setIfInBounds_toArray, List.set_cons_zero, List.set_cons_succ]
            refine wpAnyIn_ready (rs := [8]) (by kernel_rfl) (by simp) ?_
            refine (openIn_skip _ rfl rfl rfl (fun c h => by cases h) rfl (store4 (.tmp 50) rfl rfl rfl c2 f2) ?_ AllReadyIn.nil)
            refine wpAnyIn_ready (rs := [9]) (by kernel_rfl) (by simp) ?_
            refine (openIn_value (some 51) (.pointer (some ⟨g, 0, none⟩)) rfl rfl rfl (fun c h => by cases h) rfl (by kernel_rfl) ?_ AllReadyIn.nil)
            simp only [Act.put, List.setIfInBounds_toArray, List.set_cons_zero, List.set_cons_succ]
            refine wpAnyIn_ready (rs := [10]) (by kernel_rfl) (by simp) ?_
            refine (openIn_value (some 52) (.pointer (some ⟨g, 3, none⟩)) rfl rfl rfl (fun c h => by cases h) rfl (by kernel_rfl) ?_ AllReadyIn.nil)
            simp only [Act.put, List.setIfInBounds_toArray, List.set_cons_zero, List.set_cons_succ]
            refine wpAnyIn_ready (rs := [11]) (by kernel_rfl) (by simp) ?_
            refine (openIn_skip _ rfl rfl rfl (fun c h => by cases h) rfl (store3 (.tmp 52) rfl rfl rfl c3 f3b) ?_ AllReadyIn.nil)
            refine wpAnyIn_done (by kernel_rfl) ?_ _
            exact FIN.out _
          · simp only [Act.put, List.setIfInBounds_toArray, List.set_cons_zero, List.set_cons_succ]
            refine wpAnyIn_ready (rs := [2, 4]) (by kernel_rfl) (by simp) ?_
            refine (openIn_value (some 46) (.pointer (some ⟨g, 0, none⟩)) rfl rfl rfl (fun c h => by cases h) rfl (load25 (.tmp 2) rfl rfl E0.out) ?_ (openIn_value (some 48) (.pointer (some ⟨g, 1, none⟩)) rfl rfl rfl (fun c h => by cases h) rfl (by kernel_rfl) ?_ AllReadyIn.nil))
            · simp only [Act.put, List.setIfInBounds_toArray, List.set_cons_zero, List.set_cons_succ]
              refine wpAnyIn_ready (rs := [4]) (by kernel_rfl) (by simp) ?_
              refine (openIn_value (some 48) (.pointer (some ⟨g, 1, none⟩)) rfl rfl rfl (fun c h => by cases h) rfl (by kernel_rfl) ?_ AllReadyIn.nil)
              simp only [Act.put, List.setIfInBounds_toArray, List.set_cons_zero, List.set_cons_succ]
              refine wpAnyIn_ready (rs := [5]) (by kernel_rfl) (by simp) ?_
              refine (openIn_skip _ rfl rfl rfl (fun c h => by cases h) rfl (store63 (.tmp 48) rfl rfl rfl c1 f1) ?_ AllReadyIn.nil)
              refine wpAnyIn_ready (rs := [6]) (by kernel_rfl) (by simp) ?_
              refine (openIn_value (some 49) (.pointer (some ⟨g, 0, none⟩)) rfl rfl rfl (fun c h => by cases h) rfl (by kernel_rfl) ?_ AllReadyIn.nil)
              simp only [Act.put, List.setIfInBounds_toArray, List.set_cons_zero, List.set_cons_succ]
              refine wpAnyIn_ready (rs := [7]) (by kernel_rfl) (by simp) ?_
              refine (openIn_value (some 50) (.pointer (some ⟨g, 2, none⟩)) rfl rfl rfl (fun c h => by cases h) rfl (by kernel_rfl) ?_ AllReadyIn.nil)
              simp only [Act.put, List.setIfInBounds_toArray, List.set_cons_zero, List.set_cons_succ]
              refine wpAnyIn_ready (rs := [8]) (by kernel_rfl) (by simp) ?_
              refine (openIn_skip _ rfl rfl rfl (fun c h => by cases h) rfl (store4 (.tmp 50) rfl rfl rfl c2 f2) ?_ AllReadyIn.nil)
              refine wpAnyIn_ready (rs := [9]) (by kernel_rfl) (by simp) ?_
              refine (openIn_value (some 51) (.pointer (some ⟨g, 0, none⟩)) rfl rfl rfl (fun c h => by cases h) rfl (by kernel_rfl) ?_ AllReadyIn.nil)
              simp only [Act.put, List.setIfInBounds_toArray, List.set_cons_zero, List.set_cons_succ]
              refine wpAnyIn_ready (rs := [10]) (by kernel_rfl) (by simp) ?_
              refine (openIn_value (some 52) (.pointer (some ⟨g, 3, none⟩)) rfl rfl rfl (fun c h => by cases h) rfl (by kernel_rfl) ?_ AllReadyIn.nil)
              simp only [Act.put, List.setIfInBounds_toArray, List.set_cons_zero, List.set_cons_succ]
              refine wpAnyIn_ready (rs := [11]) (by kernel_rfl) (by simp) ?_
              refine (openIn_skip _ rfl rfl rfl (fun c h => by cases h) rfl (store3 (.tmp 52) rfl rfl rfl c3 f3b) ?_ AllReadyIn.nil)
              refine wpAnyIn_done (by kernel_rfl) ?_ _
              exact FIN.out _
            · simp only [Act.put, List.setIfInBounds_toArray, List.set_cons_zero, List.set_cons_succ]
              refine wpAnyIn_ready (rs := [2, 5]) (by kernel_rfl) (by simp) ?_
              refine (openIn_value (some 46) (.pointer (some ⟨g, 0, none⟩)) rfl rfl rfl (fun c h => by cases h) rfl (load25 (.tmp 2) rfl rfl E0.out) ?_ (openIn_skip _ rfl rfl rfl (fun c h => by cases h) rfl (store63 (.tmp 48) rfl rfl rfl c1 f1) ?_ AllReadyIn.nil))
              · simp only [Act.put, List.setIfInBounds_toArray, List.set_cons_zero, List.set_cons_succ]
                refine wpAnyIn_ready (rs := [5]) (by kernel_rfl) (by simp) ?_
                refine (openIn_skip _ rfl rfl rfl (fun c h => by cases h) rfl (store63 (.tmp 48) rfl rfl rfl c1 f1) ?_ AllReadyIn.nil)
                refine wpAnyIn_ready (rs := [6]) (by kernel_rfl) (by simp) ?_
                refine (openIn_value (some 49) (.pointer (some ⟨g, 0, none⟩)) rfl rfl rfl (fun c h => by cases h) rfl (by kernel_rfl) ?_ AllReadyIn.nil)
                simp only [Act.put, List.setIfInBounds_toArray, List.set_cons_zero, List.set_cons_succ]
                refine wpAnyIn_ready (rs := [7]) (by kernel_rfl) (by simp) ?_
                refine (openIn_value (some 50) (.pointer (some ⟨g, 2, none⟩)) rfl rfl rfl (fun c h => by cases h) rfl (by kernel_rfl) ?_ AllReadyIn.nil)
                simp only [Act.put, List.setIfInBounds_toArray, List.set_cons_zero, List.set_cons_succ]
                refine wpAnyIn_ready (rs := [8]) (by kernel_rfl) (by simp) ?_
                refine (openIn_skip _ rfl rfl rfl (fun c h => by cases h) rfl (store4 (.tmp 50) rfl rfl rfl c2 f2) ?_ AllReadyIn.nil)
                refine wpAnyIn_ready (rs := [9]) (by kernel_rfl) (by simp) ?_
                refine (openIn_value (some 51) (.pointer (some ⟨g, 0, none⟩)) rfl rfl rfl (fun c h => by cases h) rfl (by kernel_rfl) ?_ AllReadyIn.nil)
                simp only [Act.put, List.setIfInBounds_toArray, List.set_cons_zero, List.set_cons_succ]
                refine wpAnyIn_ready (rs := [10]) (by kernel_rfl) (by simp) ?_
                refine (openIn_value (some 52) (.pointer (some ⟨g, 3, none⟩)) rfl rfl rfl (fun c h => by cases h) rfl (by kernel_rfl) ?_ AllReadyIn.nil)
                simp only [Act.put, List.setIfInBounds_toArray, List.set_cons_zero, List.set_cons_succ]
                refine wpAnyIn_ready (rs := [11]) (by kernel_rfl) (by simp) ?_
                refine (openIn_skip _ rfl rfl rfl (fun c h => by cases h) rfl (store3 (.tmp 52) rfl rfl rfl c3 f3b) ?_ AllReadyIn.nil)
                refine wpAnyIn_done (by kernel_rfl) ?_ _
                exact FIN.out _
              · refine wpAnyIn_ready (rs := [2, 6]) (by kernel_rfl) (by simp) ?_
                refine (openIn_value (some 46) (.pointer (some ⟨g, 0, none⟩)) rfl rfl rfl (fun c h => by cases h) rfl (load25 (.tmp 2) rfl rfl E1.out) ?_ (openIn_value (some 49) (.pointer (some ⟨g, 0, none⟩)) rfl rfl rfl (fun c h => by cases h) rfl (by kernel_rfl) ?_ AllReadyIn.nil))
                · simp only [Act.put, List.setIfInBounds_toArray, List.set_cons_zero, List.set_cons_succ]
                  refine wpAnyIn_ready (rs := [6]) (by kernel_rfl) (by simp) ?_
                  refine (openIn_value (some 49) (.pointer (some ⟨g, 0, none⟩)) rfl rfl rfl (fun c h => by cases h) rfl (by kernel_rfl) ?_ AllReadyIn.nil)
                  simp only [Act.put, List.setIfInBounds_toArray, List.set_cons_zero, List.set_cons_succ]
                  refine wpAnyIn_ready (rs := [7]) (by kernel_rfl) (by simp) ?_
                  refine (openIn_value (some 50) (.pointer (some ⟨g, 2, none⟩)) rfl rfl rfl (fun c h => by cases h) rfl (by kernel_rfl) ?_ AllReadyIn.nil)
                  simp only [Act.put, List.setIfInBounds_toArray, List.set_cons_zero, List.set_cons_succ]
                  refine wpAnyIn_ready (rs := [8]) (by kernel_rfl) (by simp) ?_
                  refine (openIn_skip _ rfl rfl rfl (fun c h => by cases h) rfl (store4 (.tmp 50) rfl rfl rfl c2 f2) ?_ AllReadyIn.nil)
                  refine wpAnyIn_ready (rs := [9]) (by kernel_rfl) (by simp) ?_
                  refine (openIn_value (some 51) (.pointer (some ⟨g, 0, none⟩)) rfl rfl rfl (fun c h => by cases h) rfl (by kernel_rfl) ?_ AllReadyIn.nil)
                  simp only [Act.put, List.setIfInBounds_toArray, List.set_cons_zero, List.set_cons_succ]
                  refine wpAnyIn_ready (rs := [10]) (by kernel_rfl) (by simp) ?_
                  refine (openIn_value (some 52) (.pointer (some ⟨g, 3, none⟩)) rfl rfl rfl (fun c h => by cases h) rfl (by kernel_rfl) ?_ AllReadyIn.nil)
                  simp only [Act.put, List.setIfInBounds_toArray, List.set_cons_zero, List.set_cons_succ]
                  refine wpAnyIn_ready (rs := [11]) (by kernel_rfl) (by simp) ?_
                  refine (openIn_skip _ rfl rfl rfl (fun c h => by cases h) rfl (store3 (.tmp 52) rfl rfl rfl c3 f3b) ?_ AllReadyIn.nil)
                  refine wpAnyIn_done (by kernel_rfl) ?_ _
                  exact FIN.out _
                · simp only [Act.put, List.setIfInBounds_toArray, List.set_cons_zero, List.set_cons_succ]
                  refine wpAnyIn_ready (rs := [2, 7]) (by kernel_rfl) (by simp) ?_
                  refine (openIn_value (some 46) (.pointer (some ⟨g, 0, none⟩)) rfl rfl rfl (fun c h => by cases h) rfl (load25 (.tmp 2) rfl rfl E1.out) ?_ (openIn_value (some 50) (.pointer (some ⟨g, 2, none⟩)) rfl rfl rfl (fun c h => by cases h) rfl (by kernel_rfl) ?_ AllReadyIn.nil))
                  · simp only [Act.put, List.setIfInBounds_toArray, List.set_cons_zero, List.set_cons_succ]
                    refine wpAnyIn_ready (rs := [7]) (by kernel_rfl) (by simp) ?_
                    refine (openIn_value (some 50) (.pointer (some ⟨g, 2, none⟩)) rfl rfl rfl (fun c h => by cases h) rfl (by kernel_rfl) ?_ AllReadyIn.nil)
                    simp only [Act.put, List.setIfInBounds_toArray, List.set_cons_zero, List.set_cons_succ]
                    refine wpAnyIn_ready (rs := [8]) (by kernel_rfl) (by simp) ?_
                    refine (openIn_skip _ rfl rfl rfl (fun c h => by cases h) rfl (store4 (.tmp 50) rfl rfl rfl c2 f2) ?_ AllReadyIn.nil)
                    refine wpAnyIn_ready (rs := [9]) (by kernel_rfl) (by simp) ?_
                    refine (openIn_value (some 51) (.pointer (some ⟨g, 0, none⟩)) rfl rfl rfl (fun c h => by cases h) rfl (by kernel_rfl) ?_ AllReadyIn.nil)
                    simp only [Act.put, List.setIfInBounds_toArray, List.set_cons_zero, List.set_cons_succ]
                    refine wpAnyIn_ready (rs := [10]) (by kernel_rfl) (by simp) ?_
                    refine (openIn_value (some 52) (.pointer (some ⟨g, 3, none⟩)) rfl rfl rfl (fun c h => by cases h) rfl (by kernel_rfl) ?_ AllReadyIn.nil)
                    simp only [Act.put, List.setIfInBounds_toArray, List.set_cons_zero, List.set_cons_succ]
                    refine wpAnyIn_ready (rs := [11]) (by kernel_rfl) (by simp) ?_
                    refine (openIn_skip _ rfl rfl rfl (fun c h => by cases h) rfl (store3 (.tmp 52) rfl rfl rfl c3 f3b) ?_ AllReadyIn.nil)
                    refine wpAnyIn_done (by kernel_rfl) ?_ _
                    exact FIN.out _
                  · simp only [Act.put, List.setIfInBounds_toArray, List.set_cons_zero, List.set_cons_succ]
                    refine wpAnyIn_ready (rs := [2, 8]) (by kernel_rfl) (by simp) ?_
                    refine (openIn_value (some 46) (.pointer (some ⟨g, 0, none⟩)) rfl rfl rfl (fun c h => by cases h) rfl (load25 (.tmp 2) rfl rfl E1.out) ?_ (openIn_skip _ rfl rfl rfl (fun c h => by cases h) rfl (store4 (.tmp 50) rfl rfl rfl c2 f2) ?_ AllReadyIn.nil))
                    · simp only [Act.put, List.setIfInBounds_toArray, List.set_cons_zero, List.set_cons_succ]
                      refine wpAnyIn_ready (rs := [8]) (by kernel_rfl) (by simp) ?_
                      refine (openIn_skip _ rfl rfl rfl (fun c h => by cases h) rfl (store4 (.tmp 50) rfl rfl rfl c2 f2) ?_ AllReadyIn.nil)
                      refine wpAnyIn_ready (rs := [9]) (by kernel_rfl) (by simp) ?_
                      refine (openIn_value (some 51) (.pointer (some ⟨g, 0, none⟩)) rfl rfl rfl (fun c h => by cases h) rfl (by kernel_rfl) ?_ AllReadyIn.nil)
                      simp only [Act.put, List.setIfInBounds_toArray, List.set_cons_zero, List.set_cons_succ]
                      refine wpAnyIn_ready (rs := [10]) (by kernel_rfl) (by simp) ?_
                      refine (openIn_value (some 52) (.pointer (some ⟨g, 3, none⟩)) rfl rfl rfl (fun c h => by cases h) rfl (by kernel_rfl) ?_ AllReadyIn.nil)
                      simp only [Act.put, List.setIfInBounds_toArray, List.set_cons_zero, List.set_cons_succ]
                      refine wpAnyIn_ready (rs := [11]) (by kernel_rfl) (by simp) ?_
                      refine (openIn_skip _ rfl rfl rfl (fun c h => by cases h) rfl (store3 (.tmp 52) rfl rfl rfl c3 f3b) ?_ AllReadyIn.nil)
                      refine wpAnyIn_done (by kernel_rfl) ?_ _
                      exact FIN.out _
                    · refine wpAnyIn_ready (rs := [2]) (by kernel_rfl) (by simp) ?_
                      refine (openIn_value (some 46) (.pointer (some ⟨g, 0, none⟩)) rfl rfl rfl (fun c h => by cases h) rfl (load25 (.tmp 2) rfl rfl E2.out) ?_ AllReadyIn.nil)
                      simp only [Act.put, List.setIfInBounds_toArray, List.set_cons_zero, List.set_cons_succ]
                      refine wpAnyIn_ready (rs := [9]) (by kernel_rfl) (by simp) ?_
                      refine (openIn_value (some 51) (.pointer (some ⟨g, 0, none⟩)) rfl rfl rfl (fun c h => by cases h) rfl (by kernel_rfl) ?_ AllReadyIn.nil)
                      simp only [Act.put, List.setIfInBounds_toArray, List.set_cons_zero, List.set_cons_succ]
                      refine wpAnyIn_ready (rs := [10]) (by kernel_rfl) (by simp) ?_
                      refine (openIn_value (some 52) (.pointer (some ⟨g, 3, none⟩)) rfl rfl rfl (fun c h => by cases h) rfl (by kernel_rfl) ?_ AllReadyIn.nil)
                      simp only [Act.put, List.setIfInBounds_toArray, List.set_cons_zero, List.set_cons_succ]
                      refine wpAnyIn_ready (rs := [11]) (by kernel_rfl) (by simp) ?_
                      refine (openIn_skip _ rfl rfl rfl (fun c h => by cases h) rfl (store3 (.tmp 52) rfl rfl rfl c3 f3b) ?_ AllReadyIn.nil)
                      refine wpAnyIn_done (by kernel_rfl) ?_ _
                      exact FIN.out _
        · simp only [Act.put, List.setIfInBounds_toArray, List.set_cons_zero, List.set_cons_succ]
          refine wpAnyIn_ready (rs := [0]) (by kernel_rfl) (by simp) ?_
          refine (openIn_value (some 44) (.pointer (some ⟨g, 0, none⟩)) rfl rfl rfl (fun c h => by cases h) rfl (load25 (.tmp 2) rfl rfl E0.out) ?_ AllReadyIn.nil)
          simp only [Act.put, List.setIfInBounds_toArray, List.set_cons_zero, List.set_cons_succ]
          refine wpAnyIn_ready (rs := [3]) (by kernel_rfl) (by simp) ?_
          refine (openIn_value (some 47) (.pointer (some ⟨g, 0, none⟩)) rfl rfl rfl (fun c h => by cases h) rfl (by kernel_rfl) ?_ AllReadyIn.nil)
          simp only [Act.put, List.setIfInBounds_toArray, List.set_cons_zero, List.set_cons_succ]
          refine wpAnyIn_ready (rs := [4]) (by kernel_rfl) (by simp) ?_
          refine (openIn_value (some 48) (.pointer (some ⟨g, 1, none⟩)) rfl rfl rfl (fun c h => by cases h) rfl (by kernel_rfl) ?_ AllReadyIn.nil)
          simp only [Act.put, List.setIfInBounds_toArray, List.set_cons_zero, List.set_cons_succ]
          refine wpAnyIn_ready (rs := [5]) (by kernel_rfl) (by simp) ?_
          refine (openIn_skip _ rfl rfl rfl (fun c h => by cases h) rfl (store63 (.tmp 48) rfl rfl rfl c1 f1) ?_ AllReadyIn.nil)
          refine wpAnyIn_ready (rs := [6]) (by kernel_rfl) (by simp) ?_
          refine (openIn_value (some 49) (.pointer (some ⟨g, 0, none⟩)) rfl rfl rfl (fun c h => by cases h) rfl (by kernel_rfl) ?_ AllReadyIn.nil)
          simp only [Act.put, List.setIfInBounds_toArray, List.set_cons_zero, List.set_cons_succ]
          refine wpAnyIn_ready (rs := [7]) (by kernel_rfl) (by simp) ?_
          refine (openIn_value (some 50) (.pointer (some ⟨g, 2, none⟩)) rfl rfl rfl (fun c h => by cases h) rfl (by kernel_rfl) ?_ AllReadyIn.nil)
          simp only [Act.put, List.setIfInBounds_toArray, List.set_cons_zero, List.set_cons_succ]
          refine wpAnyIn_ready (rs := [8]) (by kernel_rfl) (by simp) ?_
          refine (openIn_skip _ rfl rfl rfl (fun c h => by cases h) rfl (store4 (.tmp 50) rfl rfl rfl c2 f2) ?_ AllReadyIn.nil)
          refine wpAnyIn_ready (rs := [9]) (by kernel_rfl) (by simp) ?_
          refine (openIn_value (some 51) (.pointer (some ⟨g, 0, none⟩)) rfl rfl rfl (fun c h => by cases h) rfl (by kernel_rfl) ?_ AllReadyIn.nil)
          simp only [Act.put, List.setIfInBounds_toArray, List.set_cons_zero, List.set_cons_succ]
          refine wpAnyIn_ready (rs := [10]) (by kernel_rfl) (by simp) ?_
          refine (openIn_value (some 52) (.pointer (some ⟨g, 3, none⟩)) rfl rfl rfl (fun c h => by cases h) rfl (by kernel_rfl) ?_ AllReadyIn.nil)
          simp only [Act.put, List.setIfInBounds_toArray, List.set_cons_zero, List.set_cons_succ]
          refine wpAnyIn_ready (rs := [11]) (by kernel_rfl) (by simp) ?_
          refine (openIn_skip _ rfl rfl rfl (fun c h => by cases h) rfl (store3 (.tmp 52) rfl rfl rfl c3 f3b) ?_ AllReadyIn.nil)
          refine wpAnyIn_done (by kernel_rfl) ?_ _
          exact FIN.out _
      · simp only [Act.put, List.setIfInBounds_toArray, List.set_cons_zero, List.set_cons_succ]
        refine wpAnyIn_ready (rs := [0, 1]) (by kernel_rfl) (by simp) ?_
        refine (openIn_value (some 44) (.pointer (some ⟨g, 0, none⟩)) rfl rfl rfl (fun c h => by cases h) rfl (load25 (.tmp 2) rfl rfl E0.out) ?_ (openIn_value (some 45) (.pointer (some ⟨g, 0, none⟩)) rfl rfl rfl (fun c h => by cases h) rfl (load25 (.tmp 2) rfl rfl E0.out) ?_ AllReadyIn.nil))
        · simp only [Act.put, List.setIfInBounds_toArray, List.set_cons_zero, List.set_cons_succ]
          refine wpAnyIn_ready (rs := [1, 3]) (by kernel_rfl) (by simp) ?_
          refine (openIn_value (some 45) (.pointer (some ⟨g, 0, none⟩)) rfl rfl rfl (fun c h => by cases h) rfl (load25 (.tmp 2) rfl rfl E0.out) ?_ (openIn_value (some 47) (.pointer (some ⟨g, 0, none⟩)) rfl rfl rfl (fun c h => by cases h) rfl (by kernel_rfl) ?_ AllReadyIn.nil))
          · simp only [Act.put, List.setIfInBounds_toArray, List.set_cons_zero, List.set_cons_succ]
            refine wpAnyIn_ready (rs := [3]) (by kernel_rfl) (by simp) ?_
            refine (openIn_value (some 47) (.pointer (some ⟨g, 0, none⟩)) rfl rfl rfl (fun c h => by cases h) rfl (by kernel_rfl) ?_ AllReadyIn.nil)
            simp only [Act.put, List.setIfInBounds_toArray, List.set_cons_zero, List.set_cons_succ]
            refine wpAnyIn_ready (rs := [4]) (by kernel_rfl) (by simp) ?_
            refine (openIn_value (some 48) (.pointer (some ⟨g, 1, none⟩)) rfl rfl rfl (fun c h => by cases h) rfl (by kernel_rfl) ?_ AllReadyIn.nil)
            simp only [Act.put, List.setIfInBounds_toArray, List.set_cons_zero, List.set_cons_succ]
            refine wpAnyIn_ready (rs := [5]) (by kernel_rfl) (by simp) ?_
            refine (openIn_skip _ rfl rfl rfl (fun c h => by cases h) rfl (store63 (.tmp 48) rfl rfl rfl c1 f1) ?_ AllReadyIn.nil)
            refine wpAnyIn_ready (rs := [6]) (by kernel_rfl) (by simp) ?_
            refine (openIn_value (some 49) (.pointer (some ⟨g, 0, none⟩)) rfl rfl rfl (fun c h => by cases h) rfl (by kernel_rfl) ?_ AllReadyIn.nil)
            simp only [Act.put, List.setIfInBounds_toArray, List.set_cons_zero, List.set_cons_succ]
            refine wpAnyIn_ready (rs := [7]) (by kernel_rfl) (by simp) ?_
            refine (openIn_value (some 50) (.pointer (some ⟨g, 2, none⟩)) rfl rfl rfl (fun c h => by cases h) rfl (by kernel_rfl) ?_ AllReadyIn.nil)
            simp only [Act.put, List.setIfInBounds_toArray, List.set_cons_zero, List.set_cons_succ]
            refine wpAnyIn_ready (rs := [8]) (by kernel_rfl) (by simp) ?_
            refine (openIn_skip _ rfl rfl rfl (fun c h => by cases h) rfl (store4 (.tmp 50) rfl rfl rfl c2 f2) ?_ AllReadyIn.nil)
            refine wpAnyIn_ready (rs := [9]) (by kernel_rfl) (by simp) ?_
            refine (openIn_value (some 51) (.pointer (some ⟨g, 0, none⟩)) rfl rfl rfl (fun c h => by cases h) rfl (by kernel_rfl) ?_ AllReadyIn.nil)
            simp only [Act.put, List.setIfInBounds_toArray, List.set_cons_zero, List.set_cons_succ]
            refine wpAnyIn_ready (rs := [10]) (by kernel_rfl) (by simp) ?_
            refine (openIn_value (some 52) (.pointer (some ⟨g, 3, none⟩)) rfl rfl rfl (fun c h => by cases h) rfl (by kernel_rfl) ?_ AllReadyIn.nil)
            simp only [Act.put, List.setIfInBounds_toArray, List.set_cons_zero, List.set_cons_succ]
            refine wpAnyIn_ready (rs := [11]) (by kernel_rfl) (by simp) ?_
            refine (openIn_skip _ rfl rfl rfl (fun c h => by cases h) rfl (store3 (.tmp 52) rfl rfl rfl c3 f3b) ?_ AllReadyIn.nil)
            refine wpAnyIn_done (by kernel_rfl) ?_ _
            exact FIN.out _
          · simp only [Act.put, List.setIfInBounds_toArray, List.set_cons_zero, List.set_cons_succ]
            refine wpAnyIn_ready (rs := [1, 4]) (by kernel_rfl) (by simp) ?_
            refine (openIn_value (some 45) (.pointer (some ⟨g, 0, none⟩)) rfl rfl rfl (fun c h => by cases h) rfl (load25 (.tmp 2) rfl rfl E0.out) ?_ (openIn_value (some 48) (.pointer (some ⟨g, 1, none⟩)) rfl rfl rfl (fun c h => by cases h) rfl (by kernel_rfl) ?_ AllReadyIn.nil))
            · simp only [Act.put, List.setIfInBounds_toArray, List.set_cons_zero, List.set_cons_succ]
              refine wpAnyIn_ready (rs := [4]) (by kernel_rfl) (by simp) ?_
              refine (openIn_value (some 48) (.pointer (some ⟨g, 1, none⟩)) rfl rfl rfl (fun c h => by cases h) rfl (by kernel_rfl) ?_ AllReadyIn.nil)
              simp only [Act.put, List.setIfInBounds_toArray, List.set_cons_zero, List.set_cons_succ]
              refine wpAnyIn_ready (rs := [5]) (by kernel_rfl) (by simp) ?_
              refine (openIn_skip _ rfl rfl rfl (fun c h => by cases h) rfl (store63 (.tmp 48) rfl rfl rfl c1 f1) ?_ AllReadyIn.nil)
              refine wpAnyIn_ready (rs := [6]) (by kernel_rfl) (by simp) ?_
              refine (openIn_value (some 49) (.pointer (some ⟨g, 0, none⟩)) rfl rfl rfl (fun c h => by cases h) rfl (by kernel_rfl) ?_ AllReadyIn.nil)
              simp only [Act.put, List.setIfInBounds_toArray, List.set_cons_zero, List.set_cons_succ]
              refine wpAnyIn_ready (rs := [7]) (by kernel_rfl) (by simp) ?_
              refine (openIn_value (some 50) (.pointer (some ⟨g, 2, none⟩)) rfl rfl rfl (fun c h => by cases h) rfl (by kernel_rfl) ?_ AllReadyIn.nil)
              simp only [Act.put, List.setIfInBounds_toArray, List.set_cons_zero, List.set_cons_succ]
              refine wpAnyIn_ready (rs := [8]) (by kernel_rfl) (by simp) ?_
              refine (openIn_skip _ rfl rfl rfl (fun c h => by cases h) rfl (store4 (.tmp 50) rfl rfl rfl c2 f2) ?_ AllReadyIn.nil)
              refine wpAnyIn_ready (rs := [9]) (by kernel_rfl) (by simp) ?_
              refine (openIn_value (some 51) (.pointer (some ⟨g, 0, none⟩)) rfl rfl rfl (fun c h => by cases h) rfl (by kernel_rfl) ?_ AllReadyIn.nil)
              simp only [Act.put, List.setIfInBounds_toArray, List.set_cons_zero, List.set_cons_succ]
              refine wpAnyIn_ready (rs := [10]) (by kernel_rfl) (by simp) ?_
              refine (openIn_value (some 52) (.pointer (some ⟨g, 3, none⟩)) rfl rfl rfl (fun c h => by cases h) rfl (by kernel_rfl) ?_ AllReadyIn.nil)
              simp only [Act.put, List.setIfInBounds_toArray, List.set_cons_zero, List.set_cons_succ]
              refine wpAnyIn_ready (rs := [11]) (by kernel_rfl) (by simp) ?_
              refine (openIn_skip _ rfl rfl rfl (fun c h => by cases h) rfl (store3 (.tmp 52) rfl rfl rfl c3 f3b) ?_ AllReadyIn.nil)
              refine wpAnyIn_done (by kernel_rfl) ?_ _
              exact FIN.out _
            · simp only [Act.put, List.setIfInBounds_toArray, List.set_cons_zero, List.set_cons_succ]
              refine wpAnyIn_ready (rs := [1, 5]) (by kernel_rfl) (by simp) ?_
              refine (openIn_value (some 45) (.pointer (some ⟨g, 0, none⟩)) rfl rfl rfl (fun c h => by cases h) rfl (load25 (.tmp 2) rfl rfl E0.out) ?_ (openIn_skip _ rfl rfl rfl (fun c h => by cases h) rfl (store63 (.tmp 48) rfl rfl rfl c1 f1) ?_ AllReadyIn.nil))
              · simp only [Act.put, List.setIfInBounds_toArray, List.set_cons_zero, List.set_cons_succ]
                refine wpAnyIn_ready (rs := [5]) (by kernel_rfl) (by simp) ?_
                refine (openIn_skip _ rfl rfl rfl (fun c h => by cases h) rfl (store63 (.tmp 48) rfl rfl rfl c1 f1) ?_ AllReadyIn.nil)
                refine wpAnyIn_ready (rs := [6]) (by kernel_rfl) (by simp) ?_
                refine (openIn_value (some 49) (.pointer (some ⟨g, 0, none⟩)) rfl rfl rfl (fun c h => by cases h) rfl (by kernel_rfl) ?_ AllReadyIn.nil)
                simp only [Act.put, List.setIfInBounds_toArray, List.set_cons_zero, List.set_cons_succ]
                refine wpAnyIn_ready (rs := [7]) (by kernel_rfl) (by simp) ?_
                refine (openIn_value (some 50) (.pointer (some ⟨g, 2, none⟩)) rfl rfl rfl (fun c h => by cases h) rfl (by kernel_rfl) ?_ AllReadyIn.nil)
                simp only [Act.put, List.setIfInBounds_toArray, List.set_cons_zero, List.set_cons_succ]
                refine wpAnyIn_ready (rs := [8]) (by kernel_rfl) (by simp) ?_
                refine (openIn_skip _ rfl rfl rfl (fun c h => by cases h) rfl (store4 (.tmp 50) rfl rfl rfl c2 f2) ?_ AllReadyIn.nil)
                refine wpAnyIn_ready (rs := [9]) (by kernel_rfl) (by simp) ?_
                refine (openIn_value (some 51) (.pointer (some ⟨g, 0, none⟩)) rfl rfl rfl (fun c h => by cases h) rfl (by kernel_rfl) ?_ AllReadyIn.nil)
                simp only [Act.put, List.setIfInBounds_toArray, List.set_cons_zero, List.set_cons_succ]
                refine wpAnyIn_ready (rs := [10]) (by kernel_rfl) (by simp) ?_
                refine (openIn_value (some 52) (.pointer (some ⟨g, 3, none⟩)) rfl rfl rfl (fun c h => by cases h) rfl (by kernel_rfl) ?_ AllReadyIn.nil)
                simp only [Act.put, List.setIfInBounds_toArray, List.set_cons_zero, List.set_cons_succ]
                refine wpAnyIn_ready (rs := [11]) (by kernel_rfl) (by simp) ?_
                refine (openIn_skip _ rfl rfl rfl (fun c h => by cases h) rfl (store3 (.tmp 52) rfl rfl rfl c3 f3b) ?_ AllReadyIn.nil)
                refine wpAnyIn_done (by kernel_rfl) ?_ _
                exact FIN.out _
              · refine wpAnyIn_ready (rs := [1]) (by kernel_rfl) (by simp) ?_
                refine (openIn_value (some 45) (.pointer (some ⟨g, 0, none⟩)) rfl rfl rfl (fun c h => by cases h) rfl (load25 (.tmp 2) rfl rfl E1.out) ?_ AllReadyIn.nil)
                simp only [Act.put, List.setIfInBounds_toArray, List.set_cons_zero, List.set_cons_succ]
                refine wpAnyIn_ready (rs := [6]) (by kernel_rfl) (by simp) ?_
                refine (openIn_value (some 49) (.pointer (some ⟨g, 0, none⟩)) rfl rfl rfl (fun c h => by cases h) rfl (by kernel_rfl) ?_ AllReadyIn.nil)
                simp only [Act.put, List.setIfInBounds_toArray, List.set_cons_zero, List.set_cons_succ]
                refine wpAnyIn_ready (rs := [7]) (by kernel_rfl) (by simp) ?_
                refine (openIn_value (some 50) (.pointer (some ⟨g, 2, none⟩)) rfl rfl rfl (fun c h => by cases h) rfl (by kernel_rfl) ?_ AllReadyIn.nil)
                simp only [Act.put, List.setIfInBounds_toArray, List.set_cons_zero, List.set_cons_succ]
                refine wpAnyIn_ready (rs := [8]) (by kernel_rfl) (by simp) ?_
                refine (openIn_skip _ rfl rfl rfl (fun c h => by cases h) rfl (store4 (.tmp 50) rfl rfl rfl c2 f2) ?_ AllReadyIn.nil)
                refine wpAnyIn_ready (rs := [9]) (by kernel_rfl) (by simp) ?_
                refine (openIn_value (some 51) (.pointer (some ⟨g, 0, none⟩)) rfl rfl rfl (fun c h => by cases h) rfl (by kernel_rfl) ?_ AllReadyIn.nil)
                simp only [Act.put, List.setIfInBounds_toArray, List.set_cons_zero, List.set_cons_succ]
                refine wpAnyIn_ready (rs := [10]) (by kernel_rfl) (by simp) ?_
                refine (openIn_value (some 52) (.pointer (some ⟨g, 3, none⟩)) rfl rfl rfl (fun c h => by cases h) rfl (by kernel_rfl) ?_ AllReadyIn.nil)
                simp only [Act.put, List.setIfInBounds_toArray, List.set_cons_zero, List.set_cons_succ]
                refine wpAnyIn_ready (rs := [11]) (by kernel_rfl) (by simp) ?_
                refine (openIn_skip _ rfl rfl rfl (fun c h => by cases h) rfl (store3 (.tmp 52) rfl rfl rfl c3 f3b) ?_ AllReadyIn.nil)
                refine wpAnyIn_done (by kernel_rfl) ?_ _
                exact FIN.out _
        · simp only [Act.put, List.setIfInBounds_toArray, List.set_cons_zero, List.set_cons_succ]
          refine wpAnyIn_ready (rs := [0]) (by kernel_rfl) (by simp) ?_
          refine (openIn_value (some 44) (.pointer (some ⟨g, 0, none⟩)) rfl rfl rfl (fun c h => by cases h) rfl (load25 (.tmp 2) rfl rfl E0.out) ?_ AllReadyIn.nil)
          simp only [Act.put, List.setIfInBounds_toArray, List.set_cons_zero, List.set_cons_succ]
          refine wpAnyIn_ready (rs := [3]) (by kernel_rfl) (by simp) ?_
          refine (openIn_value (some 47) (.pointer (some ⟨g, 0, none⟩)) rfl rfl rfl (fun c h => by cases h) rfl (by kernel_rfl) ?_ AllReadyIn.nil)
          simp only [Act.put, List.setIfInBounds_toArray, List.set_cons_zero, List.set_cons_succ]
          refine wpAnyIn_ready (rs := [4]) (by kernel_rfl) (by simp) ?_
          refine (openIn_value (some 48) (.pointer (some ⟨g, 1, none⟩)) rfl rfl rfl (fun c h => by cases h) rfl (by kernel_rfl) ?_ AllReadyIn.nil)
          simp only [Act.put, List.setIfInBounds_toArray, List.set_cons_zero, List.set_cons_succ]
          refine wpAnyIn_ready (rs := [5]) (by kernel_rfl) (by simp) ?_
          refine (openIn_skip _ rfl rfl rfl (fun c h => by cases h) rfl (store63 (.tmp 48) rfl rfl rfl c1 f1) ?_ AllReadyIn.nil)
          refine wpAnyIn_ready (rs := [6]) (by kernel_rfl) (by simp) ?_
          refine (openIn_value (some 49) (.pointer (some ⟨g, 0, none⟩)) rfl rfl rfl (fun c h => by cases h) rfl (by kernel_rfl) ?_ AllReadyIn.nil)
          simp only [Act.put, List.setIfInBounds_toArray, List.set_cons_zero, List.set_cons_succ]
          refine wpAnyIn_ready (rs := [7]) (by kernel_rfl) (by simp) ?_
          refine (openIn_value (some 50) (.pointer (some ⟨g, 2, none⟩)) rfl rfl rfl (fun c h => by cases h) rfl (by kernel_rfl) ?_ AllReadyIn.nil)
          simp only [Act.put, List.setIfInBounds_toArray, List.set_cons_zero, List.set_cons_succ]
          refine wpAnyIn_ready (rs := [8]) (by kernel_rfl) (by simp) ?_
          refine (openIn_skip _ rfl rfl rfl (fun c h => by cases h) rfl (store4 (.tmp 50) rfl rfl rfl c2 f2) ?_ AllReadyIn.nil)
          refine wpAnyIn_ready (rs := [9]) (by kernel_rfl) (by simp) ?_
          refine (openIn_value (some 51) (.pointer (some ⟨g, 0, none⟩)) rfl rfl rfl (fun c h => by cases h) rfl (by kernel_rfl) ?_ AllReadyIn.nil)
          simp only [Act.put, List.setIfInBounds_toArray, List.set_cons_zero, List.set_cons_succ]
          refine wpAnyIn_ready (rs := [10]) (by kernel_rfl) (by simp) ?_
          refine (openIn_value (some 52) (.pointer (some ⟨g, 3, none⟩)) rfl rfl rfl (fun c h => by cases h) rfl (by kernel_rfl) ?_ AllReadyIn.nil)
          simp only [Act.put, List.setIfInBounds_toArray, List.set_cons_zero, List.set_cons_succ]
          refine wpAnyIn_ready (rs := [11]) (by kernel_rfl) (by simp) ?_
          refine (openIn_skip _ rfl rfl rfl (fun c h => by cases h) rfl (store3 (.tmp 52) rfl rfl rfl c3 f3b) ?_ AllReadyIn.nil)
          refine wpAnyIn_done (by kernel_rfl) ?_ _
          exact FIN.out _
    case stop2 =>
      rintro D2 c pre X _ _ h _
      exact h.elim
  case stop =>
    rintro D c pre W _ _ h _
    exact h.elim
end Go.Proofs.Ytibidljblkfciaa
