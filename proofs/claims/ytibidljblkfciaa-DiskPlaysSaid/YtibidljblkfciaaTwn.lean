/-
What is proved here: Twin of the disk: a disk that is as this one in all, in new memory alone.
-/
import Derived.Test.YtibidljblkfciaaCrn
import Derived.Test.YtibidljblkfciaaTb2
import Derived.Test.YtibidljblkfciaaCpw
import Derived.Test.YtibidljblkfciaaLow
set_option linter.unusedSimpArgs false
namespace Go.Proofs.Ytibidljblkfciaa
open Go.Word Go.RowKit Go.Shelf

attribute [local go_sem] Oper.semAt_some

set_option maxHeartbeats 400000 in
theorem twinx (ad : Addr) (k c : Nat) (f : Nat → BitVec 8) (w : World) (hk : k ≤ 3000000) (hs : Src8 w ad f k) (hl : ad.block < w.heap.size) :
    Calls Try.prog 32 #[.slice (some ad) k c] w fun e w' => e = .returned (.slice (some ⟨w.heap.size, 0, none⟩) k k) ∧ w' = w.alloc (.cells (yRow f k) 5) := by
  have hmk := fun W => made_n k hk W
  have HS := Lib.hid hs
  have HL := Lib.hid hl
  clear hs hl
  go_enter Try.func32, Try.ntmps32
  go_upto_region 2 with (fail)
  obtain ⟨G, hG⟩ : ∃ G, w.heap.size = G := ⟨_, rfl⟩
  have l1 := lies_new w 5 (madeCells #[.int .u8 0] k)
  have s1 : Src8 (w.alloc (.cells (madeCells #[.int .u8 0] k) 5)) ad f k := fun j hj => by
    rw [((Below.refl _ w).alloc (Nat.le_refl _) _).cell (by rw [add_block]; exact HL.out)]; exact HS.out j hj
  have X := Lib.hid (setRow_alloc w 5 (madeCells #[.int .u8 0] k) (yRow f k))
  rw [hG] at l1 X ⊢
  generalize w.alloc (.cells (madeCells #[.int .u8 0] k) 5) = W at *
  have L1 := Lib.hid l1
  have S1 := Lib.hid s1
  clear l1 s1 hmk
  go_wp2_with (refine wpList_copy_n rfl (.tmp 7) (.tmp 8) 44 44 rfl 5 Try.underlying44 (by kernel_rfl) G 0 k ad c k rfl rfl _ 5 L1.out f S1.out (by rw [made_size]; omega) ?_; rw [copied_all f k _ (made_size k)])
  go_ret
  exact ⟨by rw [hG]; rfl, X.out⟩

def encF (N : Nat) (E : Fin N → Ent) (x : Fin N) : Array Value := #[.int .i64 (x.1 : Int), .agg (Ent.arr (E x))]
set_option maxRecDepth 100000 in
set_option maxHeartbeats 2000000 in
/-- first to last: the body's input is the k-th, and no other -/
theorem iterf_in (F : Fence) (n : Nat) (h43 : F.fn 43) (hro : F.round = none) (hn : 1 ≤ n) (l Bs m Bx g hb N C : Nat) (E : Fin N → Ent) (hN : N ≤ 70000) (hbn : hb < m) (hbB : hb ≠ Bx) (J Jx : List (Fin N) → World → Prop)
    (hY : ∀ pre x W, J pre W → pre.length < N → YieldAt F (n - 1) Try.prog l (encF N E x) W fun e W' =>
      (e = .returned (.bool true) ∧ J (pre ++ [x]) W' ∧ KB Bx m W W') ∨ (e = .returned (.bool false) ∧ Jx (pre ++ [x]) W'))
    (W : World) (hJ : AbidesFrom W.heap.size J) (hW : m ≤ W.heap.size) (hBs : W.cell? ⟨Bs, 0, none⟩ = some (.pointer (some ⟨g, 0, none⟩))) (A : Option Addr) (hA : ∀ _ : Fin N, A = some ⟨hb, 0, none⟩) (hg1 : W.cell? ⟨g, 1, none⟩ = some (.slice A N C))
    (hc : ∀ k : Fin N, W.cell? ⟨hb, k.1 * 3, none⟩ = some (.int .i64 ((E k).at_ : Int)) ∧ W.cell? ⟨hb, k.1 * 3 + 1, none⟩ = some (.slice (some ⟨(E k).a, 0, none⟩) 512 512) ∧ W.cell? ⟨hb, k.1 * 3 + 2, none⟩ = some (.slice (some ⟨(E k).c, 0, none⟩) 512 512)) (h0 : J [] W) :
    CallsIn F n Try.prog 43 #[.func (.yield l) #[] #[], .pointer (some ⟨Bs, 0, none⟩)] W fun e W' => (∃ v, e = .returned v) ∧
      ((∃ ys, ys.map Fin.val = List.range N ∧ J ys W') ∨ (∃ pre, True ∧ Jx pre W')) := by
  refine callsIn_of_wp Try.func43 rfl h43 ?_ hro
  simp only [Try.ntmps43, List.size_toArray, List.length_cons, List.length_nil, Nat.reduceAdd, Nat.reduceSub, Array.replicate_succ, Array.replicate_zero, List.push_toArray, List.append_toArray, List.nil_append, List.cons_append]
  gi_wp2
  gi_loopw [12] (fun i wr => ∃ (k : Nat) (pre : List (Fin N)), k ≤ N ∧ i = .int .i64 k ∧ pre.map Fin.val = List.range k ∧ J pre wr ∧ KB Bx m W wr)
    (fun i _ => N - (intOf i).toNat)
  case atStart => exact ⟨0, [], Nat.zero_le _, rfl, rfl, h0, kb_refl _ _ _⟩
  case round =>
    obtain ⟨k, pre, hk, rfl, hpre, hJs, hnx⟩ := hrel
    have HP := Lib.hid hpre
    clear hpre
    by_cases hlt : k < N
    · obtain ⟨x0, x1, x2⟩ := hc ⟨k, hlt⟩
      have eA := hA ⟨k, hlt⟩
      subst eA
      have c0 := (kb_cell hnx (p := ⟨hb, k * 3, none⟩) hbn hbB).trans x0
      have c1 := (kb_cell hnx (p := ⟨hb, k * 3 + 1, none⟩) hbn hbB).trans x1
      have c2 := (kb_cell hnx (p := ⟨hb, k * 3 + 2, none⟩) hbn hbB).trans x2
      have hJ2 := hJ _ _ _ none hJs (World.grownBy_alloc wr (.cells (Ent.arr (E ⟨k, hlt⟩)) 73) none) (fun _ e => by cases e)
      obtain ⟨fn, tmps, assign, body, hy, hR⟩ := hY _ ⟨k, hlt⟩ _ hJ2 (by have := congrArg List.length HP.out; simp at this; omega)
      dsimp only [encF, Ent.arr] at hy
      clear x0 x1 x2 hc hA
      gi_wp2
      refine hR.mono ?_
      rintro e W3 (⟨rfl, hJ3, hk3⟩ | ⟨rfl, hJx3⟩)
      · gi_wp2
        go_roundw
        case rel => exact ⟨k + 1, pre ++ [⟨k, hlt⟩], by omega, by simp, by rw [List.map_append, HP.out, List.range_succ]; rfl, hJ3, kb_t (kb_alloc hnx hW _) hk3⟩
        case measure => simp [intOf]; omega
      · gi_wp2
        refine bodyPost_ret (results_none rfl _ _ _) rfl ?_
        exact ⟨⟨_, rfl⟩, .inr ⟨_, trivial, hJx3⟩⟩
    · obtain rfl : k = N := by omega
      clear hA
      gi_wp2
      go_end0
      exact ⟨⟨_, rfl⟩, .inl ⟨pre, HP.out, hJs⟩⟩

theorem held_cells (n : Nat) (h : n ≤ 70000) (W : World) : (Instr.makeSlice 63 (.int .i64 (n : Int)) (.int .i64 (n : Int))).run Try.prog W =
    .ok (.slice (some ⟨W.heap.size, 0, none⟩) n n) (W.alloc (.cells (madeCells #[.int .i64 0, .slice none 0 0, .slice none 0 0] (n * 3)) 73)) := by
  obtain ⟨i, hi, hz0, hz1, hz2⟩ := info_parts held_info
  have := run_make (P := Try.prog) W 63 73 i _ Try.underlying63 hi hz0 .i64 .i64 (n : Int) (n : Int) (by omega) (by omega) (by rw [hz2]; omega) (by omega)
  rw [this, hz1, Int.toNat_natCast]
  rfl

/-! rows of what is held back, with one place turned -/
theorem flat_set (e' : Ent) (o : Nat) (ho : o < 3) (v : Value) : ∀ (es : List Ent) (i : Nat) (hi : i < es.length), (Ent.cells es[i]).set o v = Ent.cells e' → ((es.flatMap Ent.cells).set (i * 3 + o) v) = (es.set i e').flatMap Ent.cells
  | e :: r, 0, _, h => by
    have hl : (Ent.cells e).length = 3 := rfl
    simp only [List.getElem_cons_zero] at h
    simp only [List.flatMap_cons, List.set_cons_zero, Nat.zero_mul, Nat.zero_add]
    rw [List.set_append_left _ _ (by omega), h]
  | e :: r, i + 1, hi, h => by
    have hl : (Ent.cells e).length = 3 := rfl
    simp only [List.getElem_cons_succ] at h
    simp only [List.flatMap_cons, List.set_cons_succ]
    rw [List.set_append_right _ _ (by omega), show (i + 1) * 3 + o - (Ent.cells e).length = i * 3 + o by omega, flat_set e' o ho v r i (by simpa using hi) h]
theorem flat_len (es : List Ent) : (es.flatMap Ent.cells).length = es.length * 3 := by
  induction es with
  | nil => rfl
  | cons e r ih =>
    have hl : (Ent.cells e).length = 3 := rfl
    simp only [List.flatMap_cons, List.length_append, List.length_cons, ih]
    omega
theorem flat_get (es : List Ent) (i o : Nat) (hi : i < es.length) (ho : o < 3) : (es.flatMap Ent.cells).toArray[i * 3 + o]? = (Ent.cells es[i])[o]? := by
  rw [List.getElem?_toArray, flat_at es i o es[i] hi ho, List.getD_eq_getElem?_getD, List.getElem?_eq_getElem hi]
  rfl
theorem flat_one (es : List Ent) : ∀ v ∈ es.flatMap Ent.cells, v.oneCell' = true := by
  intro v hv
  simp only [List.mem_flatMap] at hv
  obtain ⟨e, _, hv⟩ := hv
  simp only [Ent.cells, List.mem_cons, List.not_mem_nil, or_false] at hv
  rcases hv with rfl | rfl | rfl <;> rfl
/-- copy of what is held back into a row that was just made -/
theorem copyh_op {ρ : Operand → Value} {oi : Oper} {w : World} {base h' N C : Nat} {A : Option Addr} {es : List Ent} (x y : Operand) (ho : oi.op = .call { callee := .builtin .copy, args := #[x, y], argTypes := #[63, 63] }) (hx : ρ x = .slice (some ⟨h', 0, none⟩) N N) (hy : ρ y = .slice A N C)
    (hl : Lies w h' 73 (madeCells #[.int .i64 0, .slice none 0 0, .slice none 0 0] (N * 3))) (hO : w.ownsRow base 73 3 (.slice A N C) N (es.flatMap Ent.cells)) (hN : es.length = N) :
    (execOp ρ oi).run Try.prog w = .ok (.value (.int .i64 (N : Int))) (w.setRow h' (es.flatMap Ent.cells).toArray) := by
  have hms : (madeCells #[.int .i64 0, .slice none 0 0, .slice none 0 0] (N * 3)).size = N * 3 := by simp [madeCells]
  have hrun : (Builtin.copy_ #[63, 63] oi.type #[.slice (some ⟨h', 0, none⟩) N N, .slice A N C]).run Try.prog w = .ok (goInt N) (w.setRow h' (es.flatMap Ent.cells).toArray) := by
    rcases hO.2 with ⟨e, e0⟩ | ⟨gg, cap, cur, e, _⟩
    · subst e0
      obtain ⟨rfl, rfl⟩ : A = none ∧ C = 0 := by simpa using e
      obtain rfl := List.length_eq_zero_iff.1 hN
      have hz : w.setRow h' ([].flatMap Ent.cells : List Value).toArray = w := by
        have := setRow_self w h' _ 73 (0, 0) hl
        have e2 : madeCells #[.int .i64 0, .slice none 0 0, .slice none 0 0] (0 * 3) = #[] := by simp [madeCells]
        rw [e2] at this
        exact this
      rw [hz]
      cases hq : Try.prog.info? 73 with
      | none => exact absurd held_info (by rw [hq]; simp)
      | some i => simp [Builtin.copy_, run_underlying Try.underlying63, Builtin.lenOf, Builtin.firstCells, sizeOf, typeInfo, hq, storeCells]; try rfl
    · obtain ⟨rfl, _⟩ : A = some ⟨gg, 0, none⟩ ∧ C = cap := by simpa using e
      refine run_copy_wide w 63 63 oi.type 73 h' N 3 N ⟨gg, 0, none⟩ C _ 73 _ Try.underlying63 (by kernel_rfl) hl (by rw [flat_len, hN]) (fun j v hj => ?_) (by rw [flat_len, hN, hms]) (flat_one es)
      have hj2 : j < N * 3 := by
        rcases Nat.lt_or_ge j (N * 3) with h | h
        · exact h
        · rw [List.getElem?_eq_none (by rw [flat_len, hN]; exact h)] at hj; cases hj
      rw [Addr.add_mid, Nat.zero_add, World.ownsRow.cellAt hO j hj2, hj]
  unfold execOp
  simp [ho, resolve, invoke, builtin, hx, hy, hrun, Result.andThen]
  rfl
section
variable {F : Fence} {n : Nat} {P : Program} {Q : Exit → Act → World → Prop} {a : Act} {w w' : World} {K : Act → World → Prop} {oi : Oper}
theorem wpIn_callW {v : Value} {f : FuncId} {args : Array Value} (hnd : ∀ c, oi.op ≠ .defer c) (hab : ∀ f, oi.about P w a.eval = some f → F.fn f) (hr : (execOp a.eval oi).run P w = .ok (.enter f args) w) (hn : 1 ≤ n) (hc : CallsIn F (n - 1) P f args w fun e w2 => e = .returned v ∧ w2 = w') (h : K (a.put oi.dst v) w') : Oper.wpIn F n P oi a w K Q :=
  ⟨hab, by
    rw [Oper.semAt_eq _ _ _ hnd, hr]
    refine ⟨fun _ => hn, hc.mono ?_⟩
    rintro e w2 ⟨rfl, rfl⟩
    exact h⟩
theorem wpIn_valueW {v : Value} (hnd : ∀ c, oi.op ≠ .defer c) (hab : oi.about P w a.eval = none) (hr : (execOp a.eval oi).run P w = .ok (.value v) w) (hW : w' = w) (h : K (a.put oi.dst v) w') : Oper.wpIn F n P oi a w K Q := by subst hW; exact wpIn_value hnd hab hr h
theorem wpIn_skip (hd : oi.dst = none) (hnd : ∀ c, oi.op ≠ .defer c) (hab : oi.about P w a.eval = none) (hr : (execOp a.eval oi).run P w = .ok .skip w') (h : K a w') : Oper.wpIn F n P oi a w K Q :=
  ⟨fun f hf => (by rw [hab] at hf; cases hf), by
    rw [Oper.semAt_eq _ _ _ hnd, hr]
    show K (a.put oi.dst undef) w'
    rw [hd]
    exact h⟩
end
theorem store44 {ρ : Operand → Value} {oi : Oper} {w : World} {b o N C N' C' : Nat} {A A' : Option Addr} (x y : Operand) (ho : oi.op = .store 44 x y) (hx : ρ x = .pointer (some ⟨b, o, none⟩)) (hy : ρ y = .slice A N C) (hc : w.cell? ⟨b, o, none⟩ = some (.slice A' N' C')) (hf : w.frozen? ⟨b, o, none⟩ = false) : (execOp ρ oi).run Try.prog w = .ok .skip (w.setCell ⟨b, o, none⟩ (.slice A N C)) := by
  unfold execOp
  simp only [ho, hx, hy]
  go_simp
theorem load63 {ρ : Operand → Value} {oi : Oper} {w : World} {b o N C : Nat} {A : Option Addr} (x : Operand) (ho : oi.op = .load 63 x) (hx : ρ x = .pointer (some ⟨b, o, none⟩)) (hc : w.cell? ⟨b, o, none⟩ = some (.slice A N C)) : (execOp ρ oi).run Try.prog w = .ok (.value (.slice A N C)) w := by
  unfold execOp
  simp only [ho, hx]
  go_simp
theorem move_op {P : Program} {ρ : Operand → Value} {oi : Oper} {w : World} {v : Value} (x : Operand) (ho : oi.op = .move x) (hx : ρ x = v) : (execOp ρ oi).run P w = .ok (.value v) w := by
  unfold execOp
  simp only [ho, hx]
  go_simp
theorem nil_op {P : Program} {ρ : Operand → Value} {oi : Oper} {w : World} {a : Addr} (x : Operand) (ho : oi.op = .nilCheck x) (hx : ρ x = .pointer (some a)) : (execOp ρ oi).run P w = .ok (.value (.pointer (some a))) w := by
  unfold execOp
  simp only [ho, hx]
  go_simp
theorem field651 {ρ : Operand → Value} {oi : Oper} {w : World} {b : Nat} (x : Operand) (ho : oi.op = .fieldAddr 65 x 1) (hx : ρ x = .pointer (some ⟨b, 0, none⟩)) : (execOp ρ oi).run Try.prog w = .ok (.value (.pointer (some ⟨b, 1, none⟩))) w := by
  unfold execOp
  simp only [ho, hx]
  go_simp
theorem field730o {ρ : Operand → Value} {oi : Oper} {w : World} {b o : Nat} (x : Operand) (ho : oi.op = .fieldAddr 73 x 0) (hx : ρ x = .pointer (some ⟨b, o, none⟩)) : (execOp ρ oi).run Try.prog w = .ok (.value (.pointer (some ⟨b, o, none⟩))) w := by
  unfold execOp
  simp only [ho, hx]
  go_simp
theorem field731o {ρ : Operand → Value} {oi : Oper} {w : World} {b o : Nat} (x : Operand) (ho : oi.op = .fieldAddr 73 x 1) (hx : ρ x = .pointer (some ⟨b, o, none⟩)) : (execOp ρ oi).run Try.prog w = .ok (.value (.pointer (some ⟨b, o + 2, none⟩))) w := by
  unfold execOp
  simp only [ho, hx]
  go_simp
theorem field711o {ρ : Operand → Value} {oi : Oper} {w : World} {b o : Nat} (x : Operand) (ho : oi.op = .fieldAddr 71 x 1) (hx : ρ x = .pointer (some ⟨b, o, none⟩)) : (execOp ρ oi).run Try.prog w = .ok (.value (.pointer (some ⟨b, o + 1, none⟩))) w := by
  unfold execOp
  simp only [ho, hx]
  go_simp
theorem index63 {ρ : Operand → Value} {oi : Oper} {w : World} {b i N C : Nat} (x y : Operand) (ho : oi.op = .indexAddr 63 x y) (hx : ρ x = .slice (some ⟨b, 0, none⟩) N C) (hy : ρ y = .int .i64 (i : Int)) (hi : i < N) : (execOp ρ oi).run Try.prog w = .ok (.value (.pointer (some ⟨b, i * 3, none⟩))) w := by
  have t : (i : Int) < (N : Int) := by omega
  unfold execOp
  simp only [ho, hx, hy]
  go_simp
theorem call32 {ρ : Operand → Value} {oi : Oper} {w : World} {u : Value} (x : Operand) (ho : oi.op = .call { callee := .value (.func 32), args := #[x], argTypes := #[44] }) (hf : ρ (.func 32) = .func (.func 32) #[] #[]) (hx : ρ x = u) : (execOp ρ oi).run Try.prog w = .ok (.enter 32 #[u]) w := by
  unfold execOp
  simp only [ho]
  go_simp
theorem about32 {ρ : Operand → Value} {oi : Oper} {w : World} (x : Operand) (ho : oi.op = .call { callee := .value (.func 32), args := #[x], argTypes := #[44] }) (hf : ρ (.func 32) = .func (.func 32) #[] #[]) : oi.about Try.prog w ρ = some 32 := by
  unfold Oper.about
  simp only [ho]
  go_simp
theorem aboutCopyH {ρ : Operand → Value} {oi : Oper} {w : World} (x y : Operand) (ho : oi.op = .call { callee := .builtin .copy, args := #[x, y], argTypes := #[63, 63] }) : oi.about Try.prog w ρ = none := by
  unfold Oper.about
  simp only [ho]
  go_simp
end Go.Proofs.Ytibidljblkfciaa
