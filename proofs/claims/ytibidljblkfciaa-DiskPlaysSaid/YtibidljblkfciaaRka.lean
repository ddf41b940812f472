/-
What is proved here: the document's own disk: where it lies in memory; New, step, Read of it, each by a contract.
-/
import Derived.Test.YtibidljblkfciaaAll
set_option linter.unusedSimpArgs false
namespace Go.Proofs.Ytibidljblkfciaa
open Go.Word Go.RowKit

/-- noughts -/
def nil8 : Bytes := fun _ => 0
theorem zero78 (W : World) : (zeroValue 78).run Try.prog W = .ok (.agg (yRow nil8 512)) W := by kernel_rfl
/-- the cells of a write of the document's own disk -/
def wrow (x : Nat × Bytes) : List Value := .int .i64 (x.1 : Int) :: ((List.range 512).map fun j => Y (x.2 j))
theorem wrow_length (x : Nat × Bytes) : (wrow x).length = 513 := by simp [wrow]
theorem wrow_at (x : Nat × Bytes) (j : Nat) (h : j < 512) : (wrow x)[1 + j]? = some (Y (x.2 j)) := by
  rw [Nat.add_comm]
  simp [wrow, h]
theorem wflat_len (ws : List (Nat × Bytes)) : (ws.flatMap wrow).length = ws.length * 513 := by
  induction ws with
  | nil => rfl
  | cons x r ih =>
    simp only [List.flatMap_cons, List.length_append, List.length_cons, ih, wrow_length]
    omega
theorem wflat_at : ∀ (ws : List (Nat × Bytes)) (k o : Nat) (hk : k < ws.length), o < 513 → (ws.flatMap wrow)[k * 513 + o]? = (wrow ws[k])[o]?
  | x :: r, 0, o, _, ho => by
    have hl := wrow_length x
    simp only [List.flatMap_cons, Nat.zero_mul, Nat.zero_add, List.getElem_cons_zero]
    rw [List.getElem?_append_left (by omega)]
  | x :: r, k + 1, o, hk, ho => by
    have hl := wrow_length x
    simp only [List.flatMap_cons, List.getElem_cons_succ]
    rw [List.getElem?_append_right (by omega), show (k + 1) * 513 + o - (wrow x).length = k * 513 + o by omega]
    exact wflat_at r k o (by simpa using hk) ho
/-- the document's own Disk in block r -/
structure Rdk (w : World) (r FB C0 : Nat) (rv : Value) (n : Nat) (F : Bytes) (ws : List (Nat × Bytes)) (on : Bool) (lf : Int) : Prop where
  self : Lies w r 77 #[.slice (some ⟨FB, 0, none⟩) n C0, rv, .int .i64 lf, .bool (!on)]
  fast : Lies w FB 78 (yRow F (512 * C0))
  held : w.ownsRow 0 84 513 rv ws.length (ws.flatMap wrow)
  most : 1 ≤ n ∧ n ≤ 4096 ∧ n ≤ C0
  ats : ∀ x ∈ ws, x.1 < n
  apart : FB ≠ r
theorem rdk_own {w : World} {r FB C0 : Nat} {rv : Value} {n : Nat} {F : Bytes} {ws : List (Nat × Bytes)} {on : Bool} {lf : Int} (h : Rdk w r FB C0 rv n F ws on lf) : rv.ownBlock ≠ some r ∧ rv.ownBlock ≠ some FB := by
  constructor
  · intro hk
    rcases h.held.2 with ⟨e, _⟩ | ⟨gg, cap, cur, e, _, hg, _⟩
    · rw [e] at hk; cases hk
    · rw [e] at hk
      obtain rfl : gg = r := by simpa [Value.ownBlock] using hk
      have := h.self
      unfold Lies at this
      rw [this] at hg
      injection hg with hg
      injection hg with _ h2 _
      cases h2
  · intro hk
    rcases h.held.2 with ⟨e, _⟩ | ⟨gg, cap, cur, e, _, hg, _⟩
    · rw [e] at hk; cases hk
    · rw [e] at hk
      obtain rfl : gg = FB := by simpa [Value.ownBlock] using hk
      have := h.fast
      unfold Lies at this
      rw [this] at hg
      injection hg with hg
      injection hg with _ h2 _
      cases h2
theorem rdk_form {w : World} {r FB C0 : Nat} {rv : Value} {n : Nat} {F : Bytes} {ws : List (Nat × Bytes)} {on : Bool} {lf : Int} (h : Rdk w r FB C0 rv n F ws on lf) : ∃ A C, rv = .slice A ws.length C ∧ (0 < ws.length → ∃ hb, A = some ⟨hb, 0, none⟩) := by
  rcases h.held.2 with ⟨e, e0⟩ | ⟨gg, cap, cur, e, _⟩
  · exact ⟨none, 0, by rw [e, e0], fun h => by omega⟩
  · exact ⟨_, _, e, fun _ => ⟨gg, rfl⟩⟩
/-! on bytes alone -/
theorem put_far (f q : Bytes) (a b j : Nat) (h : a ≠ b) (hj : j < 512) : put f (512 * a) q (512 * b + j) = f (512 * b + j) := by
  unfold put
  rw [if_neg (by omega)]
theorem now_skip (b j : Nat) (hj : j < 512) : ∀ (ws : List (Nat × Bytes)) (F : Bytes), (∀ x ∈ ws, x.1 ≠ b) → now F ws (512 * b + j) = F (512 * b + j)
  | [], _, _ => rfl
  | x :: r, F, h => by
    show now (put F (512 * x.1) x.2) r (512 * b + j) = _
    rw [now_skip b j hj r _ (fun y hy => h y (List.mem_cons_of_mem _ hy)), put_far _ _ _ _ _ (h x List.mem_cons_self) hj]
theorem now_hit (b j k : Nat) (hj : j < 512) (ws : List (Nat × Bytes)) (F : Bytes) (hk : k < ws.length) (h1 : ws[k].1 = b) (h2 : ∀ i (h : i < ws.length), k < i → ws[i].1 ≠ b) : now F ws (512 * b + j) = ws[k].2 j := by
  have e : ws = ws.take k ++ ws[k] :: ws.drop (k + 1) := by rw [← List.drop_eq_getElem_cons hk, List.take_append_drop]
  have e2 : now F ws = now (put (now F (ws.take k)) (512 * ws[k].1) ws[k].2) (ws.drop (k + 1)) := by
    conv => lhs; rw [e]
    unfold now
    rw [List.foldl_append]
    rfl
  rw [e2, now_skip b j hj _ _ (fun x hx => by
    obtain ⟨i, hi, rfl⟩ := List.getElem_of_mem hx
    rw [List.getElem_drop]
    exact h2 _ _ (by omega)), h1]
  exact put_same _ _ _ j hj

theorem yRow_mid (F : Bytes) (K p : Nat) (h : p + 512 ≤ K) {w : World} {g : Nat} {t : TypeId} (hl : Lies w g t (yRow F K)) : w.rangeAt g p (yRow (fun j => F (p + j)) 512).toList := range_of hl (fun j v hj => by
  have hj2 : j < 512 := by
    rcases Nat.lt_or_ge j 512 with h | h
    · exact h
    · rw [Array.getElem?_toList, Array.getElem?_eq_none (by rw [yRow_size]; exact h)] at hj; cases hj
  rw [yRow_at _ (by omega)]
  rw [Array.getElem?_toList, yRow_at _ hj2] at hj
  exact hj)
theorem held_mid {w : World} {base hb N C k : Nat} {ws : List (Nat × Bytes)} (h : w.ownsRow base 84 513 (.slice (some ⟨hb, 0, none⟩) N C) N (ws.flatMap wrow)) (hN : ws.length = N) (hk : k < ws.length) : w.rangeAt hb (k * 513 + 1) (yRow ws[k].2 512).toList := fun j v hj => by
  have hj2 : j < 512 := by
    rcases Nat.lt_or_ge j 512 with h | h
    · exact h
    · rw [Array.getElem?_toList, Array.getElem?_eq_none (by rw [yRow_size]; exact h)] at hj; cases hj
  rw [Array.getElem?_toList, yRow_at _ hj2] at hj
  rw [World.ownsRow.cellAt h _ (by omega), show k * 513 + 1 + j = k * 513 + (1 + j) by omega, wflat_at ws k (1 + j) hk (by omega), wrow_at _ _ hj2]
  exact hj

theorem results_cell_slot {P : Program} {fn : Func} {p q : Tmp} {ty : TypeId} (h : fn.results = #[.cell p ty, .tmp q]) (tmps : Array Value) (w : World) (g : Nat) (t : TypeId) (cs : Array Value) (fr : Nat × Nat) (d : TypeDesc) (v : Value)
    (hp : tmps.getD p undef = .pointer (some ⟨g, 0, none⟩)) (hq : tmps.getD q undef = v) (hg : w.heap[g]? = some (.cells cs t fr))
    (hu : P.underlying ty = some d) (hd : (match d with | .struct _ | .array _ _ => true | _ => false) = true) (hi : (P.info? ty).map (·.size) = some cs.size) :
    (results fn tmps).run P w = .ok (.tuple #[.agg cs, v]) w := by
  have hp' : tmps[p]?.getD undef = .pointer (some ⟨g, 0, none⟩) := by simpa using hp
  have hq' : tmps[q]?.getD undef = v := by simpa using hq
  simp [results, h, hp', hq', asAddr, run_loadVar_row w g t ty cs fr d hg hu hd hi]
set_option maxRecDepth 100000 in
set_option maxHeartbeats 4000000 in
theorem rread_any {r FB C0 : Nat} {rv : Value} {n : Nat} {F : Bytes} {ws : List (Nat × Bytes)} {lf : Int} (b : Nat) (w : World) (hb : b < n) (hN : ws.length ≤ 70000) (h : Rdk w r FB C0 rv n F ws true lf) :
    Calls Try.prog 34 #[.pointer (some ⟨r, 0, none⟩), .int .i64 (b : Int)] w fun e w' => e = .returned (.tuple #[.agg (yRow (fun j => now F ws (512 * b + j)) 512), .int .i64 0]) ∧ Below w.heap.size w w' := by
  obtain ⟨A, C, rfl, hA⟩ := rdk_form h
  obtain ⟨N, hNe⟩ : ∃ N, N = ws.length := ⟨_, rfl⟩
  have hself := h.self
  have hfast := h.fast
  have hheld := h.held
  have hmost := h.most
  have hC0 := hmost.2.2
  rw [← hNe] at hself hheld hA hN
  have hz := zero78
  have t1 : decide ((b : Int) < 0) = false := decide_eq_false (by omega)
  have t2 : decide (n ≤ b) = false := decide_eq_false (by omega)
  have t2' : decide ((n : Int) ≤ (b : Int)) = false := decide_eq_false (by omega)
  have bb : Below w.heap.size w (w.alloc (.cells (yRow nil8 512) 78)) := (Below.refl _ w).alloc (Nat.le_refl _) _
  have ls := lies_below hself bb (lies_lt hself)
  have HF := Lib.hid (lies_below hfast bb (lies_lt hfast))
  have HO := Lib.hid (World.ownsRow.alloc hheld (.cells (yRow nil8 512) 78))
  have HNEW := Lib.hid (lies_new w 78 (yRow nil8 512))
  have HB := Lib.hid bb
  have HM := Lib.hid hmost
  have HNE := Lib.hid hNe
  have HA := Lib.hid hA
  have d0 : (w.alloc (.cells (yRow nil8 512) 78)).cell? ⟨r, 0, none⟩ = some (.slice (some ⟨FB, 0, none⟩) n C0) := lies_cell ls 0
  have d1 : (w.alloc (.cells (yRow nil8 512) 78)).cell? ⟨r, 1, none⟩ = some (.slice A N C) := lies_cell ls 1
  have d3 : (w.alloc (.cells (yRow nil8 512) 78)).cell? ⟨r, 3, none⟩ = some (.bool false) := lies_cell ls 3
  clear h hself hfast hheld hmost bb ls hNe hA
  go_enter Try.func34, Try.ntmps34
  go_upto_region 5 with (fail)
  generalize w.alloc (.cells (yRow nil8 512) 78) = W at *
  clear hz t1 t2 t2' d3
  go_wp2
  go_loop [6] (fun v => ∃ k : Nat, k ≤ N ∧ v = .int .i64 ((k : Int) - 1) ∧ ∀ i (h : i < ws.length), k ≤ i → ws[i].1 ≠ b) (fun v => (intOf v + 1).toNat)
  case atStart => exact ⟨N, Nat.le_refl _, rfl, fun i h hk => by have := HNE.out; omega⟩
  case round =>
    obtain ⟨k, hk, rfl, hno⟩ := hrel
    have HNO := Lib.hid hno
    clear hno
    cases k with
    | zero =>
      have t : ¬ (0 : Int) ≤ ((0 : Nat) : Int) - 1 := by omega
      have LM := Lib.hid (yRow_mid F (512 * C0) (b * 512) (by omega) HF.out)
      have tb : (b : Int) < (n : Int) := by omega
      have HR := Lib.hid (show yRow (fun j => now F ws (512 * b + j)) 512 = yRow (fun j => F (b * 512 + j)) 512 from row_congr (fun j hj => by rw [now_skip b j hj ws F (fun x hx => by
        obtain ⟨i, hi, rfl⟩ := List.getElem_of_mem hx
        exact HNO.out i hi (Nat.zero_le _)), show 512 * b + j = b * 512 + j by omega]))
      go_wp2_with (first
        | (refine wpList_load_mid rfl 78 _ rfl FB (b * 512) rfl (yRow (fun j => F (b * 512 + j)) 512).toList _ LM.out Try.underlying78 rfl (by rw [Array.length_toList, yRow_size]; kernel_rfl) ?_; simp only [Array.toArray_toList])
        | (refine wpList_store_row rfl 78 _ _ rfl w.heap.size (yRow (fun j => F (b * 512 + j)) 512) rfl rfl 78 _ HNEW.out (by rw [yRow_size]; kernel_rfl) (by rw [yRow_size, yRow_size]) (yRow_one _ _) ?_))
      refine bodyPost_ret (results_cell_slot rfl _ _ w.heap.size 78 (yRow (fun j => F (b * 512 + j)) 512) (0, 0) _ (.int .i64 0) rfl rfl (lies_setRow HNEW.out _) Try.underlying78 rfl (by rw [yRow_size]; kernel_rfl)) rfl ⟨?_, below_setRow HB.out (Nat.le_refl _) _⟩
      rw [HR.out]
    | succ k =>
      obtain ⟨hbk, rfl⟩ := HA.out (by have := HNE.out; omega)
      have hkw : k < ws.length := by have := HNE.out; omega
      have c0 : W.cell? ⟨hbk, k * 513, none⟩ = some (.int .i64 (ws[k].1 : Int)) := by
        have := World.ownsRow.cellAt HO.out (k * 513 + 0) (by omega)
        rw [wflat_at ws k 0 hkw (by omega)] at this
        exact this
      have tk : (0 : Int) ≤ ((k + 1 : Nat) : Int) - 1 := by omega
      have ek : ((k + 1 : Nat) : Int) - 1 = (k : Int) := by omega
      have tk2 : (k : Int) < (N : Int) := by omega
      rw [ek]
      have LM := Lib.hid (held_mid HO.out HNE.out.symm hkw)
      obtain ⟨a, ha⟩ : ∃ a, ws[k].1 = a := ⟨_, rfl⟩
      rw [ha] at c0
      have HAk := Lib.hid ha
      clear ek tk ha
      by_cases he : a = b
      · subst he
        have HR := Lib.hid (show yRow (fun j => now F ws (512 * a + j)) 512 = yRow (ws[k].2) 512 from row_congr (fun j hj => now_hit a j k hj ws F hkw HAk.out (fun i hi hki => HNO.out i hi hki)))
        clear HNO
        generalize ws[k].2 = q at LM HR
        go_wp2_with (first
          | (refine wpList_load_mid rfl 78 _ rfl hbk (k * 513 + 1) rfl (yRow (q) 512).toList _ LM.out Try.underlying78 rfl (by rw [Array.length_toList, yRow_size]; kernel_rfl) ?_; simp only [Array.toArray_toList])
          | (refine wpList_store_row rfl 78 _ _ rfl w.heap.size (yRow (q) 512) rfl rfl 78 _ HNEW.out (by rw [yRow_size]; kernel_rfl) (by rw [yRow_size, yRow_size]) (yRow_one _ _) ?_))
        refine bodyPost_ret (results_cell_slot rfl _ _ w.heap.size 78 (yRow (q) 512) (0, 0) _ (.int .i64 0) rfl rfl (lies_setRow HNEW.out _) Try.underlying78 rfl (by rw [yRow_size]; kernel_rfl)) rfl ⟨?_, below_setRow HB.out (Nat.le_refl _) _⟩
        rw [HR.out]
      · have te : ((a : Int) == (b : Int)) = false := by simpa using (fun h : (a : Int) = (b : Int) => he (by omega))
        have te2 : decide (a = b) = false := decide_eq_false he
        have te3 : (a == b) = false := by simpa using he
        have te4 : decide ((a : Int) = (b : Int)) = false := decide_eq_false (by omega)
        go_wp2
        go_round
        case rel => exact ⟨k, by omega, rfl, fun i hi hki => by
          by_cases e : i = k
          · subst e; rw [HAk.out]; exact he
          · exact HNO.out i hi (by omega)⟩
        case measure => first | (simp [intOf]; done) | (simp [intOf]; omega)
end Go.Proofs.Ytibidljblkfciaa
