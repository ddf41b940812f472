/-
What is proved here: the document's own disk: New, step, Write of it, each by a contract.
What is proved here: the cells of a write of the document's own disk: noughts, one number set, a row of one such.
What is proved here: the document's own disk: Write of it, by a contract.
-/
import Derived.Test.YtibidljblkfciaaRka
import Derived.Great.BuildSlice
set_option linter.unusedSimpArgs false
namespace Go.Proofs.Ytibidljblkfciaa
open Go.Word Go.RowKit

theorem info78 : (Try.prog.info? 78).map (fun i => (i.zero, i.size, i.bytes)) = some (some (.agg (yRow nil8 512)), 512, 512) := by kernel_rfl
theorem made_blocks (n : Nat) (h : n ≤ 4096) (W : World) : (Instr.makeSlice 74 (.int .i64 (n : Int)) (.int .i64 (n : Int))).run Try.prog W =
    .ok (.slice (some ⟨W.heap.size, 0, none⟩) n n) (W.alloc (.cells (yRow nil8 (512 * n)) 78)) := by
  obtain ⟨i, hi, hz0, hz1, hz2⟩ := info_parts info78
  have := run_make (P := Try.prog) W 74 78 i _ Try.underlying74 hi hz0 .i64 .i64 (n : Int) (n : Int) (by omega) (by omega) (by rw [hz2]; omega) (by omega)
  rw [this, hz1, Int.toNat_natCast]
  have e : madeCells (Value.cells (.agg (yRow nil8 512))) (n * 512) = yRow nil8 (512 * n) := by
    refine Array.ext_getElem? fun j => ?_
    have hc : Value.cells (.agg (yRow nil8 512)) = yRow nil8 512 := rfl
    rw [hc]
    by_cases hj : j < 512 * n
    · rw [yRow_at _ hj]
      have hm : j % 512 < 512 := Nat.mod_lt _ (by decide)
      have hjn : j < n * 512 := by omega
      have hs : (yRow nil8 512).size = 512 := yRow_size _ _
      have hg := yRow_at nil8 hm
      simp only [madeCells, hs]
      simp [hjn]
      have hlt : j % 512 < (yRow nil8 512).size := by rw [hs]; exact hm
      rw [Array.getElem?_eq_getElem hlt] at hg
      injection hg with hg
      rw [getElem!_pos (yRow nil8 512) (j % 512) hlt, hg]
      rfl
    · rw [Array.getElem?_eq_none (by simp [madeCells]; omega), Array.getElem?_eq_none (by rw [yRow_size]; omega)]
  rw [e]
set_option maxHeartbeats 400000 in
theorem rnew_any (z : Int) (n : Nat) (hz : z = n) (w : World) (h1 : 1 ≤ n) (h2 : n ≤ 4096) :
    Calls Try.prog 31 #[.int .i64 z] w fun e w' => ∃ r FB, e = .returned (.tuple #[.pointer (some ⟨r, 0, none⟩), .int .i64 0]) ∧ w.heap.size = FB ∧ r = FB + 1 ∧ Rdk w' r FB n (.slice none 0 0) n (fun _ => 0) [] true (-1) ∧ Below w.heap.size w w' := by
  subst hz
  have t1 : decide ((n : Int) < 1) = false := decide_eq_false (by omega)
  have t2 : decide ((4096 : Int) < (n : Int)) = false := decide_eq_false (by omega)
  have hmk := fun W => made_blocks n h2 W
  go_enter Try.func31, Try.ntmps31
  go_wp2
  go_ret2
  exact ⟨w.heap.size + 1, w.heap.size, rfl, rfl, rfl, { self := heap_alloc2_new w _ _, fast := lies_alloc (lies_new w 78 _) _, held := ⟨rfl, .inl ⟨rfl, rfl⟩⟩, most := ⟨h1, h2, Nat.le_refl _⟩, ats := (fun x hx => by cases hx), apart := by omega }, ((Below.refl _ _).alloc (Nat.le_refl _) _).alloc (by simp) _⟩
set_option maxHeartbeats 400000 in
theorem rstep_any (r FB C0 n : Nat) (rv : Value) (lf : Int) (b : Bool) (w : World) (h1 : -1 ≤ lf) (h2 : lf ≤ 9223372036854775807) (h0 : lf ≠ 0) (h : Lies w r 77 #[.slice (some ⟨FB, 0, none⟩) n C0, rv, .int .i64 lf, .bool b]) :
    Calls Try.prog 44 #[.pointer (some ⟨r, 0, none⟩)] w fun e w' => e = .returned (.tuple #[]) ∧ Lies w' r 77 #[.slice (some ⟨FB, 0, none⟩) n C0, rv, .int .i64 (stepLf lf), .bool (!stepOn true lf)] ∧ w.grownBy w' (some r) := by
  have c2 : w.cell? ⟨r, 2, none⟩ = some (.int .i64 lf) := lies_cell h 2
  have c3 : w.cell? ⟨r, 3, none⟩ = some (.bool b) := lies_cell h 3
  have f2 := lies_free h 2
  have f3 := lies_free h 3
  have H := Lib.hid h
  clear h
  by_cases he : lf = -1
  · subst he
    go_enter Try.func44, Try.ntmps44
    go_wp2
    go_end0
    exact ⟨rfl, lies_set H.out 3 _, only_setCell (World.grownBy.refl w _) 3 _⟩
  · have t1 : decide (0 < lf) = true := decide_eq_true (by omega)
    have e1 : (!stepOn true lf) = (lf - 1 == 0) := by
      unfold stepOn
      rw [if_neg he]
      by_cases h3 : lf - 1 = 0
      · rw [h3]; rfl
      · have : 0 < lf - 1 := by omega
        rw [decide_eq_true this]
        have h4 : (lf - 1 == 0) = false := by simpa using h3
        rw [h4]
        rfl
    have e2 : stepLf lf = lf - 1 := if_neg he
    rw [e1, e2]
    clear e1 e2
    go_enter Try.func44, Try.ntmps44
    go_wp2
    go_end0
    exact ⟨rfl, lies_set (lies_set H.out 2 _) 3 _, only_setCell (only_setCell (World.grownBy.refl w _) 2 _) 3 _⟩
end Go.Proofs.Ytibidljblkfciaa

set_option linter.unusedSimpArgs false
namespace Go.Proofs.Ytibidljblkfciaa
open Go.Word Go.RowKit

/-- a write's cells, of a number -/
def wcel (z : Int) (q : Bytes) : Array Value := (Value.int .i64 z :: ((List.range 512).map fun j => Y (q j))).toArray
theorem wcel_size (z : Int) (q : Bytes) : (wcel z q).size = 513 := by simp [wcel]
theorem zero84 (W : World) : (zeroValue 84).run Try.prog W = .ok (.agg (wcel 0 nil8)) W := by kernel_rfl
theorem info84 : (Try.prog.info? 84).map (fun i => (i.zero, i.size, i.bytes)) = some (some (.agg (wcel 0 nil8)), 513, 520) := by kernel_rfl
theorem size84 : (Try.prog.info? 84).map (·.size) = some 513 := by kernel_rfl
theorem wcel_at0 (z : Int) (q : Bytes) : (wcel z q)[0]? = some (.int .i64 z) := by simp [wcel]
theorem wcel_at (z : Int) (q : Bytes) (j : Nat) (h : j < 512) : (wcel z q)[1 + j]? = some (Y (q j)) := by
  rw [Nat.add_comm]
  simp [wcel, h]
theorem wcel_one (z : Int) (q : Bytes) : (wcel z q).all (·.oneCell') = true := by
  rw [Array.all_eq_true_iff_forall_mem]
  intro v hv
  simp only [wcel, List.mem_toArray, List.mem_cons, List.mem_map] at hv
  rcases hv with rfl | ⟨j, _, rfl⟩ <;> rfl
theorem wcel_row (x : Nat × Bytes) : (wcel (x.1 : Int) x.2).toList = wrow x := rfl
theorem wcel_congr (z : Int) {q q' : Bytes} (h : ∀ j, j < 512 → q j = q' j) : wcel z q = wcel z q' := by
  unfold wcel
  rw [List.map_congr_left (fun j hj => by rw [h j (by simpa using hj)])]
theorem wcel_set0 (z z' : Int) (q : Bytes) : (wcel z q).setIfInBounds 0 (.int .i64 z') = wcel z' q := by simp [wcel]
/-- q's first i bytes, then noughts -/
def mix (q : Bytes) (i : Nat) : Bytes := fun j => if j < i then q j else nil8 j
theorem mix_zero (q : Bytes) : mix q 0 = nil8 := by funext j; simp [mix]
theorem wcel_step (z : Int) (q : Bytes) (i : Nat) (h : i < 512) : (wcel z (mix q i)).setIfInBounds (1 + i) (Y (q i)) = wcel z (mix q (i + 1)) := by
  refine Array.ext_getElem? fun j => ?_
  rw [Array.getElem?_setIfInBounds]
  by_cases h0 : j = 0
  · subst h0
    rw [if_neg (by omega), wcel_at0, wcel_at0]
  by_cases h1 : j < 513
  · obtain ⟨k, rfl⟩ : ∃ k, j = 1 + k := ⟨j - 1, by omega⟩
    by_cases e : i = k
    · subst e
      rw [if_pos rfl, if_pos (by rw [wcel_size]; omega), wcel_at _ _ _ h]
      simp [mix]
    · rw [if_neg (by omega), wcel_at _ _ _ (by omega), wcel_at _ _ _ (by omega)]
      unfold mix
      by_cases h2 : k < i
      · rw [if_pos h2, if_pos (by omega)]
      · rw [if_neg h2, if_neg (by omega)]
  · rw [if_neg (by omega), Array.getElem?_eq_none (by rw [wcel_size]; omega), Array.getElem?_eq_none (by rw [wcel_size]; omega)]
theorem mix_all (z : Int) (q : Bytes) : wcel z (mix q 512) = wcel z q := wcel_congr z (fun j hj => by simp [mix, hj])
theorem fold_set : ∀ (cs : List Value) (k : Nat) (base : Array Value), k + cs.length ≤ base.size → ∀ i, ((cs.zipIdx k).foldl (fun a (x : Value × Nat) => a.setIfInBounds (0 * 513 + x.2) x.1) base)[i]? = if k ≤ i ∧ i < k + cs.length then cs[i - k]? else base[i]?
  | [], k, base, _, i => by
    rw [if_neg (by simp)]
    rfl
  | c :: r, k, base, h, i => by
    rw [List.zipIdx_cons, List.foldl_cons, fold_set r (k + 1) _ (by simp at h ⊢; omega), Array.getElem?_setIfInBounds]
    simp only [List.length_cons]
    have e0 : 0 * 513 + k = k := by omega
    rw [e0]
    by_cases e : k = i
    · subst e
      rw [if_neg (by omega), if_pos rfl, if_pos (by simp at h; omega), if_pos (by omega), Nat.sub_self]
      rfl
    · by_cases h1 : k + 1 ≤ i ∧ i < k + 1 + r.length
      · rw [if_pos h1, if_pos (by omega), show i - k = (i - (k + 1)) + 1 by omega, List.getElem?_cons_succ]
      · rw [if_neg h1, if_neg e, if_neg (by omega)]
theorem fill_vs (base vs : Array Value) (hb : base.size = 513) (hv : vs.size = 513) : Instr.fill (fun i => some (i * 513, 513)) base [(0, .agg vs)] = some vs := by
  have hc : Value.cells (.agg vs) = vs := rfl
  unfold Instr.fill
  simp only [hc, hv]
  rw [if_neg (by simp [hb])]
  unfold Instr.fill
  refine congrArg some ?_
  rw [← Array.foldl_toList, Array.toList_zipIdx]
  refine Array.ext_getElem? fun i => ?_
  have := fold_set vs.toList 0 base (by rw [Array.length_toList, hv, hb]; omega) i
  refine this.trans ?_
  rw [Array.length_toList, hv]
  by_cases h : i < 513
  · rw [if_pos (by omega), Nat.sub_zero, Array.getElem?_toList]
  · rw [if_neg (by omega), Array.getElem?_eq_none (by rw [hb]; omega), Array.getElem?_eq_none (by rw [hv]; omega)]
theorem fill_one (base : Array Value) (z : Int) (q : Bytes) (hb : base.size = 513) : Instr.fill (fun i => some (i * 513, 513)) base [(0, .agg (wcel z q))] = some (wcel z q) := fill_vs base _ hb (wcel_size z q)
end Go.Proofs.Ytibidljblkfciaa

set_option linter.unusedSimpArgs false
namespace Go.Proofs.Ytibidljblkfciaa
open Go.Word Go.RowKit

theorem load75 {ρ : Operand → Value} {oi : Oper} {w : World} {b o N C : Nat} {A : Option Addr} (x : Operand) (ho : oi.op = .load 75 x) (hx : ρ x = .pointer (some ⟨b, o, none⟩)) (hc : w.cell? ⟨b, o, none⟩ = some (.slice A N C)) : (execOp ρ oi).run Try.prog w = .ok (.value (.slice A N C)) w := by
  unfold execOp
  simp only [ho, hx]
  go_simp
theorem load74 {ρ : Operand → Value} {oi : Oper} {w : World} {b o N C : Nat} {A : Option Addr} (x : Operand) (ho : oi.op = .load 74 x) (hx : ρ x = .pointer (some ⟨b, o, none⟩)) (hc : w.cell? ⟨b, o, none⟩ = some (.slice A N C)) : (execOp ρ oi).run Try.prog w = .ok (.value (.slice A N C)) w := by
  unfold execOp
  simp only [ho, hx]
  go_simp
theorem field771 {ρ : Operand → Value} {oi : Oper} {w : World} {b : Nat} (x : Operand) (ho : oi.op = .fieldAddr 77 x 1) (hx : ρ x = .pointer (some ⟨b, 0, none⟩)) : (execOp ρ oi).run Try.prog w = .ok (.value (.pointer (some ⟨b, 1, none⟩))) w := by
  unfold execOp
  simp only [ho, hx]
  go_simp
theorem field770 {ρ : Operand → Value} {oi : Oper} {w : World} {b : Nat} (x : Operand) (ho : oi.op = .fieldAddr 77 x 0) (hx : ρ x = .pointer (some ⟨b, 0, none⟩)) : (execOp ρ oi).run Try.prog w = .ok (.value (.pointer (some ⟨b, 0, none⟩))) w := by
  unfold execOp
  simp only [ho, hx]
  go_simp
theorem store75 {ρ : Operand → Value} {oi : Oper} {w : World} {b o N C N' C' : Nat} {A A' : Option Addr} (x y : Operand) (ho : oi.op = .store 75 x y) (hx : ρ x = .pointer (some ⟨b, o, none⟩)) (hy : ρ y = .slice A N C) (hc : w.cell? ⟨b, o, none⟩ = some (.slice A' N' C')) (hf : w.frozen? ⟨b, o, none⟩ = false) : (execOp ρ oi).run Try.prog w = .ok .skip (w.setCell ⟨b, o, none⟩ (.slice A N C)) := by
  unfold execOp
  simp only [ho, hx, hy]
  go_simp
theorem load84 {ρ : Operand → Value} {oi : Oper} {w : World} {b : Nat} {cs : Array Value} (x : Operand) (ho : oi.op = .load 84 x) (hx : ρ x = .pointer (some ⟨b, 0, none⟩)) (hl : Lies w b 84 cs) (hs : cs.size = 513) : (execOp ρ oi).run Try.prog w = .ok (.value (.agg cs)) w := by
  unfold execOp
  simp only [ho, hx, Instr.loadAt, Instr.sureAddr, Sem.run_bind, Sem.run_pure, Result.andThen_ok, run_loadVar_row w b 84 84 cs (0, 0) _ hl Try.underlying84 rfl (by rw [hs]; exact size84)]
theorem build75 {ρ : Operand → Value} {oi : Oper} {w : World} {z : Int} {q : Bytes} (x : Operand) (ho : oi.op = .buildSlice 75 1 #[(0, x)]) (hx : ρ x = .agg (wcel z q)) : (execOp ρ oi).run Try.prog w = .ok (.value (.slice (some ⟨w.heap.size, 0, none⟩) 1 1)) (w.alloc (.cells (wcel z q) 84)) := by
  obtain ⟨i0, hi, hz0, hz1, hz2⟩ := info_parts info84
  unfold execOp
  simp only [ho, Sem.run_bind]
  rw [run_buildSlice w 75 84 1 _ (wcel z q) i0 _ Try.underlying75 hi hz0 (by rw [hz1]; decide) (by rw [hz1]; decide) (by
    rw [hz1]
    simp only [List.map_toArray, List.map_cons, List.map_nil, hx]
    exact fill_one _ z q (by simp))]
  rfl
theorem append75 {w : World} {base n : Nat} {v : Value} {xs : List Value} {ad : Addr} {c : Nat} {news : List Value} (hown : w.ownsRow base 84 513 v n xs) (hl : news.length = 513) (hnews : ∀ j u, news[j]? = some u → w.cell? (ad.add j) = some u) (h1 : ∀ u ∈ news, u.oneCell' = true) (hn : n ≤ 70000) (hb : base ≤ w.heap.size) :
    ∃ A' C' w', (∀ (ρ : Operand → Value) (oi : Oper) (x y : Operand), oi.op = .call { callee := .builtin .append, args := #[x, y], argTypes := #[75, 75] } → ρ x = v → ρ y = .slice (some ad) 1 c → (execOp ρ oi).run Try.prog w = .ok (.value (.slice A' (n + 1) C')) w') ∧
      w'.ownsRow base 84 513 (.slice A' (n + 1) C') (n + 1) (xs ++ news) ∧ w.grownBy w' v.ownBlock ∧ (Value.ownBlock (.slice A' (n + 1) C') = v.ownBlock ∨ ∃ k, Value.ownBlock (.slice A' (n + 1) C') = some k ∧ w.heap.size ≤ k) := by
  obtain ⟨i0, hi, hz0, hz1, hz2⟩ := info_parts info84
  have hm : n + 1 ≤ maxLen := by unfold maxLen; omega
  have hby : (n + 1) * 520 ≤ 140737488355328 := by omega
  have hzs : (Value.cells (.agg (wcel 0 nil8))).size = 513 := wcel_size _ _
  obtain ⟨v', w', hr, h2, h3, _⟩ := run_append_own (P := Try.prog) w base 75 0 84 i0 _ 513 520 Try.underlying75 hi hz0 hz1 hz2 hzs (by decide) v n xs hown ad 1 c news (by rw [hl]) hnews h1 hm hby hb
  have hk : v'.ownBlock = v.ownBlock ∨ ∃ k, v'.ownBlock = some k ∧ w.heap.size ≤ k := by
    rcases hown.2 with ⟨e1, e2⟩ | ⟨g, cap, cur, e1, hbg, hg, hnc, hcm, hcs, htake⟩
    · subst e1 e2
      have hx0 : xs = [] := List.eq_nil_of_length_eq_zero (by simpa using hown.1)
      subst hx0
      obtain ⟨v2, w2, hr2, o2, _⟩ := run_append_own (P := Try.prog) w w.heap.size 75 0 84 i0 _ 513 520 Try.underlying75 hi hz0 hz1 hz2 hzs (by decide) (.slice none 0 0) 0 [] (World.ownsRow_nil w w.heap.size 84 513) ad 1 c news (by rw [hl]) hnews h1 hm hby (Nat.le_refl _)
      rw [hr] at hr2
      injection hr2 with ev ew
      subst ev ew
      rcases o2.2 with ⟨_, e0⟩ | ⟨g2, cap2, cur2, e2, hb2, _⟩
      · cases e0
      · exact .inr ⟨g2, by rw [e2]; rfl, hb2⟩
    · subst e1
      by_cases hroom : n + 1 ≤ cap
      · have hfit : n * i0.size + news.length ≤ cur.size := by rw [hl, hcs, hz1]; omega
        have hr2 := run_append_room (P := Try.prog) w 75 0 84 i0 Try.underlying75 hi g n cap cur hg ad 1 c news (by rw [hz1, hl]) hnews h1 hroom hfit
        rw [hr] at hr2
        injection hr2 with ev ew
        exact .inl (by rw [ev]; rfl)
      · have holds : ∀ j u, xs[j]? = some u → w.cell? ((⟨g, 0, none⟩ : Addr).add j) = some u := hown.cells (g := g) rfl
        have hr2 := run_append_grow (P := Try.prog) w 75 0 84 i0 _ Try.underlying75 hi hz0 ⟨g, 0, none⟩ n cap xs (by rw [hz1]; exact hown.1) holds ad 1 c news (by rw [hz1, hl]) hnews (by omega) (by omega) (growslice_fits (by omega) (by rw [hz2]; exact hby))
        rw [hr] at hr2
        injection hr2 with ev ew
        exact .inr ⟨w.heap.size, by rw [ev]; rfl, Nat.le_refl _⟩
  obtain ⟨A', C', e⟩ : ∃ A' C', v' = .slice A' (n + 1) C' := by
    rcases h2.2 with ⟨_, e0⟩ | ⟨gg, cap, cur, e, _⟩
    · omega
    · exact ⟨_, _, e⟩
  subst e
  refine ⟨A', C', w', ?_, h2, h3, hk⟩
  intro ρ oi x y ho hx hy
  unfold execOp
  simp only [ho, resolve, invoke, builtin, Sem.run_bind, Sem.run_pure, Result.andThen_ok, List.map_toArray, List.map_cons, List.map_nil, hx, hy]
  have hr' : (Builtin.append_ #[75, 75] oi.type #[v, .slice (some ad) 1 c]).run Try.prog w = .ok (.slice A' (n + 1) C') w' := hr
  rw [hr']
  rfl
end Go.Proofs.Ytibidljblkfciaa
