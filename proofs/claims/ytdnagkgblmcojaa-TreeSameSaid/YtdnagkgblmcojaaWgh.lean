/-
What is proved here: package tree's Weight, by a contract.
-/
import Derived.Test.YtdnagkgblmcojaaWgt
import Derived.Test.YtdnagkgblmcojaaChk
import Derived.RangeFuncBox
import Derived.Sort.CutIn
import Derived.Test.YtdnagkgblmcojaaTbl
import Derived.Shelf.RegionOpen
set_option linter.unusedSimpArgs false
namespace Go.Tre
open Go.Pth
def partsN (t s : Nat) : Nat := (t + s - 1) / s
/-- the blocks of a directory with so many in it; of a file of so many bytes -/
def dirW (k : K256) : Int := max (partsN k.1.toNat 16 : Int) 1
def fileW (n : Nat) : Int := if 8 < partsN n 512 then (partsN n 512 : Int) + 1 else (partsN n 512 : Int)
def dsum (ys : List K256) : Int := (ys.map dirW).sum
def fsum (fs : List Fl) : Int := (fs.map fun x => fileW x.data.length).sum
def weightB (ns : List Nd) (fs : List Fl) : Int := dsum (fillsL ns) + fsum fs
def weightI (ns : List Nd) (fs : List Fl) : Int := ((fillsL ns).length : Int) + fs.length
theorem dirW_bd (k : K256) : 1 ≤ dirW k ∧ dirW k ≤ 20 := by
  obtain ⟨k, h1, h2⟩ := k
  unfold dirW partsN
  show 1 ≤ max (((k.toNat + 16 - 1) / 16 : Nat) : Int) 1 ∧ max (((k.toNat + 16 - 1) / 16 : Nat) : Int) 1 ≤ 20
  omega
theorem dsum_snoc (ys : List K256) (k : K256) : dsum (ys ++ [k]) = dsum ys + dirW k := by simp [dsum, List.sum_append]
theorem dsum_bd : ∀ ys : List K256, 0 ≤ dsum ys ∧ dsum ys ≤ 20 * ys.length
  | [] => by simp [dsum]
  | k :: r => by
    have h1 := dirW_bd k
    have h2 := dsum_bd r
    have e : dsum (k :: r) = dirW k + dsum r := by simp [dsum]
    rw [e, List.length_cons]
    omega
theorem fileW_bd (n : Nat) (h : n ≤ 8192) : 0 ≤ fileW n ∧ fileW n ≤ 20 := by
  unfold fileW partsN
  split <;> omega
theorem fsum_bd : ∀ fs : List Fl, (∀ x ∈ fs, x.data.length ≤ 8192) → 0 ≤ fsum fs ∧ fsum fs ≤ 20 * fs.length
  | [], _ => by simp [fsum]
  | x :: r, h => by
    have h1 := fileW_bd x.data.length (h x (List.mem_cons_self ..))
    have h2 := fsum_bd r (fun y hy => h y (List.mem_cons_of_mem _ hy))
    have e : fsum (x :: r) = fileW x.data.length + fsum r := by simp [fsum]
    rw [e, List.length_cons]
    omega
end Go.Tre
namespace Go.Proofs.Ytdnagkgblmcojaa
open Go.Pth Go.Tre Go.RowKit Go.Word Go.Shelf Go.Fl
attribute [local go_sem] Oper.semAt_some

theorem fills_in (n : Nat) (A B : Value) (w : World) :
    CallsIn .wide n Try.prog 47 #[.agg #[A, B]] w fun e w' => e = .returned (.func (.func 62) #[] #[.pointer (some ⟨w.heap.size, 0, none⟩)]) ∧ w' = w.alloc (.cells #[A, B] 25) := by
  refine callsIn_of_wp Try.func47 rfl trivial ?_ rfl
  simp only [Try.ntmps47, List.size_toArray, List.length_cons, List.length_nil, Nat.reduceAdd, Nat.reduceSub, Array.replicate_succ, Array.replicate_zero, List.push_toArray, List.append_toArray, List.nil_append, List.cons_append]
  gi_wp2
  go_ret
  exact ⟨rfl, rfl⟩

theorem wpIn_skip' {F : Fence} {n : Nat} {P : Program} {Q : Exit → Act → World → Prop} {a : Act} {w w' : World} {K : Act → World → Prop} {oi : Oper} (hnd : ∀ c, oi.op ≠ .defer c) (hab : oi.about P w a.eval = none) (hr : (execOp a.eval oi).run P w = .ok .skip w') (h : K (a.put oi.dst undef) w') : Oper.wpIn F n P oi a w K Q :=
  ⟨fun f hf => (by rw [hab] at hf; cases hf), by rw [Oper.semAt_eq _ _ _ hnd, hr]; exact h⟩
theorem load55 {ρ : Operand → Value} {oi : Oper} {w : World} {b x y : Nat} (t : Operand) (ho : oi.op = .load 43 t) (hx : ρ t = .pointer (some ⟨b, 0, none⟩)) (hc : w.cell? ⟨b, 0, none⟩ = some (.complex .f64 x y)) : (execOp ρ oi).run Try.prog w = .ok (.value (.complex .f64 x y)) w := by
  unfold execOp
  simp only [ho, hx]
  go_simp
theorem store55 {ρ : Operand → Value} {oi : Oper} {w : World} {b x y x' y' : Nat} (t u : Operand) (ho : oi.op = .store 43 t u) (hx : ρ t = .pointer (some ⟨b, 0, none⟩)) (hy : ρ u = .complex .f64 x y) (hc : w.cell? ⟨b, 0, none⟩ = some (.complex .f64 x' y')) (hf : w.frozen? ⟨b, 0, none⟩ = false) : (execOp ρ oi).run Try.prog w = .ok .skip (w.setCell ⟨b, 0, none⟩ (.complex .f64 x y)) := by
  unfold execOp
  simp only [ho, hx, hy]
  go_simp
  rw [run_store _ _ _ _ _ rfl, hc, hf]
  rfl
theorem call68 {ρ : Operand → Value} {oi : Oper} {w : World} {u v : Value} (x y : Operand) (ho : oi.op = .call { callee := .value (.func 64), args := #[x, y], argTypes := #[3, 3] }) (hf : ρ (.func 64) = .func (.func 64) #[] #[]) (hx : ρ x = u) (hy : ρ y = v) : (execOp ρ oi).run Try.prog w = .ok (.enter 64 #[u, v]) w := by
  unfold execOp
  simp only [ho]
  go_simp
theorem call67 {ρ : Operand → Value} {oi : Oper} {w : World} {u : Value} (x : Operand) (ho : oi.op = .call { callee := .value (.func 63), args := #[x], argTypes := #[3] }) (hf : ρ (.func 63) = .func (.func 63) #[] #[]) (hx : ρ x = u) : (execOp ρ oi).run Try.prog w = .ok (.enter 63 #[u]) w := by
  unfold execOp
  simp only [ho]
  go_simp
theorem call48 {ρ : Operand → Value} {oi : Oper} {w : World} {u : Value} (x : Operand) (ho : oi.op = .call { callee := .value (.func 48), args := #[x], argTypes := #[3] }) (hf : ρ (.func 48) = .func (.func 48) #[] #[]) (hx : ρ x = u) : (execOp ρ oi).run Try.prog w = .ok (.enter 48 #[u]) w := by
  unfold execOp
  simp only [ho]
  go_simp
theorem call49 {ρ : Operand → Value} {oi : Oper} {w : World} {u : Value} (x : Operand) (ho : oi.op = .call { callee := .value (.func 49), args := #[x], argTypes := #[3] }) (hf : ρ (.func 49) = .func (.func 49) #[] #[]) (hx : ρ x = u) : (execOp ρ oi).run Try.prog w = .ok (.enter 49 #[u]) w := by
  unfold execOp
  simp only [ho]
  go_simp
theorem field49 {ρ : Operand → Value} {oi : Oper} {w : World} {b : Nat} (t : Operand) (ho : oi.op = .fieldAddr 49 t 1) (hx : ρ t = .pointer (some ⟨b, 0, none⟩)) : (execOp ρ oi).run Try.prog w = .ok (.value (.pointer (some ⟨b, 1, none⟩))) w := by
  unfold execOp
  simp only [ho, hx]
  go_simp
theorem load42 {ρ : Operand → Value} {oi : Oper} {w : World} {b o : Nat} {A : Option Addr} {n c : Nat} (t : Operand) (ho : oi.op = .load 42 t) (hx : ρ t = .pointer (some ⟨b, o, none⟩)) (hc : w.cell? ⟨b, o, none⟩ = some (.slice A n c)) : (execOp ρ oi).run Try.prog w = .ok (.value (.slice A n c)) w := by
  unfold execOp
  simp only [ho, hx]
  go_simp
theorem len42 {ρ : Operand → Value} {oi : Oper} {w : World} {A : Option Addr} {n c : Nat} (x : Operand) (ho : oi.op = .call { callee := .builtin .len, args := #[x], argTypes := #[42] }) (hx : ρ x = .slice A n c) : (execOp ρ oi).run Try.prog w = .ok (.value (.int .i64 (n : Int))) w := by
  unfold execOp
  simp only [ho]
  go_simp
theorem max_op {ρ : Operand → Value} {oi : Oper} {w : World} {a : Int} (x : Operand) (ho : oi.op = .call { callee := .builtin .max, args := #[x, .const (.int .i64 1)], argTypes := #[3, 3] }) (hx : ρ x = .int .i64 a) (hy : ρ (.const (.int .i64 1)) = .int .i64 1) : (execOp ρ oi).run Try.prog w = .ok (.value (.int .i64 (max a 1))) w := by
  unfold execOp
  simp only [ho]
  go_simp
theorem add55 {ρ : Operand → Value} {oi : Oper} {w : World} {x y a b x' y' : Nat} (t u : Operand) (ho : oi.op = .binOp .add 43 t u 43) (hx : ρ t = .complex .f64 x y) (hy : ρ u = .complex .f64 a b) (hr : ∀ t w, (binOp .add t (.complex .f64 x y) (.complex .f64 a b)).run Try.prog w = .ok (.complex .f64 x' y') w) : (execOp ρ oi).run Try.prog w = .ok (.value (.complex .f64 x' y')) w := by
  unfold execOp
  simp only [ho, hx, hy]
  go_simp

/-- all below m is as it was, but block WB -/
structure KBs (m WB : Nat) (A B : World) : Prop where
  os : B.os = A.os
  tape : B.tape = A.tape
  output : B.output = A.output
  size : A.heap.size ≤ B.heap.size
  block : ∀ i, i < m → i ≠ WB → B.heap[i]? = A.heap[i]?
theorem kbs_refl (m WB : Nat) (A : World) : KBs m WB A A := ⟨rfl, rfl, rfl, Nat.le_refl _, fun _ _ _ => rfl⟩
theorem kbs_grown {m WB : Nat} {A X Y : World} {row : Option Nat} (h : KBs m WB A X) (hg : X.grownBy Y row) (hm : m ≤ A.heap.size) (hr : ∀ r, row = some r → m ≤ r ∨ r = WB) : KBs m WB A Y :=
  ⟨hg.os.trans h.os, hg.tape.trans h.tape, hg.output.trans h.output, Nat.le_trans h.size hg.size, fun i h1 h2 => (hg.block i (by have := h.size; omega) (fun e => by
    rcases hr i e.symm with h3 | h3
    · omega
    · exact h2 h3)).trans (h.block i h1 h2)⟩
theorem kbs_cell {m WB : Nat} {A B : World} (h : KBs m WB A B) {p : Addr} (h1 : p.block < m) (h2 : p.block ≠ WB) : B.cell? p = A.cell? p := World.cell?_of_block (h.block p.block h1 h2)
theorem ownFrom_kbs {β : Type} {m WB B : Nat} {A : World} (hm : m ≤ A.heap.size) (hB : m ≤ B) : OwnFrom B (fun (_ : β) W => KBs m WB A W) :=
  fun _ _ _ _ hs hg hr => kbs_grown hs hg hm (fun r e => .inl (Nat.le_trans hB (hr r e).1))
theorem set_grown (W : World) (B : Nat) (v : Value) : W.grownBy (W.drew.setCell ⟨B, 0, none⟩ v) (some B) := by
  have := grownBy_setCell' W.drew B v
  exact ⟨this.os, this.tape, this.output, this.size, fun i hi hne => this.block i hi hne⟩

set_option maxRecDepth 100000 in
set_option maxHeartbeats 4000000 in
theorem weight_in (n : Nat) (hnn : 6 ≤ n) (NA FA : Option Addr) (nc mc : Nat) (ns : List Nd) (fs : List Fl) (w : World) (hN : NodesAt w NA ns) (hF : FilesAt w FA fs) (hp : ∀ x ∈ ns, x.path.length ≤ 100000) (hl : looseE ns fs = 0) (hn : ns.length ≤ 256) (hm : fs.length ≤ 256) (hd : ∀ x ∈ fs, x.data.length ≤ 8192) :
    CallsIn .wide n Try.prog 24 #[.agg #[.slice NA ns.length nc, .slice FA fs.length mc]] w fun e w' => (∃ x y, e = .returned (.tuple #[.complex .f64 x y, .int .i64 0]) ∧ Rep x (weightB ns fs) ∧ Rep y (weightI ns fs)) ∧ Below w.heap.size w w' := by
  have h1 : 1 ≤ n := by omega
  obtain ⟨nn, hne⟩ : ∃ nn, nn = ns.length := ⟨_, rfl⟩
  obtain ⟨mm, hme⟩ : ∃ mm, mm = fs.length := ⟨_, rfl⟩
  have L0 := lies_new w 25 #[.slice NA ns.length nc, .slice FA fs.length mc]
  have hb0 : Below w.heap.size w (w.alloc (.cells #[.slice NA ns.length nc, .slice FA fs.length mc] 25)) := (Below.refl _ _).alloc (Nat.le_refl _) _
  have K := loose_any NA FA nc mc ns fs _ (nodesAt_below hN hb0) (filesAt_below hF hb0) hp
  rw [hl] at K
  have K := Lib.hid K
  rw [← hne, ← hme] at K L0 hb0
  rw [← hne, ← hme]
  rw [← hne] at hn
  rw [← hme] at hm
  have c0 : (w.alloc (.cells #[.slice NA nn nc, .slice FA mm mc] 25)).cell? ⟨w.heap.size, 0, none⟩ = some (.slice NA nn nc) := lies_cell L0 0
  have c1 : (w.alloc (.cells #[.slice NA nn nc, .slice FA mm mc] 25)).cell? ⟨w.heap.size, 1, none⟩ = some (.slice FA mm mc) := lies_cell L0 1
  have HN := Lib.hid hN
  have HF := Lib.hid hF
  have HP := Lib.hid hp
  have L0 := Lib.hid L0
  have HB0 := Lib.hid hb0
  have NN := Lib.hid hne
  have MM := Lib.hid hme
  have HD := Lib.hid hd
  clear hN hF hp hb0 hne hme hl hd
  refine callsIn_of_wp_marks Try.func24 rfl trivial ?_ rfl
  simp only [Try.ntmps24, List.size_toArray, List.length_cons, List.length_nil, Nat.reduceAdd, Nat.reduceSub, Array.replicate_succ, Array.replicate_zero, List.push_toArray, List.append_toArray, List.nil_append, List.cons_append]
  gi_upto_region 4 with (refine ⟨trivial, ?_⟩; gi_at_call 22; refine (callsIn_wide.2 K.out).mono ?_; rintro e w2 ⟨rfl, hb⟩; have H2 := Lib.hid hb; clear hb)
  have b02 : Below w.heap.size w w2 := HB0.out.trans (H2.out.mono HB0.out.size)
  have L2 := lies_below L0.out H2.out (lies_lt L0.out)
  obtain ⟨w3, hw3⟩ : ∃ w3, w3 = w2.alloc (.cells #[.complex .f64 0 0] 43) := ⟨_, rfl⟩
  have b23 : Below w2.heap.size w2 w3 := by rw [hw3]; exact (Below.refl _ _).alloc (Nat.le_refl _) _
  have bO : Boxed w3 w2.heap.size 43 (.complex .f64 0 0) := by rw [hw3]; exact Boxed.new w2 43 _
  have z3 : w3.heap.size = w2.heap.size + 1 := by rw [hw3]; simp
  have L3 := lies_below L2 b23 (lies_lt L2)
  have y0 : (w2.alloc (.cells #[.complex .f64 0 0] 43)).cell? ⟨w.heap.size, 0, none⟩ = some (.slice NA nn nc) := by rw [← hw3]; exact lies_cell L3 0
  have y1 : (w2.alloc (.cells #[.complex .f64 0 0] 43)).cell? ⟨w.heap.size, 1, none⟩ = some (.slice FA mm mc) := by rw [← hw3]; exact lies_cell L3 1
  have HW3 := Lib.hid hw3
  clear c0 c1 hw3
  gi_wp2_with (refine ⟨trivial, ?_⟩; gi_at_call 47; refine (fills_in (n - 1) _ _ _).mono ?_; rintro e w' ⟨rfl, rfl⟩)
  rw [← HW3.out]
  obtain ⟨w4, hw4⟩ : ∃ w4, w4 = w3.alloc (.cells #[.slice NA nn nc, .slice FA mm mc] 25) := ⟨_, rfl⟩
  rw [← hw4]
  have b34 : Below w3.heap.size w3 w4 := by rw [hw4]; exact (Below.refl _ _).alloc (Nat.le_refl _) _
  have L4 : Lies w4 w3.heap.size 25 #[.slice NA nn nc, .slice FA mm mc] := by rw [hw4]; exact lies_new _ _ _
  have bO4 : Boxed w4 w2.heap.size 43 (.complex .f64 0 0) := by rw [hw4]; exact bO.alloc _
  have z4 : w4.heap.size = w2.heap.size + 2 := by rw [hw4]; simp; omega
  have zw : w.heap.size < w2.heap.size := lies_lt L2
  have b24 : Below w2.heap.size w2 w4 := b23.trans (b34.mono b23.size)
  have b04 : Below w.heap.size w w4 := b02.trans (b24.mono b02.size)
  have L04 := lies_below L2 b24 (lies_lt L2)
  have hNI : NodesIn w4 w4.heap.size w2.heap.size NA ns := fun i hi => by
    obtain ⟨b, o, e, hb, d1, d2, d3⟩ := HN.out i hi
    exact ⟨b, o, e, by omega, by omega, (b04.cell (p := ⟨b, o + i * 3, none⟩) hb).trans d1, (b04.cell (p := ⟨b, o + i * 3 + 1, none⟩) hb).trans d2, (b04.cell (p := ⟨b, o + i * 3 + 2, none⟩) hb).trans d3⟩
  have cB : w4.cell? ⟨w3.heap.size, 0, none⟩ = some (.slice NA ns.length nc) := by rw [← NN.out]; exact lies_cell L4 0
  rw [z3] at cB
  have L04h := Lib.hid L04
  have B04 := Lib.hid b04
  clear HW3 hw4 y0 y1 L2 L3 b02 b23 b34 b24 bO L04 b04 HB0 H2 K
  refine wpIn_rangeFunc_ownF rfl h1 (gf := 62) (lb := #[.pointer (some ⟨w2.heap.size + 1, 0, none⟩)]) rfl trivial (enters_of Try.func62 (by kernel_rfl) rfl)
    (fills_stops (n - 1) (by omega) ns (by have := NN.out; omega) HP.out (w2.heap.size + 1) w4.heap.size w2.heap.size NA nc w4 (by omega) (by omega) (Nat.le_refl _) cB hNI) kw_t (kw_b (Nat.le_refl _)) (Below.refl _ _) (fun _ => rfl)
    (fun (pre : List K256) W => (∃ x y, Boxed W w2.heap.size 43 (.complex .f64 x y) ∧ Rep x (dsum pre) ∧ Rep y (pre.length : Int)) ∧ KBs w4.heap.size w2.heap.size w4 W)
    (fun _ _ _ => False)
    ?hI (fun _ _ _ _ _ hs _ _ => hs)
    ⟨⟨_, _, bO4, by exact rep_zero, by exact rep_zero⟩, kbs_refl _ _ _⟩
    (fun x => { tmps := #[.agg #[.slice NA nn nc, .slice FA mm mc], .pointer (some ⟨w.heap.size, 0, none⟩), .complex .f64 0 0, .int .i64 0, .int .i64 0, .pointer (some ⟨w2.heap.size, 0, none⟩), .int .i64 x.1, undef, undef, .agg #[.slice NA nn nc, .slice FA mm mc], .int .i64 0, .int .i64 0, .bool false, undef, .agg #[.slice NA nn nc, .slice FA mm mc], .func (.func 62) #[] #[.pointer (some ⟨w2.heap.size + 1, 0, none⟩)], .int .i64 x.1, undef, undef, undef, undef, undef, undef, undef, undef, undef, undef, undef, undef, undef, undef, undef, undef, undef, undef, undef], defers := [] })
    ?assign ?body ?done ?stop
  case hI =>
    exact OwnFrom.and (fun s X Y row ⟨u, v, hv, h⟩ hg hr => ⟨u, v, boxed_own (β := Unit) w2.heap.size 43 (fun _ => .complex .f64 u v) () X Y row hv hg (fun r e => (hr r e).2), h⟩) (ownFrom_kbs (Nat.le_refl _) (Nat.le_refl _))
  case assign =>
    intro l x W K hK
    dsimp only [encI]
    gi_wp2
    exact hK
  case body =>
    rintro lp pre x W ⟨⟨u, v, hv, hr1, hr2⟩, hK⟩ hlt
    have hc := hv.cell
    have hf := hv.frozen
    obtain ⟨q, h0, h256⟩ := x
    obtain ⟨k, rfl⟩ : ∃ k : Nat, q = (k : Int) := ⟨q.toNat, by omega⟩
    obtain ⟨d, hd⟩ : ∃ d, d = dirW ⟨(k : Int), h0, h256⟩ := ⟨_, rfl⟩
    have hdv : d = max (((k + 16 - 1) / 16 : Nat) : Int) 1 := by
      rw [hd]
      show max (((((k : Int).toNat + 16 - 1) / 16 : Nat)) : Int) 1 = _
      rw [Int.toNat_natCast]
    have hdb := dirW_bd ⟨(k : Int), h0, h256⟩
    rw [← hd] at hdb
    have hsb := dsum_bd pre
    have hln : pre.length < 258 := by
      have h2 : (fillsL ns).length ≤ nn + 1 := by
        unfold fillsL
        rw [List.length_cons, List.length_map]
        have := List.length_filter_le isDir ns
        have := NN.out
        omega
      omega
    obtain ⟨u', v', ru, rv, hadd⟩ := cadd hr1 hr2 (rep_fl (n := d) (by omega)) rep_one (by omega) (by omega)
    have P48 : CallsIn (Fence.wide.inRound lp) (n - 1 - 1 - 1) Try.prog 48 #[.int .i64 (k : Int)] W.drew fun e w' => e = .returned (.complex .f64 (fl d) 4607182418800017408) ∧ W.drew = w' :=
      CallsIn.inRound lp (callsIn_wide.2 (by have := dirw_any k (by omega) W.drew; rw [← hdv] at this; exact this))
    have h1m : 1 ≤ n - 1 - 1 := by omega
    have hcd : W.drew.cell? ⟨w2.heap.size, 0, none⟩ = some (.complex .f64 u v) := hc
    have hfd : W.drew.frozen? ⟨w2.heap.size, 0, none⟩ = false := hf
    gi_wp2
    refine wpIn_region_any (by kernel_rfl) ?_
    refine table_in (own := ownOf _ 4) (vals := fun i => match i with | 0 => .complex .f64 u v | 1 => .int .i64 (k : Int) | 2 => .complex .f64 (fl d) 4607182418800017408 | _ => .complex .f64 u' v') 4 W.drew (ac_of (by kernel_rfl)) (dst_of (by kernel_rfl)) ?hop ?hall ?hl _ _ _ rfl ?hcl rfl (of_decide_eq_true (by kernel_rfl)) (tabd_start ?hst)
    case hop =>
      intro i oi a listed hoi hil hdeps ht
      have hi7 : i < 5 := (Array.getElem?_eq_some_iff.1 hoi).1
      obtain rfl | rfl | rfl | rfl : i = 0 ∨ i = 1 ∨ i = 2 ∨ i = 3 := by omega
      · obtain rfl := Option.some.inj hoi
        exact ⟨rfl, fun K hk => wpIn_value (fun c h => by cases h) rfl (load55 (.tmp 5) rfl ((tabd_old ht (of_decide_eq_true (by kernel_rfl)) (by kernel_rfl)).trans rfl) hcd) hk⟩
      · obtain rfl := Option.some.inj hoi
        exact ⟨rfl, fun K hk => wpIn_value (fun c h => by cases h) rfl (move_op (.tmp 6) rfl ((tabd_old ht (of_decide_eq_true (by kernel_rfl)) (by kernel_rfl)).trans rfl)) hk⟩
      · obtain rfl := Option.some.inj hoi
        have d1 := hdeps ⟨1, .data⟩ (by simp) rfl
        have v1 := tabd_at ht (t := 18) (of_decide_eq_true (by kernel_rfl)) (by kernel_rfl) d1
        exact ⟨rfl, fun K' hk => wpIn_call (fun c h => by cases h) (fun f hf => trivial) (call48 (.tmp 18) rfl rfl v1) h1m P48 hk⟩
      · obtain rfl := Option.some.inj hoi
        have d1 := hdeps ⟨0, .data⟩ (by simp) rfl
        have d2 := hdeps ⟨2, .data⟩ (by simp) rfl
        have v1 := tabd_at ht (t := 17) (of_decide_eq_true (by kernel_rfl)) (by kernel_rfl) d1
        have v2 := tabd_at ht (t := 19) (of_decide_eq_true (by kernel_rfl)) (by kernel_rfl) d2
        exact ⟨rfl, fun K hk => wpIn_value (fun c h => by cases h) rfl (add55 (.tmp 17) (.tmp 19) rfl v1 v2 hadd) hk⟩
    case hall =>
      intro listed hcl hlast i hi hne
      have e3 := hlast _ rfl ⟨3, .data⟩ (by simp) rfl
      have e0 := hcl 3 _ rfl e3 ⟨0, .data⟩ (by simp) rfl
      have e2 := hcl 3 _ rfl e3 ⟨2, .data⟩ (by simp) rfl
      have e1 := hcl 2 _ rfl e2 ⟨1, .data⟩ (by simp) rfl
      have hi7 : i < 5 := hi
      obtain rfl | rfl | rfl | rfl : i = 0 ∨ i = 1 ∨ i = 2 ∨ i = 3 := by omega
      all_goals assumption
    case hcl =>
      intro i oi _ hi
      rw [rep_false] at hi
      cases hi
    case hst => exact fun i => rep_false _ i
    case hl =>
      intro a listed hall ht K hk
      have v1 := (tabd_old ht (t := 5) (of_decide_eq_true (by kernel_rfl)) (by kernel_rfl)).trans rfl
      have v2 := tabd_at ht (t := 20) (of_decide_eq_true (by kernel_rfl)) (by kernel_rfl) (hall 3 (of_decide_eq_true (by kernel_rfl)) (by decide))
      refine (show Oper.wpIn _ _ _ _ _ _ _ _ from wpIn_skip' (fun c h => by cases h) rfl (store55 (.tmp 5) (.tmp 20) rfl v1 v2 hcd hfd) (hk _ _ ?_))
      exact ⟨(KeepsOthers.drew W).trans (KeepsOthers.setCell _ _ _), ⟨fun i _ h2 => (set_grown W w2.heap.size _).block i (by have := hK.size; omega) (fun e => h2 (by cases e; rfl)), (show KeepsWalks W W.drew from ⟨Nat.le_refl _, fun _ _ h _ => h⟩).trans (KeepsWalks.setCell W.drew ⟨w2.heap.size, 0, none⟩ (.complex .f64 u' v'))⟩,
        ⟨⟨u', v', hv.set _, by rw [dsum_snoc, ← hd]; exact ru, by rw [List.length_append]; exact rv⟩, kbs_grown hK (set_grown W _ _) (Nat.le_refl _) (fun r e => by cases e; exact .inr rfl)⟩⟩
  case done =>
    rintro D ys W hD rfl ⟨⟨u, v, hv, hr1, hr2⟩, hK⟩ hKD
    have x1 : W.cell? ⟨w.heap.size, 1, none⟩ = some (.slice FA mm mc) := (kbs_cell hK (p := ⟨w.heap.size, 1, none⟩) (by show w.heap.size < _; omega) (by show w.heap.size ≠ _; omega)).trans (lies_cell L04h.out 1)
    have HV := Lib.hid hv
    have HR1 := Lib.hid hr1
    have HR2 := Lib.hid hr2
    have HK := Lib.hid hK
    have HKD := Lib.hid hKD
    have HD2 := Lib.hid hD
    have FSB := Lib.hid (show ∀ j, j < mm → 0 ≤ fsum (fs.take j) ∧ fsum (fs.take j) ≤ 20 * j ∧ (fillsL ns).length ≤ nn + 1 from fun j hj => by
      have h1 := fsum_bd (fs.take j) (fun x hx => HD.out x (List.mem_of_mem_take hx))
      rw [List.length_take] at h1
      have h2 : (fillsL ns).length ≤ nn + 1 := by
        unfold fillsL
        rw [List.length_cons, List.length_map]
        have := List.length_filter_le isDir ns
        have := NN.out
        omega
      omega)
    clear hv hr1 hr2 hK hKD
    gi_wp2
    gi_loopw [24] (fun v24 wr => ∃ j : Nat, j ≤ mm ∧ v24 = .int .i64 (j : Int) ∧ (∃ x y, Boxed wr w2.heap.size 43 (.complex .f64 x y) ∧ Rep x (dsum (fillsL ns) + fsum (fs.take j)) ∧ Rep y ((fillsL ns).length + (j : Int))) ∧ KBs W.heap.size w2.heap.size W wr) (fun v24 _ => mm - (intOf v24).toNat)
    case atStart => exact ⟨0, Nat.zero_le _, rfl, ⟨u, v, HV.out, by simpa [fsum] using HR1.out, by simpa using HR2.out⟩, kbs_refl _ _ _⟩
    case round =>
      obtain ⟨j, hj, rfl, ⟨u1, v1, hvr, hs1, hs2⟩, hKr⟩ := hrel
      have HVR := Lib.hid hvr
      have HS1 := Lib.hid hs1
      have HS2 := Lib.hid hs2
      have HKR := Lib.hid hKr
      have hzW : w4.heap.size ≤ W.heap.size := HK.out.size
      have HZW := Lib.hid hzW
      clear x1 hvr hs1 hs2 hKr hzW
      by_cases hlt : j < mm
      · have li : (j : Int) < (mm : Int) := by omega
        have lf : j < fs.length := by have := MM.out; omega
        obtain ⟨b, o, DA, dc, eA, hbw, e1, e2, e3⟩ := HF.out j lf
        subst eA
        have hb4 : b < w4.heap.size := by omega
        have hbne : b ≠ w2.heap.size := by omega
        have d1 := (kbs_cell HKR.out (p := ⟨b, o + j * 2, none⟩) (by have := HZW.out; show b < _; omega) hbne).trans ((kbs_cell HK.out (p := ⟨b, o + j * 2, none⟩) hb4 hbne).trans ((B04.out.cell (p := ⟨b, o + j * 2, none⟩) hbw).trans e1))
        have d2 := (kbs_cell HKR.out (p := ⟨b, o + j * 2 + 1, none⟩) (by have := HZW.out; show b < _; omega) hbne).trans ((kbs_cell HK.out (p := ⟨b, o + j * 2 + 1, none⟩) hb4 hbne).trans ((B04.out.cell (p := ⟨b, o + j * 2 + 1, none⟩) hbw).trans e2))
        have hdl := HD.out fs[j] (List.getElem_mem _)
        have FS := Lib.hid (show fsum (fs.take (j + 1)) = fsum (fs.take j) + fileW fs[j].data.length by
          unfold fsum
          rw [List.take_succ_eq_append_getElem lf, List.map_append, List.sum_append]
          simp)
        clear e1 e2 e3
        generalize fs[j] = x at *
        obtain ⟨md, dt⟩ := x
        obtain ⟨N, hN⟩ : ∃ N, N = dt.length := ⟨_, rfl⟩
        have FS2 := Lib.hid (show fsum (fs.take (j + 1)) = fsum (fs.take j) + fileW N by rw [hN]; exact FS.out)
        have d2 : wr.cell? ⟨b, o + j * 2 + 1, none⟩ = some (.slice DA N dc) := by rw [hN]; exact d2
        have hdN : N ≤ 8192 := by rw [hN]; exact hdl
        clear FS hdl hN
        have LM := Lib.hid (show wr.rangeAt b (o + j * 2) [.int .i64 md, .slice DA N dc] from fun j v hj => by
          match j, hj with
          | 0, hj => injection hj with hj; subst hj; exact d1
          | 1, hj => injection hj with hj; subst hj; exact d2
          | j + 2, hj => simp at hj)
        have LN := Lib.hid (lies_new wr 49 #[.int .i64 0, .slice none 0 0])
        have ES := Lib.hid (setRow_alloc wr 49 #[.int .i64 0, .slice none 0 0] #[.int .i64 md, .slice DA N dc])
        have x1 : (wr.alloc (.cells #[.int .i64 md, .slice DA N dc] 49)).cell? ⟨wr.heap.size, 1, none⟩ = some (.slice DA N dc) := lies_cell (lies_new wr 49 _) 1
        clear d1 d2
        gi_upto_region 11 with (first
          | (refine wpListIn_load_mid rfl 49 _ rfl b (o + j * 2) rfl [.int .i64 md, .slice DA N dc] _ LM.out Try.underlying49 rfl (by kernel_rfl) ?_)
          | (refine wpListIn_store_row rfl 49 _ _ rfl wr.heap.size #[.int .i64 md, .slice DA N dc] rfl rfl 49 _ LN.out (by kernel_rfl) rfl (by simp [Value.oneCell']) ?_; rw [ES.out]))
        obtain ⟨z, hzf⟩ : ∃ z : Int, z = fileW N := ⟨_, rfl⟩
        have hzb := fileW_bd N hdN
        rw [← hzf] at hzb
        have hsb := dsum_bd (fillsL ns)
        have hfb := FSB.out j hlt
        obtain ⟨u', v', ru, rv, hadd⟩ := cadd HS1.out HS2.out (rep_fl (n := z) (by omega)) rep_one (by omega) (by omega)
        have bX := Lib.hid (HVR.out.alloc (.cells #[.int .i64 md, .slice DA N dc] 49))
        have kX := Lib.hid (kbs_grown HKR.out (World.grownBy_alloc wr (.cells #[.int .i64 md, .slice DA N dc] 49) none) (Nat.le_refl _) (fun r e => by cases e))
        have zX : (wr.alloc (.cells #[.int .i64 md, .slice DA N dc] 49)).heap.size = wr.heap.size + 1 := by simp
        obtain ⟨WX, hWX⟩ : ∃ WX, WX = wr.alloc (.cells #[.int .i64 md, .slice DA N dc] 49) := ⟨_, rfl⟩
        rw [← hWX] at bX kX zX x1 ⊢
        have X1 := Lib.hid x1
        have ZX := Lib.hid zX
        clear hWX zX
        have hcd : WX.drew.cell? ⟨w2.heap.size, 0, none⟩ = some (.complex .f64 u1 v1) := bX.out.cell
        have hfd : WX.drew.frozen? ⟨w2.heap.size, 0, none⟩ = false := bX.out.frozen
        have hxd : WX.drew.cell? ⟨wr.heap.size, 1, none⟩ = some (.slice DA N dc) := X1.out
        have P49 : CallsIn Fence.wide (n - 1) Try.prog 49 #[.int .i64 (N : Int)] WX.drew fun e w' => e = .returned (.complex .f64 (fl z) 4607182418800017408) ∧ WX.drew = w' :=
          callsIn_wide.2 (by have := filew_any N (by omega) WX.drew; rw [hzf]; exact this)
        refine wpIn_region_any (by kernel_rfl) ?_
        refine table_in (own := ownOf _ 6) (vals := fun i => match i with | 0 => .complex .f64 u1 v1 | 1 => .pointer (some ⟨wr.heap.size, 1, none⟩) | 2 => .slice DA N dc | 3 => .int .i64 (N : Int) | 4 => .complex .f64 (fl z) 4607182418800017408 | _ => .complex .f64 u' v') 6 WX.drew (ac_of (by kernel_rfl)) (dst_of (by kernel_rfl)) ?hop ?hall ?hl _ _ _ rfl ?hcl rfl (of_decide_eq_true (by kernel_rfl)) (tabd_start ?hst)
        case hop =>
          intro i oi a listed hoi hil hdeps ht
          have hi7 : i < 7 := (Array.getElem?_eq_some_iff.1 hoi).1
          obtain rfl | rfl | rfl | rfl | rfl | rfl : i = 0 ∨ i = 1 ∨ i = 2 ∨ i = 3 ∨ i = 4 ∨ i = 5 := by omega
          · obtain rfl := Option.some.inj hoi
            exact ⟨rfl, fun K hk => wpIn_value (fun c h => by cases h) rfl (load55 (.tmp 5) rfl ((tabd_old ht (of_decide_eq_true (by kernel_rfl)) (by kernel_rfl)).trans rfl) hcd) hk⟩
          · obtain rfl := Option.some.inj hoi
            exact ⟨rfl, fun K hk => wpIn_value (fun c h => by cases h) rfl (field49 (.tmp 8) rfl ((tabd_old ht (of_decide_eq_true (by kernel_rfl)) (by kernel_rfl)).trans rfl)) hk⟩
          · obtain rfl := Option.some.inj hoi
            have d1 := hdeps ⟨1, .data⟩ (by simp) rfl
            have v1 := tabd_at ht (t := 29) (of_decide_eq_true (by kernel_rfl)) (by kernel_rfl) d1
            exact ⟨rfl, fun K hk => wpIn_value (fun c h => by cases h) rfl (load42 (.tmp 29) rfl v1 hxd) hk⟩
          · obtain rfl := Option.some.inj hoi
            have d1 := hdeps ⟨2, .data⟩ (by simp) rfl
            have v1 := tabd_at ht (t := 30) (of_decide_eq_true (by kernel_rfl)) (by kernel_rfl) d1
            exact ⟨rfl, fun K hk => wpIn_value (fun c h => by cases h) rfl (len42 (.tmp 30) rfl v1) hk⟩
          · obtain rfl := Option.some.inj hoi
            have d1 := hdeps ⟨3, .data⟩ (by simp) rfl
            have v1 := tabd_at ht (t := 31) (of_decide_eq_true (by kernel_rfl)) (by kernel_rfl) d1
            exact ⟨rfl, fun K' hk => wpIn_call (fun c h => by cases h) (fun f hf => trivial) (call49 (.tmp 31) rfl rfl v1) h1 P49 hk⟩
          · obtain rfl := Option.some.inj hoi
            have d1 := hdeps ⟨0, .data⟩ (by simp) rfl
            have d2 := hdeps ⟨4, .data⟩ (by simp) rfl
            have v1 := tabd_at ht (t := 28) (of_decide_eq_true (by kernel_rfl)) (by kernel_rfl) d1
            have v2 := tabd_at ht (t := 32) (of_decide_eq_true (by kernel_rfl)) (by kernel_rfl) d2
            exact ⟨rfl, fun K hk => wpIn_value (fun c h => by cases h) rfl (add55 (.tmp 28) (.tmp 32) rfl v1 v2 hadd) hk⟩
        case hall =>
          intro listed hcl hlast i hi hne
          have e5 := hlast _ rfl ⟨5, .data⟩ (by simp) rfl
          have e0 := hcl 5 _ rfl e5 ⟨0, .data⟩ (by simp) rfl
          have e4 := hcl 5 _ rfl e5 ⟨4, .data⟩ (by simp) rfl
          have e3 := hcl 4 _ rfl e4 ⟨3, .data⟩ (by simp) rfl
          have e2 := hcl 3 _ rfl e3 ⟨2, .data⟩ (by simp) rfl
          have e1 := hcl 2 _ rfl e2 ⟨1, .data⟩ (by simp) rfl
          have hi7 : i < 7 := hi
          obtain rfl | rfl | rfl | rfl | rfl | rfl : i = 0 ∨ i = 1 ∨ i = 2 ∨ i = 3 ∨ i = 4 ∨ i = 5 := by omega
          all_goals assumption
        case hcl =>
          intro i oi _ hi
          rw [rep_false] at hi
          cases hi
        case hst => exact fun i => rep_false _ i
        case hl =>
          intro a listed hall ht K hk
          have va := (tabd_old ht (t := 5) (of_decide_eq_true (by kernel_rfl)) (by kernel_rfl)).trans rfl
          have vb := tabd_at ht (t := 33) (of_decide_eq_true (by kernel_rfl)) (by kernel_rfl) (hall 5 (of_decide_eq_true (by kernel_rfl)) (by decide))
          refine (show Oper.wpIn _ _ _ _ _ _ _ _ from wpIn_skip' (fun c h => by cases h) rfl (store55 (.tmp 5) (.tmp 33) rfl va vb hcd hfd) (hk _ _ ?_))
          have eF := tabd_fill ht (fun t i ho => by
            have hs := own_spec ho
            have hi7 : i < 7 := by
              rcases Nat.lt_or_ge i 7 with h | h
              · exact h
              · rw [Array.getElem?_eq_none h] at hs; cases hs
            have hi6 : i ≠ 6 := by rintro rfl; cases hs
            exact hall i hi7 hi6)
          change Exit.inBlock _ _ Exit.normal (a.put none undef) _
          rw [show a.put none undef = _ from eF]
          change Exit.inBlock _ _ Exit.normal { tmps := #[.agg #[.slice NA nn nc, .slice (some ⟨b, o, none⟩) mm mc], .pointer (some ⟨w.heap.size, 0, none⟩), .complex .f64 0 0, .int .i64 0, .int .i64 0, .pointer (some ⟨w2.heap.size, 0, none⟩), undef, undef, .pointer (some ⟨wr.heap.size, 0, none⟩), .agg #[.slice NA nn nc, .slice (some ⟨b, o, none⟩) mm mc], .int .i64 0, .int .i64 0, .bool false, undef, .agg #[.slice NA nn nc, .slice (some ⟨b, o, none⟩) mm mc], .func (.func 62) #[] #[.pointer (some ⟨w2.heap.size + 1, 0, none⟩)], undef, undef, undef, undef, undef, .pointer (some ⟨w.heap.size, 1, none⟩), .slice (some ⟨b, o, none⟩) mm mc, .int .i64 (mm : Int), .int .i64 (j : Int), .bool true, .pointer (some ⟨b, o + j * 2, none⟩), .agg #[.int .i64 md, .slice DA N dc], .complex .f64 u1 v1, .pointer (some ⟨wr.heap.size, 1, none⟩), .slice DA N dc, .int .i64 (N : Int), .complex .f64 (fl z) 4607182418800017408, .complex .f64 u' v', u34, undef], defers := [{ target := .collected D, args := #[] }] } _
          clear eF ht va vb hall P49 hcd hfd hxd x1
          gi_wp2
          go_roundw
          case rel =>
            refine ⟨j + 1, by omega, by go_num, ⟨u', v', (show Boxed (WX.setCell ⟨w2.heap.size, 0, none⟩ (.complex .f64 u' v')) w2.heap.size 43 (.complex .f64 u' v') from bX.out.set _), ?_, ?_⟩, (show KBs W.heap.size w2.heap.size W (WX.drew.setCell ⟨w2.heap.size, 0, none⟩ (.complex .f64 u' v')) from kbs_grown kX.out (set_grown WX w2.heap.size _) (Nat.le_refl _) (fun r e => by cases e; exact .inr rfl))⟩
            · rw [FS2.out, ← hzf, ← Int.add_assoc]
              exact ru
            · rw [Int.natCast_add, ← Int.add_assoc]
              exact rv
          case measure => first | (simp [intOf]; done) | (simp [intOf]; omega)
      · have lj : ¬ (j : Int) < (mm : Int) := by omega
        have hc := HVR.out.cell
        have ej : fs.take j = fs := List.take_of_length_le (by have := MM.out; omega)
        have em : (j : Int) = fs.length := by have := MM.out; omega
        have EJ := Lib.hid ej
        have EM := Lib.hid em
        clear ej em
        gi_wp2
        have hKD' : wr.heap[D]? = some (.deferred (some [])) := (HKR.out.block D (by have := HKD.out; exact (Array.getElem?_eq_some_iff.1 this).1) (by have := HD2.out; omega)).trans HKD.out
        refine ⟨by simp, .inl ⟨_, _, rfl, run_takeDeferred hKD', ?_⟩⟩
        refine ⟨.tuple #[.complex .f64 u1 v1, .int .i64 0], ?_, ⟨u1, v1, rfl, ?_, ?_⟩, ?_⟩
        · simp [results, Try.f24, go_sem]
        · have := HS1.out
          rw [EJ.out] at this
          exact this
        · have := HS2.out
          rw [EM.out] at this
          exact this
        · refine Below.trans (b := wr) ?_ (belowK_b (w := w) (Nat.le_refl _) wr D _ _ (by have := HD2.out; omega) hKD' rfl rfl)
          have hk := HK.out
          have hr := HKR.out
          refine ⟨(hr.os.trans hk.os).trans B04.out.os, (hr.tape.trans hk.tape).trans B04.out.tape, (hr.output.trans hk.output).trans B04.out.output, Nat.le_trans B04.out.size (Nat.le_trans hk.size hr.size), fun i hi => ?_⟩
          exact (hr.block i (by have := HZW.out; omega) (by omega)).trans ((hk.block i (by omega) (by omega)).trans (B04.out.block i hi))
  case stop =>
    rintro D c pre W _ _ h _
    exact h.elim
end Go.Proofs.Ytdnagkgblmcojaa
