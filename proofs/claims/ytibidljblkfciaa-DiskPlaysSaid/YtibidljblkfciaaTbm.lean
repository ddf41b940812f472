/-
What is proved here: the checks that a region of fixed values wants, by looking at its text; single operations in a round; a copy.
-/
import Derived.Test.YtibidljblkfciaaTbl
import Derived.Test.YtibidljblkfciaaHold
import Derived.Laws.CopyRow
set_option linter.unusedSimpArgs false
namespace Go.Word

def ownOf (ops : Array Oper) (last : Nat) (t : Nat) : Option Nat := (List.range ops.size).find? fun i => i != last && ((ops[i]?).bind (·.dst) == some t)
def dstOk (ops : Array Oper) (last m : Nat) : Bool := (List.range ops.size).all fun i => i == last || (match (ops[i]?).bind (·.dst) with | some d => decide (d < m) && (ownOf ops last d == some i) | none => false)
def acOk (ops : Array Oper) : Bool := (List.range ops.size).all fun i => match ops[i]? with | some o => o.after.all fun e => decide (e.on < i) | none => true
theorem own_spec {ops : Array Oper} {last t i : Nat} (h : ownOf ops last t = some i) : (ops[i]?).bind (·.dst) = some t := by
  have := List.find?_some h
  simp only [Bool.and_eq_true, beq_iff_eq] at this
  exact this.2
theorem dst_of {ops : Array Oper} {last m : Nat} (h : dstOk ops last m = true) (i : Nat) (oi : Oper) (hi : ops[i]? = some oi) (hl : i ≠ last) : ∃ d, oi.dst = some d ∧ d < m ∧ ownOf ops last d = some i ∧ ∀ t, ownOf ops last t = some i → t = d := by
  have hlt : i < ops.size := (Array.getElem?_eq_some_iff.1 hi).1
  have := List.all_eq_true.1 h i (List.mem_range.2 hlt)
  rw [hi] at this
  simp only [Option.bind_some, Bool.or_eq_true, beq_iff_eq] at this
  rcases this with e | e
  · exact absurd e hl
  · cases hd : oi.dst with
    | none => rw [hd] at e; cases e
    | some d =>
      rw [hd] at e
      simp only [Bool.and_eq_true, decide_eq_true_eq, beq_iff_eq] at e
      refine ⟨d, rfl, e.1, e.2, fun t ht => ?_⟩
      have e2 := own_spec ht
      rw [hi, Option.bind_some, hd] at e2
      injection e2 with e2
      exact e2.symm
theorem ac_of {ops : Array Oper} (h : acOk ops = true) (i : Nat) (oi : Oper) (hi : ops[i]? = some oi) : ∀ e ∈ oi.after, e.on < i := fun e he => by
  have hlt : i < ops.size := (Array.getElem?_eq_some_iff.1 hi).1
  have := List.all_eq_true.1 h i (List.mem_range.2 hlt)
  rw [hi] at this
  simp only [Array.all_eq_true_iff_forall_mem, decide_eq_true_eq] at this
  exact this e he
section
variable {F : Fence} {n : Nat} {P : Program} {Q : Exit → Act → World → Prop} {a : Act} {w : World} {K : Act → World → Prop} {oi : Oper}
theorem wpIn_value {v : Value} (hnd : ∀ c, oi.op ≠ .defer c) (hab : oi.about P w a.eval = none) (hr : (execOp a.eval oi).run P w = .ok (.value v) w) (h : K (a.put oi.dst v) w) : Oper.wpIn F n P oi a w K Q :=
  ⟨fun f hf => (by rw [hab] at hf; cases hf), by rw [Oper.semAt_eq _ _ _ hnd, hr]; exact h⟩
theorem wpIn_turn {v : Value} {w' : World} (hnd : ∀ c, oi.op ≠ .defer c) (hab : ∀ f, oi.about P w a.eval = some f → F.fn f) (hr : (execOp a.eval oi).run P w = .ok (.value v) w') (h : K (a.put oi.dst v) w') : Oper.wpIn F n P oi a w K Q :=
  ⟨hab, by rw [Oper.semAt_eq _ _ _ hnd, hr]; exact h⟩
theorem wpIn_call {v : Value} {f : FuncId} {args : Array Value} (hnd : ∀ c, oi.op ≠ .defer c) (hab : ∀ f, oi.about P w a.eval = some f → F.fn f) (hr : (execOp a.eval oi).run P w = .ok (.enter f args) w) (hn : 1 ≤ n) (hc : CallsIn F (n - 1) P f args w fun e w' => e = .returned v ∧ w = w') (h : K (a.put oi.dst v) w) : Oper.wpIn F n P oi a w K Q :=
  ⟨hab, by
    rw [Oper.semAt_eq _ _ _ hnd, hr]
    refine ⟨fun _ => hn, hc.mono ?_⟩
    rintro e w' ⟨rfl, rfl⟩
    exact h⟩
end
end Go.Word
namespace Go.Proofs.Ytibidljblkfciaa
open Go.Word Go.RowKit
theorem load25 {ρ : Operand → Value} {oi : Oper} {w : World} {b : Nat} {p : Option Addr} (x : Operand) (ho : oi.op = .load 25 x) (hx : ρ x = .pointer (some ⟨b, 0, none⟩)) (hc : w.cell? ⟨b, 0, none⟩ = some (.pointer p)) : (execOp ρ oi).run Try.prog w = .ok (.value (.pointer p)) w := by
  unfold execOp
  simp only [ho, hx]
  go_simp
theorem load3 {ρ : Operand → Value} {oi : Oper} {w : World} {b : Nat} {z : Int} (x : Operand) (ho : oi.op = .load 3 x) (hx : ρ x = .pointer (some ⟨b, 0, none⟩)) (hc : w.cell? ⟨b, 0, none⟩ = some (.int .i64 z)) : (execOp ρ oi).run Try.prog w = .ok (.value (.int .i64 z)) w := by
  unfold execOp
  simp only [ho, hx]
  go_simp
theorem load44 {ρ : Operand → Value} {oi : Oper} {w : World} {b o N C : Nat} {A : Option Addr} (x : Operand) (ho : oi.op = .load 44 x) (hx : ρ x = .pointer (some ⟨b, o, none⟩)) (hc : w.cell? ⟨b, o, none⟩ = some (.slice A N C)) : (execOp ρ oi).run Try.prog w = .ok (.value (.slice A N C)) w := by
  unfold execOp
  simp only [ho, hx]
  go_simp
theorem field730 {ρ : Operand → Value} {oi : Oper} {w : World} {b : Nat} (x : Operand) (ho : oi.op = .fieldAddr 73 x 0) (hx : ρ x = .pointer (some ⟨b, 0, none⟩)) : (execOp ρ oi).run Try.prog w = .ok (.value (.pointer (some ⟨b, 0, none⟩))) w := by
  unfold execOp
  simp only [ho, hx]
  go_simp
theorem field731 {ρ : Operand → Value} {oi : Oper} {w : World} {b : Nat} (x : Operand) (ho : oi.op = .fieldAddr 73 x 1) (hx : ρ x = .pointer (some ⟨b, 0, none⟩)) : (execOp ρ oi).run Try.prog w = .ok (.value (.pointer (some ⟨b, 2, none⟩))) w := by
  unfold execOp
  simp only [ho, hx]
  go_simp
theorem field710 {ρ : Operand → Value} {oi : Oper} {w : World} {b : Nat} (x : Operand) (ho : oi.op = .fieldAddr 71 x 0) (hx : ρ x = .pointer (some ⟨b, 0, none⟩)) : (execOp ρ oi).run Try.prog w = .ok (.value (.pointer (some ⟨b, 0, none⟩))) w := by
  unfold execOp
  simp only [ho, hx]
  go_simp
theorem field711 {ρ : Operand → Value} {oi : Oper} {w : World} {b : Nat} (x : Operand) (ho : oi.op = .fieldAddr 71 x 1) (hx : ρ x = .pointer (some ⟨b, 0, none⟩)) : (execOp ρ oi).run Try.prog w = .ok (.value (.pointer (some ⟨b, 1, none⟩))) w := by
  unfold execOp
  simp only [ho, hx]
  go_simp
theorem copy_op {ρ : Operand → Value} {oi : Oper} {w : World} {B p K c : Nat} {f q : Nat → BitVec 8} (x y : Operand) (ho : oi.op = .call { callee := .builtin .copy, args := #[x, y], argTypes := #[44, 44] }) (hx : ρ x = .slice (some ⟨B, p, none⟩) 512 512) (hy : ρ y = .slice (some ⟨c, 0, none⟩) 512 512)
    (hB : Lies w B 5 (yRow f K)) (hc : Lies w c 5 (yRow q 512)) (hp : p + 512 ≤ K) : (execOp ρ oi).run Try.prog w = .ok (.value (.int .i64 512)) (w.setRow B (yRow (put f p q) K)) := by
  have hl : ((List.range 512).map fun j => Y (q j)).length = 512 := by simp
  have hsrc := src_row hc
  have hrun := run_copy_row (P := Try.prog) w 44 44 oi.type 5 B p 512 512 ⟨c, 0, none⟩ 512 512 (yRow f K) 5 ((List.range 512).map fun j => Y (q j)) Try.underlying44 (by kernel_rfl) hB (by rw [hl]; rfl) (fun j v hv => by
    have hj : j < 512 := by
      rcases Nat.lt_or_ge j 512 with h | h
      · exact h
      · rw [List.getElem?_eq_none (by rw [hl]; exact h)] at hv; cases hv
    have h2 : w.cell? ((⟨c, 0, none⟩ : Addr).add j) = some (Y (q j)) := hsrc j hj
    rw [h2]
    simpa [hj] using hv) (by rw [hl, yRow_size]; exact hp) (y_one _ q)
  rw [hl, List.append_assoc, put_row f q p K hp] at hrun
  unfold execOp
  simp [ho, resolve, invoke, builtin, hx, hy, hrun, Result.andThen]
  rfl
end Go.Proofs.Ytibidljblkfciaa
