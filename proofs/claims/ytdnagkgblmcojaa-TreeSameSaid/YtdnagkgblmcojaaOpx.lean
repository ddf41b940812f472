/-
What is proved here: single operations of a region that draws its order, by the equations of their runs. Of whatever program.
-/
import Derived.Test.YtdnagkgblmcojaaInv
import Derived.Deep.MidRow
set_option linter.unusedSimpArgs false
namespace Go.Word
section
variable {P : Program} {Q : Exit → Act → World → Prop} {a : Act} {w w' : World} {K : Act → World → Prop} {oi : Oper}
theorem wp_val {v : Value} (hr : (execOp a.eval oi).run P w = .ok (.value v) w) (h : K (a.put oi.dst v) w) : Oper.wp P oi a w K Q := by
  unfold Oper.wp
  rw [hr]
  exact h
theorem wp_callI {v : Value} {R : World → Prop} {f : FuncId} {args : Array Value} (hr : (execOp a.eval oi).run P w = .ok (.enter f args) w) (hc : Calls P f args w fun e w2 => e = .returned v ∧ R w2) (h : ∀ w2, R w2 → K (a.put oi.dst v) w2) : Oper.wp P oi a w K Q := by
  unfold Oper.wp
  rw [hr]
  refine hc.mono ?_
  rintro e w2 ⟨rfl, hR⟩
  exact h _ hR
theorem load_op {ρ : Operand → Value} {oi : Oper} {w : World} (ty : TypeId) (x : Operand) (ho : oi.op = .load ty x) (b off : Nat) (hx : ρ x = .pointer (some ⟨b, off, none⟩)) (cs : List Value) (d : TypeDesc) (hc : w.rangeAt b off cs)
    (hu : P.underlying ty = some d) (hd : d.isRow = true) (hi : (P.info? ty).map (·.size) = some cs.length) : (execOp ρ oi).run P w = .ok (.value (.agg cs.toArray)) w := by
  unfold execOp
  simp only [ho, hx, Instr.loadAt, Instr.sureAddr, Sem.run_bind, Sem.run_pure, Result.andThen_ok, run_loadVar_mid w b off ty cs d hc hu hd hi]
end
section
variable {own : Nat → Option Nat} {vals : Nat → Value} {a0 a : Act} {ops : Array Oper} {listed : Array Bool} {oi oj : Oper} {j t : Nat} {b c : Bool}
theorem tabd_wanted (ht : Tabd own vals a0 listed a) (hg : oi.guard = some (j, b)) (hd : (ops[j]?).bind (·.dst) = some t) (hl : t < a0.tmps.size) (ho : own t = some j) (hj : listed.getD j false = true) (hv : vals j = .bool b) : Region.wanted oi (yielded ops a.tmps) = true := by
  have h := ht.2.2 t hl
  rw [ho] at h
  simp only [hj, if_true] at h
  unfold Region.wanted yielded
  rw [hg]
  simp only [hd, Option.bind_some, h, hv]
  simp
theorem tabd_unwanted (ht : Tabd own vals a0 listed a) (hg : oi.guard = some (j, b)) (hd : (ops[j]?).bind (·.dst) = some t) (hl : t < a0.tmps.size) (ho : own t = some j) (hj : listed.getD j false = true) (hv : vals j = .bool c) (hne : c ≠ b) : Region.wanted oi (yielded ops a.tmps) = false := by
  have h := ht.2.2 t hl
  rw [ho] at h
  simp only [hj, if_true] at h
  unfold Region.wanted yielded
  rw [hg]
  simp only [hd, Option.bind_some, h, hv]
  simpa using hne
end
end Go.Word
