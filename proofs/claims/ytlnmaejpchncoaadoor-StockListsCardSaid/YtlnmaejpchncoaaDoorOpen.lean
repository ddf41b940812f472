/-
What is proved here: a region whose order is open, operation by operation, each written by its number: moves of a walk. Of whatever program.
-/
import Derived.RegionTactic
import Derived.Deep.MidRow
import Derived.WalkKit
namespace Go.Word

section
variable {P : Program} {md : Region.Mode} {ops : Array Oper} {Q : Exit → Act → World → Prop} {fuel : Nat} {listed : Array Bool} {a : Act} {w : World}

theorem open_take (i : Nat) (d : Option Tmp) (v : Value) {oi : Oper} (hi : ops[i]? = some oi) (hd : oi.dst = d) (hs : Region.noSelect ops = true) (hf : Region.free md ops listed i = true) (hr : (Region.ready md ops listed).contains i = true)
    (hQ : ∀ c a w, Q (.panic c) (a.put oi.dst v) w → Q (.panic c) a w) (hy : Yields P ops oi v a)
    (h : wpAny P md ops Q fuel (listed.setIfInBounds i true) (a.put d v) w) : wpAny P md ops Q (fuel + 1) listed a w :=
  wpAny_take hi hs hf hr hQ hy (by rw [hd]; exact h)

theorem open_value {i : Nat} {rs : List Nat} (d : Option Tmp) (v : Value) {oi : Oper} (hi : ops[i]? = some oi) (hd : oi.dst = d) (hg : oi.guard = none) (hr : (execOp a.eval oi).run P w = .ok (.value v) w)
    (h : wpAny P md ops Q fuel (listed.setIfInBounds i true) (a.put d v) w) (hs : AllReady P md ops Q fuel listed a w rs) : AllReady P md ops Q fuel listed a w (i :: rs) :=
  AllReady.cons hi (fun K hK => by
    rw [if_pos (by simp [Region.wanted, hg])]
    unfold Oper.wp
    rw [hr]
    show K (a.put oi.dst v) w
    rw [hd]
    exact hK _ _ h) hs

theorem open_load {i : Nat} {rs : List Nat} (d : Option Tmp) {oi : Oper} (hi : ops[i]? = some oi) (hd : oi.dst = d) (hg : oi.guard = none) (ty : TypeId) (x : Operand) (ho : oi.op = .load ty x)
    (b off : Nat) (hx : a.eval x = .pointer (some ⟨b, off, none⟩)) (cs : List Value) (dt : TypeDesc) (hc : w.rangeAt b off cs) (hu : P.underlying ty = some dt) (hdt : dt.isRow = true) (hz : (P.info? ty).map (·.size) = some cs.length)
    (h : wpAny P md ops Q fuel (listed.setIfInBounds i true) (a.put d (.agg cs.toArray)) w) (hs : AllReady P md ops Q fuel listed a w rs) : AllReady P md ops Q fuel listed a w (i :: rs) :=
  open_value d _ hi hd hg (by
    unfold execOp
    simp only [ho, hx, Instr.loadAt, Instr.sureAddr, Sem.run_bind, Sem.run_pure, Result.andThen_ok, run_loadVar_mid w b off ty cs dt hc hu hdt hz]) h hs

theorem open_store {i : Nat} {rs : List Nat} {oi : Oper} (hi : ops[i]? = some oi) (hd : oi.dst = none) (hg : oi.guard = none) (ty : TypeId) (x y : Operand) (ho : oi.op = .store ty x y)
    (b off : Nat) (cells : Array Value) (hx : a.eval x = .pointer (some ⟨b, off, none⟩)) (hy : a.eval y = .agg cells)
    (ht : w.there b off cells.size) (hz : (P.info? ty).map (·.size) = some cells.size) (h1 : cells.all (·.oneCell') = true)
    (h : wpAny P md ops Q fuel (listed.setIfInBounds i true) a (w.setCells b off cells.toList)) (hs : AllReady P md ops Q fuel listed a w rs) : AllReady P md ops Q fuel listed a w (i :: rs) :=
  AllReady.cons hi (fun K hK => by
    rw [if_pos (by simp [Region.wanted, hg])]
    refine wp_store_mid ty x y ho b off cells hx hy ht hz h1 ?_
    rw [hd]
    exact hK _ _ h) hs

theorem open_call {i : Nat} {rs : List Nat} (d : Option Tmp) (v : Value) (R : World → Prop) {oi : Oper} (hi : ops[i]? = some oi) (hd : oi.dst = d) (hg : oi.guard = none) (f : FuncId) (args : Array Value)
    (hr : (execOp a.eval oi).run P w = .ok (.enter f args) w) (hc : Calls P f args w fun e w' => e = .returned v ∧ R w')
    (h : ∀ w', R w' → wpAny P md ops Q fuel (listed.setIfInBounds i true) (a.put d v) w') (hs : AllReady P md ops Q fuel listed a w rs) : AllReady P md ops Q fuel listed a w (i :: rs) :=
  AllReady.cons hi (fun K hK => by
    rw [if_pos (by simp [Region.wanted, hg])]
    unfold Oper.wp
    rw [hr]
    refine hc.mono ?_
    rintro e w' ⟨rfl, hR⟩
    show K (a.put oi.dst v) w'
    rw [hd]
    exact hK _ _ (h _ hR)) hs
end
end Go.Word
