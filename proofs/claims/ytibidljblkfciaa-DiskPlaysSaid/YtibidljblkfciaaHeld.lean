/-
What is proved here: moves of a walk through a region whose order is open, under a condition S on the world that holds all along: what yields under S comes first; a call; two calls that may come in either order. Of whatever program.
-/
import Derived.Deep.RegionHeld3
import Derived.Deep.MidRow
import Derived.WalkKit
namespace Go.Word

section
variable {P : Program} {md : Region.Mode} {ops : Array Oper} {Q : Exit → Act → World → Prop} {S : World → Prop} {fuel : Nat} {listed : Array Bool} {a : Act} {w : World}

theorem held_take (i : Nat) (d : Option Tmp) (v : Value) {oi : Oper} (hi : ops[i]? = some oi) (hd : oi.dst = d) (hs : Region.noSelect ops = true) (hf : Region.free md ops listed i = true) (hr : (Region.ready md ops listed).contains i = true)
    (hQ : ∀ c a w, Q (.panic c) (a.put oi.dst v) w → Q (.panic c) a w) (hw : Region.wanted oi (yielded ops a.tmps) = true) (hy : ∀ w, S w → (execOp a.eval oi).run P w = .ok (.value v) w) (hS : S w)
    (h : wpAnyH P md ops Q S fuel (listed.setIfInBounds i true) (a.put d v) w) : wpAnyH P md ops Q S (fuel + 1) listed a w :=
  wpAnyH_take hi hs hf hr hQ (.inl ⟨hw, hy⟩) hS (by rw [hd]; exact h)

theorem load_under {oi : Oper} (ty : TypeId) (x : Operand) (ho : oi.op = .load ty x) (b o : Nat) (hx : a.eval x = .pointer (some ⟨b, o, none⟩)) (cs : List Value) (dt : TypeDesc) (hS : ∀ w, S w → w.rangeAt b o cs)
    (hu : P.underlying ty = some dt) (hdt : dt.isRow = true) (hz : (P.info? ty).map (·.size) = some cs.length) : ∀ w, S w → (execOp a.eval oi).run P w = .ok (.value (.agg cs.toArray)) w := fun w hw => by
  unfold execOp
  simp only [ho, hx, Instr.loadAt, Instr.sureAddr, Sem.run_bind, Sem.run_pure, Result.andThen_ok, run_loadVar_mid w b o ty cs dt (hS w hw) hu hdt hz]

theorem held_one {i : Nat} (d : Option Tmp) (v : Value) {oi : Oper} (hr : Region.ready md ops listed = [i]) (hi : ops[i]? = some oi) (hd : oi.dst = d) (hw : Region.wanted oi (yielded ops a.tmps) = true)
    (hy : (execOp a.eval oi).run P w = .ok (.value v) w) (hS : S w)
    (h : wpAnyH P md ops Q S fuel (listed.setIfInBounds i true) (a.put d v) w) : wpAnyH P md ops Q S (fuel + 1) listed a w :=
  wpAnyH_ready hr (by simp) (AllReadyH.cons hi (fun K hK => by
    rw [if_pos hw]
    unfold Oper.wp
    rw [hy]
    show K (a.put oi.dst v) w
    rw [hd]
    exact hK.out _ _ hS (fun _ => h)) AllReadyH.nil)

theorem held_call {i : Nat} (d : Option Tmp) (v : Value) {oi : Oper} (hr : Region.ready md ops listed = [i]) (hi : ops[i]? = some oi) (hd : oi.dst = d) (hw : Region.wanted oi (yielded ops a.tmps) = true) (f : FuncId) (args : Array Value)
    (hx : (execOp a.eval oi).run P w = .ok (.enter f args) w) (hc : Calls P f args w fun e w' => e = .returned v ∧ S w')
    (h : ∀ w', S w' → wpAnyH P md ops Q S fuel (listed.setIfInBounds i true) (a.put d v) w') : wpAnyH P md ops Q S (fuel + 1) listed a w :=
  wpAnyH_ready hr (by simp) (AllReadyH.cons hi (fun K hK => by
    rw [if_pos hw]
    unfold Oper.wp
    rw [hx]
    refine hc.mono ?_
    rintro e w' ⟨rfl, hS⟩
    show K (a.put oi.dst v) w'
    rw [hd]
    exact hK.out _ _ hS (fun _ => h _ hS)) AllReadyH.nil)

theorem held_two {i j : Nat} (di dj : Option Tmp) (vi vj : Value) {oi oj : Oper} (hr : Region.ready md ops listed = [i, j]) (hri : Region.ready md ops (listed.setIfInBounds i true) = [j]) (hrj : Region.ready md ops (listed.setIfInBounds j true) = [i])
    (hi : ops[i]? = some oi) (hj : ops[j]? = some oj) (hdi : oi.dst = di) (hdj : oj.dst = dj) (hij : j ≠ i) (hne : ∀ d, di = some d → dj ≠ some d)
    (hwi : Region.wanted oi (yielded ops a.tmps) = true) (hwj : Region.wanted oj (yielded ops a.tmps) = true) (hwi' : Region.wanted oi (yielded ops (a.put dj vj).tmps) = true) (hwj' : Region.wanted oj (yielded ops (a.put di vi).tmps) = true)
    (fi fj : FuncId) (ai aj : Array Value)
    (hxi : ∀ w, (execOp a.eval oi).run P w = .ok (.enter fi ai) w) (hxj : ∀ w, (execOp a.eval oj).run P w = .ok (.enter fj aj) w)
    (hxi' : ∀ w, (execOp (a.put dj vj).eval oi).run P w = .ok (.enter fi ai) w) (hxj' : ∀ w, (execOp (a.put di vi).eval oj).run P w = .ok (.enter fj aj) w)
    (hci : ∀ w, S w → Calls P fi ai w fun e w' => e = .returned vi ∧ S w') (hcj : ∀ w, S w → Calls P fj aj w fun e w' => e = .returned vj ∧ S w') (hS : S w)
    (h : ∀ w', S w' → wpAnyH P md ops Q S fuel ((listed.setIfInBounds i true).setIfInBounds j true) ((a.put di vi).put dj vj) w') : wpAnyH P md ops Q S (fuel + 1 + 1) listed a w :=
  wpAnyH_ready hr (by simp) (AllReadyH.cons hi (fun K hK => by
    rw [if_pos hwi]
    unfold Oper.wp
    rw [hxi]
    refine (hci w hS).mono ?_
    rintro e w' ⟨rfl, hS'⟩
    show K (a.put oi.dst vi) w'
    rw [hdi]
    exact hK.out _ _ hS' (fun _ => held_call dj vj hri hj hdj hwj' fj aj (hxj' _) (hcj _ hS') h))
   (AllReadyH.cons hj (fun K hK => by
    rw [if_pos hwj]
    unfold Oper.wp
    rw [hxj]
    refine (hcj w hS).mono ?_
    rintro e w' ⟨rfl, hS'⟩
    show K (a.put oj.dst vj) w'
    rw [hdj]
    exact hK.out _ _ hS' (fun _ => held_call di vi hrj hi hdi hwi' fi ai (hxi' _) (hci _ hS') (fun w' hw' => by
      rw [Array.setIfInBounds_comm _ _ hij, ← Act.put_comm a vi vj hne]
      exact h w' hw'))) AllReadyH.nil))
end
end Go.Word
