/-
What is proved here: the law TreeHeld, by a contract.
-/
import Derived.Test.YtjagddhkoacipaaRcnM
import Derived.Test.YtjagddhkoacipaaFrmM
import Derived.Test.YtjagddhkoacipaaRbM
import Derived.Test.YtjagddhkoacipaaSp2M
import Derived.Test.YtjagddhkoacipaaCanM
import Derived.Test.YtjagddhkoacipaaMa12
import Derived.Test.YtjagddhkoacipaaMa9
import Derived.Test.YtjagddhkoacipaaMa11
import Derived.Test.YtjagddhkoacipaaEfsM
import Derived.StillTailTactics
set_option linter.unusedSimpArgs false
set_option linter.unusedVariables false
namespace Go.Word
theorem wp_callF {P : Program} {Q : Exit → Act → World → Prop} {a : Act} {w : World} {K : Act → World → Prop} {oi : Oper} {R : Value → World → Prop} {f : FuncId} {args : Array Value} (hr : (execOp a.eval oi).run P w = .ok (.enter f args) w) (hc : Calls P f args w fun e w2 => ∃ v, e = .returned v ∧ R v w2) (h : ∀ v w2, R v w2 → K (a.put oi.dst v) w2) : Oper.wp P oi a w K Q := by
  unfold Oper.wp
  rw [hr]
  refine hc.mono ?_
  rintro e w2 ⟨v, rfl, hR⟩
  exact h v w2 hR
end Go.Word
namespace Go.Proofs.Ytjagddhkoacipaa
open Go.Pth Go.Tre Go.RowKit Go.Word Go.Shelf
attribute [local go_sem] guard_eq guard_ne st_eql st_neq
/-- a tree in memory of its own, or none -/
def HasT (w : World) (B : Nat) (vN vF : Value) (z : Int) (ns : List Nd) (fs : List Fl) : Prop := ∃ D us gs, CopyAt w B vN vF D us gs ∧ us = (if z = 0 then ns else []) ∧ gs = (if z = 0 then fs else [])
theorem copy_none (w : World) (B : Nat) : CopyAt w B (.slice none 0 0) (.slice none 0 0) (fun _ => undef) [] [] := ⟨World.ownsRow_nil _ _ _ _, World.ownsRow_nil _ _ _ _, fun i hi => by simp at hi, fun i k _ hk => by simp at hk⟩
theorem canon_small {ns : List Nd} {fs : List Fl} (h : canonE ns fs = 0) : (canonN ns fs).length ≤ 256 ∧ (canonF ns fs).length ≤ 256 ∧ ∀ x ∈ canonF ns fs, x.data.length ≤ 8192 := by
  unfold canonE at h
  split at h
  · cases h
  · exact loose_small h
theorem canon_has {w : World} {B : Nat} {vN vF : Value} {D : Nat → Value} {ns : List Nd} {fs : List Fl} (h1 : canonE ns fs = 0 → CopyAt w B vN vF D (canonN ns fs) (canonF ns fs)) (h2 : canonE ns fs ≠ 0 → vN = .slice none 0 0 ∧ vF = .slice none 0 0) : HasT w B vN vF (canonE ns fs) (canonN ns fs) (canonF ns fs) := by
  by_cases h : canonE ns fs = 0
  · exact ⟨D, _, _, h1 h, by rw [if_pos h], by rw [if_pos h]⟩
  · obtain ⟨rfl, rfl⟩ := h2 h
    exact ⟨_, [], [], copy_none w B, by rw [if_neg h], by rw [if_neg h]⟩
theorem bytes_both (NA FA : Option Addr) (nc fc : Nat) (ns : List Nd) (fs : List Fl) (w : World) (hN : NodesAt w NA ns) (hF : FilesAt w FA fs) (hp : ∀ x ∈ ns, x.path.length ≤ 100000) :
    Calls Try.prog 22 #[.agg #[.slice NA ns.length nc, .slice FA fs.length fc]] w fun e w' => (∃ v, e = .returned (.tuple #[v, .int .i64 (looseE ns fs)]) ∧ OwnB w' w.heap.size v (if looseE ns fs = 0 then bytesT ns fs else [])) ∧ Below w.heap.size w w' := by
  by_cases h : looseE ns fs = 0
  · refine (bytes_yes NA FA nc fc ns fs w hN hF hp h).mono ?_
    rintro e w' ⟨v, rfl, ho, hb⟩
    exact ⟨⟨v, by rw [h], by rw [if_pos h]; exact ho⟩, hb⟩
  · refine (bytes_no NA FA nc fc ns fs w hN hF hp h).mono ?_
    rintro e w' ⟨rfl, hb⟩
    exact ⟨⟨_, rfl, by rw [if_neg h]; exact ownB_nil _ _⟩, hb⟩
theorem refcanon_both (NA FA : Option Addr) (nc fc : Nat) (ns : List Nd) (fs : List Fl) (w : World) (hN : NodesAt w NA ns) (hF : FilesAt w FA fs) (hp : ∀ x ∈ ns, x.path.length ≤ 100000) :
    Calls Try.prog 17 #[.agg #[.slice NA ns.length nc, .slice FA fs.length fc]] w fun e w' => (∃ vN vF, e = .returned (.tuple #[.agg #[vN, vF], .int .i64 (canonE ns fs)]) ∧ HasT w' w.heap.size vN vF (canonE ns fs) (canonN ns fs) (canonF ns fs)) ∧ Below w.heap.size w w' := by
  refine (refcanon_any NA FA nc fc ns fs w hN hF hp (fun A1 A2 c1 c2 us gs W h1 h2 h3 h4 h5 => by
    have h := form_ref A1 A2 c1 c2 us gs W h1 h2 h3 h4 h5
    rw [form_loose] at h
    exact h)).mono ?_
  rintro e w' ⟨⟨vN, vF, D, rfl, h1, h2⟩, hb⟩
  exact ⟨⟨vN, vF, rfl, canon_has h1 h2⟩, hb⟩
theorem canon_both (NA FA : Option Addr) (nc fc : Nat) (ns : List Nd) (fs : List Fl) (w : World) (hN : NodesAt w NA ns) (hF : FilesAt w FA fs) (hp : ∀ x ∈ ns, x.path.length ≤ 100000) :
    Calls Try.prog 16 #[.agg #[.slice NA ns.length nc, .slice FA fs.length fc]] w fun e w' => (∃ vN vF, e = .returned (.tuple #[.agg #[vN, vF], .int .i64 (canonE ns fs)]) ∧ HasT w' w.heap.size vN vF (canonE ns fs) (canonN ns fs) (canonF ns fs)) ∧ Below w.heap.size w w' := by
  refine (canon_any NA FA nc fc ns fs w hN hF hp).mono ?_
  rintro e w' ⟨⟨vN, vF, D, rfl, h1, h2⟩, hb⟩
  exact ⟨⟨vN, vF, rfl, canon_has h1 h2⟩, hb⟩
end Go.Proofs.Ytjagddhkoacipaa
