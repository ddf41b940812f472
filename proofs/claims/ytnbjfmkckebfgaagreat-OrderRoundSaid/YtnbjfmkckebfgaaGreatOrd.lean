/-
What is proved here: package comp's order of components, by a contract.
-/
import Derived.Test.YtnbjfmkckebfgaaGreatOrm
import Derived.BigQuiet
import Derived.Deep.QuietTactic
set_option linter.unusedSimpArgs false
set_option linter.unusedVariables false
namespace Go.Proofs.YtnbjfmkckebfgaaGreat
open Go.Cmp Go.RowKit
theorem orm_below {w w1 W : World} {O : Nat} {op : List Nat} {rv : Value} {l : List Nat} {lv : Value} {cs : List Value} (h : OrM w1 O op rv l lv cs W) (hb : Below w.heap.size w w1) (hO : w.heap.size ≤ O) : Below w.heap.size w W :=
  hb.trans (h.but.below hb.size (fun k hk => by have := hb.size; omega))
theorem orm_ask {w w1 W : World} {O R : Nat} {op : List Nat} {rv : Value} {l : List Nat} {lv : Value} {cs : List Value} {vs : List Value} {T : Gr} (h : OrM w1 O op rv l lv cs W) (hR : Lies w1 R 27 vs.toArray) (hSp : Sep w1 (w.heap.size + 3) vs (zg T)) (hRO : R ≠ O) (hO : O < w.heap.size + 3) {x : Nat} (hx : x < T.length) :
    W.cell? ⟨R, x, none⟩ = some (vs.getD x undef) ∧ OwnI W (w.heap.size + 3) (vs.getD x undef) (zs (nx T x)) := by
  have hvz : x < (zg T).length := by simpa using hx
  have ho := hSp.own x hvz
  rw [zg_getD] at ho
  have hl : x < vs.length := by rw [hSp.len]; exact hvz
  have hRl := lies_lt hR
  refine ⟨?_, own_but ho h.but (fun k hk e => by have := own_heap ho k hk; omega)⟩
  rw [lies_cell (h.but.lies hR (by omega)), List.getElem?_toArray, List.getElem?_eq_getElem hl, List.getD_eq_getElem?_getD, List.getElem?_eq_getElem hl]
  rfl
theorem win_form {w : World} {B : Nat} {v : Value} {l : List Int} (h : Win w B v l) : ∃ A c, v = .slice A l.length c := by
  rcases h with ⟨rfl, rfl⟩ | ⟨g, o, c, _, rfl, _⟩
  · exact ⟨none, 0, rfl⟩
  · exact ⟨_, _, rfl⟩
def slen : Value → Nat
  | .slice _ n _ => n
  | _ => 0
theorem cut_key2 {S A : Nat → World → Prop} {G : Prop} (main : (∀ a c, A a c → S a c) → G) (key : ∀ a c, A a c → S a c) : G := main key
/-- what ordered tells -/
def OrdE (G : Gr) (T : Gr) (es : List Ent) (w : World) (e : Ending) (w' : World) : Prop := ∃ A C out, e = .returned (.slice A out.length C) ∧ InTurn T es.length out ∧ (∀ g, g < es.length → g ∈ out) ∧ out.Nodup ∧
  w'.ownsRow w.heap.size 27 1 (.slice A out.length C) out.length (out.map fun k => (es.getD k ⟨0, none, [], 0⟩).rv) ∧ Below w.heap.size w w'
def AskT (G : Gr) (S : List (List Nat)) (T : Gr) : Prop := ∃ op, Asks G S T op
end Go.Proofs.YtnbjfmkckebfgaaGreat
