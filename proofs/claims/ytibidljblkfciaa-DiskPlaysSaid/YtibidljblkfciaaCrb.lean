/-
What is proved here: Crash of the disk: the disk behind it, whatever its bytes.
-/
import Derived.Test.YtibidljblkfciaaIterb
import Derived.Test.YtibidljblkfciaaHold
import Derived.Test.YtibidljblkfciaaTbm
set_option linter.unusedSimpArgs false
namespace Go.Proofs.Ytibidljblkfciaa
open Go.Word Go.RowKit Go.Shelf

attribute [local go_sem] Oper.semAt_some

theorem last_in (F : Fence) (n : Nat) (h42 : F.fn 42) (hro : F.round = none) (p : Option Addr) (w : World) :
    CallsIn F n Try.prog 42 #[.pointer p] w fun e w' => e = .returned (.func (.func 45) #[] #[.pointer (some ⟨w.heap.size, 0, none⟩)]) ∧ w' = w.alloc (.cells #[.pointer p] 25) := by
  refine callsIn_of_wp Try.func42 rfl h42 ?_ hro
  simp only [Try.ntmps42, List.size_toArray, List.length_cons, List.length_nil, Nat.reduceAdd, Nat.reduceSub, Array.replicate_succ, Array.replicate_zero, List.push_toArray, List.append_toArray, List.nil_append, List.cons_append]
  gi_wp2
  go_ret
  exact ⟨rfl, rfl⟩
/-- a disk stays where what turns is no cells -/
theorem dsk_own {X Y : World} {row : Option Nat} {g B base n K : Nat} {f : Nat → BitVec 8} {hv : Value} {hs : List Ent} {on : Bool} {lf : Int} (h : Dsk X g B base n K f hv hs on lf) (hg : X.grownBy Y row) (hr : ∀ r, row = some r → ∃ o : Obj, X.heap[r]? = some o ∧ o.isCells = false) : Dsk Y g B base n K f hv hs on lf where
  self := lies_own g 65 _ h.self hg hr
  bytes := lies_own B 5 _ h.bytes hg hr
  held := World.ownsRow.kept h.held hg (by
    cases hk : hv.ownBlock with
    | none => simp
    | some k =>
      refine .inr (fun e => ?_)
      obtain ⟨o, ho, hc⟩ := hr k e.symm
      rcases h.held.2 with ⟨rfl, _⟩ | ⟨gg, cap, cur, rfl, _, hgg, _⟩
      · cases hk
      · have e1 : gg = k := by simpa [Value.ownBlock] using hk
        subst e1
        rw [hgg] at ho
        injection ho with ho
        subst ho
        cases hc)
  size := h.size
  most := h.most
  ord := ⟨h.ord.1, h.ord.2.1, Nat.le_trans h.ord.2.2 hg.size⟩
  rows := fun e he => by
    obtain ⟨h1, h2, h3, h4, h5, h6, h7⟩ := h.rows e he
    exact ⟨h1, h2, h3, lies_own e.a 5 _ h4 hg hr, lies_own e.c 5 _ h5 hg hr, h6, h7⟩
theorem block_in (F : Fence) (m : Nat) (h40 : F.fn 40) (hro : F.round = none) (g B n K : Nat) (hv : Value) (on : Bool) (lf : Int) (at_ p : Nat) (w : World) (hK : K = 512 * n) (hn : n ≤ 4096) (hp : p = 512 * at_) (ha : at_ < n) (h : Lies w g 65 (DRow B K hv on lf)) :
    CallsIn F m Try.prog 40 #[.pointer (some ⟨g, 0, none⟩), .int .i64 (at_ : Int)] w fun e w' => e = .returned (.slice (some ⟨B, p, none⟩) 512 512) ∧ w = w' := by
  have c0 : w.cell? ⟨g, 0, none⟩ = some (.slice (some ⟨B, 0, none⟩) K K) := lies_cell h 0
  have hs := fun W => slice_block B K p (by omega) W
  have e1 : (at_ : Int) * 512 = (p : Int) := by omega
  have e2 : ((at_ : Int) + 1) * 512 = (p : Int) + 512 := by omega
  have hb : at_ ≤ 4096 := by omega
  clear h hK hp
  refine callsIn_of_wp Try.func40 rfl h40 ?_ hro
  simp only [Try.ntmps40, List.size_toArray, List.length_cons, List.length_nil, Nat.reduceAdd, Nat.reduceSub, Array.replicate_succ, Array.replicate_zero, List.push_toArray, List.append_toArray, List.nil_append, List.cons_append]
  gi_wp2
  go_ret
  exact ⟨rfl, rfl⟩
theorem call40 {ρ : Operand → Value} {oi : Oper} {w : World} {u v : Value} (x y : Operand) (ho : oi.op = .call { callee := .value (.func 40), args := #[x, y], argTypes := #[25, 3] }) (hf : ρ (.func 40) = .func (.func 40) #[] #[]) (hx : ρ x = u) (hy : ρ y = v) : (execOp ρ oi).run Try.prog w = .ok (.enter 40 #[u, v]) w := by
  unfold execOp
  simp only [ho]
  go_simp
theorem about40 {ρ : Operand → Value} {oi : Oper} {w : World} (x y : Operand) (ho : oi.op = .call { callee := .value (.func 40), args := #[x, y], argTypes := #[25, 3] }) (hf : ρ (.func 40) = .func (.func 40) #[] #[]) : oi.about Try.prog w ρ = some 40 := by
  unfold Oper.about
  simp only [ho]
  go_simp
theorem aboutCopy {ρ : Operand → Value} {oi : Oper} {w : World} (x y : Operand) (ho : oi.op = .call { callee := .builtin .copy, args := #[x, y], argTypes := #[44, 44] }) : oi.about Try.prog w ρ = none := by
  unfold Oper.about
  simp only [ho]
  go_simp
theorem openIn_take {F : Fence} {n : Nat} {P : Program} {md : Region.Mode} {ops : Array Oper} {Q : Exit → Act → World → Prop} {fuel : Nat} {listed : Array Bool} {a : Act} {w : World} (hro : F.round = none) (i : Nat) (d : Option Tmp) (v : Value) {oi : Oper} (hi : ops[i]? = some oi) (hd : oi.dst = d) (hs : Region.noSelect ops = true) (hf : Region.free md ops listed i = true) (hr : (Region.ready md ops listed).contains i = true)
    (hQ : ∀ c a w, Q (.panic c) (a.put oi.dst v) w → Q (.panic c) a w) (hy : YieldsFenced P ops oi v a)
    (h : wpAnyIn F n P md ops Q fuel (listed.setIfInBounds i true) (a.put d v) w) : wpAnyIn F n P md ops Q (fuel + 1) listed a w :=
  wpAnyIn_take hro hi hs hf hr hQ hy (by rw [hd]; exact h)
theorem openIn_value {F : Fence} {n : Nat} {P : Program} {md : Region.Mode} {ops : Array Oper} {Q : Exit → Act → World → Prop} {fuel : Nat} {listed : Array Bool} {a : Act} {w : World} {i : Nat} {rs : List Nat} (d : Option Tmp) (v : Value) {oi : Oper} (hi : ops[i]? = some oi) (hd : oi.dst = d) (hg : oi.guard = none) (hnd : ∀ c, oi.op ≠ .defer c) (hab : oi.about P w a.eval = none) (hr : (execOp a.eval oi).run P w = .ok (.value v) w)
    (h : wpAnyIn F n P md ops Q fuel (listed.setIfInBounds i true) (a.put d v) w) (hs : AllReadyIn F n P md ops Q fuel listed a w rs) : AllReadyIn F n P md ops Q fuel listed a w (i :: rs) :=
  AllReadyIn.cons hi (fun K hK => by
    rw [if_pos (by simp [Region.wanted, hg])]
    exact wpIn_value hnd hab hr (by rw [hd]; exact hK _ _ h)) hs
theorem openIn_skip {F : Fence} {n : Nat} {P : Program} {md : Region.Mode} {ops : Array Oper} {Q : Exit → Act → World → Prop} {fuel : Nat} {listed : Array Bool} {a : Act} {w : World} {i : Nat} {rs : List Nat} (w' : World) {oi : Oper} (hi : ops[i]? = some oi) (hd : oi.dst = none) (hg : oi.guard = none) (hnd : ∀ c, oi.op ≠ .defer c) (hab : oi.about P w a.eval = none) (hr : (execOp a.eval oi).run P w = .ok .skip w')
    (h : wpAnyIn F n P md ops Q fuel (listed.setIfInBounds i true) a w') (hs : AllReadyIn F n P md ops Q fuel listed a w rs) : AllReadyIn F n P md ops Q fuel listed a w (i :: rs) :=
  AllReadyIn.cons hi (fun K hK => by
    rw [if_pos (by simp [Region.wanted, hg])]
    refine ⟨fun f hf => (by rw [hab] at hf; cases hf), ?_⟩
    rw [Oper.semAt_eq _ _ _ hnd, hr]
    show K (a.put oi.dst undef) w'
    rw [hd]
    exact hK _ _ h) hs
theorem store63 {ρ : Operand → Value} {oi : Oper} {w : World} {g N C : Nat} {A : Option Addr} (x : Operand) (ho : oi.op = .store 63 x (.const (.slice none 0 0))) (hx : ρ x = .pointer (some ⟨g, 1, none⟩)) (hy : ρ (.const (.slice none 0 0)) = .slice none 0 0) (hc : w.cell? ⟨g, 1, none⟩ = some (.slice A N C)) (hf : w.frozen? ⟨g, 1, none⟩ = false) : (execOp ρ oi).run Try.prog w = .ok .skip (w.setCell ⟨g, 1, none⟩ (.slice none 0 0)) := by
  unfold execOp
  simp only [ho, hx, hy]
  go_simp
theorem store4 {ρ : Operand → Value} {oi : Oper} {w : World} {g : Nat} {b : Bool} (x : Operand) (ho : oi.op = .store 4 x (.const (.bool true))) (hx : ρ x = .pointer (some ⟨g, 2, none⟩)) (hy : ρ (.const (.bool true)) = .bool true) (hc : w.cell? ⟨g, 2, none⟩ = some (.bool b)) (hf : w.frozen? ⟨g, 2, none⟩ = false) : (execOp ρ oi).run Try.prog w = .ok .skip (w.setCell ⟨g, 2, none⟩ (.bool true)) := by
  unfold execOp
  simp only [ho, hx, hy]
  go_simp
theorem store3 {ρ : Operand → Value} {oi : Oper} {w : World} {g : Nat} {z : Int} (x : Operand) (ho : oi.op = .store 3 x (.const (.int .i64 (-1)))) (hx : ρ x = .pointer (some ⟨g, 3, none⟩)) (hy : ρ (.const (.int .i64 (-1))) = .int .i64 (-1)) (hc : w.cell? ⟨g, 3, none⟩ = some (.int .i64 z)) (hf : w.frozen? ⟨g, 3, none⟩ = false) : (execOp ρ oi).run Try.prog w = .ok .skip (w.setCell ⟨g, 3, none⟩ (.int .i64 (-1))) := by
  unfold execOp
  simp only [ho, hx, hy]
  go_simp
theorem rep_false (n i : Nat) : (Array.replicate n false).getD i false = false := by
  rw [Array.getD_eq_getD_getElem?]
  by_cases h : i < n <;> simp [h]
theorem ent_at {hs : List Ent} {d : Ent} {k : Nat} (h : k < hs.length) : hs.getD k d ∈ hs := by
  rw [List.getD_eq_getElem?_getD, List.getElem?_eq_getElem h]
  exact List.getElem_mem h
end Go.Proofs.Ytibidljblkfciaa
