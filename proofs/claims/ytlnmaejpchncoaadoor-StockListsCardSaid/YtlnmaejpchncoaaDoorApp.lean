/-
What is proved here: append of bytes onto a slice of the call's own; CRC tells bytes of which one is turned.
-/
import Derived.Test.YtlnmaejpchncoaaDoorSplit
import Derived.Laws.AppendOwnNone
set_option linter.unusedSimpArgs false
namespace Go.Proofs.YtlnmaejpchncoaaDoor
open Go.Word Go.RowKit

/-- v is a slice of the call's own, from block base on, with the bytes b -/
def Own (w : World) (base : Nat) (v : Value) (b : List (BitVec 8)) : Prop := w.ownsRow base 5 1 v b.length (b.map Y)
theorem own_nil (w : World) (base : Nat) : Own w base (.slice none 0 0) [] := ⟨rfl, .inl ⟨rfl, rfl⟩⟩
theorem own_form {w : World} {base : Nat} {v : Value} {b : List (BitVec 8)} (h : Own w base v b) : ∃ A c, v = .slice A b.length c ∧ b.length ≤ c ∧ (A = none → c = 0) := by
  rcases h.2 with ⟨rfl, h0⟩ | ⟨g, cap, cur, rfl, _, _, h1, _, _⟩
  · exact ⟨none, 0, by rw [h0], by omega, fun _ => rfl⟩
  · exact ⟨_, cap, rfl, h1, fun e => by cases e⟩
theorem own_byt {w : World} {base : Nat} {A : Option Addr} {n c : Nat} {b : List (BitVec 8)} (h : Own w base (.slice A n c) b) : Byt w A b := fun h0 => by
  rcases h.2 with ⟨hv, h1⟩ | ⟨g, cap, cur, hv, _, hg, _, _, hs, ht⟩
  · omega
  · injection hv with hA _ _
    subst hA
    refine ⟨_, rfl, lies_lt (t := 5) (cs := cur) hg, fun j hj => ?_⟩
    rw [Addr.add_mid, Nat.zero_add, cell_of_row w g j cur 5 (0, 0) hg]
    have e : (cur.toList.take (b.length * 1))[j]? = (b.map Y)[j]? := by rw [ht]
    rw [Nat.mul_one, List.getElem?_take, if_pos hj, Array.getElem?_toList, List.getElem?_map, List.getElem?_eq_getElem hj] at e
    rw [e, List.getD_eq_getElem?_getD, List.getElem?_eq_getElem hj]
    rfl
theorem own_block {w : World} {base : Nat} {v : Value} {b : List (BitVec 8)} (h : Own w base v b) : ∀ k, v.ownBlock = some k → base ≤ k := by
  intro k hk
  rcases h.2 with ⟨rfl, _⟩ | ⟨g, cap, cur, rfl, hb, _⟩
  · cases hk
  · have : g = k := by simpa [Value.ownBlock] using hk
    omega

set_option maxHeartbeats 400000 in
theorem wpList_app {w : World} {ops : Array Oper} {rest : List Oper} {o : Oper} {a : Act} {Q : Exit → Act → World → Prop} (hgd : o.guard = none) (s x : Operand)
    (ho : o.op = .call { callee := .builtin .append, args := #[s, x], argTypes := #[24, 24] }) (base : Nat) (v : Value) (b : List (BitVec 8)) (hs : a.eval s = v) (hown : Own w base v b)
    (A : Option Addr) (m c : Nat) (f : List (BitVec 8)) (hx : a.eval x = .slice A m c) (hm : f.length = m) (hf : Byt w A f) (hA : A = none → c = 0) (N : Nat) (hN : N = b.length + m) (hbound : N ≤ 1000000) (hbase : base ≤ w.heap.size)
    (h : ∀ A' c' w', Own w' base (.slice A' N c') (b ++ f) → Below base w w' → N ≤ c' → (A' = none → c' = 0) → wpList Tryd.prog ops Q rest (a.put o.dst (.slice A' N c')) w') : wpList Tryd.prog ops Q (o :: rest) a w := by
  have hl : (b ++ f).length = N := by rw [List.length_append, hm, hN]
  have fin : ∀ v' w', w'.ownsRow base 5 1 v' (b.length + m) (b.map Y ++ f.map Y) → w.grownBy w' v.ownBlock → wpList Tryd.prog ops Q rest (a.put o.dst v') w' := by
    intro v' w' h1 h2
    have h3 : Own w' base v' (b ++ f) := by unfold Own; rw [List.length_append, hm, List.map_append]; exact h1
    obtain ⟨A', c', rfl, hc, hA'⟩ := own_form h3
    rw [hl] at h3 hc ⊢
    exact h A' c' w' h3 ((Below.refl base w).grown h2 hbase (own_block hown)) hc hA'
  obtain ⟨i0, hi, hz0, hz1, hz2⟩ := info_parts byte_info
  cases A with
  | some ad =>
    refine wpList_append_own w hgd s x 24 ho base 5 i0 (.int .u8 0) 1 1 Tryd.underlying24 hi hz0 hz1 hz2 rfl (by decide) v b.length (b.map Y) hs hown ad m c (f.map Y) hx (by simp [hm]) (fun j u hu => ?_) (y_one f) (by unfold maxLen; omega) (by omega) hbase (fun v' w' h1 h2 _ => fin v' w' h1 h2)
    rw [List.getElem?_map] at hu
    have hj : j < f.length := by
      rcases Nat.lt_or_ge j f.length with h | h
      · exact h
      · rw [List.getElem?_eq_none h] at hu; cases hu
    obtain ⟨ad', e, _, hc⟩ := hf (by omega)
    injection e with e
    subst e
    rw [hc j hj, ← hu, List.getD_eq_getElem?_getD, List.getElem?_eq_getElem hj]
    rfl
  | none =>
    have hf0 : f = [] := by
      rcases Nat.eq_zero_or_pos f.length with h0 | h0
      · exact List.eq_nil_of_length_eq_zero h0
      · obtain ⟨_, e, _⟩ := hf h0
        cases e
    subst hf0
    obtain rfl : m = 0 := hm.symm
    obtain rfl := hA rfl
    have h1 : w.ownsRow base 5 1 v (b.length + 0) (b.map Y ++ ([] : List (BitVec 8)).map Y) := by unfold Own at hown; simpa using hown
    exact wpList_append_own_none hgd s x 24 ho base 5 i0 1 Tryd.underlying24 hi v b.length (b.map Y) hs hown hx (fin v w h1 (World.grownBy.refl w _))
end Go.Proofs.YtlnmaejpchncoaaDoor
