/-
What is proved here: the document's own disk: Write of it, by a contract.
-/
import Derived.Test.YtibidljblkfciaaRkz
set_option linter.unusedSimpArgs false
namespace Go.Proofs.Ytibidljblkfciaa
open Go.Word Go.RowKit

theorem load75 {ρ : Operand → Value} {oi : Oper} {w : World} {b o N C : Nat} {A : Option Addr} (x : Operand) (ho : oi.op = .load 75 x) (hx : ρ x = .pointer (some ⟨b, o, none⟩)) (hc : w.cell? ⟨b, o, none⟩ = some (.slice A N C)) : (execOp ρ oi).run Try.prog w = .ok (.value (.slice A N C)) w := by
  unfold execOp
  simp only [ho, hx]
  go_simp
theorem load74 {ρ : Operand → Value} {oi : Oper} {w : World} {b o N C : Nat} {A : Option Addr} (x : Operand) (ho : oi.op = .load 74 x) (hx : ρ x = .pointer (some ⟨b, o, none⟩)) (hc : w.cell? ⟨b, o, none⟩ = some (.slice A N C)) : (execOp ρ oi).run Try.prog w = .ok (.value (.slice A N C)) w := by
  unfold execOp
  simp only [ho, hx]
  go_simp
theorem field771 {ρ : Operand → Value} {oi : Oper} {w : World} {b : Nat} (x : Operand) (ho : oi.op = .fieldAddr 77 x 1) (hx : ρ x = .pointer (some ⟨b, 0, none⟩)) : (execOp ρ oi).run Try.prog w = .ok (.value (.pointer (some ⟨b, 1, none⟩))) w := by
  unfold execOp
  simp only [ho, hx]
  go_simp
theorem field770 {ρ : Operand → Value} {oi : Oper} {w : World} {b : Nat} (x : Operand) (ho : oi.op = .fieldAddr 77 x 0) (hx : ρ x = .pointer (some ⟨b, 0, none⟩)) : (execOp ρ oi).run Try.prog w = .ok (.value (.pointer (some ⟨b, 0, none⟩))) w := by
  unfold execOp
  simp only [ho, hx]
  go_simp
theorem store75 {ρ : Operand → Value} {oi : Oper} {w : World} {b o N C N' C' : Nat} {A A' : Option Addr} (x y : Operand) (ho : oi.op = .store 75 x y) (hx : ρ x = .pointer (some ⟨b, o, none⟩)) (hy : ρ y = .slice A N C) (hc : w.cell? ⟨b, o, none⟩ = some (.slice A' N' C')) (hf : w.frozen? ⟨b, o, none⟩ = false) : (execOp ρ oi).run Try.prog w = .ok .skip (w.setCell ⟨b, o, none⟩ (.slice A N C)) := by
  unfold execOp
  simp only [ho, hx, hy]
  go_simp
theorem load84 {ρ : Operand → Value} {oi : Oper} {w : World} {b : Nat} {cs : Array Value} (x : Operand) (ho : oi.op = .load 84 x) (hx : ρ x = .pointer (some ⟨b, 0, none⟩)) (hl : Lies w b 84 cs) (hs : cs.size = 513) : (execOp ρ oi).run Try.prog w = .ok (.value (.agg cs)) w := by
  unfold execOp
  simp only [ho, hx, Instr.loadAt, Instr.sureAddr, Sem.run_bind, Sem.run_pure, Result.andThen_ok, run_loadVar_row w b 84 84 cs (0, 0) _ hl Try.underlying84 rfl (by rw [hs]; exact size84)]
theorem build75 {ρ : Operand → Value} {oi : Oper} {w : World} {z : Int} {q : Bytes} (x : Operand) (ho : oi.op = .buildSlice 75 1 #[(0, x)]) (hx : ρ x = .agg (wcel z q)) : (execOp ρ oi).run Try.prog w = .ok (.value (.slice (some ⟨w.heap.size, 0, none⟩) 1 1)) (w.alloc (.cells (wcel z q) 84)) := by
  obtain ⟨i0, hi, hz0, hz1, hz2⟩ := info_parts info84
  unfold execOp
  simp only [ho, Sem.run_bind]
  rw [run_buildSlice w 75 84 1 _ (wcel z q) i0 _ Try.underlying75 hi hz0 (by rw [hz1]; decide) (by rw [hz1]; decide) (by
    rw [hz1]
    simp only [List.map_toArray, List.map_cons, List.map_nil, hx]
    exact fill_one _ z q (by simp))]
  rfl
theorem append75 {w : World} {base n : Nat} {v : Value} {xs : List Value} {ad : Addr} {c : Nat} {news : List Value} (hown : w.ownsRow base 84 513 v n xs) (hl : news.length = 513) (hnews : ∀ j u, news[j]? = some u → w.cell? (ad.add j) = some u) (h1 : ∀ u ∈ news, u.oneCell' = true) (hn : n ≤ 70000) (hb : base ≤ w.heap.size) :
    ∃ A' C' w', (∀ (ρ : Operand → Value) (oi : Oper) (x y : Operand), oi.op = .call { callee := .builtin .append, args := #[x, y], argTypes := #[75, 75] } → ρ x = v → ρ y = .slice (some ad) 1 c → (execOp ρ oi).run Try.prog w = .ok (.value (.slice A' (n + 1) C')) w') ∧
      w'.ownsRow base 84 513 (.slice A' (n + 1) C') (n + 1) (xs ++ news) ∧ w.grownBy w' v.ownBlock ∧ (Value.ownBlock (.slice A' (n + 1) C') = v.ownBlock ∨ ∃ k, Value.ownBlock (.slice A' (n + 1) C') = some k ∧ w.heap.size ≤ k) := by
  obtain ⟨i0, hi, hz0, hz1, hz2⟩ := info_parts info84
  have hm : n + 1 ≤ maxLen := by unfold maxLen; omega
  have hby : (n + 1) * 520 ≤ 140737488355328 := by omega
  have hzs : (Value.cells (.agg (wcel 0 nil8))).size = 513 := wcel_size _ _
  obtain ⟨v', w', hr, h2, h3, _⟩ := run_append_own (P := Try.prog) w base 75 0 84 i0 _ 513 520 Try.underlying75 hi hz0 hz1 hz2 hzs (by decide) v n xs hown ad 1 c news (by rw [hl]) hnews h1 hm hby hb
  have hk : v'.ownBlock = v.ownBlock ∨ ∃ k, v'.ownBlock = some k ∧ w.heap.size ≤ k := by
    rcases hown.2 with ⟨e1, e2⟩ | ⟨g, cap, cur, e1, hbg, hg, hnc, hcm, hcs, htake⟩
    · subst e1 e2
      have hx0 : xs = [] := List.eq_nil_of_length_eq_zero (by simpa using hown.1)
      subst hx0
      obtain ⟨v2, w2, hr2, o2, _⟩ := run_append_own (P := Try.prog) w w.heap.size 75 0 84 i0 _ 513 520 Try.underlying75 hi hz0 hz1 hz2 hzs (by decide) (.slice none 0 0) 0 [] (World.ownsRow_nil w w.heap.size 84 513) ad 1 c news (by rw [hl]) hnews h1 hm hby (Nat.le_refl _)
      rw [hr] at hr2
      injection hr2 with ev ew
      subst ev ew
      rcases o2.2 with ⟨_, e0⟩ | ⟨g2, cap2, cur2, e2, hb2, _⟩
      · cases e0
      · exact .inr ⟨g2, by rw [e2]; rfl, hb2⟩
    · subst e1
      by_cases hroom : n + 1 ≤ cap
      · have hfit : n * i0.size + news.length ≤ cur.size := by rw [hl, hcs, hz1]; omega
        have hr2 := run_append_room (P := Try.prog) w 75 0 84 i0 Try.underlying75 hi g n cap cur hg ad 1 c news (by rw [hz1, hl]) hnews h1 hroom hfit
        rw [hr] at hr2
        injection hr2 with ev ew
        exact .inl (by rw [ev]; rfl)
      · have holds : ∀ j u, xs[j]? = some u → w.cell? ((⟨g, 0, none⟩ : Addr).add j) = some u := hown.cells (g := g) rfl
        have hr2 := run_append_grow (P := Try.prog) w 75 0 84 i0 _ Try.underlying75 hi hz0 ⟨g, 0, none⟩ n cap xs (by rw [hz1]; exact hown.1) holds ad 1 c news (by rw [hz1, hl]) hnews (by omega) (by omega) (growslice_fits (by omega) (by rw [hz2]; exact hby))
        rw [hr] at hr2
        injection hr2 with ev ew
        exact .inr ⟨w.heap.size, by rw [ev]; rfl, Nat.le_refl _⟩
  obtain ⟨A', C', e⟩ : ∃ A' C', v' = .slice A' (n + 1) C' := by
    rcases h2.2 with ⟨_, e0⟩ | ⟨gg, cap, cur, e, _⟩
    · omega
    · exact ⟨_, _, e⟩
  subst e
  refine ⟨A', C', w', ?_, h2, h3, hk⟩
  intro ρ oi x y ho hx hy
  unfold execOp
  simp only [ho, resolve, invoke, builtin, Sem.run_bind, Sem.run_pure, Result.andThen_ok, List.map_toArray, List.map_cons, List.map_nil, hx, hy]
  have hr' : (Builtin.append_ #[75, 75] oi.type #[v, .slice (some ad) 1 c]).run Try.prog w = .ok (.slice A' (n + 1) C') w' := hr
  rw [hr']
  rfl
end Go.Proofs.Ytibidljblkfciaa
