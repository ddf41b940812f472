/-
What is proved here: slices.Equal of nodes, by a contract.
-/
import Derived.Test.YtiglakhfkgeefaaEqb
import Derived.Deep.QuietTactic
import Derived.BigQuiet
set_option linter.unusedSimpArgs false
namespace Go.Proofs.Ytiglakhfkgeefaa
open Go.Pth Go.Tre Go.RowKit Go.Word Go.Shelf

set_option maxRecDepth 100000 in
theorem neq_node (p q : Bt) (f g m k : Int) (w : World) : (binOp .neq 60 (.agg #[St p, .int .i64 f, .int .i64 m]) (.agg #[St q, .int .i64 g, .int .i64 k])).run Try.prog w = .ok (.bool (!eqNd p q f g m k)) w := by
  have h := eql_node p q f g m k w
  rw [run_eql_struct] at h
  rw [run_neq_struct]
  cases hE : (Op.equalIn 10000 60 (.agg #[St p, .int .i64 f, .int .i64 m]) (.agg #[St q, .int .i64 g, .int .i64 k])).run Try.prog w with
  | ok b w' =>
    rw [hE] at h
    simp only [Result.andThen] at h ⊢
    injection h with h1 h2
    injection h1 with h1
    rw [h1, h2]
  | _ => rw [hE] at h; simp [Result.andThen] at h
theorem eqNd_iff (x y : Nd) : eqNd x.path y.path x.file y.file x.mode y.mode = decide (x = y) := by
  obtain ⟨p, f, m⟩ := x
  obtain ⟨q, g, k⟩ := y
  unfold eqNd same
  by_cases h1 : p = q <;> by_cases h2 : f = g <;> by_cases h3 : m = k <;> simp [h1, h2, h3]
theorem take_eq {α : Type} (a b : List α) (i : Nat) (h : a.take i = b.take i) (ha : i < a.length) (hb : i < b.length) : (a.take (i + 1) = b.take (i + 1) ↔ a[i] = b[i]) := by
  rw [List.take_succ_eq_append_getElem ha, List.take_succ_eq_append_getElem hb, h, List.append_right_inj]
  exact ⟨fun e => by injection e, fun e => by rw [e]⟩

end Go.Proofs.Ytiglakhfkgeefaa
