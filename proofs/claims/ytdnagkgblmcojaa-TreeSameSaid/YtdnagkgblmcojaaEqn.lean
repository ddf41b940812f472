/-
What is proved here: two nodes compared as structs; isName, by a contract.
-/
import Derived.Test.YtdnagkgblmcojaaSml
import Derived.Laws.StructEq
set_option linter.unusedSimpArgs false
namespace Go.Proofs.Ytdnagkgblmcojaa
open Go.Pth Go.Tre Go.RowKit Go.Word

def ndV (p : Bt) (f m : Int) : Value := .agg #[St p, .int .i64 f, .int .i64 m]
theorem fields47 : Try.prog.underlying 41 = some (.struct (Try.prog.fieldsOf 41)) := by kernel_rfl
theorem eqs_st (d : Nat) (a b : Bt) (w : World) : (Op.equalIn (d + 1) 9 (St a) (St b)).run Try.prog w = .ok (same a b) w := by
  unfold St
  rw [run_equalIn_string w d 9 _ _ Try.underlying9, ByteArray.toList_mk, ByteArray.toList_mk, beq_dec]
  rfl
def eqNd (p q : Bt) (f g m k : Int) : Bool := same p q && (f == g && m == k)
set_option maxRecDepth 100000 in
theorem eql_node (p q : Bt) (f g m k : Int) (w : World) : (binOp .eql 41 (.agg #[St p, .int .i64 f, .int .i64 m]) (.agg #[St q, .int .i64 g, .int .i64 k])).run Try.prog w = .ok (.bool (eqNd p q f g m k)) w := by
  have hf : (Try.prog.fieldsOf 41).toList.map (fun x => (x.name == "_", x.type, x.offset)) = [(false, 9, 0), (false, 3, 1), (false, 3, 2)] := by kernel_rfl
  rw [run_eql_struct, run_equalIn_agg w 9999 41 _ _ fields47 (by kernel_rfl)]
  obtain ⟨x, y, z, hl⟩ : ∃ x y z, (Try.prog.fieldsOf 41).toList = [x, y, z] := by
    match h : (Try.prog.fieldsOf 41).toList with
    | [x, y, z] => exact ⟨x, y, z, rfl⟩
    | [] => rw [h] at hf; cases hf
    | [_] => rw [h] at hf; simp at hf
    | [_, _] => rw [h] at hf; simp at hf
    | _ :: _ :: _ :: _ :: _ => rw [h] at hf; simp at hf
  rw [hl] at hf ⊢
  simp at hf
  obtain ⟨⟨n1, t1, o1⟩, ⟨n2, t2, o2⟩, ⟨n3, t3, o3⟩⟩ := hf
  have p1 : ∀ (a : Bt) (b c : Value) (W : World), (part 9 #[St a, b, c] 0).run Try.prog W = .ok (St a) W := fun a b c W => by
    unfold part
    rw [Sem.run_bind, (by kernel_rfl : (isAgg 9).run Try.prog W = .ok false W)]
    simp
  have p2 : ∀ (a : Int) (b c : Value) (W : World), (part 3 #[b, .int .i64 a, c] 1).run Try.prog W = .ok (.int .i64 a) W := fun a b c W => by
    unfold part
    rw [Sem.run_bind, (by kernel_rfl : (isAgg 3).run Try.prog W = .ok false W)]
    simp
  have p3 : ∀ (a : Int) (b c : Value) (W : World), (part 3 #[b, c, .int .i64 a] 2).run Try.prog W = .ok (.int .i64 a) W := fun a b c W => by
    unfold part
    rw [Sem.run_bind, (by kernel_rfl : (isAgg 3).run Try.prog W = .ok false W)]
    simp
  have e2 : ∀ (a b : Int) (W : World), (Op.equalIn 9999 3 (.int .i64 a) (.int .i64 b)).run Try.prog W = .ok (a == b) W := fun a b W => run_equalIn_int W 9998 3 .i64 .i64 a b Try.underlying3
  simp only [Op.eqFields, ne_eq, n1, n2, n3, t1, t2, t3, o1, o2, o3, not_false_eq_true, if_true, Sem.run_bind, p1, p2, p3, Result.andThen_ok, eqs_st 9998, e2]
  unfold eqNd
  cases same p q with
  | false => simp [Sem.run_pure]
  | true =>
    simp only [Bool.not_true, Bool.false_eq_true, if_false, Sem.run_bind, p1, p2, p3, Result.andThen_ok, e2, Bool.true_and]
    cases f == g with
    | false => simp [Sem.run_pure]
    | true =>
      simp only [Bool.not_true, Bool.false_eq_true, if_false, Sem.run_bind, p1, p2, p3, Result.andThen_ok, e2, Bool.true_and]
      cases m == k <;> simp [Sem.run_pure]
theorem guard_node (op : BinOp) (x y : Operand) (xs ys : Array Value) (w : World) : (eqGuard op 41 x y (.agg xs) (.agg ys)).run Try.prog w = .ok () w := run_eqGuard_agg w op 41 x y xs ys (by kernel_rfl)
end Go.Proofs.Ytdnagkgblmcojaa
