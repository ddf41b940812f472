/-
What is proved here: Order without thrift over the empty tree, by contracts.
-/
import Derived.Test.YtnbjfmkckebfgaaGreatOck
set_option linter.unusedSimpArgs false
set_option linter.unusedVariables false
namespace Go.Proofs.YtnbjfmkckebfgaaGreat
open Go.Cmp Go.RowKit
/-- what the row asks of needs -/
structure RowOK (G : Gr) : Prop where
  rd : ∀ k, k < G.length → 0 < (simO G k).ready.length
  big : ∀ k, k ≤ G.length → (simO G k).ready.length ≤ 10000000
  lt : ∀ k, k < G.length → (simO G k).ready.getD (fstP (simO G k).ready) 0 < G.length
  tl : ∀ x y, y ∈ nx (trI G G.length) x → y < G.length
  tb : ∀ x, (nx (trI G G.length) x).length ≤ 10000000
  ob : ∀ k, k < G.length → ∀ y, -100000000 ≤ (simO G k).opn.getD y 0 ∧ (simO G k).opn.getD y 0 ≤ 100000000
theorem rowok_none (n : Nat) (hn : n ≤ 1024) : RowOK (none n) := by
  have hl : (none n).length = n := List.length_replicate
  refine ⟨fun k hk => ?_, fun k hk => ?_, fun k hk => ?_, fun x y hy => ?_, fun x => ?_, fun k hk y => ?_⟩
  · rw [hl] at hk; rw [sim_none n k (by omega)]; simp; omega
  · rw [hl] at hk; rw [sim_none n k hk]; simp; omega
  · rw [hl] at hk; rw [hl, sim_none n k (by omega)]
    simp only []
    rw [fst_up, up_at _ _ _ (by omega)]; omega
  · rw [trI_none, show nx (List.replicate n ([] : List Nat)) x = [] from nx_none n x] at hy; cases hy
  · rw [trI_none, show nx (List.replicate n ([] : List Nat)) x = [] from nx_none n x]; simp
  · rw [hl] at hk; rw [sim_none n k (by omega)]
    simp only []
    rw [List.getD_eq_getElem?_getD, List.getElem?_replicate]
    split <;> simp
theorem rowok_chain (n : Nat) (hn : n ≤ 1024) : RowOK (chain n) := by
  have hl := chain_len n
  refine ⟨fun k hk => ?_, fun k hk => ?_, fun k hk => ?_, fun x y hy => ?_, fun x => ?_, fun k hk y => ?_⟩
  · rw [hl] at hk; rw [sim_chain n k (by omega), if_pos hk]; simp
  · rw [hl] at hk; rw [sim_chain n k hk]; simp only []; split <;> simp
  · rw [hl] at hk; rw [hl, sim_chain n k (by omega), if_pos hk]
    simp only []
    rw [fst_one]
    show n - 1 - k < n
    omega
  · rw [hl, (trI_chain n n (Nat.le_refl n)).2] at hy
    split at hy
    · rw [List.mem_singleton.1 hy, hl]; omega
    · cases hy
  · rw [hl, (trI_chain n n (Nat.le_refl n)).2]; split <;> simp
  · rw [hl] at hk; rw [sim_chain n k (by omega)]
    simp only []
    by_cases hy : y < n
    · rw [opnC_at n k y hy]; split <;> omega
    · rw [List.getD_eq_getElem?_getD, List.getElem?_eq_none (by simp [opnC]; omega)]; simp
def OrrE (G : Gr) (w : World) (e : Ending) (w' : World) : Prop := ∃ ov, e = .returned (.tuple #[ov, .int .i64 0]) ∧ OwnI w' w.heap.size ov (zs (simO G G.length).out) ∧ Below w.heap.size w w'
set_option maxRecDepth 100000 in
set_option maxHeartbeats 4000000 in
theorem order_ok (AA LA : Option Addr) (ac lc : Nat) (st : Value) (G S : Gr) (hG : Ok G) (hn : G.length ≤ 1024) (hg : ∀ l ∈ G, l.length ≤ 1024) (hS : Groups G S) (hz : (S.filter fun r => !stillP G r) = []) (hR : RowOK G) (w : World) (hL : LsAt w LA (zg G)) :
    Calls Tryz.prog 6 #[.agg #[.slice Option.none 0 0, .slice Option.none 0 0], .slice AA G.length ac, .slice LA G.length lc, st, .bool false] w (OrrE G w) := by
  have hb0 : Below w.heap.size w (w.alloc (.cells #[.slice Option.none 0 0, .slice Option.none 0 0] 34)) := (Below.refl _ _).alloc (Nat.le_refl _) _
  have HB0 := Lib.hid hb0
  have KC := Lib.hid (ocheck_any AA LA G.length ac lc G S hG hn hg hS (w.alloc (.cells #[.slice Option.none 0 0, .slice Option.none 0 0] 34)) (lsAt_below hL hb0) (by omega))
  rw [hz, if_neg (by simp), if_neg (by simp)] at KC
  have KR := Lib.hid (fun (W : World) (hb : Below w.heap.size w W) (g : Nat) (hl : Lies W g 51 #[.slice Option.none 0 0, .func (.func 14) #[] #[]]) => row_any LA lc G hG hn hg g W (lsAt_below hL hb) hl hR.rd hR.big hR.lt hR.tl hR.tb hR.ob)
  obtain ⟨n, hnn⟩ : ∃ n, n = G.length := ⟨_, rfl⟩
  rw [← hnn] at KC KR ⊢
  clear hnn hb0 hL hS hG hg hz hR hn
  go_enter Tryz.func6, Tryz.ntmps6
  go_upto_region 4 with (go_at_call 8; (with_reducible refine KC.out.mono ?_); rintro e w1 ⟨rfl, hb⟩; have W1 := Lib.hid (HB0.out.trans (hb.mono HB0.out.size)); clear hb)
  have KL := Lib.hid (least_any w1)
  go_upto_region 7 with (go_at_call 9; (with_reducible refine KL.out.mono ?_); rintro e w2 ⟨rfl, hw2⟩; have HW2 := Lib.hid hw2; clear hw2)
  have W2 := Lib.hid (show Below w.heap.size w w2 by rw [HW2.out]; exact W1.out.alloc W1.out.size _)
  have K2 := Lib.hid (KR.out w2 W2.out w1.heap.size (by rw [HW2.out]; exact lies_new _ _ _))
  have SW := Lib.hid W1.out.size
  go_wp2_with (go_at_call 11; (with_reducible refine K2.out.mono ?_); rintro e w3 ⟨ov, rfl, hO, hb⟩; have HO := Lib.hid hO; have HB3 := Lib.hid hb; clear hO hb)
  go_ret2
  exact ⟨ov, rfl, own_base HO.out (fun k hk => Nat.le_trans W2.out.size (own_heap HO.out k hk).1), W2.out.trans (HB3.out.below W2.out.size (fun k hk => by have := SW.out; omega))⟩
set_option maxRecDepth 100000 in
set_option maxHeartbeats 4000000 in
theorem order_err (A B st : Value) (b : Bool) (z : Int) (hz : z ≠ 0) (w : World) (hC : Calls Tryz.prog 8 #[.agg #[.slice Option.none 0 0, .slice Option.none 0 0], A, B] (w.alloc (.cells #[.slice Option.none 0 0, .slice Option.none 0 0] 34)) fun e w' => e = .returned (.int .i64 z) ∧ Below (w.alloc (.cells #[.slice Option.none 0 0, .slice Option.none 0 0] 34)).heap.size (w.alloc (.cells #[.slice Option.none 0 0, .slice Option.none 0 0] 34)) w') :
    Calls Tryz.prog 6 #[.agg #[.slice Option.none 0 0, .slice Option.none 0 0], A, B, st, .bool b] w fun e w' => e = .returned (.tuple #[.slice Option.none 0 0, .int .i64 z]) ∧ Below w.heap.size w w' := by
  have HB0 := Lib.hid (show Below w.heap.size w (w.alloc (.cells #[.slice Option.none 0 0, .slice Option.none 0 0] 34)) from (Below.refl _ _).alloc (Nat.le_refl _) _)
  have KC := Lib.hid hC
  have ez : (z != 0) = true := by simp [hz]
  clear hC hz
  go_enter Tryz.func6, Tryz.ntmps6
  go_wp2_with (go_at_call 8; (with_reducible refine KC.out.mono ?_); rintro e w1 ⟨rfl, hb⟩; have W1 := Lib.hid (HB0.out.trans (hb.mono HB0.out.size)); clear hb)
  go_ret2
  exact ⟨rfl, W1.out⟩
end Go.Proofs.YtnbjfmkckebfgaaGreat
