/-
What is proved here: what each law of order begins with, by a contract.
-/
import Derived.Test.YtnbjfmkckebfgaaGreatOor
set_option linter.unusedSimpArgs false
set_option linter.unusedVariables false
namespace Go.Proofs.YtnbjfmkckebfgaaGreat
open Go.Cmp Go.RowKit
theorem onum_any (z : Int) (w : World) : Calls Tryz.prog 7 #[.int .i64 z] w fun e w' => e = .returned (.int .i64 z) ∧ w' = w := by
  go_enter Tryz.func7, Tryz.ntmps7
  go_wp2
  go_ret
  exact ⟨rfl, rfl⟩
set_option maxRecDepth 100000 in
set_option maxHeartbeats 2000000 in
theorem oalive_any (w : World) : Calls Tryz.prog 5 #[] w fun e w' => e = .returned (.bool true) ∧ Below w.heap.size w w' := by
  obtain ⟨ac, hac⟩ : ∃ ac : Array Value, ac = #[.int .i64 5, .string { data := #[97] }, .string { data := #[] }, .int .i64 0, .int .i64 0, .int .i64 5, .string { data := #[98] }, .string { data := #[] }, .int .i64 0, .int .i64 0] := ⟨_, rfl⟩
  have L1 := lies_new (w.alloc (.cells ac 26)) 3 #[iV 1]
  have L2 := lies_new ((w.alloc (.cells ac 26)).alloc (.cells #[iV 1] 3)) 3 #[]
  have L3 := lies_new (((w.alloc (.cells ac 26)).alloc (.cells #[iV 1] 3)).alloc (.cells #[] 3)) 27 #[.slice (some ⟨w.heap.size + 1, 0, Option.none⟩) 1 1, .slice (some ⟨w.heap.size + 1 + 1, 0, Option.none⟩) 0 0]
  simp only [World.size_alloc] at L1 L2 L3
  have M1 := lies_alloc (lies_alloc L1 (.cells #[] 3)) (.cells #[.slice (some ⟨w.heap.size + 1, 0, Option.none⟩) 1 1, .slice (some ⟨w.heap.size + 1 + 1, 0, Option.none⟩) 0 0] 27)
  have HB := Lib.hid ((((below_alloc w (.cells ac 26)).alloc (by simp) (.cells #[iV 1] 3)).alloc (by simp; omega) (.cells #[] 3)).alloc (by simp; omega) (.cells #[.slice (some ⟨w.heap.size + 1, 0, Option.none⟩) 1 1, .slice (some ⟨w.heap.size + 1 + 1, 0, Option.none⟩) 0 0] 27))
  have hls : LsAt ((((w.alloc (.cells ac 26)).alloc (.cells #[iV 1] 3)).alloc (.cells #[] 3)).alloc (.cells #[.slice (some ⟨w.heap.size + 1, 0, Option.none⟩) 1 1, .slice (some ⟨w.heap.size + 1 + 1, 0, Option.none⟩) 0 0] 27)) (some ⟨w.heap.size + 1 + 1 + 1, 0, Option.none⟩) (zg (chain 2)) := by
    intro i hi
    have hi2 : i < 2 := by simpa [zg, chain] using hi
    have c0 := lies_cell L3 0
    have c1 := lies_cell L3 1
    have d0 := lies_cell M1 0
    match i, hi2 with
    | 0, _ => exact ⟨_, 0, some ⟨w.heap.size + 1, 0, Option.none⟩, 1, rfl, by simp, c0, Nat.le_refl _, fun j hj => by
        have : j = 0 := by simp [zg, chain, zs] at hj; omega
        subst this
        exact ⟨_, 0, rfl, by simp, d0⟩⟩
    | 1, _ => exact ⟨_, 0, some ⟨w.heap.size + 1 + 1, 0, Option.none⟩, 0, rfl, by simp, c1, Nat.le_refl _, fun j hj => by simp [zg, chain, zs] at hj⟩
  have KC := Lib.hid (order_ok (some ⟨w.heap.size, 0, Option.none⟩) (some ⟨w.heap.size + 1 + 1 + 1, 0, Option.none⟩) 2 2 (.slice Option.none 0 0) (chain 2) _ (by unfold Ok chain; decide) (by decide) (by decide) (chain_groups 2) (chain_still 2 (chain_groups 2)) (rowok_chain 2 (by decide)) _ hls)
  clear L1 L2 L3 M1 hls
  rw [show (chain 2).length = 2 from rfl] at KC
  have HO2 := Lib.hid (show (simO (chain 2) 2).out = [1, 0] by rw [sim_chain 2 2 (Nat.le_refl 2)]; rfl)
  subst hac
  unfold iV at *
  go_enter Tryz.func5, Tryz.ntmps5
  go_wp2_with (first
    | (go_at_call 6; (with_reducible refine KC.out.mono ?_); rintro e w1 ⟨ov, rfl, hO, hb⟩; have HB1 := Lib.hid (HB.out.trans (hb.mono HB.out.size)); rw [show (chain 2).length = 2 from rfl, HO2.out] at hO; obtain ⟨g, C, rfl, hc⟩ := own_cell hO (by decide); have k0 := hc 0 (by decide); have k1 := hc 1 (by decide); replace k0 : w1.cell? ⟨g, 0, Option.none⟩ = some (.int .i64 1) := k0; replace k1 : w1.cell? ⟨g, 1, Option.none⟩ = some (.int .i64 0) := k1; clear hb hO hc)
    | (go_at_call 7; (with_reducible refine (onum_any _ _).mono ?_); rintro e w2 ⟨rfl, h⟩; have h := h.symm; subst h))
  go_ret
  exact ⟨rfl, HB1.out⟩
end Go.Proofs.YtnbjfmkckebfgaaGreat
