/-
What is proved here: what each law of cut begins with, by a contract.
-/
import Derived.Test.YtpddamloajpiiaaGreatDoorCalM
set_option linter.unusedSimpArgs false
set_option linter.unusedVariables false
namespace Go.Proofs.YtpddamloajpiiaaGreatDoor
open Go.Cmp Go.RowKit Go.Cut Go.Pth Go.Word Go.Shelf
set_option maxRecDepth 100000 in
set_option maxHeartbeats 4000000 in
theorem calive_any (hS : SplitOK) (w : World) (hT : Pow w) : Calls Tryz.prog 6 #[] w fun e w' => e = .returned (.bool true) ∧ Below w.heap.size w w' := by
  obtain ⟨ac, hac⟩ : ∃ ac : Array Value, ac = #[.int .i64 3, .string { data := #[97] }, .string { data := #[98] }, .int .i64 0, .int .i64 0, .int .i64 3, .string { data := #[98] }, .string { data := #[97] }, .int .i64 0, .int .i64 0] := ⟨_, rfl⟩
  have L0 := lies_new w 29 ac
  have L1 := lies_new (w.alloc (.cells ac 29)) 3 #[iV 1]
  have L2 := lies_new ((w.alloc (.cells ac 29)).alloc (.cells #[iV 1] 3)) 3 #[iV 0]
  have L3 := lies_new (((w.alloc (.cells ac 29)).alloc (.cells #[iV 1] 3)).alloc (.cells #[iV 0] 3)) 33 #[.slice (some ⟨w.heap.size + 1, 0, none⟩) 1 1, .slice (some ⟨w.heap.size + 1 + 1, 0, none⟩) 1 1]
  simp only [World.size_alloc] at L1 L2 L3
  have M0 := lies_alloc (lies_alloc (lies_alloc L0 (.cells #[iV 1] 3)) (.cells #[iV 0] 3)) (.cells #[.slice (some ⟨w.heap.size + 1, 0, none⟩) 1 1, .slice (some ⟨w.heap.size + 1 + 1, 0, none⟩) 1 1] 33)
  have M1 := lies_alloc (lies_alloc L1 (.cells #[iV 0] 3)) (.cells #[.slice (some ⟨w.heap.size + 1, 0, none⟩) 1 1, .slice (some ⟨w.heap.size + 1 + 1, 0, none⟩) 1 1] 33)
  have M2 := lies_alloc L2 (.cells #[.slice (some ⟨w.heap.size + 1, 0, none⟩) 1 1, .slice (some ⟨w.heap.size + 1 + 1, 0, none⟩) 1 1] 33)
  have hb4 := (((((Below.refl w.heap.size w).alloc (Nat.le_refl _) (.cells ac 29)).alloc (by simp) (.cells #[iV 1] 3)).alloc (by simp; omega) (.cells #[iV 0] 3)).alloc (by simp; omega) (.cells #[.slice (some ⟨w.heap.size + 1, 0, none⟩) 1 1, .slice (some ⟨w.heap.size + 1 + 1, 0, none⟩) 1 1] 33))
  have HB := Lib.hid hb4
  have hls : LsAt ((((w.alloc (.cells ac 29)).alloc (.cells #[iV 1] 3)).alloc (.cells #[iV 0] 3)).alloc (.cells #[.slice (some ⟨w.heap.size + 1, 0, none⟩) 1 1, .slice (some ⟨w.heap.size + 1 + 1, 0, none⟩) 1 1] 33)) (some ⟨w.heap.size + 1 + 1 + 1, 0, none⟩) (zg (ring 2)) := by
    intro i hi
    have hi2 : i < 2 := by simpa [zg, ring] using hi
    have c0 := lies_cell L3 0
    have c1 := lies_cell L3 1
    have d0 := lies_cell M1 0
    have d1 := lies_cell M2 0
    match i, hi2 with
    | 0, _ => exact ⟨_, 0, some ⟨w.heap.size + 1, 0, none⟩, 1, rfl, by simp, c0, Nat.le_refl _, fun j hj => by
        have : j = 0 := by simp [zg, ring, zs] at hj; omega
        subst this
        exact ⟨_, 0, rfl, by simp, d0⟩⟩
    | 1, _ => exact ⟨_, 0, some ⟨w.heap.size + 1 + 1, 0, none⟩, 1, rfl, by simp, c1, Nat.le_refl _, fun j hj => by
        have : j = 0 := by simp [zg, ring, zs] at hj; omega
        subst this
        exact ⟨_, 0, rfl, by simp, d1⟩⟩
  have hac2 : acs two = ac.toList := by rw [hac]; rfl
  have KB := break_of hS (some ⟨w.heap.size, 0, none⟩) 2 (some ⟨w.heap.size + 1 + 1 + 1, 0, none⟩) 2 two (ring 2) ok_ring (by decide) (by decide) (by decide) (fun a ha => by
    simp only [two, List.mem_cons, List.not_mem_nil, or_false] at ha
    rcases ha with rfl | rfl <;> decide) _ (pow_below hT hb4) hls (fun j u hj => ⟨_, 0, rfl, lies_lt M0, by
      rw [Nat.zero_add, lies_cell M0, ← Array.getElem?_toList, ← hac2]; exact hj⟩) (.inr ⟨_, 0, rfl⟩)
  have KC := Lib.hid (show Calls Tryz.prog 10 #[.slice (some ⟨w.heap.size, 0, none⟩) 2 2, .slice (some ⟨w.heap.size + 1 + 1 + 1, 0, none⟩) 2 2] _ (fun e w' => ∃ g c ng nc b o c2 A0 c0, RgO two 2 _ g c ng nc b o c2 A0 c0 e w') from KB.mono fun e w' h => brk_out h (by decide) (by decide) rfl (fun a ha => by
    simp only [two, List.mem_cons, List.not_mem_nil, or_false] at ha
    rcases ha with rfl | rfl <;> rfl) kept_a)
  clear KB hls hb4 L0 L1 L2 L3 M0 M1 M2 hac2
  subst hac
  unfold iV at *
  go_enter Tryz.func6, Tryz.ntmps6
  go_wp2_with (first
    | (go_at_call 10; (with_reducible refine KC.out.mono ?_); rintro e w1 ⟨g, c, ng, nc, b, o, c2, A0, c0, hR⟩; obtain ⟨rfl, hac, _, _, _, _, hlow⟩ := hR; have HB1 := Lib.hid (HB.out.trans (hlow.mono HB.out.size)); have k2 : w1.cell? ⟨g, 2, none⟩ = some (.string { data := #[46, 116, 115, 45, 48] }) := hac 2 _ rfl; have k10 : w1.cell? ⟨g, 10, none⟩ = some (.int .i64 3) := hac 10 _ rfl; have k11 : w1.cell? ⟨g, 11, none⟩ = some (.string { data := #[46, 116, 115, 45, 48] }) := hac 11 _ rfl; have k12 : w1.cell? ⟨g, 12, none⟩ = some (.string { data := #[98] }) := hac 12 _ rfl; have k13 : w1.cell? ⟨g, 13, none⟩ = some (.int .i64 0) := hac 13 _ rfl; have k14 : w1.cell? ⟨g, 14, none⟩ = some (.int .i64 0) := hac 14 _ rfl; clear hac hlow)
    | (go_at_call 15; (with_reducible refine (cnum_any _ _).mono ?_); rintro e w2 ⟨rfl, h⟩; have h := h.symm; subst h))
  go_ret
  exact ⟨rfl, HB1.out⟩
end Go.Proofs.YtpddamloajpiiaaGreatDoor
