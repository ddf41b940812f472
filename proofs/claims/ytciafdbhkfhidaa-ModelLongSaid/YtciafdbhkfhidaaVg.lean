/-
What is proved here: Run of a list of syncs on the empty tree, by contracts.
-/
import Derived.Test.YtciafdbhkfhidaaVd
import Derived.Test.YtciafdbhkfhidaaVy
set_option linter.unusedSimpArgs false
set_option linter.unusedVariables false
namespace Go.Proofs.Ytciafdbhkfhidaa
open Go.Pth Go.Tre Go.RowKit Go.Word Go.Mod
theorem results_row_tmp2 {P : Program} {fn : Func} {p u x : Tmp} {ty : TypeId} (h : fn.results = #[.cell p ty, .tmp u, .tmp x]) (tmps : Array Value) (w : World) (g : Nat) (t : TypeId) (cs : Array Value) (fr : Nat × Nat) (d : TypeDesc)
    (hp : tmps.getD p undef = .pointer (some ⟨g, 0, none⟩)) (v : Value) (hv : tmps.getD u undef = v) (v2 : Value) (hv2 : tmps.getD x undef = v2) (hg : w.heap[g]? = some (.cells cs t fr))
    (hu : P.underlying ty = some d) (hd : (match d with | .struct _ | .array _ _ => true | _ => false) = true) (hi : (P.info? ty).map (·.size) = some cs.size) :
    (results fn tmps).run P w = .ok (.tuple #[.agg cs, v, v2]) w := by
  have main : (results fn tmps).run P w = ((asAddr (tmps.getD p undef)).run P w).andThen fun a w₁ => ((loadVar ty a).run P w₁).andThen fun y w₂ => .ok (.tuple #[y, tmps.getD u undef, tmps.getD x undef]) w₂ := by
    simp only [results, h]
    simp [Sem.run_bind, Result.andThen]
  rw [main, hp, hv, hv2]
  simp [asAddr, run_loadVar_row w g t ty cs fr d hg hu hd hi]
theorem syncs_below {w w' : World} {S n : Nat} {p : Value} (h : Syncs w S p n) (hb : Below w.heap.size w w') : Syncs w' S p n := fun i hi j v hj => by
  have := h i hi j v hj
  rw [hb.cell (p := ⟨S, i * 5 + j, none⟩) (World.block_lt_of_cell? w _ this)]
  exact this
set_option maxRecDepth 100000 in
set_option maxHeartbeats 8000000 in
theorem run_sync (p : Value) (hp : p.oneCell' = true) (S n : Nat) (hn : n ≤ 4096) (w : World) (hS : Syncs w S p n) (hl : S < w.heap.size) :
    Calls Try.prog 5 #[.agg #[.slice none 0 0, .slice none 0 0], .slice (some ⟨S, 0, none⟩) n n, .slice none 0 0] w fun e w' => e = .returned (.tuple #[.agg #[.slice none 0 0, .slice none 0 0], .int .i64 (n : Int), .int .i64 0]) ∧ Below w.heap.size w w' := by
  have hz := zero29
  have LT := lies_alloc (lies_alloc (lies_new w 29 #[.slice none 0 0, .slice none 0 0]) o29) o29
  have LR := lies_new (w.alloc o29) 29 #[.slice none 0 0, .slice none 0 0]
  rw [World.size_alloc] at LR
  have LR := Lib.hid (lies_alloc LR o29)
  have LL := lies_new ((w.alloc o29).alloc o29) 29 #[.slice none 0 0, .slice none 0 0]
  simp only [World.size_alloc] at LL
  have LL := Lib.hid LL
  have HB := Lib.hid (show Below w.heap.size w (((w.alloc o29).alloc o29).alloc o29) from (((Below.refl _ _).alloc (Nat.le_refl _) _).alloc (by simp) _).alloc (by simp; omega) _)
  have SZ := Lib.hid (show (((w.alloc o29).alloc o29).alloc o29).heap.size = w.heap.size + 3 by simp)
  have t0 := lies_cell LT 0
  have t1 := lies_cell LT 1
  simp only [List.getElem?_toArray, List.getElem?_cons_zero, List.getElem?_cons_succ] at t0 t1
  have HS := Lib.hid (syncs_below hS HB.out)
  have HN := Lib.hid hn
  have HP := Lib.hid hp
  clear LT hS hn hp
  go_enter Try.func5, Try.ntmps5
  go_upto_region 2 with (fail)
  generalize ((w.alloc o29).alloc o29).alloc o29 = X at *
  clear hz
  have KP := Lib.hid (play_sync p HP.out (w.heap.size + 1 + 1) S n HN.out X LL.out HS.out (by omega))
  go_upto_region 3 with (go_at_call 8; (with_reducible refine KP.out.mono ?_); rintro e w1 ⟨rfl, h1, h2⟩; have H1 := Lib.hid h1; have H2 := Lib.hid h2; clear h1 h2)
  have y0 := lies_cell H1.out 0
  have y1 := lies_cell H1.out 1
  simp only [List.getElem?_toArray, List.getElem?_cons_zero, List.getElem?_cons_succ] at y0 y1
  have R1 := Lib.hid (gb_row H2.out LR.out (by omega))
  have B1 := Lib.hid (HB.out.grown H2.out (by have := SZ.out; omega) (fun k e => by cases e; omega))
  clear t0 t1 KP
  go_wp2_with (first
    | (go_at_call 10; (with_reducible refine (clone_nil w1).mono ?_); rintro e w2 ⟨rfl, hb⟩; have R2 := Lib.hid (lies_below R1.out hb (lies_lt R1.out)); have B2 := Lib.hid (below_setRow (B1.out.trans (hb.mono B1.out.size)) (g := w.heap.size + 1) (by omega) #[.slice none 0 0, .slice none 0 0]); clear hb)
    | (refine wpList_store_row rfl 29 _ _ rfl (w.heap.size + 1) #[.slice none 0 0, .slice none 0 0] rfl rfl 29 _ R2.out (by kernel_rfl) rfl (by simp [Value.oneCell']) ?_))
  (try simp only [Exit.inBlock, Exit.then])
  refine bodyPost_ret (results_row_tmp2 rfl _ _ (w.heap.size + 1) 29 #[.slice none 0 0, .slice none 0 0] (0, 0) _ rfl _ rfl _ rfl (lies_setRow R2.out _) Try.underlying29 rfl (by kernel_rfl)) rfl ?_
  exact ⟨rfl, B2.out⟩
set_option maxRecDepth 100000 in
set_option maxHeartbeats 8000000 in
theorem run_long (p : Value) (hp : p.oneCell' = true) (S n : Nat) (hn : 4096 < n) (w : World) (hS : Syncs w S p n) (hl : S < w.heap.size) :
    Calls Try.prog 5 #[.agg #[.slice none 0 0, .slice none 0 0], .slice (some ⟨S, 0, none⟩) n n, .slice none 0 0] w fun e w' => e = .returned (.tuple #[.agg #[.slice none 0 0, .slice none 0 0], .int .i64 0, .int .i64 2]) ∧ Below w.heap.size w w' := by
  have hz := zero29
  have LT := lies_alloc (lies_alloc (lies_new w 29 #[.slice none 0 0, .slice none 0 0]) o29) o29
  have LR := lies_new (w.alloc o29) 29 #[.slice none 0 0, .slice none 0 0]
  rw [World.size_alloc] at LR
  have LR := Lib.hid (lies_alloc LR o29)
  have LL := lies_new ((w.alloc o29).alloc o29) 29 #[.slice none 0 0, .slice none 0 0]
  simp only [World.size_alloc] at LL
  have LL := Lib.hid LL
  have HB := Lib.hid (show Below w.heap.size w (((w.alloc o29).alloc o29).alloc o29) from (((Below.refl _ _).alloc (Nat.le_refl _) _).alloc (by simp) _).alloc (by simp; omega) _)
  have SZ := Lib.hid (show (((w.alloc o29).alloc o29).alloc o29).heap.size = w.heap.size + 3 by simp)
  have t0 := lies_cell LT 0
  have t1 := lies_cell LT 1
  simp only [List.getElem?_toArray, List.getElem?_cons_zero, List.getElem?_cons_succ] at t0 t1
  have HS := Lib.hid (syncs_below hS HB.out)
  have HN := Lib.hid hn
  have HP := Lib.hid hp
  clear LT hS hn hp
  go_enter Try.func5, Try.ntmps5
  go_upto_region 2 with (fail)
  generalize ((w.alloc o29).alloc o29).alloc o29 = X at *
  clear hz
  have KP := Lib.hid (play_long p HP.out (w.heap.size + 1 + 1) S n HN.out X LL.out HS.out (by omega))
  go_upto_region 3 with (go_at_call 8; (with_reducible refine KP.out.mono ?_); rintro e w1 ⟨rfl, h1, h2⟩; have H1 := Lib.hid h1; have H2 := Lib.hid h2; clear h1 h2)
  have y0 := lies_cell H1.out 0
  have y1 := lies_cell H1.out 1
  simp only [List.getElem?_toArray, List.getElem?_cons_zero, List.getElem?_cons_succ] at y0 y1
  have R1 := Lib.hid (gb_row H2.out LR.out (by omega))
  have B1 := Lib.hid (HB.out.grown H2.out (by have := SZ.out; omega) (fun k e => by cases e; omega))
  clear t0 t1 KP
  go_wp2_with (first
    | (go_at_call 10; (with_reducible refine (clone_nil w1).mono ?_); rintro e w2 ⟨rfl, hb⟩; have R2 := Lib.hid (lies_below R1.out hb (lies_lt R1.out)); have B2 := Lib.hid (below_setRow (B1.out.trans (hb.mono B1.out.size)) (g := w.heap.size + 1) (by omega) #[.slice none 0 0, .slice none 0 0]); clear hb)
    | (refine wpList_store_row rfl 29 _ _ rfl (w.heap.size + 1) #[.slice none 0 0, .slice none 0 0] rfl rfl 29 _ R2.out (by kernel_rfl) rfl (by simp [Value.oneCell']) ?_))
  (try simp only [Exit.inBlock, Exit.then])
  refine bodyPost_ret (results_row_tmp2 rfl _ _ (w.heap.size + 1) 29 #[.slice none 0 0, .slice none 0 0] (0, 0) _ rfl _ rfl _ rfl (lies_setRow R2.out _) Try.underlying29 rfl (by kernel_rfl)) rfl ?_
  exact ⟨rfl, B2.out⟩
end Go.Proofs.Ytciafdbhkfhidaa
