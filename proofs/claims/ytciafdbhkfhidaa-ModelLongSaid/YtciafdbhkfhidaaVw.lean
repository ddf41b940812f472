/-
What is proved here: a view of a tree, places in the empty tree, and looks for a name in the root, by contracts.
-/
import Derived.Test.YtciafdbhkfhidaaMd2
import Derived.Test.YtciafdbhkfhidaaVal
import Derived.Test.YtciafdbhkfhidaaTools
import Derived.Laws.ResultCell
set_option linter.unusedSimpArgs false
set_option linter.unusedVariables false
namespace Go.Proofs.Ytciafdbhkfhidaa
open Go.Pth Go.Tre Go.RowKit Go.Word Go.Mod
attribute [local go_sem] guard_eq guard_ne st_eql st_neq run_range_st
theorem results_row_tmp {P : Program} {fn : Func} {p u : Tmp} {ty : TypeId} (h : fn.results = #[.cell p ty, .tmp u]) (tmps : Array Value) (w : World) (g : Nat) (t : TypeId) (cs : Array Value) (fr : Nat × Nat) (d : TypeDesc)
    (hp : tmps.getD p undef = .pointer (some ⟨g, 0, none⟩)) (v : Value) (hv : tmps.getD u undef = v) (hg : w.heap[g]? = some (.cells cs t fr))
    (hu : P.underlying ty = some d) (hd : (match d with | .struct _ | .array _ _ => true | _ => false) = true) (hi : (P.info? ty).map (·.size) = some cs.size) :
    (results fn tmps).run P w = .ok (.tuple #[.agg cs, v]) w := by
  rw [results_cell_tmp h, hp, hv]
  simp [asAddr, run_loadVar_row w g t ty cs fr d hg hu hd hi]
theorem zero60 (w : World) : (zeroValue 60).run Try.prog w = .ok (.agg #[.int .i64 0, .nilFunc]) w := by kernel_rfl
theorem zero81 (w : World) : (zeroValue 81).run Try.prog w = .ok (.agg #[.int .i64 0, .bool false]) w := by kernel_rfl
set_option maxHeartbeats 400000 in
set_option maxRecDepth 100000 in
theorem view_any (NA FA : Option Addr) (n nc fl fc : Nat) (w : World) :
    Calls Try.prog 22 #[.agg #[.slice NA n nc, .slice FA fl fc]] w fun e w' => e = .returned (.agg #[.int .i64 n, .func (.func 32) #[] #[.pointer (some ⟨w.heap.size, 0, none⟩)]]) ∧ Below w.heap.size w w' ∧ Lies w' w.heap.size 29 #[.slice NA n nc, .slice FA fl fc] := by
  have hz := zero60
  have hB := (Below.refl w.heap.size w).alloc (Nat.le_refl _) (.cells #[.slice NA n nc, .slice FA fl fc] 29)
  have LT := lies_new w 29 #[.slice NA n nc, .slice FA fl fc]
  have hs : (w.alloc (.cells #[.slice NA n nc, .slice FA fl fc] 29)).heap.size = w.heap.size + 1 := Array.size_push _
  have LR := lies_new (w.alloc (.cells #[.slice NA n nc, .slice FA fl fc] 29)) 60 #[.int .i64 0, .nilFunc]
  rw [hs] at LR
  have LT := lies_alloc LT (.cells #[.int .i64 0, .nilFunc] 60)
  have HB := Lib.hid (hB.alloc (by rw [hs]; omega) (.cells #[.int .i64 0, .nilFunc] 60))
  have t0 := lies_cell LT 0
  simp only [List.getElem?_toArray, List.getElem?_cons_zero] at t0
  have W3 := Lib.hid (below_setRow HB.out (g := w.heap.size + 1) (by omega) #[.int .i64 n, .func (.func 32) #[] #[.pointer (some ⟨w.heap.size, 0, none⟩)]])
  have L3 := Lib.hid ((setRow_other _ (w.heap.size + 1) w.heap.size #[.int .i64 n, .func (.func 32) #[] #[.pointer (some ⟨w.heap.size, 0, none⟩)]] (by omega)).trans LT)
  have LR := Lib.hid LR
  clear hB LT hs
  go_enter Try.func22, Try.ntmps22
  go_upto_region 2 with (fail)
  go_wp2_with (refine wpList_store_row rfl 60 _ _ rfl (w.heap.size + 1) #[.int .i64 n, .func (.func 32) #[] #[.pointer (some ⟨w.heap.size, 0, none⟩)]] rfl rfl 60 _ LR.out (by kernel_rfl) rfl (by simp [Value.oneCell']) ?_)
  refine bodyPost_ret (results_cell_row rfl _ _ (w.heap.size + 1) 60 #[.int .i64 n, .func (.func 32) #[] #[.pointer (some ⟨w.heap.size, 0, none⟩)]] (0, 0) _ rfl (lies_setRow LR.out _) Try.underlying60 rfl (by kernel_rfl)) rfl ?_
  exact ⟨rfl, W3.out, L3.out⟩
/-! ### the empty tree -/
theorem search_empty (p f : Value) (w : World) : Calls Try.prog 37 #[.slice none 0 0, p, f] w fun e w' => e = .returned (.tuple #[.int .i64 0, .bool false]) ∧ w = w' := by
  go_enter Try.func37, Try.ntmps37
  go_wp2
  go_loopw [9, 10] (fun v9 v10 wr => v9 = .int .i64 0 ∧ v10 = .int .i64 0 ∧ w = wr) (fun _ _ _ => 0)
  case atStart => exact ⟨rfl, rfl, rfl⟩
  case round =>
    obtain ⟨rfl, rfl, hw⟩ := hrel
    subst hw
    go_wp2
    (try simp only [Exit.inBlock, Exit.then])
    refine bodyPost_ret (results_tmp2 rfl _ _ _) rfl ?_
    exact ⟨rfl, rfl⟩
theorem place_empty (p : Value) (w : World) : Calls Try.prog 24 #[.agg #[.slice none 0 0, .slice none 0 0], p] w fun e w' => e = .returned (.tuple #[.int .i64 0, .bool false]) ∧ Below w.heap.size w w' := by
  have L := lies_new w 29 #[.slice none 0 0, .slice none 0 0]
  have x0 := lies_cell L 0
  simp only [List.getElem?_toArray, List.getElem?_cons_zero] at x0
  have HB := Lib.hid (show Below w.heap.size w (w.alloc (.cells #[.slice none 0 0, .slice none 0 0] 29)) from (Below.refl _ _).alloc (Nat.le_refl _) _)
  clear L
  go_enter Try.func24, Try.ntmps24
  go_upto_region 1 with (fail)
  generalize w.alloc (.cells #[.slice none 0 0, .slice none 0 0] 29) = X at *
  go_wp2_with (go_at_call 37; (with_reducible refine (search_empty _ _ X).mono ?_); rintro e w1 ⟨rfl, rfl⟩)
  (try simp only [Exit.inBlock, Exit.then])
  refine bodyPost_ret (results_tmp2 rfl _ _ _) rfl ?_
  exact ⟨rfl, HB.out⟩
theorem rngA {w : World} {g : Nat} {t : TypeId} {a b : Value} (h : Lies w g t #[a, b]) : w.rangeAt g 0 [a, b] := fun j v hj => by
  rw [Nat.zero_add]
  have := lies_cell h j
  rw [this]
  simpa using hj
set_option maxRecDepth 100000 in
theorem at_empty (p : Value) (C : Nat) (w : World) (hT : Lies w C 29 #[.slice none 0 0, .slice none 0 0]) : Calls Try.prog 32 #[p, .pointer (some ⟨C, 0, none⟩)] w fun e w' => e = .returned (.agg #[.int .i64 0, .bool false]) ∧ Below w.heap.size w w' := by
  have hz := zero81
  have hB : Below w.heap.size w (w.alloc (.cells #[.int .i64 0, .bool false] 81)) := (Below.refl _ _).alloc (Nat.le_refl _) _
  have HB := Lib.hid hB
  have L0 := Lib.hid (lies_new w 81 #[.int .i64 0, .bool false])
  have T0 := Lib.hid (rngA (lies_alloc hT (.cells #[.int .i64 0, .bool false] 81)))
  have SZ := Lib.hid (show (w.alloc (.cells #[.int .i64 0, .bool false] 81)).heap.size = w.heap.size + 1 by simp)
  clear hB hT
  go_enter Try.func32, Try.ntmps32
  go_upto_region 1 with (fail)
  clear hz
  generalize w.alloc (.cells #[.int .i64 0, .bool false] 81) = X at *
  go_upto_region 2 with (first
    | (refine wpList_load_mid rfl 29 _ rfl C 0 rfl [.slice none 0 0, .slice none 0 0] _ T0.out Try.underlying29 rfl (by kernel_rfl) ?_)
    | (go_at_call 24; (with_reducible refine (place_empty _ X).mono ?_); rintro e w1 ⟨rfl, hb⟩; have H1 := Lib.hid (HB.out.trans (hb.mono HB.out.size)); have L1 := Lib.hid (lies_below L0.out hb (lies_lt L0.out)); clear hb))
  clear HB L0 T0
  have W3 := Lib.hid (below_setRow H1.out (g := w.heap.size) (Nat.le_refl _) #[.int .i64 0, .bool false])
  go_wp2_with (refine wpList_store_row rfl 81 _ _ rfl w.heap.size #[.int .i64 0, .bool false] rfl rfl 81 _ L1.out (by kernel_rfl) rfl (by simp [Value.oneCell']) ?_)
  refine bodyPost_ret (results_cell_row rfl _ _ w.heap.size 81 #[.int .i64 0, .bool false] (0, 0) _ rfl (lies_setRow L1.out _) Try.underlying81 rfl (by kernel_rfl)) rfl ?_
  exact ⟨rfl, W3.out⟩
/-! ### a look for a name in the root -/
set_option maxRecDepth 100000 in
set_option maxHeartbeats 2000000 in
theorem look_flat (l : Bt) (hl : ∀ c ∈ l, c.toNat < 128 ∧ c ≠ 47) (n k : Int) (b : Bool) (C : Nat) (w : World) (KA : ∀ W, Below w.heap.size w W → Calls Try.prog 32 #[St l, .pointer (some ⟨C, 0, none⟩)] W fun e w' => e = .returned (.agg #[.int .i64 k, .bool b]) ∧ Below W.heap.size W w') :
    Calls Try.prog 55 #[.agg #[.int .i64 n, .func (.func 32) #[] #[.pointer (some ⟨C, 0, none⟩)]], St l] w fun e w' => e = .returned (.tuple #[.agg #[.int .i64 k, .bool b], .int .i64 0]) ∧ Below w.heap.size w w' := by
  have hz := zero81
  have hB : Below w.heap.size w ((w.alloc (.cells #[.int .i64 n, .func (.func 32) #[] #[.pointer (some ⟨C, 0, none⟩)]] 60)).alloc (.cells #[.int .i64 0, .bool false] 81)) := ((Below.refl _ _).alloc (Nat.le_refl _) _).alloc (by simp) _
  have HB := Lib.hid hB
  have LV := Lib.hid (lies_alloc (lies_new w 60 #[.int .i64 n, .func (.func 32) #[] #[.pointer (some ⟨C, 0, none⟩)]]) (.cells #[.int .i64 0, .bool false] 81))
  have L0 := lies_new (w.alloc (.cells #[.int .i64 n, .func (.func 32) #[] #[.pointer (some ⟨C, 0, none⟩)]] 60)) 81 #[.int .i64 0, .bool false]
  rw [World.size_alloc] at L0
  have L0 := Lib.hid L0
  have KK := Lib.hid KA
  have HL := Lib.hid hl
  clear hB KA hl
  go_enter Try.func55, Try.ntmps55
  go_upto_region 1 with (fail)
  clear hz
  generalize (w.alloc (.cells #[.int .i64 n, .func (.func 32) #[] #[.pointer (some ⟨C, 0, none⟩)]] 60)).alloc (.cells #[.int .i64 0, .bool false] 81) = X at *
  go_wp2
  go_loopw [6, 7] (fun v6 v7 wr => ∃ i : Nat, i ≤ l.length ∧ wr = X.iter ⟨l.toArray⟩ i) (fun _ _ wr => l.length - wr.iterPos X.heap.size)
  case atStart => exact ⟨0, Nat.zero_le _, rfl⟩
  case round =>
    obtain ⟨i, hil, rfl⟩ := hrel
    by_cases hi : i < l.length
    · have hc := HL.out l[i] (List.getElem_mem hi)
      have hn := next_low X l i hi hc.1
      have h47 : l[i] ≠ 47 := hc.2
      clear hc
      generalize l[i] = c at *
      have h47' : (c.toNat : Int) ≠ 47 := fun e => h47 (UInt8.toNat_inj.1 (by show c.toNat = 47; omega))
      go_wp2
      go_roundw
      case rel => exact ⟨i + 1, by omega, rfl⟩
      case measure => simp; omega
    · have hn := next_end X l i hi
      have hb := below_iter X ⟨l.toArray⟩ i
      have H1 := Lib.hid (HB.out.trans (hb.mono HB.out.size))
      have L1 := lies_below LV.out hb (lies_lt LV.out)
      have t1 := lies_cell L1 1
      simp only [List.getElem?_toArray, List.getElem?_cons_zero, List.getElem?_cons_succ] at t1
      have L2 := Lib.hid (lies_below L0.out hb (lies_lt L0.out))
      clear HB LV L0 hb L1
      go_wp2_with (first
        | (go_at_call 32; (with_reducible refine (KK.out _ H1.out).mono ?_); rintro e w1 ⟨rfl, hb⟩; have H2 := Lib.hid (H1.out.trans (hb.mono H1.out.size)); have L3 := Lib.hid (lies_below L2.out hb (lies_lt L2.out)); have W3 := Lib.hid (below_setRow H2.out (g := w.heap.size + 1) (by omega) #[.int .i64 k, .bool b]); clear hb)
        | (refine wpList_store_row rfl 81 _ _ rfl (w.heap.size + 1) #[.int .i64 k, .bool b] rfl rfl 81 _ L3.out (by kernel_rfl) rfl (by simp [Value.oneCell']) ?_))
      refine bodyPost_ret (results_row_tmp rfl _ _ (w.heap.size + 1) 81 #[.int .i64 k, .bool b] (0, 0) _ rfl _ rfl (lies_setRow L3.out _) Try.underlying81 rfl (by kernel_rfl)) rfl ?_
      exact ⟨rfl, W3.out⟩
end Go.Proofs.Ytciafdbhkfhidaa
