/-
What is proved here: a list of syncs played on the empty tree, by a contract.
-/
import Derived.Test.YtciafdbhkfhidaaVn
import Derived.Test.YtciafdbhkfhidaaVt
import Derived.IntWalk
set_option linter.unusedSimpArgs false
set_option linter.unusedVariables false
namespace Go.Proofs.Ytciafdbhkfhidaa
open Go.Pth Go.Tre Go.RowKit Go.Word Go.Mod
theorem one_sync {p : Value} (hp : p.oneCell' = true) : (#[.int .i64 9, p, p, .int .i64 0, .int .i64 0] : Array Value).all (·.oneCell') = true := by
  cases p <;> simp_all [Value.oneCell']
theorem zero25 (w : World) : (zeroValue 25).run Try.prog w = .ok (.agg #[.int .i64 0, .string ⟨#[]⟩, .string ⟨#[]⟩, .int .i64 0, .int .i64 0]) w := by kernel_rfl
/-- a list of syncs -/
def Syncs (w : World) (S : Nat) (p : Value) (n : Nat) : Prop := ∀ i, i < n → w.rangeAt S (i * 5) [.int .i64 9, p, p, .int .i64 0, .int .i64 0]
/-- how the play of syncs stands -/
def Ps (w : World) (L : Nat) (wr : World) : Prop := w.grownBy wr (some L) ∧ w.heap.size < wr.heap.size ∧ Lies wr L 29 #[.slice none 0 0, .slice none 0 0] ∧ Lies wr w.heap.size 29 #[.slice none 0 0, .slice none 0 0]
theorem ps_below {w a b : World} {L : Nat} (h : Ps w L a) (hb : Below a.heap.size a b) : Ps w L b :=
  ⟨gb_below h.1 hb, Nat.lt_of_lt_of_le h.2.1 hb.size, lies_below h.2.2.1 hb (lies_lt h.2.2.1), lies_below h.2.2.2 hb (lies_lt h.2.2.2)⟩
theorem ps_shown {w a b : World} {L : Nat} (hL : L < w.heap.size) (h : Ps w L a) (hs : Shown a L (.slice none 0 0) (.slice none 0 0) b) : Ps w L b :=
  ⟨h.1.trans hs.2, Nat.lt_of_lt_of_le h.2.1 hs.2.size, hs.1, gb_row hs.2 h.2.2.2 (by omega)⟩
theorem ps_set {w a : World} {L : Nat} (hL : L < w.heap.size) (h : Ps w L a) : Ps w L (a.setRow w.heap.size #[.slice none 0 0, .slice none 0 0]) :=
  ⟨gb_set h.1 (Nat.le_refl _) _, by simpa [World.setRow] using h.2.1, (setRow_other a w.heap.size L _ (by omega)).trans h.2.2.1, lies_setRow h.2.2.2 _⟩
set_option maxRecDepth 100000 in
set_option maxHeartbeats 4000000 in
theorem play_long (p : Value) (hp : p.oneCell' = true) (L S n : Nat) (hn : 4096 < n) (w : World) (hL : Lies w L 29 #[.slice none 0 0, .slice none 0 0]) (hS : Syncs w S p n) (hSL : S ≠ L) :
    Calls Try.prog 8 #[.agg #[.slice none 0 0, .slice none 0 0], .slice (some ⟨S, 0, none⟩) n n, .slice none 0 0, .func (.func 9) #[] #[.pointer (some ⟨L, 0, none⟩)]] w
      fun e w' => e = .returned (.tuple #[.int .i64 0, .int .i64 2]) ∧ Lies w' L 29 #[.slice none 0 0, .slice none 0 0] ∧ w.grownBy w' (some L) := by
  have hlt := lies_lt hL
  have hz25 := zero25
  have hz29 := zero29
  have LB := lies_new w 29 #[.slice none 0 0, .slice none 0 0]
  have PX := Lib.hid (show Ps w L (w.alloc (.cells #[.slice none 0 0, .slice none 0 0] 29)) from ⟨World.grownBy_alloc w _ _, by simp, lies_alloc hL _, LB⟩)
  have HS := Lib.hid hS
  have HP := Lib.hid hp
  have t0 := lies_cell LB 0
  have t1 := lies_cell LB 1
  simp only [List.getElem?_toArray, List.getElem?_cons_zero, List.getElem?_cons_succ] at t0 t1
  have hc' : (4096 : Int) < (n : Int) := by omega
  clear hL hS hp LB hn
  go_enter Try.func8, Try.ntmps8
  go_upto_region 1 with (fail)
  generalize w.alloc (.cells #[.slice none 0 0, .slice none 0 0] 29) = X at *
  go_upto_region 4 with (go_at_call 12; (with_reducible refine (loose_nil X).mono ?_); rintro e w1 ⟨rfl, hb⟩; have P1 := Lib.hid (ps_below PX.out hb); clear hb)
  have t0 := lies_cell P1.out.2.2.2 0
  have t1 := lies_cell P1.out.2.2.2 1
  simp only [List.getElem?_toArray, List.getElem?_cons_zero, List.getElem?_cons_succ] at t0 t1
  go_wp2
  (try simp only [Exit.inBlock, Exit.then])
  refine bodyPost_ret (results_tmp2 rfl _ _ _) rfl ?_
  exact ⟨rfl, P1.out.2.2.1, P1.out.1⟩
set_option maxRecDepth 100000 in
set_option maxHeartbeats 4000000 in
theorem play_sync (p : Value) (hp : p.oneCell' = true) (L S n : Nat) (hn : n ≤ 4096) (w : World) (hL : Lies w L 29 #[.slice none 0 0, .slice none 0 0]) (hS : Syncs w S p n) (hSL : S ≠ L) :
    Calls Try.prog 8 #[.agg #[.slice none 0 0, .slice none 0 0], .slice (some ⟨S, 0, none⟩) n n, .slice none 0 0, .func (.func 9) #[] #[.pointer (some ⟨L, 0, none⟩)]] w
      fun e w' => e = .returned (.tuple #[.int .i64 (n : Int), .int .i64 0]) ∧ Lies w' L 29 #[.slice none 0 0, .slice none 0 0] ∧ w.grownBy w' (some L) := by
  have hlt := lies_lt hL
  have hz25 := zero25
  have hz29 := zero29
  have LB := lies_new w 29 #[.slice none 0 0, .slice none 0 0]
  have PX := Lib.hid (show Ps w L (w.alloc (.cells #[.slice none 0 0, .slice none 0 0] 29)) from ⟨World.grownBy_alloc w _ _, by simp, lies_alloc hL _, LB⟩)
  have HS := Lib.hid hS
  have HP := Lib.hid hp
  have t0 := lies_cell LB 0
  have t1 := lies_cell LB 1
  simp only [List.getElem?_toArray, List.getElem?_cons_zero, List.getElem?_cons_succ] at t0 t1
  have hc' : ¬ (4096 : Int) < (n : Int) := by omega
  have HN := Lib.hid hn
  clear hL hS hp LB hn
  go_enter Try.func8, Try.ntmps8
  go_upto_region 1 with (fail)
  generalize w.alloc (.cells #[.slice none 0 0, .slice none 0 0] 29) = X at *
  go_upto_region 4 with (go_at_call 12; (with_reducible refine (loose_nil X).mono ?_); rintro e w1 ⟨rfl, hb⟩; have P1 := Lib.hid (ps_below PX.out hb); clear hb)
  have t0 := lies_cell P1.out.2.2.2 0
  have t1 := lies_cell P1.out.2.2.2 1
  simp only [List.getElem?_toArray, List.getElem?_cons_zero, List.getElem?_cons_succ] at t0 t1
  have K9 := Lib.hid (show_9 L (.slice none 0 0) (.slice none 0 0) _ _ rfl rfl w1 P1.out.2.2.1)
  go_upto_region 7 with (go_at_call 9; (with_reducible refine K9.out.mono ?_); rintro e w2 ⟨rfl, hs⟩; have P2 := Lib.hid (ps_shown hlt P1.out hs); clear hs)
  clear t0 t1 hc'
  go_wp2
  go_loopw [11, 12, 13, 14, 28] (fun _ _ _ _ v28 wr => ∃ i : Nat, i ≤ n ∧ v28 = .int .i64 (i : Int) ∧ Ps w L wr) (fun _ _ _ _ v28 _ => n - (intOf v28).toNat)
  case atStart => exact ⟨0, Nat.zero_le _, rfl, P2.out⟩
  case round =>
    obtain ⟨i, hi, rfl, hps⟩ := hrel
    by_cases hin : i < n
    · have LM := Lib.hid (show wr.rangeAt S (i * 5) [.int .i64 9, p, p, .int .i64 0, .int .i64 0] from fun j v hj => hps.1.cell (HS.out i hin j v hj) (by simpa using hSL))
      have LN := Lib.hid (lies_new wr 25 #[.int .i64 0, .string ⟨#[]⟩, .string ⟨#[]⟩, .int .i64 0, .int .i64 0])
      have ES := Lib.hid (setRow_alloc wr 25 #[.int .i64 0, .string ⟨#[]⟩, .string ⟨#[]⟩, .int .i64 0, .int .i64 0] #[.int .i64 9, p, p, .int .i64 0, .int .i64 0])
      have PR := Lib.hid hps
      have q0 : (0 : Int) ≤ (i : Int) := by omega
      have q1 : (i : Int) < (n : Int) := by omega
      have q2 : IntKind.i64.wrap ((i : Int) + 1) = ((i + 1 : Nat) : Int) := by rw [IntWalk.i64_in _ (by have := HN.out; omega)]; omega
      have HI := Lib.hid (show i + 1 ≤ n from hin)
      clear hps hi hin
      go_upto_region 10 with (first
        | (refine wpList_load_mid rfl 25 _ rfl S (i * 5) rfl [.int .i64 9, p, p, .int .i64 0, .int .i64 0] _ LM.out Try.underlying25 rfl (by kernel_rfl) ?_)
        | (refine wpList_store_row rfl 25 _ _ rfl wr.heap.size #[.int .i64 9, p, p, .int .i64 0, .int .i64 0] rfl rfl 25 _ LN.out (by kernel_rfl) rfl (one_sync HP.out) ?_; rw [ES.out]))
      obtain ⟨wx, hwx⟩ : ∃ wx, wx = wr.alloc (.cells #[.int .i64 9, p, p, .int .i64 0, .int .i64 0] 25) := ⟨_, rfl⟩
      rw [← hwx]
      have Lx := (show Lies wx wr.heap.size 25 #[.int .i64 9, p, p, .int .i64 0, .int .i64 0] by rw [hwx]; exact lies_new _ _ _)
      have Px := Lib.hid (show Ps w L wx by rw [hwx]; exact ps_below PR.out ((Below.refl _ _).alloc (Nat.le_refl _) _))
      clear hwx LN ES LM PR hz25
      have x0 := lies_cell Lx 0
      have x1 := lies_cell Lx 1
      have x2 := lies_cell Lx 2
      have x3 := lies_cell Lx 3
      have x4 := lies_cell Lx 4
      have t0 := lies_cell Px.out.2.2.2 0
      have t1 := lies_cell Px.out.2.2.2 1
      simp only [List.getElem?_toArray, List.getElem?_cons_zero, List.getElem?_cons_succ] at t0 t1 x0 x1 x2 x3 x4
      have KS := Lib.hid (step_sync none none 0 0 0 0 p p (.int .i64 0) (.int .i64 0) (.slice none 0 0) HP.out HP.out rfl rfl wx)
      clear Lx
      go_upto_region 11 with (first
        | (go_at_call 13; (with_reducible refine KS.out.mono ?_); rintro e w3 ⟨rfl, hb⟩; have P3 := Lib.hid (ps_below Px.out hb); have L3 := Lib.hid (lies_new w3 29 #[.slice none 0 0, .slice none 0 0]); have E3 := Lib.hid (setRow_alloc w3 29 #[.slice none 0 0, .slice none 0 0] #[.slice none 0 0, .slice none 0 0]); clear hb)
        | (refine wpList_store_row rfl 29 _ _ rfl w3.heap.size #[.slice none 0 0, .slice none 0 0] rfl rfl 29 _ L3.out (by kernel_rfl) rfl (by simp [Value.oneCell']) ?_; rw [E3.out]))
      obtain ⟨wy, hwy⟩ : ∃ wy, wy = w3.alloc (.cells #[.slice none 0 0, .slice none 0 0] 29) := ⟨_, rfl⟩
      rw [← hwy]
      have Ly := (show Lies wy w3.heap.size 29 #[.slice none 0 0, .slice none 0 0] by rw [hwy]; exact lies_new _ _ _)
      have Py := Lib.hid (show Ps w L wy by rw [hwy]; exact ps_below P3.out ((Below.refl _ _).alloc (Nat.le_refl _) _))
      have Pz := Lib.hid (ps_set hlt Py.out)
      clear hwy L3 E3 P3 Px KS hz29 x0 x1 x2 x3 x4 t0 t1
      have y0 := lies_cell Ly 0
      have y1 := lies_cell Ly 1
      simp only [List.getElem?_toArray, List.getElem?_cons_zero, List.getElem?_cons_succ] at y0 y1
      clear Ly
      go_upto_region 14 with (refine wpList_store_row rfl 29 _ _ rfl w.heap.size #[.slice none 0 0, .slice none 0 0] rfl rfl 29 _ Py.out.2.2.2 (by kernel_rfl) rfl (by simp [Value.oneCell']) ?_)
      clear y0 y1
      generalize wy.setRow w.heap.size #[.slice none 0 0, .slice none 0 0] = wz at *
      have t0 := lies_cell Pz.out.2.2.2 0
      have t1 := lies_cell Pz.out.2.2.2 1
      simp only [List.getElem?_toArray, List.getElem?_cons_zero, List.getElem?_cons_succ] at t0 t1
      have KZ := Lib.hid (show_9 L (.slice none 0 0) (.slice none 0 0) _ _ rfl rfl wz Pz.out.2.2.1)
      go_wp2_with (go_at_call 9; (with_reducible refine KZ.out.mono ?_); rintro e w6 ⟨rfl, hs⟩; have P6 := Lib.hid (ps_shown hlt Pz.out hs); clear hs)
      go_roundw
      case rel => exact ⟨i + 1, HI.out, rfl, P6.out⟩
      case measure => have := HI.out; simp [intOf]; omega
    · have hin2 : ¬ (i : Int) < (n : Int) := by omega
      obtain rfl : i = n := by omega
      have PE := Lib.hid hps
      clear hps hz25 hz29 hi hin
      go_wp2
      (try simp only [Exit.inBlock, Exit.then])
      refine bodyPost_ret (results_tmp2 rfl _ _ _) rfl ?_
      exact ⟨rfl, PE.out.2.2.1, PE.out.1⟩
end Go.Proofs.Ytciafdbhkfhidaa
