/-
What is proved here: rows of byte slices of one's own; the law StockBytes's walk.
-/
import Derived.Test.YtlnmaejpchncoaaMny
set_option linter.unusedSimpArgs false
namespace Go.Stk
theorem chk_data : ∀ (k a : Nat) (r : List Nat), a + k * 8192 ≤ 65536 → chkL a (List.replicate k 8192 ++ r) = chkL (a + k * 8192) r
  | 0, a, r, _ => by simp
  | k + 1, a, r, h => by
    rw [List.replicate_succ, List.cons_append]
    conv => lhs; unfold chkL
    rw [if_neg (by omega), chk_data k (a + 8192) r (by omega)]
    congr 1
    omega
theorem check_data (m : Nat) (h : m ≤ 3) : checkL (List.replicate 8 8192 ++ [m]) = if m = 0 then 0 else 2 := by
  unfold checkL
  rw [if_neg (by simp), chk_data 8 0 [m] (by omega)]
  unfold chkL
  by_cases h0 : m = 0
  · rw [if_pos h0, if_neg (by omega)]
    rfl
  · rw [if_neg h0, if_pos (by omega)]
theorem check_one (m : Nat) (h : m ≤ 3) : checkL [8192 + m] = if m = 0 then 0 else 2 := by
  unfold checkL
  rw [if_neg (by simp)]
  unfold chkL
  by_cases h0 : m = 0
  · rw [if_pos h0, if_neg (by omega)]
    rfl
  · rw [if_neg h0, if_pos (by omega)]
end Go.Stk
namespace Go.Proofs.Ytlnmaejpchncoaa
open Go.Stk Go.RowKit Go.Word
attribute [local go_sem] guard_eq guard_ne st_eql st_neq
theorem app_slice (w : World) (B : Nat) (ty : TypeId) (v : Value) (n : Nat) (xs : List Value) (ho : w.ownsRow B 31 1 v n xs) (g : Nat) (u : Value) (hu : u.oneCell' = true) (hl : w.cell? ⟨g, 0, none⟩ = some u) (hb1 : n ≤ 1000000) (hB : B ≤ w.heap.size) :
    ∃ v' w', (Builtin.append_ #[30, 30] ty #[v, .slice (some ⟨g, 0, none⟩) 1 1]).run Try.prog w = .ok v' w' ∧ w'.ownsRow B 31 1 v' (n + 1) (xs ++ [u]) ∧ w.grownBy w' v.ownBlock ∧ (v'.ownBlock = v.ownBlock ∨ v'.ownBlock = some w.heap.size) := by
  obtain ⟨i0, hi, hz0, hz1, hz2⟩ := info_parts slice_info
  obtain ⟨v', w', h1, h2, h3, _, h5⟩ := run_append_own_at (P := Try.prog) w B 30 ty 31 i0 (.slice none 0 0) 1 24 Try.underlying30 hi hz0 hz1 hz2 rfl (by decide) v n xs ho ⟨g, 0, none⟩ 1 1 [u] rfl (fun j x hj => by
      match j, hj with
      | 0, hj => injection hj with hj; subst hj; exact hl
      | j + 1, hj => simp at hj) (fun x hx => by simp at hx; subst hx; exact hu) (by unfold maxLen; omega) (by omega) hB
  exact ⟨v', w', h1, h2, h3, h5⟩
/-- a row of byte slices of one's own, so long each -/
def SlOwn (w : World) (B : Nat) (v : Value) (ns : List Nat) : Prop := ∃ xs, w.ownsRow B 31 1 v ns.length xs ∧ ∀ i (h : i < ns.length), ∃ DA dc, xs[i]? = some (.slice DA ns[i] dc)
theorem sl_nil (w : World) (B : Nat) : SlOwn w B (.slice none 0 0) [] := ⟨[], World.ownsRow_nil _ _ _ _, fun i h => by cases h⟩
theorem sl_lens {w : World} {B : Nat} {A : Option Addr} {n c : Nat} {ns : List Nat} (h : SlOwn w B (.slice A n c) ns) : n = ns.length ∧ LensAt w A ns := by
  obtain ⟨xs, h1, h2⟩ := h
  rcases h1.2 with ⟨e, e0⟩ | ⟨g, cap, cur, e, hg, hb, hc, _⟩
  · injection e with a b d
    subst a b d
    exact ⟨e0.symm, fun i hi => by omega⟩
  · injection e with a b d
    subst a b d
    refine ⟨rfl, fun i hi => ?_⟩
    obtain ⟨DA, dc, h3⟩ := h2 i hi
    refine ⟨g, 0, DA, dc, rfl, (Array.getElem?_eq_some_iff.1 hb).1, ?_⟩
    rw [Nat.zero_add, h1.cellAt _ (by omega), h3]
theorem sl_len {w : World} {B : Nat} {v : Value} {ns : List Nat} (h : SlOwn w B v ns) : ∃ A c, v = .slice A ns.length c := by
  obtain ⟨xs, h1, _⟩ := h
  exact own_slice h1
theorem sl_below {w w' : World} {B : Nat} {v : Value} {ns : List Nat} (h : SlOwn w B v ns) (hb : Below w.heap.size w w') : SlOwn w' B v ns := by
  obtain ⟨xs, h1, h2⟩ := h
  exact ⟨xs, own_same h1 (fun b _ hl => hb.block b hl), h2⟩
theorem sl_app (w : World) (B : Nat) (ty : TypeId) (v : Value) (ns : List Nat) (ho : SlOwn w B v ns) (g : Nat) (DA : Option Addr) (k dc : Nat) (hl : w.cell? ⟨g, 0, none⟩ = some (.slice DA k dc)) (hb1 : ns.length ≤ 1000000) (hB : B ≤ w.heap.size) :
    ∃ v' w', (Builtin.append_ #[30, 30] ty #[v, .slice (some ⟨g, 0, none⟩) 1 1]).run Try.prog w = .ok v' w' ∧ SlOwn w' B v' (ns ++ [k]) ∧ Below B w w' := by
  obtain ⟨xs, h1, h2⟩ := ho
  obtain ⟨v', w', h3, h4, h5, _⟩ := app_slice w B ty v ns.length xs h1 g (.slice DA k dc) rfl hl hb1 hB
  refine ⟨v', w', h3, ⟨xs ++ [.slice DA k dc], by rw [List.length_append]; exact h4, fun i hi => ?_⟩, (Below.refl B w).grown h5 hB (fun j ej => (World.ownsRow.lt h1 j ej).1)⟩
  have hx : xs.length = ns.length := by have := h1.1; omega
  rw [List.length_append, List.length_singleton] at hi
  by_cases e : i < ns.length
  · obtain ⟨A, d, h6⟩ := h2 i e
    exact ⟨A, d, by rw [List.getElem?_append_left (by omega), h6, List.getElem_append_left e]⟩
  · have e2 : i = ns.length := by omega
    subst e2
    refine ⟨DA, dc, ?_⟩
    rw [List.getElem?_append_right (by omega), hx, Nat.sub_self]
    simp
set_option maxRecDepth 100000 in
set_option maxHeartbeats 4000000 in
theorem bytes_law (z : Int) (w : World) : Calls Try.prog 5 #[.int .i64 z] w fun e w' => e = .returned (.bool true) ∧ Below w.heap.size w w' := by
  by_cases hlo : z < 0
  · go_enter Try.func5, Try.ntmps5
    go_wp2_with (go_at_call 8; (with_reducible refine (alive_any _).mono ?_); rintro e w1 ⟨rfl, hb⟩; have B1 := Lib.hid hb; clear hb)
    go_ret
    exact ⟨rfl, B1.out⟩
  by_cases hhi : 3 < z
  · go_enter Try.func5, Try.ntmps5
    go_wp2_with (go_at_call 8; (with_reducible refine (alive_any _).mono ?_); rintro e w1 ⟨rfl, hb⟩; have B1 := Lib.hid hb; clear hb)
    go_ret
    exact ⟨rfl, B1.out⟩
  obtain ⟨m, rfl⟩ : ∃ m : Nat, z = m := ⟨z.toNat, by omega⟩
  have mk : ∀ W : World, (Instr.makeSlice 31 (.int .i64 8192) (.int .i64 8192)).run Try.prog W = .ok (.slice (some ⟨W.heap.size, 0, none⟩) 8192 8192) (W.alloc (.cells (madeCells #[.int .u8 0] 8192) 5)) := fun W => mk_bytes W 8192 (by omega)
  have mk2 := fun W => mk_bytes W m (by omega)
  have mk3 : ∀ W : World, (Instr.makeSlice 31 (.int .i64 (8192 + (m : Int))) (.int .i64 (8192 + (m : Int)))).run Try.prog W = .ok (.slice (some ⟨W.heap.size, 0, none⟩) (8192 + m) (8192 + m)) (W.alloc (.cells (madeCells #[.int .u8 0] (8192 + m)) 5)) := fun W => mk_bytes W (8192 + m) (by omega)
  go_enter Try.func5, Try.ntmps5
  go_upto_region 4 with (go_at_call 8; (with_reducible refine (alive_any _).mono ?_); rintro e w1 ⟨rfl, hb⟩; have B1 := Lib.hid hb; clear hb)
  go_wp2
  go_loopw [4, 5] (fun v4 v5 wr => ∃ (i : Nat) (A : Option Addr) (c : Nat), i ≤ 8 ∧ v4 = .slice A i c ∧ v5 = .int .i64 (i : Int) ∧ SlOwn wr w.heap.size (.slice A i c) (List.replicate i 8192) ∧ Below w.heap.size w wr) (fun _ v5 _ => 8 - (intOf v5).toNat)
  case atStart => exact ⟨0, none, 0, by omega, rfl, rfl, sl_nil _ _, B1.out⟩
  case round =>
    obtain ⟨i, A, c, hi, rfl, rfl, hs, hb⟩ := hrel
    by_cases hlt : i < 8
    · have li : (i : Int) < 8 := by omega
      have HB := Lib.hid hb
      have b2 : Below wr.heap.size wr ((wr.alloc (.cells (madeCells #[.int .u8 0] 8192) 5)).alloc (.cells #[.slice (some ⟨wr.heap.size, 0, none⟩) 8192 8192] 31)) := ((Below.refl _ _).alloc (Nat.le_refl _) _).alloc (by simp) _
      obtain ⟨v', w', hr, ho, hg⟩ := sl_app _ w.heap.size 30 (.slice A i c) _ (sl_below hs b2) (wr.heap.size + 1) (some ⟨wr.heap.size, 0, none⟩) 8192 8192 (by
        have := lies_cell (lies_new (wr.alloc (.cells (madeCells #[.int .u8 0] 8192) 5)) 31 #[.slice (some ⟨wr.heap.size, 0, none⟩) 8192 8192]) 0
        rw [World.size_alloc] at this
        exact this) (by rw [List.length_replicate]; omega) (Nat.le_trans hb.size b2.size)
      rw [← List.replicate_succ'] at ho
      obtain ⟨A2, c2, e2⟩ := sl_len ho
      rw [List.length_replicate] at e2
      subst e2
      have HR := Lib.hid hr
      have HO := Lib.hid ho
      have HG := Lib.hid ((hb.trans (b2.mono hb.size)).trans hg)
      have mkr := mk wr
      clear hs hb b2 hr ho hg
      go_wp2_with (refine wpList_app_run rfl _ _ rfl rfl rfl HR.out ?_)
      go_roundw
      case rel => exact ⟨i + 1, A2, c2, by omega, rfl, by go_num, HO.out, HG.out⟩
      case measure => first | (simp [intOf]; done) | (simp [intOf]; omega)
    · have e8 : i = 8 := by omega
      subst e8
      have HB := Lib.hid hb
      have HS := Lib.hid hs
      clear hs hb
      have b2 : Below wr.heap.size wr ((wr.alloc (.cells (madeCells #[.int .u8 0] m) 5)).alloc (.cells #[.slice (some ⟨wr.heap.size, 0, none⟩) m m] 31)) := ((Below.refl _ _).alloc (Nat.le_refl _) _).alloc (by simp) _
      obtain ⟨v', w', hr, ho, hg⟩ := sl_app _ w.heap.size 30 (.slice A 8 c) _ (sl_below HS.out b2) (wr.heap.size + 1) (some ⟨wr.heap.size, 0, none⟩) m m (by
        have := lies_cell (lies_new (wr.alloc (.cells (madeCells #[.int .u8 0] m) 5)) 31 #[.slice (some ⟨wr.heap.size, 0, none⟩) m m]) 0
        rw [World.size_alloc] at this
        exact this) (by rw [List.length_replicate]; omega) (Nat.le_trans HB.out.size b2.size)
      obtain ⟨A2, c2, e2⟩ := sl_len ho
      rw [List.length_append, List.length_replicate, List.length_singleton] at e2
      subst e2
      have HR := Lib.hid hr
      have CK := Lib.hid (check_any A2 c2 _ w' (sl_lens ho).2 (fun k hk => by
        rcases List.mem_append.1 hk with h | h
        · rw [List.mem_replicate] at h; omega
        · rw [List.mem_singleton] at h; omega))
      rw [List.length_append, List.length_replicate, List.length_singleton, check_data m (by omega)] at CK
      have HG := Lib.hid ((HB.out.trans (b2.mono HB.out.size)).trans hg)
      have b3 : Below w'.heap.size w' ((w'.alloc (.cells (madeCells #[.int .u8 0] (8192 + m)) 5)).alloc (.cells #[.slice (some ⟨w'.heap.size, 0, none⟩) (8192 + m) (8192 + m)] 31)) := ((Below.refl _ _).alloc (Nat.le_refl _) _).alloc (by simp) _
      have HG2 := Lib.hid (HG.out.trans (b3.mono HG.out.size))
      have CK2 := Lib.hid (check_any (some ⟨w'.heap.size + 1, 0, none⟩) 1 [8192 + m] ((w'.alloc (.cells (madeCells #[.int .u8 0] (8192 + m)) 5)).alloc (.cells #[.slice (some ⟨w'.heap.size, 0, none⟩) (8192 + m) (8192 + m)] 31)) (fun i hi => by
        have hi0 : i = 0 := by simpa using hi
        subst hi0
        refine ⟨w'.heap.size + 1, 0, some ⟨w'.heap.size, 0, none⟩, 8192 + m, rfl, by rw [World.size_alloc, World.size_alloc]; omega, ?_⟩
        have := lies_cell (lies_new (w'.alloc (.cells (madeCells #[.int .u8 0] (8192 + m)) 5)) 31 #[.slice (some ⟨w'.heap.size, 0, none⟩) (8192 + m) (8192 + m)]) 0
        rw [World.size_alloc] at this
        exact this) (fun k hk => by rw [List.mem_singleton] at hk; omega))
      rw [check_one m (by omega), List.length_singleton] at CK2
      have mk2r := mk2 wr
      have mk3r := mk3 w'
      clear mk mk2 mk3 b2 b3 hr ho hg HS
      by_cases h0 : m = 0
      · rw [if_pos h0] at CK CK2
        have z1 : ((m : Int) == 0) = true := by simp; omega
        have z2 : decide ((0 : Int) < (m : Int)) = false := decide_eq_false (by omega)
        have z3 : decide (0 < m) = false := decide_eq_false (by omega)
        clear h0
        go_upto_region 10 with (refine wpList_app_run rfl _ _ rfl rfl rfl HR.out ?_)
        go_upto_region 11 with (go_at_call 20; (with_reducible refine CK.out.mono ?_); rintro e w2 ⟨rfl, rfl⟩)
        go_upto_region 12 with (go_at_call 20; (with_reducible refine CK2.out.mono ?_); rintro e w2 ⟨rfl, rfl⟩)
        go_wp2_with (go_at_call 11; (with_reducible refine (num_any _ _).mono ?_); rintro e w1' ⟨rfl, rfl⟩)
        go_ret
        exact ⟨rfl, HG2.out⟩
      · rw [if_neg h0] at CK CK2
        have z1 : ((m : Int) == 0) = false := by simp; omega
        have z2 : decide ((0 : Int) < (m : Int)) = true := decide_eq_true (by omega)
        have z3 : decide (0 < m) = true := decide_eq_true (by omega)
        clear h0
        go_upto_region 10 with (refine wpList_app_run rfl _ _ rfl rfl rfl HR.out ?_)
        go_upto_region 11 with (go_at_call 20; (with_reducible refine CK.out.mono ?_); rintro e w2 ⟨rfl, rfl⟩)
        go_upto_region 12 with (go_at_call 20; (with_reducible refine CK2.out.mono ?_); rintro e w2 ⟨rfl, rfl⟩)
        go_wp2_with (go_at_call 11; (with_reducible refine (num_any _ _).mono ?_); rintro e w1' ⟨rfl, rfl⟩)
        go_ret
        exact ⟨rfl, HG2.out⟩
end Go.Proofs.Ytlnmaejpchncoaa
