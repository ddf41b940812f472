/-
What is proved here: the law StockMany's walk.
-/
import Derived.Test.YtlnmaejpchncoaaChk
set_option linter.unusedSimpArgs false
namespace Go.Stk
theorem chk_zero : ∀ k, chkL 0 (List.replicate k 0) = 0
  | 0 => rfl
  | k + 1 => by
    rw [List.replicate_succ]
    unfold chkL
    rw [if_neg (by omega)]
    exact chk_zero k
theorem check_zero (k : Nat) : checkL (List.replicate k 0) = if 65535 < k then 2 else 0 := by
  unfold checkL
  rw [List.length_replicate, chk_zero]
end Go.Stk
namespace Go.Proofs.Ytlnmaejpchncoaa
open Go.Stk Go.RowKit Go.Word
attribute [local go_sem] guard_eq guard_ne st_eql st_neq
theorem slice_info : (Try.prog.info? 31).map (fun i => (i.zero, i.size, i.bytes)) = some (some (.slice none 0 0), 1, 24) := by kernel_rfl
theorem mk_bytes (W : World) (n : Nat) (h : n ≤ 16000000) : (Instr.makeSlice 31 (.int .i64 (n : Int)) (.int .i64 (n : Int))).run Try.prog W =
    .ok (.slice (some ⟨W.heap.size, 0, none⟩) n n) (W.alloc (.cells (madeCells #[.int .u8 0] n) 5)) := by
  obtain ⟨i, hi, hz0, hz1, hz2⟩ := info_parts byte_info
  have := run_makeSlice (P := Try.prog) W 31 5 i (.int .u8 0) Try.underlying31 hi hz0 .i64 .i64 (n : Int) (n : Int) (by omega) (by omega) (by rw [hz1]; omega) (by rw [hz2]; omega) (by omega)
  rw [this, hz1, Int.toNat_natCast, Nat.mul_one]
  rfl
theorem mk_slices (W : World) (n : Nat) (h : n ≤ 1000000) : (Instr.makeSlice 30 (.int .i64 (n : Int)) (.int .i64 (n : Int))).run Try.prog W =
    .ok (.slice (some ⟨W.heap.size, 0, none⟩) n n) (W.alloc (.cells (madeCells #[.slice none 0 0] n) 31)) := by
  obtain ⟨i, hi, hz0, hz1, hz2⟩ := info_parts slice_info
  have := run_makeSlice (P := Try.prog) W 30 31 i (.slice none 0 0) Try.underlying30 hi hz0 .i64 .i64 (n : Int) (n : Int) (by omega) (by omega) (by rw [hz1]; omega) (by rw [hz2]; omega) (by omega)
  rw [this, hz1, Int.toNat_natCast, Nat.mul_one]
  rfl
theorem made_at (v : Value) (n j : Nat) (h : j < n) : (madeCells #[v] n)[j]? = some v := by
  simp [madeCells, h, Nat.mod_one]
theorem made_zero (n : Nat) : madeCells #[.int .u8 0] n = ((List.replicate n (0 : UInt8)).map yB).toArray := by
  refine Array.ext_getElem? fun j => ?_
  by_cases h : j < n
  · rw [made_at _ n j h, List.getElem?_toArray, List.getElem?_map, List.getElem?_replicate, if_pos h]
    rfl
  · rw [Array.getElem?_eq_none (by simp [madeCells]; omega), List.getElem?_toArray, List.getElem?_eq_none (by simp; omega)]
theorem lens_made (W : World) (n : Nat) : LensAt (W.alloc (.cells (madeCells #[.slice none 0 0] n) 31)) (some ⟨W.heap.size, 0, none⟩) (List.replicate n 0) := fun i hi => by
  have hn : i < n := by simpa using hi
  refine ⟨W.heap.size, 0, none, 0, rfl, by simp, ?_⟩
  rw [lies_cell (lies_new W 31 _), Nat.zero_add, made_at _ n i hn]
  simp
set_option maxRecDepth 100000 in
set_option maxHeartbeats 4000000 in
theorem many_law (z : Int) (w : World) : Calls Try.prog 4 #[.int .i64 z] w fun e w' => e = .returned (.bool true) ∧ Below w.heap.size w w' := by
  by_cases hlo : z < 65530
  · go_enter Try.func4, Try.ntmps4
    go_wp2_with (go_at_call 8; (with_reducible refine (alive_any _).mono ?_); rintro e w1 ⟨rfl, hb⟩; have B1 := Lib.hid hb; clear hb)
    go_ret
    exact ⟨rfl, B1.out⟩
  by_cases hhi : 65540 < z
  · go_enter Try.func4, Try.ntmps4
    go_wp2_with (go_at_call 8; (with_reducible refine (alive_any _).mono ?_); rintro e w1 ⟨rfl, hb⟩; have B1 := Lib.hid hb; clear hb)
    go_ret
    exact ⟨rfl, B1.out⟩
  obtain ⟨n, rfl⟩ : ∃ n : Nat, z = n := ⟨z.toNat, by omega⟩
  have mk := fun (w1 : World) => mk_slices w1 n (by omega)
  have CK := fun (w1 : World) => Lib.hid (check_any (some ⟨w1.heap.size, 0, none⟩) n (List.replicate n 0) _ (lens_made w1 n) (fun k hk => by rw [List.mem_replicate] at hk; omega))
  rw [List.length_replicate, check_zero] at CK
  by_cases hm : 65535 < n
  · rw [if_pos hm] at CK
    have h1 : (65535 : Int) < (n : Int) := by omega
    have h2 : decide ((n : Int) ≤ 65535) = false := decide_eq_false (by omega)
    go_enter Try.func4, Try.ntmps4
    go_upto_region 5 with (first
      | (go_at_call 8; (with_reducible refine (alive_any _).mono ?_); rintro e w1 ⟨rfl, hb⟩; have B1 := Lib.hid hb; clear hb; have mk1 := mk w1; have CK1 := CK w1)
      | (go_at_call 20; (with_reducible refine CK1.out.mono ?_); rintro e w2 ⟨rfl, rfl⟩))
    go_wp2_with (go_at_call 11; (with_reducible refine (num_any _ _).mono ?_); rintro e w1' ⟨rfl, rfl⟩)
    go_ret
    exact ⟨rfl, B1.out.alloc B1.out.size _⟩
  · rw [if_neg hm] at CK
    have h1 : decide ((65535 : Int) < (n : Int)) = false := decide_eq_false (by omega)
    have h2 : ((n : Int) ≤ 65535) := by omega
    go_enter Try.func4, Try.ntmps4
    go_upto_region 5 with (first
      | (go_at_call 8; (with_reducible refine (alive_any _).mono ?_); rintro e w1 ⟨rfl, hb⟩; have B1 := Lib.hid hb; clear hb; have mk1 := mk w1; have CK1 := CK w1)
      | (go_at_call 20; (with_reducible refine CK1.out.mono ?_); rintro e w2 ⟨rfl, rfl⟩))
    go_wp2_with (go_at_call 11; (with_reducible refine (num_any _ _).mono ?_); rintro e w1' ⟨rfl, rfl⟩)
    go_ret
    exact ⟨rfl, B1.out.alloc B1.out.size _⟩
end Go.Proofs.Ytlnmaejpchncoaa
