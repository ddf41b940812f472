/-
What is proved here: the library's sort and compaction of no or one number, by contracts.
-/
import Derived.Test.YtmajjcmihpjchaaRul
import Derived.Great.Walk
set_option linter.unusedSimpArgs false
set_option linter.unusedVariables false
namespace Go.Proofs.Ytmajjcmihpjchaa
open Go.Pth Go.Tre Go.RowKit Go.Word Go.Shelf Go.Mat Go.Gra
set_option maxRecDepth 100000 in
theorem len64_0 (w : World) : Calls Try.prog 52 #[.int .u64 0] w fun e w' => e = .returned (.int .i64 0) ∧ w = w' := by
  go_enter Try.func52, Try.ntmps52
  go_wp2
  go_ret
  exact ⟨by kernel_rfl, rfl⟩
set_option maxRecDepth 100000 in
theorem len64_1 (w : World) : Calls Try.prog 52 #[.int .u64 1] w fun e w' => e = .returned (.int .i64 1) ∧ w = w' := by
  go_enter Try.func52, Try.ntmps52
  go_wp2
  go_ret
  exact ⟨by kernel_rfl, rfl⟩
theorem len_0 (w : World) : Calls Try.prog 31 #[.int .u64 0] w fun e w' => e = .returned (.int .i64 0) ∧ w = w' := by
  go_enter Try.func31, Try.ntmps31
  go_wp2_with (go_at_call 52; (with_reducible refine (len64_0 w).mono ?_); rintro e w1 ⟨rfl, rfl⟩)
  go_ret
  exact ⟨rfl, rfl⟩
theorem len_1 (w : World) : Calls Try.prog 31 #[.int .u64 1] w fun e w' => e = .returned (.int .i64 1) ∧ w = w' := by
  go_enter Try.func31, Try.ntmps31
  go_wp2_with (go_at_call 52; (with_reducible refine (len64_1 w).mono ?_); rintro e w1 ⟨rfl, rfl⟩)
  go_ret
  exact ⟨rfl, rfl⟩
theorem ins_any (A : Option Addr) (k c : Nat) (hk : k ≤ 1) (w : World) : Calls Try.prog 42 #[.slice A k c, .int .i64 0, .int .i64 (k : Int)] w fun e w' => e = .returned (.tuple #[]) ∧ w = w' := by
  have l1 : ¬ (1 : Int) < (k : Int) := by omega
  clear hk
  go_enter Try.func42, Try.ntmps42
  go_wp2
  go_loopw [6] (fun v6 wr => v6 = .int .i64 1 ∧ w = wr) (fun _ _ => 0)
  case atStart => exact ⟨rfl, rfl⟩
  case round =>
    obtain ⟨rfl, hw⟩ := hrel
    subst hw
    go_wp2
    exact Go.Great.bodyPost_end0 rfl rfl ⟨rfl, rfl⟩
set_option maxRecDepth 100000 in
theorem pdq_any (A : Option Addr) (k c : Nat) (hk : k ≤ 1) (lim : Int) (w : World) : Calls Try.prog 30 #[.slice A k c, .int .i64 0, .int .i64 (k : Int), .int .i64 lim] w fun e w' => e = .returned (.tuple #[]) ∧ w = w' := by
  have l1 : (k : Int) ≤ 12 := by omega
  have K := Lib.hid (ins_any A k c hk w)
  have hk2 : (k : Int) ≤ 1 := by omega
  go_enter Try.func30, Try.ntmps30
  go_wp2
  go_loopw [1, 2, 3] (fun v1 v2 v3 wr => v1 = .int .i64 0 ∧ v2 = .int .i64 (k : Int) ∧ v3 = .int .i64 lim ∧ w = wr) (fun _ _ _ _ => 0)
  case atStart => exact ⟨rfl, rfl, rfl, rfl⟩
  case round =>
    obtain ⟨rfl, rfl, rfl, hw⟩ := hrel
    subst hw
    go_wp2_with (go_at_call 42; (with_reducible refine K.out.mono ?_); rintro e w1 ⟨rfl, rfl⟩)
    (try simp only [Exit.inBlock, Exit.then])
    refine bodyPost_ret (results_none rfl _ _ _) rfl ⟨rfl, rfl⟩
set_option maxRecDepth 100000 in
theorem sort_01 (A : Option Addr) (k c : Nat) (hk : k ≤ 1) (w : World) : Calls Try.prog 21 #[.slice A k c] w fun e w' => e = .returned (.tuple #[]) ∧ w = w' := by
  rcases (show k = 0 ∨ k = 1 by omega) with rfl | rfl
  · have K := Lib.hid (fun lim => (show Calls Try.prog 30 #[.slice A 0 c, .int .i64 0, .int .i64 0, .int .i64 lim] w fun e w' => e = .returned (.tuple #[]) ∧ w = w' from pdq_any A 0 c (by omega) lim w))
    go_enter Try.func21, Try.ntmps21
    go_wp2_with (first
      | (go_at_call 31; (with_reducible refine (len_0 w).mono ?_); rintro e w1 ⟨rfl, rfl⟩)
      | (go_at_call 30; (with_reducible refine (K.out 0).mono ?_); rintro e w1 ⟨rfl, rfl⟩))
    exact Go.Great.bodyPost_end0 rfl rfl ⟨rfl, rfl⟩
  · have K := Lib.hid (fun lim => (show Calls Try.prog 30 #[.slice A 1 c, .int .i64 0, .int .i64 1, .int .i64 lim] w fun e w' => e = .returned (.tuple #[]) ∧ w = w' from pdq_any A 1 c (by omega) lim w))
    go_enter Try.func21, Try.ntmps21
    go_wp2_with (first
      | (go_at_call 31; (with_reducible refine (len_1 w).mono ?_); rintro e w1 ⟨rfl, rfl⟩)
      | (go_at_call 30; (with_reducible refine (K.out 1).mono ?_); rintro e w1 ⟨rfl, rfl⟩))
    exact Go.Great.bodyPost_end0 rfl rfl ⟨rfl, rfl⟩
set_option maxRecDepth 100000 in
theorem compact_01 (A : Option Addr) (k c : Nat) (hk : k ≤ 1) (w : World) : Calls Try.prog 22 #[.slice A k c] w fun e w' => e = .returned (.slice A k c) ∧ w = w' := by
  have l1 : (k : Int) < 2 := by omega
  clear hk
  go_enter Try.func22, Try.ntmps22
  go_wp2
  go_ret
  exact ⟨rfl, rfl⟩
theorem int_info : (Try.prog.info? 3).map (fun i => (i.zero, i.size, i.bytes)) = some (some (.int .i64 0), 1, 8) := by kernel_rfl
def iV (z : Int) : Value := .int .i64 z
/-- a row of numbers of the call's own -/
def IntsO (w : World) (B : Nat) (v : Value) (zs : List Int) : Prop := w.ownsRow B 3 1 v zs.length (zs.map iV)
set_option maxRecDepth 100000 in
theorem ints_first (w : World) (B : Nat) (hB : B ≤ w.heap.size) (z : Int) : ∃ A C W2, (Builtin.append_ #[36, 36] 36 #[.slice none 0 0, .slice (some ⟨w.heap.size, 0, none⟩) 1 1]).run Try.prog (w.alloc (.cells #[.int .i64 z] 3)) = .ok (.slice A 1 C) W2 ∧
    IntsO W2 B (.slice A 1 C) [z] ∧ w.grownBy W2 none := by
  obtain ⟨i0, hi, hz0, hz1, hz2⟩ := info_parts int_info
  have L := lies_new w 3 #[.int .i64 z]
  obtain ⟨v', W2, hr, ho, hg, _⟩ := run_append_own (P := Try.prog) (w.alloc (.cells #[.int .i64 z] 3)) B 36 36 3 i0 _ 1 8 Try.underlying36 hi hz0 hz1 hz2 rfl (by decide) (.slice none 0 0) 0 [] (World.ownsRow_nil _ _ _ _) ⟨w.heap.size, 0, none⟩ 1 1 [.int .i64 z] rfl (fun q u hq => by
    match q, hq with
    | 0, hq => injection hq with hq; subst hq; exact lies_cell L 0
    | q + 1, hq => simp at hq) (fun u hu => by simp at hu; subst hu; rfl) (by unfold maxLen; omega) (by omega) (by simp; omega)
  have hv : ∃ A C, v' = .slice A 1 C := by
    rcases ho.2 with ⟨e1, e2⟩ | ⟨g, cap, cur, e1, _⟩
    · cases e2
    · exact ⟨_, _, e1⟩
  obtain ⟨A, C, rfl⟩ := hv
  refine ⟨A, C, W2, hr, ho, ?_⟩
  have ga := World.grownBy_alloc w (.cells #[.int .i64 z] 3) none
  exact ⟨hg.os.trans ga.os, hg.tape.trans ga.tape, hg.output.trans ga.output, Nat.le_trans ga.size hg.size, fun i hi hn => (hg.block i (Nat.lt_of_lt_of_le hi ga.size) (by simp [Value.ownBlock])).trans (ga.block i hi hn)⟩
end Go.Proofs.Ytmajjcmihpjchaa
