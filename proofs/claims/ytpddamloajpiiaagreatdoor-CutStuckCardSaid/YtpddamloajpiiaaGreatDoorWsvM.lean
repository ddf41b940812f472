/-
What is proved here: cut's movable, by a contract.
-/
import Derived.Test.YtpddamloajpiiaaGreatDoorWsnM
set_option linter.unusedSimpArgs false
set_option linter.unusedVariables false
namespace Go.Proofs.YtpddamloajpiiaaGreatDoor
open Go.Cmp Go.RowKit Go.Cut Go.Pth Go.Word Go.Shelf
attribute [local go_sem] guard_eq guard_ne st_eql st_neq store_fn
theorem store_s (P : Program) (w : World) (a : Addr) (x : Bt) : (store a (St x)).run P w = stored P w a (St x) .plain := run_store P w a _ .plain rfl
attribute [local go_sem] store_s
def zAc : Array Value := #[.int .i64 0, .string { data := #[] }, .string { data := #[] }, .int .i64 0, .int .i64 0]
set_option maxRecDepth 100000 in
set_option maxHeartbeats 4000000 in
theorem movable_any (WB n c : Nat) (fs sn cn : Int) (to : Bt) (A : Option Addr) (nv : Value) (l : List Ac) (i : Nat) (hi : i < l.length) (w : World) (hW : Lies w WB 49 #[.int .i64 fs, .int .i64 sn, St to, .slice A n c, nv, .int .i64 cn]) (hn : n = l.length) (hA : ActsAt w A l) (hp : (l[i]).p.length ≤ 100000) :
    Calls Tryz.prog 35 #[.pointer (some ⟨WB, 0, none⟩), .int .i64 (i : Int)] w fun e w' => e = .returned (.bool (movP keptP l[i])) ∧ Below w.heap.size w w' := by
  obtain ⟨b, o, eA, hb, hr⟩ := hA i hi
  subst eA
  obtain ⟨a, ha⟩ : ∃ a, a = l[i] := ⟨_, rfl⟩
  rw [← ha] at hr hp ⊢
  have hin : (i : Int) < (n : Int) := by omega
  have i0 : (0 : Int) ≤ (i : Int) := by omega
  have c3 := lies_cell hW 3
  simp only [List.getElem?_toArray, List.getElem?_cons_zero, List.getElem?_cons_succ] at c3
  obtain ⟨z, p, t, m, r⟩ := a
  have hr2 : w.rangeAt b (o + i * 5) [.int .i64 z, St p, St t, .int .i64 m, .int .i64 r] := hr
  have R1 := Lib.hid hr2
  have LX := lies_new w 29 #[.int .i64 z, St p, St t, .int .i64 m, .int .i64 r]
  have x0 := lies_cell LX 0
  have x1 := lies_cell LX 1
  simp only [List.getElem?_toArray, List.getElem?_cons_zero, List.getElem?_cons_succ] at x0 x1
  have HB := Lib.hid (show Below w.heap.size w (w.alloc (.cells #[.int .i64 z, St p, St t, .int .i64 m, .int .i64 r] 29)) from (Below.refl _ w).alloc (Nat.le_refl _) _)
  have KK := Lib.hid (fun W => kept_any p hp W)
  clear hr hr2 hW LX hA
  have hmv : movP keptP ⟨z, p, t, m, r⟩ = (decide (z = 3) && !keptP p) := rfl
  rw [hmv]
  by_cases h3 : z = 3
  · subst h3
    go_enter Tryz.func35, Tryz.ntmps35
    go_upto_region 2 with (refine wpList_load_mid rfl 29 _ rfl b (o + i * 5) rfl [.int .i64 3, St p, St t, .int .i64 m, .int .i64 r] _ R1.out Tryz.underlying29 rfl (by kernel_rfl) ?_)
    go_wp2_with (go_at_call 59; (with_reducible refine (KK.out _).mono ?_); rintro e w1 ⟨rfl, hb1⟩; have HB1 := Lib.hid hb1; clear hb1)
    go_ret
    exact ⟨by simp, HB.out.trans (HB1.out.mono HB.out.size)⟩
  · have e3 : (z == 3) = false := by simpa using h3
    go_enter Tryz.func35, Tryz.ntmps35
    go_upto_region 2 with (refine wpList_load_mid rfl 29 _ rfl b (o + i * 5) rfl [.int .i64 z, St p, St t, .int .i64 m, .int .i64 r] _ R1.out Tryz.underlying29 rfl (by kernel_rfl) ?_)
    go_wp2
    go_ret
    exact ⟨by simp [h3], HB.out⟩
end Go.Proofs.YtpddamloajpiiaaGreatDoor
