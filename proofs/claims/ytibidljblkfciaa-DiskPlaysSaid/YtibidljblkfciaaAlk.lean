/-
What is proved here: two disks that hold the same are alike, by the laws' helper.
-/
import Derived.Test.YtibidljblkfciaaClc
import Derived.Deep.QuietTactic
import Derived.BigQuiet
set_option linter.unusedSimpArgs false
namespace Go.Proofs.Ytibidljblkfciaa
open Go.Word Go.RowKit

section
variable {w w' : World} {g r n : Nat} {F : Bytes} {ws : List (Nat × Bytes)} {lf : Int} {fp fq : Nat → Prop}
theorem on_same (h : DK w g n F ws true lf fp) : Calls Try.prog 20 #[.pointer (some ⟨g, 0, none⟩)] w fun e w' => e = .returned (.bool true) ∧ w' = w := (dk_on w h).mono fun _ _ ⟨h1, h2⟩ => ⟨h1, h2.symm⟩
theorem blocks_same (h : DK w g n F ws true lf fp) : Calls Try.prog 30 #[.pointer (some ⟨g, 0, none⟩)] w fun e w' => e = .returned (.int .i64 (n : Int)) ∧ w' = w := (dk_blocks w h).mono fun _ _ ⟨h1, h2⟩ => ⟨h1, h2.symm⟩
set_option maxRecDepth 100000 in
set_option maxHeartbeats 4000000 in
theorem alike_any (w : World) (hN : ws.length ≤ 70000) (h : Two2 w g r n F ws true lf fp fq) :
    Calls Try.prog 17 #[.pointer (some ⟨g, 0, none⟩), .pointer (some ⟨r, 0, none⟩)] w fun e w' => e = .returned (.bool true) ∧ Below w.heap.size w w' := by
  obtain ⟨N, hNe⟩ : ∃ N, N = ws.length := ⟨_, rfl⟩
  have P := dk_pend w hN h.d
  rw [← hNe] at P hN
  have PP := Lib.hid P
  have H := Lib.hid h
  have HNE := Lib.hid hNe
  clear P h hNe
  go_enter Try.func17, Try.ntmps17
  go_upto_region 2 with (go_at_call 27; (with_reducible refine PP.out.mono ?_); rintro e W ⟨A, C, rfl, ho, hb⟩; have HO := Lib.hid ho; have HB := Lib.hid hb; clear ho hb)
  have H2 := two_below H.out HB.out
  obtain ⟨FB, C0, RA, RC, c0, c1, c2, c3, ce⟩ := rd_cells H2.r
  rw [← HNE.out] at c1
  have c3' : W.cell? ⟨r, 3, none⟩ = some (.bool false) := c3
  have hd2 := H2.d
  have DDN := Lib.hid (fun k : Nat => show DK (W.drewN k) g n F ws true lf fp from dk_below hd2 (below_drewN (Below.refl _ _) k))
  have CE := Lib.hid ce
  clear c2 c3 ce H2 hd2
  go_quiet ((first | (go_at_call 20; exact Calls.quiet_of_same (on_same (DDN.out _))) | (go_at_call 30; exact Calls.quiet_of_same (blocks_same (DDN.out _)))))
  have hc1 : ∀ X : World, Below W.heap.size W X → X.cell? ⟨r, 1, none⟩ = some (.slice RA N RC) := fun X hX => (hX.cell (p := ⟨r, 1, none⟩) (block_lt_of_cell c1)).trans c1
  have HC1 := Lib.hid hc1
  clear c0 c1 c3' hc1
  go_wp2
  go_loopw [6] (fun v wr => ∃ i : Nat, i ≤ N ∧ v = .int .i64 (i : Int) ∧ Below W.heap.size W wr) (fun v _ => N - (intOf v).toNat)
  case atStart => exact ⟨0, Nat.zero_le _, rfl, below_drewN (Below.refl _ _) _⟩
  case round =>
    obtain ⟨i, hi, rfl, hb⟩ := hrel
    have HBW := Lib.hid hb
    clear hb
    by_cases hlt : i < N
    · have lk : decide (i < N) = true := decide_eq_true hlt
      have li : (i : Int) < (N : Int) := by omega
      have hiw : i < ws.length := by have := HNE.out; omega
      obtain ⟨hbk, eRA, ce⟩ := CE.out i hiw
      obtain ⟨ha, eA⟩ : ∃ ha, A = some ⟨ha, 0, none⟩ := by
        rcases HO.out.2 with ⟨e, e0⟩ | ⟨gg, cap, cur, e, _⟩
        · omega
        · exact ⟨gg, by simpa using (by injection e : A = some ⟨gg, 0, none⟩)⟩
      have cA0 : W.cell? ⟨ha, i, none⟩ = some (.int .i64 (ws[i].1 : Int)) := by
        have ho := HO.out
        rw [eA] at ho
        rw [World.ownsRow.cellAt ho i (by omega)]
        simp [hiw]
      subst eRA eA
      have cA : wr.cell? ⟨ha, i, none⟩ = some (.int .i64 (ws[i].1 : Int)) := (HBW.out.cell (p := ⟨ha, i, none⟩) (block_lt_of_cell cA0)).trans cA0
      have cR : wr.cell? ⟨hbk, i * 513, none⟩ = some (.int .i64 (ws[i].1 : Int)) := (HBW.out.cell (p := ⟨hbk, i * 513, none⟩) (block_lt_of_cell ce)).trans ce
      have c1 := HC1.out wr HBW.out
      clear cA0 ce
      generalize (ws[i].1 : Int) = z at cA cR
      go_wp2
      go_quiet (fail)
      go_wp2
      go_roundw
      case rel => exact ⟨i + 1, by omega, by go_num, below_drewN HBW.out _⟩
      case measure => first | (simp [intOf]; done) | (simp [intOf]; omega)
    · have lk : decide (i < N) = false := decide_eq_false hlt
      have li : ¬ (i : Int) < (N : Int) := by omega
      go_wp2
      go_ret
      exact ⟨rfl, up HB.out HBW.out⟩
end
end Go.Proofs.Ytibidljblkfciaa
