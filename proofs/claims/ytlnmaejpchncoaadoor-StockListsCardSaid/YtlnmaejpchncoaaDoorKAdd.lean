/-
What is proved here: Add, by a contract.
-/
import Derived.Test.YtlnmaejpchncoaaDoorKPut
set_option linter.unusedSimpArgs false
namespace Go.Stk
/-- what Add tells, and the contents behind it -/
def addA (lim : Int) (cs : List Bt) (b : Bt) : Int × Int × List Bt :=
  if 8192 < b.length then (0, 2, cs) else if b ∈ cs then ((cs.idxOf b : Nat), 0, cs) else if lim < ((cs.flatten.length : Nat) : Int) + ((b.length : Nat) : Int) then (0, 27, cs) else ((cs.length : Nat), 0, cs ++ [b])
end Go.Stk
namespace Go.Proofs.YtlnmaejpchncoaaDoor.K
open Go.Stk Go.RowKit Go.Word
attribute [local go_sem] guard_eq guard_ne st_eql st_neq
section
variable {P : Nat → Prop} {g : Nat} {lim : Int} {cs : List Bt} {vB vE vM : Value}
set_option maxRecDepth 100000 in
set_option maxHeartbeats 4000000 in
theorem add_any (A : Option Addr) (c : Nat) (b : Bt) (w : World) (h : Stk w P g lim cs vB vE vM) (hb : BytesAt w A b) (hA : 0 < b.length → ∀ a, A = some a → ¬ P a.block) (hl : b.length ≤ 140737488355328) (hn : cs.length ≤ 100000) (hf : cs.flatten.length ≤ 10000000) :
    Calls Tryd.prog 13 #[.pointer (some ⟨g, 0, none⟩), .slice A b.length c] w fun e w' => ∃ P' vB' vE' vM', e = .returned (.tuple #[.int .i64 (addA lim cs b).1, .int .i64 (addA lim cs b).2.1]) ∧ Stk w' P' g lim (addA lim cs b).2.2 vB' vE' vM' ∧ Sub w P P' ∧ Keeps P w w' := by
  obtain ⟨k, hk⟩ : ∃ k, k = b.length := ⟨_, rfl⟩
  have HS := Lib.hid h
  by_cases h8 : 8192 < b.length
  · have ea : addA lim cs b = (0, 2, cs) := by unfold addA; rw [if_pos h8]
    rw [ea]
    clear ea hb hA hf hn h
    rw [← hk] at h8 hl ⊢
    clear hk
    have h8i : (8192 : Int) < (k : Int) := by omega
    go_enter Tryd.func13, Tryd.ntmps13
    go_wp2
    go_ret2
    exact ⟨_, _, _, _, rfl, HS.out, sub_refl _ _, keeps_refl _ _⟩
  have hl1 : b.length ≤ 100000 := by omega
  have FA := Lib.hid (find_any A c b w h hb hl1)
  have h8i : ¬ ((8192 : Int) < (k : Int)) := by omega
  by_cases hin : b ∈ cs
  · have ea : addA lim cs b = (((cs.idxOf b : Nat) : Int), 0, cs) := by unfold addA; rw [if_neg h8, if_pos hin]
    rw [ea]
    rw [find_yes hin] at FA
    rw [← hk] at FA ⊢
    clear ea hb hA hf hn h h8 hk hin hl hl1
    generalize cs.idxOf b = q at *
    have qn : ((q : Int) != -1) = true := by simp
    go_enter Tryd.func13, Tryd.ntmps13
    go_wp2_with (go_at_call 19; (with_reducible refine FA.out.mono ?_); rintro e w1 ⟨rfl, hb⟩; have B1 := Lib.hid hb; clear hb)
    go_ret2
    exact ⟨_, _, _, _, rfl, stk_below HS.out B1.out, sub_refl _ _, keeps_below B1.out⟩
  rw [find_no hin] at FA
  have c0 := (stk_cells h).1
  have up : ∀ W, Below w.heap.size w W → Hid (Calls Tryd.prog 14 #[.pointer (some ⟨g, 0, none⟩)] W fun e w' => e = .returned (.int .i64 cs.flatten.length) ∧ W = w') := fun W hb => Lib.hid (size_any W (stk_below h hb))
  have cc : ∀ W, Below w.heap.size w W → Hid (W.cell? ⟨g, 0, none⟩ = some (.int .i64 lim)) := fun W hb => Lib.hid (stk_cells (stk_below h hb)).1
  by_cases hs : lim < ((cs.flatten.length : Nat) : Int) + ((b.length : Nat) : Int)
  · have ea : addA lim cs b = (0, 27, cs) := by unfold addA; rw [if_neg h8, if_neg hin, if_pos hs]
    rw [ea]
    rw [← hk] at FA hs hl1 ⊢
    clear ea hb hA hn h h8 hk hin hl
    generalize cs.flatten.length = N at *
    go_enter Tryd.func13, Tryd.ntmps13
    go_upto_region 6 with (go_at_call 19; (with_reducible refine FA.out.mono ?_); rintro e w1 ⟨rfl, hb⟩; have B1 := Lib.hid hb; clear hb)
    have U := fun q => up (w1.drewN q) (below_drewN B1.out q)
    have C := (cc w1 B1.out).out
    go_quiet ((go_at_call 14; exact Calls.quiet_of_same ((U _).out.mono (fun e w' h => ⟨h.1, h.2.symm⟩))))
    go_wp2
    go_ret2
    exact ⟨_, _, _, _, rfl, stk_below HS.out (below_drewN B1.out _), sub_refl _ _, keeps_below (below_drewN B1.out _)⟩
  · have ea : addA lim cs b = (((cs.length : Nat) : Int), 0, cs ++ [b]) := by unfold addA; rw [if_neg h8, if_neg hin, if_neg hs]
    rw [ea]
    have PT : ∀ W, Below w.heap.size w W → Hid (Calls Tryd.prog 20 #[.pointer (some ⟨g, 0, none⟩), .slice A b.length c] W fun e w' => ∃ P' vB' vE' vM', e = .returned (.int .i64 cs.length) ∧ Stk w' P' g lim (cs ++ [b]) vB' vE' vM' ∧ Sub W P P' ∧ Keeps P W w') := fun W hbw =>
      Lib.hid (put_any A c b W (stk_below h hbw) (bytesAt_below hb hbw) hA hl1 hn hf hin)
    rw [← hk] at FA hs hl1 PT ⊢
    clear ea hb hA hn h h8 hk hin hl
    generalize cs.flatten.length = N at *
    generalize cs.length = L at *
    go_enter Tryd.func13, Tryd.ntmps13
    go_upto_region 6 with (go_at_call 19; (with_reducible refine FA.out.mono ?_); rintro e w1 ⟨rfl, hb⟩; have B1 := Lib.hid hb; clear hb)
    have U := fun q => up (w1.drewN q) (below_drewN B1.out q)
    have C := (cc w1 B1.out).out
    go_quiet ((go_at_call 14; exact Calls.quiet_of_same ((U _).out.mono (fun e w' h => ⟨h.1, h.2.symm⟩))))
    clear U C
    go_wp2_with (go_at_call 20; (with_reducible refine (PT _ (below_drewN B1.out _)).out.mono ?_); rintro e w2 ⟨P', vB', vE', vM', rfl, hs2, hb2, hk2⟩; have S2 := Lib.hid hs2; have SB := Lib.hid hb2; have K2 := Lib.hid hk2; clear hs2 hb2 hk2)
    go_ret2
    exact ⟨_, _, _, _, rfl, S2.out, fun i hi => by
      rcases SB.out i hi with h | h
      · exact .inl h
      · exact .inr (Nat.le_trans (below_drewN B1.out _).size h), keeps_trans (keeps_below (below_drewN B1.out _)) K2.out (sub_refl _ _)⟩
end
end Go.Proofs.YtlnmaejpchncoaaDoor.K
