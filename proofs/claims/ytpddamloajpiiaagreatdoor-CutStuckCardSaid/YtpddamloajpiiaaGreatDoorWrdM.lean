/-
What is proved here: what goes round, as cut asks for it, and the copy of actions, by contracts.
-/
import Derived.Test.YtpddamloajpiiaaGreatDoorWsvM
import Derived.Test.YtpddamloajpiiaaGreatDoorMa7
set_option linter.unusedSimpArgs false
set_option linter.unusedVariables false
namespace Go.Proofs.YtpddamloajpiiaaGreatDoor
open Go.Cmp Go.RowKit Go.Cut Go.Pth Go.Word Go.Shelf
/-- what goes round -/
def RouE (G : Gr) (w : World) (e : Ending) (w' : World) : Prop := ∃ (A : Option Addr) (C : Nat) (es : List Ent), e = .returned (.slice A (es.filter fun e => !stillP G e.r).length C) ∧ Groups G (es.map Ent.r) ∧ Grps w' w.heap.size (.slice A (es.filter fun e => !stillP G e.r).length C) (es.filter fun e => !stillP G e.r) ∧ Below w.heap.size w w'
theorem roundw_any (WB : Nat) (cs : Array Value) (LA : Option Addr) (lc : Nat) (G : Gr) (hG : Ok G) (hn : G.length ≤ 1024) (hg : ∀ l ∈ G, l.length ≤ 1024) (w : World) (hW : Lies w WB 49 cs) (h4 : cs[4]? = some (.slice LA G.length lc)) (hL : LsAt w LA (zg G)) :
    Calls Tryz.prog 34 #[.pointer (some ⟨WB, 0, none⟩)] w (RouE G w) := by
  have c4 := lies_cell hW 4
  rw [h4] at c4
  have K := Lib.hid (round_all LA lc G hG hn hg w hL)
  clear hW hL
  generalize G.length = n at *
  go_enter Tryz.func34, Tryz.ntmps34
  go_wp2_with (go_at_call 58; (with_reducible refine K.out.mono ?_); rintro e w1 ⟨A, C, es, rfl, hS, hE, hb⟩; have HS := Lib.hid hS; have HE := Lib.hid hE; have HB := Lib.hid hb; clear hS hE hb)
  go_ret
  exact ⟨A, C, es, rfl, HS.out, HE.out, HB.out⟩
theorem acs_len (l : List Ac) : (acs l).length = l.length * 5 := by
  induction l with
  | nil => rfl
  | cons a l ih => simp only [acs, List.flatMap_cons, List.length_append] at ih ⊢; rw [ih]; simp [acC]; omega
theorem acs_at (l : List Ac) (i : Nat) (h : i < l.length) (j : Nat) (hj : j < 5) : (acs l)[i * 5 + j]? = (acC l[i])[j]? := by
  induction l generalizing i with
  | nil => cases h
  | cons a l ih =>
    simp only [acs, List.flatMap_cons] at ih ⊢
    cases i with
    | zero => rw [List.getElem?_append_left (by simp [acC]; omega)]; simp
    | succ i =>
      rw [List.getElem?_append_right (by simp [acC]; omega), show (i + 1) * 5 + j - (acC a).length = i * 5 + j by simp [acC]; omega]
      exact ih i (by simpa using h)
theorem ac_info : (Tryz.prog.info? 29).map (fun i => (i.zero, i.size, i.bytes)) = some (some (.agg #[.int .i64 0, .string ⟨#[]⟩, .string ⟨#[]⟩, .int .i64 0, .int .i64 0]), 5, 56) := by kernel_rfl
/-- actions in memory of one's own -/
def OwnA (w : World) (B : Nat) (v : Value) (l : List Ac) : Prop := w.ownsRow B 29 5 v l.length (acs l)
theorem acs_one (l : List Ac) : ∀ u ∈ acs l, u.oneCell' = true := fun u hu => by
  unfold acs at hu
  rw [List.mem_flatMap] at hu
  obtain ⟨a, _, hu⟩ := hu
  simp only [acC, List.mem_cons, List.not_mem_nil, or_false] at hu
  rcases hu with rfl | rfl | rfl | rfl | rfl <;> rfl
def clone_ren : Go.Shelf.Ren := ⟨fun | 41 => 18 | n => n, fun | 22 => 22 | 23 => 29 | 4 => 4 | 0 => 0 | n => n, fun | n => n⟩
theorem cloneL : Go.Proofs.SlLaysE0.n41 Tryz.prog clone_ren := {
  mixed := by kernel_rfl
  f41 := ⟨Tryz.f18.name, by decide, Tryz.func18.trans (congrArg some (by kernel_rfl))⟩
  t4 := Tryz.underlying4
  a4 := Tryz.isAgg4
  z4 := Tryz.sizeOf4
  v4 := Tryz.zeroValue4
  t22 := Tryz.underlying22
  a22 := Tryz.isAgg22
  z22 := Tryz.sizeOf22
  v22 := Tryz.zeroValue22 }
theorem clone_some (b o c : Nat) (l : List Ac) (hl : l.length ≤ 100000) (w : World) (hA : ∀ j u, (acs l)[j]? = some u → w.cell? ⟨b, o + j, none⟩ = some u) :
    Calls Tryz.prog 18 #[.slice (some ⟨b, o, none⟩) l.length c] w fun e w' => ∃ v, e = .returned v ∧ OwnA w' w.heap.size v l ∧ Below w.heap.size w w' := by
  obtain ⟨i0, hi, hz0, hz1, hz2⟩ := info_parts ac_info
  refine (show Calls Tryz.prog 18 _ _ _ from AnyE.slices_Clone cloneL i0 _ 5 56 hi hz0 hz1 hz2 rfl (by decide) Tryz.sizeOf29 b o l.length c (acs l) w (acs_len l) (by unfold maxLen; omega) (by omega) hA (acs_one l)).mono ?_
  rintro e w' ⟨v, rfl, h1, _, h2⟩
  exact ⟨v, rfl, h1, h2⟩
theorem clone_nil (c : Nat) (w : World) : Calls Tryz.prog 18 #[.slice none 0 c] w fun e w' => ∃ v, e = .returned v ∧ OwnA w' w.heap.size v [] ∧ Below w.heap.size w w' := by
  refine (show Calls Tryz.prog 18 _ _ _ from AnyE.slices_Clone_nil cloneL 0 c w).mono ?_
  rintro e w' ⟨rfl, rfl⟩
  exact ⟨_, rfl, World.ownsRow_nil _ _ _ _, .refl _ _⟩
end Go.Proofs.YtpddamloajpiiaaGreatDoor
