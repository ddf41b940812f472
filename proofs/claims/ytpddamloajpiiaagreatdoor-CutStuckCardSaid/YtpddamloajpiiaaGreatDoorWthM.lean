/-
What is proved here: cut's closures that put a place among those of a rising list, and one in the stead of another, by contracts.
-/
import Derived.Test.YtpddamloajpiiaaGreatDoorRsgM
import Derived.BigQuiet
import Derived.Deep.QuietTactic
set_option linter.unusedSimpArgs false
set_option linter.unusedVariables false
namespace Go.Proofs.YtpddamloajpiiaaGreatDoor
open Go.Cmp Go.RowKit Go.Cut
theorem win_slice2 {w : World} {B : Nat} {v : Value} {l : List Int} (h : Win w B v l) : ∃ A n c, v = .slice A n c := by
  obtain ⟨A, c, e⟩ := win_slice h
  exact ⟨A, _, c, e⟩
theorem less_zs (F : List Nat) (p : Nat) : less (zs F) (p : Int) = low F p := by
  unfold less low zs
  rw [List.countP_map]
  congr 1
  funext x
  simp
theorem low_le (F : List Nat) (p : Nat) : low F p ≤ F.length := List.countP_le_length
theorem zs_has (F : List Nat) (p : Nat) : (zs F).contains (p : Int) = decide (p ∈ F) := by
  unfold zs
  by_cases h : p ∈ F
  · rw [decide_eq_true h, List.contains_iff_mem]
    exact List.mem_map_of_mem h
  · rw [decide_eq_false h]
    rw [Bool.eq_false_iff]
    intro e
    rw [List.contains_iff_mem, List.mem_map] at e
    obtain ⟨a, ha, e⟩ := e
    have : a = p := by omega
    exact h (this ▸ ha)
theorem zs_put (F : List Nat) (p : Nat) (h : p ∉ F) : zs (put p F) = insAt (zs F) (low F p) p := by
  unfold put insAt zs
  rw [if_neg h, List.map_append, List.map_cons, List.map_take, List.map_drop]
theorem zs_out (F : List Nat) (k : Nat) : zs (F.take k ++ F.drop (k + 1)) = (zs F).take k ++ (zs F).drop (k + 1) := by
  unfold zs
  rw [List.map_append, List.map_take, List.map_drop]
theorem rise_le {F : List Nat} (h : Rise F) : (zs F).Pairwise (· ≤ ·) := by
  unfold zs
  refine List.Pairwise.map _ (fun a b h => ?_) h
  have : a < b := h
  omega
/-- what a list with a place put in, or taken out, tells -/
def PutE (B : Nat) (v : Value) (F' : List Nat) (w : World) (e : Ending) (w' : World) : Prop :=
  ∃ v', e = .returned v' ∧ Win w' B v' (zs F') ∧ But (fun k => some k = wblk v) w w' ∧ (wblk v' = wblk v ∨ ∀ k, wblk v' = some k → w.heap.size ≤ k)
set_option maxRecDepth 100000 in
set_option maxHeartbeats 4000000 in
theorem with1_any (B : Nat) (v : Value) (F : List Nat) (p PB : Nat) (w : World) (h : Win w B v (zs F)) (hr : Rise F) (hl : F.length ≤ 2000) (hp : w.cell? ⟨PB, 0, none⟩ = some (.int .i64 (p : Int))) (hB : B ≤ w.heap.size) :
    Calls Tryz.prog 87 #[v, .pointer (some ⟨PB, 0, none⟩)] w (PutE B v (put p F) w) := by
  have hlz : (zs F).length ≤ 100000 := by rw [zs_len]; omega
  have KS := find_any B v (zs F) (p : Int) w h (rise_le hr) hlz
  rw [less_zs, zs_has] at KS
  obtain ⟨A, c, rfl⟩ := win_slice h
  rw [zs_len] at KS h ⊢
  have HW := Lib.hid h
  have HB := Lib.hid hB
  have HL := Lib.hid hlz
  have HK := Lib.hid (win_block h)
  have LE := Lib.hid (low_le F p)
  by_cases hm : p ∈ F
  · have e : put p F = F := if_pos hm
    rw [e]
    rw [decide_eq_true hm] at KS
    have K := Lib.hid KS
    clear KS h hB hlz
    go_enter Tryz.func87, Tryz.ntmps87
    go_wp2_with (go_at_call 48; (with_reducible refine K.out.mono ?_); rintro e w1 ⟨rfl, q, rfl⟩)
    go_ret
    exact ⟨_, rfl, win_but HW.out ((But.refl (fun _ => False) w).drewN q) (fun _ _ => id), (But.refl _ w).drewN q, .inl rfl⟩
  · have ZP := Lib.hid (zs_put F p hm)
    rw [decide_eq_false hm] at KS
    have K := Lib.hid KS
    clear KS h hB hlz
    go_enter Tryz.func87, Tryz.ntmps87
    go_upto_region 4 with (go_at_call 48; (with_reducible refine K.out.mono ?_); rintro e w1 ⟨rfl, q, rfl⟩; have W1 := Lib.hid (win_but HW.out ((But.refl (fun _ => False) w).drewN q) (fun _ _ => id)); have cp := (show (w.drewN q).cell? ⟨PB, 0, none⟩ = some (.int .i64 (p : Int)) from hp))
    have S1 := Lib.hid (show (w.drewN q).heap.size = w.heap.size from rfl)
    have B1 := Lib.hid ((But.refl (fun k => some k = wblk (.slice A F.length c)) w).drewN q)
    clear hp
    generalize w.drewN q = X at *
    have KI := Lib.hid (insert_any B (.slice A F.length c) (zs F) (low F p) X.heap.size (p : Int) (X.alloc (.cells #[iV p] 3)) (win_but W1.out ((But.refl (fun _ => False) X).alloc _) (fun _ _ => id)) (by rw [zs_len]; exact LE.out) HL.out (lies_new X 3 #[iV p]) (fun e => by have := (HK.out _ e).2; have := S1.out; omega) (by have := S1.out; have := HB.out; simp; omega))
    unfold iV at *
    go_wp2_with (go_at_call 49; (with_reducible refine KI.out.mono ?_); rintro e w2 ⟨G, o, m, c, rfl, hW2, hB2, hk⟩; have W4 := Lib.hid hW2; have B4 := Lib.hid hB2; have K4 := Lib.hid hk; clear hW2 hB2 hk)
    go_ret
    refine ⟨_, rfl, by rw [ZP.out]; exact W4.out, B1.out.trans (((But.refl _ X).alloc _).trans B4.out), ?_⟩
    rcases K4.out with h | h
    · exact .inl h.symm
    · refine .inr fun k hk => ?_
      injection hk with hk
      have hk2 : G = k := hk
      have := S1.out
      simp at h
      omega
set_option maxRecDepth 100000 in
set_option maxHeartbeats 4000000 in
theorem inst1_any (B : Nat) (v : Value) (F : List Nat) (of p OB PT PB : Nat) (w : World) (h : Win w B v (zs F)) (hr : Rise F) (hl : F.length ≤ 2000) (ho : w.cell? ⟨OB, 0, none⟩ = some (.int .i64 (of : Int)))
    (ht : w.cell? ⟨PT, 0, none⟩ = some (.func (.func 87) #[] #[.pointer (some ⟨PB, 0, none⟩)])) (hp : w.cell? ⟨PB, 0, none⟩ = some (.int .i64 (p : Int))) (hB : B ≤ w.heap.size) (htb : wblk v ≠ some PT) (hpb : wblk v ≠ some PB) (htl : PT < w.heap.size) (hpl : PB < w.heap.size) :
    Calls Tryz.prog 88 #[v, .pointer (some ⟨OB, 0, none⟩), .pointer (some ⟨PT, 0, none⟩)] w (PutE B v (inst of p F) w) := by
  have hlz : (zs F).length ≤ 100000 := by rw [zs_len]; omega
  have KS := find_any B v (zs F) (of : Int) w h (rise_le hr) hlz
  rw [less_zs, zs_has] at KS
  obtain ⟨A, c, rfl⟩ := win_slice h
  rw [zs_len] at KS h htb hpb ⊢
  have HW := Lib.hid h
  have HB := Lib.hid hB
  have HTB := Lib.hid htb
  have HPB := Lib.hid hpb
  clear htb hpb
  by_cases hm : of ∈ F
  · have e : inst of p F = put p (F.take (low F of) ++ F.drop (low F of + 1)) := if_pos hm
    have hd := drop_low hr hm
    have hlt : low F of < F.length := (List.getElem?_eq_some_iff.1 hd.1).1
    rw [e]
    rw [decide_eq_true hm] at KS
    have K := Lib.hid KS
    have ZO := Lib.hid (zs_out F (low F of))
    have KD := Lib.hid (fun (W : World) (hW : Win W B (.slice A F.length c) (zs F)) => delete_any B (.slice A F.length c) (zs F) (low F of) W hW (by rw [zs_len]; exact hlt))
    have KP := Lib.hid (fun (W : World) (u : Value) (hW : Win W B u (zs (F.take (low F of) ++ F.drop (low F of + 1)))) (hc : W.cell? ⟨PB, 0, none⟩ = some (.int .i64 (p : Int))) (hz : B ≤ W.heap.size) => with1_any B u _ p PB W hW hd.2.2 (by simp; omega) hc hz)
    have i1 : IntKind.i64.wrap ((low F of : Int) + 1) = (low F of : Int) + 1 := by
      simp [IntKind.wrap, IntKind.bits, IntKind.signed]
      omega
    have I1 := Lib.hid i1
    generalize low F of = k at *
    clear KS h hB hlz hd e hm
    go_enter Tryz.func88, Tryz.ntmps88
    go_upto_region 4 with (go_at_call 48; (with_reducible refine K.out.mono ?_); rintro e w1 ⟨rfl, q, rfl⟩; have W1 := Lib.hid (win_but HW.out ((But.refl (fun _ => False) w).drewN q) (fun _ _ => id)); have cp := Lib.hid (show (w.drewN q).cell? ⟨PB, 0, none⟩ = some (.int .i64 (p : Int)) from hp); have ct := (show (w.drewN q).cell? ⟨PT, 0, none⟩ = some (.func (.func 87) #[] #[.pointer (some ⟨PB, 0, none⟩)]) from ht))
    have S1 := Lib.hid (show (w.drewN q).heap.size = w.heap.size from rfl)
    have B1 := Lib.hid ((But.refl (fun k => some k = wblk (.slice A F.length c)) w).drewN q)
    clear hp ht ho
    generalize w.drewN q = X at *
    have KE := Lib.hid (KD.out X.drew (win_but W1.out ((But.refl (fun _ => False) X).drew) (fun _ _ => id)))
    have D1 := Lib.hid ((But.refl (fun k => some k = wblk (.slice A F.length c)) X).drew)
    have SD := Lib.hid (show X.drew.heap.size = X.heap.size from rfl)
    have CT := Lib.hid ct
    clear KD K
    go_region_with (first
      | (go_at_call 89; ((with_reducible refine KE.out.mono ?_); rintro e w2 ⟨u, rfl, hW2, hB2, hk2⟩; obtain ⟨A2, n2, c2, rfl⟩ := win_slice2 hW2; have ct2 := (World.cell?_of_block (a := ⟨PT, 0, none⟩) (hB2.block PT (by have := S1.out; have := SD.out; omega) (fun e => HTB.out e.symm))).trans CT.out; have KW := Lib.hid (KP.out w2 _ (by rw [ZO.out]; exact hW2) ((World.cell?_of_block (a := ⟨PB, 0, none⟩) (hB2.block PB (by have := S1.out; have := SD.out; omega) (fun e => HPB.out e.symm))).trans cp.out) (Nat.le_trans HB.out (by have := S1.out; have := SD.out; have := hB2.size; omega))); have B2 := Lib.hid hB2; have K2 := Lib.hid hk2; clear hW2 hB2 hk2))
      | (go_at_call 87; (with_reducible refine KW.out.mono ?_); rintro e w3 ⟨u3, rfl, hW3, hB3, hk3⟩; have W3 := Lib.hid hW3; have B3 := Lib.hid hB3; have K3 := Lib.hid hk3; clear hW3 hB3 hk3))
    all_goals go_wp2
    all_goals (go_ret; exact ⟨_, rfl, W3.out, B1.out.trans (D1.out.trans (B2.out.trans (B3.out.mono (fun k _ hk => by rw [K2.out] at hk; exact hk)))), K3.out.imp (fun h => h.trans K2.out) (fun h k hk => Nat.le_trans (by have := S1.out; have := SD.out; have := B2.out.size; omega) (h k hk))⟩)
  · have e : inst of p F = F := if_neg hm
    rw [e]
    rw [decide_eq_false hm] at KS
    have K := Lib.hid KS
    clear KS h hB hlz ht hp
    go_enter Tryz.func88, Tryz.ntmps88
    go_wp2_with (go_at_call 48; (with_reducible refine K.out.mono ?_); rintro e w1 ⟨rfl, q, rfl⟩)
    go_ret
    exact ⟨_, rfl, win_but HW.out ((But.refl (fun _ => False) w).drewN q) (fun _ _ => id), (But.refl _ w).drewN q, .inl rfl⟩
end Go.Proofs.YtpddamloajpiiaaGreatDoor
