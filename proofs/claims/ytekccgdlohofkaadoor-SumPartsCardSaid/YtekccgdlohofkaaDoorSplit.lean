/-
What is proved here: CRC of bytes in two parts, and the law SumSplit's walk.
-/
import Derived.Test.YtekccgdlohofkaaDoorAlive
set_option linter.unusedSimpArgs false
namespace Go.Proofs.YtekccgdlohofkaaDoor
open Go.Word Go.RowKit

theorem cut_wint (x : BitVec 32) : cut (wint x) = x := of32 x
theorem more_more (crc : Int) (a b : List (BitVec 8)) : more (more crc a) b = more crc (a ++ b) := by
  unfold more
  rw [cut_wint, BitVec.not_not]
  unfold onAll
  rw [List.foldl_append]
theorem tabs_drewN {w : World} (h : Tabs w) (n : Nat) : Tabs (w.drewN n) := h
theorem byt_drewN {w : World} {A : Option Addr} {b : List (BitVec 8)} (h : Byt w A b) (n : Nat) : Byt (w.drewN n) A b := h
theorem crc_q (A : Option Addr) (k c : Nat) (b : List (BitVec 8)) (w : World) (n : Nat) (hb : b.length = k) (hT : Tabs w) (hs : Byt w A b) (hk : k ≤ 20000) (v : Int) (hv : more 0 b = v) :
    Calls Tryd.prog 13 #[.slice A k c] (w.drewN n) fun e w' => e = .returned (.int .i64 v) ∧ w' = w.drewN n :=
  (crc_any A k c b _ hb (tabs_drewN hT n).2 (byt_drewN hs n) (by omega)).mono fun _ _ h => ⟨by rw [← hv]; exact h.1, h.2.symm⟩
theorem more_q (crc : Int) (A : Option Addr) (k c : Nat) (b : List (BitVec 8)) (w : World) (n : Nat) (hb : b.length = k) (hT : Tabs w) (hs : Byt w A b) (hk : k ≤ 20000) (v : Int) (hv : more crc b = v) :
    Calls Tryd.prog 14 #[.int .i64 crc, .slice A k c] (w.drewN n) fun e w' => e = .returned (.int .i64 v) ∧ w' = w.drewN n :=
  (more_any crc A k c b _ hb (tabs_drewN hT n).2 (byt_drewN hs n) (by omega)).mono fun _ _ h => ⟨by rw [← hv]; exact h.1, h.2.symm⟩
theorem byt_take {w : World} {A : Option Addr} {b : List (BitVec 8)} (h : Byt w A b) (m : Nat) : Byt w A (b.take m) := fun h0 => by
  rw [List.length_take] at h0
  obtain ⟨ad, e, hl, hc⟩ := h (by omega)
  refine ⟨ad, e, hl, fun j hj => ?_⟩
  rw [List.length_take] at hj
  rw [hc j (by omega), List.getD_eq_getElem?_getD, List.getD_eq_getElem?_getD, List.getElem?_take, if_pos (by omega)]
theorem byt_drop {w : World} {A : Option Addr} {b : List (BitVec 8)} (h : Byt w A b) (m c : Nat) (hc : b.length ≤ c) : Byt w (if c = m then A else A.map (·.add m)) (b.drop m) := fun h0 => by
  rw [List.length_drop] at h0
  obtain ⟨ad, rfl, hl, hcell⟩ := h (by omega)
  rw [if_neg (by omega)]
  have e : (ad.add m).block = ad.block := by unfold Addr.add; split <;> rfl
  refine ⟨ad.add m, rfl, by rw [e]; exact hl, fun j hj => ?_⟩
  rw [List.length_drop] at hj
  have e2 : (ad.add m).add j = ad.add (m + j) := by
    unfold Addr.add
    by_cases hi : m = 0 <;> by_cases hj : j = 0 <;> simp [hi, hj, Nat.add_assoc]
  rw [e2, hcell _ (by omega)]
  simp [List.getD_eq_getElem?_getD]
theorem slice_to (A : Option Addr) (k c m : Nat) (h : m ≤ c) (W : World) : (Instr.slice 22 (.slice A k c) none (some (.int .i64 (m : Int))) none).run Tryd.prog W = .ok (.slice A m c) W := by
  have := run_slice_h (P := Tryd.prog) W 22 A k c Tryd.underlying22 .i64 (m : Int) (by omega) (by omega)
  rw [this]
  have hz : (sizeOf (Tryd.prog.elem 22)).run Tryd.prog W = .ok 1 W := by kernel_rfl
  rw [hz]
  cases A <;> simp [sliced, Result.andThen, Addr.add]
theorem slice_from (A : Option Addr) (k c m : Nat) (h : m ≤ k) (W : World) : (Instr.slice 22 (.slice A k c) (some (.int .i64 (m : Int))) none none).run Tryd.prog W = .ok (.slice (if c = m then A else A.map (·.add m)) (k - m) (c - m)) W := by
  have := run_slice_l (P := Tryd.prog) W 22 A k c Tryd.underlying22 .i64 (m : Int) (by omega) (by omega)
  rw [this]
  have hz : (sizeOf (Tryd.prog.elem 22)).run Tryd.prog W = .ok 1 W := by kernel_rfl
  rw [hz]
  simp [sliced]

set_option maxHeartbeats 1000000 in
theorem split_any (A : Option Addr) (k c : Nat) (b : List (BitVec 8)) (m : Int) (w : World) (hb : b.length = k) (hc : k ≤ c) (hT : Tabs w) (hs : Byt w A b) :
    Calls Tryd.prog 6 #[.slice A k c, .int .i64 m] w fun e w' => e = .returned (.bool true) ∧ Below w.heap.size w w' := by
  have HT := Lib.hid hT
  have HS := Lib.hid hs
  have HB := Lib.hid hb
  clear hT hs hb
  by_cases h1 : k ≤ 5000 ∧ 0 ≤ m ∧ m ≤ k
  · obtain ⟨h1, h2, h3⟩ := h1
    obtain ⟨m, rfl⟩ : ∃ n : Nat, m = n := ⟨m.toNat, by omega⟩
    obtain ⟨D, hD⟩ : ∃ D, D = (if c = m then A else A.map (·.add m)) := ⟨_, rfl⟩
    have hs1 := slice_to A k c m (by omega)
    have hs2 : ∀ W, (Instr.slice 22 (.slice A k c) (some (.int .i64 (m : Int))) none none).run Tryd.prog W = .ok (.slice D (k - m) (c - m)) W := by
      rw [hD]; exact slice_from A k c m (by omega)
    have HD := Lib.hid hD
    clear hD
    have t1 : decide ((5000 : Int) < (k : Int)) = false := decide_eq_false (by omega)
    have t2 : decide ((m : Int) < 0) = false := by simp
    have t3 : decide (k < m) = false := decide_eq_false (by omega)
    go_enter Tryd.func6, Tryd.ntmps6
    go_wp2_with (go_at_call 11; (with_reducible refine (alive_any _ HT.out).mono ?_); rintro e w1 ⟨rfl, hb⟩; have H1 := Lib.hid hb; clear hb)
    obtain ⟨V1, hV1⟩ : ∃ V1, V1 = more 0 (b.take m) := ⟨_, rfl⟩
    obtain ⟨V, hV⟩ : ∃ V, V = more 0 b := ⟨_, rfl⟩
    have T1 := tabs_below HT.out H1.out
    have S1 := byt_below HS.out H1.out
    have F1 := Lib.hid (fun n => crc_q A m c (b.take m) w1 n (by rw [List.length_take, HB.out]; omega) T1 (byt_take S1 m) (by omega) V1 hV1.symm)
    have F2 := Lib.hid (fun n => more_q V1 D (k - m) (c - m) (b.drop m) w1 n (by rw [List.length_drop, HB.out]) T1 (by rw [HD.out]; exact byt_drop S1 m c (by rw [HB.out]; exact hc)) (by omega) V (by rw [hV1, hV, more_more, List.take_append_drop]))
    have F3 := Lib.hid (fun n => crc_q A k c b w1 n HB.out T1 S1 (by omega) V hV.symm)
    have F4 := Lib.hid (fun n => more_q 0 A k c b w1 n HB.out T1 S1 (by omega) V hV.symm)
    clear hV1 hV T1 S1
    go_quiet ((first
      | (go_at_call 13; with_reducible exact Calls.quiet_of_same (F1.out _))
      | (go_at_call 13; with_reducible exact Calls.quiet_of_same (F3.out _))
      | (go_at_call 14; with_reducible exact Calls.quiet_of_same (F2.out _))
      | (go_at_call 14; with_reducible exact Calls.quiet_of_same (F4.out _))))
    go_wp2
    go_ret
    exact ⟨rfl, below_drewN H1.out _⟩
  · by_cases t : k ≤ 5000
    · have t1 : decide ((5000 : Int) < (k : Int)) = false := decide_eq_false (by omega)
      by_cases u : 0 ≤ m
      · obtain ⟨m, rfl⟩ : ∃ n : Nat, m = n := ⟨m.toNat, by omega⟩
        have u' : k < m := by omega
        clear h1 t u
        have t2 : decide ((m : Int) < 0) = false := by simp
        have t3 : decide (k < m) = true := decide_eq_true u'
        go_enter Tryd.func6, Tryd.ntmps6
        go_wp2_with (go_at_call 11; (with_reducible refine (alive_any _ HT.out).mono ?_); rintro e w1 ⟨rfl, hb⟩; have H1 := Lib.hid hb; clear hb)
        go_ret
        exact ⟨rfl, H1.out⟩
      · have u' : m < 0 := by omega
        clear h1 t u
        have t2 : decide (m < 0) = true := decide_eq_true u'
        go_enter Tryd.func6, Tryd.ntmps6
        go_wp2_with (go_at_call 11; (with_reducible refine (alive_any _ HT.out).mono ?_); rintro e w1 ⟨rfl, hb⟩; have H1 := Lib.hid hb; clear hb)
        go_ret
        exact ⟨rfl, H1.out⟩
    · have t' : 5000 < k := by omega
      clear h1 t
      have t1 : decide ((5000 : Int) < (k : Int)) = true := decide_eq_true (by omega)
      go_enter Tryd.func6, Tryd.ntmps6
      go_wp2_with (go_at_call 11; (with_reducible refine (alive_any _ HT.out).mono ?_); rintro e w1 ⟨rfl, hb⟩; have H1 := Lib.hid hb; clear hb)
      go_ret
      exact ⟨rfl, H1.out⟩
end Go.Proofs.YtekccgdlohofkaaDoor
