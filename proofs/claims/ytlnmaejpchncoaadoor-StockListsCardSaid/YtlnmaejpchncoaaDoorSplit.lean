/-
What is proved here: CRC of bytes in two parts, and the law SumSplit's walk.
-/
import Derived.Test.YtlnmaejpchncoaaDoorAlive
set_option linter.unusedSimpArgs false
namespace Go.Proofs.YtlnmaejpchncoaaDoor
open Go.Word Go.RowKit

theorem cut_wint (x : BitVec 32) : cut (wint x) = x := of32 x
theorem more_more (crc : Int) (a b : List (BitVec 8)) : more (more crc a) b = more crc (a ++ b) := by
  unfold more
  rw [cut_wint, BitVec.not_not]
  unfold onAll
  rw [List.foldl_append]
theorem tabs_drewN {w : World} (h : Tabs w) (n : Nat) : Tabs (w.drewN n) := h
theorem byt_drewN {w : World} {A : Option Addr} {b : List (BitVec 8)} (h : Byt w A b) (n : Nat) : Byt (w.drewN n) A b := h
theorem byt_take {w : World} {A : Option Addr} {b : List (BitVec 8)} (h : Byt w A b) (m : Nat) : Byt w A (b.take m) := fun h0 => by
  rw [List.length_take] at h0
  obtain ⟨ad, e, hl, hc⟩ := h (by omega)
  refine ⟨ad, e, hl, fun j hj => ?_⟩
  rw [List.length_take] at hj
  rw [hc j (by omega), List.getD_eq_getElem?_getD, List.getD_eq_getElem?_getD, List.getElem?_take, if_pos (by omega)]
theorem byt_drop {w : World} {A : Option Addr} {b : List (BitVec 8)} (h : Byt w A b) (m c : Nat) (hc : b.length ≤ c) : Byt w (if c = m then A else A.map (·.add m)) (b.drop m) := fun h0 => by
  rw [List.length_drop] at h0
  obtain ⟨ad, rfl, hl, hcell⟩ := h (by omega)
  rw [if_neg (by omega)]
  have e : (ad.add m).block = ad.block := by unfold Addr.add; split <;> rfl
  refine ⟨ad.add m, rfl, by rw [e]; exact hl, fun j hj => ?_⟩
  rw [List.length_drop] at hj
  have e2 : (ad.add m).add j = ad.add (m + j) := by
    unfold Addr.add
    by_cases hi : m = 0 <;> by_cases hj : j = 0 <;> simp [hi, hj, Nat.add_assoc]
  rw [e2, hcell _ (by omega)]
  simp [List.getD_eq_getElem?_getD]
theorem slice_to (A : Option Addr) (k c m : Nat) (h : m ≤ c) (W : World) : (Instr.slice 24 (.slice A k c) none (some (.int .i64 (m : Int))) none).run Tryd.prog W = .ok (.slice A m c) W := by
  have := run_slice_h (P := Tryd.prog) W 24 A k c Tryd.underlying24 .i64 (m : Int) (by omega) (by omega)
  rw [this]
  have hz : (sizeOf (Tryd.prog.elem 24)).run Tryd.prog W = .ok 1 W := by kernel_rfl
  rw [hz]
  cases A <;> simp [sliced, Result.andThen, Addr.add]
theorem slice_from (A : Option Addr) (k c m : Nat) (h : m ≤ k) (W : World) : (Instr.slice 24 (.slice A k c) (some (.int .i64 (m : Int))) none none).run Tryd.prog W = .ok (.slice (if c = m then A else A.map (·.add m)) (k - m) (c - m)) W := by
  have := run_slice_l (P := Tryd.prog) W 24 A k c Tryd.underlying24 .i64 (m : Int) (by omega) (by omega)
  rw [this]
  have hz : (sizeOf (Tryd.prog.elem 24)).run Tryd.prog W = .ok 1 W := by kernel_rfl
  rw [hz]
  simp [sliced]

end Go.Proofs.YtlnmaejpchncoaaDoor
