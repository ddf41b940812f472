/-
What is proved here: bytes in memory of their own with one more behind (lent), and the look whether they stay (stays), by a contract each.
-/
import Derived.Test.YtekccgdlohofkaaDoorBits
import Derived.Laws.BytesArg
set_option linter.unusedSimpArgs false
namespace Go.Proofs.YtekccgdlohofkaaDoor
open Go.Word Go.RowKit

/-- the text of bytes -/
def text (b : List (BitVec 8)) : ByteArray := (b.map fun x => (x.toNat : Int)).foldl (fun r n => r.push (UInt8.ofNat n.toNat)) ByteArray.empty
theorem run_text (A : Option Addr) (k c : Nat) (b : List (BitVec 8)) (w : World) (hb : b.length = k) (hs : Byt w A b) : (convert 22 9 (.slice A k c)).run Tryd.prog w = .ok (.string (text b)) w := by
  rcases Nat.eq_zero_or_pos b.length with h0 | h0
  · have e : b = [] := List.eq_nil_of_length_eq_zero h0
    subst e
    subst hb
    rw [run_convert_bytes_string w 22 9 5 A _ c Tryd.underlying22 Tryd.underlying5 (by kernel_rfl)]
    cases A with
    | none => simp [Conv.bytesToString]; rfl
    | some ad => exact run_bytesToString w ad 0 c [] (run_loadCells_list w ad [] (fun j v h => by cases h))
  · obtain ⟨ad, rfl, _, hc⟩ := hs h0
    rw [run_convert_bytes_string w 22 9 5 _ _ c Tryd.underlying22 Tryd.underlying5 (by kernel_rfl)]
    refine run_bytesToString w ad k c (b.map fun x => (x.toNat : Int)) ?_
    have h := run_loadCells_list (P := Tryd.prog) w ad (b.map Y) (fun j v hj => by
      rw [List.getElem?_map] at hj
      rcases Nat.lt_or_ge j b.length with hl | hl
      · rw [List.getElem?_eq_getElem hl] at hj
        rw [hc j hl, ← hj, List.getD_eq_getElem?_getD, List.getElem?_eq_getElem hl]
        rfl
      · rw [List.getElem?_eq_none hl] at hj; cases hj)
    rw [List.length_map, hb] at h
    rw [h, List.map_map]
    rfl
/-- bytes lent: a slice of the call's own with one cell more behind -/
def Loan (w : World) (b : List (BitVec 8)) (k : Nat) (e : Ending) (w' : World) : Prop :=
  ∃ g c, e = .returned (.slice (some ⟨g, 0, none⟩) k c) ∧ k + 1 ≤ c ∧ Own w' w.heap.size (.slice (some ⟨g, 0, none⟩) (k + 1) c) (b ++ [167#8]) ∧ Below w.heap.size w w'
theorem own_alloc {w : World} {base : Nat} {v : Value} {b : List (BitVec 8)} (h : Own w base v b) (o : Obj) : Own (w.alloc o) base v b := World.ownsRow.alloc h o
theorem loan_mk {w w1 w' : World} {b : List (BitVec 8)} {k : Nat} {A : Option Addr} {c : Nat} (h : Own w' w.heap.size (.slice A (k + 1) c) (b ++ [167#8])) (hc : k + 1 ≤ c) (h1 : Below w.heap.size w w1) (o : Obj) (h2 : Below w.heap.size (w1.alloc o) w') :
    Loan w b k (.returned (.slice A k c)) w' := by
  obtain ⟨g, rfl, _⟩ := own_some h (by simp)
  exact ⟨g, c, rfl, hc, h, (h1.alloc h1.size o).trans h2⟩

set_option maxHeartbeats 400000 in
theorem lent_any (A : Option Addr) (k c : Nat) (b : List (BitVec 8)) (w : World) (hb : b.length = k) (hA : A = none → c = 0) (hs : Byt w A b) (hk : k ≤ 20000) :
    Calls Tryd.prog 12 #[.slice A k c] w (Loan w b k) := by
  have HB := Lib.hid hb
  have HS := Lib.hid hs
  have HA := Lib.hid hA
  clear hb hs hA
  go_enter Tryd.func12, Tryd.ntmps12
  go_wp2_with (first
    | (refine wpList_app rfl _ (.tmp 3) rfl w.heap.size (.slice none 0 0) [] rfl (own_nil _ _) A k c b rfl HB.out HS.out HA.out k (by simp) (by omega) (Nat.le_refl _) ?_; intro A1 c1 w2 o1 b1 l1 n1; have O1 := Lib.hid o1; have B1 := Lib.hid b1; clear o1 b1 n1)
    | (refine wpList_app rfl (.tmp 4) (.tmp 5) rfl w.heap.size (.slice A1 k c1) ([] ++ b) rfl (own_alloc O1.out _) (some ⟨w2.heap.size, 0, none⟩) 1 1 [167#8] rfl rfl (byt_new w2 5 (0, 0) [167#8] _ rfl) (fun e => by cases e) (k + 1) (by simp [HB.out]) (by omega) (by have := B1.out.size; simp; omega) ?_; intro A2 c2 w3 o2 b2 l2 n2; have O2 := Lib.hid o2; have B2 := Lib.hid b2; have hs2 := slice_to A2 (k + 1) c2 k (by omega); clear o2 b2 n2))
  go_ret
  exact loan_mk O2.out l2 B1.out _ B2.out

theorem stays_any (F A : Option Addr) (k c d : Nat) (b : List (BitVec 8)) (w : World) (hb : b.length = k) (hF : Byt w F (b ++ [167#8])) (hc : k + 1 ≤ c) (hs : Byt w A b) (hk : k ≤ 20000) :
    Calls Tryd.prog 15 #[.slice F k c, .slice A k d] w fun e w' => e = .returned (.bool true) ∧ w = w' := by
  have e1 := run_text A k d b w hb hs
  have e2 : (convert 22 9 (.slice F k c)).run Tryd.prog w = .ok (.string (text b)) w := run_text F k c b w hb (by
    have := byt_take hF k
    rwa [List.take_append_of_le_length (by omega), List.take_of_length_le (by omega)] at this)
  have e3 : ∀ W, (Instr.slice 22 (.slice F k c) none (some (.int .i64 ((k : Int) + 1))) none).run Tryd.prog W = .ok (.slice F (k + 1) c) W := fun W => by
    have := slice_to F k c (k + 1) (by omega) W
    simpa using this
  obtain ⟨ad, rfl, _, hcell⟩ := hF (by simp)
  have c0 := hcell k (by simp; omega)
  rw [show (b ++ [167#8]).getD k 0 = 167#8 by subst hb; simp [List.getD_eq_getElem?_getD]] at c0
  have c1 : w.cell? (ad.add k) = some (.int .u8 167) := c0
  obtain ⟨s, hs⟩ : ∃ s, s = text b := ⟨_, rfl⟩
  rw [← hs] at e1 e2
  have h1 : k < k + 1 := by omega
  clear hcell c0 hs hb
  go_enter Tryd.func15, Tryd.ntmps15
  go_wp2
  go_ret
  exact ⟨rfl, rfl⟩
end Go.Proofs.YtekccgdlohofkaaDoor
