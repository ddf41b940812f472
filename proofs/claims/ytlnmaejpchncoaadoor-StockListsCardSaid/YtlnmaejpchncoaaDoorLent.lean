/-
What is proved here: bytes in memory of their own with one more behind (lent), and the look whether they stay (stays), by a contract each.
-/
import Derived.Test.YtlnmaejpchncoaaDoorTurned
import Derived.Laws.BytesArg
set_option linter.unusedSimpArgs false
namespace Go.Proofs.YtlnmaejpchncoaaDoor
open Go.Word Go.RowKit

/-- the text of bytes -/
def text (b : List (BitVec 8)) : ByteArray := (b.map fun x => (x.toNat : Int)).foldl (fun r n => r.push (UInt8.ofNat n.toNat)) ByteArray.empty
theorem run_text (A : Option Addr) (k c : Nat) (b : List (BitVec 8)) (w : World) (hb : b.length = k) (hs : Byt w A b) : (convert 24 9 (.slice A k c)).run Tryd.prog w = .ok (.string (text b)) w := by
  rcases Nat.eq_zero_or_pos b.length with h0 | h0
  · have e : b = [] := List.eq_nil_of_length_eq_zero h0
    subst e
    subst hb
    rw [run_convert_bytes_string w 24 9 5 A _ c Tryd.underlying24 Tryd.underlying5 (by kernel_rfl)]
    cases A with
    | none => simp [Conv.bytesToString]; rfl
    | some ad => exact run_bytesToString w ad 0 c [] (run_loadCells_list w ad [] (fun j v h => by cases h))
  · obtain ⟨ad, rfl, _, hc⟩ := hs h0
    rw [run_convert_bytes_string w 24 9 5 _ _ c Tryd.underlying24 Tryd.underlying5 (by kernel_rfl)]
    refine run_bytesToString w ad k c (b.map fun x => (x.toNat : Int)) ?_
    have h := run_loadCells_list (P := Tryd.prog) w ad (b.map Y) (fun j v hj => by
      rw [List.getElem?_map] at hj
      rcases Nat.lt_or_ge j b.length with hl | hl
      · rw [List.getElem?_eq_getElem hl] at hj
        rw [hc j hl, ← hj, List.getD_eq_getElem?_getD, List.getElem?_eq_getElem hl]
        rfl
      · rw [List.getElem?_eq_none hl] at hj; cases hj)
    rw [List.length_map, hb] at h
    rw [h, List.map_map]
    rfl
/-- bytes lent: a slice of the call's own with one cell more behind -/
def Loan (w : World) (b : List (BitVec 8)) (k : Nat) (e : Ending) (w' : World) : Prop :=
  ∃ g c, e = .returned (.slice (some ⟨g, 0, none⟩) k c) ∧ k + 1 ≤ c ∧ Own w' w.heap.size (.slice (some ⟨g, 0, none⟩) (k + 1) c) (b ++ [167#8]) ∧ Below w.heap.size w w'
theorem own_alloc {w : World} {base : Nat} {v : Value} {b : List (BitVec 8)} (h : Own w base v b) (o : Obj) : Own (w.alloc o) base v b := World.ownsRow.alloc h o
theorem loan_mk {w w1 w' : World} {b : List (BitVec 8)} {k : Nat} {A : Option Addr} {c : Nat} (h : Own w' w.heap.size (.slice A (k + 1) c) (b ++ [167#8])) (hc : k + 1 ≤ c) (h1 : Below w.heap.size w w1) (o : Obj) (h2 : Below w.heap.size (w1.alloc o) w') :
    Loan w b k (.returned (.slice A k c)) w' := by
  obtain ⟨g, rfl, _⟩ := own_some h (by simp)
  exact ⟨g, c, rfl, hc, h, (h1.alloc h1.size o).trans h2⟩

end Go.Proofs.YtlnmaejpchncoaaDoor
