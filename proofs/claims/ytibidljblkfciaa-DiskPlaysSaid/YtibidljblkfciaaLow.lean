/-
What is proved here: the disk's functions as the laws call them; bytes as a text; writes that are refused.
-/
import Derived.Test.YtibidljblkfciaaWrt
import Derived.Test.YtibidljblkfciaaPend
import Derived.Laws.BytesArg
set_option linter.unusedSimpArgs false
namespace Go.Proofs.Ytibidljblkfciaa
open Go.Word Go.RowKit

/-- the text of k bytes -/
def text8 (f : Nat → BitVec 8) (k : Nat) : ByteArray := (((List.range k).map f).map fun x => (x.toNat : Int)).foldl (fun r n => r.push (UInt8.ofNat n.toNat)) ByteArray.empty
theorem run_text (ad : Addr) (k c : Nat) (f : Nat → BitVec 8) (w : World) (hs : Src8 w ad f k) : (convert 44 9 (.slice (some ad) k c)).run Try.prog w = .ok (.string (text8 f k)) w := by
  rw [run_convert_bytes_string w 44 9 5 _ _ c Try.underlying44 Try.underlying5 (by kernel_rfl)]
  refine run_bytesToString w ad k c (((List.range k).map f).map fun x => (x.toNat : Int)) ?_
  have h := run_loadCells_list (P := Try.prog) w ad (((List.range k).map f).map Y) (fun j v hj => by
    rcases Nat.lt_or_ge j k with hl | hl
    · rw [hs j hl, ← hj]
      simp [hl]
    · rw [List.getElem?_eq_none (by simp; exact hl)] at hj; cases hj)
  rw [List.length_map, List.length_map, List.length_range] at h
  rw [h]
  simp only [List.map_map]
  rfl
theorem text_congr {f f' : Nat → BitVec 8} {k : Nat} (h : ∀ j, j < k → f j = f' j) : text8 f k = text8 f' k := by
  unfold text8
  rw [List.map_congr_left (fun j hj => h j (by simpa using hj))]
theorem new_z (z : Int) (n : Nat) (hz : z = n) (w : World) (h1 : 1 ≤ n) (h2 : n ≤ 4096) :
    Calls Try.prog 18 #[.int .i64 z] w fun e w' => ∃ B g, e = .returned (.tuple #[.pointer (some ⟨g, 0, none⟩), .int .i64 0]) ∧ w.heap.size = B ∧ Dsk w' g B (g + 1) n (512 * n) (fun _ => 0) (.slice none 0 0) [] true (-1) ∧ Below w.heap.size w w' := by
  subst hz; exact new_any n w h1 h2
theorem write_z (z : Int) (at_ : Nat) (hz : z = at_) {g B base n K : Nat} {f : Nat → BitVec 8} {hv : Value} {hs : List Ent} {lf : Int} (ad : Addr) (c : Nat) (q : Nat → BitVec 8) (w : World) (ha : at_ < n) (hN : hs.length < 65536) (h1 : -1 ≤ lf) (h2 : lf ≤ 9223372036854775807)
    (h : Dsk w g B base n K f hv hs true lf) (hq : Src8 w ad q 512) (hl : ad.block < w.heap.size) (hn1 : ad.block ≠ g) (hn2 : hv.ownBlock ≠ some ad.block) :
    Calls Try.prog 22 #[.pointer (some ⟨g, 0, none⟩), .int .i64 z, .slice (some ad) 512 c] w fun e w' => e = .returned (.int .i64 0) ∧
      ∃ hv' e', Ent.at_ e' = at_ ∧ Ent.da e' = q ∧ Ent.dc e' = (fun j => f (512 * at_ + j)) ∧ Dsk w' g B base n K (put f (512 * at_) q) hv' (hs ++ [e']) (stepOn true lf) (stepLf lf) ∧ Below (min B g) w w' := by
  subst hz; exact write_ok g B base n K f hv hs lf at_ ad c q w ha hN h1 h2 h hq hl hn1 hn2
theorem read_z (z : Int) (at_ : Nat) (hz : z = at_) {g B base n K : Nat} {f : Nat → BitVec 8} {hv : Value} {hs : List Ent} {lf : Int} (w : World) (ha : at_ < n) (h : Dsk w g B base n K f hv hs true lf) :
    Calls Try.prog 21 #[.pointer (some ⟨g, 0, none⟩), .int .i64 z] w fun e w' => ∃ r, e = .returned (.tuple #[.slice (some ⟨r, 0, none⟩) 512 512, .int .i64 0]) ∧ w.heap.size = r ∧ Lies w' r 5 (yRow (fun j => f (512 * at_ + j)) 512) ∧ Below w.heap.size w w' := by
  subst hz; exact read_any g B base n K f hv hs lf at_ w ha h
theorem blk_at (z : Int) (w : World) : Calls Try.prog 23 #[.int .i64 z] w fun e w' => e = .returned (.slice (some ⟨w.heap.size, 0, none⟩) 512 512) ∧ Lies w' w.heap.size 5 (yRow (blk z) 512) ∧ Below w.heap.size w w' :=
  (blk_any z w).mono fun _ _ ⟨_, h1, h2, h3, h4⟩ => by subst h2; exact ⟨h1, h3, h4⟩
set_option maxHeartbeats 400000 in
/-- a block that is not there -/
theorem write_far {g B base n K : Nat} {f : Nat → BitVec 8} {hv : Value} {hs : List Ent} {lf : Int} (z : Int) (b : Value) (w : World) (hz : z < 0 ∨ (n : Int) ≤ z) (h : Dsk w g B base n K f hv hs true lf) :
    Calls Try.prog 22 #[.pointer (some ⟨g, 0, none⟩), .int .i64 z, b] w fun e w' => e = .returned (.int .i64 10) ∧ w = w' := by
  have F1 := Lib.hid (reach_any g B n K hv true lf z w h.size h.most.2 h.self)
  have ew : why true n z = 10 := by unfold why; rw [if_neg (by decide), if_pos hz]
  rw [ew] at F1
  clear h ew hz
  go_enter Try.func22, Try.ntmps22
  go_wp2_with (go_at_call 39; (with_reducible refine F1.out.mono ?_); rintro e w' ⟨rfl, rfl⟩)
  go_ret
  exact ⟨rfl, rfl⟩
set_option maxHeartbeats 400000 in
/-- a length that is none -/
theorem write_len {g B base n K : Nat} {f : Nat → BitVec 8} {hv : Value} {hs : List Ent} {lf : Int} (z : Int) (A : Option Addr) (L C : Nat) (w : World) (h1 : 0 ≤ z) (h2 : z < (n : Int)) (hL : L ≠ 512) (h : Dsk w g B base n K f hv hs true lf) :
    Calls Try.prog 22 #[.pointer (some ⟨g, 0, none⟩), .int .i64 z, .slice A L C] w fun e w' => e = .returned (.int .i64 1) ∧ w = w' := by
  have F1 := Lib.hid (reach_any g B n K hv true lf z w h.size h.most.2 h.self)
  have ew : why true n z = 0 := by unfold why; rw [if_neg (by decide), if_neg (by omega)]
  rw [ew] at F1
  have t1 : ((L : Int) != 512) = true := by
    have : ¬ (L : Int) = 512 := by omega
    simpa using this
  clear h ew h1 h2 hL
  go_enter Try.func22, Try.ntmps22
  go_wp2_with (go_at_call 39; (with_reducible refine F1.out.mono ?_); rintro e w' ⟨rfl, rfl⟩)
  go_ret
  exact ⟨rfl, rfl⟩
end Go.Proofs.Ytibidljblkfciaa
