/-
What is proved here: New, step, Fuse, Flush, Read of the disk, and the law's block of bytes, each by a contract.
-/
import Derived.Test.YtibidljblkfciaaOps
set_option linter.unusedSimpArgs false
namespace Go.Proofs.Ytibidljblkfciaa
open Go.Word Go.RowKit

theorem dsk_lt {w : World} {g B base n K : Nat} {f : Nat → BitVec 8} {hv : Value} {hs : List Ent} {on : Bool} {lf : Int} (h : Dsk w g B base n K f hv hs on lf) : g < w.heap.size := lies_lt h.self
/-- what turns nothing of what was there turns no disk -/
theorem dsk_below {w w' : World} {g B base n K : Nat} {f : Nat → BitVec 8} {hv : Value} {hs : List Ent} {on : Bool} {lf : Int} (h : Dsk w g B base n K f hv hs on lf) (hb : Below w.heap.size w w') : Dsk w' g B base n K f hv hs on lf where
  self := lies_below h.self hb (lies_lt h.self)
  bytes := lies_below h.bytes hb (lies_lt h.bytes)
  held := World.ownsRow.kept h.held ⟨hb.os, hb.tape, hb.output, hb.size, fun k hk _ => hb.block k hk⟩ (row := none) (by cases hv' : hv.ownBlock <;> simp)
  size := h.size
  most := h.most
  ord := ⟨h.ord.1, h.ord.2.1, Nat.le_trans h.ord.2.2 hb.size⟩
  rows := fun e he => by
    obtain ⟨h1, h2, h3, h4, h5, h6, h7⟩ := h.rows e he
    exact ⟨h1, h2, h3, lies_below h4 hb (lies_lt h4), lies_below h5 hb (lies_lt h5), h6, h7⟩

set_option maxHeartbeats 400000 in
theorem new_any (n : Nat) (w : World) (h1 : 1 ≤ n) (h2 : n ≤ 4096) :
    Calls Try.prog 18 #[.int .i64 (n : Int)] w fun e w' => ∃ B g, e = .returned (.tuple #[.pointer (some ⟨g, 0, none⟩), .int .i64 0]) ∧ w.heap.size = B ∧ Dsk w' g B (g + 1) n (512 * n) (fun _ => 0) (.slice none 0 0) [] true (-1) ∧ Below w.heap.size w w' := by
  have t1 : decide ((n : Int) < 1) = false := decide_eq_false (by omega)
  have t2 : decide ((4096 : Int) < (n : Int)) = false := decide_eq_false (by omega)
  obtain ⟨K, hK⟩ : ∃ K, K = 512 * n := ⟨_, rfl⟩
  have e1 : (n : Int) * 512 = (K : Int) := by omega
  have hk : K ≤ 3000000 := by omega
  have hmk := fun W => made_n K hk W
  have HK := Lib.hid hK
  clear hK
  go_enter Try.func18, Try.ntmps18
  go_wp2
  go_ret2
  have hK := HK.out
  refine ⟨w.heap.size, w.heap.size + 1, rfl, rfl, ?_, ((Below.refl _ _).alloc (Nat.le_refl _) _).alloc (by simp) _⟩
  rw [← hK]
  exact {
    self := heap_alloc2_new w _ _
    bytes := by rw [← made_zero]; exact lies_alloc (lies_new w 5 _) _
    held := ⟨rfl, .inl ⟨rfl, rfl⟩⟩
    size := hK
    most := ⟨h1, h2⟩
    ord := ⟨by omega, by omega, by simp⟩
    rows := fun e he => by cases he }

/-- the power and the fuse behind a step -/
def stepOn (on : Bool) (lf : Int) : Bool := if lf = -1 then on else decide (0 < lf - 1)
def stepLf (lf : Int) : Int := if lf = -1 then -1 else lf - 1
theorem step_any (g B K : Nat) (hv : Value) (on : Bool) (lf : Int) (w : World) (h1 : -1 ≤ lf) (h2 : lf ≤ 9223372036854775807) (h : Lies w g 65 (DRow B K hv on lf)) :
    Calls Try.prog 41 #[.pointer (some ⟨g, 0, none⟩)] w fun e w' => e = .returned (.tuple #[]) ∧ Lies w' g 65 (DRow B K hv (stepOn on lf) (stepLf lf)) ∧ w.grownBy w' (some g) := by
  have c3 : w.cell? ⟨g, 3, none⟩ = some (.int .i64 lf) := lies_cell h 3
  have c2 : w.cell? ⟨g, 2, none⟩ = some (.bool on) := lies_cell h 2
  have f3 := lies_free h 3
  have f2 := lies_free h 2
  have H := Lib.hid h
  clear h
  by_cases he : lf = -1
  · subst he
    go_enter Try.func41, Try.ntmps41
    go_wp2
    exact bodyPost_ret (results_none rfl _ _ _) rfl ⟨rfl, H.out, World.grownBy.refl w _⟩
  · have t1 : (lf == -1) = false := by simpa using he
    have e1 : stepOn on lf = decide (1 < lf) := by unfold stepOn; rw [if_neg he]; exact decide_eq_decide.2 (by omega)
    have e2 : stepLf lf = lf - 1 := if_neg he
    rw [e1, e2]
    clear e1 e2
    go_enter Try.func41, Try.ntmps41
    go_wp2
    go_end0
    exact ⟨rfl, lies_set (lies_set H.out 3 _) 2 _, only_setCell (only_setCell (World.grownBy.refl w _) 3 _) 2 _⟩
/-- a disk whose own cells alone have turned -/
theorem dsk_self {w w' : World} {g B base n K : Nat} {f : Nat → BitVec 8} {hv : Value} {hs : List Ent} {on on' : Bool} {lf lf' : Int} (h : Dsk w g B base n K f hv hs on lf) (hg : w.grownBy w' (some g)) (hl : Lies w' g 65 (DRow B K hv on' lf')) : Dsk w' g B base n K f hv hs on' lf' where
  self := hl
  bytes := (hg.block B (lies_lt h.bytes) (fun e => by injection e with e; have := h.ord.1; omega)).trans h.bytes
  held := World.ownsRow.kept h.held hg (by
    cases hk : hv.ownBlock with
    | none => simp
    | some k =>
      obtain ⟨h1, _⟩ := World.ownsRow.lt h.held k hk
      have := h.ord
      exact .inr (fun e => by injection e with e; omega))
  size := h.size
  most := h.most
  ord := ⟨h.ord.1, h.ord.2.1, Nat.le_trans h.ord.2.2 hg.size⟩
  rows := fun e he => by
    obtain ⟨h1, h2, h3, h4, h5, h6, h7⟩ := h.rows e he
    have := h.ord
    exact ⟨h1, h2, h3, (hg.block e.a (lies_lt h4) (fun e => by injection e with e; omega)).trans h4, (hg.block e.c (lies_lt h5) (fun e => by injection e with e; omega)).trans h5, h6, h7⟩
set_option maxHeartbeats 400000 in
theorem fuse_any (g B base n K : Nat) (f : Nat → BitVec 8) (hv : Value) (hs : List Ent) (lf : Int) (z : Int) (w : World) (h1 : -1 ≤ z) (h : Dsk w g B base n K f hv hs true lf) :
    Calls Try.prog 19 #[.pointer (some ⟨g, 0, none⟩), .int .i64 z] w fun e w' => e = .returned (.int .i64 0) ∧ Dsk w' g B base n K f hv hs (decide (z ≠ 0)) z ∧ w.grownBy w' (some g) := by
  have F1 := Lib.hid (on_any g true w (lies_cell h.self 2))
  have c3 : w.cell? ⟨g, 3, none⟩ = some (.int .i64 lf) := lies_cell h.self 3
  have c2 : w.cell? ⟨g, 2, none⟩ = some (.bool true) := lies_cell h.self 2
  have f3 := lies_free h.self 3
  have f2 := lies_free h.self 2
  have t1 : decide (z < -1) = false := decide_eq_false (by omega)
  have H := Lib.hid h
  clear h
  go_enter Try.func19, Try.ntmps19
  go_wp2_with (go_at_call 20; (with_reducible refine F1.out.mono ?_); rintro e w' ⟨rfl, rfl⟩)
  go_ret
  have hg := only_setCell (only_setCell (World.grownBy.refl w (some g)) 3 (.int .i64 z)) 2 (.bool (z != 0))
  have e : decide (z ≠ 0) = (z != 0) := by by_cases hz : z = 0 <;> simp [hz]
  refine ⟨rfl, ?_, hg⟩
  rw [e]
  exact dsk_self H.out hg (lies_set (lies_set H.out.self 3 _) 2 _)
set_option maxHeartbeats 400000 in
theorem read_any (g B base n K : Nat) (f : Nat → BitVec 8) (hv : Value) (hs : List Ent) (lf : Int) (at_ : Nat) (w : World) (ha : at_ < n) (h : Dsk w g B base n K f hv hs true lf) :
    Calls Try.prog 21 #[.pointer (some ⟨g, 0, none⟩), .int .i64 (at_ : Int)] w fun e w' => ∃ r, e = .returned (.tuple #[.slice (some ⟨r, 0, none⟩) 512 512, .int .i64 0]) ∧ w.heap.size = r ∧ Lies w' r 5 (yRow (fun j => f (512 * at_ + j)) 512) ∧ Below w.heap.size w w' := by
  obtain ⟨p, hp⟩ : ∃ p, p = 512 * at_ := ⟨_, rfl⟩
  have ew : why true n (at_ : Int) = 0 := by unfold why; rw [if_neg (by decide), if_neg (by omega)]
  have F1 := Lib.hid (reach_any g B n K hv true lf (at_ : Int) w h.size h.most.2 h.self)
  rw [ew] at F1
  have F2 := Lib.hid (block_any g B n K hv true lf at_ p w h.size h.most.2 hp ha h.self)
  have hK := h.size
  have hs8 : Src8 w ⟨B, p, none⟩ (fun j => f (512 * at_ + j)) 512 := fun j hj => by
    rw [Addr.add_mid, lies_cell h.bytes, yRow_at _ (by omega), hp]
  have F3 := Lib.hid (twin_any ⟨B, p, none⟩ 512 512 (fun j => f (512 * at_ + j)) w (by omega) hs8 (lies_lt h.bytes))
  clear ew hs8 h hp hK
  go_enter Try.func21, Try.ntmps21
  go_wp2_with (first
    | (go_at_call 39; (with_reducible refine F1.out.mono ?_); rintro e w' ⟨rfl, rfl⟩)
    | (go_at_call 40; (with_reducible refine F2.out.mono ?_); rintro e w' ⟨rfl, rfl⟩)
    | (go_at_call 32; (with_reducible refine F3.out.mono ?_); rintro e w' ⟨r, rfl, hr, hl, hb⟩; have HR := Lib.hid hr; have HL := Lib.hid hl; have HB := Lib.hid hb; clear hr hl hb))
  go_ret2
  exact ⟨r, rfl, HR.out, HL.out, HB.out⟩
end Go.Proofs.Ytibidljblkfciaa
