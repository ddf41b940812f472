/-
What is proved here: Flush, a write that is one too many, and the law DiskFull's walk.
-/
import Derived.Test.YtibidljblkfciaaAlv
import Derived.Test.YtibidljblkfciaaWrtb
set_option linter.unusedSimpArgs false
namespace Go.Proofs.Ytibidljblkfciaa
open Go.Word Go.RowKit

theorem write_zb (z : Int) (at_ : Nat) (hz : z = at_) {g B base n K : Nat} {f : Nat → BitVec 8} {hv : Value} {hs : List Ent} {lf : Int} (ad : Addr) (c : Nat) (q : Nat → BitVec 8) (w : World) (ha : at_ < n) (hN : hs.length < 65536) (h1 : -1 ≤ lf) (h2 : lf ≤ 9223372036854775807)
    (h : Dsk w g B base n K f hv hs true lf) (hq : Src8 w ad q 512) (hl : ad.block < w.heap.size) (hn1 : ad.block ≠ g) (hn2 : hv.ownBlock ≠ some ad.block) :
    Calls Try.prog 22 #[.pointer (some ⟨g, 0, none⟩), .int .i64 z, .slice (some ad) 512 c] w fun e w' => e = .returned (.int .i64 0) ∧
      ∃ hv' e', Ent.at_ e' = at_ ∧ Ent.da e' = q ∧ Ent.dc e' = (fun j => f (512 * at_ + j)) ∧ Dsk w' g B base n K (put f (512 * at_) q) hv' (hs ++ [e']) (stepOn true lf) (stepLf lf) ∧ Below (min B g) w w' ∧ ∀ i, i < w.heap.size → i ≠ g → i ≠ B → hv.ownBlock ≠ some i → w'.heap[i]? = w.heap[i]? := by
  subst hz; exact (write_full_ok g B base n K f hv hs lf at_ ad c q w ha hN h1 h2 h hq hl hn1 hn2).mono fun _ _ ⟨e, hv', e', x1, x2, x3, x4, x5, x6, _⟩ => ⟨e, hv', e', x1, x2, x3, x4, x5, x6⟩
set_option maxHeartbeats 400000 in
theorem write_most {g B base n K : Nat} {f : Nat → BitVec 8} {hv : Value} {hs : List Ent} {lf : Int} (z : Int) (A : Option Addr) (C : Nat) (w : World) (h1 : 0 ≤ z) (h2 : z < (n : Int)) (hL : 65536 ≤ hs.length) (h : Dsk w g B base n K f hv hs true lf) :
    Calls Try.prog 22 #[.pointer (some ⟨g, 0, none⟩), .int .i64 z, .slice A 512 C] w fun e w' => e = .returned (.int .i64 2) ∧ w = w' := by
  have F1 := Lib.hid (reach_any g B n K hv true lf z w h.size h.most.2 h.self)
  have ew : why true n z = 0 := by unfold why; rw [if_neg (by decide), if_neg (by omega)]
  rw [ew] at F1
  have c1 : w.cell? ⟨g, 1, none⟩ = some hv := lies_cell h.self 1
  obtain ⟨A', C', hvf⟩ : ∃ A C, hv = .slice A hs.length C := by
    rcases h.held.2 with ⟨e, e0⟩ | ⟨gg, cap, cur, e, _⟩
    · exact ⟨none, 0, by rw [e, e0]⟩
    · exact ⟨_, _, e⟩
  obtain ⟨N, hNl⟩ : ∃ N, N = hs.length := ⟨_, rfl⟩
  rw [← hNl] at hvf hL
  subst hvf
  have t3 : decide (65536 ≤ N) = true := decide_eq_true (by omega)
  have t4 : decide ((65536 : Int) ≤ (N : Int)) = true := decide_eq_true (by omega)
  clear h ew h1 h2 hL hNl
  go_enter Try.func22, Try.ntmps22
  go_wp2_with (go_at_call 39; (with_reducible refine F1.out.mono ?_); rintro e w' ⟨rfl, rfl⟩)
  go_ret
  exact ⟨rfl, rfl⟩
set_option maxHeartbeats 400000 in
theorem flush_any {g B base n K : Nat} {f : Nat → BitVec 8} {hv : Value} {hs : List Ent} {lf : Int} (w : World) (h1 : -1 ≤ lf) (h2 : lf ≤ 9223372036854775807) (h : Dsk w g B base n K f hv hs true lf) :
    Calls Try.prog 25 #[.pointer (some ⟨g, 0, none⟩)] w fun e w' => e = .returned (.int .i64 0) ∧ Dsk w' g B base n K f (.slice none 0 0) [] (stepOn true lf) (stepLf lf) ∧ w.grownBy w' (some g) := by
  have F1 := Lib.hid (on_any g true w (lies_cell h.self 2))
  have c1 : w.cell? ⟨g, 1, none⟩ = some hv := lies_cell h.self 1
  obtain ⟨A', C', hvf⟩ : ∃ A C, hv = .slice A hs.length C := by
    rcases h.held.2 with ⟨e, e0⟩ | ⟨gg, cap, cur, e, _⟩
    · exact ⟨none, 0, by rw [e, e0]⟩
    · exact ⟨_, _, e⟩
  subst hvf
  have f1 := lies_free h.self 1
  have hg1 := only_setCell (World.grownBy.refl w (some g)) 1 (.slice none 0 0)
  have hd0 : Dsk (w.setCell ⟨g, 1, none⟩ (.slice none 0 0)) g B base n K f (.slice none 0 0) [] true lf := {
    self := lies_set h.self 1 _
    bytes := (hg1.block B (lies_lt h.bytes) (fun e => by injection e with e; have := h.ord.1; omega)).trans h.bytes
    held := ⟨rfl, .inl ⟨rfl, rfl⟩⟩
    size := h.size
    most := h.most
    ord := ⟨h.ord.1, h.ord.2.1, Nat.le_trans h.ord.2.2 hg1.size⟩
    rows := fun e he => by cases he }
  have F2 := Lib.hid (step_any g B K _ true lf _ h1 h2 hd0.self)
  have HG := Lib.hid hg1
  have HD := Lib.hid hd0
  clear h hg1 hd0
  go_enter Try.func25, Try.ntmps25
  go_wp2_with (first
    | (go_at_call 20; (with_reducible refine F1.out.mono ?_); rintro e w' ⟨rfl, rfl⟩)
    | (go_at_call 41; (with_reducible refine F2.out.mono ?_); rintro e w7 ⟨rfl, hl7, hg7⟩; have L7 := Lib.hid hl7; have G7 := Lib.hid hg7; clear hl7 hg7))
  go_ret
  exact ⟨rfl, dsk_self HD.out G7.out L7.out, ⟨G7.out.os.trans HG.out.os, G7.out.tape.trans HG.out.tape, G7.out.output.trans HG.out.output, Nat.le_trans HG.out.size G7.out.size, fun k hk hne => (G7.out.block k (Nat.lt_of_lt_of_le hk HG.out.size) hne).trans (HG.out.block k hk hne)⟩⟩

set_option maxRecDepth 100000 in
set_option maxHeartbeats 4000000 in
theorem fulls_any (z : Int) (w : World) : Calls Try.prog 6 #[.int .i64 z] w fun e w' => e = .returned (.bool true) ∧ Below w.heap.size w w' := by
  by_cases h1 : z < 1
  · have t1 : decide (z < 1) = true := decide_eq_true h1
    go_enter Try.func6, Try.ntmps6
    go_wp2_with (go_at_call 11; (with_reducible refine (alive_any _).mono ?_); rintro e w1 ⟨rfl, hb⟩; have H1 := Lib.hid hb; clear hb)
    go_ret
    exact ⟨rfl, H1.out⟩
  have t1 : decide (z < 1) = false := decide_eq_false h1
  by_cases h2 : 3 < z
  · have t2 : decide (3 < z) = true := decide_eq_true h2
    go_enter Try.func6, Try.ntmps6
    go_wp2_with (go_at_call 11; (with_reducible refine (alive_any _).mono ?_); rintro e w1 ⟨rfl, hb⟩; have H1 := Lib.hid hb; clear hb)
    go_ret
    exact ⟨rfl, H1.out⟩
  have t2 : decide (3 < z) = false := decide_eq_false h2
  obtain ⟨m, rfl⟩ : ∃ n : Nat, z = (n : Int) := ⟨z.toNat, by omega⟩
  have t2' : decide ((3 : Int) < (m : Int)) = false := t2
  have hm : m ≤ 3 := by omega
  clear h1 h2
  go_enter Try.func6, Try.ntmps6
  go_upto_region 6 with (first
    | (go_at_call 11; (with_reducible refine (alive_any _).mono ?_); rintro e w1 ⟨rfl, hb⟩; have H1 := Lib.hid hb; clear hb)
    | (go_at_call 18; (with_reducible refine (new_z 1 1 rfl _ (by decide) (by decide)).mono ?_); rintro e w2 ⟨B, g, rfl, hB, hd, hb⟩; have HB := Lib.hid hB; have HD := Lib.hid hd; have H2 := Lib.hid hb; clear hB hd hb)
    | (go_at_call 23; (with_reducible refine (blk_any _ _).mono ?_); rintro e w3 ⟨r, rfl, hr, hl, hb⟩; have HR := Lib.hid hr; have L3 := Lib.hid hl; have H3 := Lib.hid hb; clear hr hl hb))
  clear t1 t2 t2'
  have hBw : w.heap.size ≤ B := by have := HB.out; have := H1.out.size; omega
  have hBm : w.heap.size ≤ min B g := by have := HD.out.ord; omega
  have hrg : r ≠ g := by have := HR.out; have := lies_lt HD.out.self; omega
  have hrB : r ≠ B := by have := HR.out; have := lies_lt HD.out.bytes; omega
  have d3 := dsk_below HD.out H3.out
  have b3 := up (up H1.out H2.out) H3.out
  have l3 := L3.out
  clear HD H1 H2 H3 L3 HR HB
  go_wp2
  go_loopw [7] (fun v wr => ∃ (i : Nat) (f : Nat → BitVec 8) (hv : Value) (hs : List Ent), i ≤ 65536 ∧ v = .int .i64 (i : Int) ∧ hs.length = i ∧ Dsk wr g B (g + 1) 1 (512 * 1) f hv hs true (-1) ∧ Lies wr r 5 (yRow (blk 3) 512) ∧ Below w.heap.size w wr) (fun v _ => 65536 - (intOf v).toNat)
  case atStart => exact ⟨0, _, _, [], by omega, rfl, rfl, d3, l3, b3⟩
  case round =>
    clear d3 l3 b3
    obtain ⟨i, f, hv, hs, hi, rfl, hlen, hd, hl, hb⟩ := hrel
    have HD := Lib.hid hd
    have HL := Lib.hid hl
    have HB := Lib.hid hb
    have HN := Lib.hid hlen
    clear hd hl hb hlen
    by_cases hlt : i < 65536
    · have li : (i : Int) < 65536 := by omega
      go_wp2_with (first
        | (go_at_call 22; (with_reducible refine (write_zb 0 0 rfl ⟨r, 0, none⟩ 512 (blk 3) _ (by decide) (by rw [HN.out]; exact hlt) (by decide) (by decide) HD.out (src_row HL.out) (lies_lt HL.out) hrg (own_type HD.out.held HL.out (by decide))).mono ?_); rintro e w4 ⟨rfl, hv', e', _, _, _, hd, hb, ho⟩; have HD4 := Lib.hid hd; have HB4 := Lib.hid hb; have HO4 := Lib.hid ho; clear hd hb ho)
        | (go_at_call 24; (with_reducible refine (num_any _ _).mono ?_); rintro e w' ⟨rfl, rfl⟩))
      go_roundw
      case rel => exact ⟨i + 1, _, hv', hs ++ [e'], by omega, by go_num, by rw [List.length_append, HN.out]; rfl, HD4.out, (HO4.out r (lies_lt HL.out) hrg hrB (own_type HD.out.held HL.out (by decide))).trans HL.out, HB.out.trans (HB4.out.mono hBm)⟩
      case measure => first | (simp [intOf]; done) | (simp [intOf]; omega)
    · obtain rfl : i = 65536 := by omega
      clear hlt hi
      go_wp2
      go_loopw [9] (fun v wx => ∃ j : Nat, j ≤ m ∧ v = .int .i64 (j : Int) ∧ Dsk wx g B (g + 1) 1 (512 * 1) f hv hs true (-1) ∧ Lies wx r 5 (yRow (blk 3) 512) ∧ Below w.heap.size w wx) (fun v _ => m - (intOf v).toNat)
      case atStart => exact ⟨0, by omega, rfl, HD.out, HL.out, HB.out⟩
      case round =>
        clear HD HL HB
        obtain ⟨j, hj, rfl, hd, hl, hb⟩ := hrel
        have HD := Lib.hid hd
        have HL := Lib.hid hl
        have HB := Lib.hid hb
        clear hd hl hb
        by_cases hlt2 : j < m
        · have li : (j : Int) < (m : Int) := by omega
          go_wp2_with (first
            | (go_at_call 22; (with_reducible refine (write_most 0 (some ⟨r, 0, none⟩) 512 _ (by decide) (by decide) (by rw [HN.out]; exact Nat.le_refl _) HD.out).mono ?_); rintro e w4 ⟨rfl, rfl⟩)
            | (go_at_call 24; (with_reducible refine (num_any _ _).mono ?_); rintro e w' ⟨rfl, rfl⟩))
          refine ⟨⟨_, _, _, _, _, _, _, _, _, _, _, _, _, _, ?rel, rfl⟩, ?measure⟩
          case rel => exact ⟨j + 1, by omega, by go_num, HD.out, HL.out, HB.out⟩
          case measure => first | (simp [intOf]; done) | (simp [intOf]; omega)
        · have li : ¬ (j : Int) < (m : Int) := by omega
          have P1 := pend_any g (g + 1) hv hs wr (by rw [HN.out]; decide) (lies_lt HD.out.self) (lies_cell HD.out.self 1) HD.out.held
          rw [HN.out] at P1
          have PP := Lib.hid P1
          clear P1
          go_upto_region 19 with (go_at_call 27; (with_reducible refine PP.out.mono ?_); rintro e w5 ⟨A5, C5, rfl, _, hb⟩; have H5 := Lib.hid hb; clear hb)
          have HD5 := Lib.hid (dsk_below HD.out H5.out)
          have HL5 := Lib.hid (lies_below HL.out H5.out (lies_lt HL.out))
          have HB5 := Lib.hid (up HB.out H5.out)
          clear PP HD HL HB H5
          go_upto_region 20 with (go_at_call 25; (with_reducible refine (flush_any _ (by decide) (by decide) HD5.out).mono ?_); rintro e w6 ⟨rfl, hd, hg⟩; have HD6 := Lib.hid (show Dsk w6 g B (g + 1) 1 (512 * 1) f (.slice none 0 0) [] true (-1) from hd); have HG6 := Lib.hid hg; clear hd hg)
          have HL6 := Lib.hid (show Lies w6 r 5 (yRow (blk 3) 512) from (HG6.out.block r (lies_lt HL5.out) (fun e => by injection e with e; exact hrg e)).trans HL5.out)
          have HB6 := Lib.hid (HB5.out.trans (grown_below (B := w.heap.size) HG6.out (fun k e => by injection e with e; have := HD5.out.ord; omega) HB5.out.size))
          clear HD5 HL5 HB5 HG6
          go_upto_region 21 with (go_at_call 22; (with_reducible refine (write_zb 0 0 rfl ⟨r, 0, none⟩ 512 (blk 3) _ (by decide) (by decide) (by decide) (by decide) HD6.out (src_row HL6.out) (lies_lt HL6.out) hrg (by simp [Value.ownBlock])).mono ?_); rintro e w7 ⟨rfl, hv', e', _, _, _, hd, hb, _⟩; have HD7 := Lib.hid hd; have HB7 := Lib.hid hb; clear hd hb)
          have B7 := Lib.hid (HB6.out.trans (HB7.out.mono hBm))
          have P2 := Lib.hid (pend_any g (g + 1) hv' ([] ++ [e']) w7 (by simp) (lies_lt HD7.out.self) (lies_cell HD7.out.self 1) HD7.out.held)
          clear HD6 HL6 HB6 HB7
          go_wp2_with (first
            | (go_at_call 24; (with_reducible refine (num_any _ _).mono ?_); rintro e w' ⟨rfl, rfl⟩)
            | (go_at_call 27; (with_reducible refine P2.out.mono ?_); rintro e w8 ⟨A8, C8, rfl, _, hb⟩; have H8 := Lib.hid hb; clear hb))
          go_ret
          exact ⟨rfl, up B7.out H8.out⟩
end Go.Proofs.Ytibidljblkfciaa
