/-
What is proved here: Flush and Read without power, and the law DiskFuse's walk.
-/
import Derived.Test.YtibidljblkfciaaCre
import Derived.Test.YtibidljblkfciaaFul
set_option linter.unusedSimpArgs false
namespace Go.Proofs.Ytibidljblkfciaa
open Go.Word Go.RowKit

theorem flush_off {g B base n K : Nat} {f : Nat → BitVec 8} {hv : Value} {hs : List Ent} {lf : Int} (w : World) (h : Dsk w g B base n K f hv hs false lf) :
    Calls Try.prog 25 #[.pointer (some ⟨g, 0, none⟩)] w fun e w' => e = .returned (.int .i64 11) ∧ w = w' := by
  have F1 := Lib.hid (on_any g false w (lies_cell h.self 2))
  clear h
  go_enter Try.func25, Try.ntmps25
  go_wp2_with (go_at_call 20; (with_reducible refine F1.out.mono ?_); rintro e w' ⟨rfl, rfl⟩)
  go_ret
  exact ⟨rfl, rfl⟩
theorem read_off {g B base n K : Nat} {f : Nat → BitVec 8} {hv : Value} {hs : List Ent} {lf : Int} (z : Int) (w : World) (h : Dsk w g B base n K f hv hs false lf) :
    Calls Try.prog 21 #[.pointer (some ⟨g, 0, none⟩), .int .i64 z] w fun e w' => e = .returned (.tuple #[.slice none 0 0, .int .i64 11]) ∧ w = w' := by
  have F1 := Lib.hid (reach_any g B n K hv false lf z w h.size h.most.2 h.self)
  have ew : why false n z = 11 := by unfold why; rw [if_pos rfl]
  rw [ew] at F1
  clear h ew
  go_enter Try.func21, Try.ntmps21
  go_wp2_with (go_at_call 39; (with_reducible refine F1.out.mono ?_); rintro e w' ⟨rfl, rfl⟩)
  go_ret2
  exact ⟨rfl, rfl⟩
theorem step_nat (l : Nat) : stepOn true ((l + 1 : Nat) : Int) = decide (0 < l) ∧ stepLf ((l + 1 : Nat) : Int) = (l : Int) := by
  unfold stepOn stepLf
  rw [if_neg (by omega), if_neg (by omega)]
  refine ⟨?_, by omega⟩
  exact decide_eq_decide.2 (by omega)

set_option maxRecDepth 100000 in
set_option maxHeartbeats 4000000 in
theorem fuses_any (z : Int) (w : World) : Calls Try.prog 5 #[.int .i64 z] w fun e w' => e = .returned (.bool true) ∧ Below w.heap.size w w' := by
  by_cases h1 : z < 0
  · have t1 : decide (z < 0) = true := decide_eq_true h1
    go_enter Try.func5, Try.ntmps5
    go_wp2_with (go_at_call 11; (with_reducible refine (alive_any _).mono ?_); rintro e w1 ⟨rfl, hb⟩; have H1 := Lib.hid hb; clear hb)
    go_ret
    exact ⟨rfl, H1.out⟩
  have t1 : decide (z < 0) = false := decide_eq_false h1
  by_cases h2 : 200 < z
  · have t2 : decide (200 < z) = true := decide_eq_true h2
    go_enter Try.func5, Try.ntmps5
    go_wp2_with (go_at_call 11; (with_reducible refine (alive_any _).mono ?_); rintro e w1 ⟨rfl, hb⟩; have H1 := Lib.hid hb; clear hb)
    go_ret
    exact ⟨rfl, H1.out⟩
  have t2 : decide (200 < z) = false := decide_eq_false h2
  obtain ⟨S, rfl⟩ : ∃ n : Nat, z = (n : Int) := ⟨z.toNat, by omega⟩
  have t2' : decide ((200 : Int) < (S : Int)) = false := t2
  have hS : S ≤ 200 := by omega
  clear h1 h2
  have N3 := Lib.hid (fun W : World => new_z 3 3 rfl W (by decide) (by decide))
  go_enter Try.func5, Try.ntmps5
  go_upto_region 5 with (first
    | (go_at_call 11; (with_reducible refine (alive_any _).mono ?_); rintro e w1 ⟨rfl, hb⟩; have H1 := Lib.hid hb; clear hb)
    | (go_at_call 18; (with_reducible refine (N3.out _).mono ?_); rintro e w2 ⟨B, g, rfl, hB, hd, hb⟩; have HB := Lib.hid hB; have HD := Lib.hid hd; have H2 := Lib.hid hb; clear hB hd hb))
  go_upto_region 6 with (go_at_call 19; (with_reducible refine (fuse_any g B (g + 1) 3 (512 * 3) _ _ _ _ (S : Int) _ (by omega) HD.out).mono ?_); rintro e w3 ⟨rfl, hd, hg⟩; have HD3 := Lib.hid hd; have HG3 := Lib.hid hg; clear hd hg)
  clear t1 t2 t2'
  have hBw : w.heap.size ≤ B := by have := HB.out; have := H1.out.size; omega
  have d3 : Dsk w3 g B (g + 1) 3 (512 * 3) (fun _ => 0) (.slice none 0 0) [] (decide (0 < S)) (S : Int) := by
    have e : decide ((S : Int) ≠ 0) = decide (0 < S) := decide_eq_decide.2 (by omega)
    rw [← e]; exact HD3.out
  have b3 : Below w.heap.size w w3 := (up H1.out H2.out).trans (grown_below (B := w.heap.size) HG3.out (fun k e => by injection e with e; have := HD.out.ord; omega) (Nat.le_trans H1.out.size H2.out.size))
  clear HD H1 H2 HB HD3 HG3
  go_wp2
  go_loopw [7, 8] (fun v7 v8 wr => ∃ (i m lf : Nat) (f : Nat → BitVec 8) (hv : Value) (hs : List Ent), i ≤ m ∧ m + lf = S ∧ v7 = .int .i64 (m : Int) ∧ v8 = .int .i64 (i : Int) ∧ hs.length ≤ m ∧ (hs = [] → hv = .slice none 0 0) ∧ Dsk wr g B (g + 1) 3 (512 * 3) f hv hs (decide (0 < lf)) (lf : Int) ∧ Below w.heap.size w wr) (fun _ v8 _ => 300 - (intOf v8).toNat)
  case atStart => exact ⟨0, 0, S, _, _, [], Nat.le_refl _, by omega, rfl, rfl, Nat.le_refl _, fun _ => rfl, d3, b3⟩
  case round =>
    clear d3 b3
    obtain ⟨i, m, lf, f, hv, hs, him, hmS, rfl, rfl, hlen, hnil, hd, hb⟩ := hrel
    have li : (i : Int) < 300 := by omega
    cases lf with
    | zero =>
      obtain rfl : m = S := by omega
      have HD := Lib.hid (show Dsk wr g B (g + 1) 3 (512 * 3) f hv hs false 0 from hd)
      have HB := Lib.hid hb
      have C1 := Lib.hid (crash_any wr (by omega) hnil (show Dsk wr g B (g + 1) 3 (512 * 3) f hv hs false 0 from hd))
      have F1 := Lib.hid (on_any g false wr (lies_cell hd.self 2))
      clear hd hb
      go_upto_region 22 with (first
        | (go_at_call 20; (with_reducible refine F1.out.mono ?_); rintro e w' ⟨rfl, rfl⟩)
        | (go_at_call 25; (with_reducible refine (flush_off _ HD.out).mono ?_); rintro e w' ⟨rfl, rfl⟩)
        | (go_at_call 21; (with_reducible refine (read_off 0 _ HD.out).mono ?_); rintro e w' ⟨rfl, rfl⟩))
      go_upto_region 23 with (go_at_call 26; (with_reducible refine C1.out.mono ?_); rintro e w4 ⟨rfl, f4, hd, hb⟩; have D4 := Lib.hid hd; have H4 := Lib.hid hb; clear hd hb)
      have B4 := Lib.hid (HB.out.trans (H4.out.mono hBw))
      go_upto_region 24 with (go_at_call 25; (with_reducible refine (flush_any _ (by decide) (by decide) D4.out).mono ?_); rintro e w5 ⟨rfl, hd, hg⟩; have D5 := Lib.hid (show Dsk w5 g B (g + 1) 3 (512 * 3) f4 (.slice none 0 0) [] true (-1) from hd); have G5 := Lib.hid hg; clear hd hg)
      have hord := D4.out.ord
      have B5 := Lib.hid (B4.out.trans (grown_below (B := w.heap.size) G5.out (fun k e => by injection e with e; omega) B4.out.size))
      have O1 := Lib.hid (on_any g true w5 (lies_cell D5.out.self 2))
      have P1 := Lib.hid (pend_any g (g + 1) (.slice none 0 0) [] w5 (by decide) (lies_lt D5.out.self) (lies_cell D5.out.self 1) D5.out.held)
      clear D4 D5 G5 B4 H4 HD HB C1 F1 hord
      go_wp2_with (first
        | (go_at_call 24; (with_reducible refine (num_any _ _).mono ?_); rintro e w' ⟨rfl, rfl⟩)
        | (go_at_call 20; (with_reducible refine O1.out.mono ?_); rintro e w' ⟨rfl, rfl⟩)
        | (go_at_call 27; (with_reducible refine P1.out.mono ?_); rintro e w6 ⟨A6, C6, rfl, _, hb⟩; have H6 := Lib.hid hb; clear hb))
      go_ret
      exact ⟨rfl, up B5.out H6.out⟩
    | succ l =>
      have hd' : Dsk wr g B (g + 1) 3 (512 * 3) f hv hs true ((l + 1 : Nat) : Int) := by
        have e : decide (0 < l + 1) = true := decide_eq_true (by omega)
        rw [← e]; exact hd
      have HD := Lib.hid hd'
      have HB := Lib.hid hb
      have F1 := Lib.hid (on_any g true wr (lies_cell hd'.self 2))
      clear hd hd' hb
      go_upto_region 10 with (go_at_call 20; (with_reducible refine F1.out.mono ?_); rintro e w' ⟨rfl, rfl⟩)
      obtain ⟨q, hq⟩ : ∃ q : Nat, q = i % 3 := ⟨_, rfl⟩
      have hq3 : q < 3 := by omega
      have E3 := Lib.hid (show (i : Int) % 3 = (q : Int) by omega)
      have HORD := Lib.hid HD.out.ord
      have HQ := Lib.hid hq
      clear hq
      go_upto_region 11 with (go_at_call 21; refine (read_z _ q E3.out wr hq3 HD.out).mono ?_; rintro e w4 ⟨r4, rfl, hq1, hq2, hb⟩; have H4 := Lib.hid hb; clear hb hq1 hq2)
      have D4 := Lib.hid (dsk_below HD.out H4.out)
      have B4 := Lib.hid (up HB.out H4.out)
      go_upto_region 12 with (first
        | (go_at_call 23; (with_reducible refine (blk_any _ _).mono ?_); rintro e w5 ⟨r5, rfl, hq1, hq2, hb⟩; have H5 := Lib.hid hb; clear hb hq1 hq2)
        | (go_at_call 22; (with_reducible refine (write_far 3 _ _ (.inr (by decide)) (dsk_below D4.out H5.out)).mono ?_); rintro e w' ⟨rfl, rfl⟩))
      have D5 := Lib.hid (dsk_below D4.out H5.out)
      have B5 := Lib.hid (up B4.out H5.out)
      clear D4 B4 H5
      go_upto_region 13 with (first
        | (go_at_call 23; (with_reducible refine (blk_any _ _).mono ?_); rintro e w6 ⟨r6, rfl, hq1, hq2, hb⟩; have H6 := Lib.hid hb; clear hb hq1 hq2)
        | (go_at_call 22; (with_reducible refine (write_len 0 _ 9 _ _ (by decide) (by decide) (by decide) (dsk_below D5.out H6.out)).mono ?_); rintro e w' ⟨rfl, rfl⟩))
      have D6 := Lib.hid (dsk_below D5.out H6.out)
      have B6 := Lib.hid (up B5.out H6.out)
      clear D5 B5 H6
      go_upto_region 14 with (first
        | (go_at_call 23; (with_reducible refine (blk_any _ _).mono ?_); rintro e w7 ⟨r, rfl, hr, hl, hb⟩; have HR := Lib.hid hr; have HL := Lib.hid hl; have H7 := Lib.hid hb; clear hr hl hb)
        | (go_at_call 22; (refine (write_zb _ q E3.out ⟨r, 0, none⟩ 512 (blk (i : Int)) _ hq3 (by omega) (by omega) (by omega) (dsk_below D6.out H7.out) (src_row HL.out) (lies_lt HL.out) (show r ≠ g by have h1 := HR.out; have h2 := lies_lt D6.out.self; omega) (own_type (dsk_below D6.out H7.out).held HL.out (by decide))).mono ?_); rintro e w8 ⟨rfl, hv', e', _, _, _, hd, hb, _⟩; have D8' := Lib.hid hd; have H8 := Lib.hid hb; clear hd hb))
      have D8 : Dsk w8 g B (g + 1) 3 (512 * 3) (put f (512 * q) (blk (i : Int))) hv' (hs ++ [e']) (decide (0 < l)) (l : Int) := by
        have := D8'.out
        rw [(step_nat l).1, (step_nat l).2] at this
        exact this
      have B8 := Lib.hid ((up B6.out H7.out).trans (H8.out.mono hBw))
      have hlen' : (hs ++ [e']).length ≤ m + 1 := by simp; omega
      clear D8' D6 B6 H7 H8 HL HR HD HB F1 hlen hnil
      generalize put f (512 * q) (blk (i : Int)) = f8 at D8
      obtain ⟨hs8, hhs⟩ : ∃ x, x = hs ++ [e'] := ⟨_, rfl⟩
      have hne : hs8 ≠ [] := by rw [hhs]; simp
      rw [← hhs] at D8 hlen'
      clear hhs
      by_cases h4 : i % 4 = 3
      · have t4 : (i : Int) % 4 = 3 := by omega
        have t5 : ((i : Int) % 4 == 3) = true := by simpa using t4
        have t6 : decide ((i : Int) % 4 = 3) = true := decide_eq_true t4
        clear h4
        cases l with
        | zero =>
          have D9 := Lib.hid (show Dsk w8 g B (g + 1) 3 (512 * 3) f8 hv' hs8 false 0 from D8)
          clear D8
          go_wp2_with (first
            | (go_at_call 24; (with_reducible refine (num_any _ _).mono ?_); rintro e w' ⟨rfl, rfl⟩)
            | (go_at_call 25; (with_reducible refine (flush_off _ D9.out).mono ?_); rintro e w' ⟨rfl, rfl⟩))
          go_roundw
          case rel => exact ⟨i + 1, m + 1, 0, _, _, _, by omega, by omega, by go_num, by go_num, hlen', fun e => absurd e hne, D9.out, B8.out⟩
          case measure => first | (simp [intOf]; done) | (simp [intOf]; omega)
        | succ l' =>
          have D9 := Lib.hid (show Dsk w8 g B (g + 1) 3 (512 * 3) f8 hv' hs8 true ((l' + 1 : Nat) : Int) from by
            have e : decide (0 < l' + 1) = true := decide_eq_true (by omega)
            rw [← e]; exact D8)
          have hBs : w.heap.size ≤ w8.heap.size := B8.out.size
          clear D8
          go_wp2_with (first
            | (go_at_call 24; (with_reducible refine (num_any _ _).mono ?_); rintro e w' ⟨rfl, rfl⟩)
            | (go_at_call 25; (with_reducible refine (flush_any _ (by omega) (by omega) D9.out).mono ?_); rintro e w9 ⟨rfl, hd, hg⟩; have D10 := Lib.hid hd; have G10 := Lib.hid hg; clear hd hg))
          have D11 : Dsk w9 g B (g + 1) 3 (512 * 3) f8 (.slice none 0 0) [] (decide (0 < l')) (l' : Int) := by
            have := D10.out
            rw [(step_nat l').1, (step_nat l').2] at this
            exact this
          go_roundw
          case rel => exact ⟨i + 1, m + 2, l', _, _, _, by omega, by omega, by go_num, by go_num, by simp, fun _ => rfl, D11, B8.out.trans (grown_below (B := w.heap.size) G10.out (fun k e => by injection e with e; have := HORD.out; omega) hBs)⟩
          case measure => first | (simp [intOf]; done) | (simp [intOf]; omega)
      · have t4 : ¬ (i : Int) % 4 = 3 := by omega
        have t5 : ((i : Int) % 4 == 3) = false := by simpa using t4
        have t6 : decide ((i : Int) % 4 = 3) = false := decide_eq_false t4
        clear h4
        have D9 := Lib.hid D8
        clear D8
        go_wp2_with (go_at_call 24; (with_reducible refine (num_any _ _).mono ?_); rintro e w' ⟨rfl, rfl⟩)
        go_roundw
        case rel => exact ⟨i + 1, m + 1, l, _, _, _, by omega, by omega, by go_num, by go_num, hlen', fun e => absurd e hne, D9.out, B8.out⟩
        case measure => first | (simp [intOf]; done) | (simp [intOf]; omega)
end Go.Proofs.Ytibidljblkfciaa
