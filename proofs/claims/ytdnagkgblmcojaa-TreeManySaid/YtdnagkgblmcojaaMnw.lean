/-
What is proved here: the law on so many directories in the root answers true.
-/
import Derived.Test.YtdnagkgblmcojaaMny
import Derived.Laws.BytesString
set_option linter.unusedSimpArgs false
namespace Go.Proofs.Ytdnagkgblmcojaa
open Go.Pth Go.Tre Go.RowKit Go.Word Go.Shelf Go.Fl

def mcells (n : Nat) : List Value := (mNs n).flatMap fun x => [St x.path, .int .i64 x.file, .int .i64 x.mode]
theorem mcells_succ (n : Nat) : mcells (n + 1) = mcells n ++ [St (mP n), .int .i64 (-1), .int .i64 493] := by
  unfold mcells mNs
  rw [List.range_succ, List.map_append, List.flatMap_append]
  rfl
theorem mcells_len (n : Nat) : (mcells n).length = n * 3 := by
  induction n with
  | zero => rfl
  | succ n ih => rw [mcells_succ, List.length_append, ih]; simp; omega
theorem mcells_at (n j k : Nat) (h : j < n) (hk : k < 3) : (mcells n)[j * 3 + k]? = [St (mP j), .int .i64 (-1), .int .i64 493][k]? := by
  induction n with
  | zero => omega
  | succ n ih =>
    rw [mcells_succ]
    by_cases hj : j < n
    · rw [List.getElem?_append_left (by rw [mcells_len]; omega), ih hj]
    · obtain rfl : j = n := by omega
      rw [List.getElem?_append_right (by rw [mcells_len]; omega), mcells_len, Nat.add_sub_cancel_left]
theorem nodes_of_row {w : World} {B n : Nat} {v : Value} (h : w.ownsRow B 41 3 v n (mcells n)) : ∃ A c, v = .slice A n c ∧ NodesAt w A (mNs n) := by
  rcases h.2 with ⟨rfl, rfl⟩ | ⟨g, cap, cur, rfl, hb, hg, _⟩
  · exact ⟨none, 0, rfl, fun i hi => by simp [mNs] at hi⟩
  · refine ⟨_, cap, rfl, fun i hi => ?_⟩
    rw [m_len] at hi
    have hi3 : ∀ k, k < 3 → w.cell? ⟨g, 0 + i * 3 + k, none⟩ = [St (mP i), .int .i64 (-1), .int .i64 493][k]? := fun k hk => by
      rw [Nat.zero_add, ← mcells_at n i k hi hk]
      exact h.cellAt _ (by omega)
    have e : (mNs n)[i] = mN i := by simp [mNs]
    have hlt : g < w.heap.size := (Array.getElem?_eq_some_iff.1 hg).1
    rw [e]
    exact ⟨g, 0, rfl, hlt, hi3 0 (by omega), hi3 1 (by omega), hi3 2 (by omega)⟩
theorem text4 (x y z : Nat) (W : World) : (convert 42 9 (.slice (some ⟨W.heap.size, 0, none⟩) 4 4)).run Try.prog (W.alloc (.cells #[.int .u8 100, .int .u8 (48 + (x : Int)), .int .u8 (48 + (y : Int)), .int .u8 (48 + (z : Int))] 5)) =
    .ok (St [100, UInt8.ofNat (48 + x), UInt8.ofNat (48 + y), UInt8.ofNat (48 + z)]) (W.alloc (.cells #[.int .u8 100, .int .u8 (48 + (x : Int)), .int .u8 (48 + (y : Int)), .int .u8 (48 + (z : Int))] 5)) := by
  rw [run_convert_bytes_string _ 42 9 5 _ _ 4 Try.underlying42 Try.underlying5 (by kernel_rfl)]
  refine (run_bytesToString _ ⟨W.heap.size, 0, none⟩ 4 4 [100, 48 + (x : Int), 48 + (y : Int), 48 + (z : Int)] ?_).trans ?_
  · have h := run_loadCells_list (P := Try.prog) (W.alloc (.cells #[.int .u8 100, .int .u8 (48 + (x : Int)), .int .u8 (48 + (y : Int)), .int .u8 (48 + (z : Int))] 5)) ⟨W.heap.size, 0, none⟩ [.int .u8 100, .int .u8 (48 + (x : Int)), .int .u8 (48 + (y : Int)), .int .u8 (48 + (z : Int))] (fun j v hj => by
      rw [Addr.add_mid]
      have := lies_cell (lies_new W 5 #[.int .u8 100, .int .u8 (48 + (x : Int)), .int .u8 (48 + (y : Int)), .int .u8 (48 + (z : Int))]) (0 + j)
      rw [this, Nat.zero_add, ← hj]
      simp)
    exact h
  · have e : ∀ t : Nat, (48 + (t : Int)).toNat = 48 + t := fun t => by omega
    simp only [List.foldl_cons, List.foldl_nil, e]
    rfl
set_option maxRecDepth 100000 in
theorem many_out (a : Int) (h : a < 0 ∨ 270 < a) (w : World) : Calls Try.prog 6 #[.int .i64 a] w fun e w' => e = .returned (.bool true) ∧ Below w.heap.size w w' := by
  have K := Lib.hid (alive_any w)
  rcases h with h | h
  · go_enter Try.func6, Try.ntmps6
    go_wp2_with (go_at_call 8; (with_reducible refine K.out.mono ?_); rintro e w1 ⟨rfl, hb⟩; have H1 := Lib.hid hb; clear hb)
    go_ret
    exact ⟨rfl, H1.out⟩
  · have h0 : ¬ a < 0 := by omega
    go_enter Try.func6, Try.ntmps6
    go_wp2_with (go_at_call 8; (with_reducible refine K.out.mono ?_); rintro e w1 ⟨rfl, hb⟩; have H1 := Lib.hid hb; clear hb)
    go_ret
    exact ⟨rfl, H1.out⟩
theorem node_info : (Try.prog.info? 41).map (fun i => (i.zero, i.size, i.bytes)) = some (some (.agg #[.string ⟨#[]⟩, .int .i64 0, .int .i64 0]), 3, 32) := by kernel_rfl
set_option maxRecDepth 100000 in
set_option maxHeartbeats 4000000 in
theorem many_in (n : Nat) (h : n ≤ 270) (w : World) : Calls Try.prog 6 #[.int .i64 (n : Int)] w fun e w' => e = .returned (.bool true) ∧ Below w.heap.size w w' := by
  have K := Lib.hid (alive_any w)
  obtain ⟨i0, hi, hz0, hz1, hz2⟩ := info_parts node_info
  have h0 : ¬ (n : Int) < 0 := by omega
  have h1 : ¬ 270 < (n : Int) := by omega
  go_enter Try.func6, Try.ntmps6
  go_upto_region 5 with (go_at_call 8; (with_reducible refine K.out.mono ?_); rintro e w1 ⟨rfl, hb⟩; have H1 := Lib.hid hb; clear hb)
  have LT0 : Lies (w1.alloc (.cells #[.slice none 0 0, .slice none 0 0] 25)) w1.heap.size 25 #[.slice none 0 0, .slice none 0 0] := lies_new w1 25 _
  have B0 : Below w.heap.size w (w1.alloc (.cells #[.slice none 0 0, .slice none 0 0] 25)) := H1.out.trans (((Below.refl _ w1).alloc (Nat.le_refl _) _).mono H1.out.size)
  have hw1 := H1.out.size
  have L0 := Lib.hid LT0
  have BH := Lib.hid B0
  clear LT0 B0
  generalize w1.alloc (.cells #[.slice none 0 0, .slice none 0 0] 25) = X at *
  generalize w1.heap.size = T at *
  go_wp2
  go_loopw [5] (fun v5 wr => ∃ i : Nat, i ≤ n ∧ v5 = .int .i64 (i : Int) ∧ ∃ v, Lies wr T 25 #[v, .slice none 0 0] ∧ wr.ownsRow (T + 1) 41 3 v i (mcells i) ∧ Below w.heap.size w wr) (fun v5 _ => n - (intOf v5).toNat)
  case atStart => exact ⟨0, Nat.zero_le _, rfl, _, L0.out, World.ownsRow_nil _ _ _ _, BH.out⟩
  case round =>
    obtain ⟨i, hin, rfl, v, hL, hO, hB⟩ := hrel
    have LL := Lib.hid hL
    have OO := Lib.hid hO
    have BB := Lib.hid hB
    have c0 := lies_cell hL 0
    have c1 := lies_cell hL 1
    simp only [List.getElem?_toArray, List.getElem?_cons_zero, List.getElem?_cons_succ] at c0 c1
    by_cases hlt : i < n
    · have li : (i : Int) < (n : Int) := by omega
      obtain ⟨x, hx⟩ : ∃ x : Nat, x = i / 100 := ⟨_, rfl⟩
      obtain ⟨y, hy⟩ : ∃ y : Nat, y = i / 10 % 10 := ⟨_, rfl⟩
      obtain ⟨z, hz⟩ : ∃ z : Nat, z = i % 10 := ⟨_, rfl⟩
      have q1 : (i : Int) / 100 = (x : Int) := by omega
      have q2 : (i : Int) / 10 % 10 = (y : Int) := by omega
      have q3 : (i : Int) % 10 = (z : Int) := by omega
      have x9 : x ≤ 2 := by omega
      have y9 : y ≤ 9 := by omega
      have z9 : z ≤ 9 := by omega
      have hP : mP i = [100, UInt8.ofNat (48 + x), UInt8.ofNat (48 + y), UInt8.ofNat (48 + z)] := by rw [hx, hy, hz]; rfl
      have HP := Lib.hid hP
      obtain ⟨st, hst⟩ : ∃ st : ByteArray, st = ⟨(mP i).toArray⟩ := ⟨_, rfl⟩
      have tx : ∀ W, (convert 42 9 (.slice (some ⟨World.heap W |>.size, 0, none⟩) 4 4)).run Try.prog (W.alloc (.cells #[.int .u8 100, .int .u8 (48 + (x : Int)), .int .u8 (48 + (y : Int)), .int .u8 (48 + (z : Int))] 5)) = .ok (.string st) (W.alloc (.cells #[.int .u8 100, .int .u8 (48 + (x : Int)), .int .u8 (48 + (y : Int)), .int .u8 (48 + (z : Int))] 5)) := fun W => by
        have := text4 x y z W
        rw [← hP] at this
        rw [hst]
        exact this
      have NW := Lib.hid (show ∀ A j u, ([.string st, .int .i64 (-1), .int .i64 493] : List Value)[j]? = some u → ((wr.alloc A).alloc (.cells #[.string st, .int .i64 (-1), .int .i64 493] 41)).cell? ((⟨wr.heap.size + 1, 0, none⟩ : Addr).add j) = some u from fun A j u hj => by
        have := lies_cell (lies_new (wr.alloc A) 41 #[.string st, .int .i64 (-1), .int .i64 493]) (0 + j)
        rw [World.size_alloc] at this
        rw [Addr.add_mid, this, Nat.zero_add, ← hj]
        simp)
      have MS := Lib.hid (show mcells (i + 1) = mcells i ++ [.string st, .int .i64 (-1), .int .i64 493] by rw [mcells_succ, hst]; rfl)
      have hTr := lies_lt hL
      clear hL hO hB hx hy hz hP hst
      go_wp2_with (at_builtin; refine wpList_append_own _ rfl (.tmp 29) (.tmp 46) 22 rfl (T + 1) 41 i0 (.agg #[.string ⟨#[]⟩, .int .i64 0, .int .i64 0]) 3 32 Try.underlying22 hi hz0 hz1 hz2 rfl (by decide) v i (mcells i) rfl ((OO.out.alloc _).alloc _) ⟨wr.heap.size + 1, 0, none⟩ 1 1 [.string st, .int .i64 (-1), .int .i64 493] rfl rfl (NW.out _) (by intro u hu; simp at hu; rcases hu with rfl | rfl | rfl <;> rfl) (by unfold maxLen; omega) (by omega) (by simp; omega) ?_; intro v' w2 hown' hgrow _; obtain ⟨g', cap', rfl⟩ := ownsRow_succ hown'; have LT2 : Lies w2 T 25 #[v, .slice none 0 0] := (hgrow.block T (by simp; omega) (fun e => by have := (OO.out.lt T e.symm).1; omega)).trans (lies_alloc (lies_alloc LL.out _) _); have e0 := lies_cell LT2 0; have f0 := lies_free LT2 0; simp only [List.getElem?_toArray, List.getElem?_cons_zero] at e0; have LT3 := Lib.hid LT2; have OW := Lib.hid hown'; have GW := Lib.hid hgrow; clear LT2 hown' hgrow)
      go_roundw
      case rel =>
        refine ⟨i + 1, by omega, by go_num, .slice (some ⟨g', 0, none⟩) (i + 1) cap', lies_set LT3.out 0 _, ?_, ?_⟩
        · rw [MS.out]
          exact OW.out.kept (grownBy_setCell' w2 T _) (.inr (fun e => by have := (OW.out.lt T e).1; omega))
        · exact (((BB.out.alloc BB.out.size _).alloc (by have := BB.out.size; simp; omega) _).grown GW.out (by have := BB.out.size; simp; omega) (fun j hj => by have := (OO.out.lt j hj).1; omega)).setCell (p := ⟨T, 0, none⟩) hw1 _
      case measure => first | (simp [intOf]; done) | (simp [intOf]; omega)
    · obtain rfl : i = n := by omega
      obtain ⟨A, c, rfl, hN⟩ := nodes_of_row hO
      have hTr := lies_lt hL
      have hF : FilesAt wr none ([] : List Fl) := fun j hj => by simp at hj
      have hp : ∀ x ∈ mNs i, x.path.length ≤ 100000 := fun x hx => by
        unfold mNs at hx
        obtain ⟨j, _, rfl⟩ := List.mem_map.1 hx
        show (mP j).length ≤ 100000
        simp [mP]
      have go35 : ∀ W, Below wr.heap.size wr W → Hid (Calls Try.prog 23 #[.agg #[.slice A i c, .slice none 0 0]] W fun e w' => e = .returned (.int .i64 (if 128 < i then 31 else 0)) ∧ Below W.heap.size W w') := fun W hb => by
        have := check_any A none c 0 (mNs i) [] W (nodesAt_below hN hb) (filesAt_below hF hb) hp
        rw [m_check i h, m_len] at this
        exact Lib.hid this
      have go32 : ∀ W, Below wr.heap.size wr W → Hid (Calls Try.prog 22 #[.agg #[.slice A i c, .slice none 0 0]] W fun e w' => e = .returned (.int .i64 (if 256 < i then 31 else 0)) ∧ Below W.heap.size W w') := fun W hb => by
        have := loose_any A none c 0 (mNs i) [] W (nodesAt_below hN hb) (filesAt_below hF hb) hp
        rw [m_loose i h, m_len] at this
        exact Lib.hid this
      have go36 : i ≤ 256 → ∀ W, Below wr.heap.size wr W → Hid (Calls Try.prog 24 #[.agg #[.slice A i c, .slice none 0 0]] W fun e w' => (∃ x y, e = .returned (.tuple #[.complex .f64 x y, .int .i64 0]) ∧ Rep x (max (((i + 15) / 16 : Nat) : Int) 1 + i) ∧ Rep y (i + 1)) ∧ Below W.heap.size W w') := fun h2 W hb => by
        have := weight_any A none c 0 (mNs i) [] W (nodesAt_below hN hb) (filesAt_below hF hb) hp (by rw [m_loose i h, if_neg (by omega)])
        rw [(m_weight i h2).1, (m_weight i h2).2, m_len] at this
        exact Lib.hid this
      have go36n : 256 < i → ∀ W, Below wr.heap.size wr W → Hid (Calls Try.prog 24 #[.agg #[.slice A i c, .slice none 0 0]] W fun e w' => e = .returned (.tuple #[.complex .f64 0 0, .int .i64 31]) ∧ Below W.heap.size W w') := fun h2 W hb => by
        have := weight_not A none c 0 (mNs i) [] W (nodesAt_below hN hb) (filesAt_below hF hb) hp (by rw [m_loose i h, if_pos h2]; decide)
        rw [m_loose i h, if_pos h2, m_len] at this
        exact Lib.hid this
      have HTR := Lib.hid hTr
      clear hL hO hB hN hF hp
      by_cases h2 : 256 < i
      · have l2 : 256 < (i : Int) := by omega
        have k1 : (if 128 < i then (31 : Int) else 0) = 31 := if_pos (by omega)
        have k2 : (if 256 < i then (31 : Int) else 0) = 31 := if_pos h2
        have o1 : FloatKind.f64.format.order 0 0 = some .eq := order_same rep_zero rep_zero
        have g36 := go36n h2
        simp only [k1] at go35
        simp only [k2] at go32
        clear go36 go36n k1 k2
        go_wp2_with (first
          | (go_at_call 23; (with_reducible refine (go35 _ (Below.refl _ _)).out.mono ?_); rintro e w3 ⟨rfl, hb⟩; have B3 := Lib.hid hb; have d0 := (hb.cell (p := ⟨T, 0, none⟩) HTR.out).trans c0; have d1 := (hb.cell (p := ⟨T, 1, none⟩) HTR.out).trans c1; clear hb)
          | (go_at_call 22; (with_reducible refine (go32 _ B3.out).out.mono ?_); rintro e w4 ⟨rfl, hb⟩; have B4 := Lib.hid (B3.out.trans (hb.mono B3.out.size)); have d2 := (B4.out.cell (p := ⟨T, 0, none⟩) HTR.out).trans c0; have d3 := (B4.out.cell (p := ⟨T, 1, none⟩) HTR.out).trans c1; clear hb)
          | (go_at_call 24; (with_reducible refine (g36 _ B4.out).out.mono ?_); rintro e w5 ⟨rfl, hb⟩; have B5 := Lib.hid (B4.out.trans (hb.mono B4.out.size)); clear hb)
          | (go_at_call 21; (with_reducible refine (num_any _ _).mono ?_); rintro e w6 ⟨rfl, rfl⟩))
        go_ret
        exact ⟨rfl, BB.out.trans (B5.out.mono BB.out.size)⟩
      · have l2 : ¬ 256 < (i : Int) := by omega
        have k2 : (if 256 < i then (31 : Int) else 0) = 0 := if_neg h2
        have g36 := go36 (by omega)
        simp only [k2] at go32
        clear go36 go36n k2
        obtain ⟨q, hq⟩ : ∃ q : Nat, q = (i + 15) / 16 := ⟨_, rfl⟩
        rw [← hq] at g36
        by_cases h3 : 128 < i
        · have q1 : 1 ≤ q := by omega
          have k1 : (if 128 < i then (31 : Int) else 0) = 31 := if_pos (by omega)
          have l3 : 128 < (i : Int) := by omega
          have l4 : ¬ (i : Int) ≤ 128 := by omega
          have e1 : ((i : Int) + 15) / 16 = (q : Int) := by omega
          have e2 : ¬ (q : Int) = 0 := by omega
          have ER := Lib.hid (show max (q : Int) 1 + (i : Int) = (q : Int) + (i : Int) by omega)
          have hq17 : q ≤ 17 := by omega
          clear hq
          simp only [k1] at go35
          clear k1
          go_wp2_with (first
            | (go_at_call 23; (with_reducible refine (go35 _ (Below.refl _ _)).out.mono ?_); rintro e w3 ⟨rfl, hb⟩; have B3 := Lib.hid hb; have d0 := (hb.cell (p := ⟨T, 0, none⟩) HTR.out).trans c0; have d1 := (hb.cell (p := ⟨T, 1, none⟩) HTR.out).trans c1; clear hb)
            | (go_at_call 22; (with_reducible refine (go32 _ B3.out).out.mono ?_); rintro e w4 ⟨rfl, hb⟩; have B4 := Lib.hid (B3.out.trans (hb.mono B3.out.size)); have d2 := (B4.out.cell (p := ⟨T, 0, none⟩) HTR.out).trans c0; have d3 := (B4.out.cell (p := ⟨T, 1, none⟩) HTR.out).trans c1; clear hb)
            | (go_at_call 24; (with_reducible refine (g36 _ B4.out).out.mono ?_); rintro e w5 ⟨⟨x, y, rfl, hx, hy⟩, hb⟩; have B5 := Lib.hid (B4.out.trans (hb.mono B4.out.size)); have o1 : FloatKind.f64.format.order x (floatOfInt .f64 ((q : Int) + (i : Int))) = some .eq := order_same (by rw [ER.out] at hx; exact hx) (rep_fl (by omega)); have o2 : FloatKind.f64.format.order y (floatOfInt .f64 ((i : Int) + 1)) = some .eq := order_same hy (rep_fl (by omega)); clear hb hx hy)
            | (go_at_call 21; (with_reducible refine (num_any _ _).mono ?_); rintro e w6 ⟨rfl, rfl⟩))
          go_ret
          exact ⟨by first | rfl | (simp [o1, o2]; done), BB.out.trans (B5.out.mono BB.out.size)⟩
        · by_cases h4 : i = 0
          · have HI := Lib.hid h4
            have k1 : (if 128 < i then (31 : Int) else 0) = 0 := if_neg (by omega)
            have l3 : ¬ 128 < (i : Int) := by omega
            have l4 : (i : Int) ≤ 128 := by omega
            have e1 : ((i : Int) + 15) / 16 = 0 := by omega
            have ER := Lib.hid (show max (q : Int) 1 + (i : Int) = 1 + (i : Int) by omega)
            clear hq h4
            simp only [k1] at go35
            clear k1
            go_wp2_with (first
              | (go_at_call 23; (with_reducible refine (go35 _ (Below.refl _ _)).out.mono ?_); rintro e w3 ⟨rfl, hb⟩; have B3 := Lib.hid hb; have d0 := (hb.cell (p := ⟨T, 0, none⟩) HTR.out).trans c0; have d1 := (hb.cell (p := ⟨T, 1, none⟩) HTR.out).trans c1; clear hb)
              | (go_at_call 22; (with_reducible refine (go32 _ B3.out).out.mono ?_); rintro e w4 ⟨rfl, hb⟩; have B4 := Lib.hid (B3.out.trans (hb.mono B3.out.size)); have d2 := (B4.out.cell (p := ⟨T, 0, none⟩) HTR.out).trans c0; have d3 := (B4.out.cell (p := ⟨T, 1, none⟩) HTR.out).trans c1; clear hb)
              | (go_at_call 24; (with_reducible refine (g36 _ B4.out).out.mono ?_); rintro e w5 ⟨⟨x, y, rfl, hx, hy⟩, hb⟩; have B5 := Lib.hid (B4.out.trans (hb.mono B4.out.size)); have o1 : FloatKind.f64.format.order x (floatOfInt .f64 (1 + (i : Int))) = some .eq := order_same (by rw [ER.out] at hx; exact hx) (rep_fl (by omega)); have o2 : FloatKind.f64.format.order y (floatOfInt .f64 ((i : Int) + 1)) = some .eq := order_same hy (rep_fl (by omega)); clear hb hx hy)
              | (go_at_call 21; (with_reducible refine (num_any _ _).mono ?_); rintro e w6 ⟨rfl, rfl⟩))
            go_ret
            exact ⟨by first | rfl | (simp [o1, o2]; done), BB.out.trans (B5.out.mono BB.out.size)⟩
          · have q1 : 1 ≤ q := by omega
            have q2 := q1
            have k1 : (if 128 < i then (31 : Int) else 0) = 0 := if_neg (by omega)
            have l3 : ¬ 128 < (i : Int) := by omega
            have l4 : (i : Int) ≤ 128 := by omega
            have e1 : ((i : Int) + 15) / 16 = (q : Int) := by omega
            have e2 : ¬ (q : Int) = 0 := by omega
            have ER := Lib.hid (show max (q : Int) 1 + (i : Int) = (q : Int) + (i : Int) by omega)
            have hq17 : q ≤ 17 := by omega
            clear hq h4
            simp only [k1] at go35
            clear k1
            go_wp2_with (first
              | (go_at_call 23; (with_reducible refine (go35 _ (Below.refl _ _)).out.mono ?_); rintro e w3 ⟨rfl, hb⟩; have B3 := Lib.hid hb; have d0 := (hb.cell (p := ⟨T, 0, none⟩) HTR.out).trans c0; have d1 := (hb.cell (p := ⟨T, 1, none⟩) HTR.out).trans c1; clear hb)
              | (go_at_call 22; (with_reducible refine (go32 _ B3.out).out.mono ?_); rintro e w4 ⟨rfl, hb⟩; have B4 := Lib.hid (B3.out.trans (hb.mono B3.out.size)); have d2 := (B4.out.cell (p := ⟨T, 0, none⟩) HTR.out).trans c0; have d3 := (B4.out.cell (p := ⟨T, 1, none⟩) HTR.out).trans c1; clear hb)
              | (go_at_call 24; (with_reducible refine (g36 _ B4.out).out.mono ?_); rintro e w5 ⟨⟨x, y, rfl, hx, hy⟩, hb⟩; have B5 := Lib.hid (B4.out.trans (hb.mono B4.out.size)); have o1 : FloatKind.f64.format.order x (floatOfInt .f64 ((q : Int) + (i : Int))) = some .eq := order_same (by rw [ER.out] at hx; exact hx) (rep_fl (by omega)); have o2 : FloatKind.f64.format.order y (floatOfInt .f64 ((i : Int) + 1)) = some .eq := order_same hy (rep_fl (by omega)); clear hb hx hy)
              | (go_at_call 21; (with_reducible refine (num_any _ _).mono ?_); rintro e w6 ⟨rfl, rfl⟩))
            go_ret
            exact ⟨by first | rfl | (simp [o1, o2]; done), BB.out.trans (B5.out.mono BB.out.size)⟩

theorem many_any (a : Int) (w : World) : Calls Try.prog 6 #[.int .i64 a] w fun e w' => e = .returned (.bool true) ∧ Below w.heap.size w w' := by
  by_cases h : a < 0 ∨ 270 < a
  · exact many_out a h w
  · obtain ⟨n, rfl⟩ : ∃ n : Nat, a = (n : Int) := ⟨a.toNat, by omega⟩
    exact many_in n (by omega) w
end Go.Proofs.Ytdnagkgblmcojaa
