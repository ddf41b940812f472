/-
What is proved here: the law on the weight of a file of so many bytes answers true.
-/
import Derived.Test.YtdnagkgblmcojaaAlv
set_option linter.unusedSimpArgs false
namespace Go.Tre
open Go.Pth
def sNs : List Nd := [⟨[102], 0, 0⟩]
def sFs (n : Nat) : List Fl := [⟨0, List.replicate n 0⟩]
theorem s_ok : looseB sNs (sFs 0) = true := by decide +kernel
theorem s_loose (n : Nat) : looseE sNs (sFs n) = if 8192 < n then 31 else 0 := by
  have h1 : looseB sNs (sFs n) = true := (show looseB sNs (sFs n) = looseB sNs (sFs 0) from rfl).trans s_ok
  have h2 : tooB sNs.length (sFs n) = decide (8192 < n) := by simp [tooB, sNs, sFs, anyGreat]
  unfold looseE
  rw [h2, h1]
  by_cases h : 8192 < n <;> simp [h]
theorem s_fills : dsum (fillsL sNs) = 1 ∧ (fillsL sNs).length = 1 := by decide +kernel
theorem s_weight (n : Nat) : weightB sNs (sFs n) = fileW n + 1 ∧ weightI sNs (sFs n) = 2 := by
  unfold weightB weightI
  rw [s_fills.1, s_fills.2]
  constructor
  · simp [fsum, sFs]
    omega
  · simp [sFs]
end Go.Tre
namespace Go.Proofs.Ytdnagkgblmcojaa
open Go.Pth Go.Tre Go.RowKit Go.Word Go.Shelf Go.Fl

theorem rep_two : Rep 4611686018427387904 2 := ⟨false, 51, by decide +kernel, by decide⟩
set_option maxRecDepth 100000 in
theorem sizes_out (a : Int) (h : a < 0 ∨ 9000 < a) (w : World) : Calls Try.prog 7 #[.int .i64 a] w fun e w' => e = .returned (.bool true) ∧ Below w.heap.size w w' := by
  have K := Lib.hid (alive_any w)
  rcases h with h | h
  · go_enter Try.func7, Try.ntmps7
    go_wp2_with (go_at_call 8; (with_reducible refine K.out.mono ?_); rintro e w1 ⟨rfl, hb⟩; have H1 := Lib.hid hb; clear hb)
    go_ret
    exact ⟨rfl, H1.out⟩
  · have h0 : ¬ a < 0 := by omega
    go_enter Try.func7, Try.ntmps7
    go_wp2_with (go_at_call 8; (with_reducible refine K.out.mono ?_); rintro e w1 ⟨rfl, hb⟩; have H1 := Lib.hid hb; clear hb)
    go_ret
    exact ⟨rfl, H1.out⟩
theorem byte_info : (Try.prog.info? 5).map (fun i => (i.zero, i.size, i.bytes)) = some (some (.int .u8 0), 1, 1) := by kernel_rfl
theorem made_n (n : Nat) (h : n ≤ 3000000) (W : World) : (Instr.makeSlice 42 (.int .i64 (n : Int)) (.int .i64 (n : Int))).run Try.prog W =
    .ok (.slice (some ⟨W.heap.size, 0, none⟩) n n) (W.alloc (.cells (madeCells #[.int .u8 0] n) 5)) := by
  obtain ⟨i, hi, hz0, hz1, hz2⟩ := info_parts byte_info
  have := run_makeSlice (P := Try.prog) W 42 5 i (.int .u8 0) Try.underlying42 hi hz0 .i64 .i64 (n : Int) (n : Int) (by omega) (by omega) (by rw [hz1]; omega) (by rw [hz2]; omega) (by omega)
  rw [this, hz1, Int.toNat_natCast, Nat.mul_one]
  rfl
theorem made_at (n j : Nat) (h : j < n) : (madeCells #[.int .u8 0] n)[j]? = some (.int .u8 0) := by
  simp [madeCells, h, Nat.mod_one]
set_option maxRecDepth 100000 in
theorem sizes_in (n : Nat) (h : n ≤ 9000) (w : World) : Calls Try.prog 7 #[.int .i64 (n : Int)] w fun e w' => e = .returned (.bool true) ∧ Below w.heap.size w w' := by
  have K := Lib.hid (alive_any w)
  have h0 : ¬ (n : Int) < 0 := by omega
  have h1 : ¬ 9000 < (n : Int) := by omega
  go_enter Try.func7, Try.ntmps7
  have hmk := fun W => made_n n (by omega) W
  obtain ⟨M, hM⟩ : ∃ M, M = madeCells #[.int .u8 0] n := ⟨_, rfl⟩
  rw [← hM] at hmk
  have hM2 : ∀ j, j < n → M[j]? = some (.int .u8 0) := fun j hj => by rw [hM]; exact made_at n j hj
  have HM := Lib.hid hM2
  clear hM hM2
  go_upto_region 5 with (go_at_call 8; (with_reducible refine K.out.mono ?_); rintro e w1 ⟨rfl, hb⟩; have H1 := Lib.hid hb; clear hb)
  obtain ⟨X, hX⟩ : ∃ X, X = (((w1.alloc (.cells #[St [102], .int .i64 0, .int .i64 0] 41)).alloc (.cells M 5)).alloc (.cells #[.int .i64 0, .slice (some ⟨w1.heap.size + 1, 0, none⟩) n n] 49)).alloc (.cells #[.slice (some ⟨w1.heap.size, 0, none⟩) 1 1, .slice (some ⟨w1.heap.size + 1 + 1, 0, none⟩) 1 1] 25) := ⟨_, rfl⟩
  change Code.wp _ _ _ _ ((((w1.alloc (.cells #[St [102], .int .i64 0, .int .i64 0] 41)).alloc (.cells M 5)).alloc (.cells #[.int .i64 0, .slice (some ⟨w1.heap.size + 1, 0, none⟩) n n] 49)).alloc (.cells #[.slice (some ⟨w1.heap.size, 0, none⟩) 1 1, .slice (some ⟨w1.heap.size + 1 + 1, 0, none⟩) 1 1] 25))
  rw [← hX]
  have LN : Lies X w1.heap.size 41 #[St [102], .int .i64 0, .int .i64 0] := by
    rw [hX]; exact lies_alloc (lies_alloc (lies_alloc (lies_new w1 41 _) _) _) _
  have LB : Lies X (w1.heap.size + 1) 5 M := by
    rw [hX]
    have := lies_new (w1.alloc (.cells #[St [102], .int .i64 0, .int .i64 0] 41)) 5 M
    rw [World.size_alloc] at this
    exact lies_alloc (lies_alloc this _) _
  have LF : Lies X (w1.heap.size + 1 + 1) 49 #[.int .i64 0, .slice (some ⟨w1.heap.size + 1, 0, none⟩) n n] := by
    rw [hX]
    have := lies_new ((w1.alloc (.cells #[St [102], .int .i64 0, .int .i64 0] 41)).alloc (.cells M 5)) 49 #[.int .i64 0, .slice (some ⟨w1.heap.size + 1, 0, none⟩) n n]
    rw [World.size_alloc, World.size_alloc] at this
    exact lies_alloc this _
  have LT : Lies X (w1.heap.size + 1 + 1 + 1) 25 #[.slice (some ⟨w1.heap.size, 0, none⟩) 1 1, .slice (some ⟨w1.heap.size + 1 + 1, 0, none⟩) 1 1] := by
    rw [hX]
    have := lies_new (((w1.alloc (.cells #[St [102], .int .i64 0, .int .i64 0] 41)).alloc (.cells M 5)).alloc (.cells #[.int .i64 0, .slice (some ⟨w1.heap.size + 1, 0, none⟩) n n] 49)) 25 #[.slice (some ⟨w1.heap.size, 0, none⟩) 1 1, .slice (some ⟨w1.heap.size + 1 + 1, 0, none⟩) 1 1]
    rw [World.size_alloc, World.size_alloc, World.size_alloc] at this
    exact this
  have HB := Lib.hid (show Below w.heap.size w X by
    have hb : Below w1.heap.size w1 X := by
      rw [hX]
      exact ((((Below.refl _ w1).alloc (Nat.le_refl _) _).alloc (by simp) _).alloc (by simp; omega) _).alloc (by simp; omega) _
    exact H1.out.trans (hb.mono H1.out.size))
  have nX := lies_lt LT
  have hN : NodesAt X (some ⟨w1.heap.size, 0, none⟩) sNs := fun i hi => by
    match i, hi with
    | 0, _ => exact ⟨_, _, rfl, by omega, lies_cell LN 0, lies_cell LN 1, lies_cell LN 2⟩
  have hF : FilesAt X (some ⟨w1.heap.size + 1 + 1, 0, none⟩) (sFs n) := fun i hi => by
    match i, hi with
    | 0, _ => exact ⟨_, _, some ⟨w1.heap.size + 1, 0, none⟩, n, rfl, by omega, lies_cell LF 0, by
        have e : (sFs n)[0].data.length = n := by simp [sFs]
        rw [e]
        exact lies_cell LF 1, fun j hj => by
        have e0 : (sFs n)[0].data.length = n := by simp [sFs]
        have hjn : j < n := by rw [← e0]; exact hj
        refine ⟨_, _, rfl, by omega, ?_⟩
        have := (lies_cell LB j).trans (HM.out j hjn)
        have e : (sFs n)[0].data[j] = 0 := by simp [sFs]
        rw [e]
        simpa using this⟩
  have hp : ∀ x ∈ sNs, x.path.length ≤ 100000 := by decide
  have d0 : X.cell? ⟨w1.heap.size + 1 + 1 + 1, 0, none⟩ = some (.slice (some ⟨w1.heap.size, 0, none⟩) 1 1) := lies_cell LT 0
  have d1 : X.cell? ⟨w1.heap.size + 1 + 1 + 1, 1, none⟩ = some (.slice (some ⟨w1.heap.size + 1 + 1, 0, none⟩) 1 1) := lies_cell LT 1
  have sl := s_loose n
  by_cases h8 : 8192 < n
  · rw [if_pos h8] at sl
    have A : Hid (Calls Try.prog 24 #[.agg #[.slice (some ⟨w1.heap.size, 0, none⟩) 1 1, .slice (some ⟨w1.heap.size + 1 + 1, 0, none⟩) 1 1]] X fun e w' => e = .returned (.tuple #[.complex .f64 0 0, .int .i64 31]) ∧ Below X.heap.size X w') := by
      have := weight_not _ _ 1 1 sNs (sFs n) X hN hF hp (by rw [sl]; decide)
      rw [sl] at this
      exact Lib.hid this
    have o1 : FloatKind.f64.format.order 0 0 = some .eq := order_same rep_zero rep_zero
    have l8 : 8192 < (n : Int) := by omega
    clear hX LN LB LF LT hN hF hp hmk sl
    go_wp2_with (first
      | (go_at_call 24; (with_reducible refine A.out.mono ?_); rintro e w2 ⟨rfl, hb⟩; have H2 := Lib.hid hb; clear hb)
      | (go_at_call 21; (with_reducible refine (num_any _ _).mono ?_); rintro e w3 ⟨rfl, rfl⟩))
    go_ret
    exact ⟨rfl, HB.out.trans (H2.out.mono HB.out.size)⟩
  · rw [if_neg h8] at sl
    have A : Hid (Calls Try.prog 24 #[.agg #[.slice (some ⟨w1.heap.size, 0, none⟩) 1 1, .slice (some ⟨w1.heap.size + 1 + 1, 0, none⟩) 1 1]] X fun e w' => (∃ x y, e = .returned (.tuple #[.complex .f64 x y, .int .i64 0]) ∧ Rep x (fileW n + 1) ∧ Rep y 2) ∧ Below X.heap.size X w') := by
      have := weight_any _ _ 1 1 sNs (sFs n) X hN hF hp sl
      rw [(s_weight n).1, (s_weight n).2] at this
      exact Lib.hid this
    have l8 : ¬ 8192 < (n : Int) := by omega
    clear hX LN LB LF LT hN hF hp hmk sl
    go_upto_region 8 with (first
      | (go_at_call 24; (with_reducible refine A.out.mono ?_); rintro e w2 ⟨⟨x, y, rfl, hx, hy⟩, hb⟩; have H2 := Lib.hid hb; have RX := Lib.hid hx; have RY := Lib.hid hy; clear hb hx hy)
      | (go_at_call 21; (with_reducible refine (num_any _ _).mono ?_); rintro e w3 ⟨rfl, rfl⟩))
    obtain ⟨q, hq⟩ : ∃ q : Nat, q = n / 512 := ⟨_, rfl⟩
    have eq : (n : Int) / 512 = (q : Int) := by omega
    have hq16 : q ≤ 16 := by omega
    by_cases hr : n % 512 = 0
    · have er : (n : Int) % 512 = 0 := by omega
      by_cases hb : 8 < q
      · have l9 : 8 < (q : Int) := by omega
        have hz : fileW n + 1 = (q : Int) + 1 + 1 := by
          unfold fileW partsN
          rw [if_pos (by omega)]
          omega
        have o1 : FloatKind.f64.format.order x (floatOfInt .f64 ((q : Int) + 1 + 1)) = some .eq := order_same (by rw [← hz]; exact RX.out) (rep_fl (by omega))
        have o2 : FloatKind.f64.format.order y 4611686018427387904 = some .eq := order_same RY.out rep_two
        clear hq hz
        go_wp2_with (go_at_call 21; (with_reducible refine (num_any _ _).mono ?_); rintro e w3 ⟨rfl, rfl⟩)
        go_ret
        exact ⟨by first | (simp [o1]; done) | (rw [o1]; rfl), HB.out.trans (H2.out.mono HB.out.size)⟩
      · have l9 : ¬ 8 < (q : Int) := by omega
        have hz : fileW n + 1 = (q : Int) + 1 := by
          unfold fileW partsN
          rw [if_neg (by omega)]
          omega
        have o1 : FloatKind.f64.format.order x (floatOfInt .f64 ((q : Int) + 1)) = some .eq := order_same (by rw [← hz]; exact RX.out) (rep_fl (by omega))
        have o2 : FloatKind.f64.format.order y 4611686018427387904 = some .eq := order_same RY.out rep_two
        clear hq hz
        go_wp2_with (go_at_call 21; (with_reducible refine (num_any _ _).mono ?_); rintro e w3 ⟨rfl, rfl⟩)
        go_ret
        exact ⟨by first | (simp [o1]; done) | (rw [o1]; rfl), HB.out.trans (H2.out.mono HB.out.size)⟩
    · have er : ¬ (n : Int) % 512 = 0 := by omega
      by_cases hb : 8 < q + 1
      · have l9 : 8 < (q : Int) + 1 := by omega
        have hz : fileW n + 1 = (q : Int) + 1 + 1 + 1 := by
          unfold fileW partsN
          rw [if_pos (by omega)]
          omega
        have o1 : FloatKind.f64.format.order x (floatOfInt .f64 ((q : Int) + 1 + 1 + 1)) = some .eq := order_same (by rw [← hz]; exact RX.out) (rep_fl (by omega))
        have o2 : FloatKind.f64.format.order y 4611686018427387904 = some .eq := order_same RY.out rep_two
        clear hq hz
        go_wp2_with (go_at_call 21; (with_reducible refine (num_any _ _).mono ?_); rintro e w3 ⟨rfl, rfl⟩)
        go_ret
        exact ⟨by first | (simp [o1]; done) | (rw [o1]; rfl), HB.out.trans (H2.out.mono HB.out.size)⟩
      · have l9 : ¬ 8 < (q : Int) + 1 := by omega
        have hz : fileW n + 1 = (q : Int) + 1 + 1 := by
          unfold fileW partsN
          rw [if_neg (by omega)]
          omega
        have o1 : FloatKind.f64.format.order x (floatOfInt .f64 ((q : Int) + 1 + 1)) = some .eq := order_same (by rw [← hz]; exact RX.out) (rep_fl (by omega))
        have o2 : FloatKind.f64.format.order y 4611686018427387904 = some .eq := order_same RY.out rep_two
        clear hq hz
        go_wp2_with (go_at_call 21; (with_reducible refine (num_any _ _).mono ?_); rintro e w3 ⟨rfl, rfl⟩)
        go_ret
        exact ⟨by first | (simp [o1]; done) | (rw [o1]; rfl), HB.out.trans (H2.out.mono HB.out.size)⟩

theorem sizes_any (a : Int) (w : World) : Calls Try.prog 7 #[.int .i64 a] w fun e w' => e = .returned (.bool true) ∧ Below w.heap.size w w' := by
  by_cases h : a < 0 ∨ 9000 < a
  · exact sizes_out a h w
  · obtain ⟨n, rfl⟩ : ∃ n : Nat, a = (n : Int) := ⟨a.toNat, by omega⟩
    exact sizes_in n (by omega) w
end Go.Proofs.Ytdnagkgblmcojaa
