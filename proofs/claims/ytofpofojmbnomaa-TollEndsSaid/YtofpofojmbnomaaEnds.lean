/-
What is proved here: TollEnds answers true at every input.
-/
import Derived.Test.YtofpofojmbnomaaLaw
import Derived.Deep.RegionHeld3
import Derived.StillTactics
namespace Go.Proofs.Ytofpofojmbnomaa
open Go.Fl Go.RowKit

def TTEnd (p q : Int) (w : World) (e : Ending) (w' : World) : Prop :=
  ∃ P Q : Int, ∃ ok : Bool, e = .returned (.tuple #[.agg #[.int .i64 P, .int .i64 Q], .bool ok]) ∧ (ok = (fit p && fit q) ∧ (ok = true → P = p ∧ Q = q)) ∧ Below w.heap.size w w'

theorem told_tt (x y : Nat) (n p q P Q : Int) (ok : Bool) (w : World) (h : Ans x y n p q) (hk : ok = (fit p && fit q) ∧ (ok = true → P = p ∧ Q = q)) :
    Calls Try.prog 11 #[.complex .f64 x y, .int .i64 n, .agg #[.int .i64 P, .int .i64 Q], .bool ok] w fun e w' => e = .returned (.bool true) ∧ Below w.heap.size w w' := by
  obtain ⟨h1, h2⟩ := hk
  cases ok
  · rcases h with ⟨ha, hb, _⟩ | ⟨hab, rfl, rfl, rfl⟩
    · rw [ha, hb] at h1; cases h1
    · exact told_err P Q w
  · obtain ⟨rfl, rfl⟩ := h2 rfl
    have := told_yes x y n P Q w h
    rw [← h1] at this
    exact this

structure Facts (b i n u v p q : Int) : Prop where
  make : ∀ w, Calls Try.prog 5 #[.int .i64 b, .int .i64 i] w fun e w' => e = .returned (.tuple #[.complex .f64 (fl b) (fl i), .int .i64 0]) ∧ w = w'
  add : ∀ w, Calls Try.prog 7 #[.complex .f64 (fl b) (fl i), .complex .f64 (floatOfInt .f64 n) 0] w (AnsEnd u i w)
  sub : ∀ w, Calls Try.prog 8 #[.complex .f64 (fl b) (fl i), .complex .f64 0 (floatOfInt .f64 n)] w (AnsEnd b v w)
  tim : ∀ w, Calls Try.prog 9 #[.complex .f64 (fl b) (fl i), .int .i64 n] w (AnsEnd p q w)
  tt : ∀ w, Calls Try.prog 10 #[.agg #[.int .i64 b, .int .i64 i], .int .i64 n] w (TTEnd p q w)

theorem facts (b i n u v : Int) (hb : fit b = true) (hi : fit i = true) (h1 : -3 ≤ n) (h2 : n ≤ 3) (hu : b + n = u) (hv : i - n = v) : Facts b i n u v (b * n) (i * n) := by
  have rb : Rep (fl b) b := rep_fl (by have := fit_lt hb; omega)
  have ri : Rep (fl i) i := rep_fl (by have := fit_lt hi; omega)
  have rn : Rep (floatOfInt .f64 n) n := rep_fl (by omega)
  have r0 : Rep 0 0 := ⟨false, 1074, by decide +kernel, by simp⟩
  have hn : fit n = true := (fit_iff n).2 ⟨by omega, by omega⟩
  have h0 : fit 0 = true := by decide
  subst hu hv
  refine ⟨fun w => make_yes b i w hb hi, fun w => ?_, fun w => ?_, fun w => times_any _ _ b i n w rb ri (by rw [hb, hi]; rfl) (by omega), fun w => ?_⟩
  · have := add_any _ _ _ _ b i n 0 w rb ri rn r0 (by rw [hb, hi]; rfl) (by rw [hn, h0]; rfl)
    rw [Int.add_zero] at this; exact this
  · have := sub_any _ _ _ _ b i 0 n w rb ri r0 rn (by rw [hb, hi]; rfl) (by rw [hn, h0]; rfl)
    rw [Int.sub_zero] at this; exact this
  · refine (tollTimes_any b i n w hb hi (by omega) (by omega)).mono ?_
    rintro e w' ⟨⟨hf, rfl⟩ | ⟨hf, rfl⟩, hB⟩
    · exact ⟨_, _, _, rfl, ⟨hf.symm, fun _ => ⟨rfl, rfl⟩⟩, hB⟩
    · exact ⟨_, _, _, rfl, ⟨hf.symm, fun h => by cases h⟩, hB⟩

theorem ends_far (a0 a1 : Bool) (n : Int) (w : World) (h : n < -3 ∨ 3 < n) :
    Calls Try.prog 3 #[.bool a0, .bool a1, .int .i64 n] w fun e w' => e = .returned (.bool true) ∧ Below w.heap.size w w' := by
  rcases h with h | h
  · go_enter Try.func3, Try.ntmps3
    go_wp2_with (go_at_call 4; (with_reducible refine (alive_any _).mono ?_); rintro e w' ⟨rfl, hb⟩; have HB := Lib.hid hb; clear hb)
    go_ret
    exact ⟨rfl, HB.out⟩
  · have h' : ¬ n < -3 := by omega
    go_enter Try.func3, Try.ntmps3
    go_wp2_with (go_at_call 4; (with_reducible refine (alive_any _).mono ?_); rintro e w' ⟨rfl, hb⟩; have HB := Lib.hid hb; clear hb)
    go_ret
    exact ⟨rfl, HB.out⟩

/-- what the law's last statement reads, and that nothing that was there has turned -/
theorem held_of {W w : World} {A B C : Nat} {v1 v2 v3 v4 v5 v6 : Value} (h1 : W.cell? ⟨A, 0, none⟩ = some v1) (h2 : W.cell? ⟨A, 1, none⟩ = some v2) (h3 : W.cell? ⟨B, 0, none⟩ = some v3) (h4 : W.cell? ⟨B, 1, none⟩ = some v4) (h5 : W.cell? ⟨C, 0, none⟩ = some v5) (h6 : W.cell? ⟨C, 1, none⟩ = some v6) (hb : Below W.heap.size W w) :
    Below W.heap.size W w ∧ w.cell? ⟨A, 0, none⟩ = some v1 ∧ w.cell? ⟨A, 1, none⟩ = some v2 ∧ w.cell? ⟨B, 0, none⟩ = some v3 ∧ w.cell? ⟨B, 1, none⟩ = some v4 ∧ w.cell? ⟨C, 0, none⟩ = some v5 ∧ w.cell? ⟨C, 1, none⟩ = some v6 := by
  have up : ∀ (p : Addr) (v : Value), W.cell? p = some v → w.cell? p = some v := fun p v h => by rw [hb.cell (World.block_lt_of_cell? W p h)]; exact h
  exact ⟨hb, up _ _ h1, up _ _ h2, up _ _ h3, up _ _ h4, up _ _ h5, up _ _ h6⟩

theorem cell_at (w : World) (c : Array Value) (t : TypeId) (k : Nat) (v : Value) (h : c[k]? = some v) : (w.alloc (.cells c t)).cell? ⟨w.heap.size, k, none⟩ = some v := by
  have hc : (w.alloc (.cells c t)).heap[w.heap.size]? = some (.cells c t) := (MapKept.heap_alloc w _).1
  unfold World.cell?
  rw [hc]
  exact h

theorem cells6 {wt wz : World} {v1 v2 v3 v4 v5 v6 : Value}
    (hb : Below ((wt.alloc (.cells #[v1, v2] 32)).alloc (.cells #[v3, v4] 32)).heap.size ((wt.alloc (.cells #[v1, v2] 32)).alloc (.cells #[v3, v4] 32)) wz) :
    (wz.alloc (.cells #[v5, v6] 32)).cell? ⟨wt.heap.size, 0, none⟩ = some v1 ∧ (wz.alloc (.cells #[v5, v6] 32)).cell? ⟨wt.heap.size, 1, none⟩ = some v2 ∧ (wz.alloc (.cells #[v5, v6] 32)).cell? ⟨wt.heap.size + 1, 0, none⟩ = some v3 ∧ (wz.alloc (.cells #[v5, v6] 32)).cell? ⟨wt.heap.size + 1, 1, none⟩ = some v4 ∧ (wz.alloc (.cells #[v5, v6] 32)).cell? ⟨wz.heap.size, 0, none⟩ = some v5 ∧ (wz.alloc (.cells #[v5, v6] 32)).cell? ⟨wz.heap.size, 1, none⟩ = some v6 := by
  have hs := hb.size
  have s1 : (wt.alloc (.cells #[v1, v2] 32)).heap.size = wt.heap.size + 1 := by simp
  have s2 : ((wt.alloc (.cells #[v1, v2] 32)).alloc (.cells #[v3, v4] 32)).heap.size = wt.heap.size + 1 + 1 := by simp
  rw [s2] at hs
  have old : ∀ (o : Nat) (b : Nat), b < wt.heap.size + 1 + 1 → (wz.alloc (.cells #[v5, v6] 32)).cell? ⟨b, o, none⟩ = ((wt.alloc (.cells #[v1, v2] 32)).alloc (.cells #[v3, v4] 32)).cell? ⟨b, o, none⟩ := fun o b h => by
    rw [World.cell?_alloc_lt _ _ _ (show b < wz.heap.size by omega)]
    exact hb.cell (p := ⟨b, o, none⟩) (by rw [s2]; exact h)
  have one : ∀ (o : Nat) (v : Value), (#[v1, v2] : Array Value)[o]? = some v → (wz.alloc (.cells #[v5, v6] 32)).cell? ⟨wt.heap.size, o, none⟩ = some v := fun o v h => by
    rw [old o _ (by omega), World.cell?_alloc_lt _ _ _ (show wt.heap.size < _ by rw [s1]; omega)]
    exact cell_at wt _ _ _ _ h
  have two : ∀ (o : Nat) (v : Value), (#[v3, v4] : Array Value)[o]? = some v → (wz.alloc (.cells #[v5, v6] 32)).cell? ⟨wt.heap.size + 1, o, none⟩ = some v := fun o v h => by
    rw [old o _ (by omega), ← s1]
    exact cell_at (wt.alloc (.cells #[v1, v2] 32)) _ _ _ _ h
  exact ⟨one 0 _ rfl, one 1 _ rfl, two 0 _ rfl, two 1 _ rfl, cell_at wz _ _ _ _ rfl, cell_at wz _ _ _ _ rfl⟩

theorem below6 {w wl wa ws wt wz : World} {v1 v2 v3 v4 v5 v6 : Value} (h1 : Below w.heap.size w wl) (h2 : Below wl.heap.size wl wa) (h3 : Below wa.heap.size wa ws) (h4 : Below ws.heap.size ws wt)
    (h5 : Below ((wt.alloc (.cells #[v1, v2] 32)).alloc (.cells #[v3, v4] 32)).heap.size ((wt.alloc (.cells #[v1, v2] 32)).alloc (.cells #[v3, v4] 32)) wz) : Below w.heap.size w (wz.alloc (.cells #[v5, v6] 32)) := by
  have s2 : ((wt.alloc (.cells #[v1, v2] 32)).alloc (.cells #[v3, v4] 32)).heap.size = wt.heap.size + 1 + 1 := by simp
  have s1 : (wt.alloc (.cells #[v1, v2] 32)).heap.size = wt.heap.size + 1 := by simp
  have z1 := h1.size; have z2 := h2.size; have z3 := h3.size; have z4 := h4.size; have z5 := h5.size
  rw [s2] at z5
  exact ((((((h1.trans (h2.mono z1)).trans (h3.mono (by omega))).trans (h4.mono (by omega))).alloc (by omega) _).alloc (by omega) _).trans (h5.mono (by omega))).alloc (by omega) _

set_option maxRecDepth 100000 in
set_option maxHeartbeats 1600000 in
theorem near_tt (n : Int) (w : World) (h1 : -3 ≤ n) (h2 : n ≤ 3) :
    Calls Try.prog 3 #[.bool true, .bool true, .int .i64 n] w fun e w' => e = .returned (.bool true) ∧ Below w.heap.size w w' := by
  have F := Lib.hid (facts (1099511627776) (-1099511627776) n (1099511627776 + n) (-1099511627776 - n) (by decide) (by decide) h1 h2 (by omega) (by omega))
  go_enter Try.func3, Try.ntmps3
  go_wp2_with (first
    | (go_at_call 4; (with_reducible refine (alive_any _).mono ?_); rintro e wl ⟨rfl, hb⟩; have HL := Lib.hid hb; clear hb)
    | (go_at_call 5; (with_reducible refine (F.out.make _).mono ?_); rintro e w' ⟨rfl, rfl⟩)
    | (go_at_call 6; (with_reducible refine (num_any _ _).mono ?_); rintro e w' ⟨rfl, rfl⟩)
    | (go_at_call 7; (with_reducible refine (F.out.add _).mono ?_); rintro e wa ⟨xa, ya, na, ha, rfl, hb⟩; have NA := Lib.hid ha; have HA := Lib.hid hb; clear ha hb)
    | (go_at_call 8; (with_reducible refine (F.out.sub _).mono ?_); rintro e ws ⟨xs, ys, ns, ha, rfl, hb⟩; have NS := Lib.hid ha; have HS := Lib.hid hb; clear ha hb)
    | (go_at_call 9; (with_reducible refine (F.out.tim _).mono ?_); rintro e wt ⟨xt, yt, nt, ha, rfl, hb⟩; have NT := Lib.hid ha; have HT := Lib.hid hb; clear ha hb)
    | (go_at_call 10; (with_reducible refine (F.out.tt _).mono ?_); rintro e wz ⟨P, Q, ok, rfl, ha, hb⟩; obtain ⟨hc, hf⟩ := bcell hb; have hz : wt.heap.size + 1 < wz.heap.size := (by have := hb.size; simp at this; omega); have NZ := Lib.hid ha; have HZ := Lib.hid hb; clear ha hb))
  have HW := Lib.hid (below6 (v5 := .int .i64 P) (v6 := .int .i64 Q) HL.out HA.out HS.out HT.out HZ.out)
  have HC := Lib.hid (cells6 (v5 := .int .i64 P) (v6 := .int .i64 Q) HZ.out)
  clear hc hf hz HZ HL HA HS HT
  generalize (wz.alloc (Obj.cells #[Value.int IntKind.i64 P, Value.int IntKind.i64 Q] 32)) = W at *
  go_region_held3 (fun w' => Below W.heap.size W w' ∧ w'.cell? ⟨wt.heap.size, 0, none⟩ = some (.int .i64 (1099511627776 + n)) ∧ w'.cell? ⟨wt.heap.size, 1, none⟩ = some (.int .i64 (-1099511627776)) ∧ w'.cell? ⟨wt.heap.size + 1, 0, none⟩ = some (.int .i64 (1099511627776)) ∧ w'.cell? ⟨wt.heap.size + 1, 1, none⟩ = some (.int .i64 (-1099511627776 - n)) ∧ w'.cell? ⟨wz.heap.size, 0, none⟩ = some (.int .i64 P) ∧ w'.cell? ⟨wz.heap.size, 1, none⟩ = some (.int .i64 Q))
    (first
      | exact held_of HC.out.1 HC.out.2.1 HC.out.2.2.1 HC.out.2.2.2.1 HC.out.2.2.2.2.1 HC.out.2.2.2.2.2 (Below.drew (Below.refl _ _))
      | exact held_of HC.out.1 HC.out.2.1 HC.out.2.2.1 HC.out.2.2.2.1 HC.out.2.2.2.2.1 HC.out.2.2.2.2.2 ((‹Below W.heap.size W _ ∧ _›).1.trans (Below.mono (by assumption) (‹Below W.heap.size W _ ∧ _›).1.size))
      | assumption)
    (first
      | (go_at_call 12; (with_reducible refine (good_any _ _ _).mono ?_); rintro e w' ⟨rfl, hb⟩)
      | (go_at_call 11; (with_reducible refine (told_yes _ _ _ _ _ _ NA.out).mono ?_); rintro e w' ⟨rfl, hb⟩)
      | (go_at_call 11; (with_reducible refine (told_yes _ _ _ _ _ _ NS.out).mono ?_); rintro e w' ⟨rfl, hb⟩)
      | (go_at_call 11; (with_reducible refine (told_tt _ _ _ _ _ _ _ _ _ NT.out NZ.out).mono ?_); rintro e w' ⟨rfl, hb⟩))
  have hB := (‹Below W.heap.size W _ ∧ _›).1
  have HB := Lib.hid (HW.out.trans (hB.mono HW.out.size))
  clear hB
  go_wp2
  go_ret
  exact ⟨rfl, HB.out⟩

set_option maxRecDepth 100000 in
set_option maxHeartbeats 1600000 in
theorem near_tf (n : Int) (w : World) (h1 : -3 ≤ n) (h2 : n ≤ 3) :
    Calls Try.prog 3 #[.bool true, .bool false, .int .i64 n] w fun e w' => e = .returned (.bool true) ∧ Below w.heap.size w w' := by
  have F := Lib.hid (facts (1099511627776) (0) n (1099511627776 + n) (-n) (by decide) (by decide) h1 h2 (by omega) (by omega))
  go_enter Try.func3, Try.ntmps3
  go_wp2_with (first
    | (go_at_call 4; (with_reducible refine (alive_any _).mono ?_); rintro e wl ⟨rfl, hb⟩; have HL := Lib.hid hb; clear hb)
    | (go_at_call 5; (with_reducible refine (F.out.make _).mono ?_); rintro e w' ⟨rfl, rfl⟩)
    | (go_at_call 6; (with_reducible refine (num_any _ _).mono ?_); rintro e w' ⟨rfl, rfl⟩)
    | (go_at_call 7; (with_reducible refine (F.out.add _).mono ?_); rintro e wa ⟨xa, ya, na, ha, rfl, hb⟩; have NA := Lib.hid ha; have HA := Lib.hid hb; clear ha hb)
    | (go_at_call 8; (with_reducible refine (F.out.sub _).mono ?_); rintro e ws ⟨xs, ys, ns, ha, rfl, hb⟩; have NS := Lib.hid ha; have HS := Lib.hid hb; clear ha hb)
    | (go_at_call 9; (with_reducible refine (F.out.tim _).mono ?_); rintro e wt ⟨xt, yt, nt, ha, rfl, hb⟩; have NT := Lib.hid ha; have HT := Lib.hid hb; clear ha hb)
    | (go_at_call 10; (with_reducible refine (F.out.tt _).mono ?_); rintro e wz ⟨P, Q, ok, rfl, ha, hb⟩; obtain ⟨hc, hf⟩ := bcell hb; have hz : wt.heap.size + 1 < wz.heap.size := (by have := hb.size; simp at this; omega); have NZ := Lib.hid ha; have HZ := Lib.hid hb; clear ha hb))
  have HW := Lib.hid (below6 (v5 := .int .i64 P) (v6 := .int .i64 Q) HL.out HA.out HS.out HT.out HZ.out)
  have HC := Lib.hid (cells6 (v5 := .int .i64 P) (v6 := .int .i64 Q) HZ.out)
  clear hc hf hz HZ HL HA HS HT
  generalize (wz.alloc (Obj.cells #[Value.int IntKind.i64 P, Value.int IntKind.i64 Q] 32)) = W at *
  go_region_held3 (fun w' => Below W.heap.size W w' ∧ w'.cell? ⟨wt.heap.size, 0, none⟩ = some (.int .i64 (1099511627776 + n)) ∧ w'.cell? ⟨wt.heap.size, 1, none⟩ = some (.int .i64 (0)) ∧ w'.cell? ⟨wt.heap.size + 1, 0, none⟩ = some (.int .i64 (1099511627776)) ∧ w'.cell? ⟨wt.heap.size + 1, 1, none⟩ = some (.int .i64 (-n)) ∧ w'.cell? ⟨wz.heap.size, 0, none⟩ = some (.int .i64 P) ∧ w'.cell? ⟨wz.heap.size, 1, none⟩ = some (.int .i64 Q))
    (first
      | exact held_of HC.out.1 HC.out.2.1 HC.out.2.2.1 HC.out.2.2.2.1 HC.out.2.2.2.2.1 HC.out.2.2.2.2.2 (Below.drew (Below.refl _ _))
      | exact held_of HC.out.1 HC.out.2.1 HC.out.2.2.1 HC.out.2.2.2.1 HC.out.2.2.2.2.1 HC.out.2.2.2.2.2 ((‹Below W.heap.size W _ ∧ _›).1.trans (Below.mono (by assumption) (‹Below W.heap.size W _ ∧ _›).1.size))
      | assumption)
    (first
      | (go_at_call 12; (with_reducible refine (good_any _ _ _).mono ?_); rintro e w' ⟨rfl, hb⟩)
      | (go_at_call 11; (with_reducible refine (told_yes _ _ _ _ _ _ NA.out).mono ?_); rintro e w' ⟨rfl, hb⟩)
      | (go_at_call 11; (with_reducible refine (told_yes _ _ _ _ _ _ NS.out).mono ?_); rintro e w' ⟨rfl, hb⟩)
      | (go_at_call 11; (with_reducible refine (told_tt _ _ _ _ _ _ _ _ _ NT.out NZ.out).mono ?_); rintro e w' ⟨rfl, hb⟩))
  have hB := (‹Below W.heap.size W _ ∧ _›).1
  have HB := Lib.hid (HW.out.trans (hB.mono HW.out.size))
  clear hB
  go_wp2
  go_ret
  exact ⟨rfl, HB.out⟩

set_option maxRecDepth 100000 in
set_option maxHeartbeats 1600000 in
theorem near_ft (n : Int) (w : World) (h1 : -3 ≤ n) (h2 : n ≤ 3) :
    Calls Try.prog 3 #[.bool false, .bool true, .int .i64 n] w fun e w' => e = .returned (.bool true) ∧ Below w.heap.size w w' := by
  have F := Lib.hid (facts (0) (-1099511627776) n (n) (-1099511627776 - n) (by decide) (by decide) h1 h2 (by omega) (by omega))
  go_enter Try.func3, Try.ntmps3
  go_wp2_with (first
    | (go_at_call 4; (with_reducible refine (alive_any _).mono ?_); rintro e wl ⟨rfl, hb⟩; have HL := Lib.hid hb; clear hb)
    | (go_at_call 5; (with_reducible refine (F.out.make _).mono ?_); rintro e w' ⟨rfl, rfl⟩)
    | (go_at_call 6; (with_reducible refine (num_any _ _).mono ?_); rintro e w' ⟨rfl, rfl⟩)
    | (go_at_call 7; (with_reducible refine (F.out.add _).mono ?_); rintro e wa ⟨xa, ya, na, ha, rfl, hb⟩; have NA := Lib.hid ha; have HA := Lib.hid hb; clear ha hb)
    | (go_at_call 8; (with_reducible refine (F.out.sub _).mono ?_); rintro e ws ⟨xs, ys, ns, ha, rfl, hb⟩; have NS := Lib.hid ha; have HS := Lib.hid hb; clear ha hb)
    | (go_at_call 9; (with_reducible refine (F.out.tim _).mono ?_); rintro e wt ⟨xt, yt, nt, ha, rfl, hb⟩; have NT := Lib.hid ha; have HT := Lib.hid hb; clear ha hb)
    | (go_at_call 10; (with_reducible refine (F.out.tt _).mono ?_); rintro e wz ⟨P, Q, ok, rfl, ha, hb⟩; obtain ⟨hc, hf⟩ := bcell hb; have hz : wt.heap.size + 1 < wz.heap.size := (by have := hb.size; simp at this; omega); have NZ := Lib.hid ha; have HZ := Lib.hid hb; clear ha hb))
  have HW := Lib.hid (below6 (v5 := .int .i64 P) (v6 := .int .i64 Q) HL.out HA.out HS.out HT.out HZ.out)
  have HC := Lib.hid (cells6 (v5 := .int .i64 P) (v6 := .int .i64 Q) HZ.out)
  clear hc hf hz HZ HL HA HS HT
  generalize (wz.alloc (Obj.cells #[Value.int IntKind.i64 P, Value.int IntKind.i64 Q] 32)) = W at *
  go_region_held3 (fun w' => Below W.heap.size W w' ∧ w'.cell? ⟨wt.heap.size, 0, none⟩ = some (.int .i64 (n)) ∧ w'.cell? ⟨wt.heap.size, 1, none⟩ = some (.int .i64 (-1099511627776)) ∧ w'.cell? ⟨wt.heap.size + 1, 0, none⟩ = some (.int .i64 (0)) ∧ w'.cell? ⟨wt.heap.size + 1, 1, none⟩ = some (.int .i64 (-1099511627776 - n)) ∧ w'.cell? ⟨wz.heap.size, 0, none⟩ = some (.int .i64 P) ∧ w'.cell? ⟨wz.heap.size, 1, none⟩ = some (.int .i64 Q))
    (first
      | exact held_of HC.out.1 HC.out.2.1 HC.out.2.2.1 HC.out.2.2.2.1 HC.out.2.2.2.2.1 HC.out.2.2.2.2.2 (Below.drew (Below.refl _ _))
      | exact held_of HC.out.1 HC.out.2.1 HC.out.2.2.1 HC.out.2.2.2.1 HC.out.2.2.2.2.1 HC.out.2.2.2.2.2 ((‹Below W.heap.size W _ ∧ _›).1.trans (Below.mono (by assumption) (‹Below W.heap.size W _ ∧ _›).1.size))
      | assumption)
    (first
      | (go_at_call 12; (with_reducible refine (good_any _ _ _).mono ?_); rintro e w' ⟨rfl, hb⟩)
      | (go_at_call 11; (with_reducible refine (told_yes _ _ _ _ _ _ NA.out).mono ?_); rintro e w' ⟨rfl, hb⟩)
      | (go_at_call 11; (with_reducible refine (told_yes _ _ _ _ _ _ NS.out).mono ?_); rintro e w' ⟨rfl, hb⟩)
      | (go_at_call 11; (with_reducible refine (told_tt _ _ _ _ _ _ _ _ _ NT.out NZ.out).mono ?_); rintro e w' ⟨rfl, hb⟩))
  have hB := (‹Below W.heap.size W _ ∧ _›).1
  have HB := Lib.hid (HW.out.trans (hB.mono HW.out.size))
  clear hB
  go_wp2
  go_ret
  exact ⟨rfl, HB.out⟩

set_option maxRecDepth 100000 in
set_option maxHeartbeats 1600000 in
theorem near_ff (n : Int) (w : World) (h1 : -3 ≤ n) (h2 : n ≤ 3) :
    Calls Try.prog 3 #[.bool false, .bool false, .int .i64 n] w fun e w' => e = .returned (.bool true) ∧ Below w.heap.size w w' := by
  have F := Lib.hid (facts (0) (0) n (n) (-n) (by decide) (by decide) h1 h2 (by omega) (by omega))
  go_enter Try.func3, Try.ntmps3
  go_wp2_with (first
    | (go_at_call 4; (with_reducible refine (alive_any _).mono ?_); rintro e wl ⟨rfl, hb⟩; have HL := Lib.hid hb; clear hb)
    | (go_at_call 5; (with_reducible refine (F.out.make _).mono ?_); rintro e w' ⟨rfl, rfl⟩)
    | (go_at_call 6; (with_reducible refine (num_any _ _).mono ?_); rintro e w' ⟨rfl, rfl⟩)
    | (go_at_call 7; (with_reducible refine (F.out.add _).mono ?_); rintro e wa ⟨xa, ya, na, ha, rfl, hb⟩; have NA := Lib.hid ha; have HA := Lib.hid hb; clear ha hb)
    | (go_at_call 8; (with_reducible refine (F.out.sub _).mono ?_); rintro e ws ⟨xs, ys, ns, ha, rfl, hb⟩; have NS := Lib.hid ha; have HS := Lib.hid hb; clear ha hb)
    | (go_at_call 9; (with_reducible refine (F.out.tim _).mono ?_); rintro e wt ⟨xt, yt, nt, ha, rfl, hb⟩; have NT := Lib.hid ha; have HT := Lib.hid hb; clear ha hb)
    | (go_at_call 10; (with_reducible refine (F.out.tt _).mono ?_); rintro e wz ⟨P, Q, ok, rfl, ha, hb⟩; obtain ⟨hc, hf⟩ := bcell hb; have hz : wt.heap.size + 1 < wz.heap.size := (by have := hb.size; simp at this; omega); have NZ := Lib.hid ha; have HZ := Lib.hid hb; clear ha hb))
  have HW := Lib.hid (below6 (v5 := .int .i64 P) (v6 := .int .i64 Q) HL.out HA.out HS.out HT.out HZ.out)
  have HC := Lib.hid (cells6 (v5 := .int .i64 P) (v6 := .int .i64 Q) HZ.out)
  clear hc hf hz HZ HL HA HS HT
  generalize (wz.alloc (Obj.cells #[Value.int IntKind.i64 P, Value.int IntKind.i64 Q] 32)) = W at *
  go_region_held3 (fun w' => Below W.heap.size W w' ∧ w'.cell? ⟨wt.heap.size, 0, none⟩ = some (.int .i64 (n)) ∧ w'.cell? ⟨wt.heap.size, 1, none⟩ = some (.int .i64 (0)) ∧ w'.cell? ⟨wt.heap.size + 1, 0, none⟩ = some (.int .i64 (0)) ∧ w'.cell? ⟨wt.heap.size + 1, 1, none⟩ = some (.int .i64 (-n)) ∧ w'.cell? ⟨wz.heap.size, 0, none⟩ = some (.int .i64 P) ∧ w'.cell? ⟨wz.heap.size, 1, none⟩ = some (.int .i64 Q))
    (first
      | exact held_of HC.out.1 HC.out.2.1 HC.out.2.2.1 HC.out.2.2.2.1 HC.out.2.2.2.2.1 HC.out.2.2.2.2.2 (Below.drew (Below.refl _ _))
      | exact held_of HC.out.1 HC.out.2.1 HC.out.2.2.1 HC.out.2.2.2.1 HC.out.2.2.2.2.1 HC.out.2.2.2.2.2 ((‹Below W.heap.size W _ ∧ _›).1.trans (Below.mono (by assumption) (‹Below W.heap.size W _ ∧ _›).1.size))
      | assumption)
    (first
      | (go_at_call 12; (with_reducible refine (good_any _ _ _).mono ?_); rintro e w' ⟨rfl, hb⟩)
      | (go_at_call 11; (with_reducible refine (told_yes _ _ _ _ _ _ NA.out).mono ?_); rintro e w' ⟨rfl, hb⟩)
      | (go_at_call 11; (with_reducible refine (told_yes _ _ _ _ _ _ NS.out).mono ?_); rintro e w' ⟨rfl, hb⟩)
      | (go_at_call 11; (with_reducible refine (told_tt _ _ _ _ _ _ _ _ _ NT.out NZ.out).mono ?_); rintro e w' ⟨rfl, hb⟩))
  have hB := (‹Below W.heap.size W _ ∧ _›).1
  have HB := Lib.hid (HW.out.trans (hB.mono HW.out.size))
  clear hB
  go_wp2
  go_ret
  exact ⟨rfl, HB.out⟩

theorem ends_any (a0 a1 : Bool) (n : Int) (w : World) :
    Calls Try.prog 3 #[.bool a0, .bool a1, .int .i64 n] w fun e w' => e = .returned (.bool true) ∧ Below w.heap.size w w' := by
  by_cases h1 : -3 ≤ n
  · by_cases h2 : n ≤ 3
    · cases a0 <;> cases a1
      · exact near_ff n w h1 h2
      · exact near_ft n w h1 h2
      · exact near_tf n w h1 h2
      · exact near_tt n w h1 h2
    · exact ends_far a0 a1 n w (Or.inr (by omega))
  · exact ends_far a0 a1 n w (Or.inl (by omega))
end Go.Proofs.Ytofpofojmbnomaa
