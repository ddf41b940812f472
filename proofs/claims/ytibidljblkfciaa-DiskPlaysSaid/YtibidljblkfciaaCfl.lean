/-
What is proved here: the laws' helper 'call', for a flush whatever the fuse, and for a fuse.
-/
import Derived.Test.YtibidljblkfciaaNor
set_option linter.unusedSimpArgs false
namespace Go.Proofs.Ytibidljblkfciaa
open Go.Word Go.RowKit

section
variable {w w' : World} {g r n : Nat} {F : Bytes} {ws : List (Nat × Bytes)} {on : Bool} {lf : Int} {fp fq : Nat → Prop}
set_option maxRecDepth 100000 in
set_option maxHeartbeats 4000000 in
theorem call_flush_on (a b : Int) (kv : Value) (w : World) (hN : ws.length ≤ 70000) (h1 : -1 ≤ lf) (h2 : lf ≤ 9223372036854775807) (h0 : lf ≠ 0) (h : Two2 w g r n F ws true lf fp fq) :
    Calls Try.prog 16 #[.pointer (some ⟨g, 0, none⟩), .pointer (some ⟨r, 0, none⟩), .agg #[.int .i64 2, .int .i64 a, .int .i64 b, kv]] w fun e w' => e = .returned (.bool true) ∧ Two2 w' g r n (now F ws) [] (stepOn true lf) (stepLf lf) fp fq ∧ Keeps (fun i => fp i ∨ fq i) w w' := by
  have bb := (Below.refl w.heap.size w).alloc (Nat.le_refl _) (.cells #[.int .i64 2, .int .i64 a, .int .i64 b, kv] 33)
  have H1 := Lib.hid (two_below h bb)
  have BB := Lib.hid bb
  clear h bb
  go_enter Try.func16, Try.ntmps16
  go_upto_region 28 with (fail)
  generalize w.alloc (.cells #[.int .i64 2, .int .i64 a, .int .i64 b, kv] 33) = W at *
  have Q1 := Lib.hid (dk_flush W h1 h2 H1.out.d)
  have Q2 := Lib.hid (fun (w1 : World) (hk : Keeps fp W w1) => rd_flush w1 hN h1 h2 h0 (rd_frame H1.out.r hk (apart_symm H1.out.apart)))
  clear h1 h2 h0
  go_wp2_with (first
    | (go_at_call 25; (with_reducible refine Q1.out.mono ?_); rintro e w1 ⟨rfl, hd, hk⟩; have HD := Lib.hid hd; have HK := Lib.hid hk; clear hd hk)
    | (go_at_call 24; (with_reducible refine (num_any _ _).mono ?_); rintro e w' ⟨rfl, rfl⟩)
    | (go_at_call 36; (with_reducible refine (Q2.out w1 HK.out).mono ?_); rintro e w2 ⟨rfl, hd, hk⟩; have HR2 := Lib.hid hd; have HK2 := Lib.hid hk; clear hd hk))
  go_ret
  exact ⟨rfl, ⟨dk_frame HD.out HK2.out H1.out.apart, HR2.out, H1.out.apart⟩, keeps_pre BB.out (keeps_both HK.out HK2.out)⟩
set_option maxRecDepth 100000 in
set_option maxHeartbeats 4000000 in
theorem call_flush_off (a b : Int) (kv : Value) (w : World) (h : Two2 w g r n F ws false lf fp fq) :
    Calls Try.prog 16 #[.pointer (some ⟨g, 0, none⟩), .pointer (some ⟨r, 0, none⟩), .agg #[.int .i64 2, .int .i64 a, .int .i64 b, kv]] w fun e w' => e = .returned (.bool true) ∧ Below w.heap.size w w' := by
  have bb := (Below.refl w.heap.size w).alloc (Nat.le_refl _) (.cells #[.int .i64 2, .int .i64 a, .int .i64 b, kv] 33)
  have H1 := Lib.hid (two_below h bb)
  have BB := Lib.hid bb
  clear h bb
  go_enter Try.func16, Try.ntmps16
  go_upto_region 28 with (fail)
  generalize w.alloc (.cells #[.int .i64 2, .int .i64 a, .int .i64 b, kv] 33) = W at *
  go_wp2_with (first
    | (go_at_call 25; (with_reducible refine (dk_flush_off _ H1.out.d).mono ?_); rintro e w1 ⟨rfl, rfl⟩)
    | (go_at_call 24; (with_reducible refine (num_any _ _).mono ?_); rintro e w' ⟨rfl, rfl⟩)
    | (go_at_call 36; (with_reducible refine (rd_flush_off _ H1.out.r).mono ?_); rintro e w2 ⟨rfl, rfl⟩))
  go_ret
  exact ⟨rfl, BB.out⟩
set_option maxRecDepth 100000 in
set_option maxHeartbeats 4000000 in
theorem call_fuse_on (a b : Int) (kv : Value) (w : World) (ha : -1 ≤ a) (h : Two2 w g r n F ws true lf fp fq) :
    Calls Try.prog 16 #[.pointer (some ⟨g, 0, none⟩), .pointer (some ⟨r, 0, none⟩), .agg #[.int .i64 3, .int .i64 a, .int .i64 b, kv]] w fun e w' => e = .returned (.bool true) ∧ Two2 w' g r n F ws (decide (a ≠ 0)) a fp fq ∧ Keeps (fun i => fp i ∨ fq i) w w' := by
  have bb := (Below.refl w.heap.size w).alloc (Nat.le_refl _) (.cells #[.int .i64 3, .int .i64 a, .int .i64 b, kv] 33)
  have H1 := Lib.hid (two_below h bb)
  have BB := Lib.hid bb
  have cA : (w.alloc (.cells #[.int .i64 3, .int .i64 a, .int .i64 b, kv] 33)).cell? ⟨w.heap.size, 1, none⟩ = some (.int .i64 a) := lies_cell (lies_new w 33 _) 1
  have hlt : w.heap.size < (w.alloc (.cells #[.int .i64 3, .int .i64 a, .int .i64 b, kv] 33)).heap.size := lies_lt (lies_new w 33 _)
  have hnf : ¬ fp w.heap.size := fun hh => absurd (dk_all h.d _ hh) (Nat.lt_irrefl _)
  have LB := Lib.hid (lies_new w 33 #[.int .i64 3, .int .i64 a, .int .i64 b, kv])
  clear h bb hlt
  go_enter Try.func16, Try.ntmps16
  go_upto_region 30 with (fail)
  generalize w.alloc (.cells #[.int .i64 3, .int .i64 a, .int .i64 b, kv] 33) = W at *
  have HX := Lib.hid (two_below H1.out (show Below W.heap.size W W.drew from Below.drew (Below.refl _ _)))
  have BX := Lib.hid (show Below w.heap.size w W.drew from BB.out.trans (Below.drew (Below.refl _ _)))
  have cX : W.drew.cell? ⟨w.heap.size, 1, none⟩ = some (.int .i64 a) := cA
  have Q1 := Lib.hid (dk_fuse a W.drew ha HX.out.d)
  have Q2 := Lib.hid (fun (w1 : World) (hk : Keeps fp W.drew w1) => rd_fuse a w1 ha (rd_frame HX.out.r hk (apart_symm HX.out.apart)))
  have QC := Lib.hid (fun (w1 : World) (hk : Keeps fp W.drew w1) => show w1.cell? ⟨w.heap.size, 1, none⟩ = some (.int .i64 a) from lies_cell (show Lies w1 w.heap.size 33 _ from (hk.block _ (lies_lt LB.out) hnf).trans LB.out) 1)
  clear ha hnf
  refine wp_region_any (by kernel_rfl) ?_
  change wpAny _ _ _ _ _ _ _ (World.drew W)
  generalize W.drew = X at *
  refine open_take 0 (some 120) (.pointer (some ⟨g, 0, none⟩)) rfl rfl (by kernel_rfl) (by kernel_rfl) (by kernel_rfl) (fun _ _ _ h => h) (Or.inl ⟨by rfl, fun _ => by kernel_rfl⟩) ?_
  refine open_take 1 (some 121) (.pointer (some ⟨w.heap.size, 1, none⟩)) rfl rfl (by kernel_rfl) (by kernel_rfl) (by kernel_rfl) (fun _ _ _ h => h) (Or.inl ⟨by rfl, fun _ => by kernel_rfl⟩) ?_
  refine open_take 5 (some 125) (.pointer (some ⟨r, 0, none⟩)) rfl rfl (by kernel_rfl) (by kernel_rfl) (by kernel_rfl) (fun _ _ _ h => h) (Or.inl ⟨by rfl, fun _ => by kernel_rfl⟩) ?_
  refine open_take 6 (some 126) (.pointer (some ⟨w.heap.size, 1, none⟩)) rfl rfl (by kernel_rfl) (by kernel_rfl) (by kernel_rfl) (fun _ _ _ h => h) (Or.inl ⟨by rfl, fun _ => by kernel_rfl⟩) ?_
  refine wpAny_ready (rs := [2, 7]) (by kernel_rfl) (by simp) ?_
  refine open_value (some 122) (.int .i64 a) rfl rfl rfl (by go_simp) ?_ (open_value (some 127) (.int .i64 a) rfl rfl rfl (by go_simp) ?_ AllReady.nil)
  · refine wpAny_ready (rs := [3, 7]) (by kernel_rfl) (by simp) ?_
    refine open_call (some 123) (.int .i64 0) _ rfl rfl rfl 19 #[.pointer (some ⟨g, 0, none⟩), .int .i64 a] (by kernel_rfl) Q1.out (fun w1 hR => ?_) (open_value (some 127) (.int .i64 a) rfl rfl rfl (by go_simp) ?_ AllReady.nil)
    · obtain ⟨hd, hk⟩ := hR
      have HD := Lib.hid hd
      have HK := Lib.hid hk
      have cA1 := QC.out w1 hk
      clear hd hk
      refine wpAny_ready (rs := [4, 7]) (by kernel_rfl) (by simp) ?_
      refine open_call (some 124) (.int .i64 0) (fun w2 => w1 = w2) rfl rfl rfl 24 #[.int .i64 0] (by kernel_rfl) (num_any 0 w1) (fun w2 hN => ?_) (open_value (some 127) (.int .i64 a) rfl rfl rfl (by go_simp) ?_ AllReady.nil)
      · subst hN
        refine wpAny_ready (rs := [7]) (by kernel_rfl) (by simp) ?_
        refine open_value (some 127) (.int .i64 a) rfl rfl rfl (by go_simp) ?_ AllReady.nil
        refine wpAny_ready (rs := [8]) (by kernel_rfl) (by simp) ?_
        refine open_call (some 128) (.int .i64 0) _ rfl rfl rfl 37 #[.pointer (some ⟨r, 0, none⟩), .int .i64 a] (by kernel_rfl) (Q2.out w1 HK.out) (fun w5 hR2 => ?_) AllReady.nil
        refine wpAny_ready (rs := [9]) (by kernel_rfl) (by simp) ?_
        refine open_value (some 129) (.bool true) rfl rfl rfl (by kernel_rfl) ?_ AllReady.nil
        refine wpAny_ready (rs := [10]) (by kernel_rfl) (by simp) ?_
        refine open_value (some 6) (.bool true) rfl rfl rfl (by kernel_rfl) ?_ AllReady.nil
        refine wpAny_done (by kernel_rfl) ?_ _
        obtain ⟨hd2, hk2⟩ := hR2
        have HD2 := Lib.hid hd2
        have HK2 := Lib.hid hk2
        clear hd2 hk2
        go_wp2
        refine bodyPost_ret (v := .bool true) (by kernel_rfl) (by kernel_rfl) ⟨rfl, ⟨dk_frame HD.out HK2.out HX.out.apart, HD2.out, HX.out.apart⟩, keeps_pre BX.out (keeps_both HK.out HK2.out)⟩
      · refine wpAny_ready (rs := [4]) (by kernel_rfl) (by simp) ?_
        refine open_call (some 124) (.int .i64 0) (fun w2 => w1 = w2) rfl rfl rfl 24 #[.int .i64 0] (by kernel_rfl) (num_any 0 w1) (fun w2 hN => ?_) AllReady.nil
        subst hN
        refine wpAny_ready (rs := [8]) (by kernel_rfl) (by simp) ?_
        refine open_call (some 128) (.int .i64 0) _ rfl rfl rfl 37 #[.pointer (some ⟨r, 0, none⟩), .int .i64 a] (by kernel_rfl) (Q2.out w1 HK.out) (fun w5 hR2 => ?_) AllReady.nil
        refine wpAny_ready (rs := [9]) (by kernel_rfl) (by simp) ?_
        refine open_value (some 129) (.bool true) rfl rfl rfl (by kernel_rfl) ?_ AllReady.nil
        refine wpAny_ready (rs := [10]) (by kernel_rfl) (by simp) ?_
        refine open_value (some 6) (.bool true) rfl rfl rfl (by kernel_rfl) ?_ AllReady.nil
        refine wpAny_done (by kernel_rfl) ?_ _
        obtain ⟨hd2, hk2⟩ := hR2
        have HD2 := Lib.hid hd2
        have HK2 := Lib.hid hk2
        clear hd2 hk2
        go_wp2
        refine bodyPost_ret (v := .bool true) (by kernel_rfl) (by kernel_rfl) ⟨rfl, ⟨dk_frame HD.out HK2.out HX.out.apart, HD2.out, HX.out.apart⟩, keeps_pre BX.out (keeps_both HK.out HK2.out)⟩
    · refine wpAny_ready (rs := [3]) (by kernel_rfl) (by simp) ?_
      refine open_call (some 123) (.int .i64 0) _ rfl rfl rfl 19 #[.pointer (some ⟨g, 0, none⟩), .int .i64 a] (by kernel_rfl) Q1.out (fun w1 hR => ?_) AllReady.nil
      obtain ⟨hd, hk⟩ := hR
      have HD := Lib.hid hd
      have HK := Lib.hid hk
      have cA1 := QC.out w1 hk
      clear hd hk
      refine wpAny_ready (rs := [4]) (by kernel_rfl) (by simp) ?_
      refine open_call (some 124) (.int .i64 0) (fun w2 => w1 = w2) rfl rfl rfl 24 #[.int .i64 0] (by kernel_rfl) (num_any 0 w1) (fun w2 hN => ?_) AllReady.nil
      subst hN
      refine wpAny_ready (rs := [8]) (by kernel_rfl) (by simp) ?_
      refine open_call (some 128) (.int .i64 0) _ rfl rfl rfl 37 #[.pointer (some ⟨r, 0, none⟩), .int .i64 a] (by kernel_rfl) (Q2.out w1 HK.out) (fun w5 hR2 => ?_) AllReady.nil
      refine wpAny_ready (rs := [9]) (by kernel_rfl) (by simp) ?_
      refine open_value (some 129) (.bool true) rfl rfl rfl (by kernel_rfl) ?_ AllReady.nil
      refine wpAny_ready (rs := [10]) (by kernel_rfl) (by simp) ?_
      refine open_value (some 6) (.bool true) rfl rfl rfl (by kernel_rfl) ?_ AllReady.nil
      refine wpAny_done (by kernel_rfl) ?_ _
      obtain ⟨hd2, hk2⟩ := hR2
      have HD2 := Lib.hid hd2
      have HK2 := Lib.hid hk2
      clear hd2 hk2
      go_wp2
      refine bodyPost_ret (v := .bool true) (by kernel_rfl) (by kernel_rfl) ⟨rfl, ⟨dk_frame HD.out HK2.out HX.out.apart, HD2.out, HX.out.apart⟩, keeps_pre BX.out (keeps_both HK.out HK2.out)⟩
  · refine wpAny_ready (rs := [2]) (by kernel_rfl) (by simp) ?_
    refine open_value (some 122) (.int .i64 a) rfl rfl rfl (by go_simp) ?_ AllReady.nil
    refine wpAny_ready (rs := [3]) (by kernel_rfl) (by simp) ?_
    refine open_call (some 123) (.int .i64 0) _ rfl rfl rfl 19 #[.pointer (some ⟨g, 0, none⟩), .int .i64 a] (by kernel_rfl) Q1.out (fun w1 hR => ?_) AllReady.nil
    obtain ⟨hd, hk⟩ := hR
    have HD := Lib.hid hd
    have HK := Lib.hid hk
    have cA1 := QC.out w1 hk
    clear hd hk
    refine wpAny_ready (rs := [4]) (by kernel_rfl) (by simp) ?_
    refine open_call (some 124) (.int .i64 0) (fun w2 => w1 = w2) rfl rfl rfl 24 #[.int .i64 0] (by kernel_rfl) (num_any 0 w1) (fun w2 hN => ?_) AllReady.nil
    subst hN
    refine wpAny_ready (rs := [8]) (by kernel_rfl) (by simp) ?_
    refine open_call (some 128) (.int .i64 0) _ rfl rfl rfl 37 #[.pointer (some ⟨r, 0, none⟩), .int .i64 a] (by kernel_rfl) (Q2.out w1 HK.out) (fun w5 hR2 => ?_) AllReady.nil
    refine wpAny_ready (rs := [9]) (by kernel_rfl) (by simp) ?_
    refine open_value (some 129) (.bool true) rfl rfl rfl (by kernel_rfl) ?_ AllReady.nil
    refine wpAny_ready (rs := [10]) (by kernel_rfl) (by simp) ?_
    refine open_value (some 6) (.bool true) rfl rfl rfl (by kernel_rfl) ?_ AllReady.nil
    refine wpAny_done (by kernel_rfl) ?_ _
    obtain ⟨hd2, hk2⟩ := hR2
    have HD2 := Lib.hid hd2
    have HK2 := Lib.hid hk2
    clear hd2 hk2
    go_wp2
    refine bodyPost_ret (v := .bool true) (by kernel_rfl) (by kernel_rfl) ⟨rfl, ⟨dk_frame HD.out HK2.out HX.out.apart, HD2.out, HX.out.apart⟩, keeps_pre BX.out (keeps_both HK.out HK2.out)⟩
set_option maxRecDepth 100000 in
set_option maxHeartbeats 4000000 in
theorem call_fuse_low (a b : Int) (kv : Value) (w : World) (ha : a < -1) :
    Calls Try.prog 16 #[.pointer (some ⟨g, 0, none⟩), .pointer (some ⟨r, 0, none⟩), .agg #[.int .i64 3, .int .i64 a, .int .i64 b, kv]] w fun e w' => e = .returned (.bool true) ∧ Below w.heap.size w w' := by
  have BB := Lib.hid ((Below.refl w.heap.size w).alloc (Nat.le_refl _) (.cells #[.int .i64 3, .int .i64 a, .int .i64 b, kv] 33))
  have cA : (w.alloc (.cells #[.int .i64 3, .int .i64 a, .int .i64 b, kv] 33)).cell? ⟨w.heap.size, 1, none⟩ = some (.int .i64 a) := lies_cell (lies_new w 33 _) 1
  go_enter Try.func16, Try.ntmps16
  go_upto_region 30 with (fail)
  generalize w.alloc (.cells #[.int .i64 3, .int .i64 a, .int .i64 b, kv] 33) = W at *
  go_quiet ((first
    | (go_at_call 19; exact Calls.quiet_of_same ((dk_fuse_low _ _ ha).mono fun _ _ ⟨h1, h2⟩ => ⟨h1, h2.symm⟩))
    | (go_at_call 24; exact Calls.quiet_of_same ((num_any _ _).mono fun _ _ ⟨h1, h2⟩ => ⟨h1, h2.symm⟩))
    | (go_at_call 37; exact Calls.quiet_of_same ((rd_fuse_low _ _ ha).mono fun _ _ ⟨h1, h2⟩ => ⟨h1, h2.symm⟩))))
  go_wp2
  go_ret
  exact ⟨rfl, below_drewN BB.out _⟩
set_option maxRecDepth 100000 in
set_option maxHeartbeats 4000000 in
theorem call_fuse_off (a b : Int) (kv : Value) (w : World) (ha : ¬ a < -1) (h : Two2 w g r n F ws false lf fp fq) :
    Calls Try.prog 16 #[.pointer (some ⟨g, 0, none⟩), .pointer (some ⟨r, 0, none⟩), .agg #[.int .i64 3, .int .i64 a, .int .i64 b, kv]] w fun e w' => e = .returned (.bool true) ∧ Below w.heap.size w w' := by
  have bb := (Below.refl w.heap.size w).alloc (Nat.le_refl _) (.cells #[.int .i64 3, .int .i64 a, .int .i64 b, kv] 33)
  have H1 := Lib.hid (two_below h bb)
  have BB := Lib.hid bb
  have cA : (w.alloc (.cells #[.int .i64 3, .int .i64 a, .int .i64 b, kv] 33)).cell? ⟨w.heap.size, 1, none⟩ = some (.int .i64 a) := lies_cell (lies_new w 33 _) 1
  clear h bb
  go_enter Try.func16, Try.ntmps16
  go_upto_region 30 with (fail)
  generalize w.alloc (.cells #[.int .i64 3, .int .i64 a, .int .i64 b, kv] 33) = W at *
  have DDN := Lib.hid (fun k : Nat => two_below H1.out (show Below W.heap.size W (W.drewN k) from below_drewN (Below.refl _ _) k))
  go_quiet ((first
    | (go_at_call 19; exact Calls.quiet_of_same ((dk_fuse_off _ _ ha (DDN.out _).d).mono fun _ _ ⟨h1, h2⟩ => ⟨h1, h2.symm⟩))
    | (go_at_call 24; exact Calls.quiet_of_same ((num_any _ _).mono fun _ _ ⟨h1, h2⟩ => ⟨h1, h2.symm⟩))
    | (go_at_call 37; exact Calls.quiet_of_same ((rd_fuse_off _ _ ha (DDN.out _).r).mono fun _ _ ⟨h1, h2⟩ => ⟨h1, h2.symm⟩))))
  go_wp2
  go_ret
  exact ⟨rfl, below_drewN BB.out _⟩
set_option maxRecDepth 100000 in
set_option maxHeartbeats 4000000 in
/-- a kind that is none, or a twin: nothing -/
theorem call_other (k a b : Int) (kv : Value) (w : World) (hk : k < 0 ∨ 5 < k) :
    Calls Try.prog 16 #[.pointer (some ⟨g, 0, none⟩), .pointer (some ⟨r, 0, none⟩), .agg #[.int .i64 k, .int .i64 a, .int .i64 b, kv]] w fun e w' => e = .returned (.bool true) ∧ Below w.heap.size w w' := by
  have BB := Lib.hid ((Below.refl w.heap.size w).alloc (Nat.le_refl _) (.cells #[.int .i64 k, .int .i64 a, .int .i64 b, kv] 33))
  have cA : (w.alloc (.cells #[.int .i64 k, .int .i64 a, .int .i64 b, kv] 33)).cell? ⟨w.heap.size, 0, none⟩ = some (.int .i64 k) := lies_cell (lies_new w 33 _) 0
  have t0 : decide (k = 0) = false := decide_eq_false (by omega)
  have t1 : decide (k = 1) = false := decide_eq_false (by omega)
  have t2 : decide (k = 2) = false := decide_eq_false (by omega)
  have t3 : decide (k = 3) = false := decide_eq_false (by omega)
  have t4 : decide (k = 4) = false := decide_eq_false (by omega)
  have t5 : decide (k = 5) = false := decide_eq_false (by omega)
  go_enter Try.func16, Try.ntmps16
  go_upto_region 1 with (fail)
  generalize w.alloc (.cells #[.int .i64 k, .int .i64 a, .int .i64 b, kv] 33) = W at *
  go_wp2
  go_ret
  exact ⟨rfl, BB.out⟩
end
end Go.Proofs.Ytibidljblkfciaa
