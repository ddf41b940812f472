/-
What is proved here: the laws' helper 'call', for a write of another length, or of a block of noughts.
What is proved here: the laws' helper 'call', for a write of another length.
What is proved here: the laws' helper 'call', whatever the call.
-/
import Derived.Test.YtibidljblkfciaaCwg
import Derived.Test.YtibidljblkfciaaOne
import Derived.Deep.QuietTactic
import Derived.BigQuiet
import Derived.Test.YtibidljblkfciaaAlo
set_option linter.unusedSimpArgs false
namespace Go.Proofs.Ytibidljblkfciaa
open Go.Word Go.RowKit
theorem and1023 (n : Int) : bits .and .i64 n 1023 = n % 1024 := by
  have h127 : (BitVec.ofInt 64 1023).toNat = 2 ^ 10 - 1 := by decide
  have key : (BitVec.ofInt 64 n &&& BitVec.ofInt 64 1023).toNat = (n % ((2 ^ 64 : Nat) : Int)).toNat % 2 ^ 10 := by
    rw [BitVec.toNat_and, BitVec.toNat_ofInt, h127, Nat.and_two_pow_sub_one_eq_mod]
  show IntKind.i64.wrap ((BitVec.ofInt 64 n &&& BitVec.ofInt 64 1023).toNat : Nat) = n % 1024
  rw [key, IntKind.wrap_i64]
  omega
section
variable {w w' : World} {g r n : Nat} {F : Bytes} {ws : List (Nat × Bytes)} {on : Bool} {lf : Int} {fp fq : Nat → Prop}
theorem len_end {X w1 w5 : World} {ws' : List (Nat × Bytes)} {on' : Bool} {lf' : Int} {fp' fq' : Nat → Prop} (hx : Two2 X g r n F ws on lf fp fq) (bx : Below w.heap.size w X) (hd : DK w1 g n F ws' on' lf' fp') (hk : Keeps fp X w1) (s1 : Sub X fp fp')
    (hr : RD w5 r n F ws' on' lf' fq') (hk2 : Keeps fq w1 w5) (s2 : Sub w1 fq fq') : (∃ fp' fq', Sub w fp fp' ∧ Sub w fq fq' ∧ Two2 w5 g r n F ws' on' lf' fp' fq') ∧ Keeps (fun i => fp i ∨ fq i) w w5 := by
  have ap1 : Apart fp' fq := apart_sub hx.apart s1 (fun i hi => rd_all hx.r i hi)
  have ap2 : Apart fp' fq' := apart_symm (apart_sub (apart_symm ap1) s2 (fun i hi => dk_all hd i hi))
  exact ⟨⟨fp', fq', fun i h => (s1 i h).imp id (fun h2 => Nat.le_trans bx.size h2), fun i h => (s2 i h).imp id (fun h2 => Nat.le_trans (Nat.le_trans bx.size hk.size) h2), dk_frame hd hk2 ap1, hr, ap2⟩, keeps_pre bx (keeps_both hk hk2)⟩
set_option maxRecDepth 100000 in
set_option maxHeartbeats 4000000 in
/-- the length of a block: a block of noughts -/
theorem call_len_z {z yc lf' : Int} {ws' : List (Nat × Bytes)} {on' : Bool} (b : Int) (kv : Value) (w : World) (hm : b % 1024 = 512) (hN : ws.length ≤ 60000) (hlf : Fus on lf) (hwr : Wr on lf ws n z nil8 yc ws' on' lf') (h : Two2 w g r n F ws on lf fp fq) :
    Calls Try.prog 16 #[.pointer (some ⟨g, 0, none⟩), .pointer (some ⟨r, 0, none⟩), .agg #[.int .i64 5, .int .i64 z, .int .i64 b, kv]] w fun e w' => e = .returned (.bool true) ∧ (∃ fp' fq', Sub w fp fp' ∧ Sub w fq fq' ∧ Two2 w' g r n F ws' on' lf' fp' fq') ∧ Keeps (fun i => fp i ∨ fq i) w w' := by
  have bb := (Below.refl w.heap.size w).alloc (Nat.le_refl _) (.cells #[.int .i64 5, .int .i64 z, .int .i64 b, kv] 33)
  have H1 := Lib.hid (two_below h bb)
  have BB := Lib.hid bb
  have cA : (w.alloc (.cells #[.int .i64 5, .int .i64 z, .int .i64 b, kv] 33)).cell? ⟨w.heap.size, 1, none⟩ = some (.int .i64 z) := lies_cell (lies_new w 33 _) 1
  have cB : (w.alloc (.cells #[.int .i64 5, .int .i64 z, .int .i64 b, kv] 33)).cell? ⟨w.heap.size, 2, none⟩ = some (.int .i64 b) := lies_cell (lies_new w 33 _) 2
  have LB := Lib.hid (lies_new w 33 #[.int .i64 5, .int .i64 z, .int .i64 b, kv])
  have LFP := Lib.hid (show ∀ i, fp i → i < w.heap.size from fun i hi => dk_all h.d i hi)
  have eb := and1023 b
  rw [hm] at eb
  have hmk : ∀ W, (Instr.makeSlice 44 (.int .i64 512) (.int .i64 512)).run Try.prog W = .ok (.slice (some ⟨W.heap.size, 0, none⟩) 512 512) (W.alloc (.cells (madeCells #[.int .u8 0] 512) 5)) := fun W => made_n 512 (by omega) W
  have HWR := Lib.hid hwr
  have HLF := Lib.hid hlf
  clear h bb hm hwr hlf
  go_enter Try.func16, Try.ntmps16
  go_upto_region 37 with (fail)
  generalize w.alloc (.cells #[.int .i64 5, .int .i64 z, .int .i64 b, kv] 33) = W at *
  go_upto_region 38 with (fail)
  have b2 : Below W.heap.size W (W.alloc (.cells (madeCells #[.int .u8 0] 512) 5)) := (Below.refl _ W).alloc (Nat.le_refl _) _
  have l2 : Lies (W.alloc (.cells (madeCells #[.int .u8 0] 512) 5)) W.heap.size 5 (yRow nil8 512) := by
    have e : madeCells #[.int .u8 0] 512 = yRow nil8 512 := made_zero 512
    rw [e]
    exact lies_new W 5 _
  have hzw : w.heap.size < W.heap.size := lies_lt LB.out
  have cX : (W.alloc (.cells (madeCells #[.int .u8 0] 512) 5)).drew.cell? ⟨w.heap.size, 1, none⟩ = some (.int .i64 z) := (b2.cell (p := ⟨w.heap.size, 1, none⟩) hzw).trans cA
  have LW := Lib.hid (show Lies (W.alloc (.cells (madeCells #[.int .u8 0] 512) 5)).drew w.heap.size 33 _ from show Lies (W.alloc (.cells (madeCells #[.int .u8 0] 512) 5)) w.heap.size 33 _ from lies_below LB.out b2 hzw)
  have b3 : Below W.heap.size W (W.alloc (.cells (madeCells #[.int .u8 0] 512) 5)).drew := b2.trans (Below.drew (Below.refl _ _))
  have HX := Lib.hid (two_below H1.out b3)
  have BX := Lib.hid (up BB.out b3)
  have LX := Lib.hid (show Lies (W.alloc (.cells (madeCells #[.int .u8 0] 512) 5)).drew W.heap.size 5 (yRow nil8 512) from l2)
  have NMB := Lib.hid (show ¬ fp W.heap.size from fun hh => by have := LFP.out _ hh; omega)
  clear b2 l2 b3 cA cB eb hmk
  obtain ⟨mb, hmb⟩ : ∃ mb, W.heap.size = mb := ⟨_, rfl⟩
  rw [hmb] at LX NMB hzw ⊢
  clear hmb
  refine wp_region_any (by kernel_rfl) ?_
  change wpAny _ _ _ _ _ _ _ (World.drew (W.alloc (.cells (madeCells #[.int .u8 0] 512) 5)))
  generalize (W.alloc (.cells (madeCells #[.int .u8 0] 512) 5)).drew = X at *
  have Q1 := Lib.hid (dk_write_g ⟨mb, 0, none⟩ 512 nil8 X (by omega) HLF.out HWR.out HX.out.d (src_row LX.out) (lies_lt LX.out) NMB.out)
  have Q2 := Lib.hid (fun (w1 : World) (hk : Keeps fp X w1) => rd_write_g mb 512 nil8 w1 (by omega) HLF.out HWR.out (src_row (show Lies w1 mb 5 (yRow nil8 512) from (hk.block mb (lies_lt LX.out) NMB.out).trans LX.out)) (Nat.lt_of_lt_of_le (lies_lt LX.out) hk.size) (rd_frame HX.out.r hk (apart_symm HX.out.apart)))
  have QC := Lib.hid (fun (w1 : World) (hk : Keeps fp X w1) => show w1.cell? ⟨w.heap.size, 1, none⟩ = some (.int .i64 z) from lies_cell (show Lies w1 w.heap.size 33 _ from (hk.block _ (lies_lt LW.out) (fun hh => by have := LFP.out _ hh; omega)).trans LW.out) 1)
  have ey : (yc == yc) = true := by simp
  refine open_take 0 (some 148) (.pointer (some ⟨g, 0, none⟩)) rfl rfl (by kernel_rfl) (by kernel_rfl) (by kernel_rfl) (fun _ _ _ h => h) (Or.inl ⟨by rfl, fun _ => by kernel_rfl⟩) ?_
  refine open_take 1 (some 149) (.pointer (some ⟨w.heap.size, 1, none⟩)) rfl rfl (by kernel_rfl) (by kernel_rfl) (by kernel_rfl) (fun _ _ _ h => h) (Or.inl ⟨by rfl, fun _ => by kernel_rfl⟩) ?_
  refine open_take 3 (some 151) (.slice (some ⟨mb, 0, none⟩) 512 512) rfl rfl (by kernel_rfl) (by kernel_rfl) (by kernel_rfl) (fun _ _ _ h => h) (Or.inl ⟨by rfl, fun _ => by kernel_rfl⟩) ?_
  refine open_take 6 (some 154) (.pointer (some ⟨r, 0, none⟩)) rfl rfl (by kernel_rfl) (by kernel_rfl) (by kernel_rfl) (fun _ _ _ h => h) (Or.inl ⟨by rfl, fun _ => by kernel_rfl⟩) ?_
  refine open_take 7 (some 155) (.pointer (some ⟨w.heap.size, 1, none⟩)) rfl rfl (by kernel_rfl) (by kernel_rfl) (by kernel_rfl) (fun _ _ _ h => h) (Or.inl ⟨by rfl, fun _ => by kernel_rfl⟩) ?_
  refine open_take 9 (some 157) (.slice (some ⟨mb, 0, none⟩) 512 512) rfl rfl (by kernel_rfl) (by kernel_rfl) (by kernel_rfl) (fun _ _ _ h => h) (Or.inl ⟨by rfl, fun _ => by kernel_rfl⟩) ?_
  refine wpAny_ready (rs := [2, 8]) (by kernel_rfl) (by simp) ?_
  refine open_value (some 150) (.int .i64 z) rfl rfl rfl (by go_simp) ?_ (open_value (some 156) (.int .i64 z) rfl rfl rfl (by go_simp) ?_ AllReady.nil)
  · refine wpAny_ready (rs := [4, 8]) (by kernel_rfl) (by simp) ?_
    refine open_call (some 152) (.int .i64 yc) _ rfl rfl rfl 22 #[.pointer (some ⟨g, 0, none⟩), .int .i64 z, .slice (some ⟨mb, 0, none⟩) 512 512] (by kernel_rfl) Q1.out (fun w1 hR => ?_) (open_value (some 156) (.int .i64 z) rfl rfl rfl (by go_simp) ?_ AllReady.nil)
    · obtain ⟨⟨fp', hs1, hd⟩, hk⟩ := hR
      have HD := Lib.hid hd
      have HK := Lib.hid hk
      have HS1 := Lib.hid hs1
      have cA1 := QC.out w1 hk
      clear hd hk hs1
      refine wpAny_ready (rs := [5, 8]) (by kernel_rfl) (by simp) ?_
      refine open_call (some 153) (.int .i64 yc) (fun w2 => w1 = w2) rfl rfl rfl 24 #[.int .i64 yc] (by kernel_rfl) (num_any yc w1) (fun w2 hN => ?_) (open_value (some 156) (.int .i64 z) rfl rfl rfl (by go_simp) ?_ AllReady.nil)
      · subst hN
        refine wpAny_ready (rs := [8]) (by kernel_rfl) (by simp) ?_
        refine open_value (some 156) (.int .i64 z) rfl rfl rfl (by go_simp) ?_ AllReady.nil
        refine wpAny_ready (rs := [10]) (by kernel_rfl) (by simp) ?_
        refine open_call (some 158) (.int .i64 yc) _ rfl rfl rfl 35 #[.pointer (some ⟨r, 0, none⟩), .int .i64 z, .slice (some ⟨mb, 0, none⟩) 512 512] (by kernel_rfl) (Q2.out w1 HK.out) (fun w5 hR2 => ?_) AllReady.nil
        refine wpAny_ready (rs := [11]) (by kernel_rfl) (by simp) ?_
        refine open_value (some 159) (.bool true) rfl rfl rfl (by go_simp) ?_ AllReady.nil
        refine wpAny_ready (rs := [12]) (by kernel_rfl) (by simp) ?_
        refine open_value (some 6) (.bool true) rfl rfl rfl (by kernel_rfl) ?_ AllReady.nil
        refine wpAny_done (by kernel_rfl) ?_ _
        obtain ⟨⟨fq', hs2, hr⟩, hk2⟩ := hR2
        have HR2 := Lib.hid hr
        have HK2 := Lib.hid hk2
        have HS2 := Lib.hid hs2
        clear hr hk2 hs2
        go_wp2
        refine bodyPost_ret (v := .bool true) (by kernel_rfl) (by kernel_rfl) ⟨rfl, len_end HX.out BX.out HD.out HK.out HS1.out HR2.out HK2.out HS2.out⟩
      · refine wpAny_ready (rs := [5]) (by kernel_rfl) (by simp) ?_
        refine open_call (some 153) (.int .i64 yc) (fun w2 => w1 = w2) rfl rfl rfl 24 #[.int .i64 yc] (by kernel_rfl) (num_any yc w1) (fun w2 hN => ?_) AllReady.nil
        subst hN
        refine wpAny_ready (rs := [10]) (by kernel_rfl) (by simp) ?_
        refine open_call (some 158) (.int .i64 yc) _ rfl rfl rfl 35 #[.pointer (some ⟨r, 0, none⟩), .int .i64 z, .slice (some ⟨mb, 0, none⟩) 512 512] (by kernel_rfl) (Q2.out w1 HK.out) (fun w5 hR2 => ?_) AllReady.nil
        refine wpAny_ready (rs := [11]) (by kernel_rfl) (by simp) ?_
        refine open_value (some 159) (.bool true) rfl rfl rfl (by go_simp) ?_ AllReady.nil
        refine wpAny_ready (rs := [12]) (by kernel_rfl) (by simp) ?_
        refine open_value (some 6) (.bool true) rfl rfl rfl (by kernel_rfl) ?_ AllReady.nil
        refine wpAny_done (by kernel_rfl) ?_ _
        obtain ⟨⟨fq', hs2, hr⟩, hk2⟩ := hR2
        have HR2 := Lib.hid hr
        have HK2 := Lib.hid hk2
        have HS2 := Lib.hid hs2
        clear hr hk2 hs2
        go_wp2
        refine bodyPost_ret (v := .bool true) (by kernel_rfl) (by kernel_rfl) ⟨rfl, len_end HX.out BX.out HD.out HK.out HS1.out HR2.out HK2.out HS2.out⟩
    · refine wpAny_ready (rs := [4]) (by kernel_rfl) (by simp) ?_
      refine open_call (some 152) (.int .i64 yc) _ rfl rfl rfl 22 #[.pointer (some ⟨g, 0, none⟩), .int .i64 z, .slice (some ⟨mb, 0, none⟩) 512 512] (by kernel_rfl) Q1.out (fun w1 hR => ?_) AllReady.nil
      obtain ⟨⟨fp', hs1, hd⟩, hk⟩ := hR
      have HD := Lib.hid hd
      have HK := Lib.hid hk
      have HS1 := Lib.hid hs1
      have cA1 := QC.out w1 hk
      clear hd hk hs1
      refine wpAny_ready (rs := [5]) (by kernel_rfl) (by simp) ?_
      refine open_call (some 153) (.int .i64 yc) (fun w2 => w1 = w2) rfl rfl rfl 24 #[.int .i64 yc] (by kernel_rfl) (num_any yc w1) (fun w2 hN => ?_) AllReady.nil
      subst hN
      refine wpAny_ready (rs := [10]) (by kernel_rfl) (by simp) ?_
      refine open_call (some 158) (.int .i64 yc) _ rfl rfl rfl 35 #[.pointer (some ⟨r, 0, none⟩), .int .i64 z, .slice (some ⟨mb, 0, none⟩) 512 512] (by kernel_rfl) (Q2.out w1 HK.out) (fun w5 hR2 => ?_) AllReady.nil
      refine wpAny_ready (rs := [11]) (by kernel_rfl) (by simp) ?_
      refine open_value (some 159) (.bool true) rfl rfl rfl (by go_simp) ?_ AllReady.nil
      refine wpAny_ready (rs := [12]) (by kernel_rfl) (by simp) ?_
      refine open_value (some 6) (.bool true) rfl rfl rfl (by kernel_rfl) ?_ AllReady.nil
      refine wpAny_done (by kernel_rfl) ?_ _
      obtain ⟨⟨fq', hs2, hr⟩, hk2⟩ := hR2
      have HR2 := Lib.hid hr
      have HK2 := Lib.hid hk2
      have HS2 := Lib.hid hs2
      clear hr hk2 hs2
      go_wp2
      refine bodyPost_ret (v := .bool true) (by kernel_rfl) (by kernel_rfl) ⟨rfl, len_end HX.out BX.out HD.out HK.out HS1.out HR2.out HK2.out HS2.out⟩
  · refine wpAny_ready (rs := [2]) (by kernel_rfl) (by simp) ?_
    refine open_value (some 150) (.int .i64 z) rfl rfl rfl (by go_simp) ?_ AllReady.nil
    refine wpAny_ready (rs := [4]) (by kernel_rfl) (by simp) ?_
    refine open_call (some 152) (.int .i64 yc) _ rfl rfl rfl 22 #[.pointer (some ⟨g, 0, none⟩), .int .i64 z, .slice (some ⟨mb, 0, none⟩) 512 512] (by kernel_rfl) Q1.out (fun w1 hR => ?_) AllReady.nil
    obtain ⟨⟨fp', hs1, hd⟩, hk⟩ := hR
    have HD := Lib.hid hd
    have HK := Lib.hid hk
    have HS1 := Lib.hid hs1
    have cA1 := QC.out w1 hk
    clear hd hk hs1
    refine wpAny_ready (rs := [5]) (by kernel_rfl) (by simp) ?_
    refine open_call (some 153) (.int .i64 yc) (fun w2 => w1 = w2) rfl rfl rfl 24 #[.int .i64 yc] (by kernel_rfl) (num_any yc w1) (fun w2 hN => ?_) AllReady.nil
    subst hN
    refine wpAny_ready (rs := [10]) (by kernel_rfl) (by simp) ?_
    refine open_call (some 158) (.int .i64 yc) _ rfl rfl rfl 35 #[.pointer (some ⟨r, 0, none⟩), .int .i64 z, .slice (some ⟨mb, 0, none⟩) 512 512] (by kernel_rfl) (Q2.out w1 HK.out) (fun w5 hR2 => ?_) AllReady.nil
    refine wpAny_ready (rs := [11]) (by kernel_rfl) (by simp) ?_
    refine open_value (some 159) (.bool true) rfl rfl rfl (by go_simp) ?_ AllReady.nil
    refine wpAny_ready (rs := [12]) (by kernel_rfl) (by simp) ?_
    refine open_value (some 6) (.bool true) rfl rfl rfl (by kernel_rfl) ?_ AllReady.nil
    refine wpAny_done (by kernel_rfl) ?_ _
    obtain ⟨⟨fq', hs2, hr⟩, hk2⟩ := hR2
    have HR2 := Lib.hid hr
    have HK2 := Lib.hid hk2
    have HS2 := Lib.hid hs2
    clear hr hk2 hs2
    go_wp2
    refine bodyPost_ret (v := .bool true) (by kernel_rfl) (by kernel_rfl) ⟨rfl, len_end HX.out BX.out HD.out HK.out HS1.out HR2.out HK2.out HS2.out⟩
end
end Go.Proofs.Ytibidljblkfciaa

set_option linter.unusedSimpArgs false
namespace Go.Proofs.Ytibidljblkfciaa
open Go.Word Go.RowKit
/-- what a write of another length answers -/
def Wl (on : Bool) (n : Nat) (z y : Int) : Prop := Bars on n z y ∨ (on = true ∧ 0 ≤ z ∧ z < (n : Int) ∧ y = 1)
theorem wl_some (on : Bool) (n : Nat) (z : Int) : ∃ y, Wl on n z y := by
  cases on with
  | false => exact ⟨11, .inl (.inl ⟨rfl, rfl⟩)⟩
  | true =>
    by_cases h : z < 0 ∨ (n : Int) ≤ z
    · exact ⟨10, .inl (.inr ⟨rfl, rfl, h⟩)⟩
    · exact ⟨1, .inr ⟨rfl, by omega, by omega, rfl⟩⟩
section
variable {w w' : World} {g r n : Nat} {F : Bytes} {ws : List (Nat × Bytes)} {on : Bool} {lf : Int} {fp fq : Nat → Prop}
theorem dk_write_l {z y : Int} (A : Option Addr) (L C : Nat) (w : World) (hL : L ≠ 512) (hy : Wl on n z y) (h : DK w g n F ws on lf fp) :
    Calls Try.prog 22 #[.pointer (some ⟨g, 0, none⟩), .int .i64 z, .slice A L C] w fun e w' => e = .returned (.int .i64 y) ∧ w' = w := by
  rcases hy with hb | ⟨rfl, h1, h2, rfl⟩
  · exact (dk_write_no _ w hb h).mono fun _ _ ⟨h1, h2⟩ => ⟨h1, h2.symm⟩
  · exact (dk_write_len A L C w h1 h2 hL h).mono fun _ _ ⟨h1, h2⟩ => ⟨h1, h2.symm⟩
theorem rd_write_l {z y : Int} (A : Option Addr) (L C : Nat) (w : World) (hL : L ≠ 512) (hy : Wl on n z y) (h : RD w r n F ws on lf fp) :
    Calls Try.prog 35 #[.pointer (some ⟨r, 0, none⟩), .int .i64 z, .slice A L C] w fun e w' => e = .returned (.int .i64 y) ∧ w' = w := by
  rcases hy with hb | ⟨rfl, h1, h2, rfl⟩
  · exact (rd_write_no _ w hb h).mono fun _ _ ⟨h1, h2⟩ => ⟨h1, h2.symm⟩
  · exact (rd_write_len A L C w h1 h2 hL h).mono fun _ _ ⟨h1, h2⟩ => ⟨h1, h2.symm⟩
set_option maxRecDepth 100000 in
set_option maxHeartbeats 4000000 in
theorem call_len_no {z y : Int} (b : Int) (kv : Value) (w : World) (hm : b % 1024 ≠ 512) (hy : Wl on n z y) (h : Two2 w g r n F ws on lf fp fq) :
    Calls Try.prog 16 #[.pointer (some ⟨g, 0, none⟩), .pointer (some ⟨r, 0, none⟩), .agg #[.int .i64 5, .int .i64 z, .int .i64 b, kv]] w fun e w' => e = .returned (.bool true) ∧ Below w.heap.size w w' := by
  have bb := (Below.refl w.heap.size w).alloc (Nat.le_refl _) (.cells #[.int .i64 5, .int .i64 z, .int .i64 b, kv] 33)
  have H1 := Lib.hid (two_below h bb)
  have BB := Lib.hid bb
  have cA : (w.alloc (.cells #[.int .i64 5, .int .i64 z, .int .i64 b, kv] 33)).cell? ⟨w.heap.size, 1, none⟩ = some (.int .i64 z) := lies_cell (lies_new w 33 _) 1
  have cB : (w.alloc (.cells #[.int .i64 5, .int .i64 z, .int .i64 b, kv] 33)).cell? ⟨w.heap.size, 2, none⟩ = some (.int .i64 b) := lies_cell (lies_new w 33 _) 2
  have LB := Lib.hid (lies_new w 33 #[.int .i64 5, .int .i64 z, .int .i64 b, kv])
  obtain ⟨m, hmm⟩ : ∃ m : Nat, b % 1024 = (m : Int) := ⟨(b % 1024).toNat, by omega⟩
  have HM := Lib.hid (show m ≠ 512 by omega)
  have HY := Lib.hid hy
  have eb := and1023 b
  rw [hmm] at eb
  have hmk : ∀ W, (Instr.makeSlice 44 (.int .i64 (m : Int)) (.int .i64 (m : Int))).run Try.prog W = .ok (.slice (some ⟨W.heap.size, 0, none⟩) m m) (W.alloc (.cells (madeCells #[.int .u8 0] m) 5)) := fun W => made_n m (by omega) W
  clear h bb hmm hm hy
  go_enter Try.func16, Try.ntmps16
  go_upto_region 37 with (fail)
  generalize w.alloc (.cells #[.int .i64 5, .int .i64 z, .int .i64 b, kv] 33) = W at *
  go_upto_region 38 with (fail)
  have b2 : Below W.heap.size W (W.alloc (.cells (madeCells #[.int .u8 0] m) 5)) := (Below.refl _ W).alloc (Nat.le_refl _) _
  have hzw : w.heap.size < W.heap.size := lies_lt LB.out
  have cX : (W.alloc (.cells (madeCells #[.int .u8 0] m) 5)).cell? ⟨w.heap.size, 1, none⟩ = some (.int .i64 z) := (b2.cell (p := ⟨w.heap.size, 1, none⟩) hzw).trans cA
  have HX := Lib.hid (two_below H1.out b2)
  have BX := Lib.hid (up BB.out b2)
  clear b2 cA cB eb hmk
  generalize W.alloc (.cells (madeCells #[.int .u8 0] m) 5) = X at *
  have DDN := Lib.hid (fun k : Nat => two_below HX.out (show Below X.heap.size X (X.drewN k) from below_drewN (Below.refl _ _) k))
  go_quiet ((first
    | (go_at_call 22; exact Calls.quiet_of_same (dk_write_l _ _ _ _ HM.out HY.out (DDN.out _).d))
    | (go_at_call 24; exact Calls.quiet_of_same ((num_any _ _).mono fun _ _ ⟨h1, h2⟩ => ⟨h1, h2.symm⟩))
    | (go_at_call 35; exact Calls.quiet_of_same (rd_write_l _ _ _ _ HM.out HY.out (DDN.out _).r))))
  go_wp2
  go_ret
  exact ⟨rfl, below_drewN BX.out _⟩
end
end Go.Proofs.Ytibidljblkfciaa

set_option linter.unusedSimpArgs false
namespace Go.Proofs.Ytibidljblkfciaa
open Go.Word Go.RowKit
section
variable {w w' : World} {g r n : Nat} {F : Bytes} {ws : List (Nat × Bytes)} {on : Bool} {lf : Int} {fp fq : Nat → Prop}
/-- what a call leaves: both disks hold the same again -/
def Did (w w' : World) (g r n m : Nat) (fp fq : Nat → Prop) : Prop :=
  (∃ F' ws' on' lf' fp' fq', Sub w fp fp' ∧ Sub w fq fq' ∧ Fus on' lf' ∧ ws'.length ≤ m ∧ Two2 w' g r n F' ws' on' lf' fp' fq') ∧ Keeps (fun i => fp i ∨ fq i) w w'
theorem did_same {m : Nat} (hf : Fus on lf) (hm : ws.length ≤ m) (h : Two2 w g r n F ws on lf fp fq) (hb : Below w.heap.size w w') : Did w w' g r n m fp fq :=
  ⟨⟨F, ws, on, lf, fp, fq, fun _ h => .inl h, fun _ h => .inl h, hf, hm, two_below h hb⟩, keeps_below hb⟩
theorem call_any (k a b : Int) (KA : Option Addr) (kl kc : Nat) (ks : Nat → Int) (w : World) (hN : ws.length ≤ 60000) (hkl : kl ≤ 17592186043904) (hO : Outs w fp fq KA kl ks) (hcap : KA = none → kl = 0 ∧ kc = 0) (ha : a ≤ 9223372036854775807) (hf : Fus on lf) (h : Two2 w g r n F ws on lf fp fq) :
    Calls Try.prog 16 #[.pointer (some ⟨g, 0, none⟩), .pointer (some ⟨r, 0, none⟩), .agg #[.int .i64 k, .int .i64 a, .int .i64 b, .slice KA kl kc]] w fun e w' => e = .returned (.bool true) ∧ Did w w' g r n (ws.length + 1) fp fq := by
  by_cases hk : k < 0 ∨ 5 < k
  · exact (call_other k a b _ w hk).mono fun e w' ⟨he, hb⟩ => ⟨he, did_same hf (by omega) h hb⟩
  obtain rfl | rfl | rfl | rfl | rfl | rfl : k = 0 ∨ k = 1 ∨ k = 2 ∨ k = 3 ∨ k = 4 ∨ k = 5 := by omega
  · by_cases hy : ∃ y, Bars on n a y
    · obtain ⟨y, hy⟩ := hy
      exact (call_read_no a y b _ w hy h).mono fun e w' ⟨he, hb⟩ => ⟨he, did_same hf (by omega) h hb⟩
    · cases on with
      | false => exact absurd ⟨11, .inl ⟨rfl, rfl⟩⟩ hy
      | true =>
        have h1 : ¬ (a < 0 ∨ (n : Int) ≤ a) := fun h => hy ⟨10, .inr ⟨rfl, rfl, h⟩⟩
        exact (call_read a a.toNat (by omega) b _ w (by omega) (by omega) h).mono fun e w' ⟨he, hb⟩ => ⟨he, did_same hf (by omega) h hb⟩
  · obtain ⟨y, ws', on', lf', hwr, hf', hl⟩ := wr_some on lf ws n a (blk b) hf
    exact (call_write_g b _ w hN hf hwr h).mono fun e w' ⟨he, ⟨fp', fq', s1, s2, ht⟩, hk⟩ => ⟨he, ⟨F, ws', on', lf', fp', fq', s1, s2, hf', hl, ht⟩, hk⟩
  · cases on with
    | false => exact (call_flush_off a b _ w h).mono fun e w' ⟨he, hb⟩ => ⟨he, did_same hf (by omega) h hb⟩
    | true => exact (call_flush_on a b _ w (by omega) hf.1 hf.2.1 (hf.2.2 rfl) h).mono fun e w' ⟨he, ht, hk⟩ => ⟨he, ⟨_, [], _, _, fp, fq, fun _ h => .inl h, fun _ h => .inl h, fus_step hf, by simp, ht⟩, hk⟩
  · by_cases h1 : a < -1
    · exact (call_fuse_low a b _ w h1).mono fun e w' ⟨he, hb⟩ => ⟨he, did_same hf (by omega) h hb⟩
    · cases on with
      | false => exact (call_fuse_off a b _ w h1 h).mono fun e w' ⟨he, hb⟩ => ⟨he, did_same hf (by omega) h hb⟩
      | true => exact (call_fuse_on a b _ w (by omega) h).mono fun e w' ⟨he, ht, hk⟩ => ⟨he, ⟨_, ws, _, _, fp, fq, fun _ h => .inl h, fun _ h => .inl h, ⟨by omega, ha, fun h => of_decide_eq_true h⟩, by omega, ht⟩, hk⟩
  · exact (call_crash a b KA kl kc ks w (by omega) hkl hO hcap h).mono fun e w' ⟨he, ht, hk⟩ => ⟨he, ⟨_, [], _, _, fp, fq, fun _ h => .inl h, fun _ h => .inl h, ⟨by decide, by decide, fun _ => by decide⟩, by simp, ht⟩, hk⟩
  · by_cases hm : b % 1024 = 512
    · obtain ⟨y, ws', on', lf', hwr, hf', hl⟩ := wr_some on lf ws n a nil8 hf
      exact (call_len_z b _ w hm hN hf hwr h).mono fun e w' ⟨he, ⟨fp', fq', s1, s2, ht⟩, hk⟩ => ⟨he, ⟨F, ws', on', lf', fp', fq', s1, s2, hf', hl, ht⟩, hk⟩
    · obtain ⟨y, hy⟩ := wl_some on n a
      exact (call_len_no b _ w hm hy h).mono fun e w' ⟨he, hb⟩ => ⟨he, did_same hf (by omega) h hb⟩
end
end Go.Proofs.Ytibidljblkfciaa
