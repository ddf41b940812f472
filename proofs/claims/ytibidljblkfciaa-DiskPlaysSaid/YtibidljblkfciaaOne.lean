/-
What is proved here: of writes to one block the last one that is kept is there behind a crash: the law DiskOne's walk.
-/
import Derived.Test.YtibidljblkfciaaCrn
import Derived.Test.YtibidljblkfciaaFul
import Derived.Test.YtibidljblkfciaaFra
set_option linter.unusedSimpArgs false
namespace Go.Proofs.Ytibidljblkfciaa
open Go.Word Go.RowKit

/-- what is held back and what lies there fit: taken back, it is what was fast -/
inductive Was (F : Nat → BitVec 8) : List Ent → (Nat → BitVec 8) → Prop
  | nil : Was F [] F
  | snoc {hs : List Ent} {f : Nat → BitVec 8} (e : Ent) (a : Nat) (q : Nat → BitVec 8) : Was F hs f → e.at_ = a → e.da = q → e.dc = (fun j => f (512 * a + j)) → Was F (hs ++ [e]) (put f (512 * a) q)
theorem put_back (f q : Nat → BitVec 8) (p : Nat) : put (put f p q) p (fun j => f (p + j)) = f := by
  funext j
  unfold put
  by_cases h : p ≤ j ∧ j < p + 512
  · rw [if_pos h]; show f (p + (j - p)) = f j; congr 1; omega
  · rw [if_neg h, if_neg h]
theorem was_undo {F : Nat → BitVec 8} {hs : List Ent} {f : Nat → BitVec 8} (h : Was F hs f) : undo hs f = F := by
  induction h with
  | nil => rfl
  | @snoc hs f e a q _ h1 h2 h3 ih =>
    unfold undo at ih ⊢
    rw [List.foldr_append]
    simp only [List.foldr_cons, List.foldr_nil]
    rw [h1, h3, put_back]
    exact ih
/-- the last that is kept, counted from 1 -/
def lastK (kp : Nat → Bool) : Nat → Nat
  | 0 => 0
  | i + 1 => if kp i then i + 1 else lastK kp i
theorem lastK_le (kp : Nat → Bool) : ∀ n, lastK kp n ≤ n
  | 0 => Nat.le_refl _
  | n + 1 => by
    unfold lastK
    split
    · exact Nat.le_refl _
    · have := lastK_le kp n; omega
theorem lastK_stop (kl : Nat) (ks : Nat → Int) (n : Nat) : ∀ m, n ≤ m → kl ≤ n → lastK (keeps kl ks) m = lastK (keeps kl ks) n := by
  intro m hm hk
  induction m with
  | zero => obtain rfl : n = 0 := by omega
            rfl
  | succ m ih =>
    by_cases e : n = m + 1
    · rw [e]
    · rw [← ih (by omega)]
      show (if keeps kl ks m then m + 1 else lastK (keeps kl ks) m) = _
      rw [if_neg (by unfold keeps; simp; omega)]
theorem kept_one (kp : Nat → Bool) (f : Nat → BitVec 8) (j : Nat) (hj : j < 512) : ∀ (n : Nat) (hs : List Ent), hs.length = n → (∀ k (h : k < hs.length), hs[k].at_ = 2 ∧ hs[k].da = blk ((k : Int) + 1)) →
    kept kp 0 hs f (512 * 2 + j) = if lastK kp n = 0 then f (512 * 2 + j) else blk (lastK kp n : Int) j := by
  intro n
  induction n with
  | zero =>
    intro hs h0 _
    obtain rfl := List.length_eq_zero_iff.1 h0
    simp [kept, lastK]
  | succ n ih =>
    intro hs hl hh
    obtain ⟨r, e, rfl⟩ : ∃ r e, hs = r ++ [e] := by
      rcases List.eq_nil_or_concat hs with rfl | ⟨r, e, rfl⟩
      · cases hl
      · exact ⟨r, e, by simp⟩
    have hr : r.length = n := by simp at hl; exact hl
    have he := hh n (by rw [hl]; omega)
    rw [List.getElem_append_right (by omega)] at he
    simp only [hr, Nat.sub_self, List.getElem_cons_zero] at he
    have h1 := ih r hr (fun k hk => by have := hh k (by rw [hl]; omega); rw [List.getElem_append_left hk] at this; exact this)
    rw [kept_snoc, Nat.zero_add, hr]
    by_cases hk : kp n = true
    · rw [if_pos hk, he.1, he.2, put_same _ _ _ j hj]
      have e : lastK kp (n + 1) = n + 1 := by unfold lastK; rw [if_pos hk]
      rw [e, if_neg (by omega)]
      rfl
    · rw [if_neg hk, h1]
      have e : lastK kp (n + 1) = lastK kp n := by conv => lhs; unfold lastK
                                                   rw [if_neg hk]
      rw [e]

set_option maxRecDepth 100000 in
set_option maxHeartbeats 4000000 in
theorem ones_any (A : Option Addr) (kl kc : Nat) (ks : Nat → Int) (z : Int) (w : World) (hkc : kl ≤ kc) (hm : kc ≤ maxLen) (hks : Nums w A kl ks) :
    Calls Try.prog 8 #[.slice A kl kc, .int .i64 z] w fun e w' => e = .returned (.bool true) ∧ Below w.heap.size w w' := by
  have hkl : kl ≤ 9223372036854775807 := by unfold maxLen at hm; omega
  have HM := Lib.hid hm
  have HKS := Lib.hid hks
  clear hm hks
  by_cases h1 : z < 0
  · have t1 : decide (z < 0) = true := decide_eq_true h1
    go_enter Try.func8, Try.ntmps8
    go_wp2_with (go_at_call 11; (with_reducible refine (alive_any _).mono ?_); rintro e w1 ⟨rfl, hb⟩; have H1 := Lib.hid hb; clear hb)
    go_ret
    exact ⟨rfl, H1.out⟩
  have t1 : decide (z < 0) = false := decide_eq_false h1
  by_cases h2 : 40 < z
  · have t2 : decide (40 < z) = true := decide_eq_true h2
    go_enter Try.func8, Try.ntmps8
    go_wp2_with (go_at_call 11; (with_reducible refine (alive_any _).mono ?_); rintro e w1 ⟨rfl, hb⟩; have H1 := Lib.hid hb; clear hb)
    go_ret
    exact ⟨rfl, H1.out⟩
  have t2 : decide (40 < z) = false := decide_eq_false h2
  obtain ⟨n, rfl⟩ : ∃ n : Nat, z = (n : Int) := ⟨z.toNat, by omega⟩
  have hn : n ≤ 40 := by omega
  have t2' : decide ((40 : Int) < (n : Int)) = false := t2
  by_cases h3 : 80 < kl
  · have t3 : decide (80 < kl) = true := decide_eq_true h3
    have t3' : decide ((80 : Int) < (kl : Int)) = true := decide_eq_true (by omega)
    go_enter Try.func8, Try.ntmps8
    go_wp2_with (go_at_call 11; (with_reducible refine (alive_any _).mono ?_); rintro e w1 ⟨rfl, hb⟩; have H1 := Lib.hid hb; clear hb)
    go_ret
    exact ⟨rfl, H1.out⟩
  have t3 : decide (80 < kl) = false := decide_eq_false h3
  have t3' : decide ((80 : Int) < (kl : Int)) = false := decide_eq_false (by omega)
  clear h1 h2
  have N3 := Lib.hid (fun W : World => new_z 6 6 rfl W (by decide) (by decide))
  go_enter Try.func8, Try.ntmps8
  go_upto_region 5 with (first
    | (go_at_call 11; (with_reducible refine (alive_any _).mono ?_); rintro e w1 ⟨rfl, hb⟩; have H1 := Lib.hid hb; clear hb)
    | (go_at_call 18; (with_reducible refine (N3.out _).mono ?_); rintro e w2 ⟨B, g, rfl, hB, hd, hb⟩; have HB := Lib.hid hB; have HD := Lib.hid hd; have H2 := Lib.hid hb; clear hB hd hb))
  have hBw : w.heap.size ≤ B := by have := HB.out; have := H1.out.size; omega
  have hBm : w.heap.size ≤ min B g := by have := HD.out.ord; omega
  have b2 := Lib.hid (up H1.out H2.out)
  clear t1 t2 t2' t3 t3' H1 H2 HB
  have HW0 := Lib.hid (show Was (fun _ => 0) ([] : List Ent) (fun _ => 0) from Was.nil)
  go_wp2
  go_loopw [8] (fun v wr => ∃ (i : Nat) (f : Nat → BitVec 8) (hv : Value) (hs : List Ent), i ≤ n ∧ v = .int .i64 (i : Int) ∧ hs.length = i ∧ Was (fun _ => 0) hs f ∧ (∀ k (h : k < hs.length), hs[k].at_ = 2 ∧ hs[k].da = blk ((k : Int) + 1)) ∧ Dsk wr g B (g + 1) 6 (512 * 6) f hv hs true (-1) ∧ Below w.heap.size w wr) (fun v _ => n - (intOf v).toNat)
  case atStart => exact ⟨0, _, _, [], by omega, rfl, rfl, HW0.out, fun k h => absurd h (Nat.not_lt_zero _), HD.out, b2.out⟩
  case round =>
    clear HD b2 HW0
    obtain ⟨i, f, hv, hs, hi, rfl, hlen, hwas, hall, hd, hb⟩ := hrel
    have HD := Lib.hid hd
    have HB := Lib.hid hb
    have HL := Lib.hid hlen
    have HWA := Lib.hid hwas
    have HA := Lib.hid hall
    clear hd hb hlen hwas hall
    by_cases hlt : i < n
    · have li : (i : Int) < (n : Int) := by omega
      go_wp2_with (first
        | (go_at_call 23; (with_reducible refine (blk_any _ _).mono ?_); rintro e w7 ⟨r, rfl, hr, hl, hb⟩; have HR := Lib.hid hr; have HLr := Lib.hid hl; have H7 := Lib.hid hb; clear hr hl hb)
        | (go_at_call 22; (refine (write_zb _ 2 rfl ⟨r, 0, none⟩ 512 (blk ((i : Int) + 1)) _ (by decide) (by rw [HL.out]; omega) (by omega) (by omega) (dsk_below HD.out H7.out) (src_row HLr.out) (lies_lt HLr.out) (show r ≠ g by have h1 := HR.out; have h2 := lies_lt HD.out.self; omega) (own_type (dsk_below HD.out H7.out).held HLr.out (by decide))).mono ?_); rintro e w8 ⟨rfl, hv', e', ha', hda', hdc', hd, hb, _⟩; have HE1 := Lib.hid ha'; have HE2 := Lib.hid hda'; have HE3 := Lib.hid hdc'; have D8 := Lib.hid hd; have H8 := Lib.hid hb; clear hd hb ha' hda' hdc'))
      have NW := Was.snoc e' 2 (blk ((i : Int) + 1)) HWA.out HE1.out HE2.out HE3.out
      have NA : ∀ k (h : k < (hs ++ [e']).length), (hs ++ [e'])[k].at_ = 2 ∧ (hs ++ [e'])[k].da = blk ((k : Int) + 1) := fun k h => by
        by_cases hk : k < hs.length
        · rw [List.getElem_append_left hk]; exact HA.out k hk
        · have hke : k = i := by have := HL.out; simp at h; omega
          rw [List.getElem_append_right (by omega)]
          have e0 : k - hs.length = 0 := by have := HL.out; omega
          simp only [e0, List.getElem_cons_zero]
          rw [hke]
          exact ⟨HE1.out, HE2.out⟩
      have NN := Lib.hid NW
      have NB := Lib.hid NA
      clear NW NA
      go_roundw
      case rel => exact ⟨i + 1, _, hv', hs ++ [e'], by omega, by go_num, by rw [List.length_append, HL.out]; rfl, NN.out, NB.out, D8.out, (up HB.out H7.out).trans (H8.out.mono hBm)⟩
      case measure => first | (simp [intOf]; done) | (simp [intOf]; omega)
    · obtain rfl : i = n := by omega
      have li : ¬ (i : Int) < (i : Int) := by omega
      clear hlt
      go_wp2
      go_loopw [9, 10] (fun v9 v10 wx => ∃ j : Nat, j ≤ i ∧ v9 = .int .i64 (lastK (keeps kl ks) j : Int) ∧ v10 = .int .i64 (j : Int) ∧ wr = wx) (fun _ v10 _ => i - (intOf v10).toNat)
      case atStart => exact ⟨0, Nat.zero_le _, rfl, rfl, rfl⟩
      case round =>
        obtain ⟨j, hj, rfl, rfl, rfl⟩ := hrel
        have hlj := lastK_le (keeps kl ks) j
        by_cases hgo : j < i ∧ j < kl
        · obtain ⟨g1, g2⟩ := hgo
          have li : (j : Int) < (i : Int) := by omega
          have lk : decide (j < kl) = true := decide_eq_true g2
          have lk' : (j : Int) < (kl : Int) := by omega
          obtain ⟨b, o, eA, hbl, hc0, hz1, hz2⟩ := HKS.out j g2
          subst eA
          have hc : wr.cell? ⟨b, o + j, none⟩ = some (.int .i64 (ks j)) := (HB.out.cell (p := ⟨b, o + j, none⟩) hbl).trans hc0
          clear hc0
          by_cases hk : 0 < ks j
          · have tk : decide (0 < ks j) = true := decide_eq_true hk
            have HX := Lib.hid (show lastK (keeps kl ks) (j + 1) = j + 1 by show (if keeps kl ks j then j + 1 else _) = _; rw [if_pos (by unfold keeps; simp [g2, hk])])
            go_wp2
            go_roundw
            case rel => exact ⟨j + 1, by omega, by rw [HX.out]; go_num, by go_num, trivial⟩
            case measure => first | (simp [intOf]; done) | (simp [intOf]; omega)
          · have tk : decide (0 < ks j) = false := decide_eq_false hk
            have HX := Lib.hid (show lastK (keeps kl ks) (j + 1) = lastK (keeps kl ks) j by show (if keeps kl ks j then j + 1 else _) = _; rw [if_neg (by unfold keeps; simp [hk])])
            go_wp2
            go_roundw
            case rel => exact ⟨j + 1, by omega, by rw [HX.out], by go_num, trivial⟩
            case measure => first | (simp [intOf]; done) | (simp [intOf]; omega)
        · have hlast : lastK (keeps kl ks) j = lastK (keeps kl ks) i := by
            by_cases e : j = i
            · rw [e]
            · exact (lastK_stop kl ks j i hj (by omega)).symm
          have hone := fun jj hjj => kept_one (keeps kl ks) (undo hs f) jj hjj i hs HL.out HA.out
          obtain ⟨m, hm⟩ : ∃ m, lastK (keeps kl ks) i = m := ⟨_, rfl⟩
          rw [hm] at hlast hone
          rw [hlast] at hlj ⊢
          rw [was_undo HWA.out, ← (show crashed kl ks hs f = kept (keeps kl ks) 0 hs (fun _ => 0) by unfold crashed; rw [was_undo HWA.out])] at hone
          have HO := Lib.hid hone
          clear hone hlast hm
          have CK := Lib.hid (crash_k wr (by rw [HL.out]; omega) A kl kc ks (nums_ints HKS.out HB.out hBw) HD.out)
          by_cases hlt : j < i
          · have li : (j : Int) < (i : Int) := by omega
            have lk : decide (j < kl) = false := decide_eq_false (by omega)
            have lk' : ¬ (j : Int) < (kl : Int) := by omega
            clear hgo
            go_upto_region 16 with (go_at_call 26; (with_reducible refine CK.out.mono ?_); rintro e w4 ⟨rfl, hd, htw⟩; have D4 := Lib.hid hd; have T4 := Lib.hid htw; clear hd htw)
            have H4 := Lib.hid (show Below w.heap.size wr w4 from ⟨T4.out.os, T4.out.tape, T4.out.output, T4.out.size, fun k hk => T4.out.block k (by have := HB.out.size; omega) (by have := HD.out.ord; omega) (by omega)⟩)
            have B4 := Lib.hid (HB.out.trans H4.out)
            clear T4 H4 CK HKS HWA HA
            go_upto_region 17 with (go_at_call 21; (with_reducible refine (read_z 2 2 rfl _ (by decide) D4.out).mono ?_); rintro e w5 ⟨r5, rfl, hr, hl, hb⟩; have R5 := Lib.hid hr; have L5 := Lib.hid hl; have H5 := Lib.hid hb; clear hr hl hb)
            have B5 := Lib.hid (up B4.out H5.out)
            clear H5 B4 D4 HD HB
            have hmk : ∀ W, (Instr.makeSlice 44 (.int .i64 512) (.int .i64 512)).run Try.prog W = .ok (.slice (some ⟨W.heap.size, 0, none⟩) 512 512) (W.alloc (.cells (madeCells #[.int .u8 0] 512) 5)) := fun W => made_n 512 (by omega) W
            by_cases hm0 : m = 0
            · subst hm0
              have l6 := lies_new w5 5 (madeCells #[.int .u8 0] 512)
              have L6 := Lib.hid (show Lies (w5.alloc (.cells (madeCells #[.int .u8 0] 512) 5)) w5.heap.size 5 (yRow (fun _ => 0) 512) by rw [← made_zero]; exact l6)
              have C5 := run_text ⟨r5, 0, none⟩ 512 512 _ _ (src_row (lies_alloc L5.out (.cells (madeCells #[.int .u8 0] 512) 5)))
              have C6 := run_text ⟨w5.heap.size, 0, none⟩ 512 512 _ _ (src_row L6.out)
              have e : text8 (fun j => crashed kl ks hs f (512 * 2 + j)) 512 = text8 (fun _ => 0) 512 := text_congr (fun j hj => by have := HO.out j hj; rw [if_pos rfl] at this; exact this)
              rw [e] at C5
              have BF := Lib.hid (B5.out.alloc (by exact B5.out.size) (.cells (madeCells #[.int .u8 0] 512) 5))
              generalize text8 (fun _ => 0) 512 = T at C5 C6
              clear l6 L6 e HO
              go_wp2_with (go_at_call 24; (with_reducible refine (num_any _ _).mono ?_); rintro e w' ⟨rfl, rfl⟩)
              go_ret
              exact ⟨rfl, BF.out⟩
            · have t5 : decide ((0 : Int) < (m : Int)) = true := decide_eq_true (by omega)
              have t5' : 0 < m := by omega
              clear hm0
              go_upto_region 20 with (go_at_call 23; (with_reducible refine (blk_any _ _).mono ?_); rintro e w7 ⟨r7, rfl, hr, hl, hb⟩; have R7 := Lib.hid hr; have L7 := Lib.hid hl; have H7 := Lib.hid hb; clear hr hl hb)
              have C5 := run_text ⟨r5, 0, none⟩ 512 512 _ w7 (src_row (lies_below (lies_alloc L5.out (.cells (madeCells #[.int .u8 0] 512) 5)) H7.out (by have := lies_lt L5.out; simp; omega)))
              have C6 := run_text ⟨r7, 0, none⟩ 512 512 _ w7 (src_row L7.out)
              have e : text8 (fun j => crashed kl ks hs f (512 * 2 + j)) 512 = text8 (blk (m : Int)) 512 := text_congr (fun j hj => by have := HO.out j hj; rw [if_neg (by omega)] at this; exact this)
              rw [e] at C5
              have BF := Lib.hid (up (B5.out.alloc (by exact B5.out.size) (.cells (madeCells #[.int .u8 0] 512) 5)) H7.out)
              generalize text8 (blk (m : Int)) 512 = T at C5 C6
              clear e HO
              go_wp2_with (go_at_call 24; (with_reducible refine (num_any _ _).mono ?_); rintro e w' ⟨rfl, rfl⟩)
              go_ret
              exact ⟨rfl, BF.out⟩
          · have li : ¬ (j : Int) < (i : Int) := by omega
            clear hgo
            go_upto_region 16 with (go_at_call 26; (with_reducible refine CK.out.mono ?_); rintro e w4 ⟨rfl, hd, htw⟩; have D4 := Lib.hid hd; have T4 := Lib.hid htw; clear hd htw)
            have H4 := Lib.hid (show Below w.heap.size wr w4 from ⟨T4.out.os, T4.out.tape, T4.out.output, T4.out.size, fun k hk => T4.out.block k (by have := HB.out.size; omega) (by have := HD.out.ord; omega) (by omega)⟩)
            have B4 := Lib.hid (HB.out.trans H4.out)
            clear T4 H4 CK HKS HWA HA
            go_upto_region 17 with (go_at_call 21; (with_reducible refine (read_z 2 2 rfl _ (by decide) D4.out).mono ?_); rintro e w5 ⟨r5, rfl, hr, hl, hb⟩; have R5 := Lib.hid hr; have L5 := Lib.hid hl; have H5 := Lib.hid hb; clear hr hl hb)
            have B5 := Lib.hid (up B4.out H5.out)
            clear H5 B4 D4 HD HB
            have hmk : ∀ W, (Instr.makeSlice 44 (.int .i64 512) (.int .i64 512)).run Try.prog W = .ok (.slice (some ⟨W.heap.size, 0, none⟩) 512 512) (W.alloc (.cells (madeCells #[.int .u8 0] 512) 5)) := fun W => made_n 512 (by omega) W
            by_cases hm0 : m = 0
            · subst hm0
              have l6 := lies_new w5 5 (madeCells #[.int .u8 0] 512)
              have L6 := Lib.hid (show Lies (w5.alloc (.cells (madeCells #[.int .u8 0] 512) 5)) w5.heap.size 5 (yRow (fun _ => 0) 512) by rw [← made_zero]; exact l6)
              have C5 := run_text ⟨r5, 0, none⟩ 512 512 _ _ (src_row (lies_alloc L5.out (.cells (madeCells #[.int .u8 0] 512) 5)))
              have C6 := run_text ⟨w5.heap.size, 0, none⟩ 512 512 _ _ (src_row L6.out)
              have e : text8 (fun j => crashed kl ks hs f (512 * 2 + j)) 512 = text8 (fun _ => 0) 512 := text_congr (fun j hj => by have := HO.out j hj; rw [if_pos rfl] at this; exact this)
              rw [e] at C5
              have BF := Lib.hid (B5.out.alloc (by exact B5.out.size) (.cells (madeCells #[.int .u8 0] 512) 5))
              generalize text8 (fun _ => 0) 512 = T at C5 C6
              clear l6 L6 e HO
              go_wp2_with (go_at_call 24; (with_reducible refine (num_any _ _).mono ?_); rintro e w' ⟨rfl, rfl⟩)
              go_ret
              exact ⟨rfl, BF.out⟩
            · have t5 : decide ((0 : Int) < (m : Int)) = true := decide_eq_true (by omega)
              have t5' : 0 < m := by omega
              clear hm0
              go_upto_region 20 with (go_at_call 23; (with_reducible refine (blk_any _ _).mono ?_); rintro e w7 ⟨r7, rfl, hr, hl, hb⟩; have R7 := Lib.hid hr; have L7 := Lib.hid hl; have H7 := Lib.hid hb; clear hr hl hb)
              have C5 := run_text ⟨r5, 0, none⟩ 512 512 _ w7 (src_row (lies_below (lies_alloc L5.out (.cells (madeCells #[.int .u8 0] 512) 5)) H7.out (by have := lies_lt L5.out; simp; omega)))
              have C6 := run_text ⟨r7, 0, none⟩ 512 512 _ w7 (src_row L7.out)
              have e : text8 (fun j => crashed kl ks hs f (512 * 2 + j)) 512 = text8 (blk (m : Int)) 512 := text_congr (fun j hj => by have := HO.out j hj; rw [if_neg (by omega)] at this; exact this)
              rw [e] at C5
              have BF := Lib.hid (up (B5.out.alloc (by exact B5.out.size) (.cells (madeCells #[.int .u8 0] 512) 5)) H7.out)
              generalize text8 (blk (m : Int)) 512 = T at C5 C6
              clear e HO
              go_wp2_with (go_at_call 24; (with_reducible refine (num_any _ _).mono ?_); rintro e w' ⟨rfl, rfl⟩)
              go_ret
              exact ⟨rfl, BF.out⟩
end Go.Proofs.Ytibidljblkfciaa
