/-
What is proved here: path.Valid, by a contract: it answers whether a text is a path.
-/
import Derived.Test.YtdnagkgblmcojaaStr
import Derived.Test.YtdnagkgblmcojaaJumps
import Derived.WalkMore
import Derived.LoopTactic
import Derived.Laws.RangeString
import Derived.Laws.RangeAny
namespace Go.Proofs.Ytdnagkgblmcojaa
open Go.Pth Go.RowKit Go.Word

theorem size_st (l : Bt) : (ByteArray.mk l.toArray).size = l.length := by simp [ByteArray.size]
theorem get_st (l : Bt) (i : Nat) (h : i < l.length) : (ByteArray.mk l.toArray)[i]'(by rw [size_st]; exact h) = l[i] := by
  show l.toArray[i]'_ = _
  simp
theorem run_sub (l : Bt) (i j : Nat) (h1 : i ≤ j) (h2 : j ≤ l.length) (w : World) : (Instr.slice 9 (St l) (some (.int .i64 i)) (some (.int .i64 j)) none).run Try.prog w = .ok (St ((l.drop i).take (j - i))) w := by
  unfold St
  rw [run_slice_string w 9 _ .i64 .i64 i j Try.underlying9 (by omega) (by omega) (by rw [size_st]; omega), Int.toNat_natCast, Int.toNat_natCast, ByteArray.extract_mk]
theorem run_from (l : Bt) (i : Nat) (h1 : i ≤ l.length) (w : World) : (Instr.slice 9 (St l) (some (.int .i64 i)) none none).run Try.prog w = .ok (St (l.drop i)) w := by
  unfold St
  rw [run_slice_string_from_if w 9 _ .i64 i Try.underlying9, if_pos (by rw [size_st]; omega), Int.toNat_natCast, size_st, ByteArray.extract_mk]
  congr 4
  rw [List.take_of_length_le (by simp)]
theorem run_to (l : Bt) (i : Nat) (h1 : i ≤ l.length) (w : World) : (Instr.slice 9 (St l) none (some (.int .i64 i)) none).run Try.prog w = .ok (St (l.take i)) w := by
  unfold St
  rw [run_slice_string_to_if w 9 _ .i64 i Try.underlying9, if_pos (by rw [size_st]; omega), Int.toNat_natCast, ByteArray.extract_mk]
  simp
theorem run_range_st (l : Bt) (w : World) : (Instr.range 9 (St l)).run Try.prog w = .ok (.pointer (some ⟨w.heap.size, 0, none⟩)) (w.iter ⟨l.toArray⟩ 0) := run_range_string w 9 _ Try.underlying9
attribute [local go_sem] run_range_st
theorem next_low (w : World) (l : Bt) (i : Nat) (h : i < l.length) (ha : l[i].toNat < 128) (ty : TypeId) :
    (Instr.next (.pointer (some ⟨w.heap.size, 0, none⟩)) true ty).run Try.prog (w.iter ⟨l.toArray⟩ i) = .ok (.tuple #[.bool true, .int .i64 i, .int .i32 l[i].toNat]) (w.iter ⟨l.toArray⟩ (i + 1)) := by
  have := run_next_ascii (P := Try.prog) w ⟨l.toArray⟩ i ty (by rw [size_st]; exact h) (by rw [get_st l i h]; exact ha)
  rw [this, get_st l i h]
/-- a byte that begins no ASCII: some rune from 128 on -/
theorem next_high (w : World) (l : Bt) (i : Nat) (h : i < l.length) (ha : 128 ≤ l[i].toNat) :
    ∃ r k : Nat, 128 ≤ r ∧ r ≤ 2147483647 ∧ 1 ≤ k ∧ ∀ ty, (Instr.next (.pointer (some ⟨w.heap.size, 0, none⟩)) true ty).run Try.prog (w.iter ⟨l.toArray⟩ i) = .ok (.tuple #[.bool true, .int .i64 i, .int .i32 r]) (w.iter ⟨l.toArray⟩ (i + k)) := by
  have hd := decode_high ⟨l.toArray⟩ i (by rw [size_st]; exact h) (by rw [get_st l i h]; exact ha)
  exact ⟨_, _, hd.1, decode_le _ _, hd.2, fun ty => run_next_any (P := Try.prog) w ⟨l.toArray⟩ i ty (by rw [size_st]; exact h)⟩
theorem next_end (w : World) (l : Bt) (i : Nat) (h : ¬ i < l.length) (ty : TypeId) :
    (Instr.next (.pointer (some ⟨w.heap.size, 0, none⟩)) true ty).run Try.prog (w.iter ⟨l.toArray⟩ i) = .ok (.tuple #[.bool false]) (w.iter ⟨l.toArray⟩ i) :=
  run_next_end (P := Try.prog) w ⟨l.toArray⟩ i ty (by rw [size_st]; exact h)
theorem below_iter (w : World) (s : ByteArray) (i : Nat) : Below w.heap.size w (w.iter s i) := (Below.refl _ _).alloc (Nat.le_refl _) _

/-- what holds at the label: it is no path -/
def No (w : World) (l : Bt) (k : Nat) (a : Act) (w' : World) : Prop := k = 0 ∧ isPath l = false ∧ Below w.heap.size w w' ∧ ∃ u : Nat → Value, a = { tmps := List.toArray (u 0 :: u 1 :: u 2 :: u 3 :: u 4 :: u 5 :: u 6 :: u 7 :: u 8 :: u 9 :: u 10 :: u 11 :: u 12 :: u 13 :: u 14 :: u 15 :: u 16 :: u 17 :: u 18 :: u 19 :: u 20 :: u 21 :: u 22 :: u 23 :: u 24 :: u 25 :: u 26 :: u 27 :: u 28 :: u 29 :: u 30 :: u 31 :: u 32 :: u 33 :: u 34 :: u 35 :: u 36 :: u 37 :: u 38 :: u 39 :: u 40 :: u 41 :: u 42 :: u 43 :: []), defers := [] }
theorem no_mk {w : World} {l : Bt} {w' : World} (a : Act) (h1 : isPath l = false) (h2 : Below w.heap.size w w') (h : a = { tmps := List.toArray (a.tmps.getD 0 undef :: a.tmps.getD 1 undef :: a.tmps.getD 2 undef :: a.tmps.getD 3 undef :: a.tmps.getD 4 undef :: a.tmps.getD 5 undef :: a.tmps.getD 6 undef :: a.tmps.getD 7 undef :: a.tmps.getD 8 undef :: a.tmps.getD 9 undef :: a.tmps.getD 10 undef :: a.tmps.getD 11 undef :: a.tmps.getD 12 undef :: a.tmps.getD 13 undef :: a.tmps.getD 14 undef :: a.tmps.getD 15 undef :: a.tmps.getD 16 undef :: a.tmps.getD 17 undef :: a.tmps.getD 18 undef :: a.tmps.getD 19 undef :: a.tmps.getD 20 undef :: a.tmps.getD 21 undef :: a.tmps.getD 22 undef :: a.tmps.getD 23 undef :: a.tmps.getD 24 undef :: a.tmps.getD 25 undef :: a.tmps.getD 26 undef :: a.tmps.getD 27 undef :: a.tmps.getD 28 undef :: a.tmps.getD 29 undef :: a.tmps.getD 30 undef :: a.tmps.getD 31 undef :: a.tmps.getD 32 undef :: a.tmps.getD 33 undef :: a.tmps.getD 34 undef :: a.tmps.getD 35 undef :: a.tmps.getD 36 undef :: a.tmps.getD 37 undef :: a.tmps.getD 38 undef :: a.tmps.getD 39 undef :: a.tmps.getD 40 undef :: a.tmps.getD 41 undef :: a.tmps.getD 42 undef :: a.tmps.getD 43 undef :: []), defers := [] }) : No w l 0 a w' := ⟨rfl, h1, h2, fun n => a.tmps.getD n undef, h⟩

theorem wrap_in (z : Int) (h0 : 0 ≤ z) (h1 : z ≤ 1000000) : wrap64 z = z := by unfold wrap64; omega

set_option maxHeartbeats 2000000 in
theorem valid_any (l : Bt) (w : World) (hl : l.length ≤ 100000) : Calls Try.prog 39 #[St l] w fun e w' => e = .returned (.bool (isPath l)) ∧ Below w.heap.size w w' := by
  go_enter Try.func39, Try.ntmps39
  go_wp2
  refine wp_scope_labels (No w l) (fun _ _ _ => 0) ?_ ?_
  · rintro k a wr ⟨rfl, h1, h2, u, rfl⟩
    refine ⟨_, rfl, ?_⟩
    go_wp2
    change bodyPost Try.prog Try.f39 (fun e w' => e = .returned (.bool (isPath l)) ∧ Below w.heap.size w w') .ret _ _
    go_ret
    exact ⟨by rw [h1]; rfl, h2⟩
  · intro h
    clear h
    go_wp2
    go_loopw [3, 4] (fun x y w' => ∃ (i f d : Nat), w' = w.iter ⟨l.toArray⟩ i ∧ x = .int .i64 d ∧ y = .int .i64 f ∧ f ≤ i ∧ i ≤ l.length ∧ 1 ≤ d ∧ d ≤ 6 ∧ scan d ((l.drop f).take (i - f)) (l.drop i) = isPath l) (fun _ _ w' => l.length - w'.iterPos w.heap.size)
    case atStart => exact ⟨0, 0, 1, rfl, rfl, rfl, by omega, by omega, by omega, by omega, scan_path l⟩
    case round =>
      obtain ⟨i, f, d, rfl, rfl, rfl, hfi, hil, hd1, hd6, hs⟩ := hrel
      have hB := fun j => Lib.hid (below_iter w ⟨l.toArray⟩ j)
      by_cases hi : i < l.length
      · have hcl : ((l.drop f).take (i - f)).length = i - f := by simp; omega
        have hsl := run_sub l f i hfi hil
        rw [List.drop_eq_getElem_cons hi] at hs
        have hnx : (l.drop f).take (i + 1 - f) = (l.drop f).take (i - f) ++ [l[i]] := by
          rw [show i + 1 - f = i - f + 1 by omega, List.take_succ_eq_append_getElem (by simp; omega)]
          simp only [List.getElem_drop, show f + (i - f) = i by omega]
        have HX := Lib.hid hnx
        clear hnx
        by_cases ha : l[i].toNat < 128
        · have hn := next_low w l i hi ha
          generalize l[i] = c at *
          have ho := okr_byte c
          have hw : wrap64 ((i : Int) - f) = ((i - f : Nat) : Int) := by rw [wrap_in _ (by omega) (by omega)]; omega
          generalize (l.drop f).take (i - f) = cur at *
          generalize hk : i - f = k at *
          have wi : wrap64 ((i : Int) + 1) = ((i + 1 : Nat) : Int) := by rw [wrap_in _ (by omega) (by omega)]; omega
          have wd : wrap64 ((d : Int) + 1) = ((d + 1 : Nat) : Int) := by rw [wrap_in _ (by omega) (by omega)]; omega
          by_cases h47 : c = 47
          · subst h47
            simp only [scan, if_true] at hs
            have h47 : ((47 : UInt8).toNat : Int) = 47 := by decide
            rw [h47] at hn
            by_cases h6 : d = 6
            · rw [if_pos (Or.inl h6)] at hs
              subst h6
              have HS := Lib.hid hs
              clear hs ha hw ho wi wd
              go_wp2
              go_step3
              exact no_mk _ HS.out.symm (hB _).out rfl
            · cases hst : stands cur with
              | false =>
                rw [if_pos (Or.inr hst)] at hs
                have HS := Lib.hid hs
                clear hs ha hw ho wi wd
                go_wp2_with (go_at_call 56; (with_reducible refine (stands_any _ _).mono ?_); rintro e w1 ⟨rfl, rfl⟩)
                go_step3
                exact no_mk _ HS.out.symm (hB _).out rfl
              | true =>
                rw [if_neg (by rw [hst]; simp [h6])] at hs
                have HS := Lib.hid hs
                clear hs ha hw ho
                go_wp2_with (go_at_call 56; (with_reducible refine (stands_any _ _).mono ?_); rintro e w1 ⟨rfl, rfl⟩)
                go_roundw
                case rel => exact ⟨i + 1, i + 1, d + 1, rfl, rfl, rfl, by omega, by omega, by omega, by omega, by rw [Nat.sub_self]; exact HS.out⟩
                case measure => simp; omega
          · simp only [scan, h47, if_false] at hs
            have h47' : (c.toNat : Int) ≠ 47 := fun e => h47 (UInt8.toNat_inj.1 (by show c.toNat = 47; omega))
            by_cases h14 : k = 14
            · rw [if_pos (Or.inl (hcl.trans h14))] at hs
              subst h14
              have HS := Lib.hid hs
              clear hs ha ho wi wd
              go_wp2
              go_step3
              exact no_mk _ HS.out.symm (hB _).out rfl
            · have h14' : ((k : Nat) : Int) ≠ 14 := by omega
              cases hst : okb c with
              | false =>
                rw [if_pos (Or.inr hst)] at hs
                rw [hst] at ho
                have HS := Lib.hid hs
                clear hs ha wi wd
                go_wp2_with (go_at_call 57; (with_reducible refine (allowed_any _ _).mono ?_); rintro e w1 ⟨rfl, rfl⟩)
                go_step3
                exact no_mk _ HS.out.symm (hB _).out rfl
              | true =>
                rw [if_neg (by rw [hst, hcl]; simp [h14])] at hs
                rw [hst] at ho
                have HS := Lib.hid hs
                clear hs ha
                go_wp2_with (go_at_call 57; (with_reducible refine (allowed_any _ _).mono ?_); rintro e w1 ⟨rfl, rfl⟩)
                go_roundw
                case rel =>
                  refine ⟨i + 1, f, d, rfl, rfl, rfl, by omega, by omega, hd1, hd6, ?_⟩
                  rw [HX.out]
                  exact HS.out
                case measure => simp; omega
        · obtain ⟨r, n, hr, hr2, hn1, hn⟩ := next_high w l i hi (by omega)
          have ho := okr_high r (by omega)
          have hc47 : l[i] ≠ 47 := fun e => ha (by rw [e]; decide)
          have hco : okb l[i] = false := by
            unfold okb
            exact decide_eq_false (by omega)
          simp only [scan, hc47, if_false, hco, or_true, if_true] at hs
          have hr47 : ((r : Int) == 47) = false := by
            rw [beq_eq_false_iff_ne]; omega
          have HS := Lib.hid hs
          clear hs ha hc47 hco
          have hw : wrap64 ((i : Int) - f) = ((i - f : Nat) : Int) := by rw [wrap_in _ (by omega) (by omega)]; omega
          generalize (l.drop f).take (i - f) = cur at *
          generalize hk : i - f = k at *
          by_cases h14 : k = 14
          · subst h14
            clear hw ho
            go_wp2
            go_step3
            exact no_mk _ HS.out.symm (hB _).out rfl
          · have h14' : ((k : Nat) : Int) ≠ 14 := by omega
            go_wp2_with (go_at_call 57; (with_reducible refine (allowed_any _ _).mono ?_); rintro e w1 ⟨rfl, rfl⟩)
            go_step3
            exact no_mk _ HS.out.symm (hB _).out rfl
      · have hn := next_end w l i hi
        have hf := run_from l f (by omega)
        have e0 : l.drop i = [] := List.drop_eq_nil_of_le (by omega)
        have e1 : (l.drop f).take (i - f) = l.drop f := List.take_of_length_le (by simp; omega)
        rw [e0, e1] at hs
        simp only [scan] at hs
        have HS := Lib.hid hs
        clear hs e0 e1
        go_wp2_with (go_at_call 56; (with_reducible refine (stands_any _ _).mono ?_); rintro e w1 ⟨rfl, rfl⟩)
        change bodyPost Try.prog Try.f39 (fun e w' => e = .returned (.bool (isPath l)) ∧ Below w.heap.size w w') .ret _ _
        go_ret
        exact ⟨by rw [HS.out]; rfl, (hB _).out⟩
end Go.Proofs.Ytdnagkgblmcojaa
