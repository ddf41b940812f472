/-
What is proved here: the law's own names, the row of renames that it makes, and what Needs tells of them (pure); its look at what the document fixes, by a contract.
-/
import Derived.Test.YtmajjcmihpjchaaNed
import Derived.Test.YtmajjcmihpjchaaEqb
set_option linter.unusedSimpArgs false
set_option linter.unusedVariables false
namespace Go.Gra
open Go.Pth Go.Mat
theorem fst_none (ks : List Bt) (p : Bt) : ∀ i, (∀ j, j < i → ks.getD j [] ≠ p) → fstTo ks i p = none
  | 0, _ => rfl
  | i + 1, h => by
    have ih := fst_none ks p i (fun j hj => h j (by omega))
    unfold fstTo
    split
    · exact ih
    · rw [updF_other (Ne.symm (h i (by omega)))]
      exact ih
theorem fst_some (ks : List Bt) (p : Bt) (j : Nat) (hp : ks.getD j [] = p) (hu : ∀ q, ks.getD q [] = p → q = j) : ∀ i, j < i → fstTo ks i p = some (j : Int)
  | 0, h => by omega
  | i + 1, h => by
    by_cases e : j = i
    · subst e
      have ih := fst_none ks p j (fun q hq hq2 => by have := hu q hq2; omega)
      unfold fstTo
      rw [hp, ih, if_neg (by simp), updF_same]
    · have ih := fst_some ks p j hp hu i (by omega)
      unfold fstTo
      split
      · exact ih
      · rw [updF_other (fun e2 => e (hu i e2.symm).symm)]
        exact ih
/-- the name of a number -/
def lab (i : Nat) : Bt := [102, UInt8.ofNat (48 + i / 1000), UInt8.ofNat (48 + i / 100 % 10), UInt8.ofNat (48 + i / 10 % 10), UInt8.ofNat (48 + i % 10)]
theorem u8_nat {n : Nat} (h : n < 256) : (UInt8.ofNat n).toNat = n := by
  rw [UInt8.toNat_ofNat']
  omega
theorem lab_inj {a b : Nat} (ha : a < 2000) (hb : b < 2000) (h : lab a = lab b) : a = b := by
  unfold lab at h
  simp only [List.cons.injEq, true_and, and_true] at h
  obtain ⟨h1, h2, h3, h4⟩ := h
  have e1 := congrArg UInt8.toNat h1
  have e2 := congrArg UInt8.toNat h2
  have e3 := congrArg UInt8.toNat h3
  have e4 := congrArg UInt8.toNat h4
  rw [u8_nat (by omega), u8_nat (by omega)] at e1 e2 e3 e4
  omega
theorem up_flat {l : Bt} (h : ∀ c ∈ l, c ≠ 47) : upP l = [] := by
  unfold upP
  split
  · rcases up_base l with ⟨h1, _⟩ | ⟨x, y, h1, _⟩
    · exact h1
    · exact absurd rfl (h 47 (by rw [h1]; simp))
  · rfl
theorem lab_up {i : Nat} (hi : i < 2000) : upP (lab i) = [] := by
  refine up_flat (fun c hc e => ?_)
  subst e
  have h : ∀ n, n < 256 → 48 ≤ n → (47 : UInt8) ≠ UInt8.ofNat n := fun n h1 h2 e => by
    have := congrArg UInt8.toNat e
    rw [u8_nat h1] at this
    have h47 : (47 : UInt8).toNat = 47 := rfl
    omega
  unfold lab at hc
  simp only [List.mem_cons, List.not_mem_nil, or_false] at hc
  rcases hc with hc | hc | hc | hc | hc
  · exact absurd hc (by decide)
  · exact h _ (by omega) (by omega) hc
  · exact h _ (by omega) (by omega) hc
  · exact h _ (by omega) (by omega) hc
  · exact h _ (by omega) (by omega) hc
/-- the renames of the law -/
def rowM (k : Nat) : List Mv := (List.range k).map fun i => (lab i, lab (i + 1))
theorem rowM_len (k : Nat) : (rowM k).length = k := by simp [rowM]
theorem rowM_at (k i : Nat) (h : i < (rowM k).length) : (rowM k)[i] = (lab i, lab (i + 1)) := by simp [rowM]
end Go.Gra
namespace Go.Proofs.Ytmajjcmihpjchaa
open Go.Pth Go.Tre Go.RowKit Go.Word Go.Shelf Go.Mat Go.Gra
attribute [local go_sem] guard_eq guard_ne st_eql st_neq
theorem rowM_zf (k : Nat) (hk : k ≤ 1500) (j : Nat) (hj : j < k) : zfOf (rowM k) j = if j + 1 < k then [((j + 1 : Nat) : Int)] else [] := by
  have hf : (rowM k).map (·.1) = (List.range k).map lab := by unfold rowM; rw [List.map_map]; rfl
  have hg : ∀ q, q < k → ((List.range k).map lab).getD q [] = lab q := fun q hq => by
    rw [List.getD_eq_getElem?_getD, List.getElem?_map, List.getElem?_range hq]
    rfl
  have hg2 : ∀ q, k ≤ q → ((List.range k).map lab).getD q [] = [] := fun q hq => by
    rw [List.getD_eq_getElem?_getD, List.getElem?_eq_none (by simpa using hq)]
    rfl
  have hm : (rowM k).getD j ([], []) = (lab j, lab (j + 1)) := by
    rw [List.getD_eq_getElem?_getD, List.getElem?_eq_getElem (by rw [rowM_len]; exact hj), rowM_at]
    rfl
  unfold zfOf needP
  rw [hf, hm, rowM_len]
  by_cases h : j + 1 < k
  · rw [if_pos h, fst_some _ (lab (j + 1)) (j + 1) (hg _ h) (fun q hq => by
      rcases Nat.lt_or_ge q k with h1 | h1
      · rw [hg q h1] at hq
        exact lab_inj (by omega) (by omega) hq
      · rw [hg2 q h1] at hq
        cases hq) k h]
    show (if (((j + 1 : Nat) : Int)) = (j : Int) then [] else [((j + 1 : Nat) : Int)]) = _
    rw [if_neg (by omega)]
  · rw [if_neg h, fst_none _ (lab (j + 1)) k (fun q hq e => by
      rw [hg q hq] at e
      have := lab_inj (by omega) (by omega) e
      omega)]
set_option maxRecDepth 100000 in
theorem label_any (i : Nat) (hi : i ≤ 1031) (w : World) : Calls Try.prog 5 #[.int .i64 (i : Int)] w fun e w' => e = .returned (St (lab i)) ∧ Below w.heap.size w w' := by
  have hi2 : (i : Int) ≤ 1031 := by omega
  have L := lies_new w 5 #[.int .u8 102, .int .u8 (48 + (i : Int) / 1000), .int .u8 (48 + (i : Int) / 100 % 10), .int .u8 (48 + (i : Int) / 10 % 10), .int .u8 (48 + (i : Int) % 10)]
  have HB := Lib.hid (show Below w.heap.size w (w.alloc (.cells #[.int .u8 102, .int .u8 (48 + (i : Int) / 1000), .int .u8 (48 + (i : Int) / 100 % 10), .int .u8 (48 + (i : Int) / 10 % 10), .int .u8 (48 + (i : Int) % 10)] 5)) from (Below.refl _ _).alloc (Nat.le_refl _) _)
  have cv := run_text48 (some ⟨w.heap.size, 0, none⟩) (lab i) 5 _ (fun q hq => ⟨w.heap.size, 0, rfl, lies_lt L, by
    rw [Nat.zero_add, lies_cell L]
    have hq5 : q < 5 := hq
    match q, hq5 with
    | 0, _ => rfl
    | 1, _ => show _ = some (Value.int .u8 (((UInt8.ofNat (48 + i / 1000)).toNat : Nat) : Int)); rw [u8_nat (by omega)]; simp
    | 2, _ => show _ = some (Value.int .u8 (((UInt8.ofNat (48 + i / 100 % 10)).toNat : Nat) : Int)); rw [u8_nat (by omega)]; simp
    | 3, _ => show _ = some (Value.int .u8 (((UInt8.ofNat (48 + i / 10 % 10)).toNat : Nat) : Int)); rw [u8_nat (by omega)]; simp
    | 4, _ => show _ = some (Value.int .u8 (((UInt8.ofNat (48 + i % 10)).toNat : Nat) : Int)); rw [u8_nat (by omega)]; simp⟩)
  have cv2 : (convert 38 9 (.slice (some ⟨w.heap.size, 0, none⟩) 5 5)).run Try.prog (w.alloc (.cells #[.int .u8 102, .int .u8 (48 + (i : Int) / 1000), .int .u8 (48 + (i : Int) / 100 % 10), .int .u8 (48 + (i : Int) / 10 % 10), .int .u8 (48 + (i : Int) % 10)] 5)) = .ok (St (lab i)) (w.alloc (.cells #[.int .u8 102, .int .u8 (48 + (i : Int) / 1000), .int .u8 (48 + (i : Int) / 100 % 10), .int .u8 (48 + (i : Int) / 10 % 10), .int .u8 (48 + (i : Int) % 10)] 5)) := cv
  clear cv L
  generalize lab i = l at *
  go_enter Try.func5, Try.ntmps5
  go_wp2
  go_ret
  exact ⟨rfl, HB.out⟩
theorem num_any (z : Int) (w : World) : Calls Try.prog 7 #[.int .i64 z] w fun e w' => e = .returned (.int .i64 z) ∧ w = w' := by
  go_enter Try.func7, Try.ntmps7
  go_wp2
  go_ret
  exact ⟨rfl, rfl⟩
theorem two_zf : zfOf [([97], [98]), ([98], [97])] 0 = [1] ∧ zfOf [([97], [98]), ([98], [97])] 1 = [0] := by
  constructor
  · decide
  · decide
set_option maxRecDepth 100000 in
set_option maxHeartbeats 4000000 in
theorem alive_any (w : World) : Calls Try.prog 4 #[] w fun e w' => e = .returned (.bool true) ∧ Below w.heap.size w w' := by
  have L := lies_new w 26 #[.int .i64 3, .string { data := #[97] }, .string { data := #[98] }, .int .i64 0, .int .i64 0, .int .i64 3, .string { data := #[98] }, .string { data := #[97] }, .int .i64 0, .int .i64 0]
  have hB : Below w.heap.size w (w.alloc (.cells #[.int .i64 3, .string { data := #[97] }, .string { data := #[98] }, .int .i64 0, .int .i64 0, .int .i64 3, .string { data := #[98] }, .string { data := #[97] }, .int .i64 0, .int .i64 0] 26)) := (Below.refl _ _).alloc (Nat.le_refl _) _
  have HB := Lib.hid hB
  have KN := needs_all (some ⟨w.heap.size, 0, none⟩) 2 [([97], [98]), ([98], [97])] _ (fun i hi => ⟨w.heap.size, 0, rfl, lies_lt L, fun j v hj => by
    rw [lies_cell L, ← hj]
    have hi2 : i < 2 := hi
    match i, hi2 with
    | 0, _ => match j, hj with
      | 0, _ => rfl
      | 1, _ => rfl
      | 2, _ => rfl
      | 3, _ => rfl
      | 4, _ => rfl
      | j + 5, hj => simp [mvC] at hj
    | 1, _ => match j, hj with
      | 0, _ => rfl
      | 1, _ => rfl
      | 2, _ => rfl
      | 3, _ => rfl
      | 4, _ => rfl
      | j + 5, hj => simp [mvC] at hj⟩) (by decide) (fun x hx => by
    simp only [List.mem_cons, List.not_mem_nil, or_false] at hx
    rcases hx with rfl | rfl
    · exact ⟨by decide, by decide, up_flat (by decide)⟩
    · exact ⟨by decide, by decide, up_flat (by decide)⟩)
  replace KN := Lib.hid (show Calls Try.prog 6 #[.agg #[.slice none 0 0, .slice none 0 0], .slice (some ⟨w.heap.size, 0, none⟩) 2 2] _ _ from KN.mono (R' := fun e w' => (∃ L, e = .returned (.tuple #[.slice (some ⟨L, 0, none⟩) 2 2, .int .i64 0]) ∧ NdsR w' L 2 (zfOf [([97], [98]), ([98], [97])]) 2) ∧ Below (w.alloc (.cells #[.int .i64 3, .string { data := #[97] }, .string { data := #[98] }, .int .i64 0, .int .i64 0, .int .i64 3, .string { data := #[98] }, .string { data := #[97] }, .int .i64 0, .int .i64 0] 26)).heap.size (w.alloc (.cells #[.int .i64 3, .string { data := #[97] }, .string { data := #[98] }, .int .i64 0, .int .i64 0, .int .i64 3, .string { data := #[98] }, .string { data := #[97] }, .int .i64 0, .int .i64 0] 26)) w') (by
    rintro e W ⟨h | ⟨_, h⟩, hb⟩
    · exact absurd h.1 (by decide)
    · exact ⟨h, hb⟩))
  clear L hB
  have TZ := Lib.hid two_zf
  go_enter Try.func4, Try.ntmps4
  go_upto_region 2 with (go_at_call 6; (with_reducible refine KN.out.mono ?_); rintro e w1 ⟨⟨L, rfl, hN⟩, hb⟩; have H1 := Lib.hid (HB.out.trans (hb.mono HB.out.size)); have N1 := Lib.hid hN; clear hb hN)
  clear KN HB
  obtain ⟨A0, C0, c0, i0⟩ := nds_at N1.out (j := 0) (by decide) (by decide)
  obtain ⟨A1, C1, c1, i1⟩ := nds_at N1.out (j := 1) (by decide) (by decide)
  rw [TZ.out.1] at c0 i0
  rw [TZ.out.2] at c1 i1
  obtain ⟨b0, rfl, _, d0⟩ := i0 0 (by decide)
  obtain ⟨b1, rfl, _, d1⟩ := i1 0 (by decide)
  simp only [List.length_cons, List.length_nil, Nat.zero_add, List.getElem_cons_zero] at c0 c1 d0 d1
  go_wp2_with (go_at_call 7; (with_reducible refine (num_any _ _).mono ?_); rintro e w2 ⟨rfl, rfl⟩)
  go_ret
  exact ⟨rfl, H1.out⟩
end Go.Proofs.Ytmajjcmihpjchaa
