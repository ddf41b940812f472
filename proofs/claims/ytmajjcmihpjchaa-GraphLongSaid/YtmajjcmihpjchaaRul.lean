/-
What is proved here: package graph's check, clears and rules, over renames and the empty tree, by contracts.
-/
import Derived.Test.YtmajjcmihpjchaaFst
import Derived.Test.YtmajjcmihpjchaaChk
set_option linter.unusedSimpArgs false
set_option linter.unusedVariables false
namespace Go.Proofs.Ytmajjcmihpjchaa
open Go.Pth Go.Tre Go.RowKit Go.Word Go.Shelf Go.Mat Go.Gra
attribute [local go_sem] guard_eq guard_ne st_eql st_neq
set_option maxRecDepth 100000 in
set_option maxHeartbeats 4000000 in
theorem idx_mv (A : Option Addr) (c : Nat) (ms : List Mv) (w : World) (h : ActsAt w A ms) (hn : ms.length ≤ 1000000) :
    Calls Try.prog 27 #[.slice A ms.length c, .func (.func 13) #[] #[]] w fun e w' => e = .returned (.int .i64 (-1)) ∧ Below w.heap.size w w' := by
  have H := Lib.hid h
  obtain ⟨n, hne⟩ : ∃ n, n = ms.length := ⟨_, rfl⟩
  have NE := Lib.hid hne
  rw [← hne] at hn ⊢
  clear h hne
  go_enter Try.func27, Try.ntmps27
  go_wp2
  go_loopw [5, 8] (fun _ v8 wr => ∃ i : Nat, i ≤ n ∧ v8 = .int .i64 (i : Int) ∧ Below w.heap.size w wr) (fun _ v8 _ => n - (intOf v8).toNat)
  case atStart => exact ⟨0, Nat.zero_le _, rfl, Below.refl _ _⟩
  case round =>
    obtain ⟨i, hi, rfl, hb⟩ := hrel
    have HB := Lib.hid hb
    clear hb
    by_cases hlt : i < n
    · have li : (i : Int) < (n : Int) := by omega
      have lf : i < ms.length := by have := NE.out; omega
      obtain ⟨b, o, eA, hl, hr⟩ := actsAt_below H.out HB.out i lf
      subst eA
      have R1 := Lib.hid hr
      clear hr
      generalize ms[i] = m at *
      have KE := Lib.hid (fun W => unknown_mv m W)
      unfold mvV mvC at *
      go_wp2_with (first
        | (refine wpList_load_mid rfl 26 _ rfl b (o + i * 5) rfl [.int .i64 3, St m.1, St m.2, .int .i64 0, .int .i64 0] _ R1.out Try.underlying26 rfl (by kernel_rfl) ?_)
        | (go_at_call 13; (with_reducible refine (KE.out wr).mono ?_); rintro e w1 ⟨rfl, hb⟩; have H1 := Lib.hid (HB.out.trans (hb.mono HB.out.size)); clear hb))
      go_roundw
      case rel => exact ⟨i + 1, by omega, by go_num, H1.out⟩
      case measure => first | (simp [intOf]; done) | (simp [intOf]; omega)
    · obtain rfl : i = n := by omega
      have li : ¬ (i : Int) < (i : Int) := by omega
      go_wp2
      go_ret
      exact ⟨rfl, HB.out⟩
theorem cont_mv (A : Option Addr) (c : Nat) (ms : List Mv) (w : World) (h : ActsAt w A ms) (hn : ms.length ≤ 1000000) :
    Calls Try.prog 12 #[.slice A ms.length c, .func (.func 13) #[] #[]] w fun e w' => e = .returned (.bool false) ∧ Below w.heap.size w w' := by
  have K := Lib.hid (idx_mv A c ms w h hn)
  clear h hn
  generalize ms.length = n at *
  go_enter Try.func12, Try.ntmps12
  go_wp2_with (go_at_call 27; (with_reducible refine K.out.mono ?_); rintro e w1 ⟨rfl, hb⟩; have HB := Lib.hid hb; clear hb)
  go_ret
  exact ⟨rfl, HB.out⟩
theorem tree_ok (w : World) : Calls Try.prog 11 #[.agg #[.slice none 0 0, .slice none 0 0]] w fun e w' => e = .returned (.int .i64 0) ∧ Below w.heap.size w w' := by
  have h := check_any none none 0 0 [] [] w (fun i hi => by cases hi) (fun i hi => by cases hi) (fun x hx => by cases hx)
  have e : checkE [] [] = 0 := by decide
  rw [e] at h
  exact h
theorem rng2' {w : World} {g : Nat} {t : TypeId} {a b : Value} (h : Lies w g t #[a, b]) : w.rangeAt g 0 [a, b] := fun j v hj => by
  rw [Nat.zero_add]
  have := lies_cell h j
  rw [this]
  simpa using hj
theorem check_mv (A : Option Addr) (c : Nat) (ms : List Mv) (w : World) (h : ActsAt w A ms) (hn : ms.length ≤ 1000000) :
    Calls Try.prog 8 #[.agg #[.slice none 0 0, .slice none 0 0], .slice A ms.length c] w fun e w' => e = .returned (.int .i64 (if 1024 < ms.length then 2 else 0)) ∧ Below w.heap.size w w' := by
  have HB := Lib.hid (show Below w.heap.size w (w.alloc (.cells #[.slice none 0 0, .slice none 0 0] 34)) from (Below.refl _ _).alloc (Nat.le_refl _) _)
  have RG := Lib.hid (rng2' (lies_new w 34 #[.slice none 0 0, .slice none 0 0]))
  have KC := Lib.hid (fun (W : World) (hb : Below w.heap.size w W) => cont_mv A c ms W (actsAt_below h hb) hn)
  clear h
  generalize ms.length = n at *
  by_cases hl : 1024 < n
  · rw [if_pos hl]
    have l1 : (n : Int) > 1024 := by omega
    clear hl
    go_enter Try.func8, Try.ntmps8
    go_upto_region 1 with (fail)
    generalize w.alloc (.cells #[.slice none 0 0, .slice none 0 0] 34) = X at *
    go_wp2_with (first
      | (refine wpList_load_mid rfl 34 _ rfl w.heap.size 0 rfl [.slice none 0 0, .slice none 0 0] _ RG.out Try.underlying34 rfl (by kernel_rfl) ?_)
      | (go_at_call 11; (with_reducible refine (tree_ok X).mono ?_); rintro e w1 ⟨rfl, hb⟩; have H1 := Lib.hid (HB.out.trans (hb.mono HB.out.size)); clear hb))
    go_ret
    exact ⟨rfl, H1.out⟩
  · rw [if_neg hl]
    have l1 : ¬ (n : Int) > 1024 := by omega
    clear hl
    go_enter Try.func8, Try.ntmps8
    go_upto_region 1 with (fail)
    generalize w.alloc (.cells #[.slice none 0 0, .slice none 0 0] 34) = X at *
    go_wp2_with (first
      | (refine wpList_load_mid rfl 34 _ rfl w.heap.size 0 rfl [.slice none 0 0, .slice none 0 0] _ RG.out Try.underlying34 rfl (by kernel_rfl) ?_)
      | (go_at_call 11; (with_reducible refine (tree_ok X).mono ?_); rintro e w1 ⟨rfl, hb⟩; have H1 := Lib.hid (HB.out.trans (hb.mono HB.out.size)); clear hb)
      | (go_at_call 12; (with_reducible refine (KC.out w1 H1.out).mono ?_); rintro e w2 ⟨rfl, hb⟩; have H2 := Lib.hid (H1.out.trans (hb.mono H1.out.size)); clear hb))
    go_ret
    exact ⟨rfl, H2.out⟩
theorem clears_empty (w : World) : Calls Try.prog 19 #[.agg #[.slice none 0 0, .slice none 0 0]] w fun e w' => (∃ C, e = .returned (.func (.func 29) #[] #[.pointer (some ⟨C, 0, none⟩)])) ∧ Below w.heap.size w w' := by
  have hmm := @run_makeMap Try.prog
  have L0 := lies_new w 34 #[.slice none 0 0, .slice none 0 0]
  have x0 := lies_cell (lies_alloc (lies_alloc L0 (.map #[] 0)) (.cells #[.map (some (w.heap.size + 1))] 65)) 0
  simp only [List.getElem?_toArray, List.getElem?_cons_zero] at x0
  have HB := Lib.hid (show Below w.heap.size w (((w.alloc (.cells #[.slice none 0 0, .slice none 0 0] 34)).alloc (.map #[] 0)).alloc (.cells #[.map (some (w.heap.size + 1))] 65)) from (((Below.refl _ _).alloc (Nat.le_refl _) _).alloc (by simp) _).alloc (by simp; omega) _)
  clear L0
  go_enter Try.func19, Try.ntmps19
  go_upto_region 2 with (rw [store_one _ _ _ _ rfl]; go_simp)
  generalize ((w.alloc (.cells #[.slice none 0 0, .slice none 0 0] 34)).alloc (.map #[] 0)).alloc (.cells #[.map (some (w.heap.size + 1))] 65) = X at *
  clear hmm
  go_wp2
  go_loopw [11] (fun v11 wr => v11 = .int .i64 0 ∧ wr = X) (fun _ _ => 0)
  case atStart => exact ⟨rfl, rfl⟩
  case round =>
    obtain ⟨rfl, hw⟩ := hrel
    have H2 := Lib.hid (show Below w.heap.size w wr by rw [hw]; exact HB.out)
    clear hw
    go_wp2
    go_ret
    exact ⟨⟨_, rfl⟩, H2.out⟩
/-- the rules that package graph lays for renames -/
structure WhyAt (W : World) (R C bE bM bF n : Nat) (FE FF : Bt → Option Int) : Prop where
  r : Lies W R 52 #[.func (.func 16) #[] #[], .map (some bE), .func (.func 18) #[] #[], .map (some bM), .func (.func 29) #[] #[.pointer (some ⟨C, 0, none⟩)], .map (some bE), .func (.func 20) #[] #[], .map (some bF)]
  e : NumM W bE n FE
  m : NumM W bM 0 (fun _ => none)
  f : NumM W bF n FF
theorem whyAt_below {W W' : World} {R C bE bM bF n : Nat} {FE FF : Bt → Option Int} (h : WhyAt W R C bE bM bF n FE FF) (hb : Below W.heap.size W W') : WhyAt W' R C bE bM bF n FE FF :=
  ⟨lies_below h.r hb (lies_lt h.r), numM_below h.e hb, numM_below h.m hb, numM_below h.f hb⟩
set_option maxRecDepth 100000 in
set_option maxHeartbeats 4000000 in
theorem rules_mv (A : Option Addr) (c : Nat) (ms : List Mv) (w : World) (h : ActsAt w A ms) (hn : ms.length ≤ 2000) (hk : ∀ x ∈ ms, x.1.length ≤ 100000 ∧ x.2.length ≤ 100000) :
    Calls Try.prog 9 #[.agg #[.slice none 0 0, .slice none 0 0], .slice A ms.length c] w fun e w' => (∃ R C bE bM bF, e = .returned (.slice (some ⟨R, 0, none⟩) 4 4) ∧ WhyAt w' R C bE bM bF ms.length (fstTo (ms.map (·.1)) ms.length) (fstTo (ms.map (·.2)) ms.length)) ∧ Below w.heap.size w w' := by
  have HB := Lib.hid (show Below w.heap.size w (w.alloc (.cells #[.slice none 0 0, .slice none 0 0] 34)) from (Below.refl _ _).alloc (Nat.le_refl _) _)
  have LX := Lib.hid (lies_new w 34 #[.slice none 0 0, .slice none 0 0])
  have K1 := Lib.hid (fun (W : World) (hb : Below w.heap.size w W) => firsts_empties A c ms W (actsAt_below h hb) hn (fun x hx => (hk x hx).1))
  have K2 := Lib.hid (fun (W : World) (hb : Below w.heap.size w W) => firsts_fills A c ms W (actsAt_below h hb) hn (fun x hx => (hk x hx).2))
  have K3 := Lib.hid (fun (W : World) (hb : Below w.heap.size w W) => firsts_makes A c ms W (actsAt_below h hb) hn)
  clear h hk
  generalize fstTo (ms.map (·.1)) ms.length = FE at *
  generalize fstTo (ms.map (·.2)) ms.length = FF at *
  generalize ms.length = n at *
  go_enter Try.func9, Try.ntmps9
  go_upto_region 1 with (fail)
  generalize w.alloc (.cells #[.slice none 0 0, .slice none 0 0] 34) = X at *
  go_upto_region 2 with (first
    | (go_at_call 14; (with_reducible refine (K1.out X HB.out).mono ?_); rintro e w1 ⟨⟨bE, rfl, hE, _⟩, hb⟩; have H1 := Lib.hid (HB.out.trans (hb.mono HB.out.size)); have L1 := Lib.hid (lies_below LX.out hb (lies_lt LX.out)); have E1 := Lib.hid hE; clear hb hE)
    | (go_at_call 14; (with_reducible refine (K2.out w1 H1.out).mono ?_); rintro e w2 ⟨⟨bF, rfl, hF, _⟩, hb⟩; have H2 := Lib.hid (H1.out.trans (hb.mono H1.out.size)); have L2 := Lib.hid (lies_below L1.out hb (lies_lt L1.out)); have E2 := Lib.hid (numM_below E1.out hb); have F2 := Lib.hid hF; clear hb hF)
    | (go_at_call 14; (with_reducible refine (K3.out w2 H2.out).mono ?_); rintro e w3 ⟨⟨bM, rfl, hM, _⟩, hb⟩; have H3 := Lib.hid (H2.out.trans (hb.mono H2.out.size)); have L3 := Lib.hid (lies_below L2.out hb (lies_lt L2.out)); have E3 := Lib.hid (numM_below E2.out hb); have F3 := Lib.hid (numM_below F2.out hb); have M3 := Lib.hid hM; clear hb hM))
  clear HB LX H1 L1 E1 H2 L2 E2 F2 K1 K2 K3
  have RG := Lib.hid (rng2' L3.out)
  go_wp2_with (first
    | (refine wpList_load_mid rfl 34 _ rfl w.heap.size 0 rfl [.slice none 0 0, .slice none 0 0] _ RG.out Try.underlying34 rfl (by kernel_rfl) ?_)
    | (go_at_call 19; (with_reducible refine (clears_empty w3).mono ?_); rintro e w4 ⟨⟨C, rfl⟩, hb⟩; have H4 := Lib.hid (H3.out.trans (hb.mono H3.out.size)); have E4 := Lib.hid (numM_below E3.out hb); have F4 := Lib.hid (numM_below F3.out hb); have M4 := Lib.hid (numM_below M3.out hb); clear hb))
  go_ret
  have b5 : Below w4.heap.size w4 (w4.alloc (.cells #[.func (.func 16) #[] #[], .map (some bE), .func (.func 18) #[] #[], .map (some bM), .func (.func 29) #[] #[.pointer (some ⟨C, 0, none⟩)], .map (some bE), .func (.func 20) #[] #[], .map (some bF)] 52)) := (Below.refl _ _).alloc (Nat.le_refl _) _
  exact ⟨⟨_, C, bE, bM, bF, rfl, lies_new _ _ _, numM_below E4.out b5, numM_below M4.out b5, numM_below F4.out b5⟩, H4.out.trans (b5.mono H4.out.size)⟩
end Go.Proofs.Ytmajjcmihpjchaa
