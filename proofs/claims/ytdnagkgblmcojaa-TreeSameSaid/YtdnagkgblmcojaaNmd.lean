/-
What is proved here: isName, by a contract; the scans over files for one that is wrong, by contracts.
-/
import Derived.Test.YtdnagkgblmcojaaEqn
set_option linter.unusedSimpArgs false
namespace Go.Proofs.Ytdnagkgblmcojaa
open Go.Pth Go.Tre Go.RowKit Go.Word

theorem eqNd_self (p : Bt) (f m : Int) : eqNd p p f f m 0 = (m == 0) := by simp [eqNd, same]
set_option maxRecDepth 100000 in
theorem isName_any (p : Bt) (f m : Int) (w : World) : Calls Try.prog 41 #[.agg #[St p, .int .i64 f, .int .i64 m]] w fun e w' => e = .returned (.bool (nameB ⟨p, f, m⟩)) ∧ Below w.heap.size w w' := by
  have L := lies_new w 41 #[St p, .int .i64 f, .int .i64 m]
  have c0 := lies_cell L 0
  have c1 := lies_cell L 1
  have c2 := lies_cell L 2
  have hE := fun W => eql_node p p f f m 0 W
  have hG := fun x y W => guard_node .eql x y #[St p, .int .i64 f, .int .i64 m] #[St p, .int .i64 f, .int .i64 0] W
  rw [eqNd_self] at hE
  have hs : ∀ W, (Op.equalIn 9999 9 (St p) (St p)).run Try.prog W = .ok true W := fun W => by rw [eqs_st 9998]; simp [same]
  have HB := Lib.hid (show Below w.heap.size w (w.alloc (.cells #[St p, .int .i64 f, .int .i64 m] 41)) from (Below.refl _ _).alloc (Nat.le_refl _) _)
  clear L
  by_cases h1 : 0 ≤ f
  · have hr : nameB ⟨p, f, m⟩ = (m == 0) := by
      unfold nameB
      by_cases hm : m = 0 <;> simp [h1, hm]
    rw [hr]
    clear hr
    go_enter Try.func41, Try.ntmps41
    go_wp2
    · rename_i h
      exfalso
      revert h
      simp [St]
    · rename_i h2
      go_ret
      subst h2
      exact ⟨rfl, HB.out⟩
    · rename_i h2
      go_ret
      refine ⟨?_, HB.out⟩
      have : (m == 0) = false := by simpa using h2
      rw [this]
      rfl
  · have hr : nameB ⟨p, f, m⟩ = false := decide_eq_false (by show ¬ (0 ≤ f ∧ m = 0); omega)
    rw [hr]
    clear hr
    go_enter Try.func41, Try.ntmps41
    go_wp2
    go_ret
    exact ⟨rfl, HB.out⟩


set_option maxRecDepth 100000 in
theorem great_index (A : Option Addr) (c : Nat) (fs : List Fl) (w : World) (hn : fs.length ≤ 1000000) (h : FilesAt w A fs) :
    Calls Try.prog 58 #[.slice A fs.length c, .func (.func 55) #[] #[]] w fun e w' => (∃ k : Int, e = .returned (.int .i64 k) ∧ (0 ≤ k ↔ fs.any (fun x => decide (8192 < x.data.length)) = true)) ∧ Below w.heap.size w w' := by
  have H := Lib.hid h
  clear h
  obtain ⟨n, hne⟩ : ∃ n, n = fs.length := ⟨_, rfl⟩
  rw [← hne] at hn ⊢
  have NE := Lib.hid hne
  clear hne
  obtain ⟨r0, hr0⟩ : ∃ r0, r0 = fs.any (fun x => decide (8192 < x.data.length)) := ⟨_, rfl⟩
  rw [← hr0]
  have HR0 := Lib.hid hr0
  clear hr0
  go_enter Try.func58, Try.ntmps58
  go_wp2
  go_loopw [5, 8] (fun _ v8 wr => ∃ i : Nat, i ≤ n ∧ v8 = .int .i64 (i : Int) ∧ (fs.take i).any (fun x => decide (8192 < x.data.length)) = false ∧ Below w.heap.size w wr) (fun _ v8 _ => n - (intOf v8).toNat)
  case atStart => exact ⟨0, Nat.zero_le _, rfl, by simp, Below.refl _ _⟩
  case round =>
    obtain ⟨i, hi, rfl, hno, hb⟩ := hrel
    have HB := Lib.hid hb
    have NO := Lib.hid hno
    clear hb hno
    by_cases hlt : i < n
    · have li : (i : Int) < (n : Int) := by omega
      have hlf : i < fs.length := by have := NE.out; omega
      obtain ⟨b, o, DA, dc, eA, hl, h1, h2, _⟩ := H.out i hlf
      subst eA
      have d1 := (HB.out.cell (p := ⟨b, o + i * 2, none⟩) hl).trans h1
      have d2 := (HB.out.cell (p := ⟨b, o + i * 2 + 1, none⟩) hl).trans h2
      have HT := Lib.hid (show (fs.take (i + 1)).any (fun x => decide (8192 < x.data.length)) = (fun x : Fl => decide (8192 < x.data.length)) fs[i] by
        rw [List.take_succ_eq_append_getElem hlf, List.any_append, NO.out]; simp)
      have HA := Lib.hid (show (fun x : Fl => decide (8192 < x.data.length)) fs[i] = true → r0 = true from fun h => by rw [HR0.out]; exact List.any_eq_true.2 ⟨_, List.getElem_mem _, h⟩)
      clear h1 h2
      generalize fs[i] = x at *
      obtain ⟨md, dt⟩ := x
      have LM := Lib.hid (show wr.rangeAt b (o + i * 2) [.int .i64 md, .slice DA dt.length dc] from fun j v hj => by
        match j, hj with
        | 0, hj => injection hj with hj; subst hj; exact d1
        | 1, hj => injection hj with hj; subst hj; exact d2
        | j + 2, hj => simp at hj)
      have HT2 := Lib.hid (show (fs.take (i + 1)).any (fun x => decide (8192 < x.data.length)) = decide (8192 < dt.length) from HT.out)
      have HA2 := Lib.hid (show decide (8192 < dt.length) = true → r0 = true from HA.out)
      have G := Lib.hid (fun W => great_any md DA dt.length dc W)
      clear d1 d2 HT HA
      generalize decide (8192 < dt.length) = r at HT2 HA2 G
      go_wp2_with (first
        | (refine wpList_load_mid rfl 49 _ rfl b (o + i * 2) rfl [.int .i64 md, .slice DA dt.length dc] _ LM.out Try.underlying49 rfl (by kernel_rfl) ?_)
        | (go_at_call 55; (with_reducible refine (G.out _).mono ?_); rintro e w1 ⟨rfl, hb⟩; have HB1 := Lib.hid (HB.out.trans (hb.mono HB.out.size)); clear hb))
      · rename_i hd
        go_ret
        exact ⟨⟨(i : Int), rfl, ⟨fun _ => HA2.out hd, fun _ => by omega⟩⟩, HB1.out⟩
      · rename_i hd
        go_roundw
        case rel => exact ⟨i + 1, by omega, by go_num, HT2.out.trans (by simpa using hd), HB1.out⟩
        case measure => first | (simp [intOf]; done) | (simp [intOf]; omega)
    · have li : ¬ (i : Int) < (n : Int) := by omega
      have e1 : fs.take i = fs := List.take_of_length_le (by have := NE.out; omega)
      have E := Lib.hid (show r0 = false by rw [HR0.out, ← NO.out, e1])
      clear e1
      go_wp2
      go_ret
      exact ⟨⟨-1, rfl, ⟨fun h => absurd h (by decide), fun h => by rw [E.out] at h; cases h⟩⟩, HB.out⟩
theorem great_contains (A : Option Addr) (c : Nat) (fs : List Fl) (w : World) (hn : fs.length ≤ 1000000) (h : FilesAt w A fs) :
    Calls Try.prog 42 #[.slice A fs.length c, .func (.func 55) #[] #[]] w fun e w' => e = .returned (.bool (fs.any (fun x => decide (8192 < x.data.length)))) ∧ Below w.heap.size w w' := by
  have K := Lib.hid (great_index A c fs w hn h)
  clear h hn
  generalize fs.any (fun x => decide (8192 < x.data.length)) = r at *
  go_enter Try.func42, Try.ntmps42
  go_wp2_with (go_at_call 58; (with_reducible refine K.out.mono ?_); rintro e w1 ⟨⟨k, rfl, hk⟩, hb⟩; have HB := Lib.hid hb; have HK := Lib.hid hk; clear hb hk)
  go_ret
  refine ⟨?_, HB.out⟩
  have e : decide (0 ≤ k) = r := by
    have := HK.out
    cases r with
    | true => exact decide_eq_true (this.2 rfl)
    | false => exact decide_eq_false (fun h => by cases this.1 h)
  rw [← e]
  rfl

set_option maxRecDepth 100000 in
theorem wrong_index (A : Option Addr) (c : Nat) (fs : List Fl) (w : World) (hn : fs.length ≤ 1000000) (h : FilesAt w A fs) :
    Calls Try.prog 58 #[.slice A fs.length c, .func (.func 43) #[] #[]] w fun e w' => (∃ k : Int, e = .returned (.int .i64 k) ∧ (0 ≤ k ↔ fs.any (fun x => (!okMode x.mode)) = true)) ∧ Below w.heap.size w w' := by
  have H := Lib.hid h
  clear h
  obtain ⟨n, hne⟩ : ∃ n, n = fs.length := ⟨_, rfl⟩
  rw [← hne] at hn ⊢
  have NE := Lib.hid hne
  clear hne
  obtain ⟨r0, hr0⟩ : ∃ r0, r0 = fs.any (fun x => (!okMode x.mode)) := ⟨_, rfl⟩
  rw [← hr0]
  have HR0 := Lib.hid hr0
  clear hr0
  go_enter Try.func58, Try.ntmps58
  go_wp2
  go_loopw [5, 8] (fun _ v8 wr => ∃ i : Nat, i ≤ n ∧ v8 = .int .i64 (i : Int) ∧ (fs.take i).any (fun x => (!okMode x.mode)) = false ∧ Below w.heap.size w wr) (fun _ v8 _ => n - (intOf v8).toNat)
  case atStart => exact ⟨0, Nat.zero_le _, rfl, by simp, Below.refl _ _⟩
  case round =>
    obtain ⟨i, hi, rfl, hno, hb⟩ := hrel
    have HB := Lib.hid hb
    have NO := Lib.hid hno
    clear hb hno
    by_cases hlt : i < n
    · have li : (i : Int) < (n : Int) := by omega
      have hlf : i < fs.length := by have := NE.out; omega
      obtain ⟨b, o, DA, dc, eA, hl, h1, h2, _⟩ := H.out i hlf
      subst eA
      have d1 := (HB.out.cell (p := ⟨b, o + i * 2, none⟩) hl).trans h1
      have d2 := (HB.out.cell (p := ⟨b, o + i * 2 + 1, none⟩) hl).trans h2
      have HT := Lib.hid (show (fs.take (i + 1)).any (fun x => (!okMode x.mode)) = (fun x : Fl => (!okMode x.mode)) fs[i] by
        rw [List.take_succ_eq_append_getElem hlf, List.any_append, NO.out]; simp)
      have HA := Lib.hid (show (fun x : Fl => (!okMode x.mode)) fs[i] = true → r0 = true from fun h => by rw [HR0.out]; exact List.any_eq_true.2 ⟨_, List.getElem_mem _, h⟩)
      clear h1 h2
      generalize fs[i] = x at *
      obtain ⟨md, dt⟩ := x
      have LM := Lib.hid (show wr.rangeAt b (o + i * 2) [.int .i64 md, .slice DA dt.length dc] from fun j v hj => by
        match j, hj with
        | 0, hj => injection hj with hj; subst hj; exact d1
        | 1, hj => injection hj with hj; subst hj; exact d2
        | j + 2, hj => simp at hj)
      have HT2 := Lib.hid (show (fs.take (i + 1)).any (fun x => (!okMode x.mode)) = (!okMode md) from HT.out)
      have HA2 := Lib.hid (show (!okMode md) = true → r0 = true from HA.out)
      have G := Lib.hid (fun W => wrongMode_any md (.slice DA dt.length dc) W)
      clear d1 d2 HT HA
      generalize (!okMode md) = r at HT2 HA2 G
      go_wp2_with (first
        | (refine wpList_load_mid rfl 49 _ rfl b (o + i * 2) rfl [.int .i64 md, .slice DA dt.length dc] _ LM.out Try.underlying49 rfl (by kernel_rfl) ?_)
        | (go_at_call 43; (with_reducible refine (G.out _).mono ?_); rintro e w1 ⟨rfl, hb⟩; have HB1 := Lib.hid (HB.out.trans (hb.mono HB.out.size)); clear hb))
      · rename_i hd
        go_ret
        exact ⟨⟨(i : Int), rfl, ⟨fun _ => HA2.out hd, fun _ => by omega⟩⟩, HB1.out⟩
      · rename_i hd
        go_roundw
        case rel => exact ⟨i + 1, by omega, by go_num, HT2.out.trans (by simpa using hd), HB1.out⟩
        case measure => first | (simp [intOf]; done) | (simp [intOf]; omega)
    · have li : ¬ (i : Int) < (n : Int) := by omega
      have e1 : fs.take i = fs := List.take_of_length_le (by have := NE.out; omega)
      have E := Lib.hid (show r0 = false by rw [HR0.out, ← NO.out, e1])
      clear e1
      go_wp2
      go_ret
      exact ⟨⟨-1, rfl, ⟨fun h => absurd h (by decide), fun h => by rw [E.out] at h; cases h⟩⟩, HB.out⟩
theorem wrong_contains (A : Option Addr) (c : Nat) (fs : List Fl) (w : World) (hn : fs.length ≤ 1000000) (h : FilesAt w A fs) :
    Calls Try.prog 42 #[.slice A fs.length c, .func (.func 43) #[] #[]] w fun e w' => e = .returned (.bool (fs.any (fun x => (!okMode x.mode)))) ∧ Below w.heap.size w w' := by
  have K := Lib.hid (wrong_index A c fs w hn h)
  clear h hn
  generalize fs.any (fun x => (!okMode x.mode)) = r at *
  go_enter Try.func42, Try.ntmps42
  go_wp2_with (go_at_call 58; (with_reducible refine K.out.mono ?_); rintro e w1 ⟨⟨k, rfl, hk⟩, hb⟩; have HB := Lib.hid hb; have HK := Lib.hid hk; clear hb hk)
  go_ret
  refine ⟨?_, HB.out⟩
  have e : decide (0 ≤ k) = r := by
    have := HK.out
    cases r with
    | true => exact decide_eq_true (this.2 rfl)
    | false => exact decide_eq_false (fun h => by cases this.1 h)
  rw [← e]
  rfl
end Go.Proofs.Ytdnagkgblmcojaa
