/-
What is proved here: Lent of a list of lists, by a contract.
-/
import Derived.Test.YtfgpaffcfkbjlaaLei
set_option linter.unusedSimpArgs false
set_option linter.unusedVariables false
namespace Go.Proofs.Ytfgpaffcfkbjlaa
open Go.Cmp Go.RowKit
open Go.Word in
set_option maxRecDepth 100000 in
set_option maxHeartbeats 8000000 in
theorem lent_any (LA : Option Addr) (lc : Nat) (ls : List (List Int)) (w : World) (hL : LsAt w LA ls) (hn : ls.length ≤ 1000000) (hb : ∀ x ∈ ls, x.length ≤ 100000) :
    Calls Try.prog 9 #[.slice LA ls.length lc] w fun e w' => (∃ A C, e = .returned (.slice A ls.length C) ∧ LentF w' w.heap.size A C ls) ∧ Below w.heap.size w w' := by
  have HL := Lib.hid hL
  have HB := Lib.hid hb
  obtain ⟨n, hne⟩ : ∃ n, n = ls.length := ⟨_, rfl⟩
  have NE := Lib.hid hne
  rw [← hne] at hn ⊢
  clear hL hb hne
  go_enter Try.func9, Try.ntmps9
  go_wp2
  go_loopw [3, 4] (fun v3 v4 wr => ∃ (i : Nat) (V : Value), i ≤ n ∧ V = v3 ∧ v4 = .int .i64 (i : Int) ∧ LentL wr w.heap.size V (ls.take i) ∧ Below w.heap.size w wr) (fun _ v4 _ => n - (intOf v4).toNat)
  case atStart => exact ⟨0, _, Nat.zero_le _, rfl, rfl, by simpa using lentL_nil w w.heap.size, Below.refl _ _⟩
  case round =>
    obtain ⟨i, V, hi, hV, rfl, hl, hb⟩ := hrel
    subst hV
    have HW := Lib.hid hb
    have HX := Lib.hid hl
    clear hl hb
    by_cases hlt : i < n
    · have li : (i : Int) < (n : Int) := by omega
      go_upto_region 5 with (fail)
      have lf : i < ls.length := by have := NE.out; omega
      obtain ⟨b, o, DA, dc, eA, hbl, hcell, _, hby⟩ := HL.out i lf
      subst eA
      have after : ∀ W, Below w.heap.size w W → Hid (W.cell? ⟨b, o + i, none⟩ = some (.slice DA ls[i].length dc)) := fun W hb => Lib.hid ((hb.cell (p := ⟨b, o + i, none⟩) hbl).trans hcell)
      have afterB : ∀ W, Below w.heap.size w W → Hid (IntsAt W DA ls[i]) := fun W hb => Lib.hid (intsAt_below hby hb)
      have QE := Lib.hid (show ls.take (i + 1) = ls.take i ++ [ls[i]] from List.take_succ_eq_append_getElem lf)
      have HQ := Lib.hid (show (ls.take i).length = i by rw [List.length_take]; omega)
      have DL := Lib.hid (HB.out ls[i] (List.getElem_mem lf))
      generalize ls.take i = q at *
      generalize ls[i] = d at *
      obtain ⟨dn, hdn⟩ : ∃ dn, dn = d.length := ⟨_, rfl⟩
      have DN := Lib.hid hdn
      rw [← hdn] at after
      clear hdn hcell hby
      have KF : ∀ (lq : Array Bool) (pq kq : Nat) (uq : Value) (W W' : World), (pq ≠ 7 ∧ pq ≠ 15) → W.grownBy W' none → ((fun (l_ : Array Bool) (j_ : Nat) (v_ : Value) (W : World) => match j_ with | 0 => v_ = V | 1 => v_ = .slice (some ⟨b, o, none⟩) n lc | 2 => v_ = .int .i64 (i : Int) | 3 => v_ = .pointer (some ⟨b, o + i, none⟩) | 4 => v_ = .slice DA dn dc | 5 => (∃ A C, v_ = .slice A dn C ∧ (l_.getD 7 false = false → W.ownsRow wr.heap.size 3 1 (.slice A dn C) dn (d.map iV))) | 6 => (∃ G, v_ = .slice (some ⟨G, 0, none⟩) 1 1 ∧ (l_.getD 7 false = false → Lies W G 3 #[.int .i64 (-71)])) | 7 => (∃ A C, v_ = .slice A (dn + 1) C ∧ (l_.getD 15 false = false → W.ownsRow wr.heap.size 3 1 (.slice A (dn + 1) C) (dn + 1) ((d ++ [-71]).map iV))) | 8 => v_ = .slice (some ⟨b, o, none⟩) n lc | 9 => v_ = .int .i64 (i : Int) | 10 => v_ = .pointer (some ⟨b, o + i, none⟩) | 11 => v_ = .slice DA dn dc | 12 => v_ = .int .i64 (dn : Int) | 13 => (∃ A C, v_ = .slice A dn C ∧ (l_.getD 15 false = false → W.ownsRow wr.heap.size 3 1 (.slice A (dn + 1) C) (dn + 1) ((d ++ [-71]).map iV))) | 14 => (∃ G A C, v_ = .slice (some ⟨G, 0, none⟩) 1 1 ∧ (l_.getD 15 false = false → (Lies W G 33 #[.slice A dn C] ∧ W.ownsRow wr.heap.size 3 1 (.slice A (dn + 1) C) (dn + 1) ((d ++ [-71]).map iV)))) | 15 => (∃ A C, v_ = .slice A (i + 1) C ∧ LentL W w.heap.size (.slice A (i + 1) C) (q ++ [d])) | 16 => (∃ A C, v_ = .slice A (i + 1) C ∧ LentL W w.heap.size (.slice A (i + 1) C) (q ++ [d])) | _ => True) : Array Bool → Nat → Value → World → Prop) lq kq uq W → ((fun (l_ : Array Bool) (j_ : Nat) (v_ : Value) (W : World) => match j_ with | 0 => v_ = V | 1 => v_ = .slice (some ⟨b, o, none⟩) n lc | 2 => v_ = .int .i64 (i : Int) | 3 => v_ = .pointer (some ⟨b, o + i, none⟩) | 4 => v_ = .slice DA dn dc | 5 => (∃ A C, v_ = .slice A dn C ∧ (l_.getD 7 false = false → W.ownsRow wr.heap.size 3 1 (.slice A dn C) dn (d.map iV))) | 6 => (∃ G, v_ = .slice (some ⟨G, 0, none⟩) 1 1 ∧ (l_.getD 7 false = false → Lies W G 3 #[.int .i64 (-71)])) | 7 => (∃ A C, v_ = .slice A (dn + 1) C ∧ (l_.getD 15 false = false → W.ownsRow wr.heap.size 3 1 (.slice A (dn + 1) C) (dn + 1) ((d ++ [-71]).map iV))) | 8 => v_ = .slice (some ⟨b, o, none⟩) n lc | 9 => v_ = .int .i64 (i : Int) | 10 => v_ = .pointer (some ⟨b, o + i, none⟩) | 11 => v_ = .slice DA dn dc | 12 => v_ = .int .i64 (dn : Int) | 13 => (∃ A C, v_ = .slice A dn C ∧ (l_.getD 15 false = false → W.ownsRow wr.heap.size 3 1 (.slice A (dn + 1) C) (dn + 1) ((d ++ [-71]).map iV))) | 14 => (∃ G A C, v_ = .slice (some ⟨G, 0, none⟩) 1 1 ∧ (l_.getD 15 false = false → (Lies W G 33 #[.slice A dn C] ∧ W.ownsRow wr.heap.size 3 1 (.slice A (dn + 1) C) (dn + 1) ((d ++ [-71]).map iV)))) | 15 => (∃ A C, v_ = .slice A (i + 1) C ∧ LentL W w.heap.size (.slice A (i + 1) C) (q ++ [d])) | 16 => (∃ A C, v_ = .slice A (i + 1) C ∧ LentL W w.heap.size (.slice A (i + 1) C) (q ++ [d])) | _ => True) : Array Bool → Nat → Value → World → Prop) (lq.setIfInBounds pq true) kq uq W' := fun lq pq kq uq W W' hp hg h => by
        have h7_ : (lq.setIfInBounds pq true).getD 7 false = lq.getD 7 false := by rw [getD_set_ne false (hp.1)]
        have h15_ : (lq.setIfInBounds pq true).getD 15 false = lq.getD 15 false := by rw [getD_set_ne false (hp.2)]
        have kl : ∀ {g t cs}, Lies W g t cs → Lies W' g t cs := fun h => (hg.block _ (lies_lt h) (by simp)).trans h
        have ko : ∀ {B e z v k xs}, W.ownsRow B e z v k xs → W'.ownsRow B e z v k xs := fun {B e z v k xs} h => h.kept hg (by cases v.ownBlock <;> simp)
        match kq, h with
        | 0, h => exact h
        | 1, h => exact h
        | 2, h => exact h
        | 3, h => exact h
        | 4, h => exact h
        | 5, ⟨A, C, e, h⟩ => exact ⟨A, C, e, fun h6 => by have h := h (by rw [← h7_]; exact h6); exact ko h⟩
        | 6, ⟨G, e, h⟩ => exact ⟨G, e, fun h6 => by have h := h (by rw [← h7_]; exact h6); exact kl h⟩
        | 7, ⟨A, C, e, h⟩ => exact ⟨A, C, e, fun h6 => by have h := h (by rw [← h15_]; exact h6); exact ko h⟩
        | 8, h => exact h
        | 9, h => exact h
        | 10, h => exact h
        | 11, h => exact h
        | 12, h => exact h
        | 13, ⟨A, C, e, h⟩ => exact ⟨A, C, e, fun h6 => by have h := h (by rw [← h15_]; exact h6); exact ko h⟩
        | 14, ⟨G, A, C, e, h⟩ => exact ⟨G, A, C, e, fun h6 => by have h := h (by rw [← h15_]; exact h6); exact ⟨kl h.1, ko h.2⟩⟩
        | 15, ⟨A, C, e, h⟩ => exact ⟨A, C, e, (lentL_grown h hg)⟩
        | 16, ⟨A, C, e, h⟩ => exact ⟨A, C, e, (lentL_grown h hg)⟩
        | _ + 17, _ => exact trivial
      have gr : ∀ W : World, W.grownBy W none := fun W => ⟨rfl, rfl, rfl, Nat.le_refl _, fun _ _ _ => rfl⟩
      have KP := fun (lq : Array Bool) (pq : Nat) (W : World) (hp : pq ≠ 7 ∧ pq ≠ 15) => fun (kq : Nat) (uq : Value) (_ : kq ≠ pq) (_ : lq.getD kq false = true) (h : ((fun (l_ : Array Bool) (j_ : Nat) (v_ : Value) (W : World) => match j_ with | 0 => v_ = V | 1 => v_ = .slice (some ⟨b, o, none⟩) n lc | 2 => v_ = .int .i64 (i : Int) | 3 => v_ = .pointer (some ⟨b, o + i, none⟩) | 4 => v_ = .slice DA dn dc | 5 => (∃ A C, v_ = .slice A dn C ∧ (l_.getD 7 false = false → W.ownsRow wr.heap.size 3 1 (.slice A dn C) dn (d.map iV))) | 6 => (∃ G, v_ = .slice (some ⟨G, 0, none⟩) 1 1 ∧ (l_.getD 7 false = false → Lies W G 3 #[.int .i64 (-71)])) | 7 => (∃ A C, v_ = .slice A (dn + 1) C ∧ (l_.getD 15 false = false → W.ownsRow wr.heap.size 3 1 (.slice A (dn + 1) C) (dn + 1) ((d ++ [-71]).map iV))) | 8 => v_ = .slice (some ⟨b, o, none⟩) n lc | 9 => v_ = .int .i64 (i : Int) | 10 => v_ = .pointer (some ⟨b, o + i, none⟩) | 11 => v_ = .slice DA dn dc | 12 => v_ = .int .i64 (dn : Int) | 13 => (∃ A C, v_ = .slice A dn C ∧ (l_.getD 15 false = false → W.ownsRow wr.heap.size 3 1 (.slice A (dn + 1) C) (dn + 1) ((d ++ [-71]).map iV))) | 14 => (∃ G A C, v_ = .slice (some ⟨G, 0, none⟩) 1 1 ∧ (l_.getD 15 false = false → (Lies W G 33 #[.slice A dn C] ∧ W.ownsRow wr.heap.size 3 1 (.slice A (dn + 1) C) (dn + 1) ((d ++ [-71]).map iV)))) | 15 => (∃ A C, v_ = .slice A (i + 1) C ∧ LentL W w.heap.size (.slice A (i + 1) C) (q ++ [d])) | 16 => (∃ A C, v_ = .slice A (i + 1) C ∧ LentL W w.heap.size (.slice A (i + 1) C) (q ++ [d])) | _ => True) : Array Bool → Nat → Value → World → Prop) lq kq uq W) => KF lq pq kq uq W W hp (gr W) h
      have IV : ∀ (l : Array Bool) (p : Nat) (W W' : World), p ≠ 15 → W.grownBy W' none → ((fun (l_ : Array Bool) (W : World) => (l_.getD 15 false = false → wr.grownBy W none) ∧ Below w.heap.size w W) : Array Bool → World → Prop) l W → ((fun (l_ : Array Bool) (W : World) => (l_.getD 15 false = false → wr.grownBy W none) ∧ Below w.heap.size w W) : Array Bool → World → Prop) (l.setIfInBounds p true) W' := fun l p W W' hp hg h => ⟨fun h6 => grown_none_trans (h.1 (by rw [getD_set_ne false hp] at h6; exact h6)) hg, h.2.grown hg h.2.size (fun k e => by cases e)⟩
      refine wp_region_any (by kernel_rfl) ?_
      refine every_factI (own := ownAll _) id ((fun (l_ : Array Bool) (j_ : Nat) (v_ : Value) (W : World) => match j_ with | 0 => v_ = V | 1 => v_ = .slice (some ⟨b, o, none⟩) n lc | 2 => v_ = .int .i64 (i : Int) | 3 => v_ = .pointer (some ⟨b, o + i, none⟩) | 4 => v_ = .slice DA dn dc | 5 => (∃ A C, v_ = .slice A dn C ∧ (l_.getD 7 false = false → W.ownsRow wr.heap.size 3 1 (.slice A dn C) dn (d.map iV))) | 6 => (∃ G, v_ = .slice (some ⟨G, 0, none⟩) 1 1 ∧ (l_.getD 7 false = false → Lies W G 3 #[.int .i64 (-71)])) | 7 => (∃ A C, v_ = .slice A (dn + 1) C ∧ (l_.getD 15 false = false → W.ownsRow wr.heap.size 3 1 (.slice A (dn + 1) C) (dn + 1) ((d ++ [-71]).map iV))) | 8 => v_ = .slice (some ⟨b, o, none⟩) n lc | 9 => v_ = .int .i64 (i : Int) | 10 => v_ = .pointer (some ⟨b, o + i, none⟩) | 11 => v_ = .slice DA dn dc | 12 => v_ = .int .i64 (dn : Int) | 13 => (∃ A C, v_ = .slice A dn C ∧ (l_.getD 15 false = false → W.ownsRow wr.heap.size 3 1 (.slice A (dn + 1) C) (dn + 1) ((d ++ [-71]).map iV))) | 14 => (∃ G A C, v_ = .slice (some ⟨G, 0, none⟩) 1 1 ∧ (l_.getD 15 false = false → (Lies W G 33 #[.slice A dn C] ∧ W.ownsRow wr.heap.size 3 1 (.slice A (dn + 1) C) (dn + 1) ((d ++ [-71]).map iV)))) | 15 => (∃ A C, v_ = .slice A (i + 1) C ∧ LentL W w.heap.size (.slice A (i + 1) C) (q ++ [d])) | 16 => (∃ A C, v_ = .slice A (i + 1) C ∧ LentL W w.heap.size (.slice A (i + 1) C) (q ++ [d])) | _ => True) : Array Bool → Nat → Value → World → Prop) ((fun (l_ : Array Bool) (W : World) => (l_.getD 15 false = false → wr.grownBy W none) ∧ Below w.heap.size w W) : Array Bool → World → Prop) (acAll_of (by kernel_rfl)) (onAll_of (by kernel_rfl)) (dstAll_of (by kernel_rfl)) ?hop ?hend _ _ _ _ (fun _ => undef) rfl (shut_none _) (of_decide_eq_true (by kernel_rfl)) (tabd_start (fun i => rep_false _ i)) (fun k hk => by rw [rep_false] at hk; cases hk) ⟨fun _ => ⟨rfl, rfl, rfl, Nat.le_refl _, fun _ _ _ => rfl⟩, (HW.out).drew⟩
      case hop =>
        intro j oi a w0 listed vals hoi hs hcl hun hdeps ht hF hI
        have hj : j < 17 := (Array.getElem?_eq_some_iff.1 hoi).1
        have cj : j = 0 ∨ j = 1 ∨ j = 2 ∨ j = 3 ∨ j = 4 ∨ j = 5 ∨ j = 6 ∨ j = 7 ∨ j = 8 ∨ j = 9 ∨ j = 10 ∨ j = 11 ∨ j = 12 ∨ j = 13 ∨ j = 14 ∨ j = 15 ∨ j = 16 := by omega
        obtain rfl | rfl | rfl | rfl | rfl | rfl | rfl | rfl | rfl | rfl | rfl | rfl | rfl | rfl | rfl | rfl | rfl := cj
        all_goals obtain rfl := Option.some.inj hoi
        · have e3 : a.eval (.tmp 3) = V := (tabd_unlisted ht (t := 3) (i := 16) (of_decide_eq_true (by kernel_rfl)) (by kernel_rfl) (by cases h : listed.getD 16 false with | false => rfl | true => exact absurd (hcl 16 _ rfl h ⟨0, .phase⟩ (by simp) rfl) (by simp [hun]))).trans rfl
          exact .inl ⟨rfl, fun K hk => wp_val (v := V) (by clear hk hI hoi hdeps ht hF hcl hs KF KP IV; generalize a.eval = ρ at *; unfold execOp; simp only [e3]; go_simp; try (intro hq_; exfalso; omega)) (hk _ _ rfl (KP listed 0 w0 (by decide)) (IV listed 0 w0 w0 (by decide) (gr w0) hI))⟩
        · have e0 : a.eval (.tmp 0) = .slice (some ⟨b, o, none⟩) n lc := (tabd_old ht (t := 0) (of_decide_eq_true (by kernel_rfl)) (by kernel_rfl)).trans rfl
          exact .inl ⟨rfl, fun K hk => wp_val (v := .slice (some ⟨b, o, none⟩) n lc) (by clear hk hI hoi hdeps ht hF hcl hs KF KP IV; generalize a.eval = ρ at *; unfold execOp; simp only [e0]; go_simp; try (intro hq_; exfalso; omega)) (hk _ _ rfl (KP listed 1 w0 (by decide)) (IV listed 1 w0 w0 (by decide) (gr w0) hI))⟩
        · have e4 : a.eval (.tmp 4) = .int .i64 (i : Int) := (tabd_old ht (t := 4) (of_decide_eq_true (by kernel_rfl)) (by kernel_rfl)).trans rfl
          exact .inl ⟨rfl, fun K hk => wp_val (v := .int .i64 (i : Int)) (by clear hk hI hoi hdeps ht hF hcl hs KF KP IV; generalize a.eval = ρ at *; unfold execOp; simp only [e4]; go_simp; try (intro hq_; exfalso; omega)) (hk _ _ rfl (KP listed 2 w0 (by decide)) (IV listed 2 w0 w0 (by decide) (gr w0) hI))⟩
        · have d1 := hdeps ⟨1, .data⟩ (by simp) rfl
          have d2 := hdeps ⟨2, .data⟩ (by simp) rfl
          have e12 : a.eval (.tmp 12) = .slice (some ⟨b, o, none⟩) n lc := (tabd_at ht (t := 12) (of_decide_eq_true (by kernel_rfl)) (by kernel_rfl) d1).trans (hF 1 d1)
          have e13 : a.eval (.tmp 13) = .int .i64 (i : Int) := (tabd_at ht (t := 13) (of_decide_eq_true (by kernel_rfl)) (by kernel_rfl) d2).trans (hF 2 d2)
          exact .inl ⟨rfl, fun K hk => wp_val (v := .pointer (some ⟨b, o + i, none⟩)) (by clear hk hI hoi hdeps ht hF hcl hs KF KP IV; generalize a.eval = ρ at *; unfold execOp; simp only [e12, e13]; go_simp; try (intro hq_; exfalso; omega)) (hk _ _ rfl (KP listed 3 w0 (by decide)) (IV listed 3 w0 w0 (by decide) (gr w0) hI))⟩
        · have d3 := hdeps ⟨3, .data⟩ (by simp) rfl
          have e14 : a.eval (.tmp 14) = .pointer (some ⟨b, o + i, none⟩) := (tabd_at ht (t := 14) (of_decide_eq_true (by kernel_rfl)) (by kernel_rfl) d3).trans (hF 3 d3)
          exact .inl ⟨rfl, fun K hk => wp_val (v := .slice DA dn dc) (by have hc := (after w0 hI.2).out; clear hk hI hoi hdeps ht hF hcl hs KF KP IV; generalize a.eval = ρ at *; unfold execOp; simp only [e14]; go_simp; try (intro hq_; exfalso; omega)) (hk _ _ rfl (KP listed 4 w0 (by decide)) (IV listed 4 w0 w0 (by decide) (gr w0) hI))⟩
        · have d4 := hdeps ⟨4, .data⟩ (by simp) rfl
          have e15 : a.eval (.tmp 15) = .slice DA dn dc := (tabd_at ht (t := 15) (of_decide_eq_true (by kernel_rfl)) (by kernel_rfl) d4).trans (hF 4 d4)
          refine .inl ⟨rfl, fun K hk => ?_⟩
          obtain ⟨v, w1, hr, ho, hg⟩ := run_app_freshI w0 33 DA dc d (afterB w0 hI.2).out (by have := DL.out; have := DN.out; omega)
          obtain ⟨A, C, rfl⟩ := own_slice ho
          have hle := (hI.1 (by cases h15 : listed.getD 15 false with | false => rfl | true => exact absurd ((hcl 7 _ rfl (hcl 15 _ rfl h15 ⟨7, .chain⟩ (by simp) rfl) ⟨5, .data⟩ (by simp) rfl)) (by simp [hun]))).size
          exact wp_valT (w' := w1) (app_op _ _ rfl rfl e15 (by rw [← DN.out] at hr; exact hr)) (hk _ w1 ⟨A, C, by rw [DN.out], fun _ => by have := World.ownsRow.mono ho hle; rw [← DN.out] at this; exact this⟩ (fun k u _ _ h => KF listed 5 k u w0 w1 (by decide) hg h) (IV listed 5 w0 w1 (by decide) hg hI))
        · refine .inl ⟨rfl, fun K hk => ?_⟩
          obtain ⟨i0, hi0, hz0, hz1, hz2⟩ := info_parts int_info
          exact wp_buildSlice 33 3 1 _ rfl #[.int .i64 (-71)] i0 _ Try.underlying33 hi0 hz0 (by rw [hz1]; decide) (by rw [hz1]; decide) (by rw [hz1]; kernel_rfl) (hk _ _ ⟨w0.heap.size, rfl, fun _ => lies_new w0 3 #[.int .i64 (-71)]⟩ (fun k u _ _ h => KF listed 6 k u w0 _ (by decide) (World.grownBy_alloc w0 _ none) h) (IV listed 6 w0 _ (by decide) (World.grownBy_alloc w0 _ none) hI))
        · have d5 := hdeps ⟨5, .data⟩ (by simp) rfl
          have d6 := hdeps ⟨6, .data⟩ (by simp) rfl
          have f5 := hF 5 d5
          have e16 : a.eval (.tmp 16) = vals 5 := tabd_at ht (t := 16) (of_decide_eq_true (by kernel_rfl)) (by kernel_rfl) d5
          have f6 := hF 6 d6
          have e17 : a.eval (.tmp 17) = vals 6 := tabd_at ht (t := 17) (of_decide_eq_true (by kernel_rfl)) (by kernel_rfl) d6
          refine .inl ⟨rfl, fun K hk => ?_⟩
          have PR := fun W' => show ∀ (kq : Nat) (uq : Value), kq ≠ 7 → listed.getD kq false = true → ((fun (l_ : Array Bool) (j_ : Nat) (v_ : Value) (W : World) => match j_ with | 0 => v_ = V | 1 => v_ = .slice (some ⟨b, o, none⟩) n lc | 2 => v_ = .int .i64 (i : Int) | 3 => v_ = .pointer (some ⟨b, o + i, none⟩) | 4 => v_ = .slice DA dn dc | 5 => (∃ A C, v_ = .slice A dn C ∧ (l_.getD 7 false = false → W.ownsRow wr.heap.size 3 1 (.slice A dn C) dn (d.map iV))) | 6 => (∃ G, v_ = .slice (some ⟨G, 0, none⟩) 1 1 ∧ (l_.getD 7 false = false → Lies W G 3 #[.int .i64 (-71)])) | 7 => (∃ A C, v_ = .slice A (dn + 1) C ∧ (l_.getD 15 false = false → W.ownsRow wr.heap.size 3 1 (.slice A (dn + 1) C) (dn + 1) ((d ++ [-71]).map iV))) | 8 => v_ = .slice (some ⟨b, o, none⟩) n lc | 9 => v_ = .int .i64 (i : Int) | 10 => v_ = .pointer (some ⟨b, o + i, none⟩) | 11 => v_ = .slice DA dn dc | 12 => v_ = .int .i64 (dn : Int) | 13 => (∃ A C, v_ = .slice A dn C ∧ (l_.getD 15 false = false → W.ownsRow wr.heap.size 3 1 (.slice A (dn + 1) C) (dn + 1) ((d ++ [-71]).map iV))) | 14 => (∃ G A C, v_ = .slice (some ⟨G, 0, none⟩) 1 1 ∧ (l_.getD 15 false = false → (Lies W G 33 #[.slice A dn C] ∧ W.ownsRow wr.heap.size 3 1 (.slice A (dn + 1) C) (dn + 1) ((d ++ [-71]).map iV)))) | 15 => (∃ A C, v_ = .slice A (i + 1) C ∧ LentL W w.heap.size (.slice A (i + 1) C) (q ++ [d])) | 16 => (∃ A C, v_ = .slice A (i + 1) C ∧ LentL W w.heap.size (.slice A (i + 1) C) (q ++ [d])) | _ => True) : Array Bool → Nat → Value → World → Prop) listed kq uq w0 → ((fun (l_ : Array Bool) (j_ : Nat) (v_ : Value) (W : World) => match j_ with | 0 => v_ = V | 1 => v_ = .slice (some ⟨b, o, none⟩) n lc | 2 => v_ = .int .i64 (i : Int) | 3 => v_ = .pointer (some ⟨b, o + i, none⟩) | 4 => v_ = .slice DA dn dc | 5 => (∃ A C, v_ = .slice A dn C ∧ (l_.getD 7 false = false → W.ownsRow wr.heap.size 3 1 (.slice A dn C) dn (d.map iV))) | 6 => (∃ G, v_ = .slice (some ⟨G, 0, none⟩) 1 1 ∧ (l_.getD 7 false = false → Lies W G 3 #[.int .i64 (-71)])) | 7 => (∃ A C, v_ = .slice A (dn + 1) C ∧ (l_.getD 15 false = false → W.ownsRow wr.heap.size 3 1 (.slice A (dn + 1) C) (dn + 1) ((d ++ [-71]).map iV))) | 8 => v_ = .slice (some ⟨b, o, none⟩) n lc | 9 => v_ = .int .i64 (i : Int) | 10 => v_ = .pointer (some ⟨b, o + i, none⟩) | 11 => v_ = .slice DA dn dc | 12 => v_ = .int .i64 (dn : Int) | 13 => (∃ A C, v_ = .slice A dn C ∧ (l_.getD 15 false = false → W.ownsRow wr.heap.size 3 1 (.slice A (dn + 1) C) (dn + 1) ((d ++ [-71]).map iV))) | 14 => (∃ G A C, v_ = .slice (some ⟨G, 0, none⟩) 1 1 ∧ (l_.getD 15 false = false → (Lies W G 33 #[.slice A dn C] ∧ W.ownsRow wr.heap.size 3 1 (.slice A (dn + 1) C) (dn + 1) ((d ++ [-71]).map iV)))) | 15 => (∃ A C, v_ = .slice A (i + 1) C ∧ LentL W w.heap.size (.slice A (i + 1) C) (q ++ [d])) | 16 => (∃ A C, v_ = .slice A (i + 1) C ∧ LentL W w.heap.size (.slice A (i + 1) C) (q ++ [d])) | _ => True) : Array Bool → Nat → Value → World → Prop) (listed.setIfInBounds 7 true) kq uq W' from
            (fun kq uq hkp hkl h => by
              have s_ : (listed.setIfInBounds 7 true).getD 7 false = true := getD_here (by rw [hs]; decide)
              match kq, hkp, hkl, h with
              | 0, _, _, h => exact h
              | 1, _, _, h => exact h
              | 2, _, _, h => exact h
              | 3, _, _, h => exact h
              | 4, _, _, h => exact h
              | 5, _, _, ⟨A, C, e, _⟩ => exact ⟨A, C, e, fun h6 => by rw [s_] at h6; cases h6⟩
              | 6, _, _, ⟨G, e, _⟩ => exact ⟨G, e, fun h6 => by rw [s_] at h6; cases h6⟩
              | 7, hk, _, _ => exact absurd rfl hk
              | 8, _, _, h => exact h
              | 9, _, _, h => exact h
              | 10, _, _, h => exact h
              | 11, _, _, h => exact h
              | 12, _, _, h => exact h
              | 13, _, h, _ => exact absurd ((hcl 13 _ rfl h ⟨7, .data⟩ (by simp) rfl)) (by simp [hun])
              | 14, _, h, _ => exact absurd ((hcl 13 _ rfl (hcl 14 _ rfl h ⟨13, .data⟩ (by simp) rfl) ⟨7, .data⟩ (by simp) rfl)) (by simp [hun])
              | 15, _, h, _ => exact absurd ((hcl 15 _ rfl h ⟨7, .chain⟩ (by simp) rfl)) (by simp [hun])
              | 16, _, h, _ => exact absurd ((hcl 16 _ rfl h ⟨7, .phase⟩ (by simp) rfl)) (by simp [hun])
              | _ + 17, _, _, _ => exact trivial)
          obtain ⟨A, C, e5, h5⟩ := f5
          obtain ⟨G, e6, h6⟩ := f6
          have l15 : listed.getD 15 false = false := (by cases h15 : listed.getD 15 false with | false => rfl | true => exact absurd (hcl 15 _ rfl h15 ⟨7, .chain⟩ (by simp) rfl) (by simp [hun]))
          have g0 := hI.1 l15
          obtain ⟨A', C', Z, hr, ho, hg, hb⟩ := row_int w0 wr.heap.size G (.slice A dn C) d (by rw [DN.out] at h5 ⊢; exact h5 hun) (lies_cell (h6 hun) 0) g0.size (by have := DL.out; omega)
          rw [← DN.out] at hr ho
          have gz : wr.grownBy Z none := ⟨hg.os.trans g0.os, hg.tape.trans g0.tape, hg.output.trans g0.output, Nat.le_trans g0.size hg.size, fun q hq _ => (hg.block q (Nat.lt_of_lt_of_le hq g0.size) (fun e => by have := hb q e.symm; omega)).trans (g0.block q hq (by simp))⟩
          exact wp_valT (w' := Z) (app_op _ _ rfl (e16.trans e5) (e17.trans e6) hr) (hk _ Z ⟨A', C', rfl, fun _ => ho⟩ (PR _) ⟨fun _ => gz, HW.out.grown gz HW.out.size (fun k e => by cases e)⟩)
        · have e0 : a.eval (.tmp 0) = .slice (some ⟨b, o, none⟩) n lc := (tabd_old ht (t := 0) (of_decide_eq_true (by kernel_rfl)) (by kernel_rfl)).trans rfl
          exact .inl ⟨rfl, fun K hk => wp_val (v := .slice (some ⟨b, o, none⟩) n lc) (by clear hk hI hoi hdeps ht hF hcl hs KF KP IV; generalize a.eval = ρ at *; unfold execOp; simp only [e0]; go_simp; try (intro hq_; exfalso; omega)) (hk _ _ rfl (KP listed 8 w0 (by decide)) (IV listed 8 w0 w0 (by decide) (gr w0) hI))⟩
        · have e4 : a.eval (.tmp 4) = .int .i64 (i : Int) := (tabd_old ht (t := 4) (of_decide_eq_true (by kernel_rfl)) (by kernel_rfl)).trans rfl
          exact .inl ⟨rfl, fun K hk => wp_val (v := .int .i64 (i : Int)) (by clear hk hI hoi hdeps ht hF hcl hs KF KP IV; generalize a.eval = ρ at *; unfold execOp; simp only [e4]; go_simp; try (intro hq_; exfalso; omega)) (hk _ _ rfl (KP listed 9 w0 (by decide)) (IV listed 9 w0 w0 (by decide) (gr w0) hI))⟩
        · have d8 := hdeps ⟨8, .data⟩ (by simp) rfl
          have d9 := hdeps ⟨9, .data⟩ (by simp) rfl
          have e19 : a.eval (.tmp 19) = .slice (some ⟨b, o, none⟩) n lc := (tabd_at ht (t := 19) (of_decide_eq_true (by kernel_rfl)) (by kernel_rfl) d8).trans (hF 8 d8)
          have e20 : a.eval (.tmp 20) = .int .i64 (i : Int) := (tabd_at ht (t := 20) (of_decide_eq_true (by kernel_rfl)) (by kernel_rfl) d9).trans (hF 9 d9)
          exact .inl ⟨rfl, fun K hk => wp_val (v := .pointer (some ⟨b, o + i, none⟩)) (by clear hk hI hoi hdeps ht hF hcl hs KF KP IV; generalize a.eval = ρ at *; unfold execOp; simp only [e19, e20]; go_simp; try (intro hq_; exfalso; omega)) (hk _ _ rfl (KP listed 10 w0 (by decide)) (IV listed 10 w0 w0 (by decide) (gr w0) hI))⟩
        · have d10 := hdeps ⟨10, .data⟩ (by simp) rfl
          have e21 : a.eval (.tmp 21) = .pointer (some ⟨b, o + i, none⟩) := (tabd_at ht (t := 21) (of_decide_eq_true (by kernel_rfl)) (by kernel_rfl) d10).trans (hF 10 d10)
          exact .inl ⟨rfl, fun K hk => wp_val (v := .slice DA dn dc) (by have hc := (after w0 hI.2).out; clear hk hI hoi hdeps ht hF hcl hs KF KP IV; generalize a.eval = ρ at *; unfold execOp; simp only [e21]; go_simp; try (intro hq_; exfalso; omega)) (hk _ _ rfl (KP listed 11 w0 (by decide)) (IV listed 11 w0 w0 (by decide) (gr w0) hI))⟩
        · have d11 := hdeps ⟨11, .data⟩ (by simp) rfl
          have e22 : a.eval (.tmp 22) = .slice DA dn dc := (tabd_at ht (t := 22) (of_decide_eq_true (by kernel_rfl)) (by kernel_rfl) d11).trans (hF 11 d11)
          exact .inl ⟨rfl, fun K hk => wp_val (v := .int .i64 (dn : Int)) (by clear hk hI hoi hdeps ht hF hcl hs KF KP IV; generalize a.eval = ρ at *; unfold execOp; simp only [e22]; go_simp; try (intro hq_; exfalso; omega)) (hk _ _ rfl (KP listed 12 w0 (by decide)) (IV listed 12 w0 w0 (by decide) (gr w0) hI))⟩
        · have d7 := hdeps ⟨7, .data⟩ (by simp) rfl
          have d12 := hdeps ⟨12, .data⟩ (by simp) rfl
          have f7 := hF 7 d7
          have e18 : a.eval (.tmp 18) = vals 7 := tabd_at ht (t := 18) (of_decide_eq_true (by kernel_rfl)) (by kernel_rfl) d7
          have e23 : a.eval (.tmp 23) = .int .i64 (dn : Int) := (tabd_at ht (t := 23) (of_decide_eq_true (by kernel_rfl)) (by kernel_rfl) d12).trans (hF 12 d12)
          refine .inl ⟨rfl, fun K hk => ?_⟩
          obtain ⟨A, C, e7, h7⟩ := f7
          have l15 : listed.getD 15 false = false := (by cases h15 : listed.getD 15 false with | false => rfl | true => exact absurd (hcl 14 _ rfl (hcl 15 _ rfl h15 ⟨14, .data⟩ (by simp) rfl) ⟨13, .data⟩ (by simp) rfl) (by simp [hun]))
          have hcap := row_cap (h7 l15)
          have hcut := cuti_to A (dn + 1) C dn (by omega) w0
          exact wp_val (v := .slice A dn C) (by clear hk hI hoi hdeps ht hF hcl hs KF KP IV; rw [e7] at e18; generalize a.eval = ρ at *; unfold execOp; simp only [e18, e23]; go_simp) (hk _ _ ⟨A, C, rfl, fun h6 => h7 l15⟩ (KP listed 13 w0 (by decide)) (IV listed 13 w0 w0 (by decide) (gr w0) hI))
        · have d13 := hdeps ⟨13, .data⟩ (by simp) rfl
          have f13 := hF 13 d13
          have e24 : a.eval (.tmp 24) = vals 13 := tabd_at ht (t := 24) (of_decide_eq_true (by kernel_rfl)) (by kernel_rfl) d13
          refine .inl ⟨rfl, fun K hk => ?_⟩
          obtain ⟨A, C, e13, h13⟩ := f13
          have l15 : listed.getD 15 false = false := (by cases h15 : listed.getD 15 false with | false => rfl | true => exact absurd (hcl 15 _ rfl h15 ⟨14, .data⟩ (by simp) rfl) (by simp [hun]))
          obtain ⟨i0, hi0, hz0, hz1, hz2⟩ := info_parts list_info
          exact wp_buildSlice 22 33 1 _ rfl #[.slice A dn C] i0 _ Try.underlying22 hi0 hz0 (by rw [hz1]; decide) (by rw [hz1]; decide) (by rw [hz1]; simp only [List.map_toArray, List.map_cons, List.map_nil, e24, e13]; kernel_rfl) (hk _ _ ⟨w0.heap.size, A, C, rfl, fun _ => ⟨lies_new w0 33 #[.slice A dn C], (h13 l15).alloc _⟩⟩ (fun k u _ _ h => KF listed 14 k u w0 _ (by decide) (World.grownBy_alloc w0 _ none) h) (IV listed 14 w0 _ (by decide) (World.grownBy_alloc w0 _ none) hI))
        · have d0 := hdeps ⟨0, .data⟩ (by simp) rfl
          have d14 := hdeps ⟨14, .data⟩ (by simp) rfl
          have d7 := hdeps ⟨7, .chain⟩ (by simp) rfl
          have e11 : a.eval (.tmp 11) = V := (tabd_at ht (t := 11) (of_decide_eq_true (by kernel_rfl)) (by kernel_rfl) d0).trans (hF 0 d0)
          have f14 := hF 14 d14
          have e25 : a.eval (.tmp 25) = vals 14 := tabd_at ht (t := 25) (of_decide_eq_true (by kernel_rfl)) (by kernel_rfl) d14
          refine .inl ⟨rfl, fun K hk => ?_⟩
          have PR := fun W' => show ∀ (kq : Nat) (uq : Value), kq ≠ 15 → listed.getD kq false = true → ((fun (l_ : Array Bool) (j_ : Nat) (v_ : Value) (W : World) => match j_ with | 0 => v_ = V | 1 => v_ = .slice (some ⟨b, o, none⟩) n lc | 2 => v_ = .int .i64 (i : Int) | 3 => v_ = .pointer (some ⟨b, o + i, none⟩) | 4 => v_ = .slice DA dn dc | 5 => (∃ A C, v_ = .slice A dn C ∧ (l_.getD 7 false = false → W.ownsRow wr.heap.size 3 1 (.slice A dn C) dn (d.map iV))) | 6 => (∃ G, v_ = .slice (some ⟨G, 0, none⟩) 1 1 ∧ (l_.getD 7 false = false → Lies W G 3 #[.int .i64 (-71)])) | 7 => (∃ A C, v_ = .slice A (dn + 1) C ∧ (l_.getD 15 false = false → W.ownsRow wr.heap.size 3 1 (.slice A (dn + 1) C) (dn + 1) ((d ++ [-71]).map iV))) | 8 => v_ = .slice (some ⟨b, o, none⟩) n lc | 9 => v_ = .int .i64 (i : Int) | 10 => v_ = .pointer (some ⟨b, o + i, none⟩) | 11 => v_ = .slice DA dn dc | 12 => v_ = .int .i64 (dn : Int) | 13 => (∃ A C, v_ = .slice A dn C ∧ (l_.getD 15 false = false → W.ownsRow wr.heap.size 3 1 (.slice A (dn + 1) C) (dn + 1) ((d ++ [-71]).map iV))) | 14 => (∃ G A C, v_ = .slice (some ⟨G, 0, none⟩) 1 1 ∧ (l_.getD 15 false = false → (Lies W G 33 #[.slice A dn C] ∧ W.ownsRow wr.heap.size 3 1 (.slice A (dn + 1) C) (dn + 1) ((d ++ [-71]).map iV)))) | 15 => (∃ A C, v_ = .slice A (i + 1) C ∧ LentL W w.heap.size (.slice A (i + 1) C) (q ++ [d])) | 16 => (∃ A C, v_ = .slice A (i + 1) C ∧ LentL W w.heap.size (.slice A (i + 1) C) (q ++ [d])) | _ => True) : Array Bool → Nat → Value → World → Prop) listed kq uq w0 → ((fun (l_ : Array Bool) (j_ : Nat) (v_ : Value) (W : World) => match j_ with | 0 => v_ = V | 1 => v_ = .slice (some ⟨b, o, none⟩) n lc | 2 => v_ = .int .i64 (i : Int) | 3 => v_ = .pointer (some ⟨b, o + i, none⟩) | 4 => v_ = .slice DA dn dc | 5 => (∃ A C, v_ = .slice A dn C ∧ (l_.getD 7 false = false → W.ownsRow wr.heap.size 3 1 (.slice A dn C) dn (d.map iV))) | 6 => (∃ G, v_ = .slice (some ⟨G, 0, none⟩) 1 1 ∧ (l_.getD 7 false = false → Lies W G 3 #[.int .i64 (-71)])) | 7 => (∃ A C, v_ = .slice A (dn + 1) C ∧ (l_.getD 15 false = false → W.ownsRow wr.heap.size 3 1 (.slice A (dn + 1) C) (dn + 1) ((d ++ [-71]).map iV))) | 8 => v_ = .slice (some ⟨b, o, none⟩) n lc | 9 => v_ = .int .i64 (i : Int) | 10 => v_ = .pointer (some ⟨b, o + i, none⟩) | 11 => v_ = .slice DA dn dc | 12 => v_ = .int .i64 (dn : Int) | 13 => (∃ A C, v_ = .slice A dn C ∧ (l_.getD 15 false = false → W.ownsRow wr.heap.size 3 1 (.slice A (dn + 1) C) (dn + 1) ((d ++ [-71]).map iV))) | 14 => (∃ G A C, v_ = .slice (some ⟨G, 0, none⟩) 1 1 ∧ (l_.getD 15 false = false → (Lies W G 33 #[.slice A dn C] ∧ W.ownsRow wr.heap.size 3 1 (.slice A (dn + 1) C) (dn + 1) ((d ++ [-71]).map iV)))) | 15 => (∃ A C, v_ = .slice A (i + 1) C ∧ LentL W w.heap.size (.slice A (i + 1) C) (q ++ [d])) | 16 => (∃ A C, v_ = .slice A (i + 1) C ∧ LentL W w.heap.size (.slice A (i + 1) C) (q ++ [d])) | _ => True) : Array Bool → Nat → Value → World → Prop) (listed.setIfInBounds 15 true) kq uq W' from
            (fun kq uq hkp hkl h => by
              have s_ : (listed.setIfInBounds 15 true).getD 15 false = true := getD_here (by rw [hs]; decide)
              match kq, hkp, hkl, h with
              | 0, _, _, h => exact h
              | 1, _, _, h => exact h
              | 2, _, _, h => exact h
              | 3, _, _, h => exact h
              | 4, _, _, h => exact h
              | 5, _, _, ⟨A, C, e, _⟩ => exact ⟨A, C, e, fun h6 => by have h := hdeps ⟨7, .chain⟩ (by simp) rfl; have h := h; rw [getD_set_ne false (by decide), h] at h6; cases h6⟩
              | 6, _, _, ⟨G, e, _⟩ => exact ⟨G, e, fun h6 => by have h := hdeps ⟨7, .chain⟩ (by simp) rfl; have h := h; rw [getD_set_ne false (by decide), h] at h6; cases h6⟩
              | 7, _, _, ⟨A, C, e, _⟩ => exact ⟨A, C, e, fun h6 => by rw [s_] at h6; cases h6⟩
              | 8, _, _, h => exact h
              | 9, _, _, h => exact h
              | 10, _, _, h => exact h
              | 11, _, _, h => exact h
              | 12, _, _, h => exact h
              | 13, _, _, ⟨A, C, e, _⟩ => exact ⟨A, C, e, fun h6 => by rw [s_] at h6; cases h6⟩
              | 14, _, _, ⟨G, A, C, e, _⟩ => exact ⟨G, A, C, e, fun h6 => by rw [s_] at h6; cases h6⟩
              | 15, hk, _, _ => exact absurd rfl hk
              | 16, _, h, _ => exact absurd ((hcl 16 _ rfl h ⟨15, .data⟩ (by simp) rfl)) (by simp [hun])
              | _ + 17, _, _, _ => exact trivial)
          obtain ⟨G, A, C, e14, h14⟩ := f14
          obtain ⟨hG, hD⟩ := h14 hun
          have g0 := hI.1 hun
          obtain ⟨xs, hx1, hx2⟩ := lentL_grown HX.out g0
          rw [HQ.out] at hx1
          obtain ⟨A', C', Z, hr, ho, hg, hb⟩ := row_slice w0 w.heap.size G V (.slice A dn C) i xs hx1 (lies_cell hG 0) rfl hI.2.size (by omega)
          have hl2 : LentL Z w.heap.size (.slice A' (i + 1) C') (q ++ [d]) := by
            have := lentL_snoc (cs := q) (d := d) (x := .slice A dn C) (A := A') (C := C') (by rw [HQ.out]; exact hx1) hx2 ⟨A, C, by rw [DN.out], by rw [← DN.out]; exact World.ownsRow.mono hD HW.out.size⟩ (by rw [HQ.out]; exact ho) hg
            rw [HQ.out] at this
            exact this
          exact wp_valT (w' := Z) (app_op _ _ rfl e11 (e25.trans e14) hr) (hk _ Z ⟨A', C', rfl, hl2⟩ (PR _) ⟨(fun h6 => by rw [getD_here (by rw [hs]; decide)] at h6; cases h6), hI.2.grown hg hI.2.size (fun k e => (hb k e).1)⟩)
        · have d15 := hdeps ⟨15, .data⟩ (by simp) rfl
          have f15 := hF 15 d15
          have e26 : a.eval (.tmp 26) = vals 15 := tabd_at ht (t := 26) (of_decide_eq_true (by kernel_rfl)) (by kernel_rfl) d15
          refine .inl ⟨rfl, fun K hk => ?_⟩
          obtain ⟨A, C, e15, h15⟩ := f15
          exact wp_val (v := .slice A (i + 1) C) (by clear hk hI hoi hdeps ht hF hcl hs KF KP IV; rw [e15] at e26; generalize a.eval = ρ at *; unfold execOp; simp only [e26]; go_simp) (hk _ _ ⟨A, C, rfl, h15⟩ (KP listed 16 w0 (by decide)) (IV listed 16 w0 w0 (by decide) (gr w0) hI))
      case hend =>
        intro a w0 listed vals hall ht hF hI
        rw [tabd_fill ht (fun t i ho => hall i (ownAll_lt ho))]
        have g0 : vals 0 = V := hF 0 (by decide)
        have g1 : vals 1 = .slice (some ⟨b, o, none⟩) n lc := hF 1 (by decide)
        have g2 : vals 2 = .int .i64 (i : Int) := hF 2 (by decide)
        have g3 : vals 3 = .pointer (some ⟨b, o + i, none⟩) := hF 3 (by decide)
        have g4 : vals 4 = .slice DA dn dc := hF 4 (by decide)
        have g5 := hF 5 (by decide)
        have g6 := hF 6 (by decide)
        have g7 := hF 7 (by decide)
        have g8 : vals 8 = .slice (some ⟨b, o, none⟩) n lc := hF 8 (by decide)
        have g9 : vals 9 = .int .i64 (i : Int) := hF 9 (by decide)
        have g10 : vals 10 = .pointer (some ⟨b, o + i, none⟩) := hF 10 (by decide)
        have g11 : vals 11 = .slice DA dn dc := hF 11 (by decide)
        have g12 : vals 12 = .int .i64 (dn : Int) := hF 12 (by decide)
        have g13 := hF 13 (by decide)
        have g14 := hF 14 (by decide)
        have g15 := hF 15 (by decide)
        have g16 := hF 16 (by decide)
        change Exit.inBlock _ (Exit.then _ _) Exit.normal { tmps := #[.slice (some ⟨b, o, none⟩) n lc, undef, .slice none 0 0, vals 16, .int .i64 (i : Int), .int .i64 (i : Int), .slice (some ⟨b, o, none⟩) n lc, .int .i64 (n : Int), .bool true, u9, u10, vals 0, vals 1, vals 2, vals 3, vals 4, vals 5, vals 6, vals 7, vals 8, vals 9, vals 10, vals 11, vals 12, vals 13, vals 14, vals 15, undef, undef, undef, undef, undef, undef, undef], defers := [] } w0
        simp only [g0, g1, g2, g3, g4, g8, g9, g10, g11, g12]
        clear ht hF KF KP IV
        obtain ⟨A, C, e16, h16⟩ := g16
        have hI2 := hI.2
        have H16 := Lib.hid h16
        have HI2 := Lib.hid hI2
        rw [e16]
        clear g5 g6 g7 g13 g14 g15 hI hall h16 hI2 e16
        generalize vals 5 = y5
        generalize vals 6 = y6
        generalize vals 7 = y7
        generalize vals 13 = y13
        generalize vals 14 = y14
        generalize vals 15 = y15
        go_wp2
        go_roundw
        case rel => exact ⟨i + 1, _, by omega, rfl, by go_num, by rw [QE.out]; exact H16.out, HI2.out⟩
        case measure => first | (simp [intOf]; done) | (simp [intOf]; omega)
    · have li : ¬ (i : Int) < (n : Int) := by omega
      obtain rfl : i = n := by omega
      have hq : ls.take i = ls := List.take_of_length_le (by have := NE.out; omega)
      have hx := HX.out
      rw [hq] at hx
      have gA : wr.grownBy ((wr.alloc (.cells #[.int .i64 (-72)] 3)).alloc (.cells #[.slice (some ⟨wr.heap.size, 0, none⟩) 1 1] 33)) none := grown_none_trans (World.grownBy_alloc wr _ none) (World.grownBy_alloc _ _ none)
      obtain ⟨xs, hx1, hx2⟩ := lentL_grown hx gA
      rw [← NE.out] at hx1
      have c0 : ((wr.alloc (.cells #[.int .i64 (-72)] 3)).alloc (.cells #[.slice (some ⟨wr.heap.size, 0, none⟩) 1 1] 33)).cell? ⟨(wr.alloc (.cells #[.int .i64 (-72)] 3)).heap.size, 0, none⟩ = some (.slice (some ⟨wr.heap.size, 0, none⟩) 1 1) := lies_cell (lies_new _ 33 _) 0
      have l5 := lies_alloc (lies_new wr 3 #[.int .i64 (-72)]) (.cells #[.slice (some ⟨wr.heap.size, 0, none⟩) 1 1] 33)
      have b2 : Below w.heap.size w ((wr.alloc (.cells #[.int .i64 (-72)] 3)).alloc (.cells #[.slice (some ⟨wr.heap.size, 0, none⟩) 1 1] 33)) := HW.out.grown gA HW.out.size (fun k e => by cases e)
      obtain ⟨A', C', Z, hr, ho, hg, hb⟩ := row_slice _ w.heap.size _ V _ i xs hx1 c0 rfl b2.size (by omega)
      have b3 := b2.grown hg b2.size (fun k e => (hb k e).1)
      have hcap := row_cap ho
      have hcut := fun W => cutl_to A' (i + 1) C' i (by omega) W
      have hfin : LentF Z w.heap.size A' C' ls := by
        refine ⟨xs, wr.heap.size, by rw [← NE.out]; exact ho, ?_, ?_, fun j hj => ?_⟩
        · have l6 : Lies Z wr.heap.size 3 #[.int .i64 (-72)] := (hg.block _ (lies_lt l5) (fun e => by
            obtain ⟨_, cs, h⟩ := hb _ e.symm
            have := not_two h l5
            cases this)).trans l5
          exact l6
        · have := hx1.1; have := NE.out; omega
        · obtain ⟨x, e, hd⟩ := hx2 j hj
          exact ⟨x, e, lentD_but hd (But.grown hg) (fun k cs e hl => by obtain ⟨_, cs2, h⟩ := hb k e.symm; have := not_two h hl; cases this)⟩
      rw [World.size_alloc] at hr
      have HR := Lib.hid hr
      have HFI := Lib.hid hfin
      have B3 := Lib.hid b3
      clear hq hx gA hx1 hx2 c0 l5 b2 hr ho hg hb b3 hcap hfin
      go_wp2_with (refine wpList_app_run (t1 := 22) (t2 := 22) rfl _ _ rfl rfl rfl HR.out ?_)
      go_ret
      exact ⟨⟨A', C', rfl, HFI.out⟩, B3.out⟩
end Go.Proofs.Ytfgpaffcfkbjlaa
