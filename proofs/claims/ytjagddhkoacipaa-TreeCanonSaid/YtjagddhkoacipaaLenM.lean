/-
What is proved here: Lent, by a contract: a tree in memory of its own, with one more behind each list.
-/
import Derived.Test.YtjagddhkoacipaaEflM
import Derived.Test.YtjagddhkoacipaaLe1M
import Derived.Test.YtjagddhkoacipaaStcM
import Derived.Great.Walk
set_option linter.unusedSimpArgs false
set_option linter.unusedVariables false
namespace Go.Proofs.Ytjagddhkoacipaa
open Go.Pth Go.Tre Go.RowKit Go.Word Go.Shelf
theorem below_grown {B : Nat} {a w w' : World} (h : Below B a w) (hB : B ≤ w.heap.size) (hg : w.grownBy w' none) : Below B a w' := h.grown hg hB (fun k e => by cases e)
set_option maxRecDepth 100000 in
set_option maxHeartbeats 8000000 in
theorem lent_any (NA FA : Option Addr) (nc fc : Nat) (ns : List Nd) (fs : List Fl) (w : World) (hN : NodesAt w NA ns) (hF : FilesAt w FA fs) (h1 : ns.length ≤ 1000) (h2 : fs.length ≤ 1000) (h3 : ∀ x ∈ fs, x.data.length ≤ 100000) :
    Calls Try.prog 15 #[.agg #[.slice NA ns.length nc, .slice FA fs.length fc]] w fun e w' => (∃ A1 c1 A2 c2, e = .returned (.agg #[.slice A1 ns.length c1, .slice A2 fs.length c2]) ∧ LentAt w' A1 c1 A2 c2 ns fs) ∧ Below w.heap.size w w' := by
  have L := lies_alloc (lies_new w 25 #[.slice NA ns.length nc, .slice FA fs.length fc]) (.cells #[.slice none 0 0, .slice none 0 0] 25)
  have hB : Below w.heap.size w ((w.alloc (.cells #[.slice NA ns.length nc, .slice FA fs.length fc] 25)).alloc (.cells #[.slice none 0 0, .slice none 0 0] 25)) := ((Below.refl _ _).alloc (Nat.le_refl _) _).alloc (by simp) _
  have L2 := lies_new (w.alloc (.cells #[.slice NA ns.length nc, .slice FA fs.length fc] 25)) 25 #[.slice none 0 0, .slice none 0 0]
  rw [World.size_alloc] at L2
  have HN := Lib.hid (nodesAt_below hN hB)
  have HF := Lib.hid (filesAt_below hF hB)
  have H3 := Lib.hid h3
  clear hN hF h3
  have x0 := lies_cell L 0
  have x1 := lies_cell L 1
  simp only [List.getElem?_toArray, List.getElem?_cons_zero, List.getElem?_cons_succ] at x0 x1
  have HB := Lib.hid hB
  have LX := Lib.hid L
  have LR := Lib.hid L2
  clear L L2 hB
  obtain ⟨n, hne⟩ : ∃ n, n = ns.length := ⟨_, rfl⟩
  obtain ⟨m, hme⟩ : ∃ m, m = fs.length := ⟨_, rfl⟩
  rw [← hne] at h1
  rw [← hme] at h2
  rw [← hne, ← hme] at x0 x1 LX HB HN HF LR
  rw [← hne, ← hme]
  have NE := Lib.hid hne
  have ME := Lib.hid hme
  clear hne hme
  go_enter Try.func15, Try.ntmps15
  go_upto_region 1 with (fail)
  generalize (w.alloc (.cells #[.slice NA n nc, .slice FA m fc] 25)).alloc (.cells #[.slice none 0 0, .slice none 0 0] 25) = X at *
  have after : ∀ W, Below X.heap.size X W → Hid (W.cell? ⟨w.heap.size, 0, none⟩ = some (.slice NA n nc) ∧ W.cell? ⟨w.heap.size, 1, none⟩ = some (.slice FA m fc)) := fun W hb =>
    Lib.hid ⟨(hb.cell (p := ⟨w.heap.size, 0, none⟩) (lies_lt LX.out)).trans x0, (hb.cell (p := ⟨w.heap.size, 1, none⟩) (lies_lt LX.out)).trans x1⟩
  have KF : ∀ (l : Array Bool) (p k : Nat) (u : Value) (W W' : World), p ≠ 5 → W.grownBy W' none → ((fun (l_ : Array Bool) (j_ : Nat) (v_ : Value) (W : World) => match j_ with | 0 => v_ = .pointer (some ⟨w.heap.size, 0, none⟩) | 1 => v_ = .slice NA n nc | 2 => (∃ A C, v_ = .slice A n C ∧ (l_.getD 5 false = false → W.ownsRow X.heap.size 54 3 v_ n (ncells ns))) | 3 => v_ = .agg #[.string { data := #[] }, .int .i64 (-71), .int .i64 0] | 4 => (∃ G, v_ = .slice (some ⟨G, 0, none⟩) 1 1 ∧ (l_.getD 5 false = false → Lies W G 54 #[St [], .int .i64 (-71), .int .i64 0])) | 5 => (∃ A C, v_ = .slice A (n + 1) C ∧ W.ownsRow X.heap.size 54 3 (.slice A (n + 1) C) (n + 1) (ncells (ns ++ [endN]))) | 6 => v_ = .pointer (some ⟨w.heap.size, 0, none⟩) | 7 => v_ = .slice NA n nc | 8 => v_ = .int .i64 (n : Int) | 9 => (∃ A C, v_ = .slice A n C ∧ W.ownsRow X.heap.size 54 3 (.slice A (n + 1) C) (n + 1) (ncells (ns ++ [endN]))) | 10 => (∃ A C, v_ = .agg #[.slice A n C, .slice none 0 0] ∧ W.ownsRow X.heap.size 54 3 (.slice A (n + 1) C) (n + 1) (ncells (ns ++ [endN]))) | 11 => (∃ T, v_ = .pointer (some ⟨T, 0, none⟩) ∧ Lies W T 25 #[.slice none 0 0, .slice none 0 0] ∧ X.heap.size ≤ T) | _ => True) : Array Bool → Nat → Value → World → Prop) l k u W → ((fun (l_ : Array Bool) (j_ : Nat) (v_ : Value) (W : World) => match j_ with | 0 => v_ = .pointer (some ⟨w.heap.size, 0, none⟩) | 1 => v_ = .slice NA n nc | 2 => (∃ A C, v_ = .slice A n C ∧ (l_.getD 5 false = false → W.ownsRow X.heap.size 54 3 v_ n (ncells ns))) | 3 => v_ = .agg #[.string { data := #[] }, .int .i64 (-71), .int .i64 0] | 4 => (∃ G, v_ = .slice (some ⟨G, 0, none⟩) 1 1 ∧ (l_.getD 5 false = false → Lies W G 54 #[St [], .int .i64 (-71), .int .i64 0])) | 5 => (∃ A C, v_ = .slice A (n + 1) C ∧ W.ownsRow X.heap.size 54 3 (.slice A (n + 1) C) (n + 1) (ncells (ns ++ [endN]))) | 6 => v_ = .pointer (some ⟨w.heap.size, 0, none⟩) | 7 => v_ = .slice NA n nc | 8 => v_ = .int .i64 (n : Int) | 9 => (∃ A C, v_ = .slice A n C ∧ W.ownsRow X.heap.size 54 3 (.slice A (n + 1) C) (n + 1) (ncells (ns ++ [endN]))) | 10 => (∃ A C, v_ = .agg #[.slice A n C, .slice none 0 0] ∧ W.ownsRow X.heap.size 54 3 (.slice A (n + 1) C) (n + 1) (ncells (ns ++ [endN]))) | 11 => (∃ T, v_ = .pointer (some ⟨T, 0, none⟩) ∧ Lies W T 25 #[.slice none 0 0, .slice none 0 0] ∧ X.heap.size ≤ T) | _ => True) : Array Bool → Nat → Value → World → Prop) (l.setIfInBounds p true) k u W' := fun l p k u W W' hp hg h => by
    have h5 : (l.setIfInBounds p true).getD 5 false = l.getD 5 false := by rw [getD_set_ne false hp]
    have kl : ∀ {g t cs}, Lies W g t cs → Lies W' g t cs := fun h => (hg.block _ (lies_lt h) (by simp)).trans h
    have ko : ∀ {B e z v k xs}, W.ownsRow B e z v k xs → W'.ownsRow B e z v k xs := fun {B e z v k xs} h => h.kept hg (by cases v.ownBlock <;> simp)
    match k, h with
    | 0, h => exact h
    | 1, h => exact h
    | 2, ⟨A, C, e, h⟩ => exact ⟨A, C, e, fun h6 => ko (h (by rw [← h5]; exact h6))⟩
    | 3, h => exact h
    | 4, ⟨G, e, h⟩ => exact ⟨G, e, fun h6 => kl (h (by rw [← h5]; exact h6))⟩
    | 5, ⟨A, C, e, h⟩ => exact ⟨A, C, e, ko h⟩
    | 6, h => exact h
    | 7, h => exact h
    | 8, h => exact h
    | 9, ⟨A, C, e, h⟩ => exact ⟨A, C, e, ko h⟩
    | 10, ⟨A, C, e, h⟩ => exact ⟨A, C, e, ko h⟩
    | 11, ⟨T, e, h, h'⟩ => exact ⟨T, e, kl h, h'⟩
    | _ + 12, _ => exact trivial
  have gr : ∀ W : World, W.grownBy W none := fun W => ⟨rfl, rfl, rfl, Nat.le_refl _, fun _ _ _ => rfl⟩
  have KP := fun (l : Array Bool) (p : Nat) (W : World) (hp : p ≠ 5) => fun (k : Nat) (u : Value) (_ : k ≠ p) (_ : l.getD k false = true) (h : ((fun (l_ : Array Bool) (j_ : Nat) (v_ : Value) (W : World) => match j_ with | 0 => v_ = .pointer (some ⟨w.heap.size, 0, none⟩) | 1 => v_ = .slice NA n nc | 2 => (∃ A C, v_ = .slice A n C ∧ (l_.getD 5 false = false → W.ownsRow X.heap.size 54 3 v_ n (ncells ns))) | 3 => v_ = .agg #[.string { data := #[] }, .int .i64 (-71), .int .i64 0] | 4 => (∃ G, v_ = .slice (some ⟨G, 0, none⟩) 1 1 ∧ (l_.getD 5 false = false → Lies W G 54 #[St [], .int .i64 (-71), .int .i64 0])) | 5 => (∃ A C, v_ = .slice A (n + 1) C ∧ W.ownsRow X.heap.size 54 3 (.slice A (n + 1) C) (n + 1) (ncells (ns ++ [endN]))) | 6 => v_ = .pointer (some ⟨w.heap.size, 0, none⟩) | 7 => v_ = .slice NA n nc | 8 => v_ = .int .i64 (n : Int) | 9 => (∃ A C, v_ = .slice A n C ∧ W.ownsRow X.heap.size 54 3 (.slice A (n + 1) C) (n + 1) (ncells (ns ++ [endN]))) | 10 => (∃ A C, v_ = .agg #[.slice A n C, .slice none 0 0] ∧ W.ownsRow X.heap.size 54 3 (.slice A (n + 1) C) (n + 1) (ncells (ns ++ [endN]))) | 11 => (∃ T, v_ = .pointer (some ⟨T, 0, none⟩) ∧ Lies W T 25 #[.slice none 0 0, .slice none 0 0] ∧ X.heap.size ≤ T) | _ => True) : Array Bool → Nat → Value → World → Prop) l k u W) => KF l p k u W W hp (gr W) h
  refine wp_region_any (by kernel_rfl) ?_
  refine every_factl (own := ownAll _) id 12 ((fun (l_ : Array Bool) (j_ : Nat) (v_ : Value) (W : World) => match j_ with | 0 => v_ = .pointer (some ⟨w.heap.size, 0, none⟩) | 1 => v_ = .slice NA n nc | 2 => (∃ A C, v_ = .slice A n C ∧ (l_.getD 5 false = false → W.ownsRow X.heap.size 54 3 v_ n (ncells ns))) | 3 => v_ = .agg #[.string { data := #[] }, .int .i64 (-71), .int .i64 0] | 4 => (∃ G, v_ = .slice (some ⟨G, 0, none⟩) 1 1 ∧ (l_.getD 5 false = false → Lies W G 54 #[St [], .int .i64 (-71), .int .i64 0])) | 5 => (∃ A C, v_ = .slice A (n + 1) C ∧ W.ownsRow X.heap.size 54 3 (.slice A (n + 1) C) (n + 1) (ncells (ns ++ [endN]))) | 6 => v_ = .pointer (some ⟨w.heap.size, 0, none⟩) | 7 => v_ = .slice NA n nc | 8 => v_ = .int .i64 (n : Int) | 9 => (∃ A C, v_ = .slice A n C ∧ W.ownsRow X.heap.size 54 3 (.slice A (n + 1) C) (n + 1) (ncells (ns ++ [endN]))) | 10 => (∃ A C, v_ = .agg #[.slice A n C, .slice none 0 0] ∧ W.ownsRow X.heap.size 54 3 (.slice A (n + 1) C) (n + 1) (ncells (ns ++ [endN]))) | 11 => (∃ T, v_ = .pointer (some ⟨T, 0, none⟩) ∧ Lies W T 25 #[.slice none 0 0, .slice none 0 0] ∧ X.heap.size ≤ T) | _ => True) : Array Bool → Nat → Value → World → Prop) (fun W => Below X.heap.size X W) (acAll_of (by kernel_rfl)) (onAll_of (by kernel_rfl)) (dstAll_of (by kernel_rfl)) ?hop ?hall ?hl (by decide) _ _ _ _ (fun _ => undef) rfl (shut_none _) (rep_false _ _) (of_decide_eq_true (by kernel_rfl)) (tabd_start (fun i => rep_false _ i)) (fun k hk => by rw [rep_false] at hk; cases hk) ((Below.refl X.heap.size X).drew)
  case hop =>
    intro j oi a w0 listed vals hoi hjl hsz hcl hun hdeps ht hF hI
    have hj : j < 13 := (Array.getElem?_eq_some_iff.1 hoi).1
    have cj : j = 0 ∨ j = 1 ∨ j = 2 ∨ j = 3 ∨ j = 4 ∨ j = 5 ∨ j = 6 ∨ j = 7 ∨ j = 8 ∨ j = 9 ∨ j = 10 ∨ j = 11 := by omega
    have u9 : listed.getD 9 false = true → listed.getD 5 false = true := fun h => hcl 9 _ rfl h ⟨5, .data⟩ (by simp) rfl
    have u10 : listed.getD 10 false = true → listed.getD 5 false = true := fun h => u9 (hcl 10 _ rfl h ⟨9, .data⟩ (by simp) rfl)
    have sz : listed.size = 13 := hsz
    clear hcl
    obtain rfl | rfl | rfl | rfl | rfl | rfl | rfl | rfl | rfl | rfl | rfl | rfl := cj
    all_goals obtain rfl := Option.some.inj hoi
    · have e1 : a.eval (.tmp 1) = .pointer (some ⟨w.heap.size, 0, none⟩) := (tabd_old ht (t := 1) (of_decide_eq_true (by kernel_rfl)) (by kernel_rfl)).trans rfl
      exact ⟨rfl, fun K hk => wp_val (v := .pointer (some ⟨w.heap.size, 0, none⟩)) (by clear hk hI hoi hdeps ht hF KF KP; generalize a.eval = ρ at *; unfold execOp; simp only [e1]; go_simp) (hk _ _ rfl (KP listed 0 w0 (by decide)) hI)⟩
    · have d0 := hdeps ⟨0, .data⟩ (by simp) rfl
      have e6 : a.eval (.tmp 6) = .pointer (some ⟨w.heap.size, 0, none⟩) := (tabd_at ht (t := 6) (of_decide_eq_true (by kernel_rfl)) (by kernel_rfl) d0).trans (hF 0 d0)
      exact ⟨rfl, fun K hk => wp_val (v := .slice NA n nc) (by have hc := (after _ hI).out.1; clear hk hI hoi hdeps ht hF KF KP; generalize a.eval = ρ at *; unfold execOp; simp only [e6]; go_simp) (hk _ _ rfl (KP listed 1 w0 (by decide)) hI)⟩
    · have d1 := hdeps ⟨1, .data⟩ (by simp) rfl
      have e7 : a.eval (.tmp 7) = .slice NA n nc := (tabd_at ht (t := 7) (of_decide_eq_true (by kernel_rfl)) (by kernel_rfl) d1).trans (hF 1 d1)
      refine ⟨rfl, fun K hk => ?_⟩
      obtain ⟨v, w1, hr, ho, hg⟩ := run_app_nodes w0 22 NA nc ns (nodesAt_below HN.out hI) (by have := NE.out; omega)
      rw [← NE.out] at hr ho
      obtain ⟨A, C, rfl⟩ := own_slice ho
      exact wp_valT (w' := w1) (app_op _ _ rfl rfl e7 hr) (hk _ w1 ⟨A, C, rfl, fun _ => World.ownsRow.mono ho hI.size⟩ (fun k u _ _ h => KF listed 2 k u w0 w1 (by decide) hg h) (below_grown hI hI.size hg))
    · exact ⟨rfl, fun K hk => wp_val (v := .agg #[.string { data := #[] }, .int .i64 (-71), .int .i64 0]) (by clear hk hI hoi hdeps ht hF KF KP; generalize a.eval = ρ at *; unfold execOp; simp only [St]; go_simp; kernel_rfl) (hk _ _ rfl (KP listed 3 w0 (by decide)) hI)⟩
    · have d3 := hdeps ⟨3, .data⟩ (by simp) rfl
      have e9 : a.eval (.tmp 9) = .agg #[.string { data := #[] }, .int .i64 (-71), .int .i64 0] := (tabd_at ht (t := 9) (of_decide_eq_true (by kernel_rfl)) (by kernel_rfl) d3).trans (hF 3 d3)
      refine ⟨rfl, fun K hk => ?_⟩
      obtain ⟨i1, hj1_, hj0, hj1, hj2⟩ := info_parts node_info3
      exact wp_buildSlice 22 54 1 _ rfl #[St [], .int .i64 (-71), .int .i64 0] i1 _ Try.underlying22 hj1_ hj0 (by rw [hj1]; decide) (by rw [hj1]; decide) (by rw [hj1]; simp only [List.map_toArray, List.map_cons, List.map_nil, e9]; kernel_rfl) (hk _ _ ⟨w0.heap.size, rfl, fun _ => lies_new w0 54 #[St [], .int .i64 (-71), .int .i64 0]⟩ (fun k u _ _ h => KF listed 4 k u w0 _ (by decide) (World.grownBy_alloc w0 _ none) h) (hI.alloc hI.size _))
    · have d2 := hdeps ⟨2, .data⟩ (by simp) rfl
      have d4 := hdeps ⟨4, .data⟩ (by simp) rfl
      have f2 := hF 2 d2
      have e8 : a.eval (.tmp 8) = vals 2 := tabd_at ht (t := 8) (of_decide_eq_true (by kernel_rfl)) (by kernel_rfl) d2
      have f4 := hF 4 d4
      have e10 : a.eval (.tmp 10) = vals 4 := tabd_at ht (t := 10) (of_decide_eq_true (by kernel_rfl)) (by kernel_rfl) d4
      refine ⟨rfl, fun K hk => ?_⟩
      obtain ⟨A, C, e2, h2⟩ := f2
      obtain ⟨G, e4, h4⟩ := f4
      have ho := h2 hun
      rw [e2] at ho
      have hl := h4 hun
      have hx : NodesAt w0 (some ⟨G, 0, none⟩) [endN] := fun i hi => by
        obtain rfl : i = 0 := by simpa using hi
        exact ⟨G, 0, rfl, lies_lt hl, lies_cell hl 0, lies_cell hl 1, lies_cell hl 2⟩
      obtain ⟨v, w1, hr, h6, hg⟩ := run_app_row w0 22 X.heap.size (.slice A n C) ns [endN] (some ⟨G, 0, none⟩) 1 (by rw [← NE.out]; exact ho) hx hI.size (by have := NE.out; omega) (by simp) (fun e => by cases e)
      rw [List.length_append, ← NE.out] at h6
      obtain ⟨A3, C3, rfl⟩ := own_slice h6
      refine wp_valT (w' := w1) (app_op _ _ rfl (e8.trans e2) (e10.trans e4) hr) (hk _ w1 ⟨A3, C3, rfl, h6⟩ (fun k u hk5 hkl h => ?_) (hI.grown hg hI.size (fun k e => (own_heap ho k e).1)))
      have s5 : (listed.setIfInBounds 5 true).getD 5 false = true := getD_here (by omega)
      match k, hk5, hkl, h with
      | 0, _, _, h => exact h
      | 1, _, _, h => exact h
      | 2, _, _, ⟨A, C, e, h⟩ => exact ⟨A, C, e, fun h6 => by rw [s5] at h6; cases h6⟩
      | 3, _, _, h => exact h
      | 4, _, _, ⟨G, e, h⟩ => exact ⟨G, e, fun h6 => by rw [s5] at h6; cases h6⟩
      | 5, h5, _, _ => exact absurd rfl h5
      | 6, _, _, h => exact h
      | 7, _, _, h => exact h
      | 8, _, _, h => exact h
      | 9, _, hkl, _ => exact absurd (u9 hkl) (by simp [hun])
      | 10, _, hkl, _ => exact absurd (u10 hkl) (by simp [hun])
      | 11, _, _, ⟨T, e, h, h'⟩ =>
        refine ⟨T, e, (hg.block T (lies_lt h) (fun e => ?_)).trans h, h'⟩
        obtain ⟨_, cs, h7⟩ := own_heap ho T e.symm
        rw [show _ = _ from h] at h7
        injection h7 with h7
        injection h7 with _ h7 _
        cases h7
      | _ + 12, _, _, _ => exact trivial
    · have e1 : a.eval (.tmp 1) = .pointer (some ⟨w.heap.size, 0, none⟩) := (tabd_old ht (t := 1) (of_decide_eq_true (by kernel_rfl)) (by kernel_rfl)).trans rfl
      exact ⟨rfl, fun K hk => wp_val (v := .pointer (some ⟨w.heap.size, 0, none⟩)) (by clear hk hI hoi hdeps ht hF KF KP; generalize a.eval = ρ at *; unfold execOp; simp only [e1]; go_simp) (hk _ _ rfl (KP listed 6 w0 (by decide)) hI)⟩
    · have d6 := hdeps ⟨6, .data⟩ (by simp) rfl
      have e12 : a.eval (.tmp 12) = .pointer (some ⟨w.heap.size, 0, none⟩) := (tabd_at ht (t := 12) (of_decide_eq_true (by kernel_rfl)) (by kernel_rfl) d6).trans (hF 6 d6)
      exact ⟨rfl, fun K hk => wp_val (v := .slice NA n nc) (by have hc := (after _ hI).out.1; clear hk hI hoi hdeps ht hF KF KP; generalize a.eval = ρ at *; unfold execOp; simp only [e12]; go_simp) (hk _ _ rfl (KP listed 7 w0 (by decide)) hI)⟩
    · have d7 := hdeps ⟨7, .data⟩ (by simp) rfl
      have e13 : a.eval (.tmp 13) = .slice NA n nc := (tabd_at ht (t := 13) (of_decide_eq_true (by kernel_rfl)) (by kernel_rfl) d7).trans (hF 7 d7)
      exact ⟨rfl, fun K hk => wp_val (v := .int .i64 (n : Int)) (by clear hk hI hoi hdeps ht hF KF KP; generalize a.eval = ρ at *; unfold execOp; simp only [e13]; go_simp) (hk _ _ rfl (KP listed 8 w0 (by decide)) hI)⟩
    · have d5 := hdeps ⟨5, .data⟩ (by simp) rfl
      have d8 := hdeps ⟨8, .data⟩ (by simp) rfl
      have f5 := hF 5 d5
      have e11 : a.eval (.tmp 11) = vals 5 := tabd_at ht (t := 11) (of_decide_eq_true (by kernel_rfl)) (by kernel_rfl) d5
      have e14 : a.eval (.tmp 14) = .int .i64 (n : Int) := (tabd_at ht (t := 14) (of_decide_eq_true (by kernel_rfl)) (by kernel_rfl) d8).trans (hF 8 d8)
      refine ⟨rfl, fun K hk => ?_⟩
      obtain ⟨A, C, e5, h5⟩ := f5
      have hcap : n + 1 ≤ C := by
        rcases h5.2 with ⟨_, h0⟩ | ⟨_, cap, _, e, _, _, h1, _⟩
        · omega
        · injection e with _ _ e
          omega
      have hc := cut_to A (n + 1) C n (by omega) w0
      exact wp_val (v := .slice A n C) (by clear hk hI hoi hdeps ht hF KF KP; rw [e5] at e11; generalize a.eval = ρ at *; unfold execOp; simp only [e11, e14]; go_simp) (hk _ _ ⟨A, C, rfl, h5⟩ (KP listed 9 w0 (by decide)) hI)
    · have d9 := hdeps ⟨9, .data⟩ (by simp) rfl
      have f9 := hF 9 d9
      have e15 : a.eval (.tmp 15) = vals 9 := tabd_at ht (t := 15) (of_decide_eq_true (by kernel_rfl)) (by kernel_rfl) d9
      refine ⟨rfl, fun K hk => ?_⟩
      obtain ⟨A, C, e9, h9⟩ := f9
      exact wp_val (v := .agg #[.slice A n C, .slice none 0 0]) (by clear hk hI hoi hdeps ht hF KF KP; rw [e9] at e15; generalize a.eval = ρ at *; unfold execOp; simp only [e15]; go_simp) (hk _ _ ⟨A, C, rfl, h9⟩ (KP listed 10 w0 (by decide)) hI)
    · refine ⟨rfl, fun K hk => ?_⟩
      refine wp_valT (v := .pointer (some ⟨w0.heap.size, 0, none⟩)) (w' := w0.alloc (.cells #[.slice none 0 0, .slice none 0 0] 25)) (by
        clear hk hI hoi hdeps ht hF KF KP
        generalize a.eval = ρ at *
        unfold execOp
        go_simp) ?_
      exact hk _ _ ⟨w0.heap.size, rfl, lies_new w0 25 _, hI.size⟩ (fun k u _ _ h => KF listed 11 k u w0 _ (by decide) (World.grownBy_alloc w0 _ none) h) (hI.alloc hI.size _)
  case hall =>
    intro listed hcl h i hi hne
    have hi : i < 13 := hi
    have ci : i = 0 ∨ i = 1 ∨ i = 2 ∨ i = 3 ∨ i = 4 ∨ i = 5 ∨ i = 6 ∨ i = 7 ∨ i = 8 ∨ i = 9 ∨ i = 10 ∨ i = 11 := by omega
    obtain rfl | rfl | rfl | rfl | rfl | rfl | rfl | rfl | rfl | rfl | rfl | rfl := ci
    · exact h _ rfl ⟨0, .phase⟩ (by simp) rfl
    · exact h _ rfl ⟨1, .phase⟩ (by simp) rfl
    · exact h _ rfl ⟨2, .phase⟩ (by simp) rfl
    · exact h _ rfl ⟨3, .phase⟩ (by simp) rfl
    · exact h _ rfl ⟨4, .phase⟩ (by simp) rfl
    · exact h _ rfl ⟨5, .phase⟩ (by simp) rfl
    · exact h _ rfl ⟨6, .phase⟩ (by simp) rfl
    · exact h _ rfl ⟨7, .phase⟩ (by simp) rfl
    · exact h _ rfl ⟨8, .phase⟩ (by simp) rfl
    · exact h _ rfl ⟨9, .phase⟩ (by simp) rfl
    · exact h _ rfl ⟨10, .data⟩ (by simp) rfl
    · exact h _ rfl ⟨11, .data⟩ (by simp) rfl
  case hl =>
    intro a w0 listed vals ol hoi hall hdeps hun ht hF hI
    obtain rfl := Option.some.inj hoi
    have g0 : vals 0 = .pointer (some ⟨w.heap.size, 0, none⟩) := hF 0 (by decide) (by decide)
    have g1 : vals 1 = .slice NA n nc := hF 1 (by decide) (by decide)
    have g2 := hF 2 (by decide) (by decide)
    have g3 : vals 3 = .agg #[.string { data := #[] }, .int .i64 (-71), .int .i64 0] := hF 3 (by decide) (by decide)
    have g4 := hF 4 (by decide) (by decide)
    have g5 := hF 5 (by decide) (by decide)
    have g6 : vals 6 = .pointer (some ⟨w.heap.size, 0, none⟩) := hF 6 (by decide) (by decide)
    have g7 : vals 7 = .slice NA n nc := hF 7 (by decide) (by decide)
    have g8 : vals 8 = .int .i64 (n : Int) := hF 8 (by decide) (by decide)
    have g9 := hF 9 (by decide) (by decide)
    have g10 := hF 10 (by decide) (by decide)
    have g11 := hF 11 (by decide) (by decide)
    obtain ⟨T, e11, l11, hT⟩ := g11
    obtain ⟨A1, C1, e10, o10⟩ := g10
    have e3 : a.eval (.tmp 3) = vals 11 := tabd_at ht (t := 3) (of_decide_eq_true (by kernel_rfl)) (by kernel_rfl) (hall 11 (by decide) (by decide))
    have e16 : a.eval (.tmp 16) = vals 10 := tabd_at ht (t := 16) (of_decide_eq_true (by kernel_rfl)) (by kernel_rfl) (hall 10 (by decide) (by decide))
    refine ⟨rfl, fun K hk => wp_store_row 25 _ _ rfl T #[.slice A1 n C1, .slice none 0 0] (e3.trans e11) (e16.trans e10) 25 _ l11 (by kernel_rfl) rfl (by simp [Value.oneCell']) (hk _ _ ?_)⟩
    have ha := tabd_fill ht (fun t i ho => hall i (ownAll_lt ho) (fun e => by subst e; have h9 : (none : Option Nat) = some t := ownAll_spec ho; cases h9))
    subst ha
    change Exit.then _ _ Exit.normal { tmps := (.agg #[.slice NA n nc, .slice FA m fc] :: .pointer (some ⟨w.heap.size, 0, none⟩) :: .pointer (some ⟨w.heap.size + 1, 0, none⟩) :: vals 11 :: undef :: undef :: vals 0 :: vals 1 :: vals 2 :: vals 3 :: vals 4 :: vals 5 :: vals 6 :: vals 7 :: vals 8 :: vals 9 :: vals 10 :: undef :: undef :: undef :: undef :: undef :: undef :: undef :: undef :: undef :: undef :: undef :: undef :: undef :: undef :: undef :: undef :: undef :: undef :: undef :: undef :: undef :: undef :: undef :: undef :: undef :: undef :: undef :: undef :: undef :: undef :: undef :: undef :: undef :: undef :: undef :: undef :: undef :: undef :: undef :: undef :: undef :: undef :: undef :: undef :: []).toArray, defers := [] } _
    rw [e11]
    have L0 := Lib.hid (lies_setRow l11 #[.slice A1 n C1, .slice none 0 0])
    have O0 := Lib.hid (o10.kept (grown_setRow w0 T #[.slice A1 n C1, .slice none 0 0]) (own_other o10 (fun r e => by injection e with e; subst e; exact ⟨_, 25, l11, by decide⟩)))
    have B0 := Lib.hid (below_setRow hI hT #[.slice A1 n C1, .slice none 0 0])
    have ZT := Lib.hid hT
    clear e3 e16 g0 g1 g2 g3 g4 g5 g6 g7 g8 g9 e10 e11 l11 o10 hI hT hF hun hdeps hall KF KP gr ht
    generalize vals 2 = y2
    generalize vals 3 = y3
    generalize vals 4 = y4
    generalize vals 5 = y5
    generalize vals 9 = y9
    generalize vals 10 = y10
    generalize vals 0 = y0
    generalize vals 1 = y1
    generalize vals 6 = y6
    generalize vals 7 = y7
    generalize vals 8 = y8
    generalize w0.setRow T #[.slice A1 n C1, .slice none 0 0] = W1 at *
    go_wp2
    go_loopw [4] (fun v4 wr => ∃ i : Nat, i ≤ m ∧ v4 = .int .i64 (i : Int) ∧ (∃ vF D, Lies wr T 25 #[.slice A1 n C1, vF] ∧ wr.ownsRow X.heap.size 54 3 (.slice A1 (n + 1) C1) (n + 1) (ncells (ns ++ [endN])) ∧ wr.ownsRow X.heap.size 57 2 vF i (fcells D (fs.take i)) ∧ ∀ k, k < i → LentD wr X.heap.size (D k) ((fs.take i).getD k ⟨0, []⟩).data) ∧ Below X.heap.size X wr) (fun v4 _ => m - (intOf v4).toNat)
    case atStart => exact ⟨0, Nat.zero_le _, rfl, ⟨.slice none 0 0, fun _ => undef, L0.out, O0.out, World.ownsRow_nil _ _ _ _, fun k hk => absurd hk (by omega)⟩, B0.out⟩
    case round =>
      obtain ⟨i, hi, rfl, ⟨vF, D, hL, hN, hFr, hD⟩, hb⟩ := hrel
      have HL := Lib.hid hL
      have HNR := Lib.hid hN
      have HFR := Lib.hid hFr
      have HD := Lib.hid hD
      have HW := Lib.hid hb
      clear hL hN hFr hD hb L0 O0 B0
      obtain ⟨q0, q1⟩ := (after _ HW.out).out
      have t0 := lies_cell HL.out 0
      have t1 := lies_cell HL.out 1
      simp only [List.getElem?_toArray, List.getElem?_cons_zero, List.getElem?_cons_succ] at t0 t1
      by_cases hlt : i < m
      · have li : (i : Int) < (m : Int) := by omega
        have lf : i < fs.length := by have := ME.out; omega
        obtain ⟨b, o, DA, dc, eA, hl, d1, d2, d3⟩ := HF.out i lf
        subst eA
        have dl := H3.out fs[i] (List.getElem_mem _)
        have TS := Lib.hid (List.take_succ_eq_append_getElem lf)
        have lt : (fs.take i).length = i := by rw [List.length_take]; omega
        generalize fs[i] = x at *
        obtain ⟨md, d⟩ := x
        have dl : d.length ≤ 100000 := dl
        have d1 : X.cell? ⟨b, o + i * 2, none⟩ = some (.int .i64 md) := d1
        have d2 : X.cell? ⟨b, o + i * 2 + 1, none⟩ = some (.slice DA d.length dc) := d2
        have d3 : BytesAt X DA d := d3
        have st := lent_step (us := fs.take i) HNR.out HL.out (by rw [lt]; exact HFR.out) (by rw [lt]; exact HD.out) HW.out.size ZT.out DA dc d md (bytesAt_below d3 HW.out) dl (by omega)
        rw [lt, ← TS.out] at st
        obtain ⟨Ad, Cd, W1, r1, Ae, Ce, W3, r2, hcap, l3, w3, Ag, Cg, Z3, r3, l4, l5, w4, w5, w6, l6, nd6, D', fr6, dd6⟩ := st
        have c1 := (HW.out.cell (p := ⟨b, o + i * 2, none⟩) hl).trans d1
        have c2 := (HW.out.cell (p := ⟨b, o + i * 2 + 1, none⟩) hl).trans d2
        have R1 := Lib.hid r1
        have R2 := Lib.hid r2
        have D1 := Lib.hid d1
        have HBL := Lib.hid hl
        obtain ⟨dn, hdn⟩ : ∃ dn, dn = d.length := ⟨_, rfl⟩
        rw [← hdn] at c2 r2 r3 l4 w4 R1 R2 hcap dl
        clear hdn
        go_upto_region 6 with (first
          | (refine wpList_app_run rfl _ _ rfl rfl rfl R1.out ?_)
          | (refine wpList_app_run rfl _ _ rfl rfl rfl R2.out ?_))
        clear q0 q1 t0 t1 c1 c2
        have bb : ∀ W', Below X.heap.size wr W' → Below X.heap.size X W' := fun W' h => HW.out.trans h
        have BA := Lib.hid (fun (l : Array Bool) => stc_all (i := 14) (j := 15) (k := 17) (l := l) (Below X.heap.size X) (bb _ w3).drew (bb _ w4) (bb _ w5) (fun _ => bb _ w6))
        have F3 := Lib.hid (fun (l : Array Bool) (_ : l.getD 17 false = false) => ((BA.out l).cell (p := ⟨w.heap.size, 1, none⟩) (lies_lt LX.out)).trans x1)
        have FC1 := Lib.hid (fun (l : Array Bool) (_ : l.getD 17 false = false) => ((BA.out l).cell (p := ⟨b, o + i * 2, none⟩) HBL.out).trans D1.out)
        have FY := Lib.hid (fun (l : Array Bool) (hu : l.getD 17 false = false) => stc_all (i := 14) (j := 15) (k := 17) (A := W3.drew) (B := W3.drew.alloc (.cells #[.int .i64 md, .slice Ae dn Ce] 57)) (C := Z3) (D := Z3.setCell ⟨T, 1, none⟩ (.slice Ag (i + 1) Cg)) (l := l) (fun W => W.cell? ⟨T, 1, none⟩ = some vF) (lies_cell (lies_drew l3) 1) (lies_cell l4 1) (lies_cell l5 1) (fun h => by rw [hu] at h; cases h))
        have R3 := Lib.hid r3
        have L5 := Lib.hid l5
        have L6 := Lib.hid l6
        have N6 := Lib.hid nd6
        have FR6 := Lib.hid fr6
        have DD6 := Lib.hid dd6
        have W6 := Lib.hid (bb _ w6)
        have CT := Lib.hid (cutb_to Ae (dn + 1) Ce dn (by omega))
        have hcut := CT.out
        have hw1 : IntKind.i64.wrap ((dn : Int) + 1 - 1) = (dn : Int) := by rw [wrap_i64]; omega
        obtain ⟨i1, hj1_, hj0, hj1, hj2⟩ := info_parts file_info2
        clear r1 r2 r3 l3 w3 l4 l5 w4 w5 w6 l6 nd6 fr6 dd6 bb BA d1 d2 d3 hl R1 R2 HL HFR HD HNR CT
        refine wp_region_any (by kernel_rfl) ?_
        refine every_at (own := ownAll _) (vals := fun k_ => match k_ with | 0 => .pointer (some ⟨T, 1, none⟩) | 1 => vF | 2 => .pointer (some ⟨w.heap.size, 1, none⟩) | 3 => .slice (some ⟨b, o, none⟩) m fc | 4 => .int .i64 (i : Int) | 5 => .pointer (some ⟨b, o + i * 2, none⟩) | 6 => .pointer (some ⟨b, o + i * 2, none⟩) | 7 => .int .i64 md | 8 => .slice Ae (dn + 1) Ce | 9 => .slice Ae (dn + 1) Ce | 10 => .int .i64 ((dn : Int) + 1) | 11 => .int .i64 (dn : Int) | 12 => .slice Ae dn Ce | 13 => .agg #[.int .i64 md, .slice Ae dn Ce] | 14 => .slice (some ⟨W3.heap.size, 0, none⟩) 1 1 | 15 => .slice Ag (i + 1) Cg | 16 => .pointer (some ⟨T, 1, none⟩) | 17 => undef | _ => undef) id (fun l W => W = (Stc 14 15 17 (W3.drew) (W3.drew.alloc (.cells #[.int .i64 md, .slice Ae dn Ce] 57)) (Z3) (Z3.setCell ⟨T, 1, none⟩ (.slice Ag (i + 1) Cg))) l) (acAll_of (by kernel_rfl)) (onAll_of (by kernel_rfl)) (dstAll_of (by kernel_rfl)) ?hop ?hend _ _ _ _ rfl (shut_none _) (of_decide_eq_true (by kernel_rfl)) (tabd_start (fun i => rep_false _ i)) rfl
        case hop =>
          intro x oi a w0 listed hoi hun hsz hcl hdeps ht hI
          have hx : x < 18 := (Array.getElem?_eq_some_iff.1 hoi).1
          have cx : x = 0 ∨ x = 1 ∨ x = 2 ∨ x = 3 ∨ x = 4 ∨ x = 5 ∨ x = 6 ∨ x = 7 ∨ x = 8 ∨ x = 9 ∨ x = 10 ∨ x = 11 ∨ x = 12 ∨ x = 13 ∨ x = 14 ∨ x = 15 ∨ x = 16 ∨ x = 17 := by omega
          have sz : listed.size = 18 := hsz
          have uj : listed.getD 15 false = true → listed.getD 14 false = true := fun h => hcl 15 _ rfl h ⟨14, .data⟩ (by simp) rfl
          have uk : listed.getD 17 false = true → listed.getD 15 false = true := fun h => hcl 17 _ rfl h ⟨15, .data⟩ (by simp) rfl
          have ul1 : listed.getD 17 false = true → listed.getD 1 false = true := fun h => hcl 17 _ rfl h ⟨1, .phase⟩ (by simp) rfl
          have ul3 : listed.getD 17 false = true → listed.getD 3 false = true := fun h => hcl 17 _ rfl h ⟨3, .phase⟩ (by simp) rfl
          have ul7 : listed.getD 17 false = true → listed.getD 7 false = true := fun h => hcl 17 _ rfl h ⟨7, .phase⟩ (by simp) rfl
          clear hcl
          obtain rfl | rfl | rfl | rfl | rfl | rfl | rfl | rfl | rfl | rfl | rfl | rfl | rfl | rfl | rfl | rfl | rfl | rfl := cx
          all_goals obtain rfl := Option.some.inj hoi
          · have e3 : a.eval (.tmp 3) = .pointer (some ⟨T, 0, none⟩) := (tabd_old ht (t := 3) (of_decide_eq_true (by kernel_rfl)) (by kernel_rfl)).trans rfl
            exact .inl ⟨rfl, fun K hk => wp_val (v := .pointer (some ⟨T, 1, none⟩)) (by generalize a.eval = ρ at *; unfold execOp; simp only [e3]; go_simp) (hk _ (hI.trans (stc_keep (by decide) (by decide) (by decide)).symm))⟩
          · have d0 := hdeps ⟨0, .data⟩ (by simp) rfl
            have e33 : a.eval (.tmp 33) = .pointer (some ⟨T, 1, none⟩) := tabd_at ht (t := 33) (of_decide_eq_true (by kernel_rfl)) (by kernel_rfl) d0
            have h : w0.cell? ⟨T, 1, none⟩ = some (vF) := by rw [hI]; exact FY.out listed (no_of ul1 (by simp [hun]))
            exact .inl ⟨rfl, fun K hk => wp_val (v := vF) (by clear hk hI hoi hdeps ht; generalize a.eval = ρ at *; unfold execOp; simp only [e33]; go_simp) (hk _ (hI.trans (stc_keep (by decide) (by decide) (by decide)).symm))⟩
          · have e1 : a.eval (.tmp 1) = .pointer (some ⟨w.heap.size, 0, none⟩) := (tabd_old ht (t := 1) (of_decide_eq_true (by kernel_rfl)) (by kernel_rfl)).trans rfl
            exact .inl ⟨rfl, fun K hk => wp_val (v := .pointer (some ⟨w.heap.size, 1, none⟩)) (by generalize a.eval = ρ at *; unfold execOp; simp only [e1]; go_simp) (hk _ (hI.trans (stc_keep (by decide) (by decide) (by decide)).symm))⟩
          · have d2 := hdeps ⟨2, .data⟩ (by simp) rfl
            have e35 : a.eval (.tmp 35) = .pointer (some ⟨w.heap.size, 1, none⟩) := tabd_at ht (t := 35) (of_decide_eq_true (by kernel_rfl)) (by kernel_rfl) d2
            have h : w0.cell? ⟨w.heap.size, 1, none⟩ = some (.slice (some ⟨b, o, none⟩) m fc) := by rw [hI]; exact F3.out listed (no_of ul3 (by simp [hun]))
            exact .inl ⟨rfl, fun K hk => wp_val (v := .slice (some ⟨b, o, none⟩) m fc) (by clear hk hI hoi hdeps ht; generalize a.eval = ρ at *; unfold execOp; simp only [e35]; go_simp) (hk _ (hI.trans (stc_keep (by decide) (by decide) (by decide)).symm))⟩
          · have e4 : a.eval (.tmp 4) = .int .i64 (i : Int) := (tabd_old ht (t := 4) (of_decide_eq_true (by kernel_rfl)) (by kernel_rfl)).trans rfl
            exact .inl ⟨rfl, fun K hk => wp_val (v := .int .i64 (i : Int)) (by generalize a.eval = ρ at *; unfold execOp; simp only [e4]; go_simp) (hk _ (hI.trans (stc_keep (by decide) (by decide) (by decide)).symm))⟩
          · have d3 := hdeps ⟨3, .data⟩ (by simp) rfl
            have d4 := hdeps ⟨4, .data⟩ (by simp) rfl
            have e36 : a.eval (.tmp 36) = .slice (some ⟨b, o, none⟩) m fc := tabd_at ht (t := 36) (of_decide_eq_true (by kernel_rfl)) (by kernel_rfl) d3
            have e37 : a.eval (.tmp 37) = .int .i64 (i : Int) := tabd_at ht (t := 37) (of_decide_eq_true (by kernel_rfl)) (by kernel_rfl) d4
            exact .inl ⟨rfl, fun K hk => wp_val (v := .pointer (some ⟨b, o + i * 2, none⟩)) (by generalize a.eval = ρ at *; unfold execOp; simp only [e36, e37]; go_simp) (hk _ (hI.trans (stc_keep (by decide) (by decide) (by decide)).symm))⟩
          · have d5 := hdeps ⟨5, .data⟩ (by simp) rfl
            have e38 : a.eval (.tmp 38) = .pointer (some ⟨b, o + i * 2, none⟩) := tabd_at ht (t := 38) (of_decide_eq_true (by kernel_rfl)) (by kernel_rfl) d5
            exact .inl ⟨rfl, fun K hk => wp_val (v := .pointer (some ⟨b, o + i * 2, none⟩)) (by generalize a.eval = ρ at *; unfold execOp; simp only [e38]; go_simp) (hk _ (hI.trans (stc_keep (by decide) (by decide) (by decide)).symm))⟩
          · have d6 := hdeps ⟨6, .data⟩ (by simp) rfl
            have e39 : a.eval (.tmp 39) = .pointer (some ⟨b, o + i * 2, none⟩) := tabd_at ht (t := 39) (of_decide_eq_true (by kernel_rfl)) (by kernel_rfl) d6
            have h : w0.cell? ⟨b, o + i * 2, none⟩ = some (.int .i64 md) := by rw [hI]; exact FC1.out listed (no_of ul7 (by simp [hun]))
            exact .inl ⟨rfl, fun K hk => wp_val (v := .int .i64 md) (by clear hk hI hoi hdeps ht; generalize a.eval = ρ at *; unfold execOp; simp only [e39]; go_simp) (hk _ (hI.trans (stc_keep (by decide) (by decide) (by decide)).symm))⟩
          · have e5 : a.eval (.tmp 5) = .slice Ae (dn + 1) Ce := (tabd_old ht (t := 5) (of_decide_eq_true (by kernel_rfl)) (by kernel_rfl)).trans rfl
            exact .inl ⟨rfl, fun K hk => wp_val (v := .slice Ae (dn + 1) Ce) (by generalize a.eval = ρ at *; unfold execOp; simp only [e5]; go_simp) (hk _ (hI.trans (stc_keep (by decide) (by decide) (by decide)).symm))⟩
          · have e5 : a.eval (.tmp 5) = .slice Ae (dn + 1) Ce := (tabd_old ht (t := 5) (of_decide_eq_true (by kernel_rfl)) (by kernel_rfl)).trans rfl
            exact .inl ⟨rfl, fun K hk => wp_val (v := .slice Ae (dn + 1) Ce) (by generalize a.eval = ρ at *; unfold execOp; simp only [e5]; go_simp) (hk _ (hI.trans (stc_keep (by decide) (by decide) (by decide)).symm))⟩
          · have d9 := hdeps ⟨9, .data⟩ (by simp) rfl
            have e42 : a.eval (.tmp 42) = .slice Ae (dn + 1) Ce := tabd_at ht (t := 42) (of_decide_eq_true (by kernel_rfl)) (by kernel_rfl) d9
            exact .inl ⟨rfl, fun K hk => wp_val (v := .int .i64 ((dn : Int) + 1)) (by generalize a.eval = ρ at *; unfold execOp; simp only [e42]; go_simp) (hk _ (hI.trans (stc_keep (by decide) (by decide) (by decide)).symm))⟩
          · have d10 := hdeps ⟨10, .data⟩ (by simp) rfl
            have e43 : a.eval (.tmp 43) = .int .i64 ((dn : Int) + 1) := tabd_at ht (t := 43) (of_decide_eq_true (by kernel_rfl)) (by kernel_rfl) d10
            have ec1 : a.eval (.const (Value.int IntKind.i64 1)) = (Value.int IntKind.i64 1) := rfl
            exact .inl ⟨rfl, fun K hk => wp_val (v := .int .i64 (dn : Int)) (by generalize a.eval = ρ at *; unfold execOp; simp only [e43, ec1]; go_simp; rw [wrap_i64]; omega) (hk _ (hI.trans (stc_keep (by decide) (by decide) (by decide)).symm))⟩
          · have d8 := hdeps ⟨8, .data⟩ (by simp) rfl
            have d11 := hdeps ⟨11, .data⟩ (by simp) rfl
            have e41 : a.eval (.tmp 41) = .slice Ae (dn + 1) Ce := tabd_at ht (t := 41) (of_decide_eq_true (by kernel_rfl)) (by kernel_rfl) d8
            have e44 : a.eval (.tmp 44) = .int .i64 (dn : Int) := tabd_at ht (t := 44) (of_decide_eq_true (by kernel_rfl)) (by kernel_rfl) d11
            exact .inl ⟨rfl, fun K hk => wp_val (v := .slice Ae dn Ce) (by generalize a.eval = ρ at *; unfold execOp; simp only [e41, e44]; go_simp) (hk _ (hI.trans (stc_keep (by decide) (by decide) (by decide)).symm))⟩
          · have d7 := hdeps ⟨7, .data⟩ (by simp) rfl
            have d12 := hdeps ⟨12, .data⟩ (by simp) rfl
            have e40 : a.eval (.tmp 40) = .int .i64 md := tabd_at ht (t := 40) (of_decide_eq_true (by kernel_rfl)) (by kernel_rfl) d7
            have e45 : a.eval (.tmp 45) = .slice Ae dn Ce := tabd_at ht (t := 45) (of_decide_eq_true (by kernel_rfl)) (by kernel_rfl) d12
            exact .inl ⟨rfl, fun K hk => wp_val (v := .agg #[.int .i64 md, .slice Ae dn Ce]) (by generalize a.eval = ρ at *; unfold execOp; simp only [e40, e45]; go_simp) (hk _ (hI.trans (stc_keep (by decide) (by decide) (by decide)).symm))⟩
          · have d13 := hdeps ⟨13, .data⟩ (by simp) rfl
            have e46 : a.eval (.tmp 46) = .agg #[.int .i64 md, .slice Ae dn Ce] := tabd_at ht (t := 46) (of_decide_eq_true (by kernel_rfl)) (by kernel_rfl) d13
            have hst : (Stc 14 15 17 (W3.drew) (W3.drew.alloc (.cells #[.int .i64 md, .slice Ae dn Ce] 57)) (Z3) (Z3.setCell ⟨T, 1, none⟩ (.slice Ag (i + 1) Cg))) listed = W3.drew ∧ (Stc 14 15 17 (W3.drew) (W3.drew.alloc (.cells #[.int .i64 md, .slice Ae dn Ce] 57)) (Z3) (Z3.setCell ⟨T, 1, none⟩ (.slice Ag (i + 1) Cg))) (listed.setIfInBounds 14 true) = W3.drew.alloc (.cells #[.int .i64 md, .slice Ae dn Ce] 57) := stc_0 (by decide) (by decide) uj uk (by omega) hun
            have hw : W3.drew = w0 := (hI.trans hst.1).symm
            subst hw
            exact .inl ⟨rfl, fun K hk => wp_buildSlice 23 57 1 _ rfl #[.int .i64 md, .slice Ae dn Ce] i1 _ Try.underlying23 hj1_ hj0 (by rw [hj1]; decide) (by rw [hj1]; decide) (by rw [hj1]; simp only [List.map_toArray, List.map_cons, List.map_nil, e46]; kernel_rfl) (hk _ hst.2.symm)⟩
          · have d1 := hdeps ⟨1, .data⟩ (by simp) rfl
            have d14 := hdeps ⟨14, .data⟩ (by simp) rfl
            have e34 : a.eval (.tmp 34) = vF := tabd_at ht (t := 34) (of_decide_eq_true (by kernel_rfl)) (by kernel_rfl) d1
            have e47 : a.eval (.tmp 47) = .slice (some ⟨W3.heap.size, 0, none⟩) 1 1 := tabd_at ht (t := 47) (of_decide_eq_true (by kernel_rfl)) (by kernel_rfl) d14
            have hst : (Stc 14 15 17 (W3.drew) (W3.drew.alloc (.cells #[.int .i64 md, .slice Ae dn Ce] 57)) (Z3) (Z3.setCell ⟨T, 1, none⟩ (.slice Ag (i + 1) Cg))) listed = W3.drew.alloc (.cells #[.int .i64 md, .slice Ae dn Ce] 57) ∧ (Stc 14 15 17 (W3.drew) (W3.drew.alloc (.cells #[.int .i64 md, .slice Ae dn Ce] 57)) (Z3) (Z3.setCell ⟨T, 1, none⟩ (.slice Ag (i + 1) Cg))) (listed.setIfInBounds 15 true) = Z3 := stc_1 (by decide) (by decide) uk (by omega) hun d14
            have hw : W3.drew.alloc (.cells #[.int .i64 md, .slice Ae dn Ce] 57) = w0 := (hI.trans hst.1).symm
            subst hw
            exact .inl ⟨rfl, fun K hk => wp_valT (v := .slice Ag (i + 1) Cg) (w' := Z3) (app_op _ _ rfl e34 e47 R3.out) (hk _ hst.2.symm)⟩
          · have e3 : a.eval (.tmp 3) = .pointer (some ⟨T, 0, none⟩) := (tabd_old ht (t := 3) (of_decide_eq_true (by kernel_rfl)) (by kernel_rfl)).trans rfl
            exact .inl ⟨rfl, fun K hk => wp_val (v := .pointer (some ⟨T, 1, none⟩)) (by generalize a.eval = ρ at *; unfold execOp; simp only [e3]; go_simp) (hk _ (hI.trans (stc_keep (by decide) (by decide) (by decide)).symm))⟩
          · have d16 := hdeps ⟨16, .data⟩ (by simp) rfl
            have d15 := hdeps ⟨15, .data⟩ (by simp) rfl
            have e48 : a.eval (.tmp 48) = .slice Ag (i + 1) Cg := tabd_at ht (t := 48) (of_decide_eq_true (by kernel_rfl)) (by kernel_rfl) d15
            have e49 : a.eval (.tmp 49) = .pointer (some ⟨T, 1, none⟩) := tabd_at ht (t := 49) (of_decide_eq_true (by kernel_rfl)) (by kernel_rfl) d16
            have hst : (Stc 14 15 17 (W3.drew) (W3.drew.alloc (.cells #[.int .i64 md, .slice Ae dn Ce] 57)) (Z3) (Z3.setCell ⟨T, 1, none⟩ (.slice Ag (i + 1) Cg))) listed = Z3 ∧ (Stc 14 15 17 (W3.drew) (W3.drew.alloc (.cells #[.int .i64 md, .slice Ae dn Ce] 57)) (Z3) (Z3.setCell ⟨T, 1, none⟩ (.slice Ag (i + 1) Cg))) (listed.setIfInBounds 17 true) = Z3.setCell ⟨T, 1, none⟩ (.slice Ag (i + 1) Cg) := stc_2 (by decide) (by omega) hun d15
            have hw : Z3 = w0 := (hI.trans hst.1).symm
            subst hw
            exact .inl ⟨rfl, fun K hk => wp_skipT (w' := Z3.setCell ⟨T, 1, none⟩ (.slice Ag (i + 1) Cg)) (by have h1 := lies_cell L5.out 1; have h2 := lies_free L5.out 1; simp only [List.getElem?_toArray, List.getElem?_cons_zero, List.getElem?_cons_succ] at h1; clear hk hst hI ht hoi hdeps; generalize a.eval = ρ at *; unfold execOp; simp only [e48, e49]; go_simp) (hk _ hst.2.symm)⟩
        case hend =>
          intro a w0 listed hall ht hI
          rw [tabd_fill ht (fun t i ho => hall i (ownAll_lt ho))]
          have hw : w0 = _ := hI.trans (stc_end (hall 17 (of_decide_eq_true (by kernel_rfl))))
          change Exit.inBlock _ (Exit.then _ _) Exit.normal { tmps := (.agg #[.slice NA n nc, .slice (some ⟨b, o, none⟩) m fc] :: .pointer (some ⟨w.heap.size, 0, none⟩) :: .pointer (some ⟨w.heap.size + 1, 0, none⟩) :: .pointer (some ⟨T, 0, none⟩) :: .int .i64 (i : Int) :: .slice Ae (dn + 1) Ce :: y0 :: y1 :: y2 :: y3 :: y4 :: y5 :: y6 :: y7 :: y8 :: y9 :: y10 :: .int .i64 (i : Int) :: .pointer (some ⟨w.heap.size, 1, none⟩) :: .slice (some ⟨b, o, none⟩) m fc :: .int .i64 (m : Int) :: .bool true :: u22 :: u23 :: .pointer (some ⟨w.heap.size, 1, none⟩) :: .slice (some ⟨b, o, none⟩) m fc :: .int .i64 (i : Int) :: .pointer (some ⟨b, o + i * 2, none⟩) :: .pointer (some ⟨b, o + i * 2 + 1, none⟩) :: .slice DA dn dc :: .slice Ad dn Cd :: .slice (some ⟨W1.heap.size, 0, none⟩) 1 1 :: .slice Ae (dn + 1) Ce :: .pointer (some ⟨T, 1, none⟩) :: vF :: .pointer (some ⟨w.heap.size, 1, none⟩) :: .slice (some ⟨b, o, none⟩) m fc :: .int .i64 (i : Int) :: .pointer (some ⟨b, o + i * 2, none⟩) :: .pointer (some ⟨b, o + i * 2, none⟩) :: .int .i64 md :: .slice Ae (dn + 1) Ce :: .slice Ae (dn + 1) Ce :: .int .i64 ((dn : Int) + 1) :: .int .i64 (dn : Int) :: .slice Ae dn Ce :: .agg #[.int .i64 md, .slice Ae dn Ce] :: .slice (some ⟨W3.heap.size, 0, none⟩) 1 1 :: .slice Ag (i + 1) Cg :: .pointer (some ⟨T, 1, none⟩) :: undef :: undef :: undef :: undef :: undef :: undef :: undef :: undef :: undef :: undef :: undef :: []).toArray, defers := [] } w0
          clear hall ht hI
          subst hw
          go_wp2
          go_roundw
          case rel => exact ⟨i + 1, by omega, by go_num, ⟨_, D', L6.out, N6.out, FR6.out, DD6.out⟩, W6.out⟩
          case measure => first | (simp [intOf]; done) | (simp [intOf]; omega)
      · have li : ¬ (i : Int) < (m : Int) := by omega
        have him : m = i := by omega
        subst him
        have TK : fs.take m = fs := List.take_of_length_le (by have := ME.out; omega)
        have HFR2 := HFR.out
        have HD2 := HD.out
        rw [TK] at HFR2 HD2
        have HD3 := Lib.hid HD2
        have lrf := row_file wr.drew X.heap.size vF (.slice none 0 0) D fs (-72) (by rw [← ME.out]; exact World.ownsRow.kept HFR2 (w' := wr.drew) (row := none) ⟨rfl, rfl, rfl, Nat.le_refl _, fun _ _ _ => rfl⟩ (by cases vF.ownBlock <;> simp)) HW.out.size rfl (by have := ME.out; omega)
        rw [← ME.out] at lrf
        obtain ⟨A2, C2, Z, r5, o5, g5, b5⟩ := lrf
        have hcap := row_cap o5
        have t57 : ∀ r, vF.ownBlock = some r → ∃ cs t, (wr.drew.alloc (.cells #[.int .i64 (-72), .slice none 0 0] 57)).heap[r]? = some (.cells cs t (0, 0)) ∧ t = 57 := fun r e => by obtain ⟨_, cs, h⟩ := b5 r e; exact ⟨cs, 57, h, rfl⟩
        have g4 : wr.grownBy (wr.drew.alloc (.cells #[.int .i64 (-72), .slice none 0 0] 57)) none := ⟨rfl, rfl, rfl, by simp, fun q hq _ => heap_alloc_old wr.drew _ hq⟩
        have l4 := lies_other HL.out g4 (fun r e => by cases e)
        have l5 := lies_other l4 g5 (fun r e => by obtain ⟨cs, t, h, ht⟩ := t57 r e; exact ⟨cs, t, h, by rw [ht]; decide⟩)
        have gs := grown_setCell Z T 1 (.slice A2 m C2)
        have t25 : ∀ r, some T = some r → ∃ cs t, Z.heap[r]? = some (.cells cs t (0, 0)) ∧ t = 25 := fun r e => by injection e with e; subst e; exact ⟨_, 25, l5, rfl⟩
        have l6 : Lies (Z.setCell ⟨T, 1, none⟩ (.slice A2 m C2)) T 25 #[.slice A1 n C1, .slice A2 m C2] := lies_set l5 1 _
        have nd6 := ((HNR.out.kept g4 (by cases (Value.slice A1 (n + 1) C1).ownBlock <;> simp)).kept g5 (own_other (HNR.out.kept g4 (by cases (Value.slice A1 (n + 1) C1).ownBlock <;> simp)) (fun r e => by obtain ⟨cs, t, h, ht⟩ := t57 r e; exact ⟨cs, t, h, by rw [ht]; decide⟩)))
        have nd7 := nd6.kept gs (own_other nd6 (fun r e => by obtain ⟨cs, t, h, ht⟩ := t25 r e; exact ⟨cs, t, h, by rw [ht]; decide⟩))
        have o7 := o5.kept gs (own_other o5 (fun r e => by obtain ⟨cs, t, h, ht⟩ := t25 r e; exact ⟨cs, t, h, by rw [ht]; decide⟩))
        have d7 : ∀ k, k < m → LentD (Z.setCell ⟨T, 1, none⟩ (.slice A2 m C2)) X.heap.size (D k) (fs.getD k ⟨0, []⟩).data := fun k hk => lentD_other (lentD_other (lentD_other (HD3.out k hk) g4 (fun r e => by cases e)) g5 (fun r e => by obtain ⟨cs, t, h, ht⟩ := t57 r e; exact ⟨cs, t, h, by rw [ht]; decide⟩)) gs (fun r e => by obtain ⟨cs, t, h, ht⟩ := t25 r e; exact ⟨cs, t, h, by rw [ht]; decide⟩)
        have w4 : Below X.heap.size X (wr.drew.alloc (.cells #[.int .i64 (-72), .slice none 0 0] 57)) := HW.out.grown g4 HW.out.size (fun k e => by cases e)
        have w5 : Below X.heap.size X Z := w4.grown g5 w4.size (fun k e => (b5 k e).1)
        have ZTT := ZT.out
        have w6 : Below X.heap.size X (Z.setCell ⟨T, 1, none⟩ (.slice A2 m C2)) := below_setCell w5 ZTT _
        have BA := Lib.hid (fun (l : Array Bool) => stc_all (i := 3) (j := 4) (k := 10) (l := l) (Below X.heap.size X) HW.out.drew w4 w5 (fun _ => w6))
        have F3 := Lib.hid (fun (l : Array Bool) (_ : l.getD 10 false = false) => ((BA.out l).cell (p := ⟨w.heap.size, 1, none⟩) (lies_lt LX.out)).trans x1)
        have FY := Lib.hid (fun (l : Array Bool) (hu : l.getD 10 false = false) => stc_all (i := 3) (j := 4) (k := 10) (A := wr.drew) (B := wr.drew.alloc (.cells #[.int .i64 (-72), .slice none 0 0] 57)) (C := Z) (D := Z.setCell ⟨T, 1, none⟩ (.slice A2 m C2)) (l := l) (fun W => W.cell? ⟨T, 1, none⟩ = some vF) (lies_cell (lies_drew HL.out) 1) (lies_cell l4 1) (lies_cell l5 1) (fun h => by rw [hu] at h; cases h))
        have R5 := Lib.hid r5
        have L5 := Lib.hid l5
        have L6 := Lib.hid l6
        have N7 := Lib.hid nd7
        have O7 := Lib.hid o7
        have D7 := Lib.hid d7
        have W6 := Lib.hid w6
        have CT := Lib.hid (cutf_to A2 (m + 1) C2 m (by omega))
        have hcut := CT.out
        obtain ⟨i1, hj1_, hj0, hj1, hj2⟩ := info_parts file_info2
        clear r5 o5 g5 b5 t57 g4 l4 l5 gs t25 l6 nd6 nd7 o7 d7 w4 w5 w6 BA TK HFR2 HD2 HD3 HFR HD HNR HL ZTT CT
        go_upto_region 7 with (fail)
        refine wp_region_any (by kernel_rfl) ?_
        refine every_at (own := ownAll _) (vals := fun k_ => match k_ with | 0 => .pointer (some ⟨T, 1, none⟩) | 1 => vF | 2 => .agg #[.int .i64 (-72), .slice none 0 0] | 3 => .slice (some ⟨wr.heap.size, 0, none⟩) 1 1 | 4 => .slice A2 (m + 1) C2 | 5 => .pointer (some ⟨w.heap.size, 1, none⟩) | 6 => .slice FA m fc | 7 => .int .i64 (m : Int) | 8 => .slice A2 m C2 | 9 => .pointer (some ⟨T, 1, none⟩) | 10 => undef | _ => undef) id (fun l W => W = (Stc 3 4 10 (wr.drew) (wr.drew.alloc (.cells #[.int .i64 (-72), .slice none 0 0] 57)) (Z) (Z.setCell ⟨T, 1, none⟩ (.slice A2 m C2))) l) (acAll_of (by kernel_rfl)) (onAll_of (by kernel_rfl)) (dstAll_of (by kernel_rfl)) ?hop ?hend _ _ _ _ rfl (shut_none _) (of_decide_eq_true (by kernel_rfl)) (tabd_start (fun i => rep_false _ i)) rfl
        case hop =>
          intro x oi a w0 listed hoi hun hsz hcl hdeps ht hI
          have hx : x < 11 := (Array.getElem?_eq_some_iff.1 hoi).1
          have cx : x = 0 ∨ x = 1 ∨ x = 2 ∨ x = 3 ∨ x = 4 ∨ x = 5 ∨ x = 6 ∨ x = 7 ∨ x = 8 ∨ x = 9 ∨ x = 10 := by omega
          have sz : listed.size = 11 := hsz
          have uj : listed.getD 4 false = true → listed.getD 3 false = true := fun h => hcl 4 _ rfl h ⟨3, .data⟩ (by simp) rfl
          have uk : listed.getD 10 false = true → listed.getD 4 false = true := fun h => hcl 10 _ rfl h ⟨4, .chain⟩ (by simp) rfl
          have ul1 : listed.getD 10 false = true → listed.getD 1 false = true := fun h => hcl 10 _ rfl h ⟨1, .phase⟩ (by simp) rfl
          have ul6 : listed.getD 10 false = true → listed.getD 6 false = true := fun h => hcl 10 _ rfl h ⟨6, .phase⟩ (by simp) rfl
          clear hcl
          obtain rfl | rfl | rfl | rfl | rfl | rfl | rfl | rfl | rfl | rfl | rfl := cx
          all_goals obtain rfl := Option.some.inj hoi
          · have e3 : a.eval (.tmp 3) = .pointer (some ⟨T, 0, none⟩) := (tabd_old ht (t := 3) (of_decide_eq_true (by kernel_rfl)) (by kernel_rfl)).trans rfl
            exact .inl ⟨rfl, fun K hk => wp_val (v := .pointer (some ⟨T, 1, none⟩)) (by generalize a.eval = ρ at *; unfold execOp; simp only [e3]; go_simp) (hk _ (hI.trans (stc_keep (by decide) (by decide) (by decide)).symm))⟩
          · have d0 := hdeps ⟨0, .data⟩ (by simp) rfl
            have e50 : a.eval (.tmp 50) = .pointer (some ⟨T, 1, none⟩) := tabd_at ht (t := 50) (of_decide_eq_true (by kernel_rfl)) (by kernel_rfl) d0
            have h : w0.cell? ⟨T, 1, none⟩ = some (vF) := by rw [hI]; exact FY.out listed (no_of ul1 (by simp [hun]))
            exact .inl ⟨rfl, fun K hk => wp_val (v := vF) (by clear hk hI hoi hdeps ht; generalize a.eval = ρ at *; unfold execOp; simp only [e50]; go_simp) (hk _ (hI.trans (stc_keep (by decide) (by decide) (by decide)).symm))⟩
          · exact .inl ⟨rfl, fun K hk => wp_val (v := .agg #[.int .i64 (-72), .slice none 0 0]) (by have ec : a.eval (.const (Value.int IntKind.i64 (-72))) = (Value.int IntKind.i64 (-72)) := rfl; generalize a.eval = ρ at *; unfold execOp; simp only [ec]; go_simp; try kernel_rfl) (hk _ (hI.trans (stc_keep (by decide) (by decide) (by decide)).symm))⟩
          · have d2 := hdeps ⟨2, .data⟩ (by simp) rfl
            have e52 : a.eval (.tmp 52) = .agg #[.int .i64 (-72), .slice none 0 0] := tabd_at ht (t := 52) (of_decide_eq_true (by kernel_rfl)) (by kernel_rfl) d2
            have hst : (Stc 3 4 10 (wr.drew) (wr.drew.alloc (.cells #[.int .i64 (-72), .slice none 0 0] 57)) (Z) (Z.setCell ⟨T, 1, none⟩ (.slice A2 m C2))) listed = wr.drew ∧ (Stc 3 4 10 (wr.drew) (wr.drew.alloc (.cells #[.int .i64 (-72), .slice none 0 0] 57)) (Z) (Z.setCell ⟨T, 1, none⟩ (.slice A2 m C2))) (listed.setIfInBounds 3 true) = wr.drew.alloc (.cells #[.int .i64 (-72), .slice none 0 0] 57) := stc_0 (by decide) (by decide) uj uk (by omega) hun
            have hw : wr.drew = w0 := (hI.trans hst.1).symm
            subst hw
            exact .inl ⟨rfl, fun K hk => wp_buildSlice 23 57 1 _ rfl #[.int .i64 (-72), .slice none 0 0] i1 _ Try.underlying23 hj1_ hj0 (by rw [hj1]; decide) (by rw [hj1]; decide) (by rw [hj1]; simp only [List.map_toArray, List.map_cons, List.map_nil, e52]; kernel_rfl) (hk _ hst.2.symm)⟩
          · have d1 := hdeps ⟨1, .data⟩ (by simp) rfl
            have d3 := hdeps ⟨3, .data⟩ (by simp) rfl
            have e51 : a.eval (.tmp 51) = vF := tabd_at ht (t := 51) (of_decide_eq_true (by kernel_rfl)) (by kernel_rfl) d1
            have e53 : a.eval (.tmp 53) = .slice (some ⟨wr.heap.size, 0, none⟩) 1 1 := tabd_at ht (t := 53) (of_decide_eq_true (by kernel_rfl)) (by kernel_rfl) d3
            have hst : (Stc 3 4 10 (wr.drew) (wr.drew.alloc (.cells #[.int .i64 (-72), .slice none 0 0] 57)) (Z) (Z.setCell ⟨T, 1, none⟩ (.slice A2 m C2))) listed = wr.drew.alloc (.cells #[.int .i64 (-72), .slice none 0 0] 57) ∧ (Stc 3 4 10 (wr.drew) (wr.drew.alloc (.cells #[.int .i64 (-72), .slice none 0 0] 57)) (Z) (Z.setCell ⟨T, 1, none⟩ (.slice A2 m C2))) (listed.setIfInBounds 4 true) = Z := stc_1 (by decide) (by decide) uk (by omega) hun d3
            have hw : wr.drew.alloc (.cells #[.int .i64 (-72), .slice none 0 0] 57) = w0 := (hI.trans hst.1).symm
            subst hw
            exact .inl ⟨rfl, fun K hk => wp_valT (v := .slice A2 (m + 1) C2) (w' := Z) (app_op _ _ rfl e51 e53 R5.out) (hk _ hst.2.symm)⟩
          · have e1 : a.eval (.tmp 1) = .pointer (some ⟨w.heap.size, 0, none⟩) := (tabd_old ht (t := 1) (of_decide_eq_true (by kernel_rfl)) (by kernel_rfl)).trans rfl
            exact .inl ⟨rfl, fun K hk => wp_val (v := .pointer (some ⟨w.heap.size, 1, none⟩)) (by generalize a.eval = ρ at *; unfold execOp; simp only [e1]; go_simp) (hk _ (hI.trans (stc_keep (by decide) (by decide) (by decide)).symm))⟩
          · have d5 := hdeps ⟨5, .data⟩ (by simp) rfl
            have e55 : a.eval (.tmp 55) = .pointer (some ⟨w.heap.size, 1, none⟩) := tabd_at ht (t := 55) (of_decide_eq_true (by kernel_rfl)) (by kernel_rfl) d5
            have h : w0.cell? ⟨w.heap.size, 1, none⟩ = some (.slice FA m fc) := by rw [hI]; exact F3.out listed (no_of ul6 (by simp [hun]))
            exact .inl ⟨rfl, fun K hk => wp_val (v := .slice FA m fc) (by clear hk hI hoi hdeps ht; generalize a.eval = ρ at *; unfold execOp; simp only [e55]; go_simp) (hk _ (hI.trans (stc_keep (by decide) (by decide) (by decide)).symm))⟩
          · have d6 := hdeps ⟨6, .data⟩ (by simp) rfl
            have e56 : a.eval (.tmp 56) = .slice FA m fc := tabd_at ht (t := 56) (of_decide_eq_true (by kernel_rfl)) (by kernel_rfl) d6
            exact .inl ⟨rfl, fun K hk => wp_val (v := .int .i64 (m : Int)) (by generalize a.eval = ρ at *; unfold execOp; simp only [e56]; go_simp) (hk _ (hI.trans (stc_keep (by decide) (by decide) (by decide)).symm))⟩
          · have d4 := hdeps ⟨4, .data⟩ (by simp) rfl
            have d7 := hdeps ⟨7, .data⟩ (by simp) rfl
            have e54 : a.eval (.tmp 54) = .slice A2 (m + 1) C2 := tabd_at ht (t := 54) (of_decide_eq_true (by kernel_rfl)) (by kernel_rfl) d4
            have e57 : a.eval (.tmp 57) = .int .i64 (m : Int) := tabd_at ht (t := 57) (of_decide_eq_true (by kernel_rfl)) (by kernel_rfl) d7
            exact .inl ⟨rfl, fun K hk => wp_val (v := .slice A2 m C2) (by generalize a.eval = ρ at *; unfold execOp; simp only [e54, e57]; go_simp) (hk _ (hI.trans (stc_keep (by decide) (by decide) (by decide)).symm))⟩
          · have e3 : a.eval (.tmp 3) = .pointer (some ⟨T, 0, none⟩) := (tabd_old ht (t := 3) (of_decide_eq_true (by kernel_rfl)) (by kernel_rfl)).trans rfl
            exact .inl ⟨rfl, fun K hk => wp_val (v := .pointer (some ⟨T, 1, none⟩)) (by generalize a.eval = ρ at *; unfold execOp; simp only [e3]; go_simp) (hk _ (hI.trans (stc_keep (by decide) (by decide) (by decide)).symm))⟩
          · have d9 := hdeps ⟨9, .data⟩ (by simp) rfl
            have d8 := hdeps ⟨8, .data⟩ (by simp) rfl
            have d4 := hdeps ⟨4, .chain⟩ (by simp) rfl
            have e58 : a.eval (.tmp 58) = .slice A2 m C2 := tabd_at ht (t := 58) (of_decide_eq_true (by kernel_rfl)) (by kernel_rfl) d8
            have e59 : a.eval (.tmp 59) = .pointer (some ⟨T, 1, none⟩) := tabd_at ht (t := 59) (of_decide_eq_true (by kernel_rfl)) (by kernel_rfl) d9
            have hst : (Stc 3 4 10 (wr.drew) (wr.drew.alloc (.cells #[.int .i64 (-72), .slice none 0 0] 57)) (Z) (Z.setCell ⟨T, 1, none⟩ (.slice A2 m C2))) listed = Z ∧ (Stc 3 4 10 (wr.drew) (wr.drew.alloc (.cells #[.int .i64 (-72), .slice none 0 0] 57)) (Z) (Z.setCell ⟨T, 1, none⟩ (.slice A2 m C2))) (listed.setIfInBounds 10 true) = Z.setCell ⟨T, 1, none⟩ (.slice A2 m C2) := stc_2 (by decide) (by omega) hun d4
            have hw : Z = w0 := (hI.trans hst.1).symm
            subst hw
            exact .inl ⟨rfl, fun K hk => wp_skipT (w' := Z.setCell ⟨T, 1, none⟩ (.slice A2 m C2)) (by have h1 := lies_cell L5.out 1; have h2 := lies_free L5.out 1; simp only [List.getElem?_toArray, List.getElem?_cons_zero, List.getElem?_cons_succ] at h1; clear hk hst hI ht hoi hdeps; generalize a.eval = ρ at *; unfold execOp; simp only [e58, e59]; go_simp) (hk _ hst.2.symm)⟩
        case hend =>
          intro a w0 listed hall ht hI
          rw [tabd_fill ht (fun t i ho => hall i (ownAll_lt ho))]
          have hw : w0 = _ := hI.trans (stc_end (hall 10 (of_decide_eq_true (by kernel_rfl))))
          change Exit.then _ _ Exit.normal { tmps := (.agg #[.slice NA n nc, .slice FA m fc] :: .pointer (some ⟨w.heap.size, 0, none⟩) :: .pointer (some ⟨w.heap.size + 1, 0, none⟩) :: .pointer (some ⟨T, 0, none⟩) :: .int .i64 (m : Int) :: u5 :: y0 :: y1 :: y2 :: y3 :: y4 :: y5 :: y6 :: y7 :: y8 :: y9 :: y10 :: .int .i64 (m : Int) :: .pointer (some ⟨w.heap.size, 1, none⟩) :: .slice FA m fc :: .int .i64 (m : Int) :: .bool false :: u22 :: u23 :: u24 :: u25 :: u26 :: u27 :: u28 :: u29 :: u30 :: u31 :: u32 :: u33 :: u34 :: u35 :: u36 :: u37 :: u38 :: u39 :: u40 :: u41 :: u42 :: u43 :: u44 :: u45 :: u46 :: u47 :: u48 :: u49 :: .pointer (some ⟨T, 1, none⟩) :: vF :: .agg #[.int .i64 (-72), .slice none 0 0] :: .slice (some ⟨wr.heap.size, 0, none⟩) 1 1 :: .slice A2 (m + 1) C2 :: .pointer (some ⟨w.heap.size, 1, none⟩) :: .slice FA m fc :: .int .i64 (m : Int) :: .slice A2 m C2 :: .pointer (some ⟨T, 1, none⟩) :: undef :: []).toArray, defers := [] } w0
          clear hall ht hI
          subst hw
          have LRW := Lib.hid (lies_below LR.out W6.out (lies_lt LR.out))
          have RG := Lib.hid (lies_range L6.out)
          have gs := grown_setRow (Z.setCell ⟨T, 1, none⟩ (.slice A2 m C2)) (w.heap.size + 1) #[.slice A1 n C1, .slice A2 m C2]
          have tr : ∀ r, some (w.heap.size + 1) = some r → ∃ cs t, (Z.setCell ⟨T, 1, none⟩ (.slice A2 m C2)).heap[r]? = some (.cells cs t (0, 0)) ∧ t = 25 := fun r e => by injection e with e; subst e; exact ⟨_, 25, LRW.out, rfl⟩
          have n8 := N7.out.kept gs (own_other N7.out (fun r e => by obtain ⟨cs, t, h, ht⟩ := tr r e; exact ⟨cs, t, h, by rw [ht]; decide⟩))
          have o8 := O7.out.kept gs (own_other O7.out (fun r e => by obtain ⟨cs, t, h, ht⟩ := tr r e; exact ⟨cs, t, h, by rw [ht]; decide⟩))
          have d8 : ∀ k, k < m → LentD _ X.heap.size (D k) (fs.getD k ⟨0, []⟩).data := fun k hk => lentD_other (D7.out k hk) gs (fun r e => by obtain ⟨cs, t, h, ht⟩ := tr r e; exact ⟨cs, t, h, by rw [ht]; decide⟩)
          have LA := Lib.hid (lent_at (by rw [← NE.out]; exact n8) (by rw [← ME.out]; exact o8) (by rw [← ME.out]; exact d8))
          have BZ := Lib.hid (below_setRow (HB.out.trans (W6.out.mono HB.out.size)) (g := w.heap.size + 1) (by omega) #[.slice A1 n C1, .slice A2 m C2])
          clear gs tr n8 o8 d8 FY F3 R5 L5
          generalize Z.setCell ⟨T, 1, none⟩ (.slice A2 m C2) = WE at *
          go_wp2_with (first
            | (refine wpList_load_mid rfl 25 _ rfl T 0 rfl [.slice A1 n C1, .slice A2 m C2] _ RG.out Try.underlying25 rfl (by kernel_rfl) ?_)
            | (refine wpList_store_row rfl 25 _ _ rfl (w.heap.size + 1) #[.slice A1 n C1, .slice A2 m C2] rfl rfl 25 _ LRW.out (by kernel_rfl) rfl (by simp [Value.oneCell']) ?_))
          refine bodyPost_ret (results_cell_row rfl _ _ (w.heap.size + 1) 25 #[.slice A1 n C1, .slice A2 m C2] (0, 0) _ rfl (lies_setRow LRW.out #[.slice A1 n C1, .slice A2 m C2]) Try.underlying25 rfl (by kernel_rfl)) rfl ?_
          exact ⟨⟨A1, C1, A2, C2, rfl, LA.out⟩, BZ.out⟩
end Go.Proofs.Ytjagddhkoacipaa
