/-
What is proved here: slices.EqualFunc of files, by a contract; tree's Same.
-/
import Derived.Test.YtdnagkgblmcojaaSeq
import Derived.Test.YtdnagkgblmcojaaIns
import Derived.Test.YtdnagkgblmcojaaWgn
set_option linter.unusedSimpArgs false
namespace Go.Proofs.Ytdnagkgblmcojaa
open Go.Pth Go.Tre Go.RowKit Go.Word Go.Shelf

theorem file_range {w : World} {b o : Nat} {m : Int} {v : Value} (d1 : w.cell? ⟨b, o, none⟩ = some (.int .i64 m)) (d2 : w.cell? ⟨b, o + 1, none⟩ = some v) : w.rangeAt b o [.int .i64 m, v] := fun j u hj => by
  match j, hj with
  | 0, hj => injection hj with hj; subst hj; exact d1
  | 1, hj => injection hj with hj; subst hj; exact d2
  | j + 2, hj => simp at hj
theorem sameFl_iff (x y : Fl) : sameFl x y = decide (x = y) := by
  obtain ⟨m, a⟩ := x
  obtain ⟨k, b⟩ := y
  unfold sameFl same
  by_cases h1 : m = k <;> by_cases h2 : a = b <;> simp [h1, h2]
set_option maxRecDepth 100000 in
set_option maxHeartbeats 4000000 in
theorem equalFiles_any (A B : Option Addr) (c d : Nat) (fs gs : List Fl) (w : World) (hn : fs.length ≤ 1000000) (hA : FilesAt w A fs) (hB : FilesAt w B gs) :
    Calls Try.prog 36 #[.slice A fs.length c, .slice B gs.length d, .func (.func 37) #[] #[]] w fun e w' => e = .returned (.bool (decide (fs = gs))) ∧ Below w.heap.size w w' := by
  obtain ⟨n, hne⟩ : ∃ n, n = fs.length := ⟨_, rfl⟩
  obtain ⟨m, hme⟩ : ∃ m, m = gs.length := ⟨_, rfl⟩
  rw [← hne] at hn ⊢
  rw [← hme]
  have NE := Lib.hid hne
  have ME := Lib.hid hme
  have HA := Lib.hid hA
  have HB := Lib.hid hB
  clear hne hme hA hB
  by_cases hnm : n = m
  · subst hnm
    obtain ⟨r, hr⟩ : ∃ r, r = decide (fs = gs) := ⟨_, rfl⟩
    rw [← hr]
    have RE := Lib.hid hr
    clear hr
    go_enter Try.func36, Try.ntmps36
    go_wp2
    go_loopw [17] (fun v17 wr => ∃ i : Nat, i ≤ n ∧ v17 = .int .i64 (i : Int) ∧ fs.take i = gs.take i ∧ Below w.heap.size w wr) (fun v17 _ => n - (intOf v17).toNat)
    case atStart => exact ⟨0, Nat.zero_le _, rfl, by simp, Below.refl _ _⟩
    case round =>
      obtain ⟨i, hi, rfl, hno, hb⟩ := hrel
      have HBW := Lib.hid hb
      have NO := Lib.hid hno
      clear hb hno
      by_cases hlt : i < n
      · have li : (i : Int) < (n : Int) := by omega
        have lf : i < fs.length := by have := NE.out; omega
        have lm : i < gs.length := by have := ME.out; omega
        obtain ⟨b, o, DA, dc, eA, hl, h1, h2, h3⟩ := HA.out i lf
        obtain ⟨b', o', DB, dd, eB, hl', h1', h2', h3'⟩ := HB.out i lm
        subst eA eB
        have d1 := (HBW.out.cell (p := ⟨b, o + i * 2, none⟩) hl).trans h1
        have d2 := (HBW.out.cell (p := ⟨b, o + i * 2 + 1, none⟩) hl).trans h2
        have f1 := (HBW.out.cell (p := ⟨b', o' + i * 2, none⟩) hl').trans h1'
        have f2 := (HBW.out.cell (p := ⟨b', o' + i * 2 + 1, none⟩) hl').trans h2'
        have TK := Lib.hid (take_eq fs gs i NO.out lf lm)
        have EQ := Lib.hid (sameFl_iff fs[i] gs[i])
        have RN := Lib.hid (show fs = gs → fs[i] = gs[i] from fun e => by subst e; rfl)
        have SF := fun (W : World) (hW : Below w.heap.size w W) => Lib.hid (sameFile_any DA DB dc dd fs[i] gs[i] W (bytesAt_below h3 hW) (bytesAt_below h3' hW))
        clear h1 h2 h1' h2' h3 h3'
        generalize fs[i] = x at *
        generalize gs[i] = y at *
        generalize sameFl x y = s at EQ SF
        obtain ⟨md, a⟩ := x
        obtain ⟨k, e⟩ := y
        change wr.cell? ⟨b, o + i * 2 + 1, none⟩ = some (.slice DA a.length dc) at d2
        change wr.cell? ⟨b', o' + i * 2 + 1, none⟩ = some (.slice DB e.length dd) at f2
        change ∀ W, Below w.heap.size w W → Hid (Calls Try.prog 37 #[.agg #[.int .i64 md, .slice DA a.length dc], .agg #[.int .i64 k, .slice DB e.length dd]] W fun e w' => e = .returned (.bool s) ∧ Below W.heap.size W w') at SF
        have EQ2 : Hid (s = decide ((⟨md, a⟩ : Fl) = ⟨k, e⟩)) := EQ
        have RN2 : Hid (fs = gs → (⟨md, a⟩ : Fl) = ⟨k, e⟩) := RN
        have TK2 : Hid (fs.take (i + 1) = gs.take (i + 1) ↔ (⟨md, a⟩ : Fl) = ⟨k, e⟩) := TK
        generalize a.length = na at *
        generalize e.length = nb at *
        have LM := Lib.hid (file_range d1 d2)
        have d1' : (wr.alloc (.cells #[.int .i64 md, .slice DA na dc] 49)).rangeAt b' (o' + i * 2) [.int .i64 k, .slice DB nb dd] := by
          have hbb : b' < wr.heap.size := Nat.lt_of_lt_of_le hl' HBW.out.size
          exact file_range ((((Below.refl _ wr).alloc (Nat.le_refl _) _).cell (p := ⟨b', o' + i * 2, none⟩) hbb).trans f1) ((((Below.refl _ wr).alloc (Nat.le_refl _) _).cell (p := ⟨b', o' + i * 2 + 1, none⟩) hbb).trans f2)
        have LM2 := Lib.hid d1'
        have LN := Lib.hid (lies_new wr 49 #[.int .i64 0, .slice none 0 0])
        have ES := Lib.hid (setRow_alloc wr 49 #[.int .i64 0, .slice none 0 0] #[.int .i64 md, .slice DA na dc])
        have LN2 : Hid (Lies ((wr.alloc (.cells #[.int .i64 md, .slice DA na dc] 49)).alloc (.cells #[.int .i64 0, .slice none 0 0] 49)) (wr.heap.size + 1) 49 #[.int .i64 0, .slice none 0 0]) := by
          have := lies_new (wr.alloc (.cells #[.int .i64 md, .slice DA na dc] 49)) 49 #[.int .i64 0, .slice none 0 0]
          rw [World.size_alloc] at this
          exact Lib.hid this
        have ES2 : Hid (((wr.alloc (.cells #[.int .i64 md, .slice DA na dc] 49)).alloc (.cells #[.int .i64 0, .slice none 0 0] 49)).setRow (wr.heap.size + 1) #[.int .i64 k, .slice DB nb dd] = (wr.alloc (.cells #[.int .i64 md, .slice DA na dc] 49)).alloc (.cells #[.int .i64 k, .slice DB nb dd] 49)) := by
          have := setRow_alloc (wr.alloc (.cells #[.int .i64 md, .slice DA na dc] 49)) 49 #[.int .i64 0, .slice none 0 0] #[.int .i64 k, .slice DB nb dd]
          rw [World.size_alloc] at this
          exact Lib.hid this
        have L1 := lies_alloc (lies_new wr 49 #[.int .i64 md, .slice DA na dc]) (.cells #[.int .i64 k, .slice DB nb dd] 49)
        have L2 := lies_new (wr.alloc (.cells #[.int .i64 md, .slice DA na dc] 49)) 49 #[.int .i64 k, .slice DB nb dd]
        rw [World.size_alloc] at L2
        have BX := Lib.hid (show Below w.heap.size w ((wr.alloc (.cells #[.int .i64 md, .slice DA na dc] 49)).alloc (.cells #[.int .i64 k, .slice DB nb dd] 49)) from (HBW.out.alloc HBW.out.size _).alloc (by have := HBW.out.size; simp; omega) _)
        have SF2 := SF _ BX.out
        have x0 := lies_cell L1 0
        have x1 := lies_cell L1 1
        have y0 := lies_cell L2 0
        have y1 := lies_cell L2 1
        simp only [List.getElem?_toArray, List.getElem?_cons_zero, List.getElem?_cons_succ] at x0 x1 y0 y1
        clear d1 d2 f1 f2 d1' SF L1 L2 EQ RN TK
        go_wp2_with (first
          | (refine wpList_load_mid rfl 49 _ rfl b (o + i * 2) rfl [.int .i64 md, .slice DA na dc] _ LM.out Try.underlying49 rfl (by kernel_rfl) ?_)
          | (refine wpList_load_mid rfl 49 _ rfl b' (o' + i * 2) rfl [.int .i64 k, .slice DB nb dd] _ LM2.out Try.underlying49 rfl (by kernel_rfl) ?_)
          | (refine wpList_store_row rfl 49 _ _ rfl wr.heap.size #[.int .i64 md, .slice DA na dc] rfl rfl 49 _ LN.out (by kernel_rfl) rfl (by simp [Value.oneCell']) ?_; rw [ES.out])
          | (refine wpList_store_row rfl 49 _ _ rfl (wr.heap.size + 1) #[.int .i64 k, .slice DB nb dd] rfl rfl 49 _ LN2.out (by kernel_rfl) rfl (by simp [Value.oneCell']) ?_; rw [ES2.out])
          | (go_at_call 37; (with_reducible refine SF2.out.mono ?_); rintro e w1 ⟨rfl, hb⟩; have H1 := Lib.hid (BX.out.trans (hb.mono BX.out.size)); clear hb))
        · rename_i hd
          have hs : s = false := by simpa using hd
          go_ret
          have hr : r = false := by
            rw [RE.out]
            refine decide_eq_false (fun e => ?_)
            have h1 := EQ2.out
            rw [hs, decide_eq_true (RN2.out e)] at h1
            cases h1
          rw [hr]
          exact ⟨rfl, H1.out⟩
        · rename_i hd
          have hs : s = true := by simpa using hd
          have hxy : (⟨md, a⟩ : Fl) = ⟨k, e⟩ := of_decide_eq_true (by rw [← EQ2.out]; exact hs)
          exact ⟨⟨i + 1, by omega, by go_num, TK2.out.2 hxy, H1.out⟩, by first | (simp [intOf]; done) | (simp [intOf]; omega)⟩
      · have hr : r = true := by
          rw [RE.out]
          have h1 := NO.out
          rw [List.take_of_length_le (by have := NE.out; omega), List.take_of_length_le (by have := ME.out; omega)] at h1
          exact decide_eq_true h1
        have li : ¬ (i : Int) < (n : Int) := by omega
        have HR := Lib.hid hr
        clear hr
        go_wp2
        go_ret
        rw [HR.out]
        exact ⟨rfl, HBW.out⟩
  · have hr : decide (fs = gs) = false := decide_eq_false (fun e => hnm (by rw [NE.out, ME.out, e]))
    have hnm2 : ¬ (n : Int) = (m : Int) := by omega
    rw [hr]
    clear hr
    go_enter Try.func36, Try.ntmps36
    go_wp2
    go_ret
    exact ⟨rfl, Below.refl _ _⟩

/-- are two trees one, and loose -/
def sameT (ns : List Nd) (fs : List Fl) (ms : List Nd) (gs : List Fl) : Bool := decide (looseE ns fs = 0) && (decide (ns = ms) && decide (fs = gs))
set_option maxRecDepth 100000 in
set_option maxHeartbeats 4000000 in
theorem same_any (NA FA MA GA : Option Addr) (nc fc mc gc : Nat) (ns ms : List Nd) (fs gs : List Fl) (w : World) (hN : NodesAt w NA ns) (hF : FilesAt w FA fs) (hM : NodesAt w MA ms) (hG : FilesAt w GA gs) (hp : ∀ x ∈ ns, x.path.length ≤ 100000) :
    Calls Try.prog 20 #[.agg #[.slice NA ns.length nc, .slice FA fs.length fc], .agg #[.slice MA ms.length mc, .slice GA gs.length gc]] w fun e w' => e = .returned (.bool (sameT ns fs ms gs)) ∧ Below w.heap.size w w' := by
  have L1 := lies_alloc (lies_new w 25 #[.slice NA ns.length nc, .slice FA fs.length fc]) (.cells #[.slice MA ms.length mc, .slice GA gs.length gc] 25)
  have L2 := lies_new (w.alloc (.cells #[.slice NA ns.length nc, .slice FA fs.length fc] 25)) 25 #[.slice MA ms.length mc, .slice GA gs.length gc]
  rw [World.size_alloc] at L2
  have hB : Below w.heap.size w ((w.alloc (.cells #[.slice NA ns.length nc, .slice FA fs.length fc] 25)).alloc (.cells #[.slice MA ms.length mc, .slice GA gs.length gc] 25)) := ((Below.refl _ _).alloc (Nat.le_refl _) _).alloc (by simp) _
  have KL := Lib.hid (loose_any NA FA nc fc ns fs _ (nodesAt_below hN hB) (filesAt_below hF hB) hp)
  have KN := fun (W : World) (hb : Below w.heap.size w W) (h : ns.length ≤ 1000000) => Lib.hid (equalNodes_any NA MA nc mc ns ms W h (nodesAt_below hN hb) (nodesAt_below hM hb))
  have KF := fun (W : World) (hb : Below w.heap.size w W) (h : fs.length ≤ 1000000) => Lib.hid (equalFiles_any FA GA fc gc fs gs W h (filesAt_below hF hb) (filesAt_below hG hb))
  have hs := @loose_small ns fs
  unfold sameT
  generalize looseE ns fs = z at *
  generalize decide (ns = ms) = s at *
  generalize decide (fs = gs) = t at *
  generalize ns.length = n at *
  generalize ms.length = m at *
  generalize fs.length = f at *
  generalize gs.length = g at *
  have x0 := lies_cell L1 0
  have x1 := lies_cell L1 1
  have y0 := lies_cell L2 0
  have y1 := lies_cell L2 1
  simp only [List.getElem?_toArray, List.getElem?_cons_zero, List.getElem?_cons_succ] at x0 x1 y0 y1
  have LX := Lib.hid L1
  have LY := Lib.hid L2
  have HB := Lib.hid hB
  clear L1 L2 hB hN hF hM hG hp
  have after : ∀ W, Below ((w.alloc (.cells #[.slice NA n nc, .slice FA f fc] 25)).alloc (.cells #[.slice MA m mc, .slice GA g gc] 25)).heap.size ((w.alloc (.cells #[.slice NA n nc, .slice FA f fc] 25)).alloc (.cells #[.slice MA m mc, .slice GA g gc] 25)) W →
      Hid (W.cell? ⟨w.heap.size, 0, none⟩ = some (.slice NA n nc) ∧ W.cell? ⟨w.heap.size, 1, none⟩ = some (.slice FA f fc) ∧ W.cell? ⟨w.heap.size + 1, 0, none⟩ = some (.slice MA m mc) ∧ W.cell? ⟨w.heap.size + 1, 1, none⟩ = some (.slice GA g gc)) := fun W hb =>
    Lib.hid ⟨(hb.cell (p := ⟨w.heap.size, 0, none⟩) (lies_lt LX.out)).trans x0, (hb.cell (p := ⟨w.heap.size, 1, none⟩) (lies_lt LX.out)).trans x1, (hb.cell (p := ⟨w.heap.size + 1, 0, none⟩) (lies_lt LY.out)).trans y0, (hb.cell (p := ⟨w.heap.size + 1, 1, none⟩) (lies_lt LY.out)).trans y1⟩
  by_cases hz : z = 0
  · obtain ⟨hn, hf, _⟩ := hs hz
    subst hz
    clear hs
    have e : (decide ((0 : Int) = 0) && (s && t)) = (s && t) := by simp
    rw [e]
    clear e
    cases s with
    | false =>
      rw [Bool.false_and]
      go_enter Try.func20, Try.ntmps20
      go_wp2_with (first
        | (go_at_call 22; (with_reducible refine KL.out.mono ?_); rintro e w1 ⟨rfl, hb⟩; obtain ⟨q0, q1, q2, q3⟩ := (after w1 hb).out; have B1 := Lib.hid (HB.out.trans (hb.mono HB.out.size)); clear hb)
        | (go_at_call 35; (with_reducible refine (KN _ B1.out (by omega)).out.mono ?_); rintro e w2 ⟨rfl, hb⟩; have B2 := Lib.hid (B1.out.trans (hb.mono B1.out.size)); clear hb))
      go_ret
      exact ⟨rfl, B2.out⟩
    | true =>
      rw [Bool.true_and]
      go_enter Try.func20, Try.ntmps20
      go_wp2_with (first
        | (go_at_call 22; (with_reducible refine KL.out.mono ?_); rintro e w1 ⟨rfl, hb⟩; obtain ⟨q0, q1, q2, q3⟩ := (after w1 hb).out; have B01 := Lib.hid hb; have B1 := Lib.hid (HB.out.trans (hb.mono HB.out.size)); clear hb)
        | (go_at_call 35; (with_reducible refine (KN _ B1.out (by omega)).out.mono ?_); rintro e w2 ⟨rfl, hb⟩; obtain ⟨p0, p1, p2, p3⟩ := (after w2 (B01.out.trans (hb.mono B01.out.size))).out; have B2 := Lib.hid (B1.out.trans (hb.mono B1.out.size)); clear hb)
        | (go_at_call 36; (with_reducible refine (KF _ B2.out (by omega)).out.mono ?_); rintro e w3 ⟨rfl, hb⟩; have B3 := Lib.hid (B2.out.trans (hb.mono B2.out.size)); clear hb))
      go_ret
      exact ⟨rfl, B3.out⟩
  · have e : (decide (z = 0) && (s && t)) = false := by simp [hz]
    have hz2 : (z == 0) = false := by simpa using hz
    rw [e]
    clear e hs
    go_enter Try.func20, Try.ntmps20
    go_wp2_with (go_at_call 22; (with_reducible refine KL.out.mono ?_); rintro e w1 ⟨rfl, hb⟩; have B1 := Lib.hid (HB.out.trans (hb.mono HB.out.size)); clear hb)
    go_ret
    exact ⟨rfl, B1.out⟩
end Go.Proofs.Ytdnagkgblmcojaa
