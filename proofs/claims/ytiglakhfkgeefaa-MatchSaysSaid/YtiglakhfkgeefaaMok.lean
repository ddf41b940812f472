/-
What is proved here: the laws' look whether a pair of trees and a stock is too much to be played; two rows of sources that are one; by contracts. a call of Match that is not refused, and one that is, by contracts.
-/
import Derived.Test.YtiglakhfkgeefaaAli
import Derived.Test.YtiglakhfkgeefaaBig
import Derived.Test.YtiglakhfkgeefaaOpp
import Derived.Deep.QuietTactic
import Derived.BigQuiet
import Derived.Test.YtiglakhfkgeefaaPm
set_option linter.unusedSimpArgs false
set_option linter.unusedVariables false
namespace Go.Proofs.Ytiglakhfkgeefaa
open Go.Pth Go.Tre Go.RowKit Go.Word Go.Shelf Go.Mat
def SmallL (ls : List Bt) : Prop := ls.length ≤ 200 ∧ ∀ x ∈ ls, x.length ≤ 60000
/-- how the looks end -/
def M7E (ls : List Bt) (e : Ending) : Prop := ∃ b, e = .returned (.bool b) ∧ (b = false → SmallL ls)
def MuE (ns : List Nd) (fs : List Fl) (ms : List Nd) (gs : List Fl) (ls : List Bt) (e : Ending) : Prop := ∃ b, e = .returned (.bool b) ∧ (b = false → Small ns fs ∧ Small ms gs ∧ SmallL ls)
set_option maxRecDepth 100000 in
set_option maxHeartbeats 4000000 in
theorem much7_any (A : Option Addr) (c : Nat) (ls : List Bt) (w : World) (hL : ListQ w A ls) (h1 : ls.length ≤ 140737488355328) (h2 : ∀ x ∈ ls, x.length ≤ 140737488355328) :
    Calls Try.prog 29 #[.slice A ls.length c] w fun e w' => M7E ls e ∧ w = w' := by
  obtain ⟨n, hne⟩ : ∃ n, n = ls.length := ⟨_, rfl⟩
  rw [← hne] at h1 ⊢
  have NE := Lib.hid hne
  have H2 := Lib.hid h2
  have HL := Lib.hid hL
  clear hne h2 hL
  go_enter Try.func29, Try.ntmps29
  go_wp2
  go_loopw [3, 4] (fun v3 v4 wr => ∃ (i : Nat) (N : Int), i ≤ n ∧ v4 = .int .i64 (i : Int) ∧ v3 = .int .i64 N ∧ 0 ≤ N ∧ N ≤ 140737488500000 ∧ (∀ x ∈ ls.take i, (x.length : Int) ≤ N) ∧ wr = w) (fun _ v4 _ => n - (intOf v4).toNat)
  case atStart => exact ⟨0, 0, Nat.zero_le _, rfl, rfl, by omega, by omega, by simp, rfl⟩
  case round =>
    obtain ⟨i, N, hi, rfl, rfl, hN0, hN1, hno, rfl⟩ := hrel
    have NO := Lib.hid hno
    clear hno
    by_cases hlt : i < n
    · have li : (i : Int) < (n : Int) := by omega
      by_cases hN4 : N ≤ 60000
      · have lf : i < ls.length := by have := NE.out; omega
        obtain ⟨b, o, DA, dc, eA, hl, d1, d2⟩ := HL.out i lf
        subst eA
        have hpl := H2.out ls[i] (List.getElem_mem _)
        have TK := Lib.hid (fun (M : Int) (hM : N ≤ M) (hq : (ls[i].length : Int) ≤ M) => (show ∀ x ∈ ls.take (i + 1), (x.length : Int) ≤ M by
          rw [List.take_succ_eq_append_getElem lf]
          intro x hx
          rcases List.mem_append.1 hx with h | h
          · have := NO.out x h; omega
          · rw [List.mem_singleton] at h; subst h; exact hq))
        clear d2
        generalize ls[i].length = q at *
        have wa : wrap64 (N + 1 + (q : Int)) = N + 1 + (q : Int) := wrap_big _ (by omega)
        go_wp2
        go_roundw
        case rel => exact ⟨i + 1, N + 1 + (q : Int), by omega, by go_num, rfl, by omega, by omega, TK.out _ (by omega) (by omega), trivial⟩
        case measure => first | (simp [intOf]; done) | (simp [intOf]; omega)
      · have hN5 : 60000 < N := by omega
        go_wp2
        go_ret
        exact ⟨⟨true, rfl, fun h => by cases h⟩, rfl⟩
    · have li : ¬ (i : Int) < (n : Int) := by omega
      have AF := Lib.hid (show ∀ x ∈ ls, (x.length : Int) ≤ N by
        have := NO.out
        rw [List.take_of_length_le (by have := NE.out; omega)] at this
        exact this)
      by_cases hN4 : N ≤ 60000
      · have hN5 : ¬ 60000 < N := by omega
        by_cases k1 : 200 < n
        · have k1' : (200 : Int) < (n : Int) := by omega
          go_wp2
          go_ret
          exact ⟨⟨true, rfl, fun h => by cases h⟩, rfl⟩
        · have k1' : ¬ (200 : Int) < (n : Int) := by omega
          go_wp2
          go_ret
          exact ⟨⟨false, rfl, fun _ => ⟨by have := NE.out; omega, fun x hx => by have := AF.out x hx; omega⟩⟩, rfl⟩
      · have hN5 : 60000 < N := by omega
        go_wp2
        go_ret
        exact ⟨⟨true, rfl, fun h => by cases h⟩, rfl⟩
/-- a pair's cells -/
def pairC (NA FA : Option Addr) (nc fc : Nat) (n m : Nat) (MA GA : Option Addr) (mc gc : Nat) (n2 m2 : Nat) (LA : Option Addr) (lc k : Nat) : Array Value := #[.slice NA n nc, .slice FA m fc, .slice MA n2 mc, .slice GA m2 gc, .slice LA k lc]
theorem pair_range {w : World} {g : Nat} {a b c d e : Value} (h : Lies w g 28 #[a, b, c, d, e]) : w.rangeAt g 0 [a, b] ∧ w.rangeAt g 2 [c, d] ∧ w.rangeAt g 4 [e] := by
  refine ⟨fun j v hj => ?_, fun j v hj => ?_, fun j v hj => ?_⟩
  · match j, hj with
    | 0, hj => injection hj with hj; subst hj; exact lies_cell h 0
    | 1, hj => injection hj with hj; subst hj; exact lies_cell h 1
    | j + 2, hj => simp at hj
  · match j, hj with
    | 0, hj => injection hj with hj; subst hj; exact lies_cell h 2
    | 1, hj => injection hj with hj; subst hj; exact lies_cell h 3
    | j + 2, hj => simp at hj
  · match j, hj with
    | 0, hj => injection hj with hj; subst hj; exact lies_cell h 4
    | j + 1, hj => simp at hj
theorem five_range {w : World} {g : Nat} {T : TypeId} {a b c d e : Value} (h : Lies w g T #[a, b, c, d, e]) : w.rangeAt g 0 [a, b, c, d, e] := fun j v hj => by
  match j, hj with
  | 0, hj => injection hj with hj; subst hj; exact lies_cell h 0
  | 1, hj => injection hj with hj; subst hj; exact lies_cell h 1
  | 2, hj => injection hj with hj; subst hj; exact lies_cell h 2
  | 3, hj => injection hj with hj; subst hj; exact lies_cell h 3
  | 4, hj => injection hj with hj; subst hj; exact lies_cell h 4
  | j + 5, hj => simp at hj
set_option maxRecDepth 100000 in
set_option maxHeartbeats 4000000 in
theorem much_any (NA FA MA GA LA : Option Addr) (nc fc mc gc lc : Nat) (ns ms : List Nd) (fs gs : List Fl) (ls : List Bt) (w : World) (hN : NodesAt w NA ns) (hF : FilesAt w FA fs) (hM : NodesAt w MA ms) (hG : FilesAt w GA gs) (hL : ListQ w LA ls)
    (h1 : Fits ns fs) (h2 : Fits ms gs) (h3 : FitsL ls) :
    Calls Try.prog 10 #[.agg #[.slice NA ns.length nc, .slice FA fs.length fc, .slice MA ms.length mc, .slice GA gs.length gc, .slice LA ls.length lc]] w fun e w' => MuE ns fs ms gs ls e ∧ Below w.heap.size w w' := by
  have K1 := Lib.hid (fun (W : World) (h : Below w.heap.size w W) => big_any NA FA nc fc ns fs W (nodesAt_below hN h) (filesAt_below hF h) h1.1 h1.2.1 h1.2.2.1 h1.2.2.2)
  have K2 := Lib.hid (fun (W : World) (h : Below w.heap.size w W) => big_any MA GA mc gc ms gs W (nodesAt_below hM h) (filesAt_below hG h) h2.1 h2.2.1 h2.2.2.1 h2.2.2.2)
  have K3 := Lib.hid (fun (W : World) (h : Below w.heap.size w W) => much7_any LA lc ls W (listQ_below hL h) h3.1 h3.2)
  generalize ns.length = n at *
  generalize fs.length = m at *
  generalize ms.length = n2 at *
  generalize gs.length = m2 at *
  generalize ls.length = k at *
  have B0 := Lib.hid (show Below w.heap.size w (w.alloc (.cells #[.slice NA n nc, .slice FA m fc, .slice MA n2 mc, .slice GA m2 gc, .slice LA k lc] 28)) from (Below.refl _ _).alloc (Nat.le_refl _) _)
  have L0 := lies_new w 28 #[.slice NA n nc, .slice FA m fc, .slice MA n2 mc, .slice GA m2 gc, .slice LA k lc]
  have R0 := Lib.hid (pair_range L0).1
  have LX := Lib.hid L0
  clear hN hF hM hG hL h1 h2 h3 L0
  go_enter Try.func10, Try.ntmps10
  go_upto_region 1 with (fail)
  generalize w.alloc (.cells #[.slice NA n nc, .slice FA m fc, .slice MA n2 mc, .slice GA m2 gc, .slice LA k lc] 28) = X at *
  go_upto_region 2 with (first
    | (refine wpList_load_mid rfl 25 _ rfl w.heap.size 0 rfl [.slice NA n nc, .slice FA m fc] _ R0.out Try.underlying25 rfl (by kernel_rfl) ?_)
    | (go_at_call 24; (with_reducible refine (K1.out _ B0.out).mono ?_); rintro e w1 ⟨⟨b1, rfl, hs1⟩, hb⟩; have S1 := Lib.hid hs1; have B1 := Lib.hid (B0.out.trans (hb.mono B0.out.size)); have l1 := lies_below LX.out hb (lies_lt LX.out); have L1 := Lib.hid l1; have R1 := Lib.hid (pair_range l1).2.1; clear hb hs1 l1))
  go_upto_region 3 with (first
    | (refine wpList_load_mid rfl 25 _ rfl w.heap.size 2 rfl [.slice MA n2 mc, .slice GA m2 gc] _ R1.out Try.underlying25 rfl (by kernel_rfl) ?_)
    | (go_at_call 24; (with_reducible refine (K2.out _ B1.out).mono ?_); rintro e w2 ⟨⟨b2, rfl, hs2⟩, hb⟩; have S2 := Lib.hid hs2; have B2 := Lib.hid (B1.out.trans (hb.mono B1.out.size)); have l2 := lies_below L1.out hb (lies_lt L1.out); have c4 := lies_cell l2 4; simp only [List.getElem?_toArray, List.getElem?_cons_zero, List.getElem?_cons_succ] at c4; clear hb hs2 l2))
  go_upto_region 4 with (go_at_call 29; (with_reducible refine (K3.out _ B2.out).mono ?_); rintro e w3 ⟨⟨b3, rfl, hs3⟩, rfl⟩; have S3 := Lib.hid hs3; clear hs3)
  cases b1 with
  | true =>
    go_wp2
    go_ret
    exact ⟨⟨true, rfl, fun h => by cases h⟩, B2.out⟩
  | false =>
    cases b2 with
    | true =>
      go_wp2
      go_ret
      exact ⟨⟨true, rfl, fun h => by cases h⟩, B2.out⟩
    | false =>
      go_wp2
      go_ret
      exact ⟨⟨b3, rfl, fun h => ⟨S1.out (by first | rfl | trivial), S2.out (by first | rfl | trivial), S3.out h⟩⟩, B2.out⟩
set_option maxRecDepth 100000 in
set_option maxHeartbeats 4000000 in
theorem sames_any (g1 g2 C1 C2 : Nat) (xs : List Sr) (w : World) (h1 : SrcR w g1 xs) (h2 : SrcR w g2 xs) (hn : xs.length ≤ 1000000) :
    Calls Try.prog 19 #[.slice (some ⟨g1, 0, none⟩) xs.length C1, .slice (some ⟨g2, 0, none⟩) xs.length C2] w fun e w' => e = .returned (.bool true) ∧ Below w.heap.size w w' := by
  obtain ⟨n, hne⟩ : ∃ n, n = xs.length := ⟨_, rfl⟩
  rw [← hne] at hn ⊢
  have NE := Lib.hid hne
  have R1 := Lib.hid (fun (W : World) (hb : Below w.heap.size w W) (i : Nat) (hi : i < xs.length) => (show W.rangeAt g1 (i * 3) (srL xs[i]) from fun j v hj => by
    obtain ⟨cs, hl⟩ := srcR_lies h1
    exact (hb.cell (p := ⟨g1, i * 3 + j, none⟩) (lies_lt hl)).trans (srcR_at h1 i hi j v hj)))
  have R2 := Lib.hid (fun (W : World) (hb : Below w.heap.size w W) (i : Nat) (hi : i < xs.length) => (show W.rangeAt g2 (i * 3) (srL xs[i]) from fun j v hj => by
    obtain ⟨cs, hl⟩ := srcR_lies h2
    exact (hb.cell (p := ⟨g2, i * 3 + j, none⟩) (lies_lt hl)).trans (srcR_at h2 i hi j v hj)))
  clear hne h1 h2
  go_enter Try.func19, Try.ntmps19
  go_wp2
  go_loopw [5] (fun v5 wr => ∃ i : Nat, i ≤ n ∧ v5 = .int .i64 (i : Int) ∧ Below w.heap.size w wr) (fun v5 _ => n - (intOf v5).toNat)
  case atStart => exact ⟨0, Nat.zero_le _, rfl, Below.refl _ _⟩
  case round =>
    obtain ⟨i, hi, rfl, hb⟩ := hrel
    have HB := Lib.hid hb
    by_cases hlt : i < n
    · have li : (i : Int) < (n : Int) := by omega
      have lf : i < xs.length := by have := NE.out; omega
      have r1 := R1.out wr hb i lf
      have r2 := R2.out wr hb i lf
      clear hb
      generalize xs[i] = x at *
      obtain ⟨a, b, c⟩ := x
      have c0 := r1 0 _ rfl
      have c1 := r1 1 _ rfl
      have c2 := r1 2 _ rfl
      have d0 := r2 0 _ rfl
      have d1 := r2 1 _ rfl
      have d2 := r2 2 _ rfl
      clear r1 r2
      simp only [Nat.add_zero] at c0 c1 c2 d0 d1 d2
      go_upto_region 6 with (fail)
      go_quiet (fail)
      go_wp2
      go_roundw
      case rel => exact ⟨i + 1, by omega, by go_num, below_drewN HB.out _⟩
      case measure => first | (simp [intOf]; done) | (simp [intOf]; omega)
    · have li : ¬ (i : Int) < (n : Int) := by omega
      go_wp2
      go_ret
      exact ⟨rfl, HB.out⟩
end Go.Proofs.Ytiglakhfkgeefaa
set_option linter.unusedSimpArgs false
set_option linter.unusedVariables false
namespace Go.Proofs.Ytiglakhfkgeefaa
open Go.Pth Go.Tre Go.RowKit Go.Word Go.Shelf Go.Mat
theorem errM_eq (sn tn : List Nd) (sf tf : List Fl) (ls : List Bt) : matchE sn sf tn tf ls = errM sn sf tn tf ls := by
  unfold matchE errM pairE
  rfl
theorem pairE_zero {sn tn : List Nd} {sf tf : List Fl} : pairE sn sf tn tf = 0 ↔ checkE sn sf = 0 ∧ checkE tn tf = 0 := by
  unfold pairE
  by_cases a : checkE sn sf = 0 <;> simp [a]
theorem matchL_len (sn tn : List Nd) (sf tf : List Fl) (ls : List Bt) : (matchL sn sf tn tf ls).1.length = tf.length := by
  unfold matchL
  rw [passes_len]
  simp
theorem small_remode {ns : List Nd} {fs : List Fl} (g : Int → Int) (h : Small ns fs) : Small ns (remode g fs) := by
  obtain ⟨h1, h2, h3, h4⟩ := h
  refine ⟨h1, by rw [remode_len]; exact h2, h3, fun x hx => ?_⟩
  obtain ⟨y, hy, rfl⟩ := List.mem_map.1 hx
  exact h4 y hy
theorem srcR_below {W W' : World} {g : Nat} {xs : List Sr} (h : SrcR W g xs) {B : Nat} (hB : W.heap.size ≤ B) (hb : Below B W W') : SrcR W' g xs := by
  obtain ⟨cs, hl⟩ := srcR_lies h
  exact srcR_keep h (hb.block g (Nat.lt_of_lt_of_le (lies_lt hl) hB))
section
variable (NS FS NT FT C : Option Addr) (ns fs nt ft cc : Nat) (sn tn : List Nd) (sf tf : List Fl) (ls : List Bt) (w : World) (hNS : NodesAt w NS sn) (hFS : FilesAt w FS sf) (hNT : NodesAt w NT tn) (hFT : FilesAt w FT tf) (hC : ListQ w C ls)
  (hs : Small sn sf) (ht : Small tn tf) (h5 : ls.length ≤ 70000) (h6 : ∀ x ∈ ls, x.length ≤ 100000)
include hNS hFS hNT hFT hC hs ht h5 h6
theorem match_small : Calls Try.prog 13 #[.agg #[.slice NS sn.length ns, .slice FS sf.length fs], .agg #[.slice NT tn.length nt, .slice FT tf.length ft], .slice C ls.length cc] w fun e W => ∃ v, e = .returned (.tuple #[v, .int .i64 (errM sn sf tn tf ls)]) ∧
      (errM sn sf tn tf ls ≠ 0 → v = .slice none 0 0) ∧ (errM sn sf tn tf ls = 0 → ∃ g, v = .slice (some ⟨g, 0, none⟩) tf.length tf.length ∧ SrcR W g (matchL sn sf tn tf ls).1) ∧ Below w.heap.size w W := by
  rw [← errM_eq]
  exact match_any NS FS NT FT C ns fs nt ft cc sn tn sf tf ls w hNS hFS hNT hFT hC (fun x hx => by have := hs.2.2.1 x hx; omega) (fun x hx => by have := ht.2.2.1 x hx; omega) (fun x hx => by have := h6 x hx; omega) (fun he _ => ok_of_check he hs ht h5 h6)
theorem match_ok (he : errM sn sf tn tf ls = 0) : Calls Try.prog 13 #[.agg #[.slice NS sn.length ns, .slice FS sf.length fs], .agg #[.slice NT tn.length nt, .slice FT tf.length ft], .slice C ls.length cc] w fun e W => (∃ g, e = .returned (.tuple #[.slice (some ⟨g, 0, none⟩) tf.length tf.length, .int .i64 0]) ∧ SrcR W g (matchL sn sf tn tf ls).1) ∧ Below w.heap.size w W :=
  (match_small NS FS NT FT C ns fs nt ft cc sn tn sf tf ls w hNS hFS hNT hFT hC hs ht h5 h6).mono (by
    rintro e W ⟨v, rfl, _, h2, hb⟩
    obtain ⟨g, rfl, hg⟩ := h2 he
    exact ⟨⟨g, by rw [he], hg⟩, hb⟩)
theorem match_no (he : errM sn sf tn tf ls ≠ 0) : Calls Try.prog 13 #[.agg #[.slice NS sn.length ns, .slice FS sf.length fs], .agg #[.slice NT tn.length nt, .slice FT tf.length ft], .slice C ls.length cc] w fun e W => (∃ E : Int, e = .returned (.tuple #[.slice none 0 0, .int .i64 E]) ∧ E ≠ 0 ∧ E = errM sn sf tn tf ls) ∧ Below w.heap.size w W :=
  (match_small NS FS NT FT C ns fs nt ft cc sn tn sf tf ls w hNS hFS hNT hFT hC hs ht h5 h6).mono (by
    rintro e W ⟨v, rfl, h1, _, hb⟩
    rw [h1 he]
    exact ⟨⟨_, rfl, he, rfl⟩, hb⟩)
end
end Go.Proofs.Ytiglakhfkgeefaa
