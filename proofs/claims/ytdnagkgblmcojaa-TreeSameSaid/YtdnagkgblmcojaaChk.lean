/-
What is proved here: package tree's Check, by a contract.
-/
import Derived.Test.YtdnagkgblmcojaaLoo
import Derived.Test.YtdnagkgblmcojaaKep
set_option linter.unusedSimpArgs false
namespace Go.Proofs.Ytdnagkgblmcojaa
open Go.Pth Go.Tre Go.RowKit Go.Word
def anyKept (ns : List Nd) : Bool := ns.any (fun x => keptP x.path)
def checkE (ns : List Nd) (fs : List Fl) : Int := if 128 < ns.length then 31 else if looseE ns fs ≠ 0 then looseE ns fs else if anyKept ns then 30 else 0
theorem chk1_any (p : Bt) (f md : Int) (hl : p.length ≤ 100000) (w : World) : Calls Try.prog 44 #[.agg #[St p, .int .i64 f, .int .i64 md]] w fun e w' => e = .returned (.bool (keptP p)) ∧ Below w.heap.size w w' := by
  have L := lies_new w 41 #[St p, .int .i64 f, .int .i64 md]
  have c0 : (w.alloc (.cells #[St p, .int .i64 f, .int .i64 md] 41)).cell? ⟨w.heap.size, 0, none⟩ = some (St p) := lies_cell L 0
  have HB := Lib.hid (show Below w.heap.size w (w.alloc (.cells #[St p, .int .i64 f, .int .i64 md] 41)) from (Below.refl _ _).alloc (Nat.le_refl _) _)
  have K := Lib.hid (fun W => kept_any p hl W)
  clear L hl
  generalize keptP p = r at K
  go_enter Try.func44, Try.ntmps44
  go_wp2_with (go_at_call 45; (with_reducible refine (K.out _).mono ?_); rintro e w1 ⟨rfl, hb⟩; have HB1 := Lib.hid (HB.out.trans (hb.mono HB.out.size)); clear hb)
  go_ret
  exact ⟨rfl, HB1.out⟩
theorem node_range {w : World} {b o : Nat} {p : Bt} {f md : Int} (d1 : w.cell? ⟨b, o, none⟩ = some (St p)) (d2 : w.cell? ⟨b, o + 1, none⟩ = some (.int .i64 f)) (d3 : w.cell? ⟨b, o + 2, none⟩ = some (.int .i64 md)) : w.rangeAt b o [St p, .int .i64 f, .int .i64 md] := fun j v hj => by
  match j, hj with
  | 0, hj => injection hj with hj; subst hj; exact d1
  | 1, hj => injection hj with hj; subst hj; exact d2
  | 2, hj => injection hj with hj; subst hj; exact d3
  | j + 3, hj => simp at hj

set_option maxRecDepth 100000 in
theorem kept_index (A : Option Addr) (c : Nat) (ns : List Nd) (w : World) (hn : ns.length ≤ 1000000) (h : NodesAt w A ns) (hp : ∀ x ∈ ns, x.path.length ≤ 100000) :
    Calls Try.prog 61 #[.slice A ns.length c, .func (.func 44) #[] #[]] w fun e w' => (∃ k : Int, e = .returned (.int .i64 k) ∧ (0 ≤ k ↔ anyKept ns = true)) ∧ Below w.heap.size w w' := by
  have H := Lib.hid h
  have HP := Lib.hid hp
  clear h hp
  obtain ⟨n, hne⟩ : ∃ n, n = ns.length := ⟨_, rfl⟩
  rw [← hne] at hn ⊢
  have NE := Lib.hid hne
  clear hne
  obtain ⟨r0, hr0⟩ : ∃ r0, r0 = anyKept ns := ⟨_, rfl⟩
  rw [← hr0]
  have HR0 := Lib.hid hr0
  clear hr0
  go_enter Try.func61, Try.ntmps61
  go_wp2
  go_loopw [5, 8] (fun _ v8 wr => ∃ i : Nat, i ≤ n ∧ v8 = .int .i64 (i : Int) ∧ anyKept (ns.take i) = false ∧ Below w.heap.size w wr) (fun _ v8 _ => n - (intOf v8).toNat)
  case atStart => exact ⟨0, Nat.zero_le _, rfl, by simp [anyKept], Below.refl _ _⟩
  case round =>
    obtain ⟨i, hi, rfl, hno, hb⟩ := hrel
    have HB := Lib.hid hb
    have NO := Lib.hid hno
    clear hb hno
    by_cases hlt : i < n
    · have li : (i : Int) < (n : Int) := by omega
      have hlf : i < ns.length := by have := NE.out; omega
      obtain ⟨b, o, eA, hl, h1, h2, h3⟩ := H.out i hlf
      subst eA
      have d1 := (HB.out.cell (p := ⟨b, o + i * 3, none⟩) hl).trans h1
      have d2 := (HB.out.cell (p := ⟨b, o + i * 3 + 1, none⟩) hl).trans h2
      have d3 := (HB.out.cell (p := ⟨b, o + i * 3 + 2, none⟩) hl).trans h3
      have HT := Lib.hid (show anyKept (ns.take (i + 1)) = keptP ns[i].path by
        unfold anyKept at NO ⊢
        rw [List.take_succ_eq_append_getElem hlf, List.any_append, NO.out]; simp)
      have HA := Lib.hid (show keptP ns[i].path = true → r0 = true from fun h => by rw [HR0.out]; exact List.any_eq_true.2 ⟨_, List.getElem_mem _, h⟩)
      have hpl := HP.out ns[i] (List.getElem_mem _)
      clear h1 h2 h3
      generalize ns[i] = x at *
      obtain ⟨p, f, md⟩ := x
      have LM := Lib.hid (node_range d1 d2 d3)
      have G := Lib.hid (fun W => chk1_any p f md hpl W)
      have HT2 := Lib.hid (show anyKept (ns.take (i + 1)) = keptP p from HT.out)
      have HA2 := Lib.hid (show keptP p = true → r0 = true from HA.out)
      clear d1 d2 d3 HT HA hpl
      generalize keptP p = r at HT2 HA2 G
      go_wp2_with (first
        | (refine wpList_load_mid rfl 41 _ rfl b (o + i * 3) rfl [St p, .int .i64 f, .int .i64 md] _ LM.out Try.underlying41 rfl (by kernel_rfl) ?_)
        | (go_at_call 44; (with_reducible refine (G.out _).mono ?_); rintro e w1 ⟨rfl, hb⟩; have HB1 := Lib.hid (HB.out.trans (hb.mono HB.out.size)); clear hb))
      · rename_i hd
        go_ret
        exact ⟨⟨(i : Int), rfl, ⟨fun _ => HA2.out hd, fun _ => by omega⟩⟩, HB1.out⟩
      · rename_i hd
        go_roundw
        case rel => exact ⟨i + 1, by omega, by go_num, HT2.out.trans (by simpa using hd), HB1.out⟩
        case measure => first | (simp [intOf]; done) | (simp [intOf]; omega)
    · have li : ¬ (i : Int) < (n : Int) := by omega
      have e1 : ns.take i = ns := List.take_of_length_le (by have := NE.out; omega)
      have E := Lib.hid (show r0 = false by rw [HR0.out, ← NO.out, e1])
      clear e1
      go_wp2
      go_ret
      exact ⟨⟨-1, rfl, ⟨fun h => absurd h (by decide), fun h => by rw [E.out] at h; cases h⟩⟩, HB.out⟩
theorem kept_contains (A : Option Addr) (c : Nat) (ns : List Nd) (w : World) (hn : ns.length ≤ 1000000) (h : NodesAt w A ns) (hp : ∀ x ∈ ns, x.path.length ≤ 100000) :
    Calls Try.prog 46 #[.slice A ns.length c, .func (.func 44) #[] #[]] w fun e w' => e = .returned (.bool (anyKept ns)) ∧ Below w.heap.size w w' := by
  have K := Lib.hid (kept_index A c ns w hn h hp)
  clear h hn hp
  generalize anyKept ns = r at *
  go_enter Try.func46, Try.ntmps46
  go_wp2_with (go_at_call 61; (with_reducible refine K.out.mono ?_); rintro e w1 ⟨⟨k, rfl, hk⟩, hb⟩; have HB := Lib.hid hb; have HK := Lib.hid hk; clear hb hk)
  go_ret
  refine ⟨?_, HB.out⟩
  have e : decide (0 ≤ k) = r := by
    have := HK.out
    cases r with
    | true => exact decide_eq_true (this.2 rfl)
    | false => exact decide_eq_false (fun h => by cases this.1 h)
  rw [← e]
  rfl
theorem looseE_cases (ns : List Nd) (fs : List Fl) : looseE ns fs = 0 ∨ looseE ns fs = 30 ∨ looseE ns fs = 31 := by
  unfold looseE
  split
  · exact .inr (.inr rfl)
  · split
    · exact .inl rfl
    · exact .inr (.inl rfl)

set_option maxRecDepth 100000 in
theorem check_any (NA FA : Option Addr) (nc mc : Nat) (ns : List Nd) (fs : List Fl) (w : World) (hN : NodesAt w NA ns) (hF : FilesAt w FA fs) (hp : ∀ x ∈ ns, x.path.length ≤ 100000) :
    Calls Try.prog 23 #[.agg #[.slice NA ns.length nc, .slice FA fs.length mc]] w fun e w' => e = .returned (.int .i64 (checkE ns fs)) ∧ Below w.heap.size w w' := by
  obtain ⟨n, hn⟩ : ∃ n, n = ns.length := ⟨_, rfl⟩
  obtain ⟨m, hm⟩ : ∃ m, m = fs.length := ⟨_, rfl⟩
  have L0 := lies_new w 25 #[.slice NA ns.length nc, .slice FA fs.length mc]
  have hb0 : Below w.heap.size w (w.alloc (.cells #[.slice NA ns.length nc, .slice FA fs.length mc] 25)) := (Below.refl _ _).alloc (Nat.le_refl _) _
  have K := Lib.hid (loose_any NA FA nc mc ns fs _ (nodesAt_below hN hb0) (filesAt_below hF hb0) hp)
  have K2 := fun (W : World) (hb : Below w.heap.size w W) (h : ns.length ≤ 1000000) => Lib.hid (kept_contains NA nc ns W h (nodesAt_below hN hb) hp)
  have hc := looseE_cases ns fs
  rw [← hn, ← hm] at L0
  rw [← hn] at K2
  unfold checkE
  rw [← hn, ← hm] at *
  have c0 : (w.alloc (.cells #[.slice NA n nc, .slice FA m mc] 25)).cell? ⟨w.heap.size, 0, none⟩ = some (.slice NA n nc) := lies_cell L0 0
  have HB0 := Lib.hid hb0
  have LL := Lib.hid L0
  clear L0 hb0 hN hF hp hn hm
  generalize looseE ns fs = E at *
  generalize anyKept ns = r at *
  by_cases h1 : 128 < n
  · rw [if_pos h1]
    have t1 : 128 < (n : Int) := by omega
    clear K K2 hc
    go_enter Try.func23, Try.ntmps23
    go_wp2
    go_ret
    exact ⟨rfl, HB0.out⟩
  · rw [if_neg h1]
    have t1 : ¬ 128 < (n : Int) := by omega
    rcases hc with rfl | rfl | rfl
    · rw [if_neg (by decide)]
      go_enter Try.func23, Try.ntmps23
      go_upto_region 7 with (go_at_call 22; (with_reducible refine K.out.mono ?_); rintro e w1 ⟨rfl, hb⟩; have HB1 := Lib.hid (HB0.out.trans (hb.mono HB0.out.size)); have x0 := lies_cell (lies_below LL.out hb (lies_lt LL.out)) 0; clear hb)
      have K3 := K2 w1 HB1.out (by omega)
      cases r with
      | true =>
        go_wp2_with (go_at_call 46; (with_reducible refine K3.out.mono ?_); rintro e w2 ⟨rfl, hb⟩; have HB2 := Lib.hid (HB1.out.trans (hb.mono HB1.out.size)); clear hb)
        go_ret
        exact ⟨rfl, HB2.out⟩
      | false =>
        go_wp2_with (go_at_call 46; (with_reducible refine K3.out.mono ?_); rintro e w2 ⟨rfl, hb⟩; have HB2 := Lib.hid (HB1.out.trans (hb.mono HB1.out.size)); clear hb)
        go_ret
        exact ⟨rfl, HB2.out⟩
    · rw [if_pos (by decide)]
      clear K2
      go_enter Try.func23, Try.ntmps23
      go_wp2_with (go_at_call 22; (with_reducible refine K.out.mono ?_); rintro e w1 ⟨rfl, hb⟩; have HB1 := Lib.hid (HB0.out.trans (hb.mono HB0.out.size)); clear hb)
      go_ret
      exact ⟨rfl, HB1.out⟩
    · rw [if_pos (by decide)]
      clear K2
      go_enter Try.func23, Try.ntmps23
      go_wp2_with (go_at_call 22; (with_reducible refine K.out.mono ?_); rintro e w1 ⟨rfl, hb⟩; have HB1 := Lib.hid (HB0.out.trans (hb.mono HB0.out.size)); clear hb)
      go_ret
      exact ⟨rfl, HB1.out⟩
end Go.Proofs.Ytdnagkgblmcojaa
