/-
What is proved here: several pairs of disks side by side: the one that goes on, and those that are left as they are.
What is proved here: a row of calls that came in, with what the row's own reach says of its rows of numbers.
What is proved here: New of both disks where it is refused, and the laws' helper 'pair' there.
What is proved here: the law DiskPlays's walk.
-/
import Derived.Test.YtibidljblkfciaaTwr
import Derived.Test.YtibidljblkfciaaAny
import Derived.Test.YtibidljblkfciaaCrs
import Derived.Test.YtibidljblkfciaaOpn
import Derived.SizedLaws
import Derived.StillTailTactics
import Derived.Deep.MidRow
set_option linter.unusedSimpArgs false
namespace Go.Proofs.Ytibidljblkfciaa
open Go.Word Go.RowKit

/-- a pair of disks: what both hold -/
structure Pr where
  g : Nat
  r : Nat
  F : Bytes
  ws : List (Nat × Bytes)
  on : Bool
  lf : Int
  fp : Nat → Prop
  fq : Nat → Prop
def Pr.dom (p : Pr) : Nat → Prop := fun i => p.fp i ∨ p.fq i
def Pr.at_ (p : Pr) (w : World) (n m : Nat) : Prop := Two2 w p.g p.r n p.F p.ws p.on p.lf p.fp p.fq ∧ Fus p.on p.lf ∧ p.ws.length ≤ m
section
variable {w w' w0 : World} {n m : Nat} {p cur : Pr} {old : List Pr} {lv wv : Value}
theorem pr_lt (h : p.at_ w n m) : ∀ i, p.dom i → i < w.heap.size := fun i hi => by
  rcases hi with hi | hi
  · exact dk_all h.1.d i hi
  · exact rd_all h.1.r i hi
theorem pr_keeps {fr : Nat → Prop} (h : p.at_ w n m) (hk : Keeps fr w w') (ha : Apart p.dom fr) : p.at_ w' n m :=
  ⟨⟨dk_frame h.1.d hk (fun i h1 h2 => ha i (.inl h1) h2), rd_frame h.1.r hk (fun i h1 h2 => ha i (.inr h1) h2), h.1.apart⟩, h.2⟩
theorem pr_mono {m' : Nat} (h : p.at_ w n m) (hm : m ≤ m') : p.at_ w n m' := ⟨h.1, h.2.1, Nat.le_trans h.2.2 hm⟩
def pg (p : Pr) : Value := .pointer (some ⟨p.g, 0, none⟩)
def pr (p : Pr) : Value := .pointer (some ⟨p.r, 0, none⟩)
/-- the pairs that are left, in two slices of the law's own -/
structure Olds (w0 w : World) (n m : Nat) (old : List Pr) (lv wv : Value) : Prop where
  each : ∀ p ∈ old, p.at_ w n m
  below : Below w0.heap.size w0 w
  rowL : w.ownsRow w0.heap.size 25 1 lv old.length (old.map pg)
  rowW : w.ownsRow w0.heap.size 26 1 wv old.length (old.map pr)
  lo : ∀ p ∈ old, ∀ k, lv.ownBlock = some k → ¬ p.dom k
  wo : ∀ p ∈ old, ∀ k, wv.ownBlock = some k → ¬ p.dom k
theorem own_keeps {fr : Nat → Prop} {e : TypeId} {v : Value} {k : Nat} {xs : List Value} (h : w.ownsRow w0.heap.size e 1 v k xs) (hk : Keeps fr w w') (ha : ∀ k, v.ownBlock = some k → ¬ fr k) : w'.ownsRow w0.heap.size e 1 v k xs := by
  refine ⟨h.1, ?_⟩
  rcases h.2 with h0 | ⟨g, cap, cur, e1, h1, h2, h3⟩
  · exact .inl h0
  · have hlt : g < w.heap.size := by
      rcases Nat.lt_or_ge g w.heap.size with h | h
      · exact h
      · rw [Array.getElem?_eq_none h] at h2; cases h2
    exact .inr ⟨g, cap, cur, e1, h1, (hk.block g hlt (ha g (by rw [e1]; rfl))).trans h2, h3⟩
theorem olds_below (h : Olds w0 w n m old lv wv) (hb : Below w.heap.size w w') : Olds w0 w' n m old lv wv :=
  have hk := keeps_below (fp := fun _ => False) hb
  ⟨fun p hp => pr_keeps (h.each p hp) hk (fun _ _ h => h), h.below.trans (hb.mono h.below.size), own_keeps h.rowL hk (fun _ _ h => h), own_keeps h.rowW hk (fun _ _ h => h), h.lo, h.wo⟩
theorem olds_mono {m' : Nat} (h : Olds w0 w n m old lv wv) (hm : m ≤ m') : Olds w0 w n m' old lv wv := { h with each := fun p hp => pr_mono (h.each p hp) hm }
/-- the pair that goes on beside them -/
structure Fam (w0 w : World) (n m : Nat) (cur : Pr) (old : List Pr) (lv wv : Value) : Prop where
  olds : Olds w0 w n m old lv wv
  here : cur.at_ w n m
  apart : ∀ p ∈ old, Apart p.dom cur.dom
  low : ∀ i, cur.dom i → w0.heap.size ≤ i
  lo : ∀ k, lv.ownBlock = some k → ¬ cur.dom k
  wo : ∀ k, wv.ownBlock = some k → ¬ cur.dom k
theorem fam_below (h : Fam w0 w n m cur old lv wv) (hb : Below w.heap.size w w') : Fam w0 w' n m cur old lv wv :=
  { h with olds := olds_below h.olds hb, here := pr_keeps h.here (keeps_below (fp := fun _ => False) hb) (fun _ _ h => h) }
theorem own_lt {e : TypeId} {v : Value} {k : Nat} {xs : List Value} (h : w.ownsRow w0.heap.size e 1 v k xs) {j : Nat} (hj : v.ownBlock = some j) : j < w.heap.size := (World.ownsRow.lt h j hj).2
/-- behind a call -/
theorem fam_call (h : Fam w0 w n m cur old lv wv) (hd : Did w w' cur.g cur.r n (cur.ws.length + 1) cur.fp cur.fq) : ∃ cur', cur'.g = cur.g ∧ cur'.r = cur.r ∧ Fam w0 w' n (m + 1) cur' old lv wv := by
  obtain ⟨⟨F', ws', on', lf', fp', fq', s1, s2, hf, hl, ht⟩, hk⟩ := hd
  have hsub : ∀ i, (Pr.dom ⟨cur.g, cur.r, F', ws', on', lf', fp', fq'⟩ i) → cur.dom i ∨ w.heap.size ≤ i := fun i hi => by
    rcases hi with hi | hi
    · exact (s1 i hi).imp .inl id
    · exact (s2 i hi).imp .inr id
  have hm := h.here.2.2
  refine ⟨⟨cur.g, cur.r, F', ws', on', lf', fp', fq'⟩, rfl, rfl, ⟨⟨fun p hp => pr_mono (pr_keeps (h.olds.each p hp) hk (h.apart p hp)) (by omega), ?_, own_keeps h.olds.rowL hk h.lo, own_keeps h.olds.rowW hk h.wo, h.olds.lo, h.olds.wo⟩, ⟨ht, hf, by show ws'.length ≤ m + 1; omega⟩, fun p hp i h1 h2 => ?_, fun i hi => ?_, fun k hk1 h2 => ?_, fun k hk1 h2 => ?_⟩⟩
  · exact low_keeps h.olds.below hk (fun i hi => h.low i (.inl hi)) (fun i hi => h.low i (.inr hi))
  · rcases hsub i h2 with h3 | h3
    · exact h.apart p hp i h1 h3
    · have := pr_lt (h.olds.each p hp) i h1; omega
  · rcases hsub i hi with h3 | h3
    · exact h.low i h3
    · exact Nat.le_trans h.olds.below.size h3
  · rcases hsub k h2 with h3 | h3
    · exact h.lo k hk1 h3
    · have := own_lt h.olds.rowL hk1; omega
  · rcases hsub k h2 with h3 | h3
    · exact h.wo k hk1 h3
    · have := own_lt h.olds.rowW hk1; omega
/-- behind a twin -/
theorem fam_twin {w5 w6 : World} {g' r' : Nat} {fp' fq' : Nat → Prop} (h : Olds w0 w n m old lv wv) (hc : cur ∈ old) (hd : DK w5 g' n cur.F cur.ws cur.on cur.lf fp') (h1 : ∀ i, fp' i → w.heap.size ≤ i) (b5 : Below w.heap.size w w5)
    (hr : RD w6 r' n cur.F cur.ws cur.on cur.lf fq') (h2 : ∀ i, fq' i → w5.heap.size ≤ i) (b6 : Below w5.heap.size w5 w6) : Fam w0 w6 n m ⟨g', r', cur.F, cur.ws, cur.on, cur.lf, fp', fq'⟩ old lv wv := by
  have hnew : ∀ i, Pr.dom ⟨g', r', cur.F, cur.ws, cur.on, cur.lf, fp', fq'⟩ i → w.heap.size ≤ i := fun i hi => by
    rcases hi with hi | hi
    · exact h1 i hi
    · exact Nat.le_trans b5.size (h2 i hi)
  have hcur := h.each cur hc
  refine ⟨olds_below (olds_below h b5) b6, ⟨⟨dk_below hd b6, hr, fun i hi1 hi2 => by have := dk_all hd i hi1; have := h2 i hi2; omega⟩, hcur.2⟩, fun p hp i hi1 hi2 => ?_, fun i hi => Nat.le_trans h.below.size (hnew i hi), fun k hk1 hk2 => ?_, fun k hk1 hk2 => ?_⟩
  · have := pr_lt (h.each p hp) i hi1; have := hnew i hi2; omega
  · have := own_lt h.rowL hk1; have := hnew k hk2; omega
  · have := own_lt h.rowW hk1; have := hnew k hk2; omega
/-! a pointer put behind -/
theorem info25p : (Try.prog.info? 25).map (fun i => (i.zero, i.size, i.bytes)) = some (some (.pointer none), 1, 8) := by kernel_rfl
theorem info26p : (Try.prog.info? 26).map (fun i => (i.zero, i.size, i.bytes)) = some (some (.pointer none), 1, 8) := by kernel_rfl
theorem app_ptr (t e : TypeId) (hu : Try.prog.underlying t = some (.slice e)) (hinfo : (Try.prog.info? e).map (fun i => (i.zero, i.size, i.bytes)) = some (some (.pointer none), 1, 8)) {base k : Nat} {v : Value} {xs : List Value} {ad : Addr} (hown : w.ownsRow base e 1 v k xs) (u : Value) (hc : w.cell? ad = some u) (h1 : u.oneCell' = true) (hn : k ≤ 70000) (hb : base ≤ w.heap.size) :
    ∃ v' w', (∀ ty, (Builtin.append_ #[t, t] ty #[v, .slice (some ad) 1 1]).run Try.prog w = .ok v' w') ∧ w'.ownsRow base e 1 v' (k + 1) (xs ++ [u]) ∧ w.grownBy w' v.ownBlock ∧ (v'.ownBlock = v.ownBlock ∨ ∃ j, v'.ownBlock = some j ∧ w.heap.size ≤ j) := by
  obtain ⟨i, hi, hz, hsize, hby⟩ := info_parts hinfo
  have hm : k + 1 ≤ maxLen := by unfold maxLen; omega
  have hbt : (k + 1) * 8 ≤ 140737488355328 := by omega
  have hzs : (Value.cells (.pointer none)).size = 1 := rfl
  have hnews : ∀ j x, [u][j]? = some x → w.cell? (ad.add j) = some x := fun j x hj => by
    match j, hj with
    | 0, hj => injection hj with hj; subst hj; rw [show ad.add 0 = ad by simp [Addr.add]]; exact hc
    | j + 1, hj => simp at hj
  have hone : ∀ x ∈ [u], x.oneCell' = true := fun x hx => by rw [List.mem_singleton.1 hx]; exact h1
  obtain ⟨v', w', hr, h2, h3, _⟩ := run_append_own (P := Try.prog) w base t 0 e i _ 1 8 hu hi hz hsize hby hzs (by decide) v k xs hown ad 1 1 [u] rfl hnews hone hm hbt hb
  refine ⟨v', w', fun ty => hr, h2, h3, ?_⟩
  rcases hown.2 with ⟨e1, e2⟩ | ⟨g, cap, cur, e1, hbg, hg, hnc, hcm, hcs, htake⟩
  · subst e1 e2
    have hx0 : xs = [] := List.eq_nil_of_length_eq_zero (by simpa using hown.1)
    subst hx0
    obtain ⟨v2, w2, hr2, o2, _⟩ := run_append_own (P := Try.prog) w w.heap.size t 0 e i _ 1 8 hu hi hz hsize hby hzs (by decide) (.slice none 0 0) 0 [] (World.ownsRow_nil w w.heap.size e 1) ad 1 1 [u] rfl hnews hone hm hbt (Nat.le_refl _)
    rw [hr] at hr2
    injection hr2 with ev ew
    subst ev ew
    rcases o2.2 with ⟨_, e0⟩ | ⟨g2, cap2, cur2, e2, hb2, _⟩
    · cases e0
    · exact .inr ⟨g2, by rw [e2]; rfl, hb2⟩
  · subst e1
    by_cases hroom : k + 1 ≤ cap
    · have hfit : k * i.size + [u].length ≤ cur.size := by rw [hcs, hsize]; simp; omega
      have hr2 := run_append_room (P := Try.prog) w t 0 e i hu hi g k cap cur hg ad 1 1 [u] (by rw [hsize]; rfl) hnews hone hroom hfit
      rw [hr] at hr2
      injection hr2 with ev ew
      exact .inl (by rw [ev]; rfl)
    · have holds : ∀ j x, xs[j]? = some x → w.cell? ((⟨g, 0, none⟩ : Addr).add j) = some x := hown.cells (g := g) rfl
      have hr2 := run_append_grow (P := Try.prog) w t 0 e i _ hu hi hz ⟨g, 0, none⟩ k cap xs (by rw [hsize]; exact hown.1) holds ad 1 1 [u] (by rw [hsize]; rfl) hnews (by omega) (by omega) (growslice_fits (by omega) (by rw [hby]; exact hbt))
      rw [hr] at hr2
      injection hr2 with ev ew
      exact .inr ⟨w.heap.size, by rw [ev]; rfl, Nat.le_refl _⟩
theorem grown_keeps {w w' : World} {v : Value} (h : w.grownBy w' v.ownBlock) : Keeps (fun k => v.ownBlock = some k) w w' := ⟨h.os, h.tape, h.output, h.size, fun i hi hn => h.block i hi (fun e => hn e.symm)⟩
/-- the pair that goes on, put behind those that are left -/
theorem fam_push (h : Fam w0 w n m cur old lv wv) (hl : old.length ≤ 70000) : ∃ lv' W2 wv' W4,
    (∀ ty, (Builtin.append_ #[29, 29] ty #[lv, .slice (some ⟨w.heap.size, 0, none⟩) 1 1]).run Try.prog (w.alloc (.cells #[pg cur] 25)) = .ok lv' W2) ∧
    (∀ ty, (Builtin.append_ #[30, 30] ty #[wv, .slice (some ⟨W2.heap.size, 0, none⟩) 1 1]).run Try.prog (W2.alloc (.cells #[pr cur] 26)) = .ok wv' W4) ∧ Olds w0 W4 n m (old ++ [cur]) lv' wv' := by
  have b1 : Below w.heap.size w (w.alloc (.cells #[pg cur] 25)) := (Below.refl _ w).alloc (Nat.le_refl _) _
  have f1 := fam_below h b1
  have c1 : (w.alloc (.cells #[pg cur] 25)).cell? ⟨w.heap.size, 0, none⟩ = some (pg cur) := lies_cell (lies_new w 25 #[pg cur]) 0
  obtain ⟨lv', W2, hr1, ho1, hg1, hk1⟩ := app_ptr 29 25 Try.underlying29 info25p f1.olds.rowL (pg cur) c1 rfl hl f1.olds.below.size
  have z1 : (w.alloc (.cells #[pg cur] 25)).heap.size = w.heap.size + 1 := by simp
  generalize w.alloc (.cells #[pg cur] 25) = W1 at *
  have k1 := grown_keeps hg1
  have ne : ∀ j, wv.ownBlock = some j → ¬ lv.ownBlock = some j := fun j hj hj2 => by
    rcases f1.olds.rowL.2 with ⟨e, _⟩ | ⟨g1, cap1, cur1, e1, _, hg1', _⟩
    · rw [e] at hj2; cases hj2
    · rcases f1.olds.rowW.2 with ⟨e, _⟩ | ⟨g2, cap2, cur2, e2, _, hg2', _⟩
      · rw [e] at hj; cases hj
      · rw [e1] at hj2; rw [e2] at hj
        have : g1 = j := by simpa [Value.ownBlock] using hj2
        have h2 : g2 = j := by simpa [Value.ownBlock] using hj
        subst this h2
        rw [hg1'] at hg2'
        injection hg2' with hg2'
        injection hg2' with _ h3 _
        cases h3
  have lowL : ∀ k, lv.ownBlock = some k → w0.heap.size ≤ k := fun k hk => (World.ownsRow.lt f1.olds.rowL k hk).1
  have lowW : ∀ k, wv.ownBlock = some k → w0.heap.size ≤ k := fun k hk => (World.ownsRow.lt f1.olds.rowW k hk).1
  have bel : ∀ {W W' : World} {fr : Nat → Prop}, Below w0.heap.size w0 W → Keeps fr W W' → (∀ k, fr k → w0.heap.size ≤ k) → Below w0.heap.size w0 W' := fun hb hk hf => hb.trans (below_keeps hk hb.size hf)
  -- behind the first append
  have B2 := bel f1.olds.below k1 lowL
  have O2 : ∀ p ∈ old ++ [cur], p.at_ W2 n m := fun p hp => by
    rcases List.mem_append.1 hp with hp | hp
    · exact pr_keeps (f1.olds.each p hp) k1 (fun i h1 h2 => f1.olds.lo p hp i h2 h1)
    · rw [List.mem_singleton.1 hp]
      exact pr_keeps f1.here k1 (fun i h1 h2 => f1.lo i h2 h1)
  have L2 : ∀ p ∈ old ++ [cur], ∀ k, lv'.ownBlock = some k → ¬ p.dom k := fun p hp k hk hd => by
    rcases hk1 with e | ⟨j, e, hj⟩
    · rw [e] at hk
      rcases List.mem_append.1 hp with hp | hp
      · exact f1.olds.lo p hp k hk hd
      · rw [List.mem_singleton.1 hp] at hd; exact f1.lo k hk hd
    · rw [e] at hk
      obtain rfl : j = k := by injection hk
      have : j < W1.heap.size := by
        rcases List.mem_append.1 hp with hp | hp
        · exact pr_lt (f1.olds.each p hp) j hd
        · rw [List.mem_singleton.1 hp] at hd; exact pr_lt f1.here j hd
      omega
  have V2 : W2.ownsRow w0.heap.size 26 1 wv old.length (old.map pr) := own_keeps f1.olds.rowW k1 ne
  have W2o : ∀ p ∈ old ++ [cur], ∀ k, wv.ownBlock = some k → ¬ p.dom k := fun p hp k hk hd => by
    rcases List.mem_append.1 hp with hp | hp
    · exact f1.olds.wo p hp k hk hd
    · rw [List.mem_singleton.1 hp] at hd; exact f1.wo k hk hd
  -- the second
  have b3 : Below W2.heap.size W2 (W2.alloc (.cells #[pr cur] 26)) := (Below.refl _ W2).alloc (Nat.le_refl _) _
  have k3 := keeps_below (fp := fun _ => False) b3
  have c3 : (W2.alloc (.cells #[pr cur] 26)).cell? ⟨W2.heap.size, 0, none⟩ = some (pr cur) := lies_cell (lies_new W2 26 #[pr cur]) 0
  have V3 := own_keeps V2 k3 (fun _ _ h => h)
  have B3 := bel B2 k3 (fun _ h => h.elim)
  have O3 : ∀ p ∈ old ++ [cur], p.at_ (W2.alloc (.cells #[pr cur] 26)) n m := fun p hp => pr_keeps (O2 p hp) k3 (fun _ _ h => h)
  have U3 := own_keeps ho1 k3 (fun _ _ h => h)
  obtain ⟨wv', W4, hr2, ho2, hg2, hk2⟩ := app_ptr 30 26 Try.underlying30 info26p V3 (pr cur) c3 rfl hl B3.size
  refine ⟨lv', W2, wv', W4, hr1, hr2, ?_⟩
  have z3 : (W2.alloc (.cells #[pr cur] 26)).heap.size = W2.heap.size + 1 := by simp
  generalize W2.alloc (.cells #[pr cur] 26) = W3 at *
  have k4 := grown_keeps hg2
  have ne2 : ∀ j, lv'.ownBlock = some j → ¬ wv.ownBlock = some j := fun j hj hj2 => by
    rcases U3.2 with ⟨e, _⟩ | ⟨g1, cap1, cur1, e1, _, hg1', _⟩
    · rw [e] at hj; cases hj
    · rcases V3.2 with ⟨e, _⟩ | ⟨g2, cap2, cur2, e2, _, hg2', _⟩
      · rw [e] at hj2; cases hj2
      · rw [e1] at hj; rw [e2] at hj2
        have : g1 = j := by simpa [Value.ownBlock] using hj
        have h2 : g2 = j := by simpa [Value.ownBlock] using hj2
        subst this h2
        rw [hg1'] at hg2'
        injection hg2' with hg2'
        injection hg2' with _ h3 _
        cases h3
  have el : (old ++ [cur]).length = old.length + 1 := by simp
  refine ⟨fun p hp => pr_keeps (O3 p hp) k4 (fun i h1 h2 => W2o p hp i h2 h1), bel B3 k4 lowW, ?_, ?_, L2, fun p hp k hk hd => ?_⟩
  · have := own_keeps U3 k4 ne2
    rw [el, List.map_append]
    exact this
  · rw [el, List.map_append]
    exact ho2
  · rcases hk2 with e | ⟨j, e, hj⟩
    · rw [e] at hk; exact W2o p hp k hk hd
    · rw [e] at hk
      obtain rfl : j = k := by injection hk
      have := pr_lt (O3 p hp) j hd
      omega
/-- what a slice of pointers looks like -/
theorem ptr_form {e : TypeId} {v : Value} {k : Nat} {xs : List Value} (h : w.ownsRow w0.heap.size e 1 v k xs) : ∃ A C, v = .slice A k C ∧ ∀ i u, xs[i]? = some u → ∃ b, A = some ⟨b, 0, none⟩ ∧ w.cell? ⟨b, i, none⟩ = some u := by
  have h0 := h
  rcases h.2 with ⟨e1, e2⟩ | ⟨g, cap, cur, e1, _⟩
  · refine ⟨none, 0, by rw [e1, e2], fun i u hi => ?_⟩
    have := h.1
    rw [e2] at this
    have hx0 : xs = [] := List.eq_nil_of_length_eq_zero (by simpa using this)
    rw [hx0] at hi
    simp at hi
  · refine ⟨_, _, e1, fun i u hi => ⟨g, rfl, ?_⟩⟩
    rw [e1] at h0
    have hlt : i < xs.length := (List.getElem?_eq_some_iff.1 hi).1
    have := World.ownsRow.cells h0 (g := g) rfl i u hi
    rw [Addr.add_mid, Nat.zero_add] at this
    exact this
end
end Go.Proofs.Ytibidljblkfciaa

set_option linter.unusedSimpArgs false
namespace Go.Proofs.Ytibidljblkfciaa
open Go.Word Go.ChangeShapes Go.WideShapes Go.ChangeAt Go.RowKit Go.Deep

theorem bytes3w : Try.prog.bytesOf 3 = 8 := by kernel_rfl
section
variable {H : Type} {enc : TypeId × Value → H}
theorem weightsAll_mem {P : Program} {e : TypeId} : ∀ {l : List (DataW H)} {d : DataW H}, d ∈ l → ∀ m ∈ d.weights P e, m ∈ DataW.weightsAll P e l
  | [], _, h, _, _ => by cases h
  | y :: r, d, h, m, hm => by
    simp only [DataW.weightsAll, List.mem_append]
    rcases List.mem_cons.1 h with rfl | h
    · exact .inl hm
    · exact .inr (weightsAll_mem h m hm)
theorem weights_elem {x : DataW H × List MemPlace} {len : Nat} {D : Nat → DataW H} {rest : List (DataW H)} {pl : List MemPlace} (hx : x = (.slice ((List.range len).map D) rest, pl)) {i : Nat} (hi : i < len) (hsz : ∀ m ∈ x.1.weights Try.prog 22, m ≤ reachBytes) : ∀ m ∈ (D i).weights Try.prog 33, m ≤ reachBytes := by
  intro m hm
  refine hsz m ?_
  rw [hx]
  simp only [DataW.weights, Try.underlying22, List.mem_cons, List.mem_append]
  exact .inr (.inl (weightsAll_mem (List.mem_map.2 ⟨i, by simpa using hi, rfl⟩) m hm))
theorem open_numw_cell {W : World} {base : Nat} {fuel : Nat} {v : Value} {x : DataW H × List MemPlace} (hf : DataW.trod enc Try.prog W base (fun _ => true) true fuel 31 [v] = some x) :
    ∃ (A : Option Addr) (k c : Nat) (ks : Nat → Int), v = .slice A k c ∧ k ≤ c ∧ c ≤ maxLen ∧ Nums W A k ks ∧ (A = none → k = 0 ∧ c = 0) ∧ ((∀ m ∈ x.1.weights Try.prog 31, m ≤ reachBytes) → k * 8 ≤ reachBytes) := by
  rcases open_ints Try.underlying31 Try.underlying3 cells3 hf with ⟨hcs, _⟩ | ⟨a, len', cap', zs, hcs, _, hl, hm, hz, hx0, hcell, hwz⟩
  · injection hcs with hcs
    exact ⟨none, 0, 0, fun _ => 0, hcs, Nat.le_refl _, by unfold maxLen; omega, fun i hi => absurd hi (Nat.not_lt_zero _), fun _ => ⟨rfl, rfl⟩, fun _ => by simp⟩
  · injection hcs with hcs
    simp only [if_true] at hz
    refine ⟨some a, len', cap', fun i => zs.getD i 0, hcs, hl, hm, fun i hi => ?_, (fun h => by cases h), fun hw => ?_⟩
    rotate_left
    · rw [hx0] at hw
      have := hw ((lits .i64 (zs.take len')).length * 8 + (lits .i64 (zs.drop len')).length * 8) (by
        simp only [DataW.weights, Try.underlying31, bytes3w, List.mem_cons]
        left
        omega)
      simp only [lits, List.length_map, List.length_take, List.length_drop] at this
      omega
    obtain ⟨b, off, spot⟩ := a
    have hspot : spot = none := by simpa [Addr.add] using World.cell?_spot (hcell 0 (by omega))
    subst hspot
    have hc := hcell i (by omega)
    have hx : (⟨b, off, none⟩ : Addr).add i = ⟨b, off + i, none⟩ := by unfold Addr.add; split <;> simp [*]
    rw [hx] at hc
    exact ⟨b, off, rfl, block_lt_of_cell hc, hc, wf_bounds (hwz _ (by show zs.getD i 0 ∈ zs; rw [List.getD_eq_getElem?_getD, List.getElem?_eq_getElem (by omega)]; exact List.getElem_mem (by omega)))⟩
theorem open_opw {W : World} {base : Nat} {v : Value} {d : DataW H} {p : List MemPlace} (hval : Value.okWide Try.prog W .any base 22 v) (h : DataW.Trod enc Try.prog W 0 (fun _ => true) true 22 v d p) (hsz : ∀ m ∈ d.weights Try.prog 22, m ≤ reachBytes) :
    ∃ (A : Option Addr) (k c : Nat) (od : Nat → OpD), v = .slice A k c ∧ k ≤ c ∧ c ≤ maxLen ∧ Opss W A k od ∧ ∀ i, i < k → ((od i).KA = none → (od i).kl = 0 ∧ (od i).kc = 0) ∧ (od i).kl * 8 ≤ reachBytes := by
  obtain ⟨a1, len, cap, rfl⟩ := okWide_slice Try.underlying22 hval
  obtain ⟨fuel, hf⟩ := h
  rcases open_slice Try.underlying22 hf with ⟨hcs, _⟩ | ⟨a, len', cap', m, n, D, Pl, hcs, hb, hl, hm, hmm, hd0, hx⟩
  · simp [Value.cells] at hcs
    obtain ⟨rfl, rfl, rfl⟩ := hcs
    exact ⟨none, 0, 0, fun _ => ⟨0, 0, 0, none, 0, 0, fun _ => 0⟩, rfl, Nat.le_refl _, by unfold maxLen; omega, fun i hi => absurd hi (Nat.not_lt_zero _), fun i hi => absurd hi (Nat.not_lt_zero _)⟩
  · simp [Value.cells] at hcs
    obtain ⟨rfl, rfl, rfl⟩ := hcs
    simp only [if_true] at hmm
    have each : ∀ i, i < len → ∃ q : OpD, ∃ b o, some a = some ⟨b, o, none⟩ ∧ b < W.heap.size ∧
        W.cell? ⟨b, o + i * 4, none⟩ = some (.int .i64 q.kind) ∧ W.cell? ⟨b, o + i * 4 + 1, none⟩ = some (.int .i64 q.a) ∧ W.cell? ⟨b, o + i * 4 + 2, none⟩ = some (.int .i64 q.b) ∧ W.cell? ⟨b, o + i * 4 + 3, none⟩ = some (.slice q.KA q.kl q.kc) ∧
        q.kl ≤ q.kc ∧ q.kc ≤ maxLen ∧ Nums W q.KA q.kl q.ks ∧ Fits q.kind ∧ Fits q.a ∧ Fits q.b ∧ (q.KA = none → q.kl = 0 ∧ q.kc = 0) ∧ q.kl * 8 ≤ reachBytes := by
      intro i hi
      obtain ⟨cs', h1, h2⟩ := hx i (by omega)
      rw [cells33] at h1
      obtain ⟨_, hlen, hcell⟩ := World.cells?_some h1
      obtain ⟨xs, k, hk, hxy, _, hxl, hf⟩ := DataW.trod_struct Try.underlying33 h2
      have hwi := weights_elem hd0 hi hsz
      match xs, hxl, cs', hlen with
      | [y0, y1, y2, y3], _, [v0, v1, v2, v3], _ =>
        have g0 := hf 0 _ rfl
        have g1 := hf 1 _ rfl
        have g2 := hf 2 _ rfl
        have g3 := hf 3 _ rfl
        simp [cells3, cells31] at g0 g1 g2 g3
        have e0 := hcell 0 (by omega)
        have e1 := hcell 1 (by omega)
        have e2 := hcell 2 (by omega)
        have e3 := hcell 3 (by omega)
        obtain ⟨z0, c0, _, w0⟩ := DataW.trod_int Try.underlying3 g0
        obtain ⟨z1, c1, _, w1⟩ := DataW.trod_int Try.underlying3 g1
        obtain ⟨z2, c2, _, w2⟩ := DataW.trod_int Try.underlying3 g2
        obtain ⟨KA, kl, kc, ks, c3, k1, k2, k3, k4, k5⟩ := open_numw_cell g3
        injection c0 with c0
        injection c1 with c1
        injection c2 with c2
        subst c0 c1 c2 c3
        have hspot : a.spot = none := by
          obtain ⟨cs0, q1, _⟩ := hx 0 (by omega)
          rw [cells33] at q1
          obtain ⟨_, ql, qc⟩ := World.cells?_some q1
          have q0 := qc 0 (by omega)
          have e : (a.add (0 * 4)).add 0 = a := by simp [Addr.add]
          rw [e, List.getElem?_eq_getElem (by omega)] at q0
          exact World.cell?_spot q0
        obtain ⟨b, off, spot⟩ := a
        simp only at hspot
        subst hspot
        have ha : ∀ j, ((⟨b, off, none⟩ : Addr).add (i * 4)).add j = ⟨b, off + i * 4 + j, none⟩ := fun j => by rw [Addr.add_mid, Addr.add_mid]
        rw [ha] at e0 e1 e2 e3
        refine ⟨⟨z0, z1, z2, KA, kl, kc, ks⟩, b, off, rfl, block_lt_of_cell (by simpa using e0), by simpa using e0, by simpa using e1, by simpa using e2, by simpa using e3, k1, k2, k3, wf_bounds w0, wf_bounds w1, wf_bounds w2, k4, k5 (fun m hm => hwi m ?_)⟩
        have hD : D i = .agg [y0.1, y1.1, y2.1, y3.1] := congrArg Prod.fst hxy
        rw [hD]
        simp only [DataW.weights, Try.underlying33, DataW.weightsEach, List.mem_append]
        simp [DataW.weightsEach, hm]
    obtain ⟨od, hod⟩ : ∃ od : Nat → OpD, ∀ i, i < len → ∃ b o, some a = some ⟨b, o, none⟩ ∧ b < W.heap.size ∧
        W.cell? ⟨b, o + i * 4, none⟩ = some (.int .i64 (od i).kind) ∧ W.cell? ⟨b, o + i * 4 + 1, none⟩ = some (.int .i64 (od i).a) ∧ W.cell? ⟨b, o + i * 4 + 2, none⟩ = some (.int .i64 (od i).b) ∧ W.cell? ⟨b, o + i * 4 + 3, none⟩ = some (.slice (od i).KA (od i).kl (od i).kc) ∧
        (od i).kl ≤ (od i).kc ∧ (od i).kc ≤ maxLen ∧ Nums W (od i).KA (od i).kl (od i).ks ∧ Fits (od i).kind ∧ Fits (od i).a ∧ Fits (od i).b ∧ ((od i).KA = none → (od i).kl = 0 ∧ (od i).kc = 0) ∧ (od i).kl * 8 ≤ reachBytes := by
      refine ⟨fun i => if h : i < len then Classical.choose (each i h) else ⟨0, 0, 0, none, 0, 0, fun _ => 0⟩, fun i h => ?_⟩
      simp only [dif_pos h]
      exact Classical.choose_spec (each i h)
    refine ⟨some a, len, cap, od, rfl, hl, hm, fun i hi => ?_, fun i hi => ?_⟩
    · obtain ⟨b, o, e, h1, h2, h3, h4, h5, h6, h7, h8, h9, h10, h11, _⟩ := hod i hi
      exact ⟨b, o, e, h1, h2, h3, h4, h5, h6, h7, h8, h9, h10, h11⟩
    · obtain ⟨b, o, e, h1, h2, h3, h4, h5, h6, h7, h8, h9, h10, h11, h12, h13⟩ := hod i hi
      exact ⟨h12, h13⟩
end
end Go.Proofs.Ytibidljblkfciaa

set_option linter.unusedSimpArgs false
namespace Go.Proofs.Ytibidljblkfciaa
open Go.Word Go.RowKit
theorem dk_new_no (z : Int) (w : World) (hz : z < 1 ∨ 4096 < z) : Calls Try.prog 18 #[.int .i64 z] w fun e w' => e = .returned (.tuple #[.pointer none, .int .i64 1]) ∧ w = w' := by
  by_cases h : z < 1
  · have t1 : decide (z < 1) = true := decide_eq_true h
    go_enter Try.func18, Try.ntmps18
    go_wp2
    go_ret2
    exact ⟨rfl, rfl⟩
  · have t1 : decide (z < 1) = false := decide_eq_false h
    have t2 : decide (4096 < z) = true := decide_eq_true (by omega)
    have t3 : 4096 < z := by omega
    go_enter Try.func18, Try.ntmps18
    go_wp2
    go_ret2
    exact ⟨rfl, rfl⟩
theorem rd_new_no (z : Int) (w : World) (hz : z < 1 ∨ 4096 < z) : Calls Try.prog 31 #[.int .i64 z] w fun e w' => e = .returned (.tuple #[.pointer none, .int .i64 1]) ∧ w = w' := by
  by_cases h : z < 1
  · have t1 : decide (z < 1) = true := decide_eq_true h
    go_enter Try.func31, Try.ntmps31
    go_wp2
    go_ret2
    exact ⟨rfl, rfl⟩
  · have t1 : decide (z < 1) = false := decide_eq_false h
    have t2 : decide (4096 < z) = true := decide_eq_true (by omega)
    have t3 : 4096 < z := by omega
    go_enter Try.func31, Try.ntmps31
    go_wp2
    go_ret2
    exact ⟨rfl, rfl⟩
set_option maxHeartbeats 1000000 in
theorem pair_no (z : Int) (w : World) (hz : z < 1 ∨ 4096 < z) : Calls Try.prog 13 #[.int .i64 z] w fun e w' => e = .returned (.tuple #[.pointer none, .pointer none, .bool true]) ∧ w = w' := by
  go_enter Try.func13, Try.ntmps13
  go_wp2_with (first
    | (go_at_call 18; (with_reducible refine (dk_new_no _ _ hz).mono ?_); rintro e w1 ⟨rfl, rfl⟩)
    | (go_at_call 31; (with_reducible refine (rd_new_no _ _ hz).mono ?_); rintro e w2 ⟨rfl, rfl⟩)
    | (go_at_call 24; (with_reducible refine (num_any _ _).mono ?_); rintro e w' ⟨rfl, rfl⟩))
  go_ret3
  exact ⟨rfl, rfl⟩
end Go.Proofs.Ytibidljblkfciaa

set_option linter.unusedSimpArgs false
namespace Go.Proofs.Ytibidljblkfciaa
open Go.Word Go.RowKit

section
variable {w w' : World} {g r n : Nat} {F : Bytes} {ws : List (Nat × Bytes)} {on : Bool} {lf : Int} {fp fq : Nat → Prop}
theorem call_zero (a : Int) (w : World) (hN : ws.length ≤ 60000) (h : Two2 w g r n F ws on lf fp fq) :
    Calls Try.prog 16 #[.pointer (some ⟨g, 0, none⟩), .pointer (some ⟨r, 0, none⟩), .agg #[.int .i64 0, .int .i64 a, .int .i64 0, .slice none 0 0]] w fun e w' => e = .returned (.bool true) ∧ Below w.heap.size w w' := by
  by_cases hy : ∃ y, Bars on n a y
  · obtain ⟨y, hy⟩ := hy
    exact call_read_no a y 0 _ w hy h
  · cases on with
    | false => exact absurd ⟨11, .inl ⟨rfl, rfl⟩⟩ hy
    | true =>
      have h1 : ¬ (a < 0 ∨ (n : Int) ≤ a) := fun h => hy ⟨10, .inr ⟨rfl, rfl, h⟩⟩
      exact call_read a a.toNat (by omega) 0 _ w (by omega) (by omega) h
end
theorem fam_new {w0 w w' : World} {n g r : Nat} {fp fq : Nat → Prop} (h0 : Below w0.heap.size w0 w) (hd : DK w' g n (fun _ => 0) [] true (-1) fp) (hr : RD w' r n (fun _ => 0) [] true (-1) fq) (ha : Apart fp fq) (l1 : ∀ i, fp i → w.heap.size ≤ i) (l2 : ∀ i, fq i → w.heap.size ≤ i) (hb : Below w.heap.size w w') :
    Fam w0 w' n 0 ⟨g, r, fun _ => 0, [], true, -1, fp, fq⟩ [] (.slice none 0 0) (.slice none 0 0) :=
  ⟨⟨(fun p hp => by cases hp), h0.trans (hb.mono h0.size), World.ownsRow_nil _ _ _ _, World.ownsRow_nil _ _ _ _, (fun p hp => by cases hp), (fun p hp => by cases hp)⟩,
    ⟨⟨hd, hr, ha⟩, (show Fus true (-1) from ⟨by decide, by decide, fun _ => by decide⟩), Nat.le_refl _⟩, (fun p hp => by cases hp), fun i hi => Or.elim hi (fun h => Nat.le_trans h0.size (l1 i h)) (fun h => Nat.le_trans h0.size (l2 i h)), (fun k hk => by cases hk), (fun k hk => by cases hk)⟩
/-- what holds at the head of the law's first loop -/
def Lp (w wr : World) (n k : Nat) (v7 v8 v10 v11 v12 : Value) : Prop :=
  ∃ (i : Nat) (cur : Pr) (old : List Pr) (L : Nat) (LA : Option Addr) (LC : Nat) (WA : Option Addr) (WC : Nat), i ≤ k ∧ L ≤ 4 ∧ old.length = L ∧ v7 = .pointer (some ⟨cur.g, 0, none⟩) ∧ v8 = .pointer (some ⟨cur.r, 0, none⟩) ∧ v10 = .slice LA L LC ∧ v11 = .slice WA L WC ∧ v12 = .int .i64 (i : Int) ∧ Fam w wr n i cur old (.slice LA L LC) (.slice WA L WC)

set_option maxRecDepth 100000 in
set_option maxHeartbeats 4000000 in
theorem plays_many (z : Int) (A : Option Addr) (k c : Nat) (od : Nat → OpD) (w : World) (hk : k ≤ c) (hc : c ≤ maxLen) (hO : Opss w A k od) (h : 300 < k) : Calls Try.prog 3 #[.int .i64 z, .slice A k c] w fun e w' => e = .returned (.bool true) ∧ Below w.heap.size w w' := by
  have hkm : k ≤ 9223372036854775807 := by unfold maxLen at hc; omega
  have LG := fun w' (hb : Below w.heap.size w w') => Lib.hid (long_any A k c od w' hk hc (fun i hi => by
    obtain ⟨b, o, e, hlt, c0, c1, c2, c3, r1, r2, r3, r4, r5, r6⟩ := hO i hi
    exact ⟨b, o, e, Nat.lt_of_lt_of_le hlt hb.size, (hb.cell (p := ⟨b, o + i * 4, none⟩) hlt).trans c0, (hb.cell (p := ⟨b, o + i * 4 + 1, none⟩) hlt).trans c1, (hb.cell (p := ⟨b, o + i * 4 + 2, none⟩) hlt).trans c2, (hb.cell (p := ⟨b, o + i * 4 + 3, none⟩) hlt).trans c3, r1, r2, nums_below r3 hb, r4, r5, r6⟩))
  have h' : 300 < (k : Int) := by omega
  clear hO
  go_enter Try.func3, Try.ntmps3
  go_upto_region 3 with (first
    | (go_at_call 11; (with_reducible refine (alive_any _).mono ?_); rintro e w1 ⟨rfl, hb⟩; have H1 := Lib.hid hb; clear hb)
    | (go_at_call 12; (with_reducible refine (LG _ H1.out).out.mono ?_); rintro e w2 ⟨much, rfl, rfl⟩))
  cases much with
  | true =>
    go_wp2
    go_ret
    exact ⟨rfl, H1.out⟩
  | false =>
    go_wp2
    go_ret
    exact ⟨rfl, H1.out⟩

set_option maxRecDepth 100000 in
set_option maxHeartbeats 4000000 in
theorem plays_great (z : Int) (A : Option Addr) (k c : Nat) (od : Nat → OpD) (w : World) (hk : k ≤ c) (hc : c ≤ maxLen) (hO : Opss w A k od) (h : k ≤ 300) (h1 : 64 < z) (h2 : z ≤ 4096) : Calls Try.prog 3 #[.int .i64 z, .slice A k c] w fun e w' => e = .returned (.bool true) ∧ Below w.heap.size w w' := by
  have hkm : k ≤ 9223372036854775807 := by unfold maxLen at hc; omega
  have LG := fun w' (hb : Below w.heap.size w w') => Lib.hid (long_any A k c od w' hk hc (fun i hi => by
    obtain ⟨b, o, e, hlt, c0, c1, c2, c3, r1, r2, r3, r4, r5, r6⟩ := hO i hi
    exact ⟨b, o, e, Nat.lt_of_lt_of_le hlt hb.size, (hb.cell (p := ⟨b, o + i * 4, none⟩) hlt).trans c0, (hb.cell (p := ⟨b, o + i * 4 + 1, none⟩) hlt).trans c1, (hb.cell (p := ⟨b, o + i * 4 + 2, none⟩) hlt).trans c2, (hb.cell (p := ⟨b, o + i * 4 + 3, none⟩) hlt).trans c3, r1, r2, nums_below r3 hb, r4, r5, r6⟩))
  have h' : ¬ 300 < (k : Int) := by omega
  clear hO
  go_enter Try.func3, Try.ntmps3
  go_upto_region 3 with (first
    | (go_at_call 11; (with_reducible refine (alive_any _).mono ?_); rintro e w1 ⟨rfl, hb⟩; have H1 := Lib.hid hb; clear hb)
    | (go_at_call 12; (with_reducible refine (LG _ H1.out).out.mono ?_); rintro e w2 ⟨much, rfl, rfl⟩))
  cases much with
  | true =>
    go_wp2
    go_ret
    exact ⟨rfl, H1.out⟩
  | false =>
    go_wp2
    go_ret
    exact ⟨rfl, H1.out⟩

set_option maxRecDepth 100000 in
set_option maxHeartbeats 4000000 in
theorem plays_none (z : Int) (A : Option Addr) (k c : Nat) (od : Nat → OpD) (w : World) (hk : k ≤ c) (hc : c ≤ maxLen) (hO : Opss w A k od) (h : k ≤ 300) (h1 : z < 1) : Calls Try.prog 3 #[.int .i64 z, .slice A k c] w fun e w' => e = .returned (.bool true) ∧ Below w.heap.size w w' := by
  have hkm : k ≤ 9223372036854775807 := by unfold maxLen at hc; omega
  have LG := fun w' (hb : Below w.heap.size w w') => Lib.hid (long_any A k c od w' hk hc (fun i hi => by
    obtain ⟨b, o, e, hlt, c0, c1, c2, c3, r1, r2, r3, r4, r5, r6⟩ := hO i hi
    exact ⟨b, o, e, Nat.lt_of_lt_of_le hlt hb.size, (hb.cell (p := ⟨b, o + i * 4, none⟩) hlt).trans c0, (hb.cell (p := ⟨b, o + i * 4 + 1, none⟩) hlt).trans c1, (hb.cell (p := ⟨b, o + i * 4 + 2, none⟩) hlt).trans c2, (hb.cell (p := ⟨b, o + i * 4 + 3, none⟩) hlt).trans c3, r1, r2, nums_below r3 hb, r4, r5, r6⟩))
  have h' : ¬ 300 < (k : Int) := by omega
  have h2 : ¬ 64 < z := by omega
  clear hO
  go_enter Try.func3, Try.ntmps3
  go_upto_region 3 with (first
    | (go_at_call 11; (with_reducible refine (alive_any _).mono ?_); rintro e w1 ⟨rfl, hb⟩; have H1 := Lib.hid hb; clear hb)
    | (go_at_call 12; (with_reducible refine (LG _ H1.out).out.mono ?_); rintro e w2 ⟨much, rfl, rfl⟩))
  cases much with
  | true =>
    go_wp2
    go_ret
    exact ⟨rfl, H1.out⟩
  | false =>
    go_wp2_with (go_at_call 13; (with_reducible refine (pair_no z _ (by omega)).mono ?_); rintro e w3 ⟨rfl, rfl⟩)
    go_ret
    exact ⟨rfl, H1.out⟩

set_option maxRecDepth 100000 in
set_option maxHeartbeats 4000000 in
theorem plays_above (z : Int) (A : Option Addr) (k c : Nat) (od : Nat → OpD) (w : World) (hk : k ≤ c) (hc : c ≤ maxLen) (hO : Opss w A k od) (h : k ≤ 300) (h1 : 4096 < z) : Calls Try.prog 3 #[.int .i64 z, .slice A k c] w fun e w' => e = .returned (.bool true) ∧ Below w.heap.size w w' := by
  have hkm : k ≤ 9223372036854775807 := by unfold maxLen at hc; omega
  have LG := fun w' (hb : Below w.heap.size w w') => Lib.hid (long_any A k c od w' hk hc (fun i hi => by
    obtain ⟨b, o, e, hlt, c0, c1, c2, c3, r1, r2, r3, r4, r5, r6⟩ := hO i hi
    exact ⟨b, o, e, Nat.lt_of_lt_of_le hlt hb.size, (hb.cell (p := ⟨b, o + i * 4, none⟩) hlt).trans c0, (hb.cell (p := ⟨b, o + i * 4 + 1, none⟩) hlt).trans c1, (hb.cell (p := ⟨b, o + i * 4 + 2, none⟩) hlt).trans c2, (hb.cell (p := ⟨b, o + i * 4 + 3, none⟩) hlt).trans c3, r1, r2, nums_below r3 hb, r4, r5, r6⟩))
  have h' : ¬ 300 < (k : Int) := by omega
  have h2 : 64 < z := by omega
  have h3 : ¬ z ≤ 4096 := by omega
  clear hO
  go_enter Try.func3, Try.ntmps3
  go_upto_region 3 with (first
    | (go_at_call 11; (with_reducible refine (alive_any _).mono ?_); rintro e w1 ⟨rfl, hb⟩; have H1 := Lib.hid hb; clear hb)
    | (go_at_call 12; (with_reducible refine (LG _ H1.out).out.mono ?_); rintro e w2 ⟨much, rfl, rfl⟩))
  cases much with
  | true =>
    go_wp2
    go_ret
    exact ⟨rfl, H1.out⟩
  | false =>
    go_wp2_with (go_at_call 13; (with_reducible refine (pair_no z _ (by omega)).mono ?_); rintro e w3 ⟨rfl, rfl⟩)
    go_ret
    exact ⟨rfl, H1.out⟩

theorem ptr_at {w0 w : World} {e : TypeId} {A : Option Addr} {L C k : Nat} {xs : List Value} (h : w.ownsRow w0.heap.size e 1 (.slice A L C) k xs) (i : Nat) (u : Value) (hi : xs[i]? = some u) : ∃ b, A = some ⟨b, 0, none⟩ ∧ w.cell? ⟨b, i, none⟩ = some u := by
  obtain ⟨A', C', e1, q⟩ := ptr_form h
  injection e1 with e1 _ _
  subst e1
  exact q i u hi
theorem four_at {w0 w : World} {b o : Nat} {v0 v1 v2 v3 : Value} (hb : Below w0.heap.size w0 w) (hl : b < w0.heap.size) (h0 : w0.cell? ⟨b, o, none⟩ = some v0) (h1 : w0.cell? ⟨b, o + 1, none⟩ = some v1) (h2 : w0.cell? ⟨b, o + 2, none⟩ = some v2) (h3 : w0.cell? ⟨b, o + 3, none⟩ = some v3) : w.rangeAt b o [v0, v1, v2, v3] := fun j v hj => by
  match j, hj with
  | 0, hj => injection hj with hj; subst hj; exact (hb.cell (p := ⟨b, o, none⟩) hl).trans h0
  | 1, hj => injection hj with hj; subst hj; exact (hb.cell (p := ⟨b, o + 1, none⟩) hl).trans h1
  | 2, hj => injection hj with hj; subst hj; exact (hb.cell (p := ⟨b, o + 2, none⟩) hl).trans h2
  | 3, hj => injection hj with hj; subst hj; exact (hb.cell (p := ⟨b, o + 3, none⟩) hl).trans h3
  | j + 4, hj => simp at hj
theorem outs_fam {w0 w : World} {n m : Nat} {cur : Pr} {old : List Pr} {lv wv : Value} {KA : Option Addr} {kl : Nat} {ks : Nat → Int} (h : Fam w0 w n m cur old lv wv) (hK : Nums w0 KA kl ks) : Outs w cur.fp cur.fq KA kl ks := fun i hi => by
  obtain ⟨b, o, e, hlt, hc, _⟩ := hK i hi
  exact ⟨b, o, e, Nat.lt_of_lt_of_le hlt h.olds.below.size, fun hh => by have := h.low b (.inl hh); omega, fun hh => by have := h.low b (.inr hh); omega, (h.olds.below.cell (p := ⟨b, o + i, none⟩) hlt).trans hc⟩

set_option maxRecDepth 100000 in
set_option maxHeartbeats 4000000 in
theorem plays_main (n : Nat) (A : Option Addr) (k c : Nat) (od : Nat → OpD) (w : World) (hk : k ≤ c) (hc : c ≤ maxLen) (hO : Opss w A k od) (hX : ∀ i, i < k → ((od i).KA = none → (od i).kl = 0 ∧ (od i).kc = 0) ∧ (od i).kl * 8 ≤ reachBytes) (h : k ≤ 300) (hn1 : 1 ≤ n) (hn2 : n ≤ 64) : Calls Try.prog 3 #[.int .i64 (n : Int), .slice A k c] w fun e w' => e = .returned (.bool true) ∧ Below w.heap.size w w' := by
  have hkm : k ≤ 9223372036854775807 := by unfold maxLen at hc; omega
  have LG := fun w' (hb : Below w.heap.size w w') => Lib.hid (long_any A k c od w' hk hc (fun i hi => by
    obtain ⟨b, o, e, hlt, c0, c1, c2, c3, r1, r2, r3, r4, r5, r6⟩ := hO i hi
    exact ⟨b, o, e, Nat.lt_of_lt_of_le hlt hb.size, (hb.cell (p := ⟨b, o + i * 4, none⟩) hlt).trans c0, (hb.cell (p := ⟨b, o + i * 4 + 1, none⟩) hlt).trans c1, (hb.cell (p := ⟨b, o + i * 4 + 2, none⟩) hlt).trans c2, (hb.cell (p := ⟨b, o + i * 4 + 3, none⟩) hlt).trans c3, r1, r2, nums_below r3 hb, r4, r5, r6⟩))
  have h' : ¬ 300 < (k : Int) := by omega
  have h2 : ¬ 64 < (n : Int) := by omega
  have HO := Lib.hid hO
  have HXX := Lib.hid hX
  clear hO hX
  go_enter Try.func3, Try.ntmps3
  go_upto_region 3 with (first
    | (go_at_call 11; (with_reducible refine (alive_any _).mono ?_); rintro e w1 ⟨rfl, hb⟩; have H1 := Lib.hid hb; clear hb)
    | (go_at_call 12; (with_reducible refine (LG _ H1.out).out.mono ?_); rintro e w2 ⟨much, rfl, rfl⟩))
  cases much with
  | true =>
    go_wp2
    go_ret
    exact ⟨rfl, H1.out⟩
  | false =>
    go_wp2_with (go_at_call 13; (with_reducible refine (pair_any n n rfl w1 hn1 (by omega)).mono ?_); rintro e w3 ⟨g, fp, r, fq, rfl, hd, hr, ha, l1, l2, hb'⟩; have HP := Lib.hid (fam_new H1.out hd hr ha l1 l2 hb'); clear hd hr ha l1 l2 hb')
    go_loopw [7, 8, 10, 11, 12] (fun v7 v8 v10 v11 v12 wr => Lp w wr n k v7 v8 v10 v11 v12) (fun _ _ _ _ v12 _ => k - (intOf v12).toNat)
    case atStart => exact ⟨0, _, [], 0, none, 0, none, 0, Nat.zero_le _, Nat.zero_le _, rfl, rfl, rfl, rfl, rfl, rfl, HP.out⟩
    case round =>
      obtain ⟨i, cur, old, L, LA, LC, WA, WC, hi, hL, hOL, rfl, rfl, rfl, rfl, rfl, hF⟩ := hrel
      have HQ := Lib.hid hF
      have EL0 := Lib.hid hOL
      clear hF hOL HP
      by_cases hlt : i < k
      · have lk : decide (i < k) = true := decide_eq_true hlt
        have li : (i : Int) < (k : Int) := by omega
        obtain ⟨b, o, eA, hbl, c0, c1, c2, c3, r1, r2, r3, r4, r5, r6⟩ := HO.out i hlt
        obtain ⟨x1, x2⟩ := HXX.out i hlt
        subst eA
        have d0 := (HQ.out.olds.below.cell (p := ⟨b, o + i * 4, none⟩) hbl).trans c0
        generalize (od i).kind = kd at *
        generalize (od i).a = za at *
        generalize (od i).b = zb at *
        generalize (od i).KA = KA at *
        generalize (od i).kl = kl at *
        generalize (od i).kc = kc at *
        generalize (od i).ks = ks at *
        have D0 := Lib.hid c0
        have D1 := Lib.hid c1
        have D2 := Lib.hid c2
        have D3 := Lib.hid c3
        have KN := Lib.hid r3
        have KC := Lib.hid x1
        have KL := Lib.hid x2
        have FA := Lib.hid r5
        clear c0 c1 c2 c3 r1 r2 r3 r4 r5 r6 x1 x2
        by_cases h6 : kd = 6
        · subst h6
          by_cases h4 : L < 4
          · have h4' : (L : Int) < 4 := by omega
            have h4d : decide (L < 4) = true := decide_eq_true h4
            obtain ⟨lv', W2, wv', W4, hr1, hr2, hP⟩ := fam_push HQ.out (by have := EL0.out; omega)
            obtain ⟨LA', LC', rfl, _⟩ := ptr_form hP.rowL
            obtain ⟨WA', WC', rfl, _⟩ := ptr_form hP.rowW
            have e1 : (old ++ [cur]).length = L + 1 := by have := EL0.out; simp; omega
            rw [e1] at hP hr1 hr2
            have EL := Lib.hid e1
            have HP := Lib.hid hP
            have R1 := Lib.hid (show ∀ ty, (Builtin.append_ #[29, 29] ty #[.slice LA L LC, .slice (some ⟨wr.heap.size, 0, none⟩) 1 1]).run Try.prog (wr.alloc (.cells #[.pointer (some ⟨cur.g, 0, none⟩)] 25)) = .ok (.slice LA' (L + 1) LC') W2 from hr1)
            have R2 := Lib.hid (show ∀ ty, (Builtin.append_ #[30, 30] ty #[.slice WA L WC, .slice (some ⟨W2.heap.size, 0, none⟩) 1 1]).run Try.prog (W2.alloc (.cells #[.pointer (some ⟨cur.r, 0, none⟩)] 26)) = .ok (.slice WA' (L + 1) WC') W4 from hr2)
            have C4 := Lib.hid (hP.each cur (List.mem_append_right _ List.mem_cons_self))
            have N4 := Lib.hid (show cur.ws.length ≤ 70000 from Nat.le_trans C4.out.2.2 (by omega))
            have CD := Lib.hid C4.out.1.d
            have CR := Lib.hid C4.out.1.r
            clear hr1 hr2 hP e1
            go_upto_region 16 with (first
              | (at_builtin; refine wpList_app_eq rfl _ _ 29 rfl (.slice LA L LC) (.slice (some ⟨wr.heap.size, 0, none⟩) 1 1) _ rfl rfl R1.out ?_)
              | (at_builtin; refine wpList_app_eq rfl _ _ 30 rfl (.slice WA L WC) (.slice (some ⟨W2.heap.size, 0, none⟩) 1 1) _ rfl rfl R2.out ?_))
            go_upto_region 18 with (first
              | (go_at_call 14; (with_reducible refine (dk_twin W4 N4.out CD.out).mono ?_); rintro e w5 ⟨g5, fp5, rfl, hd5, hl5, hb5⟩; have HD5 := Lib.hid hd5; have HL5 := Lib.hid hl5; have HB5 := Lib.hid hb5; clear hd5 hl5 hb5)
              | (go_at_call 15; (with_reducible refine (rd_twin w5 N4.out (rd_below CR.out HB5.out)).mono ?_); rintro e w6 ⟨r6, fq6, rfl, hd6, hl6, hb6⟩; have HD6 := Lib.hid hd6; have HL6 := Lib.hid hl6; have HB6 := Lib.hid hb6; clear hd6 hl6 hb6))
            have HX := Lib.hid (fam_twin (r' := r6) HP.out (List.mem_append_right _ List.mem_cons_self) HD5.out HL5.out HB5.out HD6.out HL6.out HB6.out)
            have LM := Lib.hid (show w6.rangeAt b (o + i * 4) [.int .i64 6, .int .i64 za, .int .i64 zb, .slice KA kl kc] from four_at (HX.out.olds.below) hbl D0.out D1.out D2.out D3.out)
            have CALL := Lib.hid (call_any 6 za zb KA kl kc ks w6 (by have := HX.out.here.2.2; omega) (by have := KL.out; unfold reachBytes at this; omega) (outs_fam HX.out KN.out) KC.out FA.out.2 HX.out.here.2.1 HX.out.here.1)
            go_upto_region 21 with (first
              | (refine wpList_load_mid rfl 33 _ rfl b (o + i * 4) rfl [.int .i64 6, .int .i64 za, .int .i64 zb, .slice KA kl kc] _ LM.out Try.underlying33 rfl (by kernel_rfl) ?_)
              | (go_at_call 16; (with_reducible refine CALL.out.mono ?_); rintro e w7 ⟨rfl, hd⟩; obtain ⟨cur7, eg, er, hF7⟩ := fam_call HX.out hd; have T7 := Lib.hid hF7.here.1; rw [eg, er] at T7; have EG := Lib.hid eg; have ER := Lib.hid er; have F7 := Lib.hid hF7; have N7 := Lib.hid (show cur7.ws.length ≤ 70000 from Nat.le_trans hF7.here.2.2 (by omega)); clear hd eg er hF7))
            go_wp2_with (go_at_call 17; (with_reducible refine (alike_on w7 N7.out T7.out).mono ?_); rintro e w8 ⟨rfl, hb⟩; have H8 := Lib.hid hb; clear hb)
            go_roundw
            case rel => exact ⟨i + 1, cur7, (old ++ [cur]), (L + 1), LA', LC', WA', WC', by omega, by omega, EL.out, by rw [EG.out], by rw [ER.out], rfl, rfl, by go_num, fam_below F7.out H8.out⟩
            case measure => first | (simp [intOf]; done) | (simp [intOf]; omega)
          · have h4' : ¬ (L : Int) < 4 := by omega
            have h4d : decide (L < 4) = false := decide_eq_false h4
            have EL := EL0
            have HX := HQ
            have LM := Lib.hid (show wr.rangeAt b (o + i * 4) [.int .i64 6, .int .i64 za, .int .i64 zb, .slice KA kl kc] from four_at (HX.out.olds.below) hbl D0.out D1.out D2.out D3.out)
            have CALL := Lib.hid (call_any 6 za zb KA kl kc ks wr (by have := HX.out.here.2.2; omega) (by have := KL.out; unfold reachBytes at this; omega) (outs_fam HX.out KN.out) KC.out FA.out.2 HX.out.here.2.1 HX.out.here.1)
            go_upto_region 21 with (first
              | (refine wpList_load_mid rfl 33 _ rfl b (o + i * 4) rfl [.int .i64 6, .int .i64 za, .int .i64 zb, .slice KA kl kc] _ LM.out Try.underlying33 rfl (by kernel_rfl) ?_)
              | (go_at_call 16; (with_reducible refine CALL.out.mono ?_); rintro e w7 ⟨rfl, hd⟩; obtain ⟨cur7, eg, er, hF7⟩ := fam_call HX.out hd; have T7 := Lib.hid hF7.here.1; rw [eg, er] at T7; have EG := Lib.hid eg; have ER := Lib.hid er; have F7 := Lib.hid hF7; have N7 := Lib.hid (show cur7.ws.length ≤ 70000 from Nat.le_trans hF7.here.2.2 (by omega)); clear hd eg er hF7))
            go_wp2_with (go_at_call 17; (with_reducible refine (alike_on w7 N7.out T7.out).mono ?_); rintro e w8 ⟨rfl, hb⟩; have H8 := Lib.hid hb; clear hb)
            go_roundw
            case rel => exact ⟨i + 1, cur7, old, L, LA, LC, WA, WC, by omega, by omega, EL.out, by rw [EG.out], by rw [ER.out], rfl, rfl, by go_num, fam_below F7.out H8.out⟩
            case measure => first | (simp [intOf]; done) | (simp [intOf]; omega)
        · have h6d : decide (kd = 6) = false := decide_eq_false h6
          have EL := EL0
          have HX := HQ
          have LM := Lib.hid (show wr.rangeAt b (o + i * 4) [.int .i64 kd, .int .i64 za, .int .i64 zb, .slice KA kl kc] from four_at (HX.out.olds.below) hbl D0.out D1.out D2.out D3.out)
          have CALL := Lib.hid (call_any kd za zb KA kl kc ks wr (by have := HX.out.here.2.2; omega) (by have := KL.out; unfold reachBytes at this; omega) (outs_fam HX.out KN.out) KC.out FA.out.2 HX.out.here.2.1 HX.out.here.1)
          go_upto_region 21 with (first
            | (refine wpList_load_mid rfl 33 _ rfl b (o + i * 4) rfl [.int .i64 kd, .int .i64 za, .int .i64 zb, .slice KA kl kc] _ LM.out Try.underlying33 rfl (by kernel_rfl) ?_)
            | (go_at_call 16; (with_reducible refine CALL.out.mono ?_); rintro e w7 ⟨rfl, hd⟩; obtain ⟨cur7, eg, er, hF7⟩ := fam_call HX.out hd; have T7 := Lib.hid hF7.here.1; rw [eg, er] at T7; have EG := Lib.hid eg; have ER := Lib.hid er; have F7 := Lib.hid hF7; have N7 := Lib.hid (show cur7.ws.length ≤ 70000 from Nat.le_trans hF7.here.2.2 (by omega)); clear hd eg er hF7))
          go_wp2_with (go_at_call 17; (with_reducible refine (alike_on w7 N7.out T7.out).mono ?_); rintro e w8 ⟨rfl, hb⟩; have H8 := Lib.hid hb; clear hb)
          go_roundw
          case rel => exact ⟨i + 1, cur7, old, L, LA, LC, WA, WC, by omega, by omega, EL.out, by rw [EG.out], by rw [ER.out], rfl, rfl, by go_num, fam_below F7.out H8.out⟩
          case measure => first | (simp [intOf]; done) | (simp [intOf]; omega)
      · have lk : decide (i < k) = false := decide_eq_false hlt
        have li : ¬ (i : Int) < (k : Int) := by omega
        have HOL := Lib.hid HQ.out.olds
        go_wp2
        go_loopw [14] (fun v wr2 => ∃ j : Nat, j ≤ L ∧ v = .int .i64 (j : Int) ∧ Olds w wr2 n i old (.slice LA L LC) (.slice WA L WC)) (fun v _ => L - (intOf v).toNat)
        case atStart => exact ⟨0, Nat.zero_le _, rfl, HOL.out⟩
        case round =>
          obtain ⟨j, hj, rfl, hO2⟩ := hrel
          have HO2 := Lib.hid hO2
          clear hO2 HOL
          by_cases hjl : j < L
          · have lj : decide (j < L) = true := decide_eq_true hjl
            have ljj : (j : Int) < (L : Int) := by omega
            have hjo : j < old.length := by have := EL0.out; omega
            obtain ⟨p, hp⟩ : ∃ p, p = old[j] := ⟨_, rfl⟩
            have hpm : p ∈ old := by rw [hp]; exact List.getElem_mem _
            obtain ⟨lb, rfl, m1⟩ := ptr_at HO2.out.rowL j (pg p) (by rw [hp]; simp [hjo])
            obtain ⟨wb, rfl, m2⟩ := ptr_at HO2.out.rowW j (pr p) (by rw [hp]; simp [hjo])
            have m1 : wr.cell? ⟨lb, j, none⟩ = some (.pointer (some ⟨p.g, 0, none⟩)) := m1
            have m2 : wr.cell? ⟨wb, j, none⟩ = some (.pointer (some ⟨p.r, 0, none⟩)) := m2
            have PM := Lib.hid hpm
            have PGJ := Lib.hid (show (old.map pg)[j]? = some (pg p) by rw [hp]; simp [hjo])
            have PRJ := Lib.hid (show (old.map pr)[j]? = some (pr p) by rw [hp]; simp [hjo])
            clear hp
            have hpa := HO2.out.each p hpm
            have T1 := Lib.hid (two_below hpa.1 (Below.drew (Below.refl _ wr)))
            have N1 := Lib.hid (show p.ws.length ≤ 70000 from Nat.le_trans hpa.2.2 (by omega))
            clear hpa
            go_upto_region 26 with (fail)
            go_still_tail 8, (by kernel_rfl)
            change wpList _ _ _ _ _ wr.drew
            go_wp2_with (go_at_call 17; (refine (alike_on wr.drew N1.out T1.out).mono ?_); rintro e w8 ⟨rfl, hb⟩; have H8 := Lib.hid ((Below.drew (Below.refl _ wr)).trans (hb.mono (Nat.le_refl _))); clear hb)
            have O8 := Lib.hid (olds_below HO2.out H8.out)
            clear m1 m2 T1
            go_loopw [15] (fun v wr3 => ∃ kk : Nat, kk ≤ n ∧ v = .int .i64 (kk : Int) ∧ Olds w wr3 n i old (.slice (some ⟨lb, 0, none⟩) L LC) (.slice (some ⟨wb, 0, none⟩) L WC)) (fun v _ => n - (intOf v).toNat)
            case atStart => exact ⟨0, Nat.zero_le _, rfl, O8.out⟩
            case round =>
              obtain ⟨kk, hkk, rfl, hO3⟩ := hrel
              have HO3 := Lib.hid hO3
              clear hO3
              by_cases hkn : kk < n
              · have lkn : decide (kk < n) = true := decide_eq_true hkn
                have lki : (kk : Int) < (n : Int) := by omega
                obtain ⟨lb', e1, m1⟩ := (ptr_at HO3.out.rowL) j (pg p) (PGJ.out)
                obtain ⟨wb', e2, m2⟩ := (ptr_at HO3.out.rowW) j (pr p) (PRJ.out)
                injection e1 with e1
                injection e1 with e1 _ _
                injection e2 with e2
                injection e2 with e2 _ _
                subst e1 e2
                have m1 : wr.cell? ⟨lb, j, none⟩ = some (.pointer (some ⟨p.g, 0, none⟩)) := m1
                have m2 : wr.cell? ⟨wb, j, none⟩ = some (.pointer (some ⟨p.r, 0, none⟩)) := m2
                have hpa := HO3.out.each p PM.out
                have T1 := Lib.hid (two_below hpa.1 (Below.drew (Below.refl _ wr)))
                have N1 := Lib.hid (show p.ws.length ≤ 60000 from Nat.le_trans hpa.2.2 (by omega))
                clear hpa
                go_upto_region 31 with (fail)
                go_still_tail 10, (by kernel_rfl)
                change wpList _ _ _ _ _ wr.drew
                go_wp2_with (go_at_call 16; (refine (call_zero _ wr.drew N1.out T1.out).mono ?_); rintro e w9 ⟨rfl, hb⟩; have H9 := Lib.hid ((Below.drew (Below.refl _ wr)).trans (hb.mono (Nat.le_refl _))); clear hb)
                go_roundw
                case rel => exact ⟨kk + 1, by omega, by go_num, olds_below HO3.out H9.out⟩
                case measure => first | (simp [intOf]; done) | (simp [intOf]; omega)
              · have lkn : decide (kk < n) = false := decide_eq_false hkn
                have lki : ¬ (kk : Int) < (n : Int) := by omega
                go_wp2
                go_roundw
                case rel => exact ⟨j + 1, by omega, by go_num, HO3.out⟩
                case measure => first | (simp [intOf]; done) | (simp [intOf]; omega)
          · have lj : decide (j < L) = false := decide_eq_false hjl
            have ljj : ¬ (j : Int) < (L : Int) := by omega
            go_wp2
            go_ret
            exact ⟨rfl, HO2.out.below⟩
end Go.Proofs.Ytibidljblkfciaa
