/-
What is proved here: what the three times work on, made: times, by a contract. stock.Check, by a contract. whether a row of sources has one, and what Match checks first, by contracts. one look of one of the three times, by one contract; the row of sources. what Match keeps from round to round, and what one round turns. the contents' iterator, over whatever stands for its pairs. what one pass of Match keeps. Match, by a contract. the small trees of the law of liveness, by a contract. Match as a plain call; the law's own numbers; that it is alive.
-/
import Derived.Test.YtiglakhfkgeefaaFV
import Derived.Test.YtiglakhfkgeefaaSk1
import Derived.Laws.EntriesVeiled
import Derived.RangeFuncWrites
import Derived.RangeFuncLeaves
import Derived.RangeFuncRecord
import Derived.Sort.CutIn
import Derived.BigFrameIn
import Derived.BigRegionIn
import Derived.Laws.IdiomStrings
set_option linter.unusedSimpArgs false
set_option linter.unusedVariables false
namespace Go.Proofs.Ytiglakhfkgeefaa
open Go.Pth Go.Tre Go.RowKit Go.Word Go.Shelf Go.Mat
/-- what the first three calls and boxes leave -/
structure TmA (w0 W : World) (mF mN g b7 b8 b9 nS nN k : Nat) (F : Bt → List Int) (named : Bt → Option Int) (nm : Nat → List Bt) (v7 v8 v9 : Value) : Prop where
  low : Below w0.heap.size w0 W
  hS : ShelfAt W (mF + 1) mF nS F
  hN : NumM W mN nN named
  hT : NmsAt W g (g + 1) k nm
  h7 : Lies W b7 83 #[v7]
  h8 : Lies W b8 85 #[v8]
  h9 : Lies W b9 87 #[v9]
  d : mN ≠ mF
  lo : w0.heap.size ≤ mF ∧ w0.heap.size ≤ mN ∧ w0.heap.size ≤ g ∧ w0.heap.size ≤ b7 ∧ w0.heap.size ≤ b8 ∧ w0.heap.size ≤ b9
theorem lies_one {w : World} {g g' : Nat} {t t' : TypeId} {cs cs' : Array Value} (h : Lies w g t cs) (h' : Lies w g' t' cs') (ht : t ≠ t') : g ≠ g' := fun e => by
  subst e
  have e := (show w.heap[g]? = _ from h).symm.trans h'
  injection e with e
  injection e with _ e _
  exact ht e
theorem nms_other {w w' : World} {g base k q t : Nat} {nm : Nat → List Bt} {cs0 : Array Value} (h : NmsAt w g base k nm) (hg : w.grownBy w' (some q)) (hl : Lies w q t cs0) (h1 : t ≠ 56) (h2 : t ≠ 9) : NmsAt w' g base k nm := by
  obtain ⟨cs, hl1, hs, hr, ha⟩ := h
  refine ⟨cs, (hg.block g (lies_lt hl1) (fun e => lies_one hl hl1 h1 (by injection e with e; exact e.symm))).trans hl1, hs, fun f hf => (hr f hf).kept hg ?_, ha⟩
  cases hb : (cs.getD f undef).ownBlock with
  | none => exact .inl rfl
  | some r =>
    refine .inr (fun e => ?_)
    injection e with e
    subst e
    rcases (hr f hf).2 with ⟨e1, _⟩ | ⟨q', cap, cur, e1, _, h6, _⟩
    · rw [e1] at hb; simp [Value.ownBlock] at hb
    · rw [e1] at hb
      simp only [Value.ownBlock, Option.some.injEq] at hb
      subst hb
      exact lies_one hl (show Lies _ _ _ _ from h6) h2 rfl
theorem tmA_set {w0 W : World} {mF mN g b7 b8 b9 nS nN k : Nat} {F : Bt → List Int} {named : Bt → Option Int} {nm : Nat → List Bt} {v7 v8 v9 : Value} (h : TmA w0 W mF mN g b7 b8 b9 nS nN k F named nm v7 v8 v9) (i : Nat) (v : Value) :
    (i = 0 → TmA w0 (W.setCell ⟨b7, 0, none⟩ v) mF mN g b7 b8 b9 nS nN k F named nm v v8 v9) ∧ (i = 1 → TmA w0 (W.setCell ⟨b8, 0, none⟩ v) mF mN g b7 b8 b9 nS nN k F named nm v7 v v9) ∧ (i = 2 → TmA w0 (W.setCell ⟨b9, 0, none⟩ v) mF mN g b7 b8 b9 nS nN k F named nm v7 v8 v) := by
  obtain ⟨h1, hS, hN, hT, h7, h8, h9, d, lo⟩ := h
  have gs : ∀ q, W.grownBy (W.setCell ⟨q, 0, none⟩ v) (some q) := fun q => ⟨rfl, rfl, rfl, by simp, fun i hi hne => heap_setCell_other W ⟨q, 0, none⟩ i _ (fun e => hne (by rw [e]))⟩
  have d78 := lies_one h7 h8 (by decide)
  have d79 := lies_one h7 h9 (by decide)
  have d89 := lies_one h8 h9 (by decide)
  have notm : ∀ {q t : Nat} {cs : Array Value} {m : Nat}, Lies W q t cs → (∃ o : Obj, W.heap[m]? = some o ∧ o.isWalk = true) → q ≠ m := fun hl hm e => by
    subst e
    obtain ⟨o, ho, hw⟩ := hm
    rw [show _ = _ from hl] at ho
    injection ho with ho
    subst ho
    cases hw
  have sh : ∀ {q t : Nat} {cs : Array Value}, Lies W q t cs → t ≠ 3 → ShelfAt (W.setCell ⟨q, 0, none⟩ v) (mF + 1) mF nS F := fun {q t cs} hl ht => shelf_other hS (gs q) (fun e => notm hl (shelf_walk hS) (by injection e)) (fun r e cs' h5 => by
    injection e with e
    subst e
    rw [show _ = _ from hl] at h5
    injection h5 with h5
    injection h5 with _ h5 _
    exact ht h5)
  have nu : ∀ {q t : Nat} {cs : Array Value}, Lies W q t cs → NumM (W.setCell ⟨q, 0, none⟩ v) mN nN named := fun {q t cs} hl => numM_same hN ((gs q).block mN (numM_lt hN) (fun e => notm hl (numM_walk hN) (by injection e with e; exact e.symm)))
  have low : ∀ q, w0.heap.size ≤ q → Below w0.heap.size w0 (W.setCell ⟨q, 0, none⟩ v) := fun q hq => h1.grown (gs q) h1.size (fun r e => by injection e with e; omega)
  have ke : ∀ {q t q' t' : Nat} {cs : Array Value}, q ≠ q' → Lies W q' t' cs → Lies (W.setCell ⟨q, 0, none⟩ v) q' t' cs := fun {q t q' t' cs} hne hl => ((gs q).block q' (lies_lt hl) (fun e => hne (by injection e with e; exact e.symm))).trans hl
  refine ⟨fun _ => ⟨low b7 lo.2.2.2.1, sh h7 (by decide), nu h7, nms_other hT (gs b7) h7 (by decide) (by decide), lies_set h7 0 v, ke (t := 83) d78 h8, ke (t := 83) d79 h9, d, lo⟩, fun _ => ⟨low b8 lo.2.2.2.2.1, sh h8 (by decide), nu h8, nms_other hT (gs b8) h8 (by decide) (by decide), ke (t := 83) d78.symm h7, lies_set h8 0 v, ke (t := 83) d89 h9, d, lo⟩, fun _ => ⟨low b9 lo.2.2.2.2.2, sh h9 (by decide), nu h9, nms_other hT (gs b9) h9 (by decide) (by decide), ke (t := 83) d79.symm h7, ke (t := 83) d89.symm h8, lies_set h9 0 v, d, lo⟩⟩
theorem tmA_grown0 {w0 W W' : World} {mF mN g b7 b8 b9 nS nN k : Nat} {F : Bt → List Int} {named : Bt → Option Int} {nm : Nat → List Bt} {v7 v8 v9 : Value} (h : TmA w0 W mF mN g b7 b8 b9 nS nN k F named nm v7 v8 v9) (hg : W.grownBy W' none) : TmA w0 W' mF mN g b7 b8 b9 nS nN k F named nm v7 v8 v9 :=
  have kl : ∀ {g t cs}, Lies W g t cs → Lies W' g t cs := fun h => (hg.block _ (lies_lt h) (by simp)).trans h
  ⟨h.low.grown hg h.low.size (fun r e => by cases e), shelf_grown0 h.hS hg, numM_same h.hN (hg.block _ (numM_lt h.hN) (by simp)), nms_grown0 h.hT hg, kl h.h7, kl h.h8, kl h.h9, h.d, h.lo⟩
/-- what the three times work on: blocks -/
structure Tid where
  b7 : Nat
  b8 : Nat
  b9 : Nat
  b10 : Nat
  b11 : Nat
  b12 : Nat
  mF : Nat
  m1 : Nat
  mN : Nat
  mS : Nat
  ng : Nat
structure TmsAt (W : World) (B : Nat) (t : Tid) (k n n1 nN nS : Nat) (s : MS) (named : Bt → Option Int) (nm : Nat → List Bt) (stock : Bt → Option Int) : Prop where
  h7 : Lies W t.b7 83 #[.map (some t.mF)]
  h8 : Lies W t.b8 85 #[.map (some t.mN)]
  h9 : Lies W t.b9 87 #[.slice (some ⟨t.ng, 0, none⟩) k k]
  h10 : Lies W t.b10 85 #[.map (some t.m1)]
  h11 : Lies W t.b11 85 #[.map (some t.mS)]
  h12 : Lies W t.b12 92 #[.func (.func 46) #[] #[.pointer (some ⟨t.b7, 0, none⟩), .pointer (some ⟨t.b10, 0, none⟩)]]
  hS : ShelfAt W (t.mF + 1) t.mF n s.F
  hN : NumM W t.m1 n1 s.f1
  hM : NumM W t.mN nN named
  hK : NumM W t.mS nS stock
  hT : NmsAt W t.ng (t.ng + 1) k nm
  d1 : t.m1 ≠ t.mF
  dN : t.mN ≠ t.mF ∧ t.mN ≠ t.m1
  dS : t.mS ≠ t.mF ∧ t.mS ≠ t.m1
  lo : B ≤ t.mF ∧ B ≤ t.m1
theorem lies_range {w : World} {g : Nat} {t : TypeId} {x y : Value} (h : Lies w g t #[x, y]) : w.rangeAt g 0 [x, y] := fun j v hj => by
  match j, hj with
  | 0, hj => injection hj with hj; subst hj; exact lies_cell h 0
  | 1, hj => injection hj with hj; subst hj; exact lies_cell h 1
  | j + 2, hj => simp at hj
theorem zero83 (w : World) : (zeroValue 83).run Try.prog w = .ok (.map none) w := by kernel_rfl
theorem zero85 (w : World) : (zeroValue 85).run Try.prog w = .ok (.map none) w := by kernel_rfl
theorem zero87 (w : World) : (zeroValue 87).run Try.prog w = .ok (.slice none 0 0) w := by kernel_rfl
set_option maxRecDepth 100000 in
set_option maxHeartbeats 1000000 in
theorem times_any (NS FS NT FT C : Option Addr) (ns fs nt ft cc : Nat) (sn tn : List Nd) (sf tf : List Fl) (ls : List Bt) (w : World) (hNS : NodesAt w NS sn) (hFS : FilesAt w FS sf) (hNT : NodesAt w NT tn) (hC : ListQ w C ls)
    (a1 : sn.length ≤ 1000) (a2 : sf.length ≤ 1000) (a3 : tn.length ≤ 1000) (a4 : tf.length ≤ 1000) (a5 : ls.length ≤ 80000) (c1 : ∀ x ∈ sn, x.path.length ≤ 100000) (c2 : ∀ x ∈ sn, -1000000 ≤ x.file ∧ x.file ≤ 1000000) (c3 : ∀ x ∈ sf, x.data.length ≤ 100000)
    (c4 : ∀ x ∈ tn, x.path.length ≤ 100000) (c5 : ∀ x ∈ tn, -1 ≤ x.file ∧ x.file < tf.length) (c6 : ∀ x ∈ ls, x.length ≤ 100000) :
    Calls Try.prog 32 #[.agg #[.slice NS sn.length ns, .slice FS sf.length fs], .agg #[.slice NT tn.length nt, .slice FT tf.length ft], .slice C ls.length cc] w fun e W => ∃ (t : Tid) (gs : Nat), e = .returned (.slice (some ⟨gs, 0, none⟩) 3 3) ∧
      Lies W gs 70 #[.func (.func 48) #[] #[.pointer (some ⟨t.b9, 0, none⟩), .pointer (some ⟨t.b8, 0, none⟩), .pointer (some ⟨t.b7, 0, none⟩), .pointer (some ⟨t.b12, 0, none⟩)], .func (.func 50) #[] #[.pointer (some ⟨t.b7, 0, none⟩), .pointer (some ⟨t.b12, 0, none⟩)], .func (.func 51) #[] #[.pointer (some ⟨t.b10, 0, none⟩), .pointer (some ⟨t.b11, 0, none⟩)]] ∧
      TmsAt W w.heap.size t tf.length sf.length 0 sn.length ls.length ⟨shelfP (txL (sf.map Fl.data)), fun _ => none⟩ (namedF sn) (namesM tn) (stockF ls) ∧ Below w.heap.size w W := by
  obtain ⟨xs, hxs⟩ : ∃ xs, xs = sn.length := ⟨_, rfl⟩
  obtain ⟨ys, hys⟩ : ∃ ys, ys = sf.length := ⟨_, rfl⟩
  obtain ⟨xt, hxt⟩ : ∃ xt, xt = tn.length := ⟨_, rfl⟩
  obtain ⟨yt, hyt⟩ : ∃ yt, yt = tf.length := ⟨_, rfl⟩
  obtain ⟨zl, hzl⟩ : ∃ zl, zl = ls.length := ⟨_, rfl⟩
  have C1 := Lib.hid (fun (W : World) (h : Below w.heap.size w W) => shelve_any NS FS sn.length ns fs sf W (filesAt_below hFS h) c3 a2)
  have C3 := Lib.hid (fun (W : World) (h : Below w.heap.size w W) => files_any NS ns (.slice FS sf.length fs) sn W (nodesAt_below hNS h) a1 c1 c2)
  have C5 := Lib.hid (fun (W : World) (h : Below w.heap.size w W) => names_any NT FT nt ft tn tf W (nodesAt_below hNT h) a3 a4 c4 c5)
  have C7 := Lib.hid (fun (W : World) (h : Below w.heap.size w W) => places_any C cc ls W (listQ_below hC h) c6 a5)
  rw [← hxs, ← hys] at C1 C3
  rw [← hxt, ← hyt] at C5
  rw [← hzl] at C7
  rw [← hxs, ← hys, ← hxt, ← hyt, ← hzl]
  clear hNS hFS hNT hC a1 a2 a3 a4 a5 c1 c2 c3 c4 c5 c6 hxs hys hxt hyt hzl
  have B0 : Below w.heap.size w ((w.alloc (.cells #[.slice NS xs ns, .slice FS ys fs] 25)).alloc (.cells #[.slice NT xt nt, .slice FT yt ft] 25)) := ((Below.refl _ _).alloc (Nat.le_refl _) _).alloc (by simp) _
  have L0 := lies_alloc (lies_new w 25 #[.slice NS xs ns, .slice FS ys fs]) (.cells #[.slice NT xt nt, .slice FT yt ft] 25)
  have L1 := lies_new (w.alloc (.cells #[.slice NS xs ns, .slice FS ys fs] 25)) 25 #[.slice NT xt nt, .slice FT yt ft]
  rw [World.size_alloc] at L1
  have Z0 : ((w.alloc (.cells #[.slice NS xs ns, .slice FS ys fs] 25)).alloc (.cells #[.slice NT xt nt, .slice FT yt ft] 25)).heap.size = w.heap.size + 2 := by simp
  have B0 := Lib.hid B0
  have L0 := Lib.hid L0
  have L1 := Lib.hid L1
  have Z0 := Lib.hid Z0
  go_enter Try.func32, Try.ntmps32
  go_upto_region 1 with (fail)
  generalize (w.alloc (.cells #[.slice NS xs ns, .slice FS ys fs] 25)).alloc (.cells #[.slice NT xt nt, .slice FT yt ft] 25) = X at *
  have KF : ∀ (lq : Array Bool) (pq kq : Nat) (uq : Value) (W W' : World), (pq ≠ 9) → W.grownBy W' none → ((fun (l_ : Array Bool) (j_ : Nat) (v_ : Value) (W : World) => match j_ with | 0 => v_ = .agg #[.slice NS xs ns, .slice FS ys fs] | 1 => (∃ mF, v_ = .map (some mF) ∧ (l_.getD 9 false = false → (ShelfAt W (mF + 1) mF ys (shelfP (txL (sf.map Fl.data))) ∧ X.heap.size ≤ mF))) | 2 => v_ = .agg #[.slice NS xs ns, .slice FS ys fs] | 3 => (∃ mN, v_ = .map (some mN) ∧ (l_.getD 9 false = false → (NumM W mN xs (namedF sn) ∧ X.heap.size ≤ mN))) | 4 => v_ = .agg #[.slice NT xt nt, .slice FT yt ft] | 5 => (∃ g, v_ = .slice (some ⟨g, 0, none⟩) yt yt ∧ (l_.getD 9 false = false → (NmsAt W g (g + 1) yt (namesM tn) ∧ X.heap.size ≤ g))) | 6 => (∃ b, v_ = .pointer (some ⟨b, 0, none⟩) ∧ (l_.getD 9 false = false → (Lies W b 83 #[.map none] ∧ X.heap.size ≤ b))) | 7 => (∃ b, v_ = .pointer (some ⟨b, 0, none⟩) ∧ (l_.getD 9 false = false → (Lies W b 85 #[.map none] ∧ X.heap.size ≤ b))) | 8 => (∃ b, v_ = .pointer (some ⟨b, 0, none⟩) ∧ (l_.getD 9 false = false → (Lies W b 87 #[.slice none 0 0] ∧ X.heap.size ≤ b))) | _ => True) : Array Bool → Nat → Value → World → Prop) lq kq uq W → ((fun (l_ : Array Bool) (j_ : Nat) (v_ : Value) (W : World) => match j_ with | 0 => v_ = .agg #[.slice NS xs ns, .slice FS ys fs] | 1 => (∃ mF, v_ = .map (some mF) ∧ (l_.getD 9 false = false → (ShelfAt W (mF + 1) mF ys (shelfP (txL (sf.map Fl.data))) ∧ X.heap.size ≤ mF))) | 2 => v_ = .agg #[.slice NS xs ns, .slice FS ys fs] | 3 => (∃ mN, v_ = .map (some mN) ∧ (l_.getD 9 false = false → (NumM W mN xs (namedF sn) ∧ X.heap.size ≤ mN))) | 4 => v_ = .agg #[.slice NT xt nt, .slice FT yt ft] | 5 => (∃ g, v_ = .slice (some ⟨g, 0, none⟩) yt yt ∧ (l_.getD 9 false = false → (NmsAt W g (g + 1) yt (namesM tn) ∧ X.heap.size ≤ g))) | 6 => (∃ b, v_ = .pointer (some ⟨b, 0, none⟩) ∧ (l_.getD 9 false = false → (Lies W b 83 #[.map none] ∧ X.heap.size ≤ b))) | 7 => (∃ b, v_ = .pointer (some ⟨b, 0, none⟩) ∧ (l_.getD 9 false = false → (Lies W b 85 #[.map none] ∧ X.heap.size ≤ b))) | 8 => (∃ b, v_ = .pointer (some ⟨b, 0, none⟩) ∧ (l_.getD 9 false = false → (Lies W b 87 #[.slice none 0 0] ∧ X.heap.size ≤ b))) | _ => True) : Array Bool → Nat → Value → World → Prop) (lq.setIfInBounds pq true) kq uq W' := fun lq pq kq uq W W' hp hg h => by
    have h9_ : (lq.setIfInBounds pq true).getD 9 false = lq.getD 9 false := by rw [getD_set_ne false (hp)]
    have kl : ∀ {g t cs}, Lies W g t cs → Lies W' g t cs := fun h => (hg.block _ (lies_lt h) (by simp)).trans h
    have ko : ∀ {B e z v k xs}, W.ownsRow B e z v k xs → W'.ownsRow B e z v k xs := fun {B e z v k xs} h => h.kept hg (by cases v.ownBlock <;> simp)
    match kq, h with
    | 0, h => exact h
    | 1, ⟨mF, e, h⟩ => exact ⟨mF, e, fun h6 => by have h := h (by rw [← h9_]; exact h6); exact ⟨shelf_grown0 h.1 hg, h.2⟩⟩
    | 2, h => exact h
    | 3, ⟨mN, e, h⟩ => exact ⟨mN, e, fun h6 => by have h := h (by rw [← h9_]; exact h6); exact ⟨numM_same h.1 (hg.block _ (numM_lt h.1) (by simp)), h.2⟩⟩
    | 4, h => exact h
    | 5, ⟨g, e, h⟩ => exact ⟨g, e, fun h6 => by have h := h (by rw [← h9_]; exact h6); exact ⟨nms_grown0 h.1 hg, h.2⟩⟩
    | 6, ⟨b, e, h⟩ => exact ⟨b, e, fun h6 => by have h := h (by rw [← h9_]; exact h6); exact ⟨kl h.1, h.2⟩⟩
    | 7, ⟨b, e, h⟩ => exact ⟨b, e, fun h6 => by have h := h (by rw [← h9_]; exact h6); exact ⟨kl h.1, h.2⟩⟩
    | 8, ⟨b, e, h⟩ => exact ⟨b, e, fun h6 => by have h := h (by rw [← h9_]; exact h6); exact ⟨kl h.1, h.2⟩⟩
    | _ + 9, _ => exact trivial
  have gr : ∀ W : World, W.grownBy W none := fun W => ⟨rfl, rfl, rfl, Nat.le_refl _, fun _ _ _ => rfl⟩
  have KP := fun (lq : Array Bool) (pq : Nat) (W : World) (hp : pq ≠ 9) => fun (kq : Nat) (uq : Value) (_ : kq ≠ pq) (_ : lq.getD kq false = true) (h : ((fun (l_ : Array Bool) (j_ : Nat) (v_ : Value) (W : World) => match j_ with | 0 => v_ = .agg #[.slice NS xs ns, .slice FS ys fs] | 1 => (∃ mF, v_ = .map (some mF) ∧ (l_.getD 9 false = false → (ShelfAt W (mF + 1) mF ys (shelfP (txL (sf.map Fl.data))) ∧ X.heap.size ≤ mF))) | 2 => v_ = .agg #[.slice NS xs ns, .slice FS ys fs] | 3 => (∃ mN, v_ = .map (some mN) ∧ (l_.getD 9 false = false → (NumM W mN xs (namedF sn) ∧ X.heap.size ≤ mN))) | 4 => v_ = .agg #[.slice NT xt nt, .slice FT yt ft] | 5 => (∃ g, v_ = .slice (some ⟨g, 0, none⟩) yt yt ∧ (l_.getD 9 false = false → (NmsAt W g (g + 1) yt (namesM tn) ∧ X.heap.size ≤ g))) | 6 => (∃ b, v_ = .pointer (some ⟨b, 0, none⟩) ∧ (l_.getD 9 false = false → (Lies W b 83 #[.map none] ∧ X.heap.size ≤ b))) | 7 => (∃ b, v_ = .pointer (some ⟨b, 0, none⟩) ∧ (l_.getD 9 false = false → (Lies W b 85 #[.map none] ∧ X.heap.size ≤ b))) | 8 => (∃ b, v_ = .pointer (some ⟨b, 0, none⟩) ∧ (l_.getD 9 false = false → (Lies W b 87 #[.slice none 0 0] ∧ X.heap.size ≤ b))) | _ => True) : Array Bool → Nat → Value → World → Prop) lq kq uq W) => KF lq pq kq uq W W hp (gr W) h
  have IV : ∀ (lq : Array Bool) (pq : Nat) (W W' : World) {vq : Nat → Value} {uq : Value}, (pq ≠ 1 ∧ pq ≠ 3 ∧ pq ≠ 9 ∧ pq ≠ 10 ∧ pq ≠ 11) → W.grownBy W' none → lq.getD 9 false = false ∧ lq.getD 10 false = false ∧ lq.getD 11 false = false → ((fun (l_ : Array Bool) (V_ : Nat → Value) (WW : World) => (Below X.heap.size X WW ∧ (l_.getD 1 false = true → l_.getD 3 false = true → V_ 1 ≠ V_ 3)) ∧ (l_.getD 9 false = true → l_.getD 10 false = false → ∃ mF mN g b7 b8 b9, (V_ 1 = .map (some mF) ∧ V_ 3 = .map (some mN) ∧ V_ 5 = .slice (some ⟨g, 0, none⟩) yt yt ∧ V_ 6 = .pointer (some ⟨b7, 0, none⟩) ∧ V_ 7 = .pointer (some ⟨b8, 0, none⟩) ∧ V_ 8 = .pointer (some ⟨b9, 0, none⟩)) ∧ TmA X WW mF mN g b7 b8 b9 ys xs yt (shelfP (txL (sf.map Fl.data))) (namedF sn) (namesM tn) (.map (some mF)) (.map none) (.slice none 0 0)) ∧ (l_.getD 10 false = true → l_.getD 11 false = false → ∃ mF mN g b7 b8 b9, (V_ 1 = .map (some mF) ∧ V_ 3 = .map (some mN) ∧ V_ 5 = .slice (some ⟨g, 0, none⟩) yt yt ∧ V_ 6 = .pointer (some ⟨b7, 0, none⟩) ∧ V_ 7 = .pointer (some ⟨b8, 0, none⟩) ∧ V_ 8 = .pointer (some ⟨b9, 0, none⟩)) ∧ TmA X WW mF mN g b7 b8 b9 ys xs yt (shelfP (txL (sf.map Fl.data))) (namedF sn) (namesM tn) (.map (some mF)) (.map (some mN)) (.slice none 0 0)) ∧ (l_.getD 11 false = true → ∃ mF mN g b7 b8 b9, (V_ 1 = .map (some mF) ∧ V_ 3 = .map (some mN) ∧ V_ 5 = .slice (some ⟨g, 0, none⟩) yt yt ∧ V_ 6 = .pointer (some ⟨b7, 0, none⟩) ∧ V_ 7 = .pointer (some ⟨b8, 0, none⟩) ∧ V_ 8 = .pointer (some ⟨b9, 0, none⟩)) ∧ TmA X WW mF mN g b7 b8 b9 ys xs yt (shelfP (txL (sf.map Fl.data))) (namedF sn) (namesM tn) (.map (some mF)) (.map (some mN)) (.slice (some ⟨g, 0, none⟩) yt yt))) : Array Bool → (Nat → Value) → World → Prop) lq vq W → ((fun (l_ : Array Bool) (V_ : Nat → Value) (WW : World) => (Below X.heap.size X WW ∧ (l_.getD 1 false = true → l_.getD 3 false = true → V_ 1 ≠ V_ 3)) ∧ (l_.getD 9 false = true → l_.getD 10 false = false → ∃ mF mN g b7 b8 b9, (V_ 1 = .map (some mF) ∧ V_ 3 = .map (some mN) ∧ V_ 5 = .slice (some ⟨g, 0, none⟩) yt yt ∧ V_ 6 = .pointer (some ⟨b7, 0, none⟩) ∧ V_ 7 = .pointer (some ⟨b8, 0, none⟩) ∧ V_ 8 = .pointer (some ⟨b9, 0, none⟩)) ∧ TmA X WW mF mN g b7 b8 b9 ys xs yt (shelfP (txL (sf.map Fl.data))) (namedF sn) (namesM tn) (.map (some mF)) (.map none) (.slice none 0 0)) ∧ (l_.getD 10 false = true → l_.getD 11 false = false → ∃ mF mN g b7 b8 b9, (V_ 1 = .map (some mF) ∧ V_ 3 = .map (some mN) ∧ V_ 5 = .slice (some ⟨g, 0, none⟩) yt yt ∧ V_ 6 = .pointer (some ⟨b7, 0, none⟩) ∧ V_ 7 = .pointer (some ⟨b8, 0, none⟩) ∧ V_ 8 = .pointer (some ⟨b9, 0, none⟩)) ∧ TmA X WW mF mN g b7 b8 b9 ys xs yt (shelfP (txL (sf.map Fl.data))) (namedF sn) (namesM tn) (.map (some mF)) (.map (some mN)) (.slice none 0 0)) ∧ (l_.getD 11 false = true → ∃ mF mN g b7 b8 b9, (V_ 1 = .map (some mF) ∧ V_ 3 = .map (some mN) ∧ V_ 5 = .slice (some ⟨g, 0, none⟩) yt yt ∧ V_ 6 = .pointer (some ⟨b7, 0, none⟩) ∧ V_ 7 = .pointer (some ⟨b8, 0, none⟩) ∧ V_ 8 = .pointer (some ⟨b9, 0, none⟩)) ∧ TmA X WW mF mN g b7 b8 b9 ys xs yt (shelfP (txL (sf.map Fl.data))) (namedF sn) (namesM tn) (.map (some mF)) (.map (some mN)) (.slice (some ⟨g, 0, none⟩) yt yt))) : Array Bool → (Nat → Value) → World → Prop) (lq.setIfInBounds pq true) (upd vq pq uq) W' := fun lq pq W W' vq uq hp hg hn h => by
    have h1 : (lq.setIfInBounds pq true).getD 1 false = lq.getD 1 false := by rw [getD_set_ne false hp.1]
    have h3 : (lq.setIfInBounds pq true).getD 3 false = lq.getD 3 false := by rw [getD_set_ne false hp.2.1]
    have h9 : (lq.setIfInBounds pq true).getD 9 false = false := by rw [getD_set_ne false hp.2.2.1]; exact hn.1
    have h10 : (lq.setIfInBounds pq true).getD 10 false = false := by rw [getD_set_ne false hp.2.2.2.1]; exact hn.2.1
    have h11 : (lq.setIfInBounds pq true).getD 11 false = false := by rw [getD_set_ne false hp.2.2.2.2]; exact hn.2.2
    refine ⟨⟨h.1.1.grown hg h.1.1.size (fun k e => by cases e), fun e1 e3 => ?_⟩, fun e => (by rw [h9] at e; cases e), fun e => (by rw [h10] at e; cases e), fun e => (by rw [h11] at e; cases e)⟩
    rw [upd_other (Ne.symm hp.1), upd_other (Ne.symm hp.2.1)]
    exact h.1.2 (by rw [← h1]; exact e1) (by rw [← h3]; exact e3)
  refine wp_region_any (by kernel_rfl) ?_
  refine every_factV (own := ownAll _) id ((fun (l_ : Array Bool) (j_ : Nat) (v_ : Value) (W : World) => match j_ with | 0 => v_ = .agg #[.slice NS xs ns, .slice FS ys fs] | 1 => (∃ mF, v_ = .map (some mF) ∧ (l_.getD 9 false = false → (ShelfAt W (mF + 1) mF ys (shelfP (txL (sf.map Fl.data))) ∧ X.heap.size ≤ mF))) | 2 => v_ = .agg #[.slice NS xs ns, .slice FS ys fs] | 3 => (∃ mN, v_ = .map (some mN) ∧ (l_.getD 9 false = false → (NumM W mN xs (namedF sn) ∧ X.heap.size ≤ mN))) | 4 => v_ = .agg #[.slice NT xt nt, .slice FT yt ft] | 5 => (∃ g, v_ = .slice (some ⟨g, 0, none⟩) yt yt ∧ (l_.getD 9 false = false → (NmsAt W g (g + 1) yt (namesM tn) ∧ X.heap.size ≤ g))) | 6 => (∃ b, v_ = .pointer (some ⟨b, 0, none⟩) ∧ (l_.getD 9 false = false → (Lies W b 83 #[.map none] ∧ X.heap.size ≤ b))) | 7 => (∃ b, v_ = .pointer (some ⟨b, 0, none⟩) ∧ (l_.getD 9 false = false → (Lies W b 85 #[.map none] ∧ X.heap.size ≤ b))) | 8 => (∃ b, v_ = .pointer (some ⟨b, 0, none⟩) ∧ (l_.getD 9 false = false → (Lies W b 87 #[.slice none 0 0] ∧ X.heap.size ≤ b))) | _ => True) : Array Bool → Nat → Value → World → Prop) ((fun (l_ : Array Bool) (V_ : Nat → Value) (WW : World) => (Below X.heap.size X WW ∧ (l_.getD 1 false = true → l_.getD 3 false = true → V_ 1 ≠ V_ 3)) ∧ (l_.getD 9 false = true → l_.getD 10 false = false → ∃ mF mN g b7 b8 b9, (V_ 1 = .map (some mF) ∧ V_ 3 = .map (some mN) ∧ V_ 5 = .slice (some ⟨g, 0, none⟩) yt yt ∧ V_ 6 = .pointer (some ⟨b7, 0, none⟩) ∧ V_ 7 = .pointer (some ⟨b8, 0, none⟩) ∧ V_ 8 = .pointer (some ⟨b9, 0, none⟩)) ∧ TmA X WW mF mN g b7 b8 b9 ys xs yt (shelfP (txL (sf.map Fl.data))) (namedF sn) (namesM tn) (.map (some mF)) (.map none) (.slice none 0 0)) ∧ (l_.getD 10 false = true → l_.getD 11 false = false → ∃ mF mN g b7 b8 b9, (V_ 1 = .map (some mF) ∧ V_ 3 = .map (some mN) ∧ V_ 5 = .slice (some ⟨g, 0, none⟩) yt yt ∧ V_ 6 = .pointer (some ⟨b7, 0, none⟩) ∧ V_ 7 = .pointer (some ⟨b8, 0, none⟩) ∧ V_ 8 = .pointer (some ⟨b9, 0, none⟩)) ∧ TmA X WW mF mN g b7 b8 b9 ys xs yt (shelfP (txL (sf.map Fl.data))) (namedF sn) (namesM tn) (.map (some mF)) (.map (some mN)) (.slice none 0 0)) ∧ (l_.getD 11 false = true → ∃ mF mN g b7 b8 b9, (V_ 1 = .map (some mF) ∧ V_ 3 = .map (some mN) ∧ V_ 5 = .slice (some ⟨g, 0, none⟩) yt yt ∧ V_ 6 = .pointer (some ⟨b7, 0, none⟩) ∧ V_ 7 = .pointer (some ⟨b8, 0, none⟩) ∧ V_ 8 = .pointer (some ⟨b9, 0, none⟩)) ∧ TmA X WW mF mN g b7 b8 b9 ys xs yt (shelfP (txL (sf.map Fl.data))) (namedF sn) (namesM tn) (.map (some mF)) (.map (some mN)) (.slice (some ⟨g, 0, none⟩) yt yt))) : Array Bool → (Nat → Value) → World → Prop) (acAll_of (by kernel_rfl)) (onAll_of (by kernel_rfl)) (dstAll_of (by kernel_rfl)) ?hop ?hend _ _ _ _ (fun _ => undef) rfl (shut_none _) (of_decide_eq_true (by kernel_rfl)) (tabd_start (fun i => rep_false _ i)) (fun k hk => by rw [rep_false] at hk; cases hk) ⟨⟨(Below.refl _ _).drew, fun e => (by rw [rep_false] at e; cases e)⟩, fun e => (by rw [rep_false] at e; cases e), fun e => (by rw [rep_false] at e; cases e), fun e => (by rw [rep_false] at e; cases e)⟩
  case hop =>
    intro j oi a w0 listed vals hoi hs hcl hun hdeps ht hF hI
    have hj : j < 12 := (Array.getElem?_eq_some_iff.1 hoi).1
    have cj : j = 0 ∨ j = 1 ∨ j = 2 ∨ j = 3 ∨ j = 4 ∨ j = 5 ∨ j = 6 ∨ j = 7 ∨ j = 8 ∨ j = 9 ∨ j = 10 ∨ j = 11 := by omega
    obtain rfl | rfl | rfl | rfl | rfl | rfl | rfl | rfl | rfl | rfl | rfl | rfl := cj
    all_goals obtain rfl := Option.some.inj hoi
    · have e3 : a.eval (.tmp 3) = .pointer (some ⟨w.heap.size, 0, none⟩) := (tabd_old ht (t := 3) (of_decide_eq_true (by kernel_rfl)) (by kernel_rfl)).trans rfl
      refine .inl ⟨rfl, fun K hk => ?_⟩
      have hL := lies_below L0.out hI.1.1 (by have := Z0.out; omega)
      have hc := lies_range hL
      exact wp_val (v := .agg #[.slice NS xs ns, .slice FS ys fs]) (load_op 25 _ rfl w.heap.size 0 e3 _ _ hc Try.underlying25 rfl (by kernel_rfl)) (hk _ _ rfl (KP listed 0 w0 (by decide)) (IV listed 0 w0 w0 (by decide) (gr w0) ⟨(by cases hh : listed.getD 9 false with | false => rfl | true => exact absurd (hcl 9 _ rfl hh ⟨0, .phase⟩ (by simp) rfl) (by simp [hun])), (by cases hh : listed.getD 10 false with | false => rfl | true => exact absurd (hcl 10 _ rfl hh ⟨0, .phase⟩ (by simp) rfl) (by simp [hun])), (by cases hh : listed.getD 11 false with | false => rfl | true => exact absurd (hcl 11 _ rfl hh ⟨0, .phase⟩ (by simp) rfl) (by simp [hun]))⟩ hI))
    · have d0 := hdeps ⟨0, .data⟩ (by simp) rfl
      have e13 : a.eval (.tmp 13) = .agg #[.slice NS xs ns, .slice FS ys fs] := (tabd_at ht (t := 13) (of_decide_eq_true (by kernel_rfl)) (by kernel_rfl) d0).trans (hF 0 d0)
      have ef42 : a.eval (.func 42) = .func (.func 42) #[] #[] := rfl
      refine .inl ⟨rfl, fun K hk => ?_⟩
      have hB := hI.1.1
      have hR := C1.out w0 (B0.out.trans (hI.1.1.mono (by have := Z0.out; omega)))
      refine wp_enter (by clear hk hI hoi hdeps ht hF hcl hs KF KP IV hR; generalize a.eval = ρ at *; unfold execOp; simp only [e13, ef42]; go_simp) hR ?_
      rintro e w2 ⟨rfl, h1, h2⟩
      have n3 : listed.getD 3 false = false := (by cases hh : listed.getD 3 false with | false => rfl | true => exact absurd (hcl 3 _ rfl hh ⟨1, .chain⟩ (by simp) rfl) (by simp [hun]))
      have nn : listed.getD 9 false = false ∧ listed.getD 10 false = false ∧ listed.getD 11 false = false := ⟨(by cases hh : listed.getD 9 false with | false => rfl | true => exact absurd (hcl 9 _ rfl hh ⟨1, .data⟩ (by simp) rfl) (by simp [hun])), (by cases hh : listed.getD 10 false with | false => rfl | true => exact absurd (hcl 10 _ rfl hh ⟨1, .phase⟩ (by simp) rfl) (by simp [hun])), (by cases hh : listed.getD 11 false with | false => rfl | true => exact absurd (hcl 11 _ rfl hh ⟨1, .phase⟩ (by simp) rfl) (by simp [hun]))⟩
      exact ⟨_, rfl, hk _ w2 ⟨_, rfl, fun _ => ⟨h1, by have := hB.size; omega⟩⟩ (fun k u _ _ h => KF listed 1 k u w0 w2 (by decide) (grown_of_below h2) h) ⟨⟨hB.trans (h2.mono hB.size), fun _ e3 => (by rw [getD_set_ne false (by decide), n3] at e3; cases e3)⟩, fun e => (by rw [getD_set_ne false (by decide), nn.1] at e; cases e), fun e => (by rw [getD_set_ne false (by decide), nn.2.1] at e; cases e), fun e => (by rw [getD_set_ne false (by decide), nn.2.2] at e; cases e)⟩⟩
    · have e3 : a.eval (.tmp 3) = .pointer (some ⟨w.heap.size, 0, none⟩) := (tabd_old ht (t := 3) (of_decide_eq_true (by kernel_rfl)) (by kernel_rfl)).trans rfl
      refine .inl ⟨rfl, fun K hk => ?_⟩
      have hL := lies_below L0.out hI.1.1 (by have := Z0.out; omega)
      have hc := lies_range hL
      exact wp_val (v := .agg #[.slice NS xs ns, .slice FS ys fs]) (load_op 25 _ rfl w.heap.size 0 e3 _ _ hc Try.underlying25 rfl (by kernel_rfl)) (hk _ _ rfl (KP listed 2 w0 (by decide)) (IV listed 2 w0 w0 (by decide) (gr w0) ⟨(by cases hh : listed.getD 9 false with | false => rfl | true => exact absurd (hcl 3 _ rfl (hcl 5 _ rfl (hcl 9 _ rfl hh ⟨5, .chain⟩ (by simp) rfl) ⟨3, .chain⟩ (by simp) rfl) ⟨2, .data⟩ (by simp) rfl) (by simp [hun])), (by cases hh : listed.getD 10 false with | false => rfl | true => exact absurd (hcl 10 _ rfl hh ⟨2, .phase⟩ (by simp) rfl) (by simp [hun])), (by cases hh : listed.getD 11 false with | false => rfl | true => exact absurd (hcl 11 _ rfl hh ⟨2, .phase⟩ (by simp) rfl) (by simp [hun]))⟩ hI))
    · have d2 := hdeps ⟨2, .data⟩ (by simp) rfl
      have d1 := hdeps ⟨1, .chain⟩ (by simp) rfl
      have e15 : a.eval (.tmp 15) = .agg #[.slice NS xs ns, .slice FS ys fs] := (tabd_at ht (t := 15) (of_decide_eq_true (by kernel_rfl)) (by kernel_rfl) d2).trans (hF 2 d2)
      have ef43 : a.eval (.func 43) = .func (.func 43) #[] #[] := rfl
      refine .inl ⟨rfl, fun K hk => ?_⟩
      have hB := hI.1.1
      have hR := C3.out w0 (B0.out.trans (hI.1.1.mono (by have := Z0.out; omega)))
      refine wp_enter (by clear hk hI hoi hdeps ht hF hcl hs KF KP IV hR; generalize a.eval = ρ at *; unfold execOp; simp only [e15, ef43]; go_simp) hR ?_
      rintro e w2 ⟨⟨mN, rfl, h1, hle⟩, h2⟩
      have nn : listed.getD 9 false = false ∧ listed.getD 10 false = false ∧ listed.getD 11 false = false := ⟨(by cases hh : listed.getD 9 false with | false => rfl | true => exact absurd (hcl 5 _ rfl (hcl 9 _ rfl hh ⟨5, .chain⟩ (by simp) rfl) ⟨3, .chain⟩ (by simp) rfl) (by simp [hun])), (by cases hh : listed.getD 10 false with | false => rfl | true => exact absurd (hcl 10 _ rfl hh ⟨3, .data⟩ (by simp) rfl) (by simp [hun])), (by cases hh : listed.getD 11 false with | false => rfl | true => exact absurd (hcl 11 _ rfl hh ⟨3, .phase⟩ (by simp) rfl) (by simp [hun]))⟩
      have d1 := hdeps ⟨1, .chain⟩ (by simp) rfl
      obtain ⟨mF, e1, h6⟩ := hF 1 d1
      have hlt := (shelf_lt (h6 nn.1).1).1
      exact ⟨_, rfl, hk _ w2 ⟨_, rfl, fun _ => ⟨h1, by have := hB.size; omega⟩⟩ (fun k u _ _ h => KF listed 3 k u w0 w2 (by decide) (grown_of_below h2) h) ⟨⟨hB.trans (h2.mono hB.size), fun _ _ => (by
        rw [upd_same, upd_other (by decide), e1]
        intro e
        injection e with e
        injection e with e
        omega)⟩, fun e => (by rw [getD_set_ne false (by decide), nn.1] at e; cases e), fun e => (by rw [getD_set_ne false (by decide), nn.2.1] at e; cases e), fun e => (by rw [getD_set_ne false (by decide), nn.2.2] at e; cases e)⟩⟩
    · have e4 : a.eval (.tmp 4) = .pointer (some ⟨w.heap.size + 1, 0, none⟩) := (tabd_old ht (t := 4) (of_decide_eq_true (by kernel_rfl)) (by kernel_rfl)).trans rfl
      refine .inl ⟨rfl, fun K hk => ?_⟩
      have hL := lies_below L1.out hI.1.1 (by have := Z0.out; omega)
      have hc := lies_range hL
      exact wp_val (v := .agg #[.slice NT xt nt, .slice FT yt ft]) (load_op 25 _ rfl (w.heap.size + 1) 0 e4 _ _ hc Try.underlying25 rfl (by kernel_rfl)) (hk _ _ rfl (KP listed 4 w0 (by decide)) (IV listed 4 w0 w0 (by decide) (gr w0) ⟨(by cases hh : listed.getD 9 false with | false => rfl | true => exact absurd (hcl 5 _ rfl (hcl 9 _ rfl hh ⟨5, .chain⟩ (by simp) rfl) ⟨4, .data⟩ (by simp) rfl) (by simp [hun])), (by cases hh : listed.getD 10 false with | false => rfl | true => exact absurd (hcl 5 _ rfl (hcl 9 _ rfl (hcl 10 _ rfl hh ⟨9, .chain⟩ (by simp) rfl) ⟨5, .chain⟩ (by simp) rfl) ⟨4, .data⟩ (by simp) rfl) (by simp [hun])), (by cases hh : listed.getD 11 false with | false => rfl | true => exact absurd (hcl 11 _ rfl hh ⟨4, .phase⟩ (by simp) rfl) (by simp [hun]))⟩ hI))
    · have d4 := hdeps ⟨4, .data⟩ (by simp) rfl
      have d3 := hdeps ⟨3, .chain⟩ (by simp) rfl
      have e17 : a.eval (.tmp 17) = .agg #[.slice NT xt nt, .slice FT yt ft] := (tabd_at ht (t := 17) (of_decide_eq_true (by kernel_rfl)) (by kernel_rfl) d4).trans (hF 4 d4)
      have ef44 : a.eval (.func 44) = .func (.func 44) #[] #[] := rfl
      refine .inl ⟨rfl, fun K hk => ?_⟩
      have hB := hI.1.1
      have hR := C5.out w0 (B0.out.trans (hI.1.1.mono (by have := Z0.out; omega)))
      refine wp_enter (by clear hk hI hoi hdeps ht hF hcl hs KF KP IV hR; generalize a.eval = ρ at *; unfold execOp; simp only [e17, ef44]; go_simp) hR ?_
      rintro e w2 ⟨⟨rfl, h1⟩, h2⟩
      exact ⟨_, rfl, hk _ w2 ⟨_, rfl, fun _ => ⟨h1, by have := hB.size; omega⟩⟩ (fun k u _ _ h => KF listed 5 k u w0 w2 (by decide) (grown_of_below h2) h) (IV listed 5 w0 w2 (by decide) (grown_of_below h2) ⟨(by cases hh : listed.getD 9 false with | false => rfl | true => exact absurd (hcl 9 _ rfl hh ⟨5, .chain⟩ (by simp) rfl) (by simp [hun])), (by cases hh : listed.getD 10 false with | false => rfl | true => exact absurd (hcl 9 _ rfl (hcl 10 _ rfl hh ⟨9, .chain⟩ (by simp) rfl) ⟨5, .chain⟩ (by simp) rfl) (by simp [hun])), (by cases hh : listed.getD 11 false with | false => rfl | true => exact absurd (hcl 11 _ rfl hh ⟨5, .data⟩ (by simp) rfl) (by simp [hun]))⟩ hI)⟩
    · refine .inl ⟨rfl, fun K hk => ?_⟩
      have hz := zero83
      have hB := hI.1.1
      exact wp_valT (v := .pointer (some ⟨w0.heap.size, 0, none⟩)) (w' := w0.alloc (.cells #[.map none] 83)) (by clear hk hI hoi hdeps ht hF hcl hs KF KP IV; generalize a.eval = ρ at *; unfold execOp; go_simp) (hk _ _ ⟨_, rfl, fun _ => ⟨lies_new w0 83 _, hB.size⟩⟩ (fun k u _ _ h => KF listed 6 k u w0 _ (by decide) (World.grownBy_alloc w0 _ none) h) (IV listed 6 w0 _ (by decide) (World.grownBy_alloc w0 _ none) ⟨(by cases hh : listed.getD 9 false with | false => rfl | true => exact absurd (hcl 9 _ rfl hh ⟨6, .data⟩ (by simp) rfl) (by simp [hun])), (by cases hh : listed.getD 10 false with | false => rfl | true => exact absurd (hcl 10 _ rfl hh ⟨6, .phase⟩ (by simp) rfl) (by simp [hun])), (by cases hh : listed.getD 11 false with | false => rfl | true => exact absurd (hcl 11 _ rfl hh ⟨6, .phase⟩ (by simp) rfl) (by simp [hun]))⟩ hI))
    · refine .inl ⟨rfl, fun K hk => ?_⟩
      have hz := zero85
      have hB := hI.1.1
      exact wp_valT (v := .pointer (some ⟨w0.heap.size, 0, none⟩)) (w' := w0.alloc (.cells #[.map none] 85)) (by clear hk hI hoi hdeps ht hF hcl hs KF KP IV; generalize a.eval = ρ at *; unfold execOp; go_simp) (hk _ _ ⟨_, rfl, fun _ => ⟨lies_new w0 85 _, hB.size⟩⟩ (fun k u _ _ h => KF listed 7 k u w0 _ (by decide) (World.grownBy_alloc w0 _ none) h) (IV listed 7 w0 _ (by decide) (World.grownBy_alloc w0 _ none) ⟨(by cases hh : listed.getD 9 false with | false => rfl | true => exact absurd (hcl 9 _ rfl hh ⟨7, .phase⟩ (by simp) rfl) (by simp [hun])), (by cases hh : listed.getD 10 false with | false => rfl | true => exact absurd (hcl 10 _ rfl hh ⟨7, .data⟩ (by simp) rfl) (by simp [hun])), (by cases hh : listed.getD 11 false with | false => rfl | true => exact absurd (hcl 11 _ rfl hh ⟨7, .phase⟩ (by simp) rfl) (by simp [hun]))⟩ hI))
    · refine .inl ⟨rfl, fun K hk => ?_⟩
      have hz := zero87
      have hB := hI.1.1
      exact wp_valT (v := .pointer (some ⟨w0.heap.size, 0, none⟩)) (w' := w0.alloc (.cells #[.slice none 0 0] 87)) (by clear hk hI hoi hdeps ht hF hcl hs KF KP IV; generalize a.eval = ρ at *; unfold execOp; go_simp) (hk _ _ ⟨_, rfl, fun _ => ⟨lies_new w0 87 _, hB.size⟩⟩ (fun k u _ _ h => KF listed 8 k u w0 _ (by decide) (World.grownBy_alloc w0 _ none) h) (IV listed 8 w0 _ (by decide) (World.grownBy_alloc w0 _ none) ⟨(by cases hh : listed.getD 9 false with | false => rfl | true => exact absurd (hcl 9 _ rfl hh ⟨8, .phase⟩ (by simp) rfl) (by simp [hun])), (by cases hh : listed.getD 10 false with | false => rfl | true => exact absurd (hcl 10 _ rfl hh ⟨8, .phase⟩ (by simp) rfl) (by simp [hun])), (by cases hh : listed.getD 11 false with | false => rfl | true => exact absurd (hcl 11 _ rfl hh ⟨8, .data⟩ (by simp) rfl) (by simp [hun]))⟩ hI))
    · have d6 := hdeps ⟨6, .data⟩ (by simp) rfl
      have d1 := hdeps ⟨1, .data⟩ (by simp) rfl
      have d5 := hdeps ⟨5, .chain⟩ (by simp) rfl
      have f6 := hF 6 d6
      have e7 : a.eval (.tmp 7) = vals 6 := tabd_at ht (t := 7) (of_decide_eq_true (by kernel_rfl)) (by kernel_rfl) d6
      have f1 := hF 1 d1
      have e14 : a.eval (.tmp 14) = vals 1 := tabd_at ht (t := 14) (of_decide_eq_true (by kernel_rfl)) (by kernel_rfl) d1
      refine .inl ⟨rfl, fun K hk => ?_⟩
      have PR := fun W' => show ∀ (kq : Nat) (uq : Value), kq ≠ 9 → listed.getD kq false = true → ((fun (l_ : Array Bool) (j_ : Nat) (v_ : Value) (W : World) => match j_ with | 0 => v_ = .agg #[.slice NS xs ns, .slice FS ys fs] | 1 => (∃ mF, v_ = .map (some mF) ∧ (l_.getD 9 false = false → (ShelfAt W (mF + 1) mF ys (shelfP (txL (sf.map Fl.data))) ∧ X.heap.size ≤ mF))) | 2 => v_ = .agg #[.slice NS xs ns, .slice FS ys fs] | 3 => (∃ mN, v_ = .map (some mN) ∧ (l_.getD 9 false = false → (NumM W mN xs (namedF sn) ∧ X.heap.size ≤ mN))) | 4 => v_ = .agg #[.slice NT xt nt, .slice FT yt ft] | 5 => (∃ g, v_ = .slice (some ⟨g, 0, none⟩) yt yt ∧ (l_.getD 9 false = false → (NmsAt W g (g + 1) yt (namesM tn) ∧ X.heap.size ≤ g))) | 6 => (∃ b, v_ = .pointer (some ⟨b, 0, none⟩) ∧ (l_.getD 9 false = false → (Lies W b 83 #[.map none] ∧ X.heap.size ≤ b))) | 7 => (∃ b, v_ = .pointer (some ⟨b, 0, none⟩) ∧ (l_.getD 9 false = false → (Lies W b 85 #[.map none] ∧ X.heap.size ≤ b))) | 8 => (∃ b, v_ = .pointer (some ⟨b, 0, none⟩) ∧ (l_.getD 9 false = false → (Lies W b 87 #[.slice none 0 0] ∧ X.heap.size ≤ b))) | _ => True) : Array Bool → Nat → Value → World → Prop) listed kq uq w0 → ((fun (l_ : Array Bool) (j_ : Nat) (v_ : Value) (W : World) => match j_ with | 0 => v_ = .agg #[.slice NS xs ns, .slice FS ys fs] | 1 => (∃ mF, v_ = .map (some mF) ∧ (l_.getD 9 false = false → (ShelfAt W (mF + 1) mF ys (shelfP (txL (sf.map Fl.data))) ∧ X.heap.size ≤ mF))) | 2 => v_ = .agg #[.slice NS xs ns, .slice FS ys fs] | 3 => (∃ mN, v_ = .map (some mN) ∧ (l_.getD 9 false = false → (NumM W mN xs (namedF sn) ∧ X.heap.size ≤ mN))) | 4 => v_ = .agg #[.slice NT xt nt, .slice FT yt ft] | 5 => (∃ g, v_ = .slice (some ⟨g, 0, none⟩) yt yt ∧ (l_.getD 9 false = false → (NmsAt W g (g + 1) yt (namesM tn) ∧ X.heap.size ≤ g))) | 6 => (∃ b, v_ = .pointer (some ⟨b, 0, none⟩) ∧ (l_.getD 9 false = false → (Lies W b 83 #[.map none] ∧ X.heap.size ≤ b))) | 7 => (∃ b, v_ = .pointer (some ⟨b, 0, none⟩) ∧ (l_.getD 9 false = false → (Lies W b 85 #[.map none] ∧ X.heap.size ≤ b))) | 8 => (∃ b, v_ = .pointer (some ⟨b, 0, none⟩) ∧ (l_.getD 9 false = false → (Lies W b 87 #[.slice none 0 0] ∧ X.heap.size ≤ b))) | _ => True) : Array Bool → Nat → Value → World → Prop) (listed.setIfInBounds 9 true) kq uq W' from
        (fun kq uq hkp hkl h => by
          have s_ : (listed.setIfInBounds 9 true).getD 9 false = true := getD_here (by rw [hs]; decide)
          match kq, hkp, hkl, h with
          | 0, _, _, h => exact h
          | 1, _, _, ⟨mF, e, _⟩ => exact ⟨mF, e, fun h6 => by rw [s_] at h6; cases h6⟩
          | 2, _, _, h => exact h
          | 3, _, _, ⟨mN, e, _⟩ => exact ⟨mN, e, fun h6 => by rw [s_] at h6; cases h6⟩
          | 4, _, _, h => exact h
          | 5, _, _, ⟨g, e, _⟩ => exact ⟨g, e, fun h6 => by rw [s_] at h6; cases h6⟩
          | 6, _, _, ⟨b, e, _⟩ => exact ⟨b, e, fun h6 => by rw [s_] at h6; cases h6⟩
          | 7, _, _, ⟨b, e, _⟩ => exact ⟨b, e, fun h6 => by rw [s_] at h6; cases h6⟩
          | 8, _, _, ⟨b, e, _⟩ => exact ⟨b, e, fun h6 => by rw [s_] at h6; cases h6⟩
          | _ + 9, _, _, _ => exact trivial)
      have l1 := (hdeps ⟨1, .data⟩ (by simp) rfl)
      have l3 := (hcl 5 _ rfl (hdeps ⟨5, .chain⟩ (by simp) rfl) ⟨3, .chain⟩ (by simp) rfl)
      have l5 := (hdeps ⟨5, .chain⟩ (by simp) rfl)
      have l6 := (hdeps ⟨6, .data⟩ (by simp) rfl)
      have l7 := (hdeps ⟨7, .phase⟩ (by simp) rfl)
      have l8 := (hdeps ⟨8, .phase⟩ (by simp) rfl)
      have n10 : listed.getD 10 false = false := (by cases hh : listed.getD 10 false with | false => rfl | true => exact absurd (hcl 10 _ rfl hh ⟨9, .chain⟩ (by simp) rfl) (by simp [hun]))
      have n11 : listed.getD 11 false = false := (by cases hh : listed.getD 11 false with | false => rfl | true => exact absurd (hcl 11 _ rfl hh ⟨9, .phase⟩ (by simp) rfl) (by simp [hun]))
      obtain ⟨mF, v1, h1⟩ := hF 1 l1
      obtain ⟨mN, v3, h3⟩ := hF 3 l3
      obtain ⟨g, v5, h5⟩ := hF 5 l5
      obtain ⟨b7, v6, h6⟩ := hF 6 l6
      obtain ⟨b8, v7, h7⟩ := hF 7 l7
      obtain ⟨b9, v8, h8⟩ := hF 8 l8
      have T0 : TmA X w0 mF mN g b7 b8 b9 ys xs yt (shelfP (txL (sf.map Fl.data))) (namedF sn) (namesM tn) (.map none) (.map none) (.slice none 0 0) := ⟨hI.1.1, (h1 hun).1, (h3 hun).1, (h5 hun).1, (h6 hun).1, (h7 hun).1, (h8 hun).1, fun e => hI.1.2 l1 l3 (by rw [v1, v3, e]), (h1 hun).2, (h3 hun).2, (h5 hun).2, (h6 hun).2, (h7 hun).2, (h8 hun).2⟩
      have T1 := (tmA_set T0 0 (.map (some mF))).1 rfl
      have x7 := lies_cell T0.h7 0
      have z7 := lies_free T0.h7 0
      simp only [List.getElem?_toArray, List.getElem?_cons_zero] at x7
      rw [v6] at e7
      rw [v1] at e14
      refine wp_skipT (w' := w0.setCell ⟨b7, 0, none⟩ (.map (some mF))) (by clear hk hI hoi hdeps ht hF hcl hs h1 h3 h5 h6 h7 h8 T0 T1 KF KP IV PR; generalize a.eval = ρ at *; unfold execOp; simp only [e7, e14]; go_simp) (hk _ _ trivial (PR _) ⟨⟨T1.low, fun _ _ => (by rw [upd_other (by decide), upd_other (by decide)]; exact hI.1.2 l1 l3)⟩, fun _ _ => ⟨mF, mN, g, b7, b8, b9, ⟨(upd_other (by decide)).trans v1, (upd_other (by decide)).trans v3, (upd_other (by decide)).trans v5, (upd_other (by decide)).trans v6, (upd_other (by decide)).trans v7, (upd_other (by decide)).trans v8⟩, T1⟩, fun e => (by rw [getD_set_ne false (by decide), n10] at e; cases e), fun e => (by rw [getD_set_ne false (by decide), n11] at e; cases e)⟩)
    · have d7 := hdeps ⟨7, .data⟩ (by simp) rfl
      have d3 := hdeps ⟨3, .data⟩ (by simp) rfl
      have d9 := hdeps ⟨9, .chain⟩ (by simp) rfl
      have f7 := hF 7 d7
      have e8 : a.eval (.tmp 8) = vals 7 := tabd_at ht (t := 8) (of_decide_eq_true (by kernel_rfl)) (by kernel_rfl) d7
      have f3 := hF 3 d3
      have e16 : a.eval (.tmp 16) = vals 3 := tabd_at ht (t := 16) (of_decide_eq_true (by kernel_rfl)) (by kernel_rfl) d3
      refine .inl ⟨rfl, fun K hk => ?_⟩
      have PR := fun W' => show ∀ (kq : Nat) (uq : Value), kq ≠ 10 → listed.getD kq false = true → ((fun (l_ : Array Bool) (j_ : Nat) (v_ : Value) (W : World) => match j_ with | 0 => v_ = .agg #[.slice NS xs ns, .slice FS ys fs] | 1 => (∃ mF, v_ = .map (some mF) ∧ (l_.getD 9 false = false → (ShelfAt W (mF + 1) mF ys (shelfP (txL (sf.map Fl.data))) ∧ X.heap.size ≤ mF))) | 2 => v_ = .agg #[.slice NS xs ns, .slice FS ys fs] | 3 => (∃ mN, v_ = .map (some mN) ∧ (l_.getD 9 false = false → (NumM W mN xs (namedF sn) ∧ X.heap.size ≤ mN))) | 4 => v_ = .agg #[.slice NT xt nt, .slice FT yt ft] | 5 => (∃ g, v_ = .slice (some ⟨g, 0, none⟩) yt yt ∧ (l_.getD 9 false = false → (NmsAt W g (g + 1) yt (namesM tn) ∧ X.heap.size ≤ g))) | 6 => (∃ b, v_ = .pointer (some ⟨b, 0, none⟩) ∧ (l_.getD 9 false = false → (Lies W b 83 #[.map none] ∧ X.heap.size ≤ b))) | 7 => (∃ b, v_ = .pointer (some ⟨b, 0, none⟩) ∧ (l_.getD 9 false = false → (Lies W b 85 #[.map none] ∧ X.heap.size ≤ b))) | 8 => (∃ b, v_ = .pointer (some ⟨b, 0, none⟩) ∧ (l_.getD 9 false = false → (Lies W b 87 #[.slice none 0 0] ∧ X.heap.size ≤ b))) | _ => True) : Array Bool → Nat → Value → World → Prop) listed kq uq w0 → ((fun (l_ : Array Bool) (j_ : Nat) (v_ : Value) (W : World) => match j_ with | 0 => v_ = .agg #[.slice NS xs ns, .slice FS ys fs] | 1 => (∃ mF, v_ = .map (some mF) ∧ (l_.getD 9 false = false → (ShelfAt W (mF + 1) mF ys (shelfP (txL (sf.map Fl.data))) ∧ X.heap.size ≤ mF))) | 2 => v_ = .agg #[.slice NS xs ns, .slice FS ys fs] | 3 => (∃ mN, v_ = .map (some mN) ∧ (l_.getD 9 false = false → (NumM W mN xs (namedF sn) ∧ X.heap.size ≤ mN))) | 4 => v_ = .agg #[.slice NT xt nt, .slice FT yt ft] | 5 => (∃ g, v_ = .slice (some ⟨g, 0, none⟩) yt yt ∧ (l_.getD 9 false = false → (NmsAt W g (g + 1) yt (namesM tn) ∧ X.heap.size ≤ g))) | 6 => (∃ b, v_ = .pointer (some ⟨b, 0, none⟩) ∧ (l_.getD 9 false = false → (Lies W b 83 #[.map none] ∧ X.heap.size ≤ b))) | 7 => (∃ b, v_ = .pointer (some ⟨b, 0, none⟩) ∧ (l_.getD 9 false = false → (Lies W b 85 #[.map none] ∧ X.heap.size ≤ b))) | 8 => (∃ b, v_ = .pointer (some ⟨b, 0, none⟩) ∧ (l_.getD 9 false = false → (Lies W b 87 #[.slice none 0 0] ∧ X.heap.size ≤ b))) | _ => True) : Array Bool → Nat → Value → World → Prop) (listed.setIfInBounds 10 true) kq uq W' from
        (fun kq uq hkp hkl h => by
          have s_ : (listed.setIfInBounds 10 true).getD 10 false = true := getD_here (by rw [hs]; decide)
          match kq, hkp, hkl, h with
          | 0, _, _, h => exact h
          | 1, _, _, ⟨mF, e, _⟩ => exact ⟨mF, e, fun h6 => by have h := hdeps ⟨9, .chain⟩ (by simp) rfl; have h := h; rw [getD_set_ne false (by decide), h] at h6; cases h6⟩
          | 2, _, _, h => exact h
          | 3, _, _, ⟨mN, e, _⟩ => exact ⟨mN, e, fun h6 => by have h := hdeps ⟨9, .chain⟩ (by simp) rfl; have h := h; rw [getD_set_ne false (by decide), h] at h6; cases h6⟩
          | 4, _, _, h => exact h
          | 5, _, _, ⟨g, e, _⟩ => exact ⟨g, e, fun h6 => by have h := hdeps ⟨9, .chain⟩ (by simp) rfl; have h := h; rw [getD_set_ne false (by decide), h] at h6; cases h6⟩
          | 6, _, _, ⟨b, e, _⟩ => exact ⟨b, e, fun h6 => by have h := hdeps ⟨9, .chain⟩ (by simp) rfl; have h := h; rw [getD_set_ne false (by decide), h] at h6; cases h6⟩
          | 7, _, _, ⟨b, e, _⟩ => exact ⟨b, e, fun h6 => by have h := hdeps ⟨9, .chain⟩ (by simp) rfl; have h := h; rw [getD_set_ne false (by decide), h] at h6; cases h6⟩
          | 8, _, _, ⟨b, e, _⟩ => exact ⟨b, e, fun h6 => by have h := hdeps ⟨9, .chain⟩ (by simp) rfl; have h := h; rw [getD_set_ne false (by decide), h] at h6; cases h6⟩
          | _ + 9, _, _, _ => exact trivial)
      have l9 := hdeps ⟨9, .chain⟩ (by simp) rfl
      have n11 : listed.getD 11 false = false := (by cases hh : listed.getD 11 false with | false => rfl | true => exact absurd (hcl 11 _ rfl hh ⟨10, .chain⟩ (by simp) rfl) (by simp [hun]))
      obtain ⟨mF, mN, g, b7, b8, b9, ⟨v1, v3, v5, v6, v7, v8⟩, T0⟩ := hI.2.1 l9 hun
      have T1 := (tmA_set T0 1 (.map (some mN))).2.1 rfl
      have x7 := lies_cell T0.h8 0
      have z7 := lies_free T0.h8 0
      simp only [List.getElem?_toArray, List.getElem?_cons_zero] at x7
      rw [v7] at e8
      rw [v3] at e16
      refine wp_skipT (w' := w0.setCell ⟨b8, 0, none⟩ (.map (some mN))) (by clear hk hI hoi hdeps ht hF hcl hs T0 T1 KF KP IV PR; generalize a.eval = ρ at *; unfold execOp; simp only [e8, e16]; go_simp) (hk _ _ trivial (PR _) ⟨⟨T1.low, fun _ _ => (by rw [upd_other (by decide), upd_other (by decide), v1, v3]; intro e; injection e with e; injection e with e; exact T1.d e.symm)⟩, fun _ e => (by rw [getD_here (by rw [hs]; decide)] at e; cases e), fun _ _ => ⟨mF, mN, g, b7, b8, b9, ⟨(upd_other (by decide)).trans v1, (upd_other (by decide)).trans v3, (upd_other (by decide)).trans v5, (upd_other (by decide)).trans v6, (upd_other (by decide)).trans v7, (upd_other (by decide)).trans v8⟩, T1⟩, fun e => (by rw [getD_set_ne false (by decide), n11] at e; cases e)⟩)
    · have d8 := hdeps ⟨8, .data⟩ (by simp) rfl
      have d5 := hdeps ⟨5, .data⟩ (by simp) rfl
      have d10 := hdeps ⟨10, .chain⟩ (by simp) rfl
      have f8 := hF 8 d8
      have e9 : a.eval (.tmp 9) = vals 8 := tabd_at ht (t := 9) (of_decide_eq_true (by kernel_rfl)) (by kernel_rfl) d8
      have f5 := hF 5 d5
      have e18 : a.eval (.tmp 18) = vals 5 := tabd_at ht (t := 18) (of_decide_eq_true (by kernel_rfl)) (by kernel_rfl) d5
      refine .inl ⟨rfl, fun K hk => ?_⟩
      have PR := fun W' => show ∀ (kq : Nat) (uq : Value), kq ≠ 11 → listed.getD kq false = true → ((fun (l_ : Array Bool) (j_ : Nat) (v_ : Value) (W : World) => match j_ with | 0 => v_ = .agg #[.slice NS xs ns, .slice FS ys fs] | 1 => (∃ mF, v_ = .map (some mF) ∧ (l_.getD 9 false = false → (ShelfAt W (mF + 1) mF ys (shelfP (txL (sf.map Fl.data))) ∧ X.heap.size ≤ mF))) | 2 => v_ = .agg #[.slice NS xs ns, .slice FS ys fs] | 3 => (∃ mN, v_ = .map (some mN) ∧ (l_.getD 9 false = false → (NumM W mN xs (namedF sn) ∧ X.heap.size ≤ mN))) | 4 => v_ = .agg #[.slice NT xt nt, .slice FT yt ft] | 5 => (∃ g, v_ = .slice (some ⟨g, 0, none⟩) yt yt ∧ (l_.getD 9 false = false → (NmsAt W g (g + 1) yt (namesM tn) ∧ X.heap.size ≤ g))) | 6 => (∃ b, v_ = .pointer (some ⟨b, 0, none⟩) ∧ (l_.getD 9 false = false → (Lies W b 83 #[.map none] ∧ X.heap.size ≤ b))) | 7 => (∃ b, v_ = .pointer (some ⟨b, 0, none⟩) ∧ (l_.getD 9 false = false → (Lies W b 85 #[.map none] ∧ X.heap.size ≤ b))) | 8 => (∃ b, v_ = .pointer (some ⟨b, 0, none⟩) ∧ (l_.getD 9 false = false → (Lies W b 87 #[.slice none 0 0] ∧ X.heap.size ≤ b))) | _ => True) : Array Bool → Nat → Value → World → Prop) listed kq uq w0 → ((fun (l_ : Array Bool) (j_ : Nat) (v_ : Value) (W : World) => match j_ with | 0 => v_ = .agg #[.slice NS xs ns, .slice FS ys fs] | 1 => (∃ mF, v_ = .map (some mF) ∧ (l_.getD 9 false = false → (ShelfAt W (mF + 1) mF ys (shelfP (txL (sf.map Fl.data))) ∧ X.heap.size ≤ mF))) | 2 => v_ = .agg #[.slice NS xs ns, .slice FS ys fs] | 3 => (∃ mN, v_ = .map (some mN) ∧ (l_.getD 9 false = false → (NumM W mN xs (namedF sn) ∧ X.heap.size ≤ mN))) | 4 => v_ = .agg #[.slice NT xt nt, .slice FT yt ft] | 5 => (∃ g, v_ = .slice (some ⟨g, 0, none⟩) yt yt ∧ (l_.getD 9 false = false → (NmsAt W g (g + 1) yt (namesM tn) ∧ X.heap.size ≤ g))) | 6 => (∃ b, v_ = .pointer (some ⟨b, 0, none⟩) ∧ (l_.getD 9 false = false → (Lies W b 83 #[.map none] ∧ X.heap.size ≤ b))) | 7 => (∃ b, v_ = .pointer (some ⟨b, 0, none⟩) ∧ (l_.getD 9 false = false → (Lies W b 85 #[.map none] ∧ X.heap.size ≤ b))) | 8 => (∃ b, v_ = .pointer (some ⟨b, 0, none⟩) ∧ (l_.getD 9 false = false → (Lies W b 87 #[.slice none 0 0] ∧ X.heap.size ≤ b))) | _ => True) : Array Bool → Nat → Value → World → Prop) (listed.setIfInBounds 11 true) kq uq W' from
        (fun kq uq hkp hkl h => by
          have s_ : (listed.setIfInBounds 11 true).getD 11 false = true := getD_here (by rw [hs]; decide)
          match kq, hkp, hkl, h with
          | 0, _, _, h => exact h
          | 1, _, _, ⟨mF, e, _⟩ => exact ⟨mF, e, fun h6 => by have h := hdeps ⟨9, .phase⟩ (by simp) rfl; have h := h; rw [getD_set_ne false (by decide), h] at h6; cases h6⟩
          | 2, _, _, h => exact h
          | 3, _, _, ⟨mN, e, _⟩ => exact ⟨mN, e, fun h6 => by have h := hdeps ⟨9, .phase⟩ (by simp) rfl; have h := h; rw [getD_set_ne false (by decide), h] at h6; cases h6⟩
          | 4, _, _, h => exact h
          | 5, _, _, ⟨g, e, _⟩ => exact ⟨g, e, fun h6 => by have h := hdeps ⟨9, .phase⟩ (by simp) rfl; have h := h; rw [getD_set_ne false (by decide), h] at h6; cases h6⟩
          | 6, _, _, ⟨b, e, _⟩ => exact ⟨b, e, fun h6 => by have h := hdeps ⟨9, .phase⟩ (by simp) rfl; have h := h; rw [getD_set_ne false (by decide), h] at h6; cases h6⟩
          | 7, _, _, ⟨b, e, _⟩ => exact ⟨b, e, fun h6 => by have h := hdeps ⟨9, .phase⟩ (by simp) rfl; have h := h; rw [getD_set_ne false (by decide), h] at h6; cases h6⟩
          | 8, _, _, ⟨b, e, _⟩ => exact ⟨b, e, fun h6 => by have h := hdeps ⟨9, .phase⟩ (by simp) rfl; have h := h; rw [getD_set_ne false (by decide), h] at h6; cases h6⟩
          | _ + 9, _, _, _ => exact trivial)
      have l10 := hdeps ⟨10, .chain⟩ (by simp) rfl
      obtain ⟨mF, mN, g, b7, b8, b9, ⟨v1, v3, v5, v6, v7, v8⟩, T0⟩ := hI.2.2.1 l10 hun
      have T1 := (tmA_set T0 2 (.slice (some ⟨g, 0, none⟩) yt yt)).2.2 rfl
      have x7 := lies_cell T0.h9 0
      have z7 := lies_free T0.h9 0
      simp only [List.getElem?_toArray, List.getElem?_cons_zero] at x7
      rw [v8] at e9
      rw [v5] at e18
      refine wp_skipT (w' := w0.setCell ⟨b9, 0, none⟩ (.slice (some ⟨g, 0, none⟩) yt yt)) (by clear hk hI hoi hdeps ht hF hcl hs T0 T1 KF KP IV PR; generalize a.eval = ρ at *; unfold execOp; simp only [e9, e18]; go_simp) (hk _ _ trivial (PR _) ⟨⟨T1.low, fun _ _ => (by rw [upd_other (by decide), upd_other (by decide), v1, v3]; intro e; injection e with e; injection e with e; exact T1.d e.symm)⟩, fun _ e => (by rw [getD_set_ne false (by decide), l10] at e; cases e), fun _ e => (by rw [getD_here (by rw [hs]; decide)] at e; cases e), fun _ => ⟨mF, mN, g, b7, b8, b9, ⟨(upd_other (by decide)).trans v1, (upd_other (by decide)).trans v3, (upd_other (by decide)).trans v5, (upd_other (by decide)).trans v6, (upd_other (by decide)).trans v7, (upd_other (by decide)).trans v8⟩, T1⟩⟩)
  case hend =>
    intro a w0 listed vals hall ht hF hI
    rw [tabd_fill ht (fun t i ho => hall i (ownAll_lt ho))]
    have g0 : vals 0 = .agg #[.slice NS xs ns, .slice FS ys fs] := hF 0 (by decide)
    have g1 := hF 1 (by decide)
    have g2 : vals 2 = .agg #[.slice NS xs ns, .slice FS ys fs] := hF 2 (by decide)
    have g3 := hF 3 (by decide)
    have g4 : vals 4 = .agg #[.slice NT xt nt, .slice FT yt ft] := hF 4 (by decide)
    have g5 := hF 5 (by decide)
    have g6 := hF 6 (by decide)
    have g7 := hF 7 (by decide)
    have g8 := hF 8 (by decide)
    change Exit.then _ _ Exit.normal { tmps := #[.agg #[.slice NS xs ns, .slice FS ys fs], .agg #[.slice NT xt nt, .slice FT yt ft], .slice C zl cc, .pointer (some ⟨w.heap.size, 0, none⟩), .pointer (some ⟨w.heap.size + 1, 0, none⟩), undef, .slice none 0 0, vals 6, vals 7, vals 8, undef, undef, undef, vals 0, vals 1, vals 2, vals 3, vals 4, vals 5, undef, undef, undef, undef, undef, undef, undef, undef], defers := [] } w0
    simp only [g0, g2, g4]
    clear ht hF KF KP IV
    obtain ⟨mF, mN, g, b7, b8, b9, ⟨v1, v3, v5, v6, v7, v8⟩, T⟩ := hI.2.2.2 (hall 11 (by decide))
    have T := Lib.hid T
    rw [v1, v3, v5, v6, v7, v8]
    clear hI hall v1 v3 v5 v6 v7 v8 g1 g3 g5 g6 g7 g8
    have hmm := @run_makeMap Try.prog
    have g1 := World.grownBy_alloc w0 (.map #[] 0) none
    have g2 := World.grownBy_alloc (w0.alloc (.map #[] 0)) (.cells #[.map (some w0.heap.size)] 85) none
    have T1 := Lib.hid (tmA_grown0 (tmA_grown0 T.out g1) g2)
    have N1 := Lib.hid (numM_same (numM_made w0) (heap_alloc_old (w0.alloc (.map #[] 0)) (.cells #[.map (some w0.heap.size)] 85) (numM_lt (numM_made w0))))
    have L10 := lies_new (w0.alloc (.map #[] 0)) 85 #[.map (some w0.heap.size)]
    rw [World.size_alloc] at L10
    have L10 := Lib.hid L10
    have D1 := Lib.hid (show w0.heap.size ≠ mF ∧ w0.heap.size ≠ mN ∧ X.heap.size ≤ w0.heap.size from ⟨by have := (shelf_lt T.out.hS).1; omega, by have := numM_lt T.out.hN; omega, T.out.low.size⟩)
    have Z1 := Lib.hid (show ((w0.alloc (.map #[] 0)).alloc (.cells #[.map (some w0.heap.size)] 85)).heap.size = w0.heap.size + 2 by simp)
    clear g1 g2 T
    go_upto_region 3 with (fail)
    generalize (w0.alloc (.map #[] 0)).alloc (.cells #[.map (some w0.heap.size)] 85) = W1 at *
    generalize w0.heap.size = m1 at *
    have BW := Lib.hid (B0.out.trans (T1.out.low.mono (by have := Z0.out; omega)))
    have R := Lib.hid (C7.out W1 BW.out)
    have LF := @Lib.hid
    go_wp2_with (first
      | (go_at_call 45; (with_reducible refine R.out.mono ?_); rintro e w2 ⟨rfl, h1, h2⟩; have N2 := Lib.hid h1; have B2 := Lib.hid h2; clear h1 h2))
    go_ret
    have t2 := tmA_grown0 T1.out (grown_of_below B2.out)
    have l10 := lies_below L10.out B2.out (lies_lt L10.out)
    have n1 := numM_below N1.out B2.out
    have gr : ∀ (W : World) (o : Obj), W.grownBy (W.alloc o) none := fun W o => World.grownBy_alloc W o none
    have g3 := gr w2 (.cells #[.map (some W1.heap.size)] 85)
    have g4 := gr (w2.alloc (.cells #[.map (some W1.heap.size)] 85)) (.cells #[.func (.func 46) #[] #[.pointer (some ⟨b7, 0, none⟩), .pointer (some ⟨m1 + 1, 0, none⟩)]] 92)
    have g5 := gr ((w2.alloc (.cells #[.map (some W1.heap.size)] 85)).alloc (.cells #[.func (.func 46) #[] #[.pointer (some ⟨b7, 0, none⟩), .pointer (some ⟨m1 + 1, 0, none⟩)]] 92)) (.cells #[.func (.func 48) #[] #[.pointer (some ⟨b9, 0, none⟩), .pointer (some ⟨b8, 0, none⟩), .pointer (some ⟨b7, 0, none⟩), .pointer (some ⟨w2.heap.size + 1, 0, none⟩)], .func (.func 50) #[] #[.pointer (some ⟨b7, 0, none⟩), .pointer (some ⟨w2.heap.size + 1, 0, none⟩)], .func (.func 51) #[] #[.pointer (some ⟨m1 + 1, 0, none⟩), .pointer (some ⟨w2.heap.size, 0, none⟩)]] 70)
    have t5 := tmA_grown0 (tmA_grown0 (tmA_grown0 t2 g3) g4) g5
    have l11 := lies_alloc (lies_alloc (lies_new w2 85 #[.map (some W1.heap.size)]) (.cells #[.func (.func 46) #[] #[.pointer (some ⟨b7, 0, none⟩), .pointer (some ⟨m1 + 1, 0, none⟩)]] 92)) (.cells #[.func (.func 48) #[] #[.pointer (some ⟨b9, 0, none⟩), .pointer (some ⟨b8, 0, none⟩), .pointer (some ⟨b7, 0, none⟩), .pointer (some ⟨w2.heap.size + 1, 0, none⟩)], .func (.func 50) #[] #[.pointer (some ⟨b7, 0, none⟩), .pointer (some ⟨w2.heap.size + 1, 0, none⟩)], .func (.func 51) #[] #[.pointer (some ⟨m1 + 1, 0, none⟩), .pointer (some ⟨w2.heap.size, 0, none⟩)]] 70)
    have l12 := lies_alloc (lies_new (w2.alloc (.cells #[.map (some W1.heap.size)] 85)) 92 #[.func (.func 46) #[] #[.pointer (some ⟨b7, 0, none⟩), .pointer (some ⟨m1 + 1, 0, none⟩)]]) (.cells #[.func (.func 48) #[] #[.pointer (some ⟨b9, 0, none⟩), .pointer (some ⟨b8, 0, none⟩), .pointer (some ⟨b7, 0, none⟩), .pointer (some ⟨w2.heap.size + 1, 0, none⟩)], .func (.func 50) #[] #[.pointer (some ⟨b7, 0, none⟩), .pointer (some ⟨w2.heap.size + 1, 0, none⟩)], .func (.func 51) #[] #[.pointer (some ⟨m1 + 1, 0, none⟩), .pointer (some ⟨w2.heap.size, 0, none⟩)]] 70)
    rw [World.size_alloc] at l12
    have l13 := lies_new ((w2.alloc (.cells #[.map (some W1.heap.size)] 85)).alloc (.cells #[.func (.func 46) #[] #[.pointer (some ⟨b7, 0, none⟩), .pointer (some ⟨m1 + 1, 0, none⟩)]] 92)) 70 #[.func (.func 48) #[] #[.pointer (some ⟨b9, 0, none⟩), .pointer (some ⟨b8, 0, none⟩), .pointer (some ⟨b7, 0, none⟩), .pointer (some ⟨w2.heap.size + 1, 0, none⟩)], .func (.func 50) #[] #[.pointer (some ⟨b7, 0, none⟩), .pointer (some ⟨w2.heap.size + 1, 0, none⟩)], .func (.func 51) #[] #[.pointer (some ⟨m1 + 1, 0, none⟩), .pointer (some ⟨w2.heap.size, 0, none⟩)]]
    rw [World.size_alloc, World.size_alloc] at l13
    have up : ∀ {W W' : World} {b n : Nat} {G : Bt → Option Int}, NumM W b n G → W.grownBy W' none → NumM W' b n G := fun {W W' b n G} h hg => numM_same h (hg.block _ (numM_lt h) (by simp))
    have n5 := up (up (up n1 g3) g4) g5
    have k5 := up (up (up N2.out g3) g4) g5
    have kl : ∀ {W W' : World} {g t cs}, Lies W g t cs → W.grownBy W' none → Lies W' g t cs := fun h hg => (hg.block _ (lies_lt h) (by simp)).trans h
    have m5 := kl (kl (kl l10 g3) g4) g5
    have fS := (shelf_lt T1.out.hS).1
    have fN := numM_lt T1.out.hN
    have z1 := Z1.out
    have dd := D1.out
    have lo := T1.out.lo
    have z0 := Z0.out
    exact ⟨⟨b7, b8, b9, m1 + 1, w2.heap.size, w2.heap.size + 1, mF, m1, mN, W1.heap.size, g⟩, w2.heap.size + 1 + 1, rfl, l13, ⟨t5.h7, t5.h8, t5.h9, m5, l11, l12, t5.hS, n5, t5.hN, k5, t5.hT, dd.1, ⟨T1.out.d, Ne.symm dd.2.1⟩, ⟨by show W1.heap.size ≠ mF; omega, by show W1.heap.size ≠ m1; omega⟩, ⟨by show w.heap.size ≤ mF; omega, by show w.heap.size ≤ m1; omega⟩⟩, B0.out.trans (t5.low.mono (by omega))⟩
end Go.Proofs.Ytiglakhfkgeefaa
set_option linter.unusedSimpArgs false
namespace Go.Stk
/-- what Check finds of contents so long, behind so many bytes -/
def chkL : Nat → List Nat → Int
  | _, [] => 0
  | a, n :: r => if 8192 < n ∨ 65536 < a + n then 2 else chkL (a + n) r
def checkL (ns : List Nat) : Int := if 65535 < ns.length then 2 else chkL 0 ns
end Go.Stk
namespace Go.Proofs.Ytiglakhfkgeefaa
open Go.Stk Go.RowKit Go.Word
/-- byte slices so long in a slice -/
def LensAt (w : World) (A : Option Addr) (ns : List Nat) : Prop := ∀ i (h : i < ns.length), ∃ b o DA dc, A = some ⟨b, o, none⟩ ∧ b < w.heap.size ∧ w.cell? ⟨b, o + i, none⟩ = some (.slice DA ns[i] dc)
theorem lensAt_below {w w' : World} {A : Option Addr} {ns : List Nat} (h : LensAt w A ns) (hb : Below w.heap.size w w') : LensAt w' A ns := fun i hi => by
  obtain ⟨b, o, DA, dc, e, hl, hc⟩ := h i hi
  exact ⟨b, o, DA, dc, e, Nat.lt_of_lt_of_le hl hb.size, (hb.cell (p := ⟨b, o + i, none⟩) hl).trans hc⟩
set_option maxRecDepth 100000 in
set_option maxHeartbeats 4000000 in
theorem scheck_any (A : Option Addr) (c : Nat) (ns : List Nat) (w : World) (h : LensAt w A ns) (hb : ∀ n ∈ ns, n ≤ 140737488355328) : Calls Try.prog 31 #[.slice A ns.length c] w fun e w' => e = .returned (.int .i64 (checkL ns)) ∧ w = w' := by
  obtain ⟨n, hn⟩ : ∃ n, n = ns.length := ⟨_, rfl⟩
  by_cases hlong : 65535 < ns.length
  · have e1 : checkL ns = 2 := by unfold checkL; rw [if_pos hlong]
    rw [e1]
    rw [← hn] at hlong ⊢
    have hl1 : (65535 : Int) < (n : Int) := by omega
    clear hn h e1 hb
    go_enter Try.func31, Try.ntmps31
    go_wp2
    go_ret
    exact ⟨rfl, rfl⟩
  have e1 : checkL ns = chkL 0 ns := by unfold checkL; rw [if_neg hlong]
  rw [e1]
  rw [← hn] at hlong ⊢
  have hl1 : ¬ ((65535 : Int) < (n : Int)) := by omega
  have H := Lib.hid h
  have HN := Lib.hid hn
  have HBD := Lib.hid hb
  obtain ⟨z, hz⟩ : ∃ z, z = chkL 0 ns := ⟨_, rfl⟩
  rw [← hz]
  have HZ := Lib.hid hz
  clear h hn e1 hb hz
  go_enter Try.func31, Try.ntmps31
  go_wp2
  go_loopw [3, 5, 11] (fun v3 _ v11 wr => wr = w ∧ ∃ i a : Nat, i ≤ n ∧ a ≤ 65536 ∧ v3 = .int .i64 (a : Int) ∧ v11 = .int .i64 (i : Int) ∧ z = chkL a (ns.drop i)) (fun _ _ v11 _ => n - (intOf v11).toNat)
  case atStart => exact ⟨rfl, 0, 0, Nat.zero_le _, by omega, rfl, rfl, by simpa using HZ.out⟩
  case round =>
    obtain ⟨hw, i, a, hi, ha, rfl, rfl, hzz⟩ := hrel
    subst hw
    have HZZ := Lib.hid hzz
    clear hzz
    by_cases hlt : i < n
    · have li : (i : Int) < (n : Int) := by omega
      have lf : i < ns.length := by have := HN.out; omega
      obtain ⟨b, o, DA, dc, eA, hl, d1⟩ := H.out i lf
      subst eA
      have hm := HBD.out ns[i] (List.getElem_mem lf)
      have hcz : chkL a (ns.drop i) = if 8192 < ns[i] ∨ 65536 < a + ns[i] then 2 else chkL (a + ns[i]) (ns.drop (i + 1)) := by
        rw [← List.getElem_cons_drop lf]
        rfl
      rw [hcz] at HZZ
      generalize ns[i] = k at *
      by_cases hbad : 8192 < k ∨ 65536 < a + k
      · rw [if_pos hbad] at HZZ
        have hzv : z = 2 := HZZ.out
        subst hzv
        clear hcz HZZ
        by_cases hk : 8192 < k
        · have hk1 : (8192 : Int) < (k : Int) := by omega
          go_wp2
          go_ret
          exact ⟨rfl, rfl⟩
        · have hk1 : ¬ ((8192 : Int) < (k : Int)) := by omega
          have hk2 : (65536 : Int) < (a : Int) + (k : Int) := by omega
          go_wp2
          go_ret
          exact ⟨rfl, rfl⟩
      · rw [if_neg hbad] at HZZ
        have hk1 : ¬ ((8192 : Int) < (k : Int)) := by omega
        have hk2 : ¬ ((65536 : Int) < (a : Int) + (k : Int)) := by omega
        clear hcz
        go_wp2
        go_roundw
        case rel => exact ⟨trivial, i + 1, a + k, by omega, by omega, by go_num, by go_num, HZZ.out⟩
        case measure => first | (simp [intOf]; done) | (simp [intOf]; omega)
    · have hin : ¬ ((i : Int) < (n : Int)) := by omega
      have hz0 : z = 0 := by
        rw [HZZ.out, List.drop_of_length_le (by have := HN.out; omega)]
        rfl
      subst hz0
      go_wp2
      go_ret
      exact ⟨rfl, rfl⟩
end Go.Proofs.Ytiglakhfkgeefaa
set_option linter.unusedSimpArgs false
set_option linter.unusedVariables false
namespace Go.Mat
/-- a source: its kind, file, row -/
abbrev Sr := Int × Int × Int
end Go.Mat
namespace Go.Proofs.Ytiglakhfkgeefaa
open Go.Pth Go.Tre Go.RowKit Go.Word Go.Shelf Go.Mat
def srL (x : Sr) : List Value := [.int .i64 x.1, .int .i64 x.2.1, .int .i64 x.2.2]
def SrcsAt (w : World) (A : Option Addr) (xs : List Sr) : Prop := ∀ i (h : i < xs.length), ∃ g, A = some ⟨g, 0, none⟩ ∧ g < w.heap.size ∧ w.rangeAt g (i * 3) (srL xs[i])
theorem srcsAt_below {w w' : World} {A : Option Addr} {xs : List Sr} (h : SrcsAt w A xs) (hb : Below w.heap.size w w') : SrcsAt w' A xs := fun i hi => by
  obtain ⟨g, e, hg, hr⟩ := h i hi
  exact ⟨g, e, Nat.lt_of_lt_of_le hg hb.size, fun j v hv => (hb.cell (p := ⟨g, i * 3 + j, none⟩) hg).trans (hr j v hv)⟩
theorem three_range {w : World} {g : Nat} {t : TypeId} {x y z : Value} (h : Lies w g t #[x, y, z]) : w.rangeAt g 0 [x, y, z] := fun j v hj => by
  match j, hj with
  | 0, hj => injection hj with hj; subst hj; exact lies_cell h 0
  | 1, hj => injection hj with hj; subst hj; exact lies_cell h 1
  | 2, hj => injection hj with hj; subst hj; exact lies_cell h 2
  | j + 3, hj => simp at hj
theorem eqSrc_iff (p q : Sr) : eqSrc p.1 q.1 p.2.1 q.2.1 p.2.2 q.2.2 = decide (p = q) := by
  obtain ⟨a, b, c⟩ := p
  obtain ⟨d, e, f⟩ := q
  unfold eqSrc
  simp [Prod.ext_iff, Bool.decide_and]
  by_cases h1 : a = d <;> by_cases h2 : b = e <;> by_cases h3 : c = f <;> simp [h1, h2, h3]
set_option maxRecDepth 100000 in
set_option maxHeartbeats 1000000 in
theorem index_srcs (A : Option Addr) (C : Nat) (xs : List Sr) (z : Sr) (w : World) (h : SrcsAt w A xs) (hn : xs.length ≤ 1000000) :
    Calls Try.prog 53 #[.slice A xs.length C, .agg #[.int .i64 z.1, .int .i64 z.2.1, .int .i64 z.2.2]] w fun e w' => (∃ k : Int, e = .returned (.int .i64 k) ∧ decide (0 ≤ k) = decide (z ∈ xs)) ∧ Below w.heap.size w w' := by
  obtain ⟨n, hne⟩ : ∃ n, n = xs.length := ⟨_, rfl⟩
  have NE := Lib.hid hne
  rw [← hne] at hn ⊢
  have bX := (Below.refl w.heap.size w).alloc (Nat.le_refl _) (.cells #[.int .i64 z.1, .int .i64 z.2.1, .int .i64 z.2.2] 54)
  have H := Lib.hid (srcsAt_below h bX)
  have BX := Lib.hid bX
  have LX := Lib.hid (lies_new w 54 #[.int .i64 z.1, .int .i64 z.2.1, .int .i64 z.2.2])
  clear h hne bX
  go_enter Try.func53, Try.ntmps53
  go_wp2
  generalize hX : w.alloc (.cells #[.int .i64 z.1, .int .i64 z.2.1, .int .i64 z.2.2] 54) = X at *
  have HX := Lib.hid hX
  clear hX
  go_loopw [5, 8] (fun _ v8 wr => Below X.heap.size X wr ∧ ∃ i : Nat, i ≤ n ∧ v8 = .int .i64 (i : Int) ∧ z ∉ xs.take i) (fun _ v8 _ => n - (intOf v8).toNat)
  case atStart => exact ⟨Below.refl _ _, 0, Nat.zero_le _, rfl, by simp⟩
  case round =>
    obtain ⟨hB, i, hi, rfl, hno⟩ := hrel
    have NO := Lib.hid hno
    have HB := Lib.hid hB
    clear hno hB
    by_cases hlt : i < n
    · have li : (i : Int) < (n : Int) := by omega
      have lf : i < xs.length := by have := NE.out; omega
      obtain ⟨g, rfl, hg, hr⟩ := H.out i lf
      have ST := Lib.hid (List.take_succ_eq_append_getElem lf)
      have ME := Lib.hid (List.getElem_mem lf)
      generalize xs[i] = y at *
      have HR := Lib.hid (show ∀ W : World, Below X.heap.size X W → W.rangeAt g (i * 3) (srL y) from fun W hW j v hv => (hW.cell (p := ⟨g, i * 3 + j, none⟩) hg).trans (hr j v hv))
      clear hr
      go_upto_region 4 with (fail)
      obtain ⟨bo, hbo⟩ : ∃ bo, bo = eqSrc z.1 y.1 z.2.1 y.2.1 z.2.2 y.2.2 := ⟨_, rfl⟩
      have HBO := Lib.hid hbo
      clear hbo
      have KF : ∀ (lq : Array Bool) (pq kq : Nat) (uq : Value) (W W' : World), (True) → W.grownBy W' none → ((fun (l_ : Array Bool) (j_ : Nat) (v_ : Value) (W : World) => match j_ with | 0 => v_ = .agg #[.int .i64 z.1, .int .i64 z.2.1, .int .i64 z.2.2] | 1 => v_ = .slice (some ⟨g, 0, none⟩) n C | 2 => v_ = .int .i64 (i : Int) | 3 => v_ = .pointer (some ⟨g, i * 3, none⟩) | 4 => v_ = .agg #[.int .i64 y.1, .int .i64 y.2.1, .int .i64 y.2.2] | 5 => v_ = .bool bo | _ => True) : Array Bool → Nat → Value → World → Prop) lq kq uq W → ((fun (l_ : Array Bool) (j_ : Nat) (v_ : Value) (W : World) => match j_ with | 0 => v_ = .agg #[.int .i64 z.1, .int .i64 z.2.1, .int .i64 z.2.2] | 1 => v_ = .slice (some ⟨g, 0, none⟩) n C | 2 => v_ = .int .i64 (i : Int) | 3 => v_ = .pointer (some ⟨g, i * 3, none⟩) | 4 => v_ = .agg #[.int .i64 y.1, .int .i64 y.2.1, .int .i64 y.2.2] | 5 => v_ = .bool bo | _ => True) : Array Bool → Nat → Value → World → Prop) (lq.setIfInBounds pq true) kq uq W' := fun lq pq kq uq W W' hp hg h => by
        have kl : ∀ {g t cs}, Lies W g t cs → Lies W' g t cs := fun h => (hg.block _ (lies_lt h) (by simp)).trans h
        have ko : ∀ {B e z v k xs}, W.ownsRow B e z v k xs → W'.ownsRow B e z v k xs := fun {B e z v k xs} h => h.kept hg (by cases v.ownBlock <;> simp)
        match kq, h with
        | 0, h => exact h
        | 1, h => exact h
        | 2, h => exact h
        | 3, h => exact h
        | 4, h => exact h
        | 5, h => exact h
        | _ + 6, _ => exact trivial
      have gr : ∀ W : World, W.grownBy W none := fun W => ⟨rfl, rfl, rfl, Nat.le_refl _, fun _ _ _ => rfl⟩
      have KP := fun (lq : Array Bool) (pq : Nat) (W : World) (hp : True) => fun (kq : Nat) (uq : Value) (_ : kq ≠ pq) (_ : lq.getD kq false = true) (h : ((fun (l_ : Array Bool) (j_ : Nat) (v_ : Value) (W : World) => match j_ with | 0 => v_ = .agg #[.int .i64 z.1, .int .i64 z.2.1, .int .i64 z.2.2] | 1 => v_ = .slice (some ⟨g, 0, none⟩) n C | 2 => v_ = .int .i64 (i : Int) | 3 => v_ = .pointer (some ⟨g, i * 3, none⟩) | 4 => v_ = .agg #[.int .i64 y.1, .int .i64 y.2.1, .int .i64 y.2.2] | 5 => v_ = .bool bo | _ => True) : Array Bool → Nat → Value → World → Prop) lq kq uq W) => KF lq pq kq uq W W hp (gr W) h
      have IV : ∀ (lq : Array Bool) (pq : Nat) (X Y : World), True → X = Y → ((fun (l_ : Array Bool) (WW : World) => WW = wr.drewN 1) : Array Bool → World → Prop) lq X → ((fun (l_ : Array Bool) (WW : World) => WW = wr.drewN 1) : Array Bool → World → Prop) (lq.setIfInBounds pq true) Y := fun lq pq X Y hp hg h => hg ▸ h
      refine wp_region_any (by kernel_rfl) ?_
      refine every_factI (own := ownAll _) id ((fun (l_ : Array Bool) (j_ : Nat) (v_ : Value) (W : World) => match j_ with | 0 => v_ = .agg #[.int .i64 z.1, .int .i64 z.2.1, .int .i64 z.2.2] | 1 => v_ = .slice (some ⟨g, 0, none⟩) n C | 2 => v_ = .int .i64 (i : Int) | 3 => v_ = .pointer (some ⟨g, i * 3, none⟩) | 4 => v_ = .agg #[.int .i64 y.1, .int .i64 y.2.1, .int .i64 y.2.2] | 5 => v_ = .bool bo | _ => True) : Array Bool → Nat → Value → World → Prop) ((fun (l_ : Array Bool) (WW : World) => WW = wr.drewN 1) : Array Bool → World → Prop) (acAll_of (by kernel_rfl)) (onAll_of (by kernel_rfl)) (dstAll_of (by kernel_rfl)) ?hop ?hend _ _ _ _ (fun _ => undef) rfl (shut_none _) (of_decide_eq_true (by kernel_rfl)) (tabd_start (fun i => rep_false _ i)) (fun k hk => by rw [rep_false] at hk; cases hk) rfl
      case hop =>
        intro j oi a w0 listed vals hoi hs hcl hun hdeps ht hF hI
        have hj : j < 6 := (Array.getElem?_eq_some_iff.1 hoi).1
        have cj : j = 0 ∨ j = 1 ∨ j = 2 ∨ j = 3 ∨ j = 4 ∨ j = 5 := by omega
        obtain rfl | rfl | rfl | rfl | rfl | rfl := cj
        all_goals obtain rfl := Option.some.inj hoi
        · have e3 : a.eval (.tmp 3) = .pointer (some ⟨w.heap.size, 0, none⟩) := (tabd_old ht (t := 3) (of_decide_eq_true (by kernel_rfl)) (by kernel_rfl)).trans rfl
          refine .inl ⟨rfl, fun K hk => ?_⟩
          have hB : Below X.heap.size X w0 := by rw [show w0 = _ from hI]; exact HB.out.drew
          have hc : w0.rangeAt w.heap.size 0 [.int .i64 z.1, .int .i64 z.2.1, .int .i64 z.2.2] := three_range (lies_below LX.out hB (lies_lt LX.out))
          exact wp_val (v := .agg #[.int .i64 z.1, .int .i64 z.2.1, .int .i64 z.2.2]) (load_op 54 _ rfl w.heap.size 0 e3 _ _ hc Try.underlying54 rfl (by kernel_rfl)) (hk _ _ rfl (KP listed 0 w0 trivial) (IV listed 0 w0 w0 trivial rfl hI))
        · have e0 : a.eval (.tmp 0) = .slice (some ⟨g, 0, none⟩) n C := (tabd_old ht (t := 0) (of_decide_eq_true (by kernel_rfl)) (by kernel_rfl)).trans rfl
          exact .inl ⟨rfl, fun K hk => wp_val (v := .slice (some ⟨g, 0, none⟩) n C) (by clear hk hI hoi hdeps ht hF hcl hs KF KP IV; generalize a.eval = ρ at *; unfold execOp; simp only [e0]; go_simp; try (intro hq_; exfalso; omega)) (hk _ _ rfl (KP listed 1 w0 trivial) (IV listed 1 w0 w0 trivial rfl hI))⟩
        · have e5 : a.eval (.tmp 5) = .int .i64 (i : Int) := (tabd_old ht (t := 5) (of_decide_eq_true (by kernel_rfl)) (by kernel_rfl)).trans rfl
          exact .inl ⟨rfl, fun K hk => wp_val (v := .int .i64 (i : Int)) (by clear hk hI hoi hdeps ht hF hcl hs KF KP IV; generalize a.eval = ρ at *; unfold execOp; simp only [e5]; go_simp; try (intro hq_; exfalso; omega)) (hk _ _ rfl (KP listed 2 w0 trivial) (IV listed 2 w0 w0 trivial rfl hI))⟩
        · have d1 := hdeps ⟨1, .data⟩ (by simp) rfl
          have d2 := hdeps ⟨2, .data⟩ (by simp) rfl
          have e12 : a.eval (.tmp 12) = .slice (some ⟨g, 0, none⟩) n C := (tabd_at ht (t := 12) (of_decide_eq_true (by kernel_rfl)) (by kernel_rfl) d1).trans (hF 1 d1)
          have e13 : a.eval (.tmp 13) = .int .i64 (i : Int) := (tabd_at ht (t := 13) (of_decide_eq_true (by kernel_rfl)) (by kernel_rfl) d2).trans (hF 2 d2)
          exact .inl ⟨rfl, fun K hk => wp_val (v := .pointer (some ⟨g, i * 3, none⟩)) (by clear hk hI hoi hdeps ht hF hcl hs KF KP IV; generalize a.eval = ρ at *; unfold execOp; simp only [e12, e13]; go_simp; try (intro hq_; exfalso; omega)) (hk _ _ rfl (KP listed 3 w0 trivial) (IV listed 3 w0 w0 trivial rfl hI))⟩
        · have d3 := hdeps ⟨3, .data⟩ (by simp) rfl
          have e14 : a.eval (.tmp 14) = .pointer (some ⟨g, i * 3, none⟩) := (tabd_at ht (t := 14) (of_decide_eq_true (by kernel_rfl)) (by kernel_rfl) d3).trans (hF 3 d3)
          refine .inl ⟨rfl, fun K hk => ?_⟩
          have hB : Below X.heap.size X w0 := by rw [show w0 = _ from hI]; exact HB.out.drew
          have hc := HR.out w0 hB
          exact wp_val (v := .agg #[.int .i64 y.1, .int .i64 y.2.1, .int .i64 y.2.2]) (load_op 54 _ rfl g (i * 3) e14 _ _ hc Try.underlying54 rfl (by kernel_rfl)) (hk _ _ rfl (KP listed 4 w0 trivial) (IV listed 4 w0 w0 trivial rfl hI))
        · have d0 := hdeps ⟨0, .data⟩ (by simp) rfl
          have d4 := hdeps ⟨4, .data⟩ (by simp) rfl
          have e11 : a.eval (.tmp 11) = .agg #[.int .i64 z.1, .int .i64 z.2.1, .int .i64 z.2.2] := (tabd_at ht (t := 11) (of_decide_eq_true (by kernel_rfl)) (by kernel_rfl) d0).trans (hF 0 d0)
          have e15 : a.eval (.tmp 15) = .agg #[.int .i64 y.1, .int .i64 y.2.1, .int .i64 y.2.2] := (tabd_at ht (t := 15) (of_decide_eq_true (by kernel_rfl)) (by kernel_rfl) d4).trans (hF 4 d4)
          refine .inl ⟨rfl, fun K hk => ?_⟩
          have hq := eql_src z.1 y.1 z.2.1 y.2.1 z.2.2 y.2.2 w0
          exact wp_val (v := .bool bo) (by rw [HBO.out]; clear hk hI hoi hdeps ht hF hcl hs KF KP IV; generalize a.eval = ρ at *; unfold execOp; simp only [e11, e15]; go_simp; by_cases q1 : z.1 = y.1 <;> by_cases q2 : z.2.1 = y.2.1 <;> by_cases q3 : z.2.2 = y.2.2 <;> simp [eqSrc, q1, q2, q3]) (hk _ _ rfl (KP listed 5 w0 trivial) (IV listed 5 w0 w0 trivial rfl hI))
      case hend =>
        intro a w0 listed vals hall ht hF hI
        rw [tabd_fill ht (fun t i ho => hall i (ownAll_lt ho))]
        have g0 : vals 0 = .agg #[.int .i64 z.1, .int .i64 z.2.1, .int .i64 z.2.2] := hF 0 (by decide)
        have g1 : vals 1 = .slice (some ⟨g, 0, none⟩) n C := hF 1 (by decide)
        have g2 : vals 2 = .int .i64 (i : Int) := hF 2 (by decide)
        have g3 : vals 3 = .pointer (some ⟨g, i * 3, none⟩) := hF 3 (by decide)
        have g4 : vals 4 = .agg #[.int .i64 y.1, .int .i64 y.2.1, .int .i64 y.2.2] := hF 4 (by decide)
        have g5 : vals 5 = .bool bo := hF 5 (by decide)
        change Exit.then _ _ Exit.normal { tmps := #[.slice (some ⟨g, 0, none⟩) n C, .agg #[.int .i64 z.1, .int .i64 z.2.1, .int .i64 z.2.2], undef, .pointer (some ⟨w.heap.size, 0, none⟩), u4, .int .i64 (i : Int), .slice (some ⟨g, 0, none⟩) n C, .int .i64 (n : Int), .int .i64 (i : Int), .bool true, .int .i64 (i : Int), vals 0, vals 1, vals 2, vals 3, vals 4, vals 5, u17, u18], defers := [] } w0
        simp only [g0, g1, g2, g3, g4, g5]
        clear ht hF KF KP IV
        obtain rfl : w0 = wr.drewN 1 := hI
        clear hall
        have HB2 := Lib.hid (show Below X.heap.size X (wr.drewN 1) from HB.out.drew)
        cases hbo : bo with
        | true =>
          have he : z = y := by have := HBO.out; rw [eqSrc_iff, hbo] at this; simpa using this.symm
          subst he
          clear hbo
          go_wp2
          go_ret
          exact ⟨⟨_, rfl, by have := ME.out; simp [this]⟩, BX.out.trans (HB2.out.mono BX.out.size)⟩
        | false =>
          have he : ¬ z = y := by have := HBO.out; rw [eqSrc_iff, hbo] at this; simpa using this.symm
          have NX := Lib.hid (show z ∉ xs.take (i + 1) by rw [ST.out]; intro h; rcases List.mem_append.1 h with h | h; exact NO.out h; exact he (List.mem_singleton.1 h))
          clear hbo
          go_wp2
          go_roundw
          case rel => exact ⟨HB2.out, i + 1, by omega, by go_num, NX.out⟩
          case measure => first | (simp [intOf]; done) | (simp [intOf]; omega)
    · have li : ¬ (i : Int) < (n : Int) := by omega
      have hno : z ∉ xs := by have := NO.out; rwa [List.take_of_length_le (by have := NE.out; omega)] at this
      go_wp2
      go_ret
      exact ⟨⟨_, rfl, by simp [hno]⟩, BX.out.trans (HB.out.mono BX.out.size)⟩
theorem has_srcs (A : Option Addr) (C : Nat) (xs : List Sr) (z : Sr) (w : World) (h : SrcsAt w A xs) (hn : xs.length ≤ 1000000) :
    Calls Try.prog 34 #[.slice A xs.length C, .agg #[.int .i64 z.1, .int .i64 z.2.1, .int .i64 z.2.2]] w fun e w' => e = .returned (.bool (decide (z ∈ xs))) ∧ Below w.heap.size w w' := by
  have bX := (Below.refl w.heap.size w).alloc (Nat.le_refl _) (.cells #[.int .i64 z.1, .int .i64 z.2.1, .int .i64 z.2.2] 54)
  have LX := Lib.hid (lies_new w 54 #[.int .i64 z.1, .int .i64 z.2.1, .int .i64 z.2.2])
  have H := Lib.hid (index_srcs A C xs z _ (srcsAt_below h bX) hn)
  have BX := Lib.hid bX
  have LR := Lib.hid (three_range LX.out)
  clear h bX
  generalize xs.length = n at *
  go_enter Try.func34, Try.ntmps34
  go_wp2_with (first
    | (refine wpList_load_mid rfl 54 _ rfl w.heap.size 0 rfl [.int .i64 z.1, .int .i64 z.2.1, .int .i64 z.2.2] _ LR.out Try.underlying54 rfl (by kernel_rfl) ?_)
    | (go_at_call 53; (with_reducible refine H.out.mono ?_); rintro e w1 ⟨⟨k, rfl, hz⟩, hb⟩; have HZ := Lib.hid hz; have B1 := Lib.hid (BX.out.trans (hb.mono BX.out.size)); clear hz hb))
  go_ret
  exact ⟨congrArg (fun b => Ending.returned (.bool b)) HZ.out, B1.out⟩
theorem pcheck_any (NS FS NT FT : Option Addr) (ns fs nt ft : Nat) (sn tn : List Nd) (sf tf : List Fl) (w : World) (hNS : NodesAt w NS sn) (hFS : FilesAt w FS sf) (hNT : NodesAt w NT tn) (hFT : FilesAt w FT tf) (hp : ∀ x ∈ sn, x.path.length ≤ 100000) (hq : ∀ x ∈ tn, x.path.length ≤ 100000) :
    Calls Try.prog 30 #[.agg #[.slice NS sn.length ns, .slice FS sf.length fs], .agg #[.slice NT tn.length nt, .slice FT tf.length ft]] w fun e w' => e = .returned (.int .i64 (if checkE sn sf = 0 then checkE tn tf else checkE sn sf)) ∧ Below w.heap.size w w' := by
  have B0 : Below w.heap.size w ((w.alloc (.cells #[.slice NS sn.length ns, .slice FS sf.length fs] 25)).alloc (.cells #[.slice NT tn.length nt, .slice FT tf.length ft] 25)) := ((Below.refl _ _).alloc (Nat.le_refl _) _).alloc (by simp) _
  have K1 := Lib.hid (check_any NS FS ns fs sn sf _ (nodesAt_below hNS B0) (filesAt_below hFS B0) hp)
  have K2 := Lib.hid (fun (W : World) (h : Below w.heap.size w W) => check_any NT FT nt ft tn tf W (nodesAt_below hNT h) (filesAt_below hFT h) hq)
  have L0 := lies_alloc (lies_new w 25 #[.slice NS sn.length ns, .slice FS sf.length fs]) (.cells #[.slice NT tn.length nt, .slice FT tf.length ft] 25)
  have L1 := lies_new (w.alloc (.cells #[.slice NS sn.length ns, .slice FS sf.length fs] 25)) 25 #[.slice NT tn.length nt, .slice FT tf.length ft]
  rw [World.size_alloc] at L1
  have HL := Lib.hid L1
  have R0 := Lib.hid (lies_range L0)
  have R1 := Lib.hid (lies_range L1)
  have Z0 := Lib.hid (show ((w.alloc (.cells #[.slice NS sn.length ns, .slice FS sf.length fs] 25)).alloc (.cells #[.slice NT tn.length nt, .slice FT tf.length ft] 25)).heap.size = w.heap.size + 2 by simp)
  have B0 := Lib.hid B0
  clear hNS hFS hNT hFT L0 L1
  generalize checkE sn sf = r1 at *
  generalize checkE tn tf = r2 at *
  generalize sn.length = xs at *
  generalize sf.length = ys at *
  generalize tn.length = xt at *
  generalize tf.length = yt at *
  by_cases h0 : r1 = 0
  · subst h0
    rw [if_pos rfl]
    go_enter Try.func30, Try.ntmps30
    go_wp2_with (first
      | (refine wpList_load_mid rfl 25 _ rfl w.heap.size 0 rfl [.slice NS xs ns, .slice FS ys fs] _ R0.out Try.underlying25 rfl (by kernel_rfl) ?_)
      | (go_at_call 41; (with_reducible refine K1.out.mono ?_); rintro e w1 ⟨rfl, hb⟩; have B1 := Lib.hid (B0.out.trans (hb.mono B0.out.size)); have R2 := Lib.hid (lies_range (lies_below HL.out hb (lies_lt HL.out))); have K3 := Lib.hid (K2.out w1 B1.out); clear hb)
      | (refine wpList_load_mid rfl 25 _ rfl (w.heap.size + 1) 0 rfl [.slice NT xt nt, .slice FT yt ft] _ R2.out Try.underlying25 rfl (by kernel_rfl) ?_)
      | (go_at_call 41; (with_reducible refine K3.out.mono ?_); rintro e w2 ⟨rfl, hb⟩; have B2 := Lib.hid (B1.out.trans (hb.mono B1.out.size)); clear hb))
    go_ret
    exact ⟨rfl, B2.out⟩
  · rw [if_neg h0]
    have h0' : (r1 == 0) = false := by simpa using h0
    go_enter Try.func30, Try.ntmps30
    go_wp2_with (first
      | (refine wpList_load_mid rfl 25 _ rfl w.heap.size 0 rfl [.slice NS xs ns, .slice FS ys fs] _ R0.out Try.underlying25 rfl (by kernel_rfl) ?_)
      | (go_at_call 41; (with_reducible refine K1.out.mono ?_); rintro e w1 ⟨rfl, hb⟩; have B1 := Lib.hid (B0.out.trans (hb.mono B0.out.size)); clear hb))
    go_ret
    exact ⟨rfl, B1.out⟩
end Go.Proofs.Ytiglakhfkgeefaa
set_option linter.unusedSimpArgs false
set_option linter.unusedVariables false
namespace Go.Mat
open Go.Pth Go.Tre
abbrev z3 : Sr := (0, 0, 0)
def skP (named : Bt → Option Int) (nm : Nat → List Bt) (stock : Bt → Option Int) (j : Nat) (s : MS) (f : Nat) (l : Bt) : Sr × MS := match j with
  | 0 => seek1S (nm f) named s (f : Int) l
  | 1 => seek2S s (f : Int) l
  | _ => seek3S stock s (f : Int) l
abbrev Mst := List Sr × MS
def stepM (sk : MS → Nat → Bt → Sr × MS) (st : Mst) (x : TxK) : Mst := if st.1.getD x.1.1 z3 = z3 then (st.1.set x.1.1 (sk st.2 x.1.1 x.1.2).1, (sk st.2 x.1.1 x.1.2).2) else st
def passM (sk : MS → Nat → Bt → Sr × MS) (xs : List TxK) (st : Mst) : Mst := xs.foldl (stepM sk) st
theorem passM_snoc (sk : MS → Nat → Bt → Sr × MS) (pre : List TxK) (x : TxK) (st : Mst) : passM sk (pre ++ [x]) st = stepM sk (passM sk pre st) x := by unfold passM; rw [List.foldl_append]; rfl
theorem passM_len (sk : MS → Nat → Bt → Sr × MS) : ∀ (xs : List TxK) (st : Mst), (passM sk xs st).1.length = st.1.length
  | [], _ => rfl
  | x :: r, st => by
    show (passM sk r (stepM sk st x)).1.length = _
    rw [passM_len sk r]
    unfold stepM
    split <;> simp
end Go.Mat
namespace Go.Proofs.Ytiglakhfkgeefaa
open Go.Pth Go.Tre Go.RowKit Go.Word Go.Shelf Go.Mat
theorem lies_walk {W : World} {q t m : Nat} {cs : Array Value} (hl : Lies W q t cs) (hm : ∃ o : Obj, W.heap[m]? = some o ∧ o.isWalk = true) : q ≠ m := fun e => by
  subst e
  obtain ⟨o, ho, hw⟩ := hm
  rw [show _ = _ from hl] at ho
  injection ho with ho
  subst ho
  cases hw
theorem nms_by {w w' : World} {g base k : Nat} {nm : Nat → List Bt} {row : Option Nat} (h : NmsAt w g base k nm) (hg : w.grownBy w' row) (hr : ∀ r, row = some r → ∀ cs ty, w.heap[r]? = some (.cells cs ty (0, 0)) → ty ≠ 56 ∧ ty ≠ 9) : NmsAt w' g base k nm := by
  obtain ⟨cs, hl1, hs, ho, ha⟩ := h
  refine ⟨cs, (hg.block g (lies_lt hl1) (fun e => (hr g e.symm _ _ hl1).1 rfl)).trans hl1, hs, fun f hf => (ho f hf).kept hg ?_, ha⟩
  cases hb : (cs.getD f undef).ownBlock with
  | none => exact .inl rfl
  | some r =>
    refine .inr (fun e => ?_)
    rcases (ho f hf).2 with ⟨e1, _⟩ | ⟨q', cap, cur, e1, _, h6, _⟩
    · rw [e1] at hb; simp [Value.ownBlock] at hb
    · rw [e1] at hb
      simp only [Value.ownBlock, Option.some.injEq] at hb
      subst hb
      exact (hr _ e.symm _ _ h6).2 rfl
theorem nms_km {w w' : World} {g k base mF m1 : Nat} {nm : Nat → List Bt} (h : NmsAt w g (g + 1) k nm) (hk : KM w w' base mF m1) (hF : ∃ o : Obj, w.heap[mF]? = some o ∧ o.isWalk = true) (h1 : ∃ o : Obj, w.heap[m1]? = some o ∧ o.isWalk = true) : NmsAt w' g (g + 1) k nm := by
  obtain ⟨cs, hl1, hs, ho, ha⟩ := h
  refine ⟨cs, km_lies hk hl1 (by decide) (lies_walk hl1 hF) (lies_walk hl1 h1), hs, fun f hf => ?_, ha⟩
  have hof := ho f hf
  refine ⟨hof.1, ?_⟩
  rcases hof.2 with e1 | ⟨q', cap, cur, e1, hq, h6, h7⟩
  · exact .inl e1
  · exact .inr ⟨q', cap, cur, e1, hq, km_lies hk (show Lies _ _ _ _ from h6) (by decide) (lies_walk (show Lies _ _ _ _ from h6) hF) (lies_walk (show Lies _ _ _ _ from h6) h1), h7⟩
section
variable {W W' : World} {B : Nat} {t : Tid} {k n n1 nN nS n' n1' : Nat} {s s' : MS} {named : Bt → Option Int} {nm : Nat → List Bt} {stock : Bt → Option Int}
theorem tms_km (h : TmsAt W B t k n n1 nN nS s named nm stock) (hk : KM W W' (t.mF + 1) t.mF t.m1) (hS : ShelfAt W' (t.mF + 1) t.mF n' s'.F) (hN : NumM W' t.m1 n1' s'.f1) : TmsAt W' B t k n' n1' nN nS s' named nm stock :=
  have wF := shelf_walk h.hS
  have w1 := numM_walk h.hN
  have kl : ∀ {q ty cs}, Lies W q ty cs → ty ≠ 3 → Lies W' q ty cs := fun hl ht => km_lies hk hl ht (lies_walk hl wF) (lies_walk hl w1)
  ⟨kl h.h7 (by decide), kl h.h8 (by decide), kl h.h9 (by decide), kl h.h10 (by decide), kl h.h11 (by decide), kl h.h12 (by decide), hS, hN, km_num hk h.hM h.dN.1 h.dN.2, km_num hk h.hK h.dS.1 h.dS.2, nms_km h.hT hk wF w1, h.d1, h.dN, h.dS, h.lo⟩
theorem tms_by {row : Option Nat} (h : TmsAt W B t k n n1 nN nS s named nm stock) (hg : W.grownBy W' row) (hr : ∀ r, row = some r → (r ≠ t.mF ∧ r ≠ t.m1 ∧ r ≠ t.mN ∧ r ≠ t.mS) ∧ ∀ cs ty, W.heap[r]? = some (.cells cs ty (0, 0)) → ty = 54) : TmsAt W' B t k n n1 nN nS s named nm stock :=
  have kl : ∀ {q ty cs}, Lies W q ty cs → ty ≠ 54 → Lies W' q ty cs := fun {q ty cs} hl ht => (hg.block q (lies_lt hl) (fun e => ht ((hr q e.symm).2 _ _ hl))).trans hl
  have kn : ∀ {b m : Nat} {G : Bt → Option Int}, NumM W b m G → (∀ r, row = some r → r ≠ b) → NumM W' b m G := fun {b m G} hn hb => numM_same hn (hg.block b (numM_lt hn) (fun e => hb b e.symm rfl))
  ⟨kl h.h7 (by decide), kl h.h8 (by decide), kl h.h9 (by decide), kl h.h10 (by decide), kl h.h11 (by decide), kl h.h12 (by decide),
    shelf_other h.hS hg (fun e => (hr _ e).1.1 rfl) (fun r e cs h5 => by cases (hr r e).2 _ _ h5), kn h.hN (fun r e => (hr r e).1.2.1), kn h.hM (fun r e => (hr r e).1.2.2.1), kn h.hK (fun r e => (hr r e).1.2.2.2), nms_by h.hT hg (fun r e cs ty h5 => by rw [(hr r e).2 _ _ h5]; exact ⟨by decide, by decide⟩), h.d1, h.dN, h.dS, h.lo⟩
end
def fidS (j : Nat) : Nat := match j with | 0 => 48 | 1 => 50 | _ => 51
def capS (t : Tid) (j : Nat) : Array Value := match j with
  | 0 => #[.pointer (some ⟨t.b9, 0, none⟩), .pointer (some ⟨t.b8, 0, none⟩), .pointer (some ⟨t.b7, 0, none⟩), .pointer (some ⟨t.b12, 0, none⟩)]
  | 1 => #[.pointer (some ⟨t.b7, 0, none⟩), .pointer (some ⟨t.b12, 0, none⟩)]
  | _ => #[.pointer (some ⟨t.b10, 0, none⟩), .pointer (some ⟨t.b11, 0, none⟩)]
theorem seek_any {W : World} {B : Nat} {t : Tid} {k n n1 nN nS : Nat} {s : MS} {named : Bt → Option Int} {nm : Nat → List Bt} {stock : Bt → Option Int} (h : TmsAt W B t k n n1 nN nS s named nm stock) (j : Nat) (f : Nat) (l : Bt) (hf : f < k) (hf2 : f ≤ 1000000) (hl : l.length ≤ 100000) (hn : n ≤ 80000) (hn1 : n1 ≤ 80000) (hm : (nm f).length ≤ 100000) (hx : ∀ x ∈ nm f, x.length ≤ 100000) :
    Calls Try.prog (fidS j) (#[.int .i64 (f : Int), St l] ++ capS t j) W fun e W' => e = .returned (.agg #[.int .i64 (skP named nm stock j s f l).1.1, .int .i64 (skP named nm stock j s f l).1.2.1, .int .i64 (skP named nm stock j s f l).1.2.2]) ∧ TmsAt W' B t k (n + 1) (n1 + 1) nN nS (skP named nm stock j s f l).2 named nm stock ∧ KM W W' (t.mF + 1) t.mF t.m1 := by
  have wF := shelf_walk h.hS
  have w1 := numM_walk h.hN
  match j with
  | 0 =>
    obtain ⟨A, C, hc, hT⟩ := nms_at h.hT f hf
    refine (seek1_any t.b7 t.b8 t.b9 t.b10 t.b12 (t.mF + 1) t.mF t.m1 t.mN t.ng n n1 nN k k C A s named (nm f) f l W h.h7 h.h8 h.h9 h.h10 h.h12 h.hS h.hN h.hM (nms_lt h.hT) hc hT hf hm hx h.d1 ⟨lies_walk h.h7 wF, lies_walk h.h7 w1⟩ ⟨lies_walk h.h10 wF, lies_walk h.h10 w1⟩ hl hn hn1 hf2).mono ?_
    rintro e W' ⟨e1, h1, h2, h3⟩
    exact ⟨e1, tms_km h h3 h1 h2, h3⟩
  | 1 =>
    refine (seek2_any t.b7 t.b10 t.b12 (t.mF + 1) t.mF t.m1 n n1 s f l W h.h7 h.h10 h.h12 h.hS h.hN h.d1 ⟨lies_walk h.h7 wF, lies_walk h.h7 w1⟩ ⟨lies_walk h.h10 wF, lies_walk h.h10 w1⟩ hl hn hn1 ⟨by omega, by omega⟩).mono ?_
    rintro e W' ⟨e1, h1, h2, h3⟩
    exact ⟨e1, tms_km h h3 h1 h2, h3⟩
  | j + 2 =>
    refine (seek3_any t.b10 t.b11 (t.mF + 1) t.mF t.m1 t.mS n n1 nS s stock f l W h.h10 h.h11 h.hS h.hN h.hK h.d1 hl hn1 ⟨by omega, by omega⟩).mono ?_
    rintro e W' ⟨e1, h1, h2, h3⟩
    exact ⟨e1, tms_km h h3 (shelf_mono h1 (Nat.le_succ _)) h2, h3⟩
/-! ### The row of sources -/
def SrcR (W : World) (g : Nat) (xs : List Sr) : Prop := ∃ cs, Lies W g 54 cs ∧ cs.size = xs.length * 3 ∧ ∀ i (h : i < xs.length), cs[i * 3]? = some (.int .i64 xs[i].1) ∧ cs[i * 3 + 1]? = some (.int .i64 xs[i].2.1) ∧ cs[i * 3 + 2]? = some (.int .i64 xs[i].2.2)
theorem srcR_at {W : World} {g : Nat} {xs : List Sr} (h : SrcR W g xs) (i : Nat) (hi : i < xs.length) : W.rangeAt g (i * 3) (srL xs[i]) := by
  obtain ⟨cs, hl, hs, hc⟩ := h
  obtain ⟨a, b, c⟩ := hc i hi
  intro j v hj
  match j, hj with
  | 0, hj => injection hj with hj; subst hj; exact (lies_cell hl (i * 3)).trans a
  | 1, hj => injection hj with hj; subst hj; exact (lies_cell hl (i * 3 + 1)).trans b
  | 2, hj => injection hj with hj; subst hj; exact (lies_cell hl (i * 3 + 2)).trans c
  | j + 3, hj => simp [srL] at hj
theorem srcR_there {W : World} {g : Nat} {xs : List Sr} (h : SrcR W g xs) (i : Nat) (hi : i < xs.length) : W.there g (i * 3) 3 := by
  obtain ⟨cs, hl, hs, hc⟩ := h
  intro j hj
  refine ⟨?_, lies_free hl _⟩
  rw [lies_cell hl, Array.getElem?_eq_getElem (by omega)]
  rfl
theorem srcR_srcs {W : World} {g : Nat} {xs : List Sr} (h : SrcR W g xs) : SrcsAt W (some ⟨g, 0, none⟩) xs := fun i hi => ⟨g, rfl, by obtain ⟨cs, hl, _⟩ := h; exact lies_lt hl, srcR_at h i hi⟩
theorem srcR_keep {W W' : World} {g : Nat} {xs : List Sr} (h : SrcR W g xs) (hb : W'.heap[g]? = W.heap[g]?) : SrcR W' g xs := by
  obtain ⟨cs, hl, hs⟩ := h
  exact ⟨cs, hb.trans hl, hs⟩
theorem srcR_lies {W : World} {g : Nat} {xs : List Sr} (h : SrcR W g xs) : ∃ cs, Lies W g 54 cs := by
  obtain ⟨cs, hl, _⟩ := h
  exact ⟨cs, hl⟩
theorem grown_cell (W : World) (g o : Nat) (v : Value) : W.grownBy (W.setCell ⟨g, o, none⟩ v) (some g) := ⟨rfl, rfl, rfl, by simp, fun i hi hne => heap_setCell_other W ⟨g, o, none⟩ i _ (fun e => hne (by rw [e]))⟩
theorem grown_trans {a b c : World} {r : Option Nat} (h : a.grownBy b r) (k : b.grownBy c r) : a.grownBy c r := ⟨k.os.trans h.os, k.tape.trans h.tape, k.output.trans h.output, Nat.le_trans h.size k.size, fun i hi hne => (k.block i (Nat.lt_of_lt_of_le hi h.size) hne).trans (h.block i hi hne)⟩
theorem srcR_set {W : World} {g : Nat} {xs : List Sr} (h : SrcR W g xs) (i : Nat) (hi : i < xs.length) (y : Sr) : SrcR (W.setCells g (i * 3) (srL y)) g (xs.set i y) ∧ W.grownBy (W.setCells g (i * 3) (srL y)) (some g) := by
  obtain ⟨cs, hl, hs, hc⟩ := h
  have e : W.setCells g (i * 3) (srL y) = ((W.setCell ⟨g, i * 3, none⟩ (.int .i64 y.1)).setCell ⟨g, i * 3 + 1, none⟩ (.int .i64 y.2.1)).setCell ⟨g, i * 3 + 1 + 1, none⟩ (.int .i64 y.2.2) := by
    simp only [srL, World.setCells]
  rw [e]
  refine ⟨⟨_, lies_set (lies_set (lies_set hl (i * 3) _) (i * 3 + 1) _) (i * 3 + 1 + 1) _, by simp [hs], fun q hq => ?_⟩, grown_trans (grown_trans (grown_cell _ _ _ _) (grown_cell _ _ _ _)) (grown_cell _ _ _ _)⟩
  rw [List.length_set] at hq
  by_cases he : q = i
  · subst he
    simp only [List.getElem_set_self]
    refine ⟨?_, ?_, ?_⟩ <;> (simp only [Array.getElem?_setIfInBounds, Array.size_setIfInBounds, hs]; repeat' split) <;> first | rfl | (exfalso; omega) | exact absurd trivial (by assumption)
  · have hx := hc q hq
    rw [List.getElem_set_ne (Ne.symm he)]
    refine ⟨?_, ?_, ?_⟩ <;> (simp only [Array.getElem?_setIfInBounds]; rw [if_neg (by omega), if_neg (by omega), if_neg (by omega)]) <;> first | exact hx.1 | exact hx.2.1 | exact hx.2.2
theorem srcR_made (W : World) (k : Nat) : SrcR (W.alloc (.cells (madeCells #[.int .i64 0, .int .i64 0, .int .i64 0] (k * 3)) 54)) W.heap.size (List.replicate k z3) := by
  refine ⟨_, lies_new W 54 _, by rw [size_madeCells, List.length_replicate], fun i hi => ?_⟩
  rw [List.length_replicate] at hi
  have e : ∀ q, q < k * 3 → (madeCells #[.int .i64 0, .int .i64 0, .int .i64 0] (k * 3))[q]? = some (.int .i64 0) := fun q hq => by
    rw [Array.getElem?_eq_getElem (by rw [size_madeCells]; exact hq)]
    unfold madeCells
    simp only [Array.getElem_map, Array.getElem_range]
    have h3 : q % 3 = 0 ∨ q % 3 = 1 ∨ q % 3 = 2 := by omega
    rcases h3 with h | h | h <;> simp [h]
  simp only [List.getElem_replicate]
  exact ⟨e _ (by omega), e _ (by omega), e _ (by omega)⟩
end Go.Proofs.Ytiglakhfkgeefaa
set_option linter.unusedSimpArgs false
set_option linter.unusedVariables false
namespace Go.Proofs.Ytiglakhfkgeefaa
open Go.Pth Go.Tre Go.RowKit Go.Word Go.Shelf Go.Mat
def fvS (t : Tid) (j : Nat) : Value := .func (.func (fidS j)) #[] (capS t j)
structure MatI (w W : World) (t : Tid) (gs bs gr bt : Nat) (TV : Array Value) (k ys c xs zl : Nat) (st : Mst) (named : Bt → Option Int) (nm : Nat → List Bt) (stock : Bt → Option Int) : Prop where
  tm : TmsAt W w.heap.size t k (ys + c) c xs zl st.2 named nm stock
  hg : Lies W gs 70 #[fvS t 0, fvS t 1, fvS t 2]
  hb : Lies W bs 33 #[.slice (some ⟨gr, 0, none⟩) k k]
  hr : SrcR W gr st.1
  ht : Lies W bt 25 TV
  len : st.1.length = k
  low : Below w.heap.size w W
  lo : w.heap.size ≤ gr
section
variable {w W W' : World} {t : Tid} {gs bs gr bt : Nat} {TV : Array Value} {k ys c xs zl : Nat} {st : Mst} {named : Bt → Option Int} {nm : Nat → List Bt} {stock : Bt → Option Int}
theorem matI_by {row : Option Nat} (h : MatI w W t gs bs gr bt TV k ys c xs zl st named nm stock) (hg : W.grownBy W' row) (hr : ∀ r, row = some r → ((r ≠ t.mF ∧ r ≠ t.m1 ∧ r ≠ t.mN ∧ r ≠ t.mS) ∧ w.heap.size ≤ r) ∧ ∀ cs ty, W.heap[r]? ≠ some (.cells cs ty (0, 0))) : MatI w W' t gs bs gr bt TV k ys c xs zl st named nm stock :=
  have kl : ∀ {q ty cs}, Lies W q ty cs → Lies W' q ty cs := fun {q ty cs} hl => (hg.block q (lies_lt hl) (fun e => (hr q e.symm).2 _ _ hl)).trans hl
  ⟨tms_by h.tm hg (fun r e => ⟨(hr r e).1.1, fun cs ty h5 => absurd h5 ((hr r e).2 cs ty)⟩), kl h.hg, kl h.hb, (by
    obtain ⟨cs, hl, hs⟩ := h.hr
    exact ⟨cs, kl hl, hs⟩), kl h.ht, h.len, h.low.grown hg h.low.size (fun r e => (hr r e).1.2), h.lo⟩
theorem matI_grown0 (h : MatI w W t gs bs gr bt TV k ys c xs zl st named nm stock) (hg : W.grownBy W' none) : MatI w W' t gs bs gr bt TV k ys c xs zl st named nm stock := matI_by h hg (fun r e => by cases e)
theorem matI_mono (h : MatI w W t gs bs gr bt TV k ys c xs zl st named nm stock) : MatI w W t gs bs gr bt TV k ys (c + 1) xs zl st named nm stock :=
  ⟨⟨h.tm.h7, h.tm.h8, h.tm.h9, h.tm.h10, h.tm.h11, h.tm.h12, shelf_mono h.tm.hS (by omega), numM_mono h.tm.hN (by omega), h.tm.hM, h.tm.hK, h.tm.hT, h.tm.d1, h.tm.dN, h.tm.dS, h.tm.lo⟩, h.hg, h.hb, h.hr, h.ht, h.len, h.low, h.lo⟩
theorem matI_maps (h : MatI w W t gs bs gr bt TV k ys c xs zl st named nm stock) : t.mF < W.heap.size ∧ t.m1 < W.heap.size ∧ t.mN < W.heap.size ∧ t.mS < W.heap.size := ⟨(shelf_lt h.tm.hS).1, numM_lt h.tm.hN, numM_lt h.tm.hM, numM_lt h.tm.hK⟩
set_option maxHeartbeats 1000000 in
theorem match_round (h : MatI w W t gs bs gr bt TV k ys c xs zl st named nm stock) (j : Nat) (x : TxK) (hxk : x.1.1 < k) (hz : st.1.getD x.1.1 z3 = z3) (hc : ys + c ≤ 80000) (hm : (nm x.1.1).length ≤ 100000) (hx : ∀ y ∈ nm x.1.1, y.length ≤ 100000) :
    Calls Try.prog (fidS j) (#[.int .i64 (x.1.1 : Int), St x.1.2] ++ capS t j) (W.drewN 1) fun e W1 => e = .returned (.agg (srL (skP named nm stock j st.2 x.1.1 x.1.2).1).toArray) ∧ Lies W1 bs 33 #[.slice (some ⟨gr, 0, none⟩) k k] ∧ W1.there gr (x.1.1 * 3) 3 ∧
      MatI w (W1.setCells gr (x.1.1 * 3) (srL (skP named nm stock j st.2 x.1.1 x.1.2).1)) t gs bs gr bt TV k ys (c + 1) xs zl (stepM (skP named nm stock j) st x) named nm stock ∧
      (∀ q ty cs, Lies W q ty cs → ty ≠ 3 → ty ≠ 54 → Lies (W1.setCells gr (x.1.1 * 3) (srL (skP named nm stock j st.2 x.1.1 x.1.2).1)) q ty cs) ∧
      (∀ i, (i < w.heap.size ∨ ∃ ty cs, Lies W i ty cs ∧ ty ≠ 3 ∧ ty ≠ 54) → (W1.setCells gr (x.1.1 * 3) (srL (skP named nm stock j st.2 x.1.1 x.1.2).1)).heap[i]? = W.heap[i]?) ∧
      (∀ B, t.mF < B → t.m1 < B → KeepsFrom B W (W1.setCells gr (x.1.1 * 3) (srL (skP named nm stock j st.2 x.1.1 x.1.2).1))) := by
  have g0 : W.grownBy (W.drewN 1) none := ⟨rfl, rfl, rfl, Nat.le_refl _, fun _ _ _ => rfl⟩
  have h0 := matI_grown0 h g0
  have wF := shelf_walk h0.tm.hS
  have w1 := numM_walk h0.tm.hN
  refine (seek_any h0.tm j x.1.1 x.1.2 hxk (by have := x.2.1; omega) x.2.2 hc (by omega) hm hx).mono ?_
  rintro e W1 ⟨e1, hT, hK⟩
  generalize hr : skP named nm stock j st.2 x.1.1 x.1.2 = r at *
  have kl : ∀ {q ty cs}, Lies W q ty cs → ty ≠ 3 → Lies W1 q ty cs := fun {q ty cs} hl ht => km_lies hK (show Lies (W.drewN 1) q ty cs from hl) ht (lies_walk (show Lies (W.drewN 1) q ty cs from hl) wF) (lies_walk (show Lies (W.drewN 1) q ty cs from hl) w1)
  have hsr : SrcR W1 gr st.1 := by
    obtain ⟨cs, hl, hs⟩ := h.hr
    exact ⟨cs, kl hl (by decide), hs⟩
  have hl0 := h.len
  have hi : x.1.1 < st.1.length := by omega
  obtain ⟨hs2, hg2⟩ := srcR_set hsr x.1.1 hi r.1
  have hst : stepM (skP named nm stock j) st x = (st.1.set x.1.1 r.1, r.2) := by
    unfold stepM
    rw [if_pos hz, hr]
  obtain ⟨csr, hlr⟩ := srcR_lies hsr
  have k2 : ∀ q ty cs, Lies W q ty cs → ty ≠ 3 → ty ≠ 54 → Lies (W1.setCells gr (x.1.1 * 3) (srL r.1)) q ty cs := fun q ty cs hl h3 h4 =>
    (hg2.block q (lies_lt (kl hl h3)) (fun e => lies_one (kl hl h3) hlr h4 (by injection e with e))).trans (kl hl h3)
  have lowK : Below w.heap.size w W1 := h.low.trans (by
    have hb := km_below (B := w.heap.size) hK h.tm.lo.1 h.tm.lo.2 (by have := h.tm.lo.1; omega) (by have := h.low.size; exact this)
    exact ⟨hb.os, hb.tape, hb.output, hb.size, hb.block⟩)
  refine ⟨e1, kl h.hb (by decide), srcR_there hsr _ hi, ?_, k2, fun i hi => ?_, fun B b1 b2 => ⟨?_, fun q o hB ho hcell => ?_⟩⟩
  · rw [hst]
    refine ⟨?_, k2 _ _ _ h.hg (by decide) (by decide), k2 _ _ _ h.hb (by decide) (by decide), hs2, k2 _ _ _ h.ht (by decide) (by decide), ?_, lowK.grown hg2 lowK.size (fun q e => by injection e with e; have := h.lo; omega), h.lo⟩
    · have ht2 := tms_by hT hg2 (fun q e => by
        injection e with e
        subst e
        refine ⟨⟨lies_walk hlr (shelf_walk hT.hS), lies_walk hlr (numM_walk hT.hN), lies_walk hlr (numM_walk hT.hM), lies_walk hlr (numM_walk hT.hK)⟩, fun cs ty h5 => ?_⟩
        have e5 := (show W1.heap[gr]? = _ from hlr).symm.trans h5
        injection e5 with e5
        injection e5 with _ e5 _
        exact e5.symm)
      exact ht2
    · show (st.1.set x.1.1 r.1).length = k
      rw [List.length_set]
      exact h.len
  · rcases hi with hi | ⟨ty, cs, hl, h3, h4⟩
    · rw [(lowK.grown hg2 lowK.size (fun q e => by injection e with e; have := h.lo; omega)).block i hi, h.low.block i hi]
    · rw [show _ = _ from k2 i ty cs hl h3 h4, show _ = _ from hl]
  · exact Nat.le_trans hK.size hg2.size
  · have hlt : q < W.heap.size := (Array.getElem?_eq_some_iff.1 ho).1
    have e2 := hK.block q hlt (by omega) (by omega) (.inr (fun cs e => by
      rw [show (W.drewN 1).heap[q]? = _ from ho] at e
      injection e with e
      subst e
      cases hcell))
    have e3 := hg2.block q (Nat.lt_of_lt_of_le hlt hK.size) (fun e => by
      injection e with e
      subst e
      rw [show _ = _ from hlr] at e2
      rw [show (W.drewN 1).heap[q]? = _ from ho] at e2
      injection e2 with e2
      subst e2
      cases hcell)
    rw [e3, e2]
    exact ho
end
/-! ### The marks that the loops over the texts leave -/
def mkD (D : Nat) : Deferred := { target := .collected D, args := #[] }
def Dfs (B : Nat) (Ds : List Nat) (W : World) : Prop := Ds.Nodup ∧ ∀ D ∈ Ds, B ≤ D ∧ W.heap[D]? = some (.deferred (some []))
theorem leavesM_of_dfs {F : Fence} {n : Nat} {fn : Func} {tmps : Array Value} {R : Ending → World → Prop} (Jw : World → Prop) {B : Nat} (hJ : ∀ W D, B ≤ D → Jw W → W.heap[D]? = some (.deferred (some [])) → Jw (W.putObj D (.deferred none))) (hend : ∀ W, Jw W → LeavesIn F n Try.prog fn tmps R [] .returning W) :
    ∀ (Ds : List Nat) (W : World), Dfs B Ds W → Jw W → LeavesInM F n Try.prog fn tmps R (Ds.map mkD) .returning W
  | [], W, _, h => hend W h
  | D :: r, W, ⟨hn, hD⟩, h => by
    have hk := (hD D (List.mem_cons_self)).2
    refine ⟨by simp, .inl ⟨_, _, rfl, run_takeDeferred hk, leavesM_of_dfs Jw hJ hend r _ ⟨(List.nodup_cons.1 hn).2, fun E hE => ⟨(hD E (List.mem_cons_of_mem _ hE)).1, ?_⟩⟩ (hJ W D (hD D (List.mem_cons_self)).1 h hk)⟩⟩
    have hne : E ≠ D := fun e => (List.nodup_cons.1 hn).1 (by rw [← e]; exact hE)
    refine (World.putObj_heap_other (by omega)).trans ?_
    exact (hD E (List.mem_cons_of_mem _ hE)).2
end Go.Proofs.Ytiglakhfkgeefaa
set_option linter.unusedSimpArgs false
set_option linter.unusedVariables false
namespace Go.Proofs.Ytiglakhfkgeefaa
open Go.Pth Go.Tre Go.RowKit Go.Word Go.Shelf Go.Mat
set_option maxRecDepth 100000 in
set_option maxHeartbeats 4000000 in
theorem texts_stopsG {α : Type} (encs : α → Array Value) (nn : Nat) (hnn : 1 ≤ nn) (fs : List Fl) (hd : ∀ x ∈ fs, x.data.length ≤ 100000) (hn0 : fs.length ≤ 1000) (Bs : Nat) (Q : Nat → Prop) (FA : Option Addr) (fc : Nat) (w : World)
    (hb1 : w.cell? ⟨Bs, 1, none⟩ = some (.slice FA fs.length fc)) (hQB : Q Bs) (hQ : ∀ i, Q i → i < w.heap.size) (hF : FilesQ w Q FA fs) (LL : List α) (hLn : LL.length = fs.length) (hmk : ∀ i (h0 : i < LL.length) (h : i < fs.length), encs LL[i] = #[.int .i64 (i : Int), St fs[i].data]) :
    SeqStopsK .wide nn Try.prog 52 #[.pointer (some ⟨Bs, 0, none⟩)] encs (KQ Q) (fun ys => ys = LL) (fun _ => True) fs.length w := fun lp J Jx W hW hJ _ hY h0 => by
  have cB1 := (hW.cell (p := ⟨Bs, 1, none⟩) (hQ Bs hQB)).trans hb1
  have hKW : ∀ i, Q i → W.heap[i]? = w.heap[i]? := fun i hi => hW.block i (hQ i hi)
  obtain ⟨n, hne⟩ : ∃ n, n = fs.length := ⟨_, rfl⟩
  rw [← hne] at cB1 hn0
  have NE := Lib.hid hne
  have HD := Lib.hid hd
  have HF := Lib.hid (filesQ_same hF hKW)
  have HQ := Lib.hid (fun i hi => Nat.lt_of_lt_of_le (hQ i hi) hW.size)
  have HB := Lib.hid hQB
  have HL := Lib.hid hLn
  have HM := Lib.hid hmk
  clear hb1 hne hd hF hKW hQ hQB hLn hmk
  refine callsIn_of_wp Try.func52 rfl trivial ?_ rfl
  simp only [Try.ntmps52, List.size_toArray, List.length_cons, List.length_nil, Nat.reduceAdd, Nat.reduceSub, Array.replicate_succ, Array.replicate_zero, List.push_toArray, List.append_toArray, List.nil_append, List.cons_append]
  gi_wp2
  gi_loopw [3, 8] (fun _ v8 wr => ∃ j : Nat, j ≤ n ∧ v8 = .int .i64 (j : Int) ∧ J (LL.take j) wr ∧ (∀ k, Q k → wr.heap[k]? = W.heap[k]?) ∧ W.heap.size ≤ wr.heap.size) (fun _ v8 _ => n - (intOf v8).toNat)
  case atStart => exact ⟨0, Nat.zero_le _, rfl, by simpa using h0, fun _ _ => rfl, Nat.le_refl _⟩
  case round =>
    obtain ⟨j, hj, rfl, hJr, hK, hz⟩ := hrel
    have HJR := Lib.hid hJr
    have HK := Lib.hid hK
    have HZ := Lib.hid hz
    clear cB1 hJr hK hz
    by_cases hjl : j < n
    · have lj : (j : Int) < (n : Int) := by omega
      have lf : j < fs.length := by have := NE.out; omega
      obtain ⟨b, o, DA, dc, eA, hbQ, e1, e2, e3⟩ := HF.out j lf
      have hdl := HD.out fs[j] (List.getElem_mem _)
      subst eA
      have hcc : ∀ {b : Nat} (j : Nat), Q b → wr.cell? ⟨b, j, none⟩ = W.cell? ⟨b, j, none⟩ := fun j hb => World.cell?_of_block (a := ⟨_, j, none⟩) (HK.out _ hb)
      have d1 := (hcc (o + j * 2) hbQ).trans e1
      have d2 := (hcc (o + j * 2 + 1) hbQ).trans e2
      obtain ⟨y, hy0⟩ : ∃ y, y = LL[j]'(by have := HL.out; omega) := ⟨_, rfl⟩
      have FD := Lib.hid (show LL.take (j + 1) = LL.take j ++ [y] by rw [hy0]; exact List.take_succ_eq_append_getElem (by have := HL.out; omega))
      have FV := Lib.hid (show encs y = #[.int .i64 (j : Int), St fs[j].data] by rw [hy0]; exact HM.out j (by have := HL.out; omega) lf)
      clear hy0
      have hby : BytesQ wr Q DA fs[j].data := fun i hi => by
        obtain ⟨b', o', e', hq', hc'⟩ := e3 i hi
        exact ⟨b', o', e', hq', (hcc _ hq').trans hc'⟩
      have bx := (Below.refl wr.heap.size wr).alloc (Nat.le_refl _) (.cells #[.int .i64 fs[j].mode, .slice DA fs[j].data.length dc] 52)
      have CV := Lib.hid (run_text47 DA fs[j].data dc (wr.alloc (.cells #[.int .i64 fs[j].mode, .slice DA fs[j].data.length dc] 52)) (bytesAt_below (bytesQ_at hby (fun i hi => Nat.lt_of_lt_of_le (HQ.out i hi) HZ.out)) bx))
      clear e1 e2 e3 hby HM
      generalize fs[j] = x at *
      obtain ⟨md, d⟩ := x
      have CV : Hid ((convert 47 9 (.slice DA d.length dc)).run Try.prog (wr.alloc (.cells #[.int .i64 md, .slice DA d.length dc] 52)) = .ok (St d) (wr.alloc (.cells #[.int .i64 md, .slice DA d.length dc] 52))) := CV
      have d1 : wr.cell? ⟨b, o + j * 2, none⟩ = some (.int .i64 md) := d1
      have d2 : wr.cell? ⟨b, o + j * 2 + 1, none⟩ = some (.slice DA d.length dc) := d2
      have LM := Lib.hid (fileq_range (w := wr) (b := b) (o := o + j * 2) d1 d2)
      have LN := Lib.hid (lies_new wr 52 #[.int .i64 0, .slice none 0 0])
      have ES := Lib.hid (setRow_alloc wr 52 #[.int .i64 0, .slice none 0 0] #[.int .i64 md, .slice DA d.length dc])
      have x1 : (wr.alloc (.cells #[.int .i64 md, .slice DA d.length dc] 52)).cell? ⟨wr.heap.size, 1, none⟩ = some (.slice DA d.length dc) := lies_cell (lies_new wr 52 _) 1
      have JX := Lib.hid (hJ _ _ _ none HJR.out (World.grownBy_alloc wr (.cells #[.int .i64 md, .slice DA d.length dc] 52) _) (fun _ e => by cases e))
      have KX := Lib.hid (show ∀ k, Q k → (wr.alloc (.cells #[.int .i64 md, .slice DA d.length dc] 52)).heap[k]? = W.heap[k]? from fun k h1 => (bx.block k (by have := HQ.out k h1; have := HZ.out; omega)).trans (HK.out k h1))
      have ZX := Lib.hid (show W.heap.size ≤ (wr.alloc (.cells #[.int .i64 md, .slice DA d.length dc] 52)).heap.size from Nat.le_trans HZ.out bx.size)
      obtain ⟨fn, tmps, assign, body, hy, hR⟩ := hY (LL.take j) y _ JX.out (by rw [List.length_take]; have := HL.out; omega)
      rw [FV.out] at hy
      clear d1 d2 lf bx hdl
      have cv := CV.out
      generalize d.length = dn at *
      gi_wp2_with (first
        | (refine wpListIn_load_mid rfl 52 _ rfl b (o + j * 2) rfl [.int .i64 md, .slice DA dn dc] _ LM.out Try.underlying52 rfl (by kernel_rfl) ?_)
        | (refine wpListIn_store_row rfl 52 _ _ rfl wr.heap.size #[.int .i64 md, .slice DA dn dc] rfl rfl 52 _ LN.out (by kernel_rfl) rfl (by simp [Value.oneCell']) ?_; rw [ES.out]))
      refine hR.mono ?_
      rintro e W4 (⟨rfl, hJ4, hk4⟩ | ⟨rfl, hJx4⟩)
      · have J4 := Lib.hid (show J (LL.take (j + 1)) W4 by rw [FD.out]; exact hJ4)
        have KH4 := Lib.hid (show ∀ k, Q k → W4.heap[k]? = W.heap[k]? from fun k h1 => (hk4.1 k h1).trans (KX.out k h1))
        have Z4 := Lib.hid (Nat.le_trans ZX.out hk4.2)
        clear hJ4 hk4
        gi_wp2
        go_roundw
        case rel => exact ⟨j + 1, by omega, by go_num, J4.out, KH4.out, Z4.out⟩
        case measure => first | (simp [intOf]; done) | (simp [intOf]; omega)
      · gi_wp2
        refine bodyPost_ret (results_none rfl _ _ _) rfl ?_
        exact ⟨⟨_, rfl⟩, .inr ⟨_, trivial, hJx4⟩⟩
    · have lj : ¬ (j : Int) < (n : Int) := by omega
      have HA := Lib.hid (show LL.take j = LL from List.take_of_length_le (by have := HL.out; have := NE.out; omega))
      gi_wp2
      go_end0
      exact ⟨⟨_, rfl⟩, .inl (by rw [← HA.out]; exact HJR.out)⟩
abbrev TxN (k : Nat) := { x : TxK // x.1.1 < k }
def encTN {k : Nat} (x : TxN k) : Array Value := encX x.1
def txN (fs : List Fl) (h : fs.length ≤ 1000) : List (TxN fs.length) := List.ofFn fun i : Fin fs.length => ⟨txK i.1 fs[i.1].data, by show min i.1 1000 < fs.length; have := i.2; omega⟩
theorem txN_len (fs : List Fl) (h : fs.length ≤ 1000) : (txN fs h).length = fs.length := by simp [txN]
theorem txN_enc (fs : List Fl) (h : fs.length ≤ 1000) (hd : ∀ x ∈ fs, x.data.length ≤ 100000) (i : Nat) (h0 : i < (txN fs h).length) (hi : i < fs.length) : encTN (txN fs h)[i] = #[.int .i64 (i : Int), St fs[i].data] := by
  have e : ((txN fs h)[i]).1 = txK i fs[i].data := by simp [txN]
  show encX ((txN fs h)[i]).1 = _
  rw [e]
  unfold encX
  rw [txK_val i fs[i].data (by omega) (hd _ (List.getElem_mem _))]
theorem txN_map (fs : List Fl) (h : fs.length ≤ 1000) : (txN fs h).map (fun x => x.1) = txL (fs.map Fl.data) := by
  refine List.ext_getElem (by rw [List.length_map, txN_len]; unfold txL; rw [txTo_len, List.length_map]) fun i h1 h2 => ?_
  rw [List.length_map, txN_len] at h1
  unfold txN txL txTo
  simp [h1, List.getD_eq_getElem?_getD]
end Go.Proofs.Ytiglakhfkgeefaa
set_option linter.unusedSimpArgs false
set_option linter.unusedVariables false
namespace Go.Mat
open Go.Pth Go.Tre
theorem namesM_mem (ns : List Nd) (f : Nat) : ∀ y ∈ namesM ns f, ∃ x ∈ ns, y = x.path := by
  have go : ∀ (l : List Nd) (N : Nat → List Bt), (∀ y ∈ N f, ∃ x ∈ ns, y = x.path) → (∀ x ∈ l, x ∈ ns) → ∀ y ∈ l.foldl nameStep N f, ∃ x ∈ ns, y = x.path := by
    intro l
    induction l with
    | nil => intro N h _; exact h
    | cons x r ih =>
      intro N h hl
      rw [List.foldl_cons]
      refine ih _ (fun y hy => ?_) (fun z hz => hl z (List.mem_cons_of_mem _ hz))
      unfold nameStep at hy
      split at hy
      · by_cases e : f = x.file.toNat
        · simp only [e, if_true] at hy
          rcases List.mem_append.1 hy with hy | hy
          · exact h y (by rw [e]; exact hy)
          · exact ⟨x, hl x (List.mem_cons_self), List.mem_singleton.1 hy⟩
        · simp only [e, if_false] at hy
          exact h y hy
      · exact h y hy
  exact go ns (fun _ => []) (fun y hy => by cases hy) (fun x hx => hx)
end Go.Mat
namespace Go.Proofs.Ytiglakhfkgeefaa
open Go.Pth Go.Tre Go.RowKit Go.Word Go.Shelf Go.Mat
def InI (w w4 : World) (t : Tid) (gs bs gr bt : Nat) (TV : Array Value) (k ys c xs zl : Nat) (st : Mst) (named : Bt → Option Int) (nm : Nat → List Bt) (stock : Bt → Option Int) (Ds : List Nat) (bk : Nat) (fv : Value) (bq : Nat) (W : World) : Prop :=
  MatI w W t gs bs gr bt TV k ys c xs zl st named nm stock ∧ Dfs w4.heap.size Ds W ∧ Lies W bk 70 #[fv] ∧ Lies W bq 25 TV
section
variable {w w4 W W' : World} {t : Tid} {gs bs gr bt : Nat} {TV : Array Value} {k ys c xs zl : Nat} {st : Mst} {named : Bt → Option Int} {nm : Nat → List Bt} {stock : Bt → Option Int} {Ds : List Nat} {bk bq : Nat} {fv : Value}
theorem inI_by {B : Nat} {row : Option Nat} (h : InI w w4 t gs bs gr bt TV k ys c xs zl st named nm stock Ds bk fv bq W) (hg : W.grownBy W' row) (hr : ∀ r, row = some r → B ≤ r ∧ ∃ o : Obj, W.heap[r]? = some o ∧ o.isCells = false)
    (hB : (t.mF < B ∧ t.m1 < B ∧ t.mN < B ∧ t.mS < B) ∧ w.heap.size ≤ B ∧ ∀ D ∈ Ds, D < B) : InI w w4 t gs bs gr bt TV k ys c xs zl st named nm stock Ds bk fv bq W' := by
  obtain ⟨h1, ⟨h2, h2'⟩, h3, h4⟩ := h
  refine ⟨matI_by h1 hg (fun r e => ⟨⟨by have := (hr r e).1; omega, by have := (hr r e).1; omega⟩, fun cs ty h5 => ?_⟩), ⟨h2, fun D hD => ⟨(h2' D hD).1, ?_⟩⟩, lies_ownFrom h3 hg hr, lies_ownFrom h4 hg hr⟩
  · obtain ⟨_, o, ho, hc⟩ := hr r e
    rw [h5] at ho
    injection ho with ho
    subst ho
    cases hc
  · rw [hg.block D (Array.getElem?_eq_some_iff.1 (h2' D hD).2).1 (fun e => by have := (hr D e.symm).1; have := hB.2.2 D hD; omega)]
    exact (h2' D hD).2
theorem dfs_grown0 {B : Nat} (h : Dfs B Ds W) (hg : W.grownBy W' none) : Dfs B Ds W' := ⟨h.1, fun D hD => ⟨(h.2 D hD).1, (hg.block D (Array.getElem?_eq_some_iff.1 (h.2 D hD).2).1 (by simp)).trans (h.2 D hD).2⟩⟩
theorem dfs_lt {B : Nat} (h : Dfs B Ds W) : ∀ D ∈ Ds, D < W.heap.size := fun D hD => (Array.getElem?_eq_some_iff.1 (h.2 D hD).2).1
theorem dfs_keeps {B : Nat} (h : Dfs B Ds W) (hk : KeepsFrom B W W') : Dfs B Ds W' := ⟨h.1, fun D hD => ⟨(h.2 D hD).1, hk.same D _ (h.2 D hD).1 (h.2 D hD).2 rfl⟩⟩
theorem dfs_cons {B D : Nat} (h : Dfs B Ds W) (hB : B ≤ D) (hn : ∀ E ∈ Ds, E < D) (hk : W.heap[D]? = some (.deferred (some []))) : Dfs B (D :: Ds) W := ⟨List.nodup_cons.2 ⟨fun hm => by have := hn D hm; omega, h.1⟩, fun E hE => by
  rcases List.mem_cons.1 hE with rfl | hE
  · exact ⟨hB, hk⟩
  · exact h.2 E hE⟩
/-- the round where the source is there already -/
theorem inI_skip (h : InI w w4 t gs bs gr bt TV k ys c xs zl st named nm stock Ds bk fv bq W) : InI w w4 t gs bs gr bt TV k ys (c + 1) xs zl st named nm stock Ds bk fv bq W := ⟨matI_mono h.1, h.2⟩
end
end Go.Proofs.Ytiglakhfkgeefaa
set_option linter.unusedSimpArgs false
set_option linter.unusedVariables false
namespace Go.Mat
open Go.Pth Go.Tre
def passes (sk : Nat → MS → Nat → Bt → Sr × MS) (xs : List TxK) (st : Mst) : Nat → Mst
  | 0 => st
  | j + 1 => passM (sk j) xs (passes sk xs st j)
theorem passes_len (sk : Nat → MS → Nat → Bt → Sr × MS) (xs : List TxK) (st : Mst) : ∀ j, (passes sk xs st j).1.length = st.1.length
  | 0 => rfl
  | j + 1 => (passM_len _ _ _).trans (passes_len sk xs st j)
/-- the sources that Match finds -/
def matchL (sn : List Nd) (sf : List Fl) (tn : List Nd) (tf : List Fl) (ls : List Bt) : Mst :=
  passes (skP (namedF sn) (namesM tn) (stockF ls)) (txL (tf.map Fl.data)) (List.replicate tf.length z3, ⟨shelfP (txL (sf.map Fl.data)), fun _ => none⟩) 3
end Go.Mat
namespace Go.Proofs.Ytiglakhfkgeefaa
open Go.Pth Go.Tre Go.RowKit Go.Word Go.Shelf Go.Mat
theorem wpIn_callT {F : Fence} {n : Nat} {P : Program} {Q : Exit → Act → World → Prop} {a : Act} {w : World} {K : Act → World → Prop} {oi : Oper} {f : FuncId} {args : Array Value} {post : Ending → World → Prop} (hnd : ∀ c, oi.op ≠ .defer c) (hab : ∀ f, oi.about P w a.eval = some f → F.fn f) (hr : (execOp a.eval oi).run P w = .ok (.enter f args) w) (hn : 1 ≤ n) (hc : CallsIn F (n - 1) P f args w post) (h : ∀ e w2, post e w2 → ∃ v, e = .returned v ∧ K (a.put oi.dst v) w2) : Oper.wpIn F n P oi a w K Q :=
  ⟨hab, by
    rw [Oper.semAt_eq _ _ _ hnd, hr]
    refine ⟨fun _ => hn, hc.mono ?_⟩
    intro e w' hp
    obtain ⟨v, rfl, hk⟩ := h e w' hp
    exact hk⟩
attribute [local go_sem] Oper.semAt_some
def pairE (sn : List Nd) (sf : List Fl) (tn : List Nd) (tf : List Fl) : Int := if checkE sn sf = 0 then checkE tn tf else checkE sn sf
def matchE (sn : List Nd) (sf : List Fl) (tn : List Nd) (tf : List Fl) (ls : List Bt) : Int :=
  if pairE sn sf tn tf ≠ 0 then pairE sn sf tn tf else if Stk.checkL (ls.map List.length) ≠ 0 then Stk.checkL (ls.map List.length) else if z3 ∈ (matchL sn sf tn tf ls).1 then 32 else 0
/-- the bounds that what is checked keeps -/
structure MOk (sn : List Nd) (sf : List Fl) (tn : List Nd) (tf : List Fl) (ls : List Bt) : Prop where
  a1 : sn.length ≤ 1000
  a2 : sf.length ≤ 1000
  a3 : tn.length ≤ 1000
  a4 : tf.length ≤ 1000
  a5 : ls.length ≤ 70000
  c2 : ∀ x ∈ sn, -1000000 ≤ x.file ∧ x.file ≤ 1000000
  c3 : ∀ x ∈ sf, x.data.length ≤ 100000
  c5 : ∀ x ∈ tn, -1 ≤ x.file ∧ x.file < tf.length
  c6 : ∀ x ∈ ls, x.length ≤ 100000
  c7 : ∀ x ∈ tf, x.data.length ≤ 100000
theorem lensAt_of {w : World} {A : Option Addr} {ls : List Bt} (h : ListQ w A ls) : LensAt w A (ls.map List.length) := fun i hi => by
  rw [List.length_map] at hi
  obtain ⟨b, o, DA, dc, e, hl, hc, _⟩ := h i hi
  refine ⟨b, o, DA, dc, e, hl, ?_⟩
  rw [hc]
  simp
theorem src_info : (Try.prog.info? 54).map (fun i => (i.zero, i.size, i.bytes)) = some (some (.agg #[.int .i64 0, .int .i64 0, .int .i64 0]), 3, 24) := by kernel_rfl
theorem made_srcs (w : World) (k : Nat) (hk : k ≤ 1000) : (Instr.makeSlice 33 (.int .i64 (k : Int)) (.int .i64 (k : Int))).run Try.prog w = .ok (.slice (some ⟨w.heap.size, 0, none⟩) k k) (w.alloc (.cells (madeCells #[.int .i64 0, .int .i64 0, .int .i64 0] (k * 3)) 54)) := by
  obtain ⟨i, hi, hz, hs, hb⟩ := info_parts src_info
  have h := run_make (P := Try.prog) w 33 54 i (.agg #[.int .i64 0, .int .i64 0, .int .i64 0]) Try.underlying33 hi hz .i64 .i64 k k (by omega) (Int.le_refl _) (by rw [hb]; omega) (by omega)
  rw [hs] at h
  exact h
set_option maxRecDepth 100000 in
set_option maxHeartbeats 4000000 in
theorem match_in (n : Nat) (hn : 6 ≤ n) (NS FS NT FT C : Option Addr) (ns fs nt ft cc : Nat) (sn tn : List Nd) (sf tf : List Fl) (ls : List Bt) (w : World) (hNS : NodesAt w NS sn) (hFS : FilesAt w FS sf) (hNT : NodesAt w NT tn) (hFT : FilesAt w FT tf) (hC : ListQ w C ls)
    (hp : ∀ x ∈ sn, x.path.length ≤ 100000) (hq : ∀ x ∈ tn, x.path.length ≤ 100000) (hlb : ∀ x ∈ ls, x.length ≤ 140737488355328) (hok : pairE sn sf tn tf = 0 → Stk.checkL (ls.map List.length) = 0 → MOk sn sf tn tf ls) :
    CallsIn .wide n Try.prog 13 #[.agg #[.slice NS sn.length ns, .slice FS sf.length fs], .agg #[.slice NT tn.length nt, .slice FT tf.length ft], .slice C ls.length cc] w fun e W => ∃ v, e = .returned (.tuple #[v, .int .i64 (matchE sn sf tn tf ls)]) ∧
      (matchE sn sf tn tf ls ≠ 0 → v = .slice none 0 0) ∧ (matchE sn sf tn tf ls = 0 → ∃ g, v = .slice (some ⟨g, 0, none⟩) tf.length tf.length ∧ SrcR W g (matchL sn sf tn tf ls).1) ∧ Below w.heap.size w W := by
  have h1 : 1 ≤ n := by omega
  refine callsIn_of_wp_marks Try.func13 rfl trivial ?_ rfl
  simp only [Try.ntmps13, List.size_toArray, List.length_cons, List.length_nil, Nat.reduceAdd, Nat.reduceSub, Array.replicate_succ, Array.replicate_zero, List.push_toArray, List.append_toArray, List.nil_append, List.cons_append]
  have B0 : Below w.heap.size w ((w.alloc (.cells #[.slice NS sn.length ns, .slice FS sf.length fs] 25)).alloc (.cells #[.slice NT tn.length nt, .slice FT tf.length ft] 25)) := ((Below.refl _ _).alloc (Nat.le_refl _) _).alloc (by simp) _
  have L0 := lies_alloc (lies_new w 25 #[.slice NS sn.length ns, .slice FS sf.length fs]) (.cells #[.slice NT tn.length nt, .slice FT tf.length ft] 25)
  have L1 := lies_new (w.alloc (.cells #[.slice NS sn.length ns, .slice FS sf.length fs] 25)) 25 #[.slice NT tn.length nt, .slice FT tf.length ft]
  rw [World.size_alloc] at L1
  have Z0 : ((w.alloc (.cells #[.slice NS sn.length ns, .slice FS sf.length fs] 25)).alloc (.cells #[.slice NT tn.length nt, .slice FT tf.length ft] 25)).heap.size = w.heap.size + 2 := by simp
  have K1 := Lib.hid (fun (W : World) (h : Below w.heap.size w W) => pcheck_any NS FS NT FT ns fs nt ft sn tn sf tf W (nodesAt_below hNS h) (filesAt_below hFS h) (nodesAt_below hNT h) (filesAt_below hFT h) hp hq)
  have K2 := Lib.hid (fun (W : World) (h : Below w.heap.size w W) => scheck_any C cc (ls.map List.length) W (lensAt_of (listQ_below hC h)) (by intro m hm; obtain ⟨x, hx, rfl⟩ := List.mem_map.1 hm; exact hlb x hx))
  have K3 := Lib.hid (fun (W : World) (h : Below w.heap.size w W) (ok : MOk sn sf tn tf ls) => times_any NS FS NT FT C ns fs nt ft cc sn tn sf tf ls W (nodesAt_below hNS h) (filesAt_below hFS h) (nodesAt_below hNT h) (listQ_below hC h) ok.a1 ok.a2 ok.a3 ok.a4 (by have := ok.a5; omega) hp ok.c2 ok.c3 hq ok.c5 ok.c6)
  have K4 := Lib.hid (fun (W : World) (h : Below w.heap.size w W) => filesAt_below hFT h)
  have HQ := Lib.hid hq
  have OK := Lib.hid hok
  rw [List.length_map] at K2
  obtain ⟨E1, hE1⟩ : ∃ E1, E1 = pairE sn sf tn tf := ⟨_, rfl⟩
  obtain ⟨E2, hE2⟩ : ∃ E2, E2 = Stk.checkL (ls.map List.length) := ⟨_, rfl⟩
  obtain ⟨E, hE⟩ : ∃ E, E = matchE sn sf tn tf ls := ⟨_, rfl⟩
  have ME : E = if E1 ≠ 0 then E1 else if E2 ≠ 0 then E2 else if z3 ∈ (matchL sn sf tn tf ls).1 then 32 else 0 := by rw [hE, hE1, hE2]; rfl
  replace ME := Lib.hid ME
  rw [← hE1, ← hE2] at OK
  rw [← hE2] at K2
  rw [show (if checkE sn sf = 0 then checkE tn tf else checkE sn sf) = E1 from hE1.symm] at K1
  rw [← hE]
  obtain ⟨xs, hxs⟩ : ∃ xs, xs = sn.length := ⟨_, rfl⟩
  obtain ⟨ys, hys⟩ : ∃ ys, ys = sf.length := ⟨_, rfl⟩
  obtain ⟨xt, hxt⟩ : ∃ xt, xt = tn.length := ⟨_, rfl⟩
  obtain ⟨yt, hyt⟩ : ∃ yt, yt = tf.length := ⟨_, rfl⟩
  obtain ⟨zl, hzl⟩ : ∃ zl, zl = ls.length := ⟨_, rfl⟩
  rw [← hxs, ← hys, ← hxt, ← hyt] at K1
  rw [← hzl] at K2
  rw [← hxs, ← hys, ← hxt, ← hyt, ← hzl] at K3
  rw [← hxs, ← hys, ← hxt, ← hyt] at B0 L0 L1 Z0 ⊢
  rw [← hzl]
  have XS := Lib.hid hxs
  have YS := Lib.hid hys
  have XT := Lib.hid hxt
  have YT := Lib.hid hyt
  have ZL := Lib.hid hzl
  clear hNS hFS hNT hFT hC hp hq hlb hok hE1 hE2 hE hxs hys hxt hyt hzl
  have R0 := Lib.hid (lies_range L0)
  have R1 := Lib.hid (lies_range L1)
  replace B0 := Lib.hid B0
  replace L0 := Lib.hid L0
  replace L1 := Lib.hid L1
  replace Z0 := Lib.hid Z0
  by_cases hz1 : E1 = 0
  · subst hz1
    replace OK := Lib.hid (OK.out rfl)
    gi_upto_region 4 with (first
      | (refine wpListIn_load_mid rfl 25 _ rfl w.heap.size 0 rfl [.slice NS xs ns, .slice FS ys fs] _ R0.out Try.underlying25 rfl (by kernel_rfl) ?_)
      | (refine wpListIn_load_mid rfl 25 _ rfl (w.heap.size + 1) 0 rfl [.slice NT xt nt, .slice FT yt ft] _ R1.out Try.underlying25 rfl (by kernel_rfl) ?_)
      | (refine ⟨trivial, ?_⟩; gi_at_call 30; refine (callsIn_wide.2 (K1.out _ B0.out)).mono ?_; rintro e w1 ⟨rfl, hb⟩; have LL0 := Lib.hid (lies_below L0.out hb (lies_lt L0.out)); have LL1 := Lib.hid (lies_below L1.out hb (lies_lt L1.out)); have B1 := Lib.hid (B0.out.trans (hb.mono B0.out.size)); have H1 := Lib.hid hb.size; clear hb))
    have R2 := Lib.hid (lies_range LL0.out)
    have R3 := Lib.hid (lies_range LL1.out)
    by_cases hz2 : E2 = 0
    · subst hz2
      have ok := OK.out rfl
      have OKH := Lib.hid ok
      have y0 := lies_cell LL1.out 1
      simp only [List.getElem?_toArray, List.getElem?_cons_zero, List.getElem?_cons_succ] at y0
      have hyt : yt ≤ 1000 := by have := ok.a4; have := YT.out; omega
      have MD := made_srcs w1 yt hyt
      have hS1 := srcR_made w1 yt
      have g1 := World.grownBy_alloc w1 (.cells (madeCells #[.int .i64 0, .int .i64 0, .int .i64 0] (yt * 3)) 54) none
      have g2 := World.grownBy_alloc (w1.alloc (.cells (madeCells #[.int .i64 0, .int .i64 0, .int .i64 0] (yt * 3)) 54)) (.cells #[.slice (some ⟨w1.heap.size, 0, none⟩) yt yt] 33) none
      have lb := lies_new (w1.alloc (.cells (madeCells #[.int .i64 0, .int .i64 0, .int .i64 0] (yt * 3)) 54)) 33 #[.slice (some ⟨w1.heap.size, 0, none⟩) yt yt]
      rw [World.size_alloc] at lb
      have bX := Lib.hid ((Below.refl w1.heap.size w1).grown (grown_trans g1 g2) (Nat.le_refl _) (fun r e => by cases e))
      have S2 := Lib.hid (srcR_keep hS1 (g2.block _ (by simp) (by simp)))
      have LB := Lib.hid lb
      have ZX := Lib.hid (show ((w1.alloc (.cells (madeCells #[.int .i64 0, .int .i64 0, .int .i64 0] (yt * 3)) 54)).alloc (.cells #[.slice (some ⟨w1.heap.size, 0, none⟩) yt yt] 33)).heap.size = w1.heap.size + 2 by simp)
      clear hS1 g1 g2 lb ok
      gi_upto_region 8 with (refine ⟨trivial, ?_⟩; gi_at_call 31; refine (callsIn_wide.2 (K2.out _ B1.out)).mono ?_; rintro e w2 ⟨rfl, rfl⟩)
      generalize hX3 : (w1.alloc (.cells (madeCells #[.int .i64 0, .int .i64 0, .int .i64 0] (yt * 3)) 54)).alloc (.cells #[.slice (some ⟨w1.heap.size, 0, none⟩) yt yt] 33) = X3 at *
      clear hX3 MD y0
      have BX3 := Lib.hid (B1.out.trans (bX.out.mono (B1.out.size)))
      have R4 := Lib.hid (lies_range (lies_below LL0.out bX.out (lies_lt LL0.out)))
      have R5 := Lib.hid (lies_range (lies_below LL1.out bX.out (lies_lt LL1.out)))
      have L5 := Lib.hid (lies_below LL1.out bX.out (lies_lt LL1.out))
      have T3 := Lib.hid (K3.out X3 BX3.out OKH.out)
      gi_wp2_with (first
        | (refine wpListIn_load_mid rfl 25 _ rfl w.heap.size 0 rfl [.slice NS xs ns, .slice FS ys fs] _ R4.out Try.underlying25 rfl (by kernel_rfl) ?_)
        | (refine wpListIn_load_mid rfl 25 _ rfl (w.heap.size + 1) 0 rfl [.slice NT xt nt, .slice FT yt ft] _ R5.out Try.underlying25 rfl (by kernel_rfl) ?_)
        | (refine ⟨trivial, ?_⟩; gi_at_call 32; refine (callsIn_wide.2 T3.out).mono ?_; rintro e w4 ⟨t, gs, rfl, h1, h2, h3⟩; have GS := Lib.hid h1; have TM := Lib.hid h2; have B4 := Lib.hid h3; clear h1 h2 h3))
      have ML := Lib.hid (show matchL sn sf tn tf ls = passes (skP (namedF sn) (namesM tn) (stockF ls)) (txL (tf.map Fl.data)) (List.replicate yt z3, ⟨shelfP (txL (sf.map Fl.data)), fun _ => none⟩) 3 by unfold matchL; rw [← YT.out])
      have NB := Lib.hid (fun f => show (namesM tn f).length ≤ 100000 ∧ ∀ y ∈ namesM tn f, y.length ≤ 100000 from ⟨by have := namesM_len tn f; have := OKH.out.a3; omega, fun y hy => by obtain ⟨x, hx, rfl⟩ := namesM_mem tn f y hy; exact HQ.out x hx⟩)
      have KT := Lib.hid K4.out
      have BW4 := Lib.hid (BX3.out.trans (B4.out.mono BX3.out.size))
      have MI : MatI w w4 t gs (w1.heap.size + 1) w1.heap.size (w.heap.size + 1) #[.slice NT xt nt, .slice FT yt ft] yt ys 0 xs zl (List.replicate yt z3, ⟨shelfP (txL (sf.map Fl.data)), fun _ => none⟩) (namedF sn) (namesM tn) (stockF ls) :=
        ⟨⟨TM.out.h7, TM.out.h8, TM.out.h9, TM.out.h10, TM.out.h11, TM.out.h12, TM.out.hS, TM.out.hN, TM.out.hM, TM.out.hK, TM.out.hT, TM.out.d1, TM.out.dN, TM.out.dS, ⟨by have := TM.out.lo; have := BX3.out.size; omega, by have := TM.out.lo; have := BX3.out.size; omega⟩⟩, GS.out, lies_below LB.out B4.out (lies_lt LB.out), srcR_keep S2.out (B4.out.block _ (by have := ZX.out; omega)), lies_below L5.out B4.out (lies_lt L5.out), by simp, BW4.out, by have := B1.out.size; omega⟩
      have YB := Lib.hid (show ys ≤ 1000 by have := YS.out; have := OKH.out.a2; omega)
      have HD7 := Lib.hid OKH.out.c7
      have HA4 := Lib.hid (show tf.length ≤ 1000 from OKH.out.a4)
      generalize namedF sn = named at *
      generalize hnm : namesM tn = nm at *
      clear hnm
      generalize stockF ls = stock at *
      generalize shelfP (txL (sf.map Fl.data)) = F0 at *
      replace MI := Lib.hid MI
      have MX4 := Lib.hid (matI_maps MI.out)
      clear T3 GS TM LB S2 R4 R5 R2 R3 R0 R1 K1 K2 K3 L0 L1 OKH OK HQ LL0 LL1 L5 hyt
      refine wpIn_loop (fun a' w' => ∃ (j : Nat) (u : Nat → Value) (Ds : List Nat), j ≤ 3 ∧ Dfs w4.heap.size Ds w' ∧ MatI w w' t gs (w1.heap.size + 1) w1.heap.size (w.heap.size + 1) #[.slice NT xt nt, .slice FT yt ft] yt ys (j * yt) xs zl (passes (skP named nm stock) (txL (tf.map Fl.data)) (List.replicate yt z3, ⟨F0, fun _ => none⟩) j) named nm stock ∧ w4.heap.size ≤ w'.heap.size ∧ a' = { tmps := #[.agg #[.slice NS xs ns, .slice FS ys fs], .agg #[.slice NT xt nt, .slice FT yt ft], .slice C zl cc, .pointer (some ⟨w.heap.size, 0, none⟩), .pointer (some ⟨w.heap.size + 1, 0, none⟩), undef, .slice none 0 0, .int .i64 0, .int .i64 0, .int .i64 0, .pointer (some ⟨w1.heap.size + 1, 0, none⟩), undef, u 12, u 13, u 14, .agg #[.slice NS xs ns, .slice FS ys fs], .agg #[.slice NT xt nt, .slice FT yt ft], .int .i64 0, .int .i64 0, .bool false, undef, .slice C zl cc, .int .i64 0, .int .i64 0, .bool false, undef, .pointer (some ⟨w.heap.size + 1, 1, none⟩), .slice FT yt ft, .int .i64 (yt : Int), .slice (some ⟨w1.heap.size, 0, none⟩) yt yt, .agg #[.slice NS xs ns, .slice FS ys fs], .agg #[.slice NT xt nt, .slice FT yt ft], .slice C zl cc, .slice (some ⟨gs, 0, none⟩) 3 3, .int .i64 3, .int .i64 (j : Int), u 36, u 37, u 38, u 39, u 40, u 41, u 42, u 43, u 44, u 45, u 46, u 47, u 48, u 49, u 50, u 51, u 52, u 53, u 54, u 55, u 56, u 57, u 58, u 59, u 60], defers := Ds.map mkD })
        (fun a' _ => 3 - (intOf (a'.tmps.getD 35 undef)).toNat) ⟨0, fun _ => undef, [], by omega, ⟨List.nodup_nil, by simp⟩, by rw [Nat.zero_mul]; exact MI.out, Nat.le_refl _, rfl⟩ ?_
      rintro a' wr ⟨j, u, Ds, hj, hD, hM, h44, rfl⟩
      have HW4 := Lib.hid h44
      clear h44
      have HDs := Lib.hid hD
      have HM := Lib.hid hM
      clear hD hM
      by_cases hlt : j < 3
      · have lj : (j : Int) < 3 := by omega
        obtain ⟨fn, caps, hfv⟩ : ∃ fn caps, fvS t j = .func (.func fn) #[] caps := ⟨_, _, rfl⟩
        have cj : wr.cell? ⟨gs, j, none⟩ = some (.func (.func fn) #[] caps) := by
          rw [← hfv]
          have h3 : j = 0 ∨ j = 1 ∨ j = 2 := by omega
          rcases h3 with rfl | rfl | rfl
          · exact lies_cell HM.out.hg 0
          · exact lies_cell HM.out.hg 1
          · exact lies_cell HM.out.hg 2
        have RT := Lib.hid (lies_range (lies_alloc HM.out.ht (.cells #[.func (.func fn) #[] caps] 70)))
        have FV := Lib.hid hfv
        clear hfv
        gi_wp2_with (first
          | (refine wpListIn_load_mid rfl 25 _ rfl (w.heap.size + 1) 0 rfl [.slice NT xt nt, .slice FT yt ft] _ RT.out Try.underlying25 rfl (by kernel_rfl) ?_)
          | (refine ⟨trivial, ?_⟩; gi_at_call 33; refine (texts_in (n - 1) _ _ _).mono ?_; rintro e w' ⟨rfl, rfl⟩))
        obtain ⟨ST0, hST0⟩ : ∃ ST0, ST0 = (passes (skP named nm stock) (txL (tf.map Fl.data)) (List.replicate yt z3, ⟨F0, fun _ => none⟩) j) := ⟨_, rfl⟩
        have HM2 := Lib.hid (show MatI w ((wr.alloc (.cells #[.func (.func fn) #[] caps] 70)).alloc (.cells #[.slice NT xt nt, .slice FT yt ft] 25)) t gs (w1.heap.size + 1) w1.heap.size (w.heap.size + 1) #[.slice NT xt nt, .slice FT yt ft] yt ys (j * yt) xs zl ST0 named nm stock by rw [hST0]; exact matI_grown0 (matI_grown0 HM.out (World.grownBy_alloc _ _ none)) (World.grownBy_alloc _ _ none))
        have HDs2 := Lib.hid (dfs_grown0 (dfs_grown0 HDs.out (World.grownBy_alloc wr (.cells #[.func (.func fn) #[] caps] 70) none)) (World.grownBy_alloc _ (.cells #[.slice NT xt nt, .slice FT yt ft] 25) none))
        have LK := Lib.hid (lies_alloc (lies_new wr 70 #[.func (.func fn) #[] caps]) (.cells #[.slice NT xt nt, .slice FT yt ft] 25))
        have lq := lies_new (wr.alloc (.cells #[.func (.func fn) #[] caps] 70)) 25 #[.slice NT xt nt, .slice FT yt ft]
        rw [World.size_alloc] at lq
        have LQ := Lib.hid lq
        have zX : ((wr.alloc (.cells #[.func (.func fn) #[] caps] 70)).alloc (.cells #[.slice NT xt nt, .slice FT yt ft] 25)).heap.size = wr.heap.size + 2 := by simp
        have ZX2 := Lib.hid zX
        have HST := Lib.hid hST0
        clear lq zX hST0 RT
        generalize (wr.alloc (.cells #[.func (.func fn) #[] caps] 70)).alloc (.cells #[.slice NT xt nt, .slice FT yt ft] 25) = X at *
        have FA0 := KT.out w (Below.refl _ _)
        have FX2 : FilesQ X (fun i => i < w.heap.size) FT tf := filesQ_same (filesQ_of (Q := fun i => i < w.heap.size) FA0 (fun i hi => hi)) (fun i hi => HM2.out.low.block i hi)
        have FX3 : FilesQ X (fun i => i < w.heap.size ∨ i = wr.heap.size + 1) FT tf := fun i hi => by
          obtain ⟨b, o, DA, dc, e, hl, h1, h2, h3⟩ := FX2 i hi
          exact ⟨b, o, DA, dc, e, .inl hl, h1, h2, fun j hj => by obtain ⟨b', o', e', hl', hc'⟩ := h3 j hj; exact ⟨b', o', e', .inl hl', hc'⟩⟩
        have hszw : w.heap.size ≤ wr.heap.size := HM.out.low.size
        have HX4 := Lib.hid (show w4.heap.size ≤ X.heap.size from by have := ZX2.out; have := HW4.out; omega)
        have QX : ∀ i, (i < w.heap.size ∨ i = wr.heap.size + 1) → i < X.heap.size := fun i hi => by have := ZX2.out; rcases hi with hi | hi <;> omega
        have MX := Lib.hid (matI_maps HM2.out)
        have DX := Lib.hid (dfs_lt HDs2.out)
        have I0 := Lib.hid (show InI w w4 t gs (w1.heap.size + 1) w1.heap.size (w.heap.size + 1) #[.slice NT xt nt, .slice FT yt ft] yt ys (j * yt + (([] : List (TxN tf.length))).length) xs zl (passM (skP named nm stock j) ((([] : List (TxN tf.length))).map (fun z => z.1)) ST0) named nm stock Ds wr.heap.size (.func (.func fn) #[] caps) (wr.heap.size + 1) X from ⟨HM2.out, HDs2.out, LK.out, LQ.out⟩)
        refine wpIn_rangeFunc_ownG rfl h1 (gf := 52) (lb := #[.pointer (some ⟨wr.heap.size + 1, 0, none⟩)]) rfl trivial (enters_of Try.func52 (by kernel_rfl) rfl)
          (texts_stopsG (encTN (k := tf.length)) (n - 1) (by omega) tf HD7.out HA4.out (wr.heap.size + 1) (fun i => i < w.heap.size ∨ i = wr.heap.size + 1) FT ft X (by rw [← YT.out]; exact lies_cell LQ.out 1) (.inr rfl) QX FX3 (txN tf HA4.out) (txN_len _ _) (fun i h0 h => txN_enc _ _ HD7.out i h0 h)) kq_t (kq_b QX) (Below.refl _ _) (fun _ => rfl)
          (fun pre W => InI w w4 t gs (w1.heap.size + 1) w1.heap.size (w.heap.size + 1) #[.slice NT xt nt, .slice FT yt ft] yt ys (j * yt + (pre).length) xs zl (passM (skP named nm stock j) ((pre).map (fun z => z.1)) ST0) named nm stock Ds wr.heap.size (.func (.func fn) #[] caps) (wr.heap.size + 1) W) (fun _ _ _ => False) (fun s W W' row hs hg hr => inI_by hs hg hr ⟨MX.out, by have := ZX2.out; omega, DX.out⟩) (fun _ _ _ _ _ hs _ _ => hs) I0.out
          (fun x => { tmps := #[.agg #[.slice NS xs ns, .slice FS ys fs], .agg #[.slice NT xt nt, .slice FT yt ft], .slice C zl cc, .pointer (some ⟨w.heap.size, 0, none⟩), .pointer (some ⟨w.heap.size + 1, 0, none⟩), undef, .slice none 0 0, .int .i64 0, .int .i64 0, .int .i64 0, .pointer (some ⟨w1.heap.size + 1, 0, none⟩), undef, .pointer (some ⟨wr.heap.size, 0, none⟩), .int .i64 (x.1.1.1 : Int), St x.1.1.2, .agg #[.slice NS xs ns, .slice FS ys fs], .agg #[.slice NT xt nt, .slice FT yt ft], .int .i64 0, .int .i64 0, .bool false, undef, .slice C zl cc, .int .i64 0, .int .i64 0, .bool false, undef, .pointer (some ⟨w.heap.size + 1, 1, none⟩), .slice FT yt ft, .int .i64 (yt : Int), .slice (some ⟨w1.heap.size, 0, none⟩) yt yt, .agg #[.slice NS xs ns, .slice FS ys fs], .agg #[.slice NT xt nt, .slice FT yt ft], .slice C zl cc, .slice (some ⟨gs, 0, none⟩) 3 3, .int .i64 3, .int .i64 (j : Int), .bool true, .pointer (some ⟨gs, j, none⟩), .func (.func fn) #[] caps, .agg #[.slice NT xt nt, .slice FT yt ft], .func (.func 52) #[] #[.pointer (some ⟨wr.heap.size + 1, 0, none⟩)], .int .i64 (x.1.1.1 : Int), St x.1.1.2, u 43, u 44, u 45, u 46, u 47, u 48, u 49, u 50, u 51, u 52, u 53, u 54, u 55, u 56, u 57, u 58, u 59, u 60], defers := [] })
          ?assign ?body ?done ?stop
        case assign =>
          intro l x W K hK
          dsimp only [encTN, encX]
          gi_wp2
          exact hK
        case body =>
          rintro lp pre x W hI hltp
          have hxy : x.1.1.1 < yt := by have := x.2; have := YT.out; omega
          obtain ⟨hM, hDs, hbk, hbq⟩ := hI
          have HMI := Lib.hid hM
          have HDI := Lib.hid hDs
          have HBK := Lib.hid hbk
          have HBQ := Lib.hid hbq
          obtain ⟨stp, hstp⟩ : ∃ stp, stp = passM (skP named nm stock j) (pre.map (fun z => z.1)) ST0 := ⟨_, rfl⟩
          rw [← hstp] at HMI
          have SNOC := Lib.hid (show passM (skP named nm stock j) ((pre ++ [x]).map (fun z => z.1)) ST0 = stepM (skP named nm stock j) stp x.1 by rw [List.map_append, List.map_cons, List.map_nil, passM_snoc, hstp])
          have LEN := Lib.hid (show (pre ++ [x]).length = pre.length + 1 by simp)
          have CB := Lib.hid (show j * yt + pre.length ≤ 5000 from by
            have h5 : pre.length < tf.length := hltp
            have h6 := HA4.out
            have h7 := YT.out
            have h8 : j * yt ≤ 3 * yt := Nat.mul_le_mul_right _ (by omega)
            omega)
          have hlen := HMI.out.len
          have hi : x.1.1.1 < stp.1.length := by omega
          have x10 := lies_cell HMI.out.hb 0
          simp only [List.getElem?_toArray, List.getElem?_cons_zero] at x10
          have GD : stp.1.getD x.1.1.1 z3 = stp.1[x.1.1.1] := by simp [List.getD_eq_getElem?_getD, hi]
          have SR := Lib.hid (srcR_at HMI.out.hr x.1.1.1 hi)
          have GD := Lib.hid GD
          have xx : (x.1.1.1 : Int) < (yt : Int) := by omega
          clear hM hDs hbk hbq hstp hlen I0 FX2 FX3 QX FA0
          generalize hy : stp.1[x.1.1.1] = y at *
          clear hy hi
          obtain ⟨ya, yb, yc⟩ := y
          by_cases hz : ((ya, yb, yc) : Sr) = z3
          · obtain ⟨rfl, rfl, rfl⟩ : ya = 0 ∧ yb = 0 ∧ yc = 0 := by simpa [z3] using hz
            clear hz
            gi_wp2_with (refine wpListIn_load_mid rfl 54 _ rfl w1.heap.size (x.1.1.1 * 3) rfl [.int .i64 0, .int .i64 0, .int .i64 0] _ SR.out Try.underlying54 rfl (by kernel_rfl) ?_)
            have GZ : stp.1.getD x.1.1.1 z3 = z3 := GD.out
            have MR := match_round HMI.out j x.1 hxy GZ (by have := CB.out; have := YB.out; omega) (NB.out _).1 (NB.out _).2
            obtain ⟨r1, hr1⟩ : ∃ r1, r1 = (skP named nm stock j stp.2 x.1.1.1 x.1.1.2).1 := ⟨_, rfl⟩
            rw [← hr1] at MR
            obtain ⟨hfn, hcaps⟩ : fidS j = fn ∧ capS t j = caps := by
              have e := FV.out
              unfold fvS at e
              injection e with e1 _ e2
              injection e1 with e1
              exact ⟨e1, e2⟩
            rw [hfn, hcaps] at MR
            obtain ⟨Pf, hPf⟩ : ∃ Pf : World → Prop, Pf = fun V => KeepsFrom X.heap.size W V ∧ KQ (fun i => i < w.heap.size ∨ i = wr.heap.size + 1) W V ∧ InI w w4 t gs (w1.heap.size + 1) w1.heap.size (w.heap.size + 1) #[.slice NT xt nt, .slice FT yt ft] yt ys (j * yt + (pre ++ [x]).length) xs zl (passM (skP named nm stock j) ((pre ++ [x]).map (fun z => z.1)) ST0) named nm stock Ds wr.heap.size (.func (.func fn) #[] caps) (wr.heap.size + 1) V := ⟨_, rfl⟩
            have MR2 : Calls Try.prog fn (#[.int .i64 (x.1.1.1 : Int), St x.1.1.2] ++ caps) (W.drewN 1) fun e W1 => e = .returned (.agg (srL r1).toArray) ∧ Lies W1 (w1.heap.size + 1) 33 #[.slice (some ⟨w1.heap.size, 0, none⟩) yt yt] ∧ W1.there w1.heap.size (x.1.1.1 * 3) 3 ∧ Pf (W1.setCells (w1.heap.size) (x.1.1.1 * 3) (srL r1)) := MR.mono (by
              rintro e W1 ⟨e1, h1, h2, h3, h4, h5, h6⟩
              refine ⟨e1, h1, h2, ?_⟩
              rw [hPf]
              refine ⟨h6 X.heap.size MX.out.1 MX.out.2.1, ⟨fun i hi => h5 i (by
                rcases hi with hi | hi
                · exact .inl hi
                · exact .inr ⟨25, _, hi ▸ HBQ.out, by decide, by decide⟩), (h6 X.heap.size MX.out.1 MX.out.2.1).size⟩, ?_⟩
              show InI w w4 t gs (w1.heap.size + 1) w1.heap.size (w.heap.size + 1) #[.slice NT xt nt, .slice FT yt ft] yt ys (j * yt + (pre ++ [x]).length) xs zl (passM (skP named nm stock j) ((pre ++ [x]).map (fun z => z.1)) ST0) named nm stock Ds wr.heap.size (.func (.func fn) #[] caps) (wr.heap.size + 1) _
              rw [SNOC.out, LEN.out]
              exact ⟨h3, dfs_keeps HDI.out (h6 w4.heap.size MX4.out.1 MX4.out.2.1), h4 _ _ _ HBK.out (by decide) (by decide), h4 _ _ _ HBQ.out (by decide) (by decide)⟩)
            have EN : ∀ (av : Array Value) (V : World), (callFunc fn av).run Try.prog V = .ok (.enter fn av) V := by
              rw [← hfn]
              have h3 : j = 0 ∨ j = 1 ∨ j = 2 := by omega
              rcases h3 with rfl | rfl | rfl
              · exact enters_of Try.func48 (by kernel_rfl) rfl
              · exact enters_of Try.func50 (by kernel_rfl) rfl
              · exact enters_of Try.func51 (by kernel_rfl) rfl
            clear MR hr1
            have KF : ∀ (lq : Array Bool) (pq kq : Nat) (uq : Value) (W W' : World), (True) → W.grownBy W' none → ((fun (l_ : Array Bool) (j_ : Nat) (v_ : Value) (WW : World) => match j_ with | 0 => v_ = .slice (some ⟨w1.heap.size, 0, none⟩) yt yt | 1 => v_ = .int .i64 (x.1.1.1 : Int) | 2 => v_ = .func (.func fn) #[] caps | 3 => v_ = .int .i64 (x.1.1.1 : Int) | 4 => v_ = St x.1.1.2 | 5 => v_ = .agg (srL r1).toArray | 6 => v_ = .pointer (some ⟨w1.heap.size, x.1.1.1 * 3, none⟩) | _ => True) : Array Bool → Nat → Value → World → Prop) lq kq uq W → ((fun (l_ : Array Bool) (j_ : Nat) (v_ : Value) (WW : World) => match j_ with | 0 => v_ = .slice (some ⟨w1.heap.size, 0, none⟩) yt yt | 1 => v_ = .int .i64 (x.1.1.1 : Int) | 2 => v_ = .func (.func fn) #[] caps | 3 => v_ = .int .i64 (x.1.1.1 : Int) | 4 => v_ = St x.1.1.2 | 5 => v_ = .agg (srL r1).toArray | 6 => v_ = .pointer (some ⟨w1.heap.size, x.1.1.1 * 3, none⟩) | _ => True) : Array Bool → Nat → Value → World → Prop) (lq.setIfInBounds pq true) kq uq W' := fun lq pq kq uq W W' hp hg h => by
              have kl : ∀ {g t cs}, Lies W g t cs → Lies W' g t cs := fun h => (hg.block _ (lies_lt h) (by simp)).trans h
              have ko : ∀ {B e z v k xs}, W.ownsRow B e z v k xs → W'.ownsRow B e z v k xs := fun {B e z v k xs} h => h.kept hg (by cases v.ownBlock <;> simp)
              match kq, h with
              | 0, h => exact h
              | 1, h => exact h
              | 2, h => exact h
              | 3, h => exact h
              | 4, h => exact h
              | 5, h => exact h
              | 6, h => exact h
              | _ + 7, _ => exact trivial
            have gr : ∀ W : World, W.grownBy W none := fun W => ⟨rfl, rfl, rfl, Nat.le_refl _, fun _ _ _ => rfl⟩
            have KP := fun (lq : Array Bool) (pq : Nat) (W : World) (hp : True) => fun (kq : Nat) (uq : Value) (_ : kq ≠ pq) (_ : lq.getD kq false = true) (h : ((fun (l_ : Array Bool) (j_ : Nat) (v_ : Value) (WW : World) => match j_ with | 0 => v_ = .slice (some ⟨w1.heap.size, 0, none⟩) yt yt | 1 => v_ = .int .i64 (x.1.1.1 : Int) | 2 => v_ = .func (.func fn) #[] caps | 3 => v_ = .int .i64 (x.1.1.1 : Int) | 4 => v_ = St x.1.1.2 | 5 => v_ = .agg (srL r1).toArray | 6 => v_ = .pointer (some ⟨w1.heap.size, x.1.1.1 * 3, none⟩) | _ => True) : Array Bool → Nat → Value → World → Prop) lq kq uq W) => KF lq pq kq uq W W hp (gr W) h
            have IV : ∀ (lq : Array Bool) (pq : Nat) (A B : World), (pq ≠ 5 ∧ pq ≠ 7) → A = B → ((fun (l_ : Array Bool) (WW : World) => (l_.getD 5 false = false → WW = W.drewN 1) ∧ (l_.getD 5 false = true → l_.getD 7 false = false → (Lies WW (w1.heap.size + 1) 33 #[.slice (some ⟨w1.heap.size, 0, none⟩) yt yt] ∧ WW.there w1.heap.size (x.1.1.1 * 3) 3 ∧ Pf (WW.setCells (w1.heap.size) (x.1.1.1 * 3) (srL r1)))) ∧ (l_.getD 7 false = true → Pf WW)) : Array Bool → World → Prop) lq A → ((fun (l_ : Array Bool) (WW : World) => (l_.getD 5 false = false → WW = W.drewN 1) ∧ (l_.getD 5 false = true → l_.getD 7 false = false → (Lies WW (w1.heap.size + 1) 33 #[.slice (some ⟨w1.heap.size, 0, none⟩) yt yt] ∧ WW.there w1.heap.size (x.1.1.1 * 3) 3 ∧ Pf (WW.setCells (w1.heap.size) (x.1.1.1 * 3) (srL r1)))) ∧ (l_.getD 7 false = true → Pf WW)) : Array Bool → World → Prop) (lq.setIfInBounds pq true) B := fun lq pq A B hp hg h => by
              subst hg
              have h5 : (lq.setIfInBounds pq true).getD 5 false = lq.getD 5 false := by rw [getD_set_ne false hp.1]
              have h7 : (lq.setIfInBounds pq true).getD 7 false = lq.getD 7 false := by rw [getD_set_ne false hp.2]
              exact ⟨fun e => h.1 (by rw [← h5]; exact e), fun e e' => h.2.1 (by rw [← h5]; exact e) (by rw [← h7]; exact e'), fun e => h.2.2 (by rw [← h7]; exact e)⟩
            refine wpIn_region_any (by kernel_rfl) ?_
            refine every_factI_in (own := ownAll _) id ((fun (l_ : Array Bool) (j_ : Nat) (v_ : Value) (WW : World) => match j_ with | 0 => v_ = .slice (some ⟨w1.heap.size, 0, none⟩) yt yt | 1 => v_ = .int .i64 (x.1.1.1 : Int) | 2 => v_ = .func (.func fn) #[] caps | 3 => v_ = .int .i64 (x.1.1.1 : Int) | 4 => v_ = St x.1.1.2 | 5 => v_ = .agg (srL r1).toArray | 6 => v_ = .pointer (some ⟨w1.heap.size, x.1.1.1 * 3, none⟩) | _ => True) : Array Bool → Nat → Value → World → Prop) ((fun (l_ : Array Bool) (WW : World) => (l_.getD 5 false = false → WW = W.drewN 1) ∧ (l_.getD 5 false = true → l_.getD 7 false = false → (Lies WW (w1.heap.size + 1) 33 #[.slice (some ⟨w1.heap.size, 0, none⟩) yt yt] ∧ WW.there w1.heap.size (x.1.1.1 * 3) 3 ∧ Pf (WW.setCells (w1.heap.size) (x.1.1.1 * 3) (srL r1)))) ∧ (l_.getD 7 false = true → Pf WW)) : Array Bool → World → Prop) (acAll_of (by kernel_rfl)) (onAll_of (by kernel_rfl)) (dstAll_of (by kernel_rfl)) ?hop ?hend _ _ _ _ (fun _ => undef) rfl (shut_none _) (of_decide_eq_true (by kernel_rfl)) (tabd_start (fun i => rep_false _ i)) (fun k hk => by rw [rep_false] at hk; cases hk) ⟨fun _ => rfl, fun e => (by rw [rep_false] at e; cases e), fun e => (by rw [rep_false] at e; cases e)⟩
            case hop =>
              intro j oi a w0 listed vals hoi hs hcl hun hdeps ht hF hI
              have hj : j < 8 := (Array.getElem?_eq_some_iff.1 hoi).1
              have cj : j = 0 ∨ j = 1 ∨ j = 2 ∨ j = 3 ∨ j = 4 ∨ j = 5 ∨ j = 6 ∨ j = 7 := by omega
              obtain rfl | rfl | rfl | rfl | rfl | rfl | rfl | rfl := cj
              all_goals obtain rfl := Option.some.inj hoi
              · have e10 : a.eval (.tmp 10) = .pointer (some ⟨w1.heap.size + 1, 0, none⟩) := (tabd_old ht (t := 10) (of_decide_eq_true (by kernel_rfl)) (by kernel_rfl)).trans rfl
                refine .inl ⟨rfl, fun K hk => ?_⟩
                have n7 : listed.getD 7 false = false := (by cases hh : listed.getD 7 false with | false => rfl | true => exact absurd (hcl 7 _ rfl hh ⟨0, .phase⟩ (by simp) rfl) (by simp [hun]))
                have hbx : w0.cell? ⟨w1.heap.size + 1, 0, none⟩ = some (.slice (some ⟨w1.heap.size, 0, none⟩) yt yt) := by
                  cases h5 : listed.getD 5 false with
                  | false => rw [hI.1 h5]; exact x10
                  | true => exact lies_cell (hI.2.1 h5 n7).1 0
                exact wpIn_value (v := .slice (some ⟨w1.heap.size, 0, none⟩) yt yt) (fun c h => by cases h) rfl (by clear hk hI hoi hdeps ht hF hcl hs KF KP IV; generalize a.eval = ρ at *; unfold execOp; simp only [e10]; go_simp) (hk _ _ rfl (KP listed 0 w0 trivial) (IV listed 0 w0 w0 (by decide) rfl hI))
              · have e13 : a.eval (.tmp 13) = .int .i64 (x.1.1.1 : Int) := (tabd_old ht (t := 13) (of_decide_eq_true (by kernel_rfl)) (by kernel_rfl)).trans rfl
                exact .inl ⟨rfl, fun K hk => wpIn_value (v := .int .i64 (x.1.1.1 : Int)) (fun c h => by cases h) rfl (by clear hk hI hoi hdeps ht hF hcl hs KF KP IV; generalize a.eval = ρ at *; unfold execOp; simp only [e13]; go_simp; try (intro hq_; exfalso; omega)) (hk _ _ rfl (KP listed 1 w0 trivial) (IV listed 1 w0 w0 (by decide) rfl hI))⟩
              · have e12 : a.eval (.tmp 12) = .pointer (some ⟨wr.heap.size, 0, none⟩) := (tabd_old ht (t := 12) (of_decide_eq_true (by kernel_rfl)) (by kernel_rfl)).trans rfl
                refine .inl ⟨rfl, fun K hk => ?_⟩
                have n5 : listed.getD 5 false = false := (by cases hh : listed.getD 5 false with | false => rfl | true => exact absurd (hcl 5 _ rfl hh ⟨2, .data⟩ (by simp) rfl) (by simp [hun]))
                have hbx : w0.cell? ⟨wr.heap.size, 0, none⟩ = some (.func (.func fn) #[] caps) := by rw [hI.1 n5]; exact lies_cell (show Lies (W.drewN 1) _ _ _ from HBK.out) 0
                exact wpIn_value (v := .func (.func fn) #[] caps) (fun c h => by cases h) rfl (by clear hk hI hoi hdeps ht hF hcl hs KF KP IV; generalize a.eval = ρ at *; unfold execOp; simp only [e12]; go_simp) (hk _ _ rfl (KP listed 2 w0 trivial) (IV listed 2 w0 w0 (by decide) rfl hI))
              · have e13 : a.eval (.tmp 13) = .int .i64 (x.1.1.1 : Int) := (tabd_old ht (t := 13) (of_decide_eq_true (by kernel_rfl)) (by kernel_rfl)).trans rfl
                exact .inl ⟨rfl, fun K hk => wpIn_value (v := .int .i64 (x.1.1.1 : Int)) (fun c h => by cases h) rfl (by clear hk hI hoi hdeps ht hF hcl hs KF KP IV; generalize a.eval = ρ at *; unfold execOp; simp only [e13]; go_simp; try (intro hq_; exfalso; omega)) (hk _ _ rfl (KP listed 3 w0 trivial) (IV listed 3 w0 w0 (by decide) rfl hI))⟩
              · have e14 : a.eval (.tmp 14) = St x.1.1.2 := (tabd_old ht (t := 14) (of_decide_eq_true (by kernel_rfl)) (by kernel_rfl)).trans rfl
                exact .inl ⟨rfl, fun K hk => wpIn_value (v := St x.1.1.2) (fun c h => by cases h) rfl (by clear hk hI hoi hdeps ht hF hcl hs KF KP IV; generalize a.eval = ρ at *; unfold execOp; simp only [e14]; go_simp; try (intro hq_; exfalso; omega)) (hk _ _ rfl (KP listed 4 w0 trivial) (IV listed 4 w0 w0 (by decide) rfl hI))⟩
              · have d2 := hdeps ⟨2, .data⟩ (by simp) rfl
                have d3 := hdeps ⟨3, .data⟩ (by simp) rfl
                have d4 := hdeps ⟨4, .data⟩ (by simp) rfl
                have e51 : a.eval (.tmp 51) = .func (.func fn) #[] caps := (tabd_at ht (t := 51) (of_decide_eq_true (by kernel_rfl)) (by kernel_rfl) d2).trans (hF 2 d2)
                have e52 : a.eval (.tmp 52) = .int .i64 (x.1.1.1 : Int) := (tabd_at ht (t := 52) (of_decide_eq_true (by kernel_rfl)) (by kernel_rfl) d3).trans (hF 3 d3)
                have e53 : a.eval (.tmp 53) = St x.1.1.2 := (tabd_at ht (t := 53) (of_decide_eq_true (by kernel_rfl)) (by kernel_rfl) d4).trans (hF 4 d4)
                refine .inl ⟨rfl, fun K hk => ?_⟩
                have PR := fun W' => show ∀ (kq : Nat) (uq : Value), kq ≠ 5 → listed.getD kq false = true → ((fun (l_ : Array Bool) (j_ : Nat) (v_ : Value) (WW : World) => match j_ with | 0 => v_ = .slice (some ⟨w1.heap.size, 0, none⟩) yt yt | 1 => v_ = .int .i64 (x.1.1.1 : Int) | 2 => v_ = .func (.func fn) #[] caps | 3 => v_ = .int .i64 (x.1.1.1 : Int) | 4 => v_ = St x.1.1.2 | 5 => v_ = .agg (srL r1).toArray | 6 => v_ = .pointer (some ⟨w1.heap.size, x.1.1.1 * 3, none⟩) | _ => True) : Array Bool → Nat → Value → World → Prop) listed kq uq w0 → ((fun (l_ : Array Bool) (j_ : Nat) (v_ : Value) (WW : World) => match j_ with | 0 => v_ = .slice (some ⟨w1.heap.size, 0, none⟩) yt yt | 1 => v_ = .int .i64 (x.1.1.1 : Int) | 2 => v_ = .func (.func fn) #[] caps | 3 => v_ = .int .i64 (x.1.1.1 : Int) | 4 => v_ = St x.1.1.2 | 5 => v_ = .agg (srL r1).toArray | 6 => v_ = .pointer (some ⟨w1.heap.size, x.1.1.1 * 3, none⟩) | _ => True) : Array Bool → Nat → Value → World → Prop) (listed.setIfInBounds 5 true) kq uq W' from
                  (fun kq uq hkp hkl h => by
                    have s_ : (listed.setIfInBounds 5 true).getD 5 false = true := getD_here (by rw [hs]; decide)
                    match kq, hkp, hkl, h with
                    | 0, _, _, h => exact h
                    | 1, _, _, h => exact h
                    | 2, _, _, h => exact h
                    | 3, _, _, h => exact h
                    | 4, _, _, h => exact h
                    | 5, hk, _, _ => exact absurd rfl hk
                    | 6, _, _, h => exact h
                    | _ + 7, _, _, _ => exact trivial)
                have n7 : listed.getD 7 false = false := (by cases hh : listed.getD 7 false with | false => rfl | true => exact absurd (hcl 7 _ rfl hh ⟨5, .data⟩ (by simp) rfl) (by simp [hun]))
                have hR := MR2
                rw [← hI.1 hun] at hR
                refine wpIn_callT (fun c h => by cases h) (fun f hf => trivial) (by clear hk hI hoi hdeps ht hF hcl hs KF KP IV hR PR; generalize a.eval = ρ at *; unfold execOp; simp only [e51, e52, e53]; go_simp; try (first | exact EN _ _ | (rw [EN]; rfl))) (by omega) (show CallsIn (Fence.wide.inRound lp) _ _ _ _ _ _ from callsIn_wide.2 hR) ?_
                rintro e w2 ⟨rfl, hp1⟩
                exact ⟨_, rfl, hk _ w2 rfl (PR w0) ⟨fun e => (by rw [getD_here (by rw [hs]; decide)] at e; cases e), fun _ _ => hp1, fun e => (by rw [getD_set_ne false (by decide), n7] at e; cases e)⟩⟩
              · have d0 := hdeps ⟨0, .data⟩ (by simp) rfl
                have d1 := hdeps ⟨1, .data⟩ (by simp) rfl
                have e49 : a.eval (.tmp 49) = .slice (some ⟨w1.heap.size, 0, none⟩) yt yt := (tabd_at ht (t := 49) (of_decide_eq_true (by kernel_rfl)) (by kernel_rfl) d0).trans (hF 0 d0)
                have e50 : a.eval (.tmp 50) = .int .i64 (x.1.1.1 : Int) := (tabd_at ht (t := 50) (of_decide_eq_true (by kernel_rfl)) (by kernel_rfl) d1).trans (hF 1 d1)
                exact .inl ⟨rfl, fun K hk => wpIn_value (v := .pointer (some ⟨w1.heap.size, x.1.1.1 * 3, none⟩)) (fun c h => by cases h) rfl (by clear hk hI hoi hdeps ht hF hcl hs KF KP IV; generalize a.eval = ρ at *; unfold execOp; simp only [e49, e50]; go_simp; try (intro hq_; exfalso; omega)) (hk _ _ rfl (KP listed 6 w0 trivial) (IV listed 6 w0 w0 (by decide) rfl hI))⟩
              · have d6 := hdeps ⟨6, .data⟩ (by simp) rfl
                have d5 := hdeps ⟨5, .data⟩ (by simp) rfl
                have e54 : a.eval (.tmp 54) = .agg (srL r1).toArray := (tabd_at ht (t := 54) (of_decide_eq_true (by kernel_rfl)) (by kernel_rfl) d5).trans (hF 5 d5)
                have e55 : a.eval (.tmp 55) = .pointer (some ⟨w1.heap.size, x.1.1.1 * 3, none⟩) := (tabd_at ht (t := 55) (of_decide_eq_true (by kernel_rfl)) (by kernel_rfl) d6).trans (hF 6 d6)
                refine .inl ⟨rfl, fun K hk => ?_⟩
                have PR := fun W' => show ∀ (kq : Nat) (uq : Value), kq ≠ 7 → listed.getD kq false = true → ((fun (l_ : Array Bool) (j_ : Nat) (v_ : Value) (WW : World) => match j_ with | 0 => v_ = .slice (some ⟨w1.heap.size, 0, none⟩) yt yt | 1 => v_ = .int .i64 (x.1.1.1 : Int) | 2 => v_ = .func (.func fn) #[] caps | 3 => v_ = .int .i64 (x.1.1.1 : Int) | 4 => v_ = St x.1.1.2 | 5 => v_ = .agg (srL r1).toArray | 6 => v_ = .pointer (some ⟨w1.heap.size, x.1.1.1 * 3, none⟩) | _ => True) : Array Bool → Nat → Value → World → Prop) listed kq uq w0 → ((fun (l_ : Array Bool) (j_ : Nat) (v_ : Value) (WW : World) => match j_ with | 0 => v_ = .slice (some ⟨w1.heap.size, 0, none⟩) yt yt | 1 => v_ = .int .i64 (x.1.1.1 : Int) | 2 => v_ = .func (.func fn) #[] caps | 3 => v_ = .int .i64 (x.1.1.1 : Int) | 4 => v_ = St x.1.1.2 | 5 => v_ = .agg (srL r1).toArray | 6 => v_ = .pointer (some ⟨w1.heap.size, x.1.1.1 * 3, none⟩) | _ => True) : Array Bool → Nat → Value → World → Prop) (listed.setIfInBounds 7 true) kq uq W' from
                  (fun kq uq hkp hkl h => by
                    have s_ : (listed.setIfInBounds 7 true).getD 7 false = true := getD_here (by rw [hs]; decide)
                    match kq, hkp, hkl, h with
                    | 0, _, _, h => exact h
                    | 1, _, _, h => exact h
                    | 2, _, _, h => exact h
                    | 3, _, _, h => exact h
                    | 4, _, _, h => exact h
                    | 5, _, _, h => exact h
                    | 6, _, _, h => exact h
                    | _ + 7, _, _, _ => exact trivial)
                have l5 := hdeps ⟨5, .chain⟩ (by simp) rfl
                obtain ⟨_, hth, hpf⟩ := hI.2.1 l5 hun
                have hst := run_storeAt_mid (P := Try.prog) w0 w1.heap.size (x.1.1.1 * 3) 54 (srL r1).toArray hth (by kernel_rfl) (by simp [srL, Value.oneCell'])
                exact wpIn_skipv (w' := w0.setCells (w1.heap.size) (x.1.1.1 * 3) (srL r1)) (fun c h => by cases h) rfl (show ((do Instr.storeAt 54 (a.eval (.tmp 55)) (a.eval (.tmp 54)); pure Next.skip : Sem Next)).run Try.prog w0 = _ from by rw [e55, e54, Sem.run_bind, hst]; rfl) (hk _ _ trivial (PR w0) ⟨fun e => (by rw [getD_set_ne false (by decide), l5] at e; cases e), fun _ e => (by rw [getD_here (by rw [hs]; decide)] at e; cases e), fun _ => hpf⟩)
            case hend =>
              intro a w0 listed vals hall ht hF hI
              rw [tabd_fill ht (fun t i ho => hall i (ownAll_lt ho))]
              have g0 : vals 0 = .slice (some ⟨w1.heap.size, 0, none⟩) yt yt := hF 0 (by decide)
              have g1 : vals 1 = .int .i64 (x.1.1.1 : Int) := hF 1 (by decide)
              have g2 : vals 2 = .func (.func fn) #[] caps := hF 2 (by decide)
              have g3 : vals 3 = .int .i64 (x.1.1.1 : Int) := hF 3 (by decide)
              have g4 : vals 4 = St x.1.1.2 := hF 4 (by decide)
              have g5 : vals 5 = .agg (srL r1).toArray := hF 5 (by decide)
              have g6 : vals 6 = .pointer (some ⟨w1.heap.size, x.1.1.1 * 3, none⟩) := hF 6 (by decide)
              change Exit.inBlock _ (ownPostG _ _ _ _ _ _) Exit.normal { tmps := (.agg #[.slice NS xs ns, .slice FS ys fs] :: .agg #[.slice NT xt nt, .slice FT yt ft] :: .slice C zl cc :: .pointer (some ⟨w.heap.size, 0, none⟩) :: .pointer (some ⟨w.heap.size + 1, 0, none⟩) :: undef :: .slice none 0 0 :: .int .i64 0 :: .int .i64 0 :: .int .i64 0 :: .pointer (some ⟨w1.heap.size + 1, 0, none⟩) :: undef :: .pointer (some ⟨wr.heap.size, 0, none⟩) :: .int .i64 (x.1.1.1 : Int) :: St x.1.1.2 :: .agg #[.slice NS xs ns, .slice FS ys fs] :: .agg #[.slice NT xt nt, .slice FT yt ft] :: .int .i64 0 :: .int .i64 0 :: .bool false :: undef :: .slice C zl cc :: .int .i64 0 :: .int .i64 0 :: .bool false :: undef :: .pointer (some ⟨w.heap.size + 1, 1, none⟩) :: .slice FT yt ft :: .int .i64 (yt : Int) :: .slice (some ⟨w1.heap.size, 0, none⟩) yt yt :: .agg #[.slice NS xs ns, .slice FS ys fs] :: .agg #[.slice NT xt nt, .slice FT yt ft] :: .slice C zl cc :: .slice (some ⟨gs, 0, none⟩) 3 3 :: .int .i64 3 :: .int .i64 (j : Int) :: .bool true :: .pointer (some ⟨gs, j, none⟩) :: .func (.func fn) #[] caps :: .agg #[.slice NT xt nt, .slice FT yt ft] :: .func (.func 52) #[] #[.pointer (some ⟨wr.heap.size + 1, 0, none⟩)] :: .int .i64 (x.1.1.1 : Int) :: St x.1.1.2 :: .slice (some ⟨w1.heap.size, 0, none⟩) yt yt :: .int .i64 (x.1.1.1 : Int) :: .pointer (some ⟨w1.heap.size, x.1.1.1 * 3, none⟩) :: .agg #[.int .i64 0, .int .i64 0, .int .i64 0] :: .agg #[.int .i64 0, .int .i64 0, .int .i64 0] :: .bool true :: vals 0 :: vals 1 :: vals 2 :: vals 3 :: vals 4 :: vals 5 :: vals 6 :: u 56 :: u 57 :: u 58 :: u 59 :: u 60 :: []).toArray, defers := [] } w0
              simp only [g0, g1, g2, g3, g4, g5, g6]
              clear ht hF KF KP IV
              have hE := hI.2.2 (hall 7 (by decide))
              rw [hPf] at hE
              exact hE
          · have hcase : ¬ ya = 0 ∨ (ya = 0 ∧ ¬ yb = 0) ∨ (ya = 0 ∧ yb = 0 ∧ ¬ yc = 0) := by
              by_cases q1 : ya = 0
              · by_cases q2 : yb = 0
                · exact .inr (.inr ⟨q1, q2, fun q3 => hz (by rw [q1, q2, q3])⟩)
                · exact .inr (.inl ⟨q1, q2⟩)
              · exact .inl q1
            have fin : KeepsFrom X.heap.size W W ∧ KQ (fun i => i < w.heap.size ∨ i = wr.heap.size + 1) W W ∧ InI w w4 t gs (w1.heap.size + 1) w1.heap.size (w.heap.size + 1) #[.slice NT xt nt, .slice FT yt ft] yt ys (j * yt + (pre ++ [x]).length) xs zl (passM (skP named nm stock j) ((pre ++ [x]).map (fun z => z.1)) ST0) named nm stock Ds wr.heap.size (.func (.func fn) #[] caps) (wr.heap.size + 1) W := by
              refine ⟨KeepsFrom.refl _ _, kq_refl _ _, ?_⟩
              rw [SNOC.out, LEN.out, show stepM (skP named nm stock j) stp x.1 = stp from if_neg (by rw [GD.out]; exact hz)]
              exact inI_skip ⟨HMI.out, HDI.out, HBK.out, HBQ.out⟩
            have FIN := Lib.hid fin
            clear fin hz
            rcases hcase with q1 | ⟨rfl, q2⟩ | ⟨rfl, rfl, q3⟩
            · gi_wp2_with (refine wpListIn_load_mid rfl 54 _ rfl w1.heap.size (x.1.1.1 * 3) rfl [.int .i64 ya, .int .i64 yb, .int .i64 yc] _ SR.out Try.underlying54 rfl (by kernel_rfl) ?_)
              exact FIN.out
            · gi_wp2_with (refine wpListIn_load_mid rfl 54 _ rfl w1.heap.size (x.1.1.1 * 3) rfl [.int .i64 0, .int .i64 yb, .int .i64 yc] _ SR.out Try.underlying54 rfl (by kernel_rfl) ?_)
              exact FIN.out
            · gi_wp2_with (refine wpListIn_load_mid rfl 54 _ rfl w1.heap.size (x.1.1.1 * 3) rfl [.int .i64 0, .int .i64 0, .int .i64 yc] _ SR.out Try.underlying54 rfl (by kernel_rfl) ?_)
              exact FIN.out
        case done =>
          rintro D zs W hD rfl hI hK
          have LEN := txN_len tf HA4.out
          obtain ⟨hM, hDs, hbk, hbq⟩ := hI
          rw [txN_map, LEN] at hM
          have ES : passM (skP named nm stock j) (txL (tf.map Fl.data)) ST0 = passes (skP named nm stock) (txL (tf.map Fl.data)) (List.replicate yt z3, ⟨F0, fun _ => none⟩) (j + 1) := by rw [HST.out]; rfl
          rw [ES, show j * yt + tf.length = (j + 1) * yt by rw [← YT.out, Nat.succ_mul]] at hM
          have FM := Lib.hid hM
          have FD := Lib.hid (dfs_cons hDs (by have := ZX2.out; have := HM2.out.low.size; have := HX4.out; omega) (fun E hE => Nat.lt_of_lt_of_le (DX.out E hE) hD) hK)
          clear hM hDs hbk hbq ES LEN FX2 FX3 QX FA0
          gi_wp2
          refine ⟨⟨j + 1, fun i => (#[.agg #[.slice NS xs ns, .slice FS ys fs], .agg #[.slice NT xt nt, .slice FT yt ft], .slice C zl cc, .pointer (some ⟨w.heap.size, 0, none⟩), .pointer (some ⟨w.heap.size + 1, 0, none⟩), undef, .slice none 0 0, .int .i64 0, .int .i64 0, .int .i64 0, .pointer (some ⟨w1.heap.size + 1, 0, none⟩), undef, .pointer (some ⟨wr.heap.size, 0, none⟩), u 13, u 14, .agg #[.slice NS xs ns, .slice FS ys fs], .agg #[.slice NT xt nt, .slice FT yt ft], .int .i64 0, .int .i64 0, .bool false, undef, .slice C zl cc, .int .i64 0, .int .i64 0, .bool false, undef, .pointer (some ⟨w.heap.size + 1, 1, none⟩), .slice FT yt ft, .int .i64 (yt : Int), .slice (some ⟨w1.heap.size, 0, none⟩) yt yt, .agg #[.slice NS xs ns, .slice FS ys fs], .agg #[.slice NT xt nt, .slice FT yt ft], .slice C zl cc, .slice (some ⟨gs, 0, none⟩) 3 3, .int .i64 3, undef, .bool true, .pointer (some ⟨gs, j, none⟩), .func (.func fn) #[] caps, .agg #[.slice NT xt nt, .slice FT yt ft], .func (.func 52) #[] #[.pointer (some ⟨wr.heap.size + 1, 0, none⟩)], u 41, u 42, u 43, u 44, u 45, u 46, u 47, u 48, u 49, u 50, u 51, u 52, u 53, u 54, u 55, .int .i64 ((j : Int) + 1), u 57, u 58, u 59, u 60] : Array Value).getD i undef, D :: Ds, by omega, FD.out, FM.out, by have := dfs_lt FD.out D (List.mem_cons_self); have := HX4.out; omega, ?_⟩, ?_⟩
          · rfl
          · first | (simp [intOf]; done) | (simp [intOf]; omega)
        case stop =>
          rintro D c pre W _ _ h _
          exact h.elim
      · obtain rfl : j = 3 := by omega
        have HL3 := HM.out.len
        obtain ⟨stf, hstf⟩ : ∃ stf, stf = passes (skP named nm stock) (txL (tf.map Fl.data)) (List.replicate yt z3, ⟨F0, fun _ => none⟩) 3 := ⟨_, rfl⟩
        rw [← hstf] at HM HL3
        have MLF := Lib.hid (ML.out.trans hstf.symm)
        have x10 := lies_cell HM.out.hb 0
        simp only [List.getElem?_toArray, List.getElem?_cons_zero] at x10
        have HS := has_srcs (some ⟨w1.heap.size, 0, none⟩) yt stf.1 z3 wr (srcR_srcs HM.out.hr) (by have := YT.out; have := HA4.out; omega)
        rw [HL3] at HS
        have HS := Lib.hid HS
        have l3 : ¬ (((3 : Nat) : Int) < 3) := by omega
        clear hstf HL3
        by_cases hmem : z3 ∈ stf.1
        · have dm : decide (z3 ∈ stf.1) = true := decide_eq_true hmem
          have HE := Lib.hid (show E = 32 by rw [ME.out, if_neg (by simp), if_neg (by simp), MLF.out, if_pos hmem])
          rw [dm] at HS
          clear dm
          gi_wp2_with (refine ⟨trivial, ?_⟩; gi_at_call 34; refine (callsIn_wide.2 HS.out).mono ?_; rintro e w5 ⟨rfl, hb⟩; have B5 := Lib.hid hb; clear hb)
          refine leavesM_of_dfs (B := w4.heap.size) (fun V => Below w.heap.size w V ∧ SrcR V w1.heap.size stf.1) (fun V D hB hV hk => ⟨hV.1.grown (grownBy_putObj' V D (.deferred none)) hV.1.size (fun r e => by injection e with e; have := BW4.out.size; omega), srcR_keep hV.2 (World.putObj_heap_other (fun e => by
            obtain ⟨cs, hl⟩ := srcR_lies hV.2
            rw [← e] at hk
            rw [show _ = _ from hl] at hk
            cases hk))⟩) (fun V hV => ?_) Ds w5 (dfs_grown0 HDs.out (grown_of_below B5.out)) ⟨HM.out.low.trans (B5.out.mono HM.out.low.size), srcR_keep HM.out.hr (B5.out.block _ (by obtain ⟨cs, hl⟩ := srcR_lies HM.out.hr; exact lies_lt hl))⟩
          rw [HE.out]
          exact ⟨.tuple #[.slice none 0 0, .int .i64 32], by simp [results, Try.f13, go_sem], .slice none 0 0, rfl, fun _ => rfl, fun h => absurd h (by decide), hV.1⟩
        · have dm : decide (z3 ∈ stf.1) = false := decide_eq_false hmem
          have HE := Lib.hid (show E = 0 by rw [ME.out, if_neg (by simp), if_neg (by simp), MLF.out, if_neg hmem])
          rw [dm] at HS
          clear dm
          gi_wp2_with (refine ⟨trivial, ?_⟩; gi_at_call 34; refine (callsIn_wide.2 HS.out).mono ?_; rintro e w5 ⟨rfl, hb⟩; have B5 := Lib.hid hb; have x11 := lies_cell (lies_below HM.out.hb hb (lies_lt HM.out.hb)) 0; clear hb; simp only [List.getElem?_toArray, List.getElem?_cons_zero] at x11)
          refine leavesM_of_dfs (B := w4.heap.size) (fun V => Below w.heap.size w V ∧ SrcR V w1.heap.size stf.1) (fun V D hB hV hk => ⟨hV.1.grown (grownBy_putObj' V D (.deferred none)) hV.1.size (fun r e => by injection e with e; have := BW4.out.size; omega), srcR_keep hV.2 (World.putObj_heap_other (fun e => by
            obtain ⟨cs, hl⟩ := srcR_lies hV.2
            rw [← e] at hk
            rw [show _ = _ from hl] at hk
            cases hk))⟩) (fun V hV => ?_) Ds w5 (dfs_grown0 HDs.out (grown_of_below B5.out)) ⟨HM.out.low.trans (B5.out.mono HM.out.low.size), srcR_keep HM.out.hr (B5.out.block _ (by obtain ⟨cs, hl⟩ := srcR_lies HM.out.hr; exact lies_lt hl))⟩
          rw [HE.out]
          exact ⟨.tuple #[.slice (some ⟨w1.heap.size, 0, none⟩) yt yt, .int .i64 0], by simp [results, Try.f13, go_sem], .slice (some ⟨w1.heap.size, 0, none⟩) yt yt, rfl, fun h => absurd rfl h, fun _ => ⟨w1.heap.size, rfl, by rw [MLF.out]; exact hV.2⟩, hV.1⟩
    · have hE : E = E2 := by rw [ME.out, if_neg (by simp), if_pos hz2]
      replace ME := trivial
      subst hE
      gi_wp2_with (refine ⟨trivial, ?_⟩; gi_at_call 31; refine (callsIn_wide.2 (K2.out _ B1.out)).mono ?_; rintro e w2 ⟨rfl, rfl⟩)
      exact ⟨.tuple #[.slice none 0 0, .int .i64 E], by simp [results, Try.f13, go_sem], .slice none 0 0, rfl, fun _ => rfl, fun h => absurd h hz2, B1.out⟩
  · have hE : E = E1 := by rw [ME.out, if_pos hz1]
    subst hE
    gi_wp2_with (first
      | (refine wpListIn_load_mid rfl 25 _ rfl w.heap.size 0 rfl [.slice NS xs ns, .slice FS ys fs] _ R0.out Try.underlying25 rfl (by kernel_rfl) ?_)
      | (refine wpListIn_load_mid rfl 25 _ rfl (w.heap.size + 1) 0 rfl [.slice NT xt nt, .slice FT yt ft] _ R1.out Try.underlying25 rfl (by kernel_rfl) ?_)
      | (refine ⟨trivial, ?_⟩; gi_at_call 30; refine (callsIn_wide.2 (K1.out _ B0.out)).mono ?_; rintro e w1 ⟨rfl, hb⟩; have LL0 := Lib.hid (lies_below L0.out hb (lies_lt L0.out)); have LL1 := Lib.hid (lies_below L1.out hb (lies_lt L1.out)); have B1 := Lib.hid (B0.out.trans (hb.mono B0.out.size)); have H1 := Lib.hid hb.size; clear hb))
    exact ⟨.tuple #[.slice none 0 0, .int .i64 E], by simp [results, Try.f13, go_sem], .slice none 0 0, rfl, fun _ => rfl, fun h => absurd h hz1, B1.out⟩
end Go.Proofs.Ytiglakhfkgeefaa
set_option linter.unusedSimpArgs false
set_option linter.unusedVariables false
namespace Go.Proofs.Ytiglakhfkgeefaa
open Go.Pth Go.Tre Go.RowKit Go.Word Go.Shelf Go.Mat
theorem conv_x (V : World) : ∃ C W', (convert 9 47 (.string { data := #[120] })).run Try.prog V = .ok (.slice (some ⟨V.heap.size, 0, none⟩) 1 C) W' ∧ Below V.heap.size V W' ∧ W'.heap.size = V.heap.size + 1 ∧ W'.cell? ⟨V.heap.size, 0, none⟩ = some (.int .u8 120) := by
  have h := run_bytes_of_string (P := Try.prog) V 9 47 5 { data := #[120] } Try.underlying9 Try.underlying47 Try.underlying5
  refine ⟨_, _, h, ?_, ?_, ?_⟩
  · have g : V.grownBy (V.drew.alloc (.cells (bytesRow { data := #[120] } (grownCap V 1 0 5)) 5 ((bytesRow { data := #[120] } (grownCap V 1 0 5)).size, (bytesRow { data := #[120] } (grownCap V 1 0 5)).size + 1))) none := ⟨rfl, rfl, rfl, by simp, fun i hi _ => heap_alloc_old V.drew _ hi⟩
    exact (Below.refl V.heap.size V).grown g (Nat.le_refl _) (fun r e => by cases e)
  · simp
  · have hb := heap_alloc_new V.drew (.cells (bytesRow { data := #[120] } (grownCap V 1 0 5)) 5 ((bytesRow { data := #[120] } (grownCap V 1 0 5)).size, (bytesRow { data := #[120] } (grownCap V 1 0 5)).size + 1))
    show World.cell? (V.drew.alloc (.cells (bytesRow { data := #[120] } (grownCap V 1 0 5)) 5 ((bytesRow { data := #[120] } (grownCap V 1 0 5)).size, (bytesRow { data := #[120] } (grownCap V 1 0 5)).size + 1))) ⟨V.drew.heap.size, 0, none⟩ = _
    generalize (V.drew.alloc (.cells (bytesRow { data := #[120] } (grownCap V 1 0 5)) 5 ((bytesRow { data := #[120] } (grownCap V 1 0 5)).size, (bytesRow { data := #[120] } (grownCap V 1 0 5)).size + 1))) = U at *
    unfold World.cell?
    simp only [hb]
    simp [bytesRow]
    rw [Array.getElem?_append_left (by simp)]
    rfl
set_option maxRecDepth 100000 in
theorem leaf_any (c : UInt8) (w : World) : Calls Try.prog 28 #[.string { data := #[c] }, .string { data := #[120] }] w fun e w' => (∃ g g', e = .returned (.agg #[.slice (some ⟨g, 0, none⟩) 1 1, .slice (some ⟨g', 0, none⟩) 1 1]) ∧ NodesAt w' (some ⟨g, 0, none⟩) [⟨[c], 0, 0⟩] ∧ FilesAt w' (some ⟨g', 0, none⟩) [⟨0, [120]⟩]) ∧ Below w.heap.size w w' := by
  have LN := lies_new (w.alloc (.cells #[.slice none 0 0, .slice none 0 0] 25)) 60 #[.string { data := #[c] }, .int .i64 0, .int .i64 0]
  rw [World.size_alloc] at LN
  have B0 : Below w.heap.size w ((w.alloc (.cells #[.slice none 0 0, .slice none 0 0] 25)).alloc (.cells #[.string { data := #[c] }, .int .i64 0, .int .i64 0] 60)) := ((Below.refl _ _).alloc (Nat.le_refl _) _).alloc (by simp) _
  have Z0 : ((w.alloc (.cells #[.slice none 0 0, .slice none 0 0] 25)).alloc (.cells #[.string { data := #[c] }, .int .i64 0, .int .i64 0] 60)).heap.size = w.heap.size + 2 := by simp
  have LB := lies_alloc (lies_new w 25 #[.slice none 0 0, .slice none 0 0]) (.cells #[.string { data := #[c] }, .int .i64 0, .int .i64 0] 60)
  obtain ⟨C, W2, hcv, hB2, hz2, hc2⟩ := conv_x ((w.alloc (.cells #[.slice none 0 0, .slice none 0 0] 25)).alloc (.cells #[.string { data := #[c] }, .int .i64 0, .int .i64 0] 60))
  have L2 := Lib.hid (lies_below LN hB2 (lies_lt LN))
  have LB2 := Lib.hid (lies_below LB hB2 (lies_lt LB))
  have BH := Lib.hid (B0.trans (hB2.mono B0.size))
  rw [Z0] at hz2 hc2 hcv
  have ROW : ∀ (g g' : Nat), (#[Value.slice (some ⟨g, 0, none⟩) 1 1, Value.slice (some ⟨g', 0, none⟩) 1 1] : Array Value).all (·.oneCell') = true := fun g g' => by simp [Value.oneCell']
  have LB3 := Lib.hid (lies_alloc LB2.out (.cells #[.int .i64 0, .slice (some ⟨w.heap.size + 2, 0, none⟩) 1 C] 52))
  have L3 := Lib.hid (lies_alloc L2.out (.cells #[.int .i64 0, .slice (some ⟨w.heap.size + 2, 0, none⟩) 1 C] 52))
  have LF := lies_new W2 52 #[.int .i64 0, .slice (some ⟨w.heap.size + 2, 0, none⟩) 1 C]
  rw [hz2] at LF
  have LF := Lib.hid LF
  have HC := Lib.hid (show (W2.alloc (.cells #[.int .i64 0, .slice (some ⟨w.heap.size + 2, 0, none⟩) 1 C] 52)).cell? ⟨w.heap.size + 2, 0, none⟩ = some (.int .u8 120) from (((Below.refl W2.heap.size W2).alloc (Nat.le_refl _) (.cells #[.int .i64 0, .slice (some ⟨w.heap.size + 2, 0, none⟩) 1 C] 52)).cell (p := ⟨w.heap.size + 2, 0, none⟩) (by show w.heap.size + 2 < W2.heap.size; omega)).trans hc2)
  have B3 := Lib.hid (BH.out.alloc (by omega) (.cells #[.int .i64 0, .slice (some ⟨w.heap.size + 2, 0, none⟩) 1 C] 52))
  have z3' : W2.heap.size = w.heap.size + 3 := by omega
  clear LN B0 Z0 LB hB2 hc2 hz2
  rename_i LFx
  clear LFx
  have HZ := z3'
  go_enter Try.func28, Try.ntmps28
  go_wp2_with (refine wpList_store_row rfl 25 _ _ rfl w.heap.size #[.slice (some ⟨w.heap.size + 1, 0, none⟩) 1 1, .slice (some ⟨w.heap.size + 3, 0, none⟩) 1 1] rfl rfl 25 #[.slice none 0 0, .slice none 0 0] LB3.out (by kernel_rfl) rfl (ROW _ _) ?_)
  refine bodyPost_ret (results_cell_row rfl _ _ w.heap.size 25 #[.slice (some ⟨w.heap.size + 1, 0, none⟩) 1 1, .slice (some ⟨w.heap.size + 3, 0, none⟩) 1 1] (0, 0) _ rfl (lies_setRow LB3.out #[.slice (some ⟨w.heap.size + 1, 0, none⟩) 1 1, .slice (some ⟨w.heap.size + 3, 0, none⟩) 1 1]) Try.underlying25 rfl (by kernel_rfl)) rfl ?_
  have gs : ∀ (W : World) cs, W.grownBy (W.setRow w.heap.size cs) (some w.heap.size) := fun W cs => ⟨rfl, rfl, rfl, by simp, fun i _ hne => setRow_other W _ i _ (fun e => hne (by rw [e]))⟩
  have l1 := ((gs _ #[.slice (some ⟨w.heap.size + 1, 0, none⟩) 1 1, .slice (some ⟨w.heap.size + 3, 0, none⟩) 1 1]).block (w.heap.size + 1) (lies_lt L3.out) (by simp)).trans L3.out
  have l2 := ((gs _ #[.slice (some ⟨w.heap.size + 1, 0, none⟩) 1 1, .slice (some ⟨w.heap.size + 3, 0, none⟩) 1 1]).block (w.heap.size + 3) (lies_lt LF.out) (by simp)).trans LF.out
  have c2 := (World.cell?_of_block (a := ⟨w.heap.size + 2, 0, none⟩) ((gs _ #[.slice (some ⟨w.heap.size + 1, 0, none⟩) 1 1, .slice (some ⟨w.heap.size + 3, 0, none⟩) 1 1]).block (w.heap.size + 2) (block_lt_of_cell HC.out) (by simp))).trans HC.out
  refine ⟨⟨_, _, rfl, fun i hi => ?_, fun i hi => ?_⟩, B3.out.grown (gs _ _) B3.out.size (fun r e => by injection e with e; omega)⟩
  · obtain rfl : i = 0 := by simp at hi; omega
    exact ⟨_, _, rfl, lies_lt l1, lies_cell l1 0, lies_cell l1 1, lies_cell l1 2⟩
  · obtain rfl : i = 0 := by simp at hi; omega
    refine ⟨_, _, some ⟨w.heap.size + 2, 0, none⟩, C, rfl, lies_lt l2, lies_cell l2 0, lies_cell l2 1, fun j hj => ?_⟩
    obtain rfl : j = 0 := by simp at hj; omega
    exact ⟨_, _, rfl, block_lt_of_cell c2, c2⟩
end Go.Proofs.Ytiglakhfkgeefaa
set_option linter.unusedSimpArgs false
set_option linter.unusedVariables false
namespace Go.Proofs.Ytiglakhfkgeefaa
open Go.Pth Go.Tre Go.RowKit Go.Word Go.Shelf Go.Mat
theorem match_any (NS FS NT FT C : Option Addr) (ns fs nt ft cc : Nat) (sn tn : List Nd) (sf tf : List Fl) (ls : List Bt) (w : World) (hNS : NodesAt w NS sn) (hFS : FilesAt w FS sf) (hNT : NodesAt w NT tn) (hFT : FilesAt w FT tf) (hC : ListQ w C ls)
    (hp : ∀ x ∈ sn, x.path.length ≤ 100000) (hq : ∀ x ∈ tn, x.path.length ≤ 100000) (hlb : ∀ x ∈ ls, x.length ≤ 140737488355328) (hok : pairE sn sf tn tf = 0 → Stk.checkL (ls.map List.length) = 0 → MOk sn sf tn tf ls) :
    Calls Try.prog 13 #[.agg #[.slice NS sn.length ns, .slice FS sf.length fs], .agg #[.slice NT tn.length nt, .slice FT tf.length ft], .slice C ls.length cc] w fun e W => ∃ v, e = .returned (.tuple #[v, .int .i64 (matchE sn sf tn tf ls)]) ∧
      (matchE sn sf tn tf ls ≠ 0 → v = .slice none 0 0) ∧ (matchE sn sf tn tf ls = 0 → ∃ g, v = .slice (some ⟨g, 0, none⟩) tf.length tf.length ∧ SrcR W g (matchL sn sf tn tf ls).1) ∧ Below w.heap.size w W :=
  (callsIn_wide (n := 6)).1 (match_in 6 (by omega) NS FS NT FT C ns fs nt ft cc sn tn sf tf ls w hNS hFS hNT hFT hC hp hq hlb hok)
theorem num_any (z : Int) (w : World) : Calls Try.prog 18 #[.int .i64 z] w fun e w' => e = .returned (.int .i64 z) ∧ w = w' := by
  go_enter Try.func18, Try.ntmps18
  go_wp2
  go_ret
  exact ⟨rfl, rfl⟩
abbrev lfN (c : UInt8) : List Nd := [⟨[c], 0, 0⟩]
abbrev lfF : List Fl := [⟨0, [120]⟩]
theorem live_p : pairE (lfN 97) lfF (lfN 98) lfF = 0 := by kernel_rfl
theorem live_e : matchE (lfN 97) lfF (lfN 98) lfF [] = 0 := by kernel_rfl
theorem live_l : (matchL (lfN 97) lfF (lfN 98) lfF []).1 = [((1, 0, 0) : Sr)] := by kernel_rfl
theorem live_ok : MOk (lfN 97) lfF (lfN 98) lfF [] := ⟨by decide, by decide, by decide, by decide, by decide, by decide, by decide, by decide, by decide, by decide⟩
theorem live_match (g g' q q' : Nat) (w : World) (h1 : NodesAt w (some ⟨g, 0, none⟩) (lfN 97)) (h2 : FilesAt w (some ⟨g', 0, none⟩) lfF) (h3 : NodesAt w (some ⟨q, 0, none⟩) (lfN 98)) (h4 : FilesAt w (some ⟨q', 0, none⟩) lfF) :
    Calls Try.prog 13 #[.agg #[.slice (some ⟨g, 0, none⟩) 1 1, .slice (some ⟨g', 0, none⟩) 1 1], .agg #[.slice (some ⟨q, 0, none⟩) 1 1, .slice (some ⟨q', 0, none⟩) 1 1], .slice none 0 0] w fun e W => ∃ r, e = .returned (.tuple #[.slice (some ⟨r, 0, none⟩) 1 1, .int .i64 0]) ∧ W.rangeAt r 0 [.int .i64 1, .int .i64 0, .int .i64 0] ∧ Below w.heap.size w W := by
  refine (match_any (some ⟨g, 0, none⟩) (some ⟨g', 0, none⟩) (some ⟨q, 0, none⟩) (some ⟨q', 0, none⟩) none 1 1 1 1 0 (lfN 97) (lfN 98) lfF lfF [] w h1 h2 h3 h4 (fun i hi => by cases hi) (by decide) (by decide) (fun x hx => by cases hx) (fun _ _ => live_ok)).mono ?_
  rintro e W ⟨v, rfl, _, hv, hb⟩
  obtain ⟨r, rfl, hs⟩ := hv live_e
  rw [live_l] at hs
  exact ⟨r, by rw [live_e]; rfl, srcR_at hs 0 (by decide), hb⟩
set_option maxRecDepth 100000 in
set_option maxHeartbeats 1000000 in
theorem alive_any (w : World) : Calls Try.prog 9 #[] w fun e w' => e = .returned (.bool true) ∧ Below w.heap.size w w' := by
  have L1 := Lib.hid (fun W => leaf_any 97 W)
  have L2 := Lib.hid (fun W => leaf_any 98 W)
  have NU := Lib.hid (fun W => num_any 0 W)
  go_enter Try.func9, Try.ntmps9
  go_wp2_with (first
    | (go_at_call 28; (with_reducible refine (L1.out _).mono ?_); rintro e w1 ⟨⟨g, g', rfl, h1, h2⟩, hb⟩; have N1 := Lib.hid h1; have F1 := Lib.hid h2; have B1 := Lib.hid hb; clear h1 h2 hb)
    | (go_at_call 28; (with_reducible refine (L2.out _).mono ?_); rintro e w2 ⟨⟨q, q', rfl, h1, h2⟩, hb⟩; have N2 := Lib.hid h1; have F2 := Lib.hid h2; have B2 := Lib.hid hb; have M := Lib.hid (live_match g g' q q' w2 (nodesAt_below N1.out hb) (filesAt_below F1.out hb) h1 h2); clear h1 h2 hb)
    | (go_at_call 13; (with_reducible refine M.out.mono ?_); rintro e w3 ⟨r, rfl, hr, hb⟩; have y0 := hr 0 _ rfl; have y1 := hr 1 _ rfl; have y2 := hr 2 _ rfl; simp only [Nat.zero_add, Nat.add_zero] at y0 y1 y2; have B3 := Lib.hid (B1.out.trans ((B2.out.trans (hb.mono B2.out.size)).mono B1.out.size)); clear hr hb)
    | (go_at_call 18; (with_reducible refine (NU.out _).mono ?_); rintro e w4 ⟨rfl, rfl⟩))
  go_ret
  exact ⟨rfl, B3.out⟩
end Go.Proofs.Ytiglakhfkgeefaa
