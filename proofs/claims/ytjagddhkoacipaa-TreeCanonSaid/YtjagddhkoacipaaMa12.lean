/-
What is proved here: several texts in one (Tuh, Exa, Opt): each says what it is about.
-/
import Derived.Test.YtjagddhkoacipaaMa11
import Derived.Test.YtjagddhkoacipaaMa7
import Derived.Test.YtjagddhkoacipaaMa9
import Derived.Test.YtjagddhkoacipaaMa10
import Derived.Test.YtjagddhkoacipaaMa1
import Derived.StillTailTactics
import Derived.Test.YtjagddhkoacipaaMa3
import Derived.Deep.SlicePairs
import Derived.ChangeArms
import Derived.ChangeSlices
import Derived.ChangeSame
/-
What is proved here: what TreeTurned turns, in the memory of a copy.
-/
set_option linter.unusedSimpArgs false
namespace Go.Proofs.Ytjagddhkoacipaa
open Go.Pth Go.Tre Go.RowKit Go.Word Go.Shelf
attribute [local go_sem] guard_eq guard_ne st_eql st_neq

theorem own_at {w : World} {B e size n C : Nat} {A : Option Addr} {xs : List Value} (h : w.ownsRow B e size (.slice A n C) n xs) (hn : 0 < n) : ∃ g, A = some ⟨g, 0, none⟩ := by
  rcases h.2 with ⟨_, h0⟩ | ⟨g, cap, cur, e, _⟩
  · omega
  · injection e with e
    exact ⟨g, e⟩
theorem ncells_set (c : Nat) (u : Value) (f : Nd → Nd) (hc : c < 3) : ∀ (ns : List Nd) (k : Nat) (h : k < ns.length), ([St (f ns[k]).path, .int .i64 (f ns[k]).file, .int .i64 (f ns[k]).mode] = ([St ns[k].path, .int .i64 ns[k].file, .int .i64 ns[k].mode] : List Value).set c u) → (ncells ns).set (k * 3 + c) u = ncells (ns.set k (f ns[k]))
  | x :: r, 0, _, he => by
    have he : [St (f x).path, .int .i64 (f x).file, .int .i64 (f x).mode] = ([St x.path, .int .i64 x.file, .int .i64 x.mode] : List Value).set c u := he
    unfold ncells
    rw [List.flatMap_cons, List.set_append_left _ _ (by simp; omega)]
    show _ = List.flatMap _ (f x :: r)
    rw [List.flatMap_cons, he, show 0 * 3 + c = c by omega]
  | x :: r, k + 1, h, he => by
    have ih := ncells_set c u f hc r k (by simpa using h) he
    unfold ncells at ih ⊢
    show _ = List.flatMap _ (x :: r.set k (f (r[k]'(by simpa using h))))
    rw [List.flatMap_cons, List.flatMap_cons, List.set_append_right _ _ (by simp; omega)]
    congr 1
    rw [← ih]
    congr 1
    simp
    omega
theorem fcells_set (D : Nat → Value) (u : Int) (fs : List Fl) (k : Nat) (h : k < fs.length) : (fcells D fs).set (k * 2) (.int .i64 u) = fcells D (fs.set k ⟨u, fs[k].data⟩) := by
  apply List.ext_getElem?
  intro i
  have hl : (fs.set k ⟨u, fs[k].data⟩).length = fs.length := by simp
  by_cases hi : i < fs.length * 2
  · obtain ⟨k1, k2⟩ := fcells_at D (fs.set k ⟨u, fs[k].data⟩) (i / 2) (by omega)
    obtain ⟨j1, j2⟩ := fcells_at D fs (i / 2) (by omega)
    have h2 : i % 2 = 0 ∨ i % 2 = 1 := by omega
    rcases h2 with h2 | h2
    · rw [show (fcells D (fs.set k ⟨u, fs[k].data⟩))[i]? = (fcells D (fs.set k ⟨u, fs[k].data⟩))[i / 2 * 2]? by congr 1; omega, k1, List.getElem?_set]
      by_cases e : k * 2 = i
      · have e2 : i / 2 = k := by omega
        rw [if_pos e, if_pos (by rw [fcells_len]; omega)]
        simp [e2]
      · have e2 : i / 2 ≠ k := by omega
        rw [if_neg e, show (fcells D fs)[i]? = (fcells D fs)[i / 2 * 2]? by congr 1; omega, j1]
        simp [List.getElem_set, Ne.symm e2]
    · rw [show (fcells D (fs.set k ⟨u, fs[k].data⟩))[i]? = (fcells D (fs.set k ⟨u, fs[k].data⟩))[i / 2 * 2 + 1]? by congr 1; omega, k2, List.getElem?_set, if_neg (by omega), show (fcells D fs)[i]? = (fcells D fs)[i / 2 * 2 + 1]? by congr 1; omega, j2]
  · rw [List.getElem?_eq_none (by rw [List.length_set, fcells_len]; omega), List.getElem?_eq_none (by rw [fcells_len]; omega)]
theorem copy_drew {w : World} {B : Nat} {vN vF : Value} {D : Nat → Value} {ns : List Nd} {fs : List Fl} (h : CopyAt w B vN vF D ns fs) : CopyAt w.drew B vN vF D ns fs := copy_kept h (row := none) ⟨rfl, rfl, rfl, Nat.le_refl _, fun _ _ _ => rfl⟩ (fun r e => by cases e)
/-- the law's tree behind the one thing that is turned: another tree, in memory of the call's own -/
def Turned (W : World) (B T : Nat) (ns : List Nd) (fs : List Fl) : Prop := ∃ ns' fs' NA FA nc fc, Lies W T 25 #[.slice NA (List.length ns') nc, .slice FA (List.length fs') fc] ∧ NodesAt W NA ns' ∧ FilesAt W FA fs' ∧ ¬ (ns' = ns ∧ fs' = fs) ∧ (∀ x ∈ ns', x.path.length ≤ 100000) ∧ ns'.length ≤ 300 ∧ fs'.length ≤ 300 ∧ B ≤ T
theorem turned_of {W : World} {B T : Nat} {vN vF : Value} {D : Nat → Value} {ns ns' : List Nd} {fs fs' : List Fl} (hL : Lies W T 25 #[vN, vF]) (hC : CopyAt W B vN vF D ns' fs') (hne : ¬ (ns' = ns ∧ fs' = fs)) (hp : ∀ x ∈ ns', x.path.length ≤ 100000) (h1 : ns'.length ≤ 300) (h2 : fs'.length ≤ 300) (hT : B ≤ T) : Turned W B T ns fs := by
  obtain ⟨NA, nc, rfl, hN⟩ := copy_nodes hC
  obtain ⟨FA, fc, rfl, hF⟩ := copy_files hC
  exact ⟨ns', fs', NA, FA, nc, fc, hL, hN, hF, hne, hp, h1, h2, hT⟩
theorem same_no {ns ns' : List Nd} {fs fs' : List Fl} (hne : ¬ (ns' = ns ∧ fs' = fs)) : sameT ns fs ns' fs' = false := by
  unfold sameT
  by_cases h1 : ns = ns'
  · have h2 : ¬ fs = fs' := fun e => hne ⟨h1.symm, e.symm⟩
    simp [h2]
  · simp [h1]
theorem wrap_i64 (n : Int) : IntKind.i64.wrap n = (n + 9223372036854775808) % 18446744073709551616 - 9223372036854775808 := by
  simp only [IntKind.wrap, IntKind.bits, IntKind.signed]
  simp
  split <;> omega
theorem ofInt_wrap (x : BitVec 64) : BitVec.ofInt 64 (IntKind.i64.wrap (x.toNat : Int)) = x := by
  apply BitVec.eq_of_toNat_eq
  have := x.isLt
  rw [BitVec.toNat_ofInt, wrap_i64]
  omega
/-- a number of which the lowest bit is turned is another -/
theorem xor1_ne (a : Int) : bits .xor .i64 a 1 ≠ a := fun h => by
  have hx : bits .xor .i64 a 1 = IntKind.i64.wrap ((BitVec.ofInt 64 a ^^^ BitVec.ofInt 64 1).toNat : Int) := rfl
  have h1 : BitVec.ofInt 64 a = BitVec.ofInt 64 a ^^^ BitVec.ofInt 64 1 := by
    have := ofInt_wrap (BitVec.ofInt 64 a ^^^ BitVec.ofInt 64 1)
    rw [← hx, h] at this
    exact this
  have h2 := congrArg (fun y => BitVec.ofInt 64 a ^^^ y) h1
  simp only [← BitVec.xor_assoc, BitVec.xor_self, BitVec.zero_xor] at h2
  exact absurd h2 (by decide)
theorem xor64_byte (c : UInt8) : bits .xor .u8 (c.toNat : Int) 64 = ((c ^^^ 64).toNat : Int) := by
  have hx : bits .xor .u8 (c.toNat : Int) 64 = IntKind.u8.wrap ((BitVec.ofInt 8 (c.toNat : Int) ^^^ BitVec.ofInt 8 64).toNat : Int) := rfl
  have hc := c.toNat_lt
  have h1 : (BitVec.ofInt 8 (c.toNat : Int)).toNat = c.toNat := by
    rw [BitVec.ofInt_natCast, BitVec.toNat_ofNat]; exact Nat.mod_eq_of_lt (by omega)
  have h2 : c.toNat ^^^ 64 < 2 ^ 8 := Nat.xor_lt_two_pow (by omega) (by omega)
  rw [hx, BitVec.toNat_xor, h1, UInt8.toNat_xor]
  show IntKind.u8.wrap ((c.toNat ^^^ 64 : Nat) : Int) = ((c.toNat ^^^ 64 : Nat) : Int)
  simp only [IntKind.wrap, IntKind.bits, IntKind.signed]
  simp
  omega
/-- a tree in memory of the call's own, but for which blocks are whose -/
structure Parts6 (w : World) (B : Nat) (vN vF : Value) (ns : List Nd) (fs : List Fl) : Prop where
  nodes : w.ownsRow B 54 3 vN ns.length (ncells ns)
  files : ∃ D, w.ownsRow B 57 2 vF fs.length (fcells D fs) ∧ ∀ i, i < fs.length → OwnB w B (D i) (fs.getD i ⟨0, []⟩).data
theorem parts_of {w : World} {B : Nat} {vN vF : Value} {D : Nat → Value} {ns : List Nd} {fs : List Fl} (h : CopyAt w B vN vF D ns fs) : Parts6 w B vN vF ns fs := ⟨h.nodes, D, h.files, h.data⟩
theorem parts_nodes {w : World} {B : Nat} {vN vF : Value} {ns : List Nd} {fs : List Fl} (h : Parts6 w B vN vF ns fs) : ∃ NA nc, vN = .slice NA ns.length nc ∧ NodesAt w NA ns := by
  rcases h.nodes.2 with ⟨e, h0⟩ | ⟨g, cap, cur, e, hg, hb, _⟩
  · exact ⟨none, 0, by rw [e, h0], fun i hi => by omega⟩
  · have hn := h.nodes
    subst e
    refine ⟨_, _, rfl, fun i hi => ⟨g, 0, rfl, (Array.getElem?_eq_some_iff.1 hb).1, ?_⟩⟩
    obtain ⟨k1, k2, k3⟩ := ncells_at ns i hi
    rw [Nat.zero_add, hn.cellAt _ (by omega), hn.cellAt _ (by omega), hn.cellAt _ (by omega)]
    exact ⟨k1, k2, k3⟩
theorem parts_files {w : World} {B : Nat} {vN vF : Value} {ns : List Nd} {fs : List Fl} (h : Parts6 w B vN vF ns fs) : ∃ FA fc, vF = .slice FA fs.length fc ∧ FilesAt w FA fs := by
  obtain ⟨D, hf, hd⟩ := h.files
  rcases hf.2 with ⟨e, h0⟩ | ⟨g, cap, cur, e, hg, hb, _⟩
  · exact ⟨none, 0, by rw [e, h0], fun i hi => by omega⟩
  · subst e
    refine ⟨_, _, rfl, fun i hi => ?_⟩
    obtain ⟨k1, k2⟩ := fcells_at D fs i hi
    have hd := hd i hi
    have e : fs.getD i ⟨0, []⟩ = fs[i] := by simp [List.getD_eq_getElem?_getD, List.getElem?_eq_getElem hi]
    rw [e] at hd
    obtain ⟨DA, dc, e1, e2⟩ := own_bytes hd
    refine ⟨g, 0, DA, dc, rfl, (Array.getElem?_eq_some_iff.1 hb).1, ?_, ?_, e2⟩
    · rw [Nat.zero_add, hf.cellAt _ (by omega), k1]
    · rw [Nat.zero_add, hf.cellAt _ (by omega), k2, e1]
theorem data_other {w : World} {B : Nat} {vN vF : Value} {D : Nat → Value} {ns : List Nd} {fs : List Fl} (h : CopyAt w B vN vF D ns fs) {i k : Nat} (hik : i ≠ k) (hi : i < fs.length) (hk : k < fs.length) : (D i).ownBlock = none ∨ (D i).ownBlock ≠ (D k).ownBlock := by
  cases hv : (D i).ownBlock with
  | none => exact .inl rfl
  | some b =>
    refine .inr (fun e => ?_)
    rcases Nat.lt_or_gt_of_ne hik with h1 | h1
    · exact h.apart i k h1 hk b hv e.symm
    · exact h.apart k i h1 hi b e.symm hv
theorem getD_set_fl (fs : List Fl) (k i : Nat) (x : Fl) (hk : k < fs.length) : (fs.set k x).getD i ⟨0, []⟩ = if i = k then x else fs.getD i ⟨0, []⟩ := by
  rw [List.getD_eq_getElem?_getD, List.getD_eq_getElem?_getD, List.getElem?_set]
  by_cases e : k = i
  · subst e
    rw [if_pos rfl, if_pos hk, if_pos rfl]
    rfl
  · rw [if_neg e, if_neg (fun h => e h.symm)]
theorem fcells_data (D : Nat → Value) (fs : List Fl) (k : Nat) (x : Fl) (hk : k < fs.length) (hm : x.mode = fs[k].mode) : fcells D (fs.set k x) = fcells D fs := by
  unfold fcells
  rw [List.length_set, List.flatMap_def, List.flatMap_def]
  congr 1
  refine List.map_congr_left (fun i hi => ?_)
  rw [getD_set_fl fs k i x hk]
  by_cases e : i = k
  · subst e
    rw [if_pos rfl, hm, List.getD_eq_getElem?_getD, List.getElem?_eq_getElem hk]
    rfl
  · rw [if_neg e]
/-- a file's bytes are turned where they lie -/
theorem copy_data_turned {w w' : World} {B gd : Nat} {vN vF : Value} {D : Nat → Value} {ns : List Nd} {fs : List Fl} {k : Nat} {x : Fl} (h : CopyAt w B vN vF D ns fs) (hk : k < fs.length) (hm : x.mode = fs[k].mode) (hd : (D k).ownBlock = some gd) (h1 : OwnB w' B (D k) x.data) (hg : w.grownBy w' (some gd)) : Parts6 w' B vN vF ns (fs.set k x) := by
  obtain ⟨_, cs, hgh⟩ := own_heap (h.data k hk) gd hd
  have ot : ∀ (t : TypeId) (r : Nat), t ≠ 5 → some gd = some r → ∃ cs t', w.heap[r]? = some (.cells cs t' (0, 0)) ∧ t' ≠ t := fun t r ht e => by
    injection e with e
    subst e
    exact ⟨cs, 5, hgh, fun e => ht e.symm⟩
  refine ⟨h.nodes.kept hg (own_other h.nodes (fun r e => ot 54 r (by decide) e)), D, ?_, fun i hi => ?_⟩
  · rw [List.length_set, fcells_data D fs k x hk hm]
    exact h.files.kept hg (own_other h.files (fun r e => ot 57 r (by decide) e))
  · rw [List.length_set] at hi
    rw [getD_set_fl fs k i x hk]
    by_cases e : i = k
    · subst e
      rw [if_pos rfl]
      exact h1
    · rw [if_neg e]
      exact World.ownsRow.kept (h.data i hi) hg (by rw [← hd]; exact data_other h e hi hk)
/-- a file's bytes are others, in a row of their own -/
theorem copy_data_new {w w1 : World} {B g C : Nat} {vN v : Value} {D : Nat → Value} {ns : List Nd} {fs : List Fl} {k : Nat} {x : Fl} (h : CopyAt w B vN (.slice (some ⟨g, 0, none⟩) fs.length C) D ns fs) (hk : k < fs.length) (hm : x.mode = fs[k].mode) (h1 : OwnB w1 B v x.data) (hg : w.grownBy w1 (D k).ownBlock) : Parts6 (w1.setCell ⟨g, k * 2 + 1, none⟩ v) B vN (.slice (some ⟨g, 0, none⟩) fs.length C) ns (fs.set k x) := by
  have ot : ∀ (t : TypeId) (r : Nat), t ≠ 5 → (D k).ownBlock = some r → ∃ cs t', w.heap[r]? = some (.cells cs t' (0, 0)) ∧ t' ≠ t := fun t r ht e => by
    obtain ⟨_, cs, hgh⟩ := own_heap (h.data k hk) r e
    exact ⟨cs, 5, hgh, fun e => ht e.symm⟩
  have n1 := h.nodes.kept hg (own_other h.nodes (fun r e => ot 54 r (by decide) e))
  have f1 := h.files.kept hg (own_other h.files (fun r e => ot 57 r (by decide) e))
  obtain ⟨s1, s2⟩ := f1.stored (k * 2 + 1) v
  obtain ⟨_, cs, hgh⟩ := own_heap f1 g rfl
  have o2 : ∀ (t : TypeId) (r : Nat), t ≠ 57 → some g = some r → ∃ cs t', w1.heap[r]? = some (.cells cs t' (0, 0)) ∧ t' ≠ t := fun t r ht e => by
    injection e with e
    subst e
    exact ⟨cs, 57, hgh, fun e => ht e.symm⟩
  refine ⟨n1.kept s2 (own_other n1 (fun r e => o2 54 r (by decide) e)), (fun i => if i = k then v else D i), ?_, fun i hi => ?_⟩
  · rw [List.length_set, fcells_data _ fs k x hk hm, ← fcells_put D v fs k hk]
    exact s1
  · rw [List.length_set] at hi
    rw [getD_set_fl fs k i x hk]
    by_cases e : i = k
    · subst e
      rw [if_pos rfl]
      show OwnB _ B (if i = i then v else D i) x.data
      rw [if_pos rfl]
      exact World.ownsRow.kept h1 s2 (own_other h1 (fun r e => o2 5 r (by decide) e))
    · rw [if_neg e]
      show OwnB _ B (if i = k then v else D i) _
      rw [if_neg e]
      have d1 := World.ownsRow.kept (h.data i hi) hg (data_other h e hi hk)
      exact World.ownsRow.kept d1 s2 (own_other d1 (fun r e => o2 5 r (by decide) e))
theorem store_st (P : Program) (w : World) (a : Addr) (m : Mode) (x : Bt) : (store a (St x) m).run P w = stored P w a (St x) m := run_store P w a _ m rfl
theorem run_add_z (p : Bt) (h : p.length ≤ 100000) (W : World) : (binOp .add 9 (St p) (.string { data := #[122] })).run Try.prog W = .ok (St (p ++ [122])) W := by
  have := run_string_add_lists (P := Try.prog) (w := W) p [122] (by omega) (by simp)
  unfold St
  rw [binOp_string_add]
  exact this
theorem xor64_ne (c : UInt8) : c ^^^ 64 ≠ c := fun h => by
  have h1 := congrArg (fun y => c ^^^ y) h
  simp only [← UInt8.xor_assoc, UInt8.xor_self, UInt8.zero_xor] at h1
  exact absurd h1 (by decide)
/-- the number of the file, and the bytes, of the node that is looked at -/
def fileAt (ns : List Nd) (a : Int) : Int := (ns.getD (a.toNat % ns.length) ⟨[], 0, 0⟩).file
def dataAt (ns : List Nd) (fs : List Fl) (a : Int) : Bt := (fs.getD (fileAt ns a).toNat ⟨0, []⟩).data
end Go.Proofs.Ytjagddhkoacipaa

/-
What is proved here: the document's own look whether two trees are the same in every field, by a contract.
-/
set_option linter.unusedSimpArgs false
namespace Go.Proofs.Ytjagddhkoacipaa
open Go.Pth Go.Tre Go.RowKit Go.Word Go.Shelf
attribute [local go_sem] guard_eq guard_ne st_eql st_neq

def exactB (ns : List Nd) (fs : List Fl) (ms : List Nd) (gs : List Fl) : Bool := decide (ns = ms) && decide (fs = gs)
set_option maxRecDepth 100000 in
set_option maxHeartbeats 4000000 in
theorem exact_any (NA FA MA GA : Option Addr) (nc fc mc gc : Nat) (ns ms : List Nd) (fs gs : List Fl) (w : World) (hN : NodesAt w NA ns) (hF : FilesAt w FA fs) (hM : NodesAt w MA ms) (hG : FilesAt w GA gs) (h1 : ns.length ≤ 1000000) (h2 : fs.length ≤ 1000000) :
    Calls Try.prog 19 #[.agg #[.slice NA ns.length nc, .slice FA fs.length fc], .agg #[.slice MA ms.length mc, .slice GA gs.length gc]] w fun e w' => e = .returned (.bool (exactB ns fs ms gs)) ∧ Below w.heap.size w w' := by
  obtain ⟨n, hne⟩ : ∃ n, n = ns.length := ⟨_, rfl⟩
  obtain ⟨m, hme⟩ : ∃ m, m = ms.length := ⟨_, rfl⟩
  obtain ⟨f, hfe⟩ : ∃ f, f = fs.length := ⟨_, rfl⟩
  obtain ⟨g, hge⟩ : ∃ g, g = gs.length := ⟨_, rfl⟩
  rw [← hne] at h1
  rw [← hfe] at h2
  rw [← hne, ← hme, ← hfe, ← hge]
  have L1 := lies_alloc (lies_new w 25 #[.slice NA n nc, .slice FA f fc]) (.cells #[.slice MA m mc, .slice GA g gc] 25)
  have L2 := lies_new (w.alloc (.cells #[.slice NA n nc, .slice FA f fc] 25)) 25 #[.slice MA m mc, .slice GA g gc]
  rw [World.size_alloc] at L2
  have hB : Below w.heap.size w ((w.alloc (.cells #[.slice NA n nc, .slice FA f fc] 25)).alloc (.cells #[.slice MA m mc, .slice GA g gc] 25)) := ((Below.refl _ _).alloc (Nat.le_refl _) _).alloc (by simp) _
  have HN := Lib.hid (nodesAt_below hN hB)
  have HM := Lib.hid (nodesAt_below hM hB)
  have HF := Lib.hid (filesAt_below hF hB)
  have HG := Lib.hid (filesAt_below hG hB)
  have NE := Lib.hid hne
  have ME := Lib.hid hme
  have FE := Lib.hid hfe
  have GE := Lib.hid hge
  obtain ⟨r, hr⟩ : ∃ r, r = exactB ns fs ms gs := ⟨_, rfl⟩
  rw [← hr]
  have RE := Lib.hid hr
  have x0 := lies_cell L1 0
  have x1 := lies_cell L1 1
  have y0 := lies_cell L2 0
  have y1 := lies_cell L2 1
  simp only [List.getElem?_toArray, List.getElem?_cons_zero, List.getElem?_cons_succ] at x0 x1 y0 y1
  have HB := Lib.hid hB
  clear L1 L2 hB hN hF hM hG hne hme hfe hge hr
  by_cases hnm : ¬ n = m
  · have hr := Lib.hid (show r = false by
      rw [RE.out]; unfold exactB
      rw [decide_eq_false (fun e : ns = ms => hnm (by rw [NE.out, ME.out, e])), Bool.false_and])
    have l1 : ¬ (n : Int) = (m : Int) := by omega
    go_enter Try.func19, Try.ntmps19
    go_wp2
    go_ret
    rw [hr.out]
    exact ⟨rfl, HB.out⟩
  obtain rfl := Decidable.not_not.1 hnm
  by_cases hfg : ¬ f = g
  · have hr := Lib.hid (show r = false by
      rw [RE.out]; unfold exactB
      rw [decide_eq_false (fun e : fs = gs => hfg (by rw [FE.out, GE.out, e])), Bool.and_false])
    have l1 : ¬ (f : Int) = (g : Int) := by omega
    go_enter Try.func19, Try.ntmps19
    go_wp2
    go_ret
    rw [hr.out]
    exact ⟨rfl, HB.out⟩
  obtain rfl := Decidable.not_not.1 hfg
  clear hnm hfg
  go_enter Try.func19, Try.ntmps19
  go_wp2
  generalize (w.alloc (.cells #[.slice NA n nc, .slice FA f fc] 25)).alloc (.cells #[.slice MA n mc, .slice GA f gc] 25) = X at *
  go_loopw [5] (fun v5 wr => ∃ i : Nat, i ≤ n ∧ v5 = .int .i64 (i : Int) ∧ ns.take i = ms.take i ∧ ∃ k, wr = X.drewN k) (fun v5 _ => n - (intOf v5).toNat)
  case atStart => exact ⟨0, Nat.zero_le _, rfl, by simp, 0, rfl⟩
  case round =>
    obtain ⟨i, hi, rfl, hno, kk, rfl⟩ := hrel
    have NO := Lib.hid hno
    clear hno
    have z0 : (X.drewN kk).cell? ⟨w.heap.size, 0, none⟩ = some (.slice NA n nc) := x0
    have z1 : (X.drewN kk).cell? ⟨w.heap.size, 1, none⟩ = some (.slice FA f fc) := x1
    have z2 : (X.drewN kk).cell? ⟨w.heap.size + 1, 0, none⟩ = some (.slice MA n mc) := y0
    have z3 : (X.drewN kk).cell? ⟨w.heap.size + 1, 1, none⟩ = some (.slice GA f gc) := y1
    by_cases hlt : i < n
    · have li : (i : Int) < (n : Int) := by omega
      have lf : i < ns.length := by have := NE.out; omega
      have lm : i < ms.length := by have := ME.out; omega
      obtain ⟨b, o, eA, hl, d1, d2, d3⟩ := HN.out i lf
      obtain ⟨b', o', eB, hl', f1, f2, f3⟩ := HM.out i lm
      subst eA eB
      have TK := Lib.hid (take_eq ns ms i NO.out lf lm)
      have EQ := Lib.hid (eqNd_iff ns[i] ms[i])
      have RN := Lib.hid (show ns = ms → ns[i] = ms[i] from fun e => by subst e; rfl)
      generalize ns[i] = x at *
      generalize ms[i] = y at *
      obtain ⟨p, fx, md⟩ := x
      obtain ⟨q, gx, k⟩ := y
      have d1 : (X.drewN kk).cell? ⟨b, o + i * 3, none⟩ = some (St p) := d1
      have d2 : (X.drewN kk).cell? ⟨b, o + i * 3 + 1, none⟩ = some (.int .i64 fx) := d2
      have d3 : (X.drewN kk).cell? ⟨b, o + i * 3 + 2, none⟩ = some (.int .i64 md) := d3
      have f1 : (X.drewN kk).cell? ⟨b', o' + i * 3, none⟩ = some (St q) := f1
      have f2 : (X.drewN kk).cell? ⟨b', o' + i * 3 + 1, none⟩ = some (.int .i64 gx) := f2
      have f3 : (X.drewN kk).cell? ⟨b', o' + i * 3 + 2, none⟩ = some (.int .i64 k) := f3
      have hE := fun W => neq_node p q fx gx md k W
      have hG := fun x y W => guard_node .neq x y #[St p, .int .i64 fx, .int .i64 md] #[St q, .int .i64 gx, .int .i64 k] W
      have EQ2 : Hid (eqNd p q fx gx md k = decide ((⟨p, fx, md⟩ : Nd) = ⟨q, gx, k⟩)) := EQ
      generalize eqNd p q fx gx md k = s at hE EQ2
      obtain ⟨Y, hY⟩ : ∃ Y, Y = X.drewN kk := ⟨_, rfl⟩
      rw [← hY] at z0 z1 z2 z3 d1 d2 d3 f1 f2 f3 ⊢
      have HY := Lib.hid hY
      clear hY
      go_wp2
      go_quiet (fail)
      go_wp2
      · rename_i hd
        have hs : s = false := by simpa using hd
        go_ret
        have hr : r = false := by
          rw [RE.out]
          unfold exactB
          rw [decide_eq_false (fun e => ?_), Bool.false_and]
          have h1 := EQ2.out
          rw [hs, decide_eq_true (RN.out e)] at h1
          cases h1
        rw [hr]
        exact ⟨rfl, by rw [HY.out]; exact below_drewN (below_drewN HB.out _) _⟩
      · rename_i hd
        have hs : s = true := by simpa using hd
        have hxy : (⟨p, fx, md⟩ : Nd) = ⟨q, gx, k⟩ := of_decide_eq_true (by rw [← EQ2.out]; exact hs)
        exact ⟨⟨i + 1, by omega, by go_num, TK.out.2 hxy, _, by rw [HY.out, World.drewN_drewN]⟩, by first | (simp [intOf]; done) | (simp [intOf]; omega)⟩
    · have li : ¬ (i : Int) < (n : Int) := by omega
      have EN := Lib.hid (show ns = ms by
        have h1 := NO.out
        rwa [List.take_of_length_le (by have := NE.out; omega), List.take_of_length_le (by have := ME.out; omega)] at h1)
      clear z0 z1 z2 z3
      go_wp2
      go_loopw [6] (fun v6 wr => ∃ j : Nat, j ≤ f ∧ v6 = .int .i64 (j : Int) ∧ fs.take j = gs.take j ∧ ∃ k, wr = X.drewN k) (fun v6 _ => f - (intOf v6).toNat)
      case atStart => exact ⟨0, Nat.zero_le _, rfl, by simp, kk, rfl⟩
      case round =>
        obtain ⟨j, hj, rfl, hno, k2, rfl⟩ := hrel
        have NO2 := Lib.hid hno
        clear hno
        have z0 : (X.drewN k2).cell? ⟨w.heap.size, 0, none⟩ = some (.slice NA n nc) := x0
        have z1 : (X.drewN k2).cell? ⟨w.heap.size, 1, none⟩ = some (.slice FA f fc) := x1
        have z2 : (X.drewN k2).cell? ⟨w.heap.size + 1, 0, none⟩ = some (.slice MA n mc) := y0
        have z3 : (X.drewN k2).cell? ⟨w.heap.size + 1, 1, none⟩ = some (.slice GA f gc) := y1
        by_cases hlt2 : j < f
        · have li2 : (j : Int) < (f : Int) := by omega
          have lf : j < fs.length := by have := FE.out; omega
          have lm : j < gs.length := by have := GE.out; omega
          obtain ⟨b, o, DA, dc, eA, hl, d1, d2, d3⟩ := HF.out j lf
          obtain ⟨b', o', DB, dd, eB, hl', f1, f2, f3⟩ := HG.out j lm
          subst eA eB
          have TK := Lib.hid (take_eq fs gs j NO2.out lf lm)
          have RN := Lib.hid (show fs = gs → fs[j] = gs[j] from fun e => by subst e; rfl)
          generalize fs[j] = x at *
          generalize gs[j] = y at *
          obtain ⟨md, a⟩ := x
          obtain ⟨k, c⟩ := y
          have d1 : (X.drewN k2).cell? ⟨b, o + j * 2, none⟩ = some (.int .i64 md) := d1
          have d2 : (X.drewN k2).cell? ⟨b, o + j * 2 + 1, none⟩ = some (.slice DA a.length dc) := d2
          have f1 : (X.drewN k2).cell? ⟨b', o' + j * 2, none⟩ = some (.int .i64 k) := f1
          have f2 : (X.drewN k2).cell? ⟨b', o' + j * 2 + 1, none⟩ = some (.slice DB c.length dd) := f2
          have t1 : ∀ q, (convert 37 9 (.slice DA a.length dc)).run Try.prog ((X.drewN k2).drewN q) = .ok (St a) ((X.drewN k2).drewN q) := fun q => run_text48 DA a dc ((X.drewN k2).drewN q) d3
          have t2 : ∀ q, (convert 37 9 (.slice DB c.length dd)).run Try.prog ((X.drewN k2).drewN q) = .ok (St c) ((X.drewN k2).drewN q) := fun q => run_text48 DB c dd ((X.drewN k2).drewN q) f3
          have RN2 : Hid (fs = gs → (⟨md, a⟩ : Fl) = ⟨k, c⟩) := RN
          have TK2 : Hid (fs.take (j + 1) = gs.take (j + 1) ↔ (⟨md, a⟩ : Fl) = ⟨k, c⟩) := TK
          clear d3 f3 RN TK
          generalize a.length = na at *
          generalize c.length = nb at *
          obtain ⟨Y, hY⟩ : ∃ Y, Y = X.drewN k2 := ⟨_, rfl⟩
          rw [← hY] at z0 z1 z2 z3 d1 d2 f1 f2 t1 t2 ⊢
          have HY := Lib.hid hY
          have bad : (⟨md, a⟩ : Fl) ≠ ⟨k, c⟩ → r = false := fun h => by
            rw [RE.out]
            unfold exactB
            rw [decide_eq_false (fun e => h (RN2.out e)), Bool.and_false]
          have BAD := Lib.hid bad
          clear hY bad
          by_cases hm : md = k
          · by_cases hac : a = c
            · have ho : other a c = false := decide_eq_false (by simp [hac])
              have hxy : (⟨md, a⟩ : Fl) = ⟨k, c⟩ := by rw [hm, hac]
              clear hac
              go_wp2
              go_quiet (fail)
              go_wp2
              exact ⟨⟨j + 1, by omega, by go_num, TK2.out.2 hxy, _, by rw [HY.out, World.drewN_drewN]⟩, by first | (simp [intOf]; done) | (simp [intOf]; omega)⟩
            · have ho : other a c = true := decide_eq_true hac
              have HR := Lib.hid (BAD.out (fun e => hac (by injection e)))
              clear hac
              go_wp2
              go_quiet (fail)
              go_wp2
              go_ret
              rw [HR.out]
              exact ⟨rfl, by rw [HY.out]; exact below_drewN (below_drewN HB.out _) _⟩
          · have HR := Lib.hid (BAD.out (fun e => hm (by injection e)))
            go_wp2
            go_quiet (fail)
            go_wp2
            go_ret
            rw [HR.out]
            exact ⟨rfl, by rw [HY.out]; exact below_drewN (below_drewN HB.out _) _⟩
        · have li2 : ¬ (j : Int) < (f : Int) := by omega
          have EF := Lib.hid (show fs = gs by
            have h1 := NO2.out
            rwa [List.take_of_length_le (by have := FE.out; omega), List.take_of_length_le (by have := GE.out; omega)] at h1)
          have HR := Lib.hid (show r = true by rw [RE.out]; unfold exactB; rw [decide_eq_true EN.out, decide_eq_true EF.out]; rfl)
          go_wp2
          go_ret
          rw [HR.out]
          exact ⟨rfl, below_drewN HB.out _⟩
end Go.Proofs.Ytjagddhkoacipaa

/-
What is proved here: a tree that came in, as a row of this seat gives it: its nodes and its files.
-/
set_option linter.unusedSimpArgs false
namespace Go.Proofs.Ytjagddhkoacipaa
open Go.Pth Go.Tre Go.Word Go.ChangeShapes Go.WideShapes Go.ChangeAt Go.RowKit Go.Deep

section
variable {H : Type} {enc : TypeId × Value → H}
theorem cells3 : Try.prog.cellsOf 3 = 1 := by kernel_rfl
theorem cells5 : Try.prog.cellsOf 5 = 1 := by kernel_rfl
theorem cells9 : Try.prog.cellsOf 9 = 1 := by kernel_rfl
theorem cells22 : Try.prog.cellsOf 22 = 1 := by kernel_rfl
theorem cells23 : Try.prog.cellsOf 23 = 1 := by kernel_rfl
theorem cells47 : Try.prog.cellsOf 54 = 3 := by kernel_rfl
theorem cells48 : Try.prog.cellsOf 37 = 1 := by kernel_rfl
theorem cells50 : Try.prog.cellsOf 57 = 2 := by kernel_rfl
def byteOf (z : Int) : UInt8 := UInt8.ofNat z.toNat
theorem byteOf_y {z : Int} (h : (Lit.int .u8 z).wf = true) : ((byteOf z).toNat : Int) = z := by
  simp only [Lit.wf, IntKind.min, IntKind.max, IntKind.signed, IntKind.bits, Bool.and_eq_true, decide_eq_true_eq] at h
  unfold byteOf
  simp at h ⊢
  omega
theorem open_bytes_cell {W : World} {base : Nat} {fuel : Nat} {v : Value} {x : DataW H × List MemPlace} (hf : DataW.trod enc Try.prog W base (fun _ => true) true fuel 37 [v] = some x) :
    ∃ (A : Option Addr) (c : Nat) (l : Bt), v = .slice A l.length c ∧ BytesAt W A l := by
  rcases open_ints Try.underlying37 Try.underlying5 cells5 hf with ⟨hcs, _⟩ | ⟨a, len', cap', zs, hcs, _, hl, hm, hz, _, hcell, hwz⟩
  · injection hcs with hcs
    exact ⟨none, 0, [], hcs, fun i hi => absurd hi (Nat.not_lt_zero _)⟩
  · injection hcs with hcs
    simp only [if_true] at hz
    have hlen : ((zs.take len').map byteOf).length = len' := by simp; omega
    refine ⟨some a, cap', (zs.take len').map byteOf, by rw [hlen]; exact hcs, fun i hi => ?_⟩
    rw [hlen] at hi
    obtain ⟨b, off, spot⟩ := a
    have hspot : spot = none := by simpa [Addr.add] using World.cell?_spot (hcell 0 (by omega))
    subst hspot
    have hc := hcell i (by omega)
    rw [Addr.add_mid] at hc
    refine ⟨b, off, rfl, block_lt_of_cell hc, ?_⟩
    have hj' : i < zs.length := by omega
    have e : zs.getD i 0 = zs[i] := by simp [List.getD_eq_getElem?_getD, List.getElem?_eq_getElem hj']
    rw [hc, e]
    simp only [List.getElem_map, List.getElem_take]
    rw [byteOf_y (hwz _ (List.getElem_mem hj'))]
set_option maxRecDepth 100000 in
theorem open_nodes_cell {W : World} {base : Nat} {fuel : Nat} {v : Value} {x : DataW H × List MemPlace} (hf : DataW.trod enc Try.prog W base (fun _ => true) true fuel 22 [v] = some x) :
    ∃ (A : Option Addr) (c : Nat) (ns : List Nd), v = .slice A ns.length c ∧ NodesAt W A ns := by
  rcases open_slice Try.underlying22 hf with ⟨hcs, _⟩ | ⟨a, len', cap', m, n, D, Pl, hcs, hb, hl, hm, hmm, _, hx⟩
  · injection hcs with hcs
    exact ⟨none, 0, [], hcs, fun i hi => absurd hi (Nat.not_lt_zero _)⟩
  · injection hcs with hcs
    simp only [if_true] at hmm
    have hspot : 0 < m → a.spot = none := fun h0 => by
      obtain ⟨cs0, q1, _⟩ := hx 0 h0
      rw [cells47] at q1
      obtain ⟨_, ql, qc⟩ := World.cells?_some q1
      have q0 := qc 0 (by omega)
      have e : (a.add (0 * 3)).add 0 = a := by simp [Addr.add]
      rw [e, List.getElem?_eq_getElem (by omega)] at q0
      exact World.cell?_spot q0
    have each : ∀ i, i < len' → ∃ q : Nd, ∃ b o, some a = some ⟨b, o, none⟩ ∧ b < W.heap.size ∧
        W.cell? ⟨b, o + i * 3, none⟩ = some (St q.path) ∧ W.cell? ⟨b, o + i * 3 + 1, none⟩ = some (.int .i64 q.file) ∧ W.cell? ⟨b, o + i * 3 + 2, none⟩ = some (.int .i64 q.mode) := by
      intro i hi
      have hsp := hspot (by omega)
      obtain ⟨cs', h1, h2⟩ := hx i (by omega)
      rw [cells47] at h1
      obtain ⟨_, hlen, hcell⟩ := World.cells?_some h1
      obtain ⟨xs, k, hk, hxy, _, hxl, hf⟩ := DataW.trod_struct Try.underlying54 h2
      match xs, hxl, cs', hlen with
      | [y0, y1, y2], _, [v0, v1, v2], _ =>
        have g0 := hf 0 _ rfl
        have g1 := hf 1 _ rfl
        have g2 := hf 2 _ rfl
        simp [cells3, cells9] at g0 g1 g2
        have e0 := hcell 0 (by omega)
        have e1 := hcell 1 (by omega)
        have e2 := hcell 2 (by omega)
        obtain ⟨st, c0, _, _⟩ := DataW.trod_string Try.underlying9 g0
        obtain ⟨z1, c1, _, w1⟩ := DataW.trod_int Try.underlying3 g1
        obtain ⟨z2, c2, _, w2⟩ := DataW.trod_int Try.underlying3 g2
        injection c0 with c0
        injection c1 with c1
        injection c2 with c2
        subst c0 c1 c2
        obtain ⟨b, off, spot⟩ := a
        simp only at hsp
        subst hsp
        have ha : ∀ j, ((⟨b, off, none⟩ : Addr).add (i * 3)).add j = ⟨b, off + i * 3 + j, none⟩ := fun j => by rw [Addr.add_mid, Addr.add_mid]
        rw [ha] at e0 e1 e2
        exact ⟨⟨st.data.toList, z1, z2⟩, b, off, rfl, block_lt_of_cell (by simpa using e0), by simpa [st_of] using e0, by simpa using e1, by simpa using e2⟩
    let pick : Nat → Nd := fun i => if h : i < len' then Classical.choose (each i h) else ⟨[], 0, 0⟩
    refine ⟨some a, cap', (List.range len').map pick, by simpa using hcs, fun i hi => ?_⟩
    have hi' : i < len' := by simpa using hi
    have e : ((List.range len').map pick)[i] = Classical.choose (each i hi') := by simp [pick, hi']
    rw [e]
    exact Classical.choose_spec (each i hi')
set_option maxRecDepth 100000 in
theorem open_files_cell {W : World} {base : Nat} {fuel : Nat} {v : Value} {x : DataW H × List MemPlace} (hf : DataW.trod enc Try.prog W base (fun _ => true) true fuel 23 [v] = some x) :
    ∃ (A : Option Addr) (c : Nat) (fs : List Fl), v = .slice A fs.length c ∧ FilesAt W A fs := by
  rcases open_slice Try.underlying23 hf with ⟨hcs, _⟩ | ⟨a, len', cap', m, n, D, Pl, hcs, hb, hl, hm, hmm, _, hx⟩
  · injection hcs with hcs
    exact ⟨none, 0, [], hcs, fun i hi => absurd hi (Nat.not_lt_zero _)⟩
  · injection hcs with hcs
    simp only [if_true] at hmm
    have hspot : 0 < m → a.spot = none := fun h0 => by
      obtain ⟨cs0, q1, _⟩ := hx 0 h0
      rw [cells50] at q1
      obtain ⟨_, ql, qc⟩ := World.cells?_some q1
      have q0 := qc 0 (by omega)
      have e : (a.add (0 * 2)).add 0 = a := by simp [Addr.add]
      rw [e, List.getElem?_eq_getElem (by omega)] at q0
      exact World.cell?_spot q0
    have each : ∀ i, i < len' → ∃ q : Fl, ∃ b o DA dc, some a = some ⟨b, o, none⟩ ∧ b < W.heap.size ∧
        W.cell? ⟨b, o + i * 2, none⟩ = some (.int .i64 q.mode) ∧ W.cell? ⟨b, o + i * 2 + 1, none⟩ = some (.slice DA q.data.length dc) ∧ BytesAt W DA q.data := by
      intro i hi
      have hsp := hspot (by omega)
      obtain ⟨cs', h1, h2⟩ := hx i (by omega)
      rw [cells50] at h1
      obtain ⟨_, hlen, hcell⟩ := World.cells?_some h1
      obtain ⟨xs, k, hk, hxy, _, hxl, hf⟩ := DataW.trod_struct Try.underlying57 h2
      match xs, hxl, cs', hlen with
      | [y0, y1], _, [v0, v1], _ =>
        have g0 := hf 0 _ rfl
        have g1 := hf 1 _ rfl
        simp [cells3, cells48] at g0 g1
        have e0 := hcell 0 (by omega)
        have e1 := hcell 1 (by omega)
        obtain ⟨z0, c0, _, w0⟩ := DataW.trod_int Try.underlying3 g0
        obtain ⟨DA, dc, l, c1, hby⟩ := open_bytes_cell g1
        injection c0 with c0
        subst c0 c1
        obtain ⟨b, off, spot⟩ := a
        simp only at hsp
        subst hsp
        have ha : ∀ j, ((⟨b, off, none⟩ : Addr).add (i * 2)).add j = ⟨b, off + i * 2 + j, none⟩ := fun j => by rw [Addr.add_mid, Addr.add_mid]
        rw [ha] at e0 e1
        exact ⟨⟨z0, l⟩, b, off, DA, dc, rfl, block_lt_of_cell (by simpa using e0), by simpa using e0, by simpa using e1, hby⟩
    let pick : Nat → Fl := fun i => if h : i < len' then Classical.choose (each i h) else ⟨0, []⟩
    refine ⟨some a, cap', (List.range len').map pick, by simpa using hcs, fun i hi => ?_⟩
    have hi' : i < len' := by simpa using hi
    have e : ((List.range len').map pick)[i] = Classical.choose (each i hi') := by simp [pick, hi']
    rw [e]
    exact Classical.choose_spec (each i hi')
theorem open_tree {W : World} {v : Value} {d : DataW H} {p : List MemPlace} (hs : v.cells.size = 2) (hv : ∃ cs, v = .agg cs) (h : DataW.Trod enc Try.prog W 0 (fun _ => true) true 25 v d p) :
    ∃ (NA FA : Option Addr) (nc fc : Nat) (ns : List Nd) (fs : List Fl), v = .agg #[.slice NA ns.length nc, .slice FA fs.length fc] ∧ NodesAt W NA ns ∧ FilesAt W FA fs := by
  obtain ⟨cs, rfl⟩ := hv
  obtain ⟨fuel, hf⟩ := h
  obtain ⟨cl⟩ := cs
  simp [Value.cells] at hs hf
  match cl, hs with
  | [v0, v1], _ =>
    obtain ⟨xs, k, hk, hxy, _, hxl, hg⟩ := DataW.trod_struct Try.underlying25 hf
    match xs, hxl with
    | [y0, y1], _ =>
      have g0 := hg 0 _ rfl
      have g1 := hg 1 _ rfl
      simp [cells22, cells23] at g0 g1
      obtain ⟨NA, nc, ns, rfl, hN⟩ := open_nodes_cell g0
      obtain ⟨FA, fc, fs, rfl, hF⟩ := open_files_cell g1
      exact ⟨NA, FA, nc, fc, ns, fs, rfl, hN, hF⟩
end
end Go.Proofs.Ytjagddhkoacipaa
