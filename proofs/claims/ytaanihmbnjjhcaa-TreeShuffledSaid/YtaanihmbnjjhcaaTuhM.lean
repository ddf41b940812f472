/-
What is proved here: what TreeTurned turns, in the memory of a copy.
-/
import Derived.Test.YtaanihmbnjjhcaaMa12
import Derived.Test.YtaanihmbnjjhcaaMa7
import Derived.Test.YtaanihmbnjjhcaaMa10
import Derived.Test.YtaanihmbnjjhcaaMa11
import Derived.Test.YtaanihmbnjjhcaaMa1
import Derived.Test.YtaanihmbnjjhcaaCl2M
import Derived.StillTailTactics
set_option linter.unusedSimpArgs false
set_option linter.unusedVariables false
namespace Go.Proofs.Ytaanihmbnjjhcaa
open Go.Pth Go.Tre Go.RowKit Go.Word Go.Shelf
attribute [local go_sem] guard_eq guard_ne st_eql st_neq

theorem own_at {w : World} {B e size n C : Nat} {A : Option Addr} {xs : List Value} (h : w.ownsRow B e size (.slice A n C) n xs) (hn : 0 < n) : ∃ g, A = some ⟨g, 0, none⟩ := by
  rcases h.2 with ⟨_, h0⟩ | ⟨g, cap, cur, e, _⟩
  · omega
  · injection e with e
    exact ⟨g, e⟩
theorem ncells_set (c : Nat) (u : Value) (f : Nd → Nd) (hc : c < 3) : ∀ (ns : List Nd) (k : Nat) (h : k < ns.length), ([St (f ns[k]).path, .int .i64 (f ns[k]).file, .int .i64 (f ns[k]).mode] = ([St ns[k].path, .int .i64 ns[k].file, .int .i64 ns[k].mode] : List Value).set c u) → (ncells ns).set (k * 3 + c) u = ncells (ns.set k (f ns[k]))
  | x :: r, 0, _, he => by
    have he : [St (f x).path, .int .i64 (f x).file, .int .i64 (f x).mode] = ([St x.path, .int .i64 x.file, .int .i64 x.mode] : List Value).set c u := he
    unfold ncells
    rw [List.flatMap_cons, List.set_append_left _ _ (by simp; omega)]
    show _ = List.flatMap _ (f x :: r)
    rw [List.flatMap_cons, he, show 0 * 3 + c = c by omega]
  | x :: r, k + 1, h, he => by
    have ih := ncells_set c u f hc r k (by simpa using h) he
    unfold ncells at ih ⊢
    show _ = List.flatMap _ (x :: r.set k (f (r[k]'(by simpa using h))))
    rw [List.flatMap_cons, List.flatMap_cons, List.set_append_right _ _ (by simp; omega)]
    congr 1
    rw [← ih]
    congr 1
    simp
    omega
theorem fcells_set (D : Nat → Value) (u : Int) (fs : List Fl) (k : Nat) (h : k < fs.length) : (fcells D fs).set (k * 2) (.int .i64 u) = fcells D (fs.set k ⟨u, fs[k].data⟩) := by
  apply List.ext_getElem?
  intro i
  have hl : (fs.set k ⟨u, fs[k].data⟩).length = fs.length := by simp
  by_cases hi : i < fs.length * 2
  · obtain ⟨k1, k2⟩ := fcells_at D (fs.set k ⟨u, fs[k].data⟩) (i / 2) (by omega)
    obtain ⟨j1, j2⟩ := fcells_at D fs (i / 2) (by omega)
    have h2 : i % 2 = 0 ∨ i % 2 = 1 := by omega
    rcases h2 with h2 | h2
    · rw [show (fcells D (fs.set k ⟨u, fs[k].data⟩))[i]? = (fcells D (fs.set k ⟨u, fs[k].data⟩))[i / 2 * 2]? by congr 1; omega, k1, List.getElem?_set]
      by_cases e : k * 2 = i
      · have e2 : i / 2 = k := by omega
        rw [if_pos e, if_pos (by rw [fcells_len]; omega)]
        simp [e2]
      · have e2 : i / 2 ≠ k := by omega
        rw [if_neg e, show (fcells D fs)[i]? = (fcells D fs)[i / 2 * 2]? by congr 1; omega, j1]
        simp [List.getElem_set, Ne.symm e2]
    · rw [show (fcells D (fs.set k ⟨u, fs[k].data⟩))[i]? = (fcells D (fs.set k ⟨u, fs[k].data⟩))[i / 2 * 2 + 1]? by congr 1; omega, k2, List.getElem?_set, if_neg (by omega), show (fcells D fs)[i]? = (fcells D fs)[i / 2 * 2 + 1]? by congr 1; omega, j2]
  · rw [List.getElem?_eq_none (by rw [List.length_set, fcells_len]; omega), List.getElem?_eq_none (by rw [fcells_len]; omega)]
theorem copy_drew {w : World} {B : Nat} {vN vF : Value} {D : Nat → Value} {ns : List Nd} {fs : List Fl} (h : CopyAt w B vN vF D ns fs) : CopyAt w.drew B vN vF D ns fs := copy_kept h (row := none) ⟨rfl, rfl, rfl, Nat.le_refl _, fun _ _ _ => rfl⟩ (fun r e => by cases e)
/-- the law's tree behind the one thing that is turned: another tree, in memory of the call's own -/
def Turned (W : World) (B T : Nat) (ns : List Nd) (fs : List Fl) : Prop := ∃ ns' fs' NA FA nc fc, Lies W T 25 #[.slice NA (List.length ns') nc, .slice FA (List.length fs') fc] ∧ NodesAt W NA ns' ∧ FilesAt W FA fs' ∧ ¬ (ns' = ns ∧ fs' = fs) ∧ (∀ x ∈ ns', x.path.length ≤ 100000) ∧ ns'.length ≤ 300 ∧ fs'.length ≤ 300 ∧ B ≤ T
theorem turned_of {W : World} {B T : Nat} {vN vF : Value} {D : Nat → Value} {ns ns' : List Nd} {fs fs' : List Fl} (hL : Lies W T 25 #[vN, vF]) (hC : CopyAt W B vN vF D ns' fs') (hne : ¬ (ns' = ns ∧ fs' = fs)) (hp : ∀ x ∈ ns', x.path.length ≤ 100000) (h1 : ns'.length ≤ 300) (h2 : fs'.length ≤ 300) (hT : B ≤ T) : Turned W B T ns fs := by
  obtain ⟨NA, nc, rfl, hN⟩ := copy_nodes hC
  obtain ⟨FA, fc, rfl, hF⟩ := copy_files hC
  exact ⟨ns', fs', NA, FA, nc, fc, hL, hN, hF, hne, hp, h1, h2, hT⟩
theorem same_no {ns ns' : List Nd} {fs fs' : List Fl} (hne : ¬ (ns' = ns ∧ fs' = fs)) : sameT ns fs ns' fs' = false := by
  unfold sameT
  by_cases h1 : ns = ns'
  · have h2 : ¬ fs = fs' := fun e => hne ⟨h1.symm, e.symm⟩
    simp [h2]
  · simp [h1]
theorem wrap_i64 (n : Int) : IntKind.i64.wrap n = (n + 9223372036854775808) % 18446744073709551616 - 9223372036854775808 := by
  simp only [IntKind.wrap, IntKind.bits, IntKind.signed]
  simp
  split <;> omega
theorem ofInt_wrap (x : BitVec 64) : BitVec.ofInt 64 (IntKind.i64.wrap (x.toNat : Int)) = x := by
  apply BitVec.eq_of_toNat_eq
  have := x.isLt
  rw [BitVec.toNat_ofInt, wrap_i64]
  omega
/-- a number of which the lowest bit is turned is another -/
theorem xor1_ne (a : Int) : bits .xor .i64 a 1 ≠ a := fun h => by
  have hx : bits .xor .i64 a 1 = IntKind.i64.wrap ((BitVec.ofInt 64 a ^^^ BitVec.ofInt 64 1).toNat : Int) := rfl
  have h1 : BitVec.ofInt 64 a = BitVec.ofInt 64 a ^^^ BitVec.ofInt 64 1 := by
    have := ofInt_wrap (BitVec.ofInt 64 a ^^^ BitVec.ofInt 64 1)
    rw [← hx, h] at this
    exact this
  have h2 := congrArg (fun y => BitVec.ofInt 64 a ^^^ y) h1
  simp only [← BitVec.xor_assoc, BitVec.xor_self, BitVec.zero_xor] at h2
  exact absurd h2 (by decide)
theorem xor64_byte (c : UInt8) : bits .xor .u8 (c.toNat : Int) 64 = ((c ^^^ 64).toNat : Int) := by
  have hx : bits .xor .u8 (c.toNat : Int) 64 = IntKind.u8.wrap ((BitVec.ofInt 8 (c.toNat : Int) ^^^ BitVec.ofInt 8 64).toNat : Int) := rfl
  have hc := c.toNat_lt
  have h1 : (BitVec.ofInt 8 (c.toNat : Int)).toNat = c.toNat := by
    rw [BitVec.ofInt_natCast, BitVec.toNat_ofNat]; exact Nat.mod_eq_of_lt (by omega)
  have h2 : c.toNat ^^^ 64 < 2 ^ 8 := Nat.xor_lt_two_pow (by omega) (by omega)
  rw [hx, BitVec.toNat_xor, h1, UInt8.toNat_xor]
  show IntKind.u8.wrap ((c.toNat ^^^ 64 : Nat) : Int) = ((c.toNat ^^^ 64 : Nat) : Int)
  simp only [IntKind.wrap, IntKind.bits, IntKind.signed]
  simp
  omega
/-- a tree in memory of the call's own, but for which blocks are whose -/
structure Parts6 (w : World) (B : Nat) (vN vF : Value) (ns : List Nd) (fs : List Fl) : Prop where
  nodes : w.ownsRow B 39 3 vN ns.length (ncells ns)
  files : ∃ D, w.ownsRow B 42 2 vF fs.length (fcells D fs) ∧ ∀ i, i < fs.length → OwnB w B (D i) (fs.getD i ⟨0, []⟩).data
theorem parts_of {w : World} {B : Nat} {vN vF : Value} {D : Nat → Value} {ns : List Nd} {fs : List Fl} (h : CopyAt w B vN vF D ns fs) : Parts6 w B vN vF ns fs := ⟨h.nodes, D, h.files, h.data⟩
theorem parts_nodes {w : World} {B : Nat} {vN vF : Value} {ns : List Nd} {fs : List Fl} (h : Parts6 w B vN vF ns fs) : ∃ NA nc, vN = .slice NA ns.length nc ∧ NodesAt w NA ns := by
  rcases h.nodes.2 with ⟨e, h0⟩ | ⟨g, cap, cur, e, hg, hb, _⟩
  · exact ⟨none, 0, by rw [e, h0], fun i hi => by omega⟩
  · have hn := h.nodes
    subst e
    refine ⟨_, _, rfl, fun i hi => ⟨g, 0, rfl, (Array.getElem?_eq_some_iff.1 hb).1, ?_⟩⟩
    obtain ⟨k1, k2, k3⟩ := ncells_at ns i hi
    rw [Nat.zero_add, hn.cellAt _ (by omega), hn.cellAt _ (by omega), hn.cellAt _ (by omega)]
    exact ⟨k1, k2, k3⟩
theorem parts_files {w : World} {B : Nat} {vN vF : Value} {ns : List Nd} {fs : List Fl} (h : Parts6 w B vN vF ns fs) : ∃ FA fc, vF = .slice FA fs.length fc ∧ FilesAt w FA fs := by
  obtain ⟨D, hf, hd⟩ := h.files
  rcases hf.2 with ⟨e, h0⟩ | ⟨g, cap, cur, e, hg, hb, _⟩
  · exact ⟨none, 0, by rw [e, h0], fun i hi => by omega⟩
  · subst e
    refine ⟨_, _, rfl, fun i hi => ?_⟩
    obtain ⟨k1, k2⟩ := fcells_at D fs i hi
    have hd := hd i hi
    have e : fs.getD i ⟨0, []⟩ = fs[i] := by simp [List.getD_eq_getElem?_getD, List.getElem?_eq_getElem hi]
    rw [e] at hd
    obtain ⟨DA, dc, e1, e2⟩ := own_bytes hd
    refine ⟨g, 0, DA, dc, rfl, (Array.getElem?_eq_some_iff.1 hb).1, ?_, ?_, e2⟩
    · rw [Nat.zero_add, hf.cellAt _ (by omega), k1]
    · rw [Nat.zero_add, hf.cellAt _ (by omega), k2, e1]
theorem data_other {w : World} {B : Nat} {vN vF : Value} {D : Nat → Value} {ns : List Nd} {fs : List Fl} (h : CopyAt w B vN vF D ns fs) {i k : Nat} (hik : i ≠ k) (hi : i < fs.length) (hk : k < fs.length) : (D i).ownBlock = none ∨ (D i).ownBlock ≠ (D k).ownBlock := by
  cases hv : (D i).ownBlock with
  | none => exact .inl rfl
  | some b =>
    refine .inr (fun e => ?_)
    rcases Nat.lt_or_gt_of_ne hik with h1 | h1
    · exact h.apart i k h1 hk b hv e.symm
    · exact h.apart k i h1 hi b e.symm hv
theorem getD_set_fl (fs : List Fl) (k i : Nat) (x : Fl) (hk : k < fs.length) : (fs.set k x).getD i ⟨0, []⟩ = if i = k then x else fs.getD i ⟨0, []⟩ := by
  rw [List.getD_eq_getElem?_getD, List.getD_eq_getElem?_getD, List.getElem?_set]
  by_cases e : k = i
  · subst e
    rw [if_pos rfl, if_pos hk, if_pos rfl]
    rfl
  · rw [if_neg e, if_neg (fun h => e h.symm)]
theorem fcells_data (D : Nat → Value) (fs : List Fl) (k : Nat) (x : Fl) (hk : k < fs.length) (hm : x.mode = fs[k].mode) : fcells D (fs.set k x) = fcells D fs := by
  unfold fcells
  rw [List.length_set, List.flatMap_def, List.flatMap_def]
  congr 1
  refine List.map_congr_left (fun i hi => ?_)
  rw [getD_set_fl fs k i x hk]
  by_cases e : i = k
  · subst e
    rw [if_pos rfl, hm, List.getD_eq_getElem?_getD, List.getElem?_eq_getElem hk]
    rfl
  · rw [if_neg e]
/-- a file's bytes are turned where they lie -/
theorem copy_data_turned {w w' : World} {B gd : Nat} {vN vF : Value} {D : Nat → Value} {ns : List Nd} {fs : List Fl} {k : Nat} {x : Fl} (h : CopyAt w B vN vF D ns fs) (hk : k < fs.length) (hm : x.mode = fs[k].mode) (hd : (D k).ownBlock = some gd) (h1 : OwnB w' B (D k) x.data) (hg : w.grownBy w' (some gd)) : Parts6 w' B vN vF ns (fs.set k x) := by
  obtain ⟨_, cs, hgh⟩ := own_heap (h.data k hk) gd hd
  have ot : ∀ (t : TypeId) (r : Nat), t ≠ 5 → some gd = some r → ∃ cs t', w.heap[r]? = some (.cells cs t' (0, 0)) ∧ t' ≠ t := fun t r ht e => by
    injection e with e
    subst e
    exact ⟨cs, 5, hgh, fun e => ht e.symm⟩
  refine ⟨h.nodes.kept hg (own_other h.nodes (fun r e => ot 39 r (by decide) e)), D, ?_, fun i hi => ?_⟩
  · rw [List.length_set, fcells_data D fs k x hk hm]
    exact h.files.kept hg (own_other h.files (fun r e => ot 42 r (by decide) e))
  · rw [List.length_set] at hi
    rw [getD_set_fl fs k i x hk]
    by_cases e : i = k
    · subst e
      rw [if_pos rfl]
      exact h1
    · rw [if_neg e]
      exact World.ownsRow.kept (h.data i hi) hg (by rw [← hd]; exact data_other h e hi hk)
/-- a file's bytes are others, in a row of their own -/
theorem copy_data_new {w w1 : World} {B g C : Nat} {vN v : Value} {D : Nat → Value} {ns : List Nd} {fs : List Fl} {k : Nat} {x : Fl} (h : CopyAt w B vN (.slice (some ⟨g, 0, none⟩) fs.length C) D ns fs) (hk : k < fs.length) (hm : x.mode = fs[k].mode) (h1 : OwnB w1 B v x.data) (hg : w.grownBy w1 (D k).ownBlock) : Parts6 (w1.setCell ⟨g, k * 2 + 1, none⟩ v) B vN (.slice (some ⟨g, 0, none⟩) fs.length C) ns (fs.set k x) := by
  have ot : ∀ (t : TypeId) (r : Nat), t ≠ 5 → (D k).ownBlock = some r → ∃ cs t', w.heap[r]? = some (.cells cs t' (0, 0)) ∧ t' ≠ t := fun t r ht e => by
    obtain ⟨_, cs, hgh⟩ := own_heap (h.data k hk) r e
    exact ⟨cs, 5, hgh, fun e => ht e.symm⟩
  have n1 := h.nodes.kept hg (own_other h.nodes (fun r e => ot 39 r (by decide) e))
  have f1 := h.files.kept hg (own_other h.files (fun r e => ot 42 r (by decide) e))
  obtain ⟨s1, s2⟩ := f1.stored (k * 2 + 1) v
  obtain ⟨_, cs, hgh⟩ := own_heap f1 g rfl
  have o2 : ∀ (t : TypeId) (r : Nat), t ≠ 42 → some g = some r → ∃ cs t', w1.heap[r]? = some (.cells cs t' (0, 0)) ∧ t' ≠ t := fun t r ht e => by
    injection e with e
    subst e
    exact ⟨cs, 42, hgh, fun e => ht e.symm⟩
  refine ⟨n1.kept s2 (own_other n1 (fun r e => o2 39 r (by decide) e)), (fun i => if i = k then v else D i), ?_, fun i hi => ?_⟩
  · rw [List.length_set, fcells_data _ fs k x hk hm, ← fcells_put D v fs k hk]
    exact s1
  · rw [List.length_set] at hi
    rw [getD_set_fl fs k i x hk]
    by_cases e : i = k
    · subst e
      rw [if_pos rfl]
      show OwnB _ B (if i = i then v else D i) x.data
      rw [if_pos rfl]
      exact World.ownsRow.kept h1 s2 (own_other h1 (fun r e => o2 5 r (by decide) e))
    · rw [if_neg e]
      show OwnB _ B (if i = k then v else D i) _
      rw [if_neg e]
      have d1 := World.ownsRow.kept (h.data i hi) hg (data_other h e hi hk)
      exact World.ownsRow.kept d1 s2 (own_other d1 (fun r e => o2 5 r (by decide) e))
theorem store_st (P : Program) (w : World) (a : Addr) (m : Mode) (x : Bt) : (store a (St x) m).run P w = stored P w a (St x) m := run_store P w a _ m rfl
theorem run_add_z (p : Bt) (h : p.length ≤ 100000) (W : World) : (binOp .add 9 (St p) (.string { data := #[122] })).run Try.prog W = .ok (St (p ++ [122])) W := by
  have := run_string_add_lists (P := Try.prog) (w := W) p [122] (by omega) (by simp)
  unfold St
  rw [binOp_string_add]
  exact this
theorem xor64_ne (c : UInt8) : c ^^^ 64 ≠ c := fun h => by
  have h1 := congrArg (fun y => c ^^^ y) h
  simp only [← UInt8.xor_assoc, UInt8.xor_self, UInt8.zero_xor] at h1
  exact absurd h1 (by decide)
/-- the number of the file, and the bytes, of the node that is looked at -/
def fileAt (ns : List Nd) (a : Int) : Int := (ns.getD (a.toNat % ns.length) ⟨[], 0, 0⟩).file
def dataAt (ns : List Nd) (fs : List Fl) (a : Int) : Bt := (fs.getD (fileAt ns a).toNat ⟨0, []⟩).data
end Go.Proofs.Ytaanihmbnjjhcaa
