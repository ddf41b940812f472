/-
What is proved here: package tree's Weight, of a tree that is not loose; of every tree.
-/
import Derived.Test.YtdnagkgblmcojaaWgh
set_option linter.unusedSimpArgs false
namespace Go.Proofs.Ytdnagkgblmcojaa
open Go.Pth Go.Tre Go.RowKit Go.Word Go.Shelf Go.Fl
attribute [local go_sem] Oper.semAt_some

set_option maxRecDepth 100000 in
theorem weight_no (n : Nat) (hnn : 6 ≤ n) (NA FA : Option Addr) (nc mc : Nat) (ns : List Nd) (fs : List Fl) (w : World) (hN : NodesAt w NA ns) (hF : FilesAt w FA fs) (hp : ∀ x ∈ ns, x.path.length ≤ 100000) (hl : looseE ns fs ≠ 0) :
    CallsIn .wide n Try.prog 24 #[.agg #[.slice NA ns.length nc, .slice FA fs.length mc]] w fun e w' => e = .returned (.tuple #[.complex .f64 0 0, .int .i64 (looseE ns fs)]) ∧ Below w.heap.size w w' := by
  have h1 : 1 ≤ n := by omega
  have hb0 : Below w.heap.size w (w.alloc (.cells #[.slice NA ns.length nc, .slice FA fs.length mc] 25)) := (Below.refl _ _).alloc (Nat.le_refl _) _
  have K := loose_any NA FA nc mc ns fs _ (nodesAt_below hN hb0) (filesAt_below hF hb0) hp
  have L0 := lies_new w 25 #[.slice NA ns.length nc, .slice FA fs.length mc]
  obtain ⟨z, hz⟩ : ∃ z, z = looseE ns fs := ⟨_, rfl⟩
  rw [← hz] at K hl ⊢
  clear hz hN hF hp
  generalize ns.length = nn at *
  generalize fs.length = mm at *
  have c0 : (w.alloc (.cells #[.slice NA nn nc, .slice FA mm mc] 25)).cell? ⟨w.heap.size, 0, none⟩ = some (.slice NA nn nc) := lies_cell L0 0
  have c1 : (w.alloc (.cells #[.slice NA nn nc, .slice FA mm mc] 25)).cell? ⟨w.heap.size, 1, none⟩ = some (.slice FA mm mc) := lies_cell L0 1
  have K := Lib.hid K
  have HB0 := Lib.hid hb0
  clear hb0 L0
  have hz2 : (z == 0) = false := by simpa using hl
  refine callsIn_of_wp_marks Try.func24 rfl trivial ?_ rfl
  simp only [Try.ntmps24, List.size_toArray, List.length_cons, List.length_nil, Nat.reduceAdd, Nat.reduceSub, Array.replicate_succ, Array.replicate_zero, List.push_toArray, List.append_toArray, List.nil_append, List.cons_append]
  gi_wp2_with (refine ⟨trivial, ?_⟩; gi_at_call 22; refine (callsIn_wide.2 K.out).mono ?_; rintro e w2 ⟨rfl, hb⟩; have H2 := Lib.hid hb; clear hb)
  refine ⟨.tuple #[.complex .f64 0 0, .int .i64 z], ?_, rfl, HB0.out.trans (H2.out.mono HB0.out.size)⟩
  simp [results, Try.f24, go_sem]
theorem loose_small {ns : List Nd} {fs : List Fl} (h : looseE ns fs = 0) : ns.length ≤ 256 ∧ fs.length ≤ 256 ∧ ∀ x ∈ fs, x.data.length ≤ 8192 := by
  unfold looseE at h
  by_cases ht : tooB ns.length fs = true
  · rw [if_pos ht] at h
    cases h
  · unfold tooB anyGreat at ht
    simp only [Bool.or_eq_true, decide_eq_true_eq, List.any_eq_true, not_or, not_exists, not_and, Nat.not_lt] at ht
    exact ⟨ht.1, ht.2.1, ht.2.2⟩
theorem weight_any (NA FA : Option Addr) (nc mc : Nat) (ns : List Nd) (fs : List Fl) (w : World) (hN : NodesAt w NA ns) (hF : FilesAt w FA fs) (hp : ∀ x ∈ ns, x.path.length ≤ 100000) (hl : looseE ns fs = 0) :
    Calls Try.prog 24 #[.agg #[.slice NA ns.length nc, .slice FA fs.length mc]] w fun e w' => (∃ x y, e = .returned (.tuple #[.complex .f64 x y, .int .i64 0]) ∧ Rep x (weightB ns fs) ∧ Rep y (weightI ns fs)) ∧ Below w.heap.size w w' := by
  obtain ⟨h1, h2, h3⟩ := loose_small hl
  exact (callsIn_wide (n := 6)).1 (weight_in 6 (by omega) NA FA nc mc ns fs w hN hF hp hl h1 h2 h3)
theorem weight_not (NA FA : Option Addr) (nc mc : Nat) (ns : List Nd) (fs : List Fl) (w : World) (hN : NodesAt w NA ns) (hF : FilesAt w FA fs) (hp : ∀ x ∈ ns, x.path.length ≤ 100000) (hl : looseE ns fs ≠ 0) :
    Calls Try.prog 24 #[.agg #[.slice NA ns.length nc, .slice FA fs.length mc]] w fun e w' => e = .returned (.tuple #[.complex .f64 0 0, .int .i64 (looseE ns fs)]) ∧ Below w.heap.size w w' :=
  (callsIn_wide (n := 6)).1 (weight_no 6 (by omega) NA FA nc mc ns fs w hN hF hp hl)
end Go.Proofs.Ytdnagkgblmcojaa
