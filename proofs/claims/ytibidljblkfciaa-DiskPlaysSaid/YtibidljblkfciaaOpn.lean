/-
What is proved here: a row of calls (structs of three numbers and a row of numbers) that came in, as a row of this seat gives it.
-/
import Derived.Test.YtibidljblkfciaaFra
import Derived.Deep.SlicePairs
namespace Go.Proofs.Ytibidljblkfciaa
open Go.Word Go.ChangeShapes Go.WideShapes Go.ChangeAt Go.RowKit Go.Deep

/-- a call of a disk: its kind, two numbers, where its numbers lie, these -/
structure OpD where
  kind : Int
  a : Int
  b : Int
  KA : Option Addr
  kl : Nat
  kc : Nat
  ks : Nat → Int
def Fits (z : Int) : Prop := -9223372036854775808 ≤ z ∧ z ≤ 9223372036854775807
/-- calls that came in: k of them -/
def Opss (w : World) (A : Option Addr) (k : Nat) (od : Nat → OpD) : Prop := ∀ i, i < k → ∃ b o, A = some ⟨b, o, none⟩ ∧ b < w.heap.size ∧
  w.cell? ⟨b, o + i * 4, none⟩ = some (.int .i64 (od i).kind) ∧ w.cell? ⟨b, o + i * 4 + 1, none⟩ = some (.int .i64 (od i).a) ∧ w.cell? ⟨b, o + i * 4 + 2, none⟩ = some (.int .i64 (od i).b) ∧ w.cell? ⟨b, o + i * 4 + 3, none⟩ = some (.slice (od i).KA (od i).kl (od i).kc) ∧
  (od i).kl ≤ (od i).kc ∧ (od i).kc ≤ maxLen ∧ Nums w (od i).KA (od i).kl (od i).ks ∧ Fits (od i).kind ∧ Fits (od i).a ∧ Fits (od i).b
section
variable {H : Type} {enc : TypeId × Value → H}
theorem open_nums_cell {W : World} {base : Nat} {fuel : Nat} {v : Value} {x : DataW H × List MemPlace} (hf : DataW.trod enc Try.prog W base (fun _ => true) true fuel 31 [v] = some x) :
    ∃ (A : Option Addr) (k c : Nat) (ks : Nat → Int), v = .slice A k c ∧ k ≤ c ∧ c ≤ maxLen ∧ Nums W A k ks := by
  rcases open_ints Try.underlying31 Try.underlying3 cells3 hf with ⟨hcs, _⟩ | ⟨a, len', cap', zs, hcs, _, hl, hm, hz, _, hcell, hwz⟩
  · injection hcs with hcs
    exact ⟨none, 0, 0, fun _ => 0, hcs, Nat.le_refl _, by unfold maxLen; omega, fun i hi => absurd hi (Nat.not_lt_zero _)⟩
  · injection hcs with hcs
    simp only [if_true] at hz
    refine ⟨some a, len', cap', fun i => zs.getD i 0, hcs, hl, hm, fun i hi => ?_⟩
    obtain ⟨b, off, spot⟩ := a
    have hspot : spot = none := by simpa [Addr.add] using World.cell?_spot (hcell 0 (by omega))
    subst hspot
    have hc := hcell i (by omega)
    have hx : (⟨b, off, none⟩ : Addr).add i = ⟨b, off + i, none⟩ := by unfold Addr.add; split <;> simp [*]
    rw [hx] at hc
    exact ⟨b, off, rfl, block_lt_of_cell hc, hc, wf_bounds (hwz _ (by show zs.getD i 0 ∈ zs; rw [List.getD_eq_getElem?_getD, List.getElem?_eq_getElem (by omega)]; exact List.getElem_mem (by omega)))⟩
theorem cells33 : Try.prog.cellsOf 33 = 4 := by kernel_rfl
theorem cells31 : Try.prog.cellsOf 31 = 1 := by kernel_rfl
theorem open_ops {W : World} {base : Nat} {v : Value} {d : DataW H} {p : List MemPlace} (hval : Value.okWide Try.prog W .any base 22 v) (h : DataW.Trod enc Try.prog W 0 (fun _ => true) true 22 v d p) :
    ∃ (A : Option Addr) (k c : Nat) (od : Nat → OpD), v = .slice A k c ∧ k ≤ c ∧ c ≤ maxLen ∧ Opss W A k od := by
  obtain ⟨a1, len, cap, rfl⟩ := okWide_slice Try.underlying22 hval
  obtain ⟨fuel, hf⟩ := h
  rcases open_slice Try.underlying22 hf with ⟨hcs, _⟩ | ⟨a, len', cap', m, n, D, Pl, hcs, hb, hl, hm, hmm, _, hx⟩
  · simp [Value.cells] at hcs
    obtain ⟨rfl, rfl, rfl⟩ := hcs
    exact ⟨none, 0, 0, fun _ => ⟨0, 0, 0, none, 0, 0, fun _ => 0⟩, rfl, Nat.le_refl _, by unfold maxLen; omega, fun i hi => absurd hi (Nat.not_lt_zero _)⟩
  · simp [Value.cells] at hcs
    obtain ⟨rfl, rfl, rfl⟩ := hcs
    simp only [if_true] at hmm
    have each : ∀ i, i < len → ∃ q : OpD, ∃ b o, some a = some ⟨b, o, none⟩ ∧ b < W.heap.size ∧
        W.cell? ⟨b, o + i * 4, none⟩ = some (.int .i64 q.kind) ∧ W.cell? ⟨b, o + i * 4 + 1, none⟩ = some (.int .i64 q.a) ∧ W.cell? ⟨b, o + i * 4 + 2, none⟩ = some (.int .i64 q.b) ∧ W.cell? ⟨b, o + i * 4 + 3, none⟩ = some (.slice q.KA q.kl q.kc) ∧
        q.kl ≤ q.kc ∧ q.kc ≤ maxLen ∧ Nums W q.KA q.kl q.ks ∧ Fits q.kind ∧ Fits q.a ∧ Fits q.b := by
      intro i hi
      obtain ⟨cs', h1, h2⟩ := hx i (by omega)
      rw [cells33] at h1
      obtain ⟨_, hlen, hcell⟩ := World.cells?_some h1
      obtain ⟨xs, k, hk, hxy, _, hxl, hf⟩ := DataW.trod_struct Try.underlying33 h2
      match xs, hxl, cs', hlen with
      | [y0, y1, y2, y3], _, [v0, v1, v2, v3], _ =>
        have g0 := hf 0 _ rfl
        have g1 := hf 1 _ rfl
        have g2 := hf 2 _ rfl
        have g3 := hf 3 _ rfl
        simp [cells3, cells31] at g0 g1 g2 g3
        have e0 := hcell 0 (by omega)
        have e1 := hcell 1 (by omega)
        have e2 := hcell 2 (by omega)
        have e3 := hcell 3 (by omega)
        obtain ⟨z0, c0, _, w0⟩ := DataW.trod_int Try.underlying3 g0
        obtain ⟨z1, c1, _, w1⟩ := DataW.trod_int Try.underlying3 g1
        obtain ⟨z2, c2, _, w2⟩ := DataW.trod_int Try.underlying3 g2
        obtain ⟨KA, kl, kc, ks, c3, k1, k2, k3⟩ := open_nums_cell g3
        injection c0 with c0
        injection c1 with c1
        injection c2 with c2
        subst c0 c1 c2 c3
        have hspot : a.spot = none := by
          obtain ⟨cs0, q1, _⟩ := hx 0 (by omega)
          rw [cells33] at q1
          obtain ⟨_, ql, qc⟩ := World.cells?_some q1
          have q0 := qc 0 (by omega)
          have e : (a.add (0 * 4)).add 0 = a := by simp [Addr.add]
          rw [e, List.getElem?_eq_getElem (by omega)] at q0
          exact World.cell?_spot q0
        obtain ⟨b, off, spot⟩ := a
        simp only at hspot
        subst hspot
        have ha : ∀ j, ((⟨b, off, none⟩ : Addr).add (i * 4)).add j = ⟨b, off + i * 4 + j, none⟩ := fun j => by rw [Addr.add_mid, Addr.add_mid]
        rw [ha] at e0 e1 e2 e3
        refine ⟨⟨z0, z1, z2, KA, kl, kc, ks⟩, b, off, rfl, block_lt_of_cell (by simpa using e0), by simpa using e0, by simpa using e1, by simpa using e2, by simpa using e3, k1, k2, k3, wf_bounds w0, wf_bounds w1, wf_bounds w2⟩
    obtain ⟨od, hod⟩ : ∃ od : Nat → OpD, ∀ i, i < len → ∃ b o, some a = some ⟨b, o, none⟩ ∧ b < W.heap.size ∧
        W.cell? ⟨b, o + i * 4, none⟩ = some (.int .i64 (od i).kind) ∧ W.cell? ⟨b, o + i * 4 + 1, none⟩ = some (.int .i64 (od i).a) ∧ W.cell? ⟨b, o + i * 4 + 2, none⟩ = some (.int .i64 (od i).b) ∧ W.cell? ⟨b, o + i * 4 + 3, none⟩ = some (.slice (od i).KA (od i).kl (od i).kc) ∧
        (od i).kl ≤ (od i).kc ∧ (od i).kc ≤ maxLen ∧ Nums W (od i).KA (od i).kl (od i).ks ∧ Fits (od i).kind ∧ Fits (od i).a ∧ Fits (od i).b := by
      refine ⟨fun i => if h : i < len then Classical.choose (each i h) else ⟨0, 0, 0, none, 0, 0, fun _ => 0⟩, fun i h => ?_⟩
      simp only [dif_pos h]
      exact Classical.choose_spec (each i h)
    exact ⟨some a, len, cap, od, rfl, hl, hm, fun i hi => hod i hi⟩
end
end Go.Proofs.Ytibidljblkfciaa
