/-
What is proved here: the document's own Loose, by a contract.
-/
import Derived.Test.YtdnagkgblmcojaaFrm
set_option linter.unusedSimpArgs false
namespace Go.Proofs.Ytdnagkgblmcojaa
open Go.Pth Go.Tre Go.RowKit Go.Word Go.Shelf

set_option maxRecDepth 100000 in
set_option maxHeartbeats 4000000 in
theorem loose_ref (NA FA : Option Addr) (nc fc : Nat) (ns : List Nd) (fs : List Fl) (w : World) (hN : NodesAt w NA ns) (hF : FilesAt w FA fs) (hp : ∀ x ∈ ns, x.path.length ≤ 100000) :
    Calls Try.prog 13 #[.agg #[.slice NA ns.length nc, .slice FA fs.length fc]] w fun e w' => e = .returned (.int .i64 (looseE ns fs)) ∧ Below w.heap.size w w' := by
  have L := lies_new w 25 #[.slice NA ns.length nc, .slice FA fs.length fc]
  have hB : Below w.heap.size w (w.alloc (.cells #[.slice NA ns.length nc, .slice FA fs.length fc] 25)) := (Below.refl _ _).alloc (Nat.le_refl _) _
  have KB := Lib.hid (big_ref NA FA nc fc ns.length fs _ (filesAt_below hF hB))
  have KF := fun (W : World) (hb : Below w.heap.size w W) (h1 : ns.length ≤ 1000000) (h2 : fs.length ≤ 1000000) => Lib.hid (form_ref NA FA nc fc ns fs W (nodesAt_below hN hb) (filesAt_below hF hb) hp h1 h2)
  simp only [form_loose] at KF
  have x0 := lies_cell L 0
  have x1 := lies_cell L 1
  simp only [List.getElem?_toArray, List.getElem?_cons_zero, List.getElem?_cons_succ] at x0 x1
  have LX := Lib.hid L
  have HB := Lib.hid hB
  have hE : looseE ns fs = if tooB ns.length fs = true then 31 else if looseB ns fs = true then 0 else 30 := rfl
  rw [hE]
  have hs : tooB ns.length fs = false → ns.length ≤ 1000000 ∧ fs.length ≤ 1000000 := fun h => by
    unfold tooB at h
    simp only [Bool.or_eq_false_iff, decide_eq_false_iff_not] at h
    omega
  clear L hB hN hF hp hE
  generalize ns.length = n at *
  generalize fs.length = m at *
  generalize tooB n fs = t at *
  generalize looseB ns fs = l at *
  have after : ∀ W, Below (w.alloc (.cells #[.slice NA n nc, .slice FA m fc] 25)).heap.size (w.alloc (.cells #[.slice NA n nc, .slice FA m fc] 25)) W →
      Hid (W.cell? ⟨w.heap.size, 0, none⟩ = some (.slice NA n nc) ∧ W.cell? ⟨w.heap.size, 1, none⟩ = some (.slice FA m fc)) := fun W hb =>
    Lib.hid ⟨(hb.cell (p := ⟨w.heap.size, 0, none⟩) (lies_lt LX.out)).trans x0, (hb.cell (p := ⟨w.heap.size, 1, none⟩) (lies_lt LX.out)).trans x1⟩
  cases t with
  | true =>
    rw [if_pos rfl]
    clear hs
    go_enter Try.func13, Try.ntmps13
    go_wp2_with (go_at_call 30; (with_reducible refine KB.out.mono ?_); rintro e w1 ⟨rfl, hb⟩; have B1 := Lib.hid (HB.out.trans (hb.mono HB.out.size)); clear hb)
    go_ret
    exact ⟨rfl, B1.out⟩
  | false =>
    rw [if_neg (by decide)]
    obtain ⟨h1, h2⟩ := hs rfl
    clear hs
    cases l with
    | true =>
      rw [if_pos rfl]
      go_enter Try.func13, Try.ntmps13
      go_wp2_with (first
        | (go_at_call 30; (with_reducible refine KB.out.mono ?_); rintro e w1 ⟨rfl, hb⟩; obtain ⟨q0, q1⟩ := (after w1 hb).out; have B1 := Lib.hid (HB.out.trans (hb.mono HB.out.size)); clear hb)
        | (go_at_call 31; (with_reducible refine (KF _ B1.out h1 h2).out.mono ?_); rintro e w2 ⟨rfl, hb⟩; have B2 := Lib.hid (B1.out.trans (hb.mono B1.out.size)); clear hb))
      go_ret
      exact ⟨rfl, B2.out⟩
    | false =>
      rw [if_neg (by decide)]
      go_enter Try.func13, Try.ntmps13
      go_wp2_with (first
        | (go_at_call 30; (with_reducible refine KB.out.mono ?_); rintro e w1 ⟨rfl, hb⟩; obtain ⟨q0, q1⟩ := (after w1 hb).out; have B1 := Lib.hid (HB.out.trans (hb.mono HB.out.size)); clear hb)
        | (go_at_call 31; (with_reducible refine (KF _ B1.out h1 h2).out.mono ?_); rintro e w2 ⟨rfl, hb⟩; have B2 := Lib.hid (B1.out.trans (hb.mono B1.out.size)); clear hb))
      go_ret
      exact ⟨rfl, B2.out⟩
end Go.Proofs.Ytdnagkgblmcojaa
