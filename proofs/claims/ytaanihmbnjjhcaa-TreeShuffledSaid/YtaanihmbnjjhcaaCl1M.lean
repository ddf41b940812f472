/-
What is proved here: bytes.Clone, by a contract.
-/
import Derived.Test.YtaanihmbnjjhcaaMa12
import Derived.Lib.SliceRun
set_option linter.unusedSimpArgs false
set_option linter.unusedVariables false
namespace Go.Proofs.Ytaanihmbnjjhcaa
open Go.Pth Go.Tre Go.RowKit Go.Word Go.Shelf
set_option maxRecDepth 100000 in
theorem bclone_any (DA : Option Addr) (dc : Nat) (d : Bt) (w : World) (hd : BytesAt w DA d) (hb : d.length ≤ 1000000) :
    Calls Try.prog 47 #[.slice DA d.length dc] w fun e w' => (∃ v, e = .returned v ∧ OwnB w' w.heap.size v d) ∧ Below w.heap.size w w' := by
  have he := fun (W : World) => Go.Lib.run_eql_slice_nil (P := Try.prog) W 40 5 DA d.length dc 0 0 Try.underlying40
  cases DA with
  | none =>
    have hd0 : d = [] := by
      cases d with
      | nil => rfl
      | cons c t =>
        obtain ⟨b, o, e, _⟩ := hd 0 (by simp)
        cases e
    subst hd0
    clear he
    have he := fun (W : World) => Go.Lib.run_eql_slice_nil (P := Try.prog) W 40 5 none 0 dc 0 0 Try.underlying40
    go_enter Try.func47, Try.ntmps47
    go_wp2
    all_goals go_ret
    all_goals exact ⟨⟨_, rfl, ownB_nil _ _⟩, Below.refl _ _⟩
  | some ad =>
    have o0 : OwnB (w.alloc (.cells #[] 5)) w.heap.size (.slice (some ⟨w.heap.size, 0, none⟩) 0 0) [] := World.ownsRow_lit (base := w.heap.size) (size := 1) w #[] 0 (Nat.le_refl _) (by decide) rfl
    have b0 : Below w.heap.size w (w.alloc (.cells #[] 5)) := (Below.refl _ _).alloc (Nat.le_refl _) _
    have HD := Lib.hid (bytesAt_below hd b0)
    have O0 := Lib.hid o0
    have B0 := Lib.hid b0
    clear hd o0 b0
    generalize hk : d.length = k at *
    have DN := Lib.hid hk
    clear hk
    go_enter Try.func47, Try.ntmps47
    go_wp2_with (refine wpList_app_bytes rfl _ _ rfl w.heap.size _ _ rfl O0.out (some ad) dc d (by rw [DN.out]; rfl) HD.out (by simp) (by rw [DN.out]; omega) (by simp) ?_; intro v1 w1 hO hb hk; have B1 := Lib.hid (B0.out.trans hb); have O1 := Lib.hid hO; clear hO hb hk)
    go_ret
    exact ⟨⟨_, rfl, by simpa using O1.out⟩, B1.out⟩
end Go.Proofs.Ytaanihmbnjjhcaa
