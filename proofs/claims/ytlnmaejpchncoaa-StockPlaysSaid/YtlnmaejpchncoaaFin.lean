/-
What is proved here: what All tells, as a list, and where its bytes lie.
-/
import Derived.Test.YtlnmaejpchncoaaMin
set_option linter.unusedSimpArgs false
set_option linter.unusedVariables false
namespace Go.Proofs.Ytlnmaejpchncoaa
open Go.Stk Go.RowKit Go.Word
theorem keeps_mono {P Q : Nat → Prop} {w w' : World} (h : Keeps P w w') (hs : ∀ i, P i → Q i) : Keeps Q w w' := ⟨h.os, h.tape, h.output, h.size, fun i hi hn => h.block i hi (fun hp => hn (hs i hp))⟩
theorem cutV_at (A : Option Addr) (cs : List Bt) (i : Nat) (h : i < cs.length) : cutV A cs i = .slice (cutA A cs i) cs[i].length cs[i].length := by
  unfold cutV
  rw [List.getD_eq_getElem?_getD, List.getElem?_eq_getElem h]
  rfl
theorem cut_cell {w : World} {B GA : Nat} {A : Option Addr} {cs : List Bt} (h : w.ownsRow B 31 1 (.slice (some ⟨GA, 0, none⟩) cs.length cs.length) cs.length (cutRow A cs cs.length)) (i : Nat) (hi : i < cs.length) :
    w.cell? ⟨GA, i, none⟩ = some (.slice (cutA A cs i) cs[i].length cs[i].length) := by
  rw [h.cellAt i (by omega), cutRow_at A cs _ i hi, if_pos hi, cutV_at A cs i hi]
theorem cut_list {w : World} {B GA : Nat} {A : Option Addr} {cs : List Bt} (h : w.ownsRow B 31 1 (.slice (some ⟨GA, 0, none⟩) cs.length cs.length) cs.length (cutRow A cs cs.length)) (hb : BytesAt w A cs.flatten) : ListAt w (some ⟨GA, 0, none⟩) cs := fun i hi =>
  ⟨GA, 0, cutA A cs i, cs[i].length, rfl, (h.lt GA rfl).2, by rw [Nat.zero_add]; exact cut_cell h i hi, cut_bytes hb i hi⟩
theorem cutA_pos {cs : List Bt} {i q : Nat} (h : i < cs.length) (h0 : 0 < cs[i].length) : cutA (some ⟨q, 0, none⟩) cs i = some ⟨q, (cs.take i).flatten.length, none⟩ := by
  have h1 := flat_at cs i h
  unfold cutA
  rw [if_neg (by omega), Option.map_some, Addr.add_mid, Nat.zero_add]
theorem cut_bound {cs : List Bt} {i k : Nat} (h : i < cs.length) (hk : k < cs[i].length) : (cs.take i).flatten.length + k < cs.flatten.length := by
  have h1 := flat_at cs i h
  omega
end Go.Proofs.Ytlnmaejpchncoaa
