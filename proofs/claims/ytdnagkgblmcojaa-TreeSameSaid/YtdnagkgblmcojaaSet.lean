/-
What is proved here: a set of texts in a map, by its operations; the order of texts.
-/
import Derived.Test.YtdnagkgblmcojaaMem
import Derived.Laws.Cover1
import Derived.StringKeys
set_option linter.unusedSimpArgs false
namespace Go.Pth
/-- is a text not behind another one -/
def leB (a b : Bt) : Bool := Op.bytesLess a b || a == b
end Go.Pth
namespace Go.Proofs.Ytdnagkgblmcojaa
open Go.Pth Go.Tre Go.RowKit Go.Word

theorem st_leq (t : TypeId) (a b : Bt) : binOp .leq t (St a) (St b) = pure (.bool (leB a b)) := by
  unfold St leB
  rw [binOp_string_leq, ByteArray.toList_mk, ByteArray.toList_mk]
section
variable {w w' : World} {b n : Nat} {S : Bt → Bool}
theorem set_made (w : World) : SetAt (w.alloc (.map #[] 0)) w.heap.size 0 (fun _ => false) := ⟨.map [], World.ownsMap_made _ _ _ _, fun _ => rfl⟩
theorem set_mono {n' : Nat} (h : SetAt w b n S) (hn : n ≤ n') : SetAt w b n' S := by
  obtain ⟨D, h1, h2⟩ := h
  exact ⟨D, h1.mono hn, h2⟩
theorem set_kept {row : Option Nat} (h : SetAt w b n S) (hg : w.grownBy w' row) (hne : some b ≠ row) : SetAt w' b n S := by
  obtain ⟨D, h1, h2⟩ := h
  exact ⟨D, h1.kept hg hne, h2⟩
theorem set_below (h : SetAt w b n S) (hb : Below w.heap.size w w') : SetAt w' b n S := set_kept (row := none) h ⟨hb.os, hb.tape, hb.output, hb.size, fun i hi _ => hb.block i hi⟩ (by simp)
theorem set_lt (h : SetAt w b n S) : b < w.heap.size := by
  obtain ⟨D, h1, _⟩ := h
  exact h1.lt
theorem is_key (l : Bt) : WideAt.IsKeyLit (.string l) := by simp [WideAt.IsKeyLit]
/-- one more -/
theorem set_put (h : SetAt w b n S) (l : Bt) (hl : l.length ≤ 100000) (hn : n ≤ 100000) : ∃ w', (Instr.mapUpdate 61 (.map (some b)) (St l) (.agg #[])).run Try.prog w = .ok () w' ∧ SetAt w' b (n + 1) (fun x => x == l || S x) ∧ w.grownBy w' (some b) := by
  obtain ⟨D, h1, h2⟩ := h
  obtain ⟨w', hr, h3, h4⟩ := h1.update keyed9 Try.underlying61 (by unfold maxLen; omega) (key_st l hl) unitElem_mk
  refine ⟨w', hr, ⟨_, h3, fun x => ?_⟩, h4⟩
  by_cases e : x = l
  · subst e
    rw [Maps.has_put_same h1.isMap (is_key x)]
    simp
  · rw [Maps.has_put_other (by simpa using e), h2]
    have : (x == l) = false := by simpa using e
    show S x = (x == l || S x)
    rw [this]
    rfl
theorem set_look (h : SetAt w b n S) (l : Bt) (hl : l.length ≤ 100000) : (Instr.lookup 61 (.map (some b)) (St l) true).run Try.prog w = .ok (.tuple #[.agg #[], .bool (S l)]) w := by
  obtain ⟨D, h1, h2⟩ := h
  obtain ⟨v, ps, hr, hv⟩ := h1.look_ok keyed9 Try.underlying61 (zero79 w) unitElem_mk (key_st l hl)
  obtain ⟨rfl, _⟩ := unitElem_inv hv
  rw [hr, h2]
end
end Go.Proofs.Ytdnagkgblmcojaa
