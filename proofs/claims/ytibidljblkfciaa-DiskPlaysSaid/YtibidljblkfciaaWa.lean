/-
What is proved here: single operations of Write's region.
-/
import Derived.Test.YtibidljblkfciaaHold
set_option linter.unusedSimpArgs false
namespace Go.Proofs.Ytibidljblkfciaa
open Go.Word Go.RowKit

theorem load_slice {ρ : Operand → Value} {oi : Oper} {w : World} {A : Option Addr} {N C g : Nat} (x : Operand) (ho : oi.op = .load 63 x) (hx : ρ x = .pointer (some ⟨g, 1, none⟩)) (hc : w.cell? ⟨g, 1, none⟩ = some (.slice A N C)) :
    (execOp ρ oi).run Try.prog w = .ok (.value (.slice A N C)) w := by
  unfold execOp
  simp only [ho, hx]
  go_simp
theorem wp_store_slice {oi : Oper} {a : Act} {w : World} {K : Act → World → Prop} {Q : Exit → Act → World → Prop} {A A' : Option Addr} {N C N' C' g : Nat} (x y : Operand) (hd : oi.dst = none) (ho : oi.op = .store 63 x y) (hx : a.eval x = .pointer (some ⟨g, 1, none⟩)) (hy : a.eval y = .slice A' N' C')
    (hc : w.cell? ⟨g, 1, none⟩ = some (.slice A N C)) (hf : w.frozen? ⟨g, 1, none⟩ = false) (h : K a (w.setCell ⟨g, 1, none⟩ (.slice A' N' C'))) : Oper.wp Try.prog oi a w K Q := by
  unfold Oper.wp execOp
  simp only [ho, hx, hy]
  go_simp
  exact h
theorem wp_slice1 {oi : Oper} {a : Act} {w : World} {K : Act → World → Prop} {Q : Exit → Act → World → Prop} (d : Option Tmp) (hd : oi.dst = d) (x : Operand) (u v1 v2 : Value) (ho : oi.op = .buildSlice 63 1 #[(0, x)]) (hx : a.eval x = .agg #[u, v1, v2])
    (h : K (a.put d (.slice (some ⟨w.heap.size, 0, none⟩) 1 1)) (w.alloc (.cells #[u, v1, v2] 73))) : Oper.wp Try.prog oi a w K Q := by
  unfold Oper.wp execOp
  simp only [ho, List.map_toArray, List.map_cons, List.map_nil, hx]
  go_simp
  exact h
theorem wp_append_d {w : World} {o : Oper} {a : Act} {K : Act → World → Prop} {Q : Exit → Act → World → Prop} (d : Option Tmp) (hd : o.dst = d) (s x : Operand)
    (ho : o.op = .call { callee := .builtin .append, args := #[s, x], argTypes := #[63, 63] })
    (base : Nat) (i : TypeInfo) (z : Value) (hi : Try.prog.info? 73 = some i) (hz : i.zero = some z) (hsize : i.size = 3) (hby : i.bytes = 56) (hzs : z.cells.size = 3)
    (v : Value) (n : Nat) (xs : List Value) (hs : a.eval s = v) (hown : w.ownsRow base 73 3 v n xs)
    (ad : Addr) (c : Nat) (news : List Value) (hx : a.eval x = .slice (some ad) 1 c) (hl : news.length = 1 * 3) (hnews : ∀ j u, news[j]? = some u → w.cell? (ad.add j) = some u) (h1 : ∀ u ∈ news, u.oneCell' = true)
    (hn : n ≤ 70000) (hbase : base ≤ w.heap.size)
    (h : ∀ v' w', w'.ownsRow base 73 3 v' (n + 1) (xs ++ news) → w.grownBy w' v.ownBlock → K (a.put d v') w') : o.wp Try.prog a w K Q :=
  wp_append_own w s x 63 ho base 73 i z 3 56 Try.underlying63 hi hz hsize hby hzs (by decide) v n xs hs hown ad 1 c news hx hl hnews h1 (by unfold maxLen; omega) (by omega) hbase (fun v' w' h2 h3 _ => by rw [hd]; exact h v' w' h2 h3)
theorem ent_cells (w : World) (e : Ent) : ∀ j u, (Ent.cells e)[j]? = some u → (w.alloc (.cells #[.int .i64 (e.at_ : Int), .slice (some ⟨e.a, 0, none⟩) 512 512, .slice (some ⟨e.c, 0, none⟩) 512 512] 73)).cell? ((⟨w.heap.size, 0, none⟩ : Addr).add j) = some u := fun j u hj => by
  rw [Addr.add_mid, Nat.zero_add, lies_cell (lies_new w 73 _)]
  unfold Ent.cells at hj
  rw [← hj]
  exact List.getElem?_toArray ..
theorem grown_cell {w w' : World} {o : Option Nat} (hg : w.grownBy w' o) {p : Addr} (hp : p.block < w.heap.size) (ho : o ≠ some p.block) : w'.cell? p = w.cell? p := World.cell?_of_block (hg.block p.block hp (fun e => ho e.symm))
theorem grown_frozen {w w' : World} {o : Option Nat} (hg : w.grownBy w' o) {p : Addr} (hp : p.block < w.heap.size) (ho : o ≠ some p.block) : w'.frozen? p = w.frozen? p := by
  unfold World.frozen?
  rw [hg.block p.block hp (fun e => ho e.symm)]
theorem own_ne_g {w : World} {base N g : Nat} {v : Value} {xs : List Value} (h : w.ownsRow base 73 3 v N xs) (hg : g < base) : v.ownBlock ≠ some g := fun e => by
  have := (World.ownsRow.lt h g e).1
  omega
end Go.Proofs.Ytibidljblkfciaa
