/-
What is proved here: what Write leaves as it was.
-/
import Derived.Test.YtibidljblkfciaaWrt
set_option linter.unusedSimpArgs false
namespace Go.Proofs.Ytibidljblkfciaa
open Go.Word Go.RowKit

theorem behind_others {w w1 w2 w4 : World} {g : Nat} {hv v' : Value} {cs : Array Value} (b1 : Below w.heap.size w w1) (b2 : Below w1.heap.size w1 w2) (hg : (w2.alloc (.cells cs 73)).grownBy w4 hv.ownBlock) :
    ∀ i, i < w.heap.size → i ≠ g → hv.ownBlock ≠ some i → (w4.setCell ⟨g, 1, none⟩ v').heap[i]? = w.heap[i]? := fun i hi h1 h2 => by
  have z1 := b1.size
  have b3 : Below w.heap.size w (w2.alloc (.cells cs 73)) := (b1.trans (b2.mono z1)).alloc (by have := b2.size; omega) _
  have z3 := b3.size
  rw [Below.heap_setCell w4 ⟨g, 1, none⟩ v' i h1, hg.block i (by omega) (fun e => h2 e.symm), b3.block i hi]
/-- the block behind an append is the old one, or new -/
theorem wp_append_e {w : World} {o : Oper} {a : Act} {K : Act → World → Prop} {Q : Exit → Act → World → Prop} (d : Option Tmp) (hd : o.dst = d) (s x : Operand)
    (ho : o.op = .call { callee := .builtin .append, args := #[s, x], argTypes := #[63, 63] })
    (base : Nat) (i : TypeInfo) (z : Value) (hi : Try.prog.info? 73 = some i) (hz : i.zero = some z) (hsize : i.size = 3) (hby : i.bytes = 56) (hzs : z.cells.size = 3)
    (v : Value) (n : Nat) (xs : List Value) (hs : a.eval s = v) (hown : w.ownsRow base 73 3 v n xs)
    (ad : Addr) (c : Nat) (news : List Value) (hx : a.eval x = .slice (some ad) 1 c) (hl : news.length = 1 * 3) (hnews : ∀ j u, news[j]? = some u → w.cell? (ad.add j) = some u) (h1 : ∀ u ∈ news, u.oneCell' = true)
    (hn : n ≤ 70000) (hbase : base ≤ w.heap.size)
    (h : ∀ v' w', w'.ownsRow base 73 3 v' (n + 1) (xs ++ news) → w.grownBy w' v.ownBlock → (v'.ownBlock = v.ownBlock ∨ ∃ k, v'.ownBlock = some k ∧ w.heap.size ≤ k) → K (a.put d v') w') : o.wp Try.prog a w K Q := by
  have hm : n + 1 ≤ maxLen := by unfold maxLen; omega
  have hb : (n + 1) * 56 ≤ 140737488355328 := by omega
  obtain ⟨v', w', hr, h2, h3, _⟩ := run_append_own (P := Try.prog) w base 63 o.type 73 i z 3 56 Try.underlying63 hi hz hsize hby hzs (by decide) v n xs hown ad 1 c news hl hnews h1 hm hb hbase
  have hk : v'.ownBlock = v.ownBlock ∨ ∃ k, v'.ownBlock = some k ∧ w.heap.size ≤ k := by
    rcases hown.2 with ⟨e1, e2⟩ | ⟨g, cap, cur, e1, hbg, hg, hnc, hcm, hcs, htake⟩
    · subst e1 e2
      have hx0 : xs = [] := List.eq_nil_of_length_eq_zero (by simpa using hown.1)
      subst hx0
      obtain ⟨v2, w2, hr2, o2, _⟩ := run_append_own (P := Try.prog) w w.heap.size 63 o.type 73 i z 3 56 Try.underlying63 hi hz hsize hby hzs (by decide) (.slice none 0 0) 0 [] (World.ownsRow_nil w w.heap.size 73 3) ad 1 c news hl hnews h1 hm hb (Nat.le_refl _)
      rw [hr] at hr2
      injection hr2 with ev ew
      subst ev ew
      rcases o2.2 with ⟨_, e0⟩ | ⟨g2, cap2, cur2, e2, hb2, _⟩
      · cases e0
      · exact .inr ⟨g2, by rw [e2]; rfl, hb2⟩
    · subst e1
      by_cases hroom : n + 1 ≤ cap
      · have hfit : n * i.size + news.length ≤ cur.size := by rw [hl, hcs, hsize]; omega
        have hr2 := run_append_room (P := Try.prog) w 63 o.type 73 i Try.underlying63 hi g n cap cur hg ad 1 c news (by rw [hsize]; exact hl) hnews h1 hroom hfit
        rw [hr] at hr2
        injection hr2 with ev ew
        exact .inl (by rw [ev]; rfl)
      · have holds : ∀ j u, xs[j]? = some u → w.cell? ((⟨g, 0, none⟩ : Addr).add j) = some u := hown.cells (g := g) rfl
        have hr2 := run_append_grow (P := Try.prog) w 63 o.type 73 i z Try.underlying63 hi hz ⟨g, 0, none⟩ n cap xs (by rw [hsize]; exact hown.1) holds ad 1 c news (by rw [hsize]; exact hl) hnews (by omega) (by omega) (growslice_fits (by omega) (by rw [hby]; exact hb))
        rw [hr] at hr2
        injection hr2 with ev ew
        exact .inr ⟨w.heap.size, by rw [ev]; rfl, Nat.le_refl _⟩
  unfold Oper.wp execOp
  simp only [ho, resolve, invoke, builtin, Sem.run_bind, Sem.run_pure, Result.andThen_ok, List.map_toArray, List.map_cons, List.map_nil, hs, hx, hr]
  show K (a.put o.dst v') w'
  rw [hd]
  exact h v' w' h2 h3 hk
theorem own_old {w W : World} {v v' : Value} (h : v'.ownBlock = v.ownBlock ∨ ∃ k, v'.ownBlock = some k ∧ W.heap.size ≤ k) (hs : w.heap.size ≤ W.heap.size) : v'.ownBlock = v.ownBlock ∨ ∃ k, v'.ownBlock = some k ∧ w.heap.size ≤ k := by
  rcases h with h | ⟨k, h1, h2⟩
  · exact .inl h
  · exact .inr ⟨k, h1, Nat.le_trans hs h2⟩
end Go.Proofs.Ytibidljblkfciaa
