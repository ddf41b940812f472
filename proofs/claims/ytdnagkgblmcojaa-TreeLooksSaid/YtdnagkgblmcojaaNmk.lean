/-
What is proved here: tree.Names and tree.Kids, by contracts; what a loose tree's nodes keep to.
-/
import Derived.Test.YtdnagkgblmcojaaPts
import Derived.Test.YtdnagkgblmcojaaLse
set_option linter.unusedSimpArgs false
namespace Go.Tre
open Go.Pth Go.Proofs.Ytdnagkgblmcojaa
def namesT (ns : List Nd) (fs : List Fl) (q : Int) : List Bt := if looseE ns fs = 0 then namesF ns q else []
def kidsT (ns : List Nd) (fs : List Fl) (q : Bt) : List Bt := if looseE ns fs = 0 then kidsP ns q else []
theorem walk_nodes : ∀ (r : List Nd) (D : Bt → Bool) (l : Bt) (k k' : Int), walkT D l k r = some k' → ∀ x ∈ r, isPath x.path = true ∧ (x.file = -1 ∨ 0 ≤ x.file)
  | [], _, _, _, _, _, _, hx => by cases hx
  | y :: r, D, l, k, k', h, x, hx => by
    unfold walkT at h
    split at h
    · cases h
    · rename_i D' l' k1 e
      rcases List.mem_cons.1 hx with rfl | hx
      · unfold nodeT at e
        split at e
        · cases e
        · rename_i h1
          have hp : isPath x.path = true := by
            cases e2 : isPath x.path with
            | true => rfl
            | false => exact absurd (.inr e2) h1
          split at e
          · cases e
          · split at e
            · rename_i h3
              exact ⟨hp, .inl h3.1⟩
            · split at e
              · rename_i h4
                exact ⟨hp, .inr (of_decide_eq_true h4.1).1⟩
              · cases e
      · exact walk_nodes r D' l' k1 k' h x hx
theorem loose_walk {ns : List Nd} {fs : List Fl} (h : looseE ns fs = 0) : walkT root [] 0 ns = some (fs.length : Int) := by
  unfold looseE at h
  split at h
  · cases h
  · split at h
    · rename_i h2
      unfold looseB at h2
      split at h2
      · cases h2
      · rename_i k e
        rw [e]
        simp only [Bool.and_eq_true, decide_eq_true_eq] at h2
        rw [h2.1]
    · cases h
theorem loose_node {ns : List Nd} {fs : List Fl} (h : looseE ns fs = 0) : ∀ x ∈ ns, isPath x.path = true ∧ (x.file = -1 ∨ 0 ≤ x.file) :=
  walk_nodes ns _ _ _ _ (loose_walk h)
theorem up_path (l : Bt) (hu : upP l ≠ []) : isPath (upP l) = true := by
  unfold upP at hu ⊢
  split
  · rename_i hp
    rw [if_pos hp] at hu
    rcases up_base l with ⟨h1, _, _⟩ | ⟨x, y, _, h2, _, h4, _⟩
    · exact absurd h1 hu
    · rw [h2]
      unfold isPath at hp ⊢
      rw [h4] at hp
      simp only [Bool.and_eq_true, decide_eq_true_eq, List.length_append, List.all_append] at hp ⊢
      exact ⟨by omega, hp.2.1⟩
  · rename_i hp
    rw [if_neg hp] at hu
    exact absurd rfl hu
theorem kidsP_none (ns : List Nd) (q : Bt) (h1 : q ≠ []) (h2 : isPath q = false) : kidsP ns q = [] := by
  unfold kidsP
  rw [List.map_eq_nil_iff, List.filter_eq_nil_iff]
  intro x _ hx
  have e : upP x.path = q := of_decide_eq_true hx
  rw [← e] at h1 h2
  rw [up_path _ h1] at h2
  cases h2
theorem kidsP_count (ns : List Nd) (q : Bt) : (kidsP ns q).length ≤ ns.length := by
  unfold kidsP
  rw [List.length_map]
  exact List.length_filter_le _ _
theorem namesF_count (ns : List Nd) (q : Int) : (namesF ns q).length ≤ ns.length := by
  unfold namesF
  rw [List.length_map]
  exact List.length_filter_le _ _
theorem names_pick (ns : List Nd) (fs : List Fl) (q : Int) (hp : ∀ x ∈ ns, x.path.length ≤ 100000) : pickK (fun x => decide (x.file = q ∧ x.file ≠ -1)) (seqL ns fs) = namesT ns fs q := by
  rw [pickK_all _ ns fs hp]
  unfold namesT
  by_cases hz : looseE ns fs = 0
  · rw [if_pos hz, if_pos hz]
    unfold namesF
    congr 1
    refine List.filter_congr (fun x hx => ?_)
    have := (loose_node hz x hx).2
    by_cases e : x.file = q
    · subst e
      by_cases e2 : x.file = -1
      · simp [e2]
      · have h0 : 0 ≤ x.file := by omega
        simp [e2, h0]
    · simp [e]
  · rw [if_neg hz, if_neg hz]
theorem kids_pick (ns : List Nd) (fs : List Fl) (q : Bt) (hp : ∀ x ∈ ns, x.path.length ≤ 100000) : pickK (fun x => same (upP x.path) q) (seqL ns fs) = kidsT ns fs q := pickK_all _ ns fs hp
end Go.Tre
namespace Go.Proofs.Ytdnagkgblmcojaa
open Go.Pth Go.Tre Go.RowKit Go.Word Go.Shelf

set_option maxRecDepth 100000 in
theorem names_any (NA FA : Option Addr) (nc fc : Nat) (ns : List Nd) (fs : List Fl) (q : Int) (w : World) (hN : NodesAt w NA ns) (hF : FilesAt w FA fs) (hp : ∀ x ∈ ns, x.path.length ≤ 100000) :
    Calls Try.prog 11 #[.agg #[.slice NA ns.length nc, .slice FA fs.length fc], .int .i64 q] w fun e w' => ∃ A C, e = .returned (.slice A (namesT ns fs q).length C) ∧ Tx w' w.heap.size A (namesT ns fs q) ∧ Below w.heap.size w w' := by
  have hB : Below w.heap.size w ((w.alloc (.cells #[.slice NA ns.length nc, .slice FA fs.length fc] 25)).alloc (.cells #[.int .i64 q] 3)) := ((Below.refl _ _).alloc (Nat.le_refl _) _).alloc (by simp) _
  have L := lies_alloc (lies_new w 25 #[.slice NA ns.length nc, .slice FA fs.length fc]) (.cells #[.int .i64 q] 3)
  have L2 := lies_new (w.alloc (.cells #[.slice NA ns.length nc, .slice FA fs.length fc] 25)) 3 #[.int .i64 q]
  rw [World.size_alloc] at L2
  have K := (callsIn_wide (n := 6)).1 (askNames_in 6 (Nat.le_refl _) NA FA nc fc ns fs q (w.heap.size + 1) _ (nodesAt_below hN hB) (filesAt_below hF hB) hp (lies_cell L2 0))
  rw [names_pick ns fs q hp] at K
  have KK := Lib.hid K
  have x0 := lies_cell L 0
  have x1 := lies_cell L 1
  simp only [List.getElem?_toArray, List.getElem?_cons_zero, List.getElem?_cons_succ] at x0 x1
  have HB := Lib.hid hB
  clear K L L2 hB hN hF hp
  generalize namesT ns fs q = t at *
  generalize ns.length = n at *
  generalize fs.length = f at *
  go_enter Try.func11, Try.ntmps11
  go_wp2_with (go_at_call 26; (with_reducible refine KK.out.mono ?_); rintro e w1 ⟨v, rfl, ho, hb⟩; obtain ⟨A, C, rfl, ht⟩ := tx_own ho; have H1 := Lib.hid (HB.out.trans (hb.mono HB.out.size)); have T1 := Lib.hid (tx_mono ht HB.out.size); clear ho hb ht)
  go_ret
  exact ⟨A, C, rfl, T1.out, H1.out⟩
set_option maxRecDepth 100000 in
theorem kids_any (NA FA : Option Addr) (nc fc : Nat) (ns : List Nd) (fs : List Fl) (q : Bt) (w : World) (hN : NodesAt w NA ns) (hF : FilesAt w FA fs) (hp : ∀ x ∈ ns, x.path.length ≤ 100000) :
    Calls Try.prog 12 #[.agg #[.slice NA ns.length nc, .slice FA fs.length fc], St q] w fun e w' => ∃ A C, e = .returned (.slice A (kidsT ns fs q).length C) ∧ Tx w' w.heap.size A (kidsT ns fs q) ∧ Below w.heap.size w w' := by
  have hB : Below w.heap.size w ((w.alloc (.cells #[.slice NA ns.length nc, .slice FA fs.length fc] 25)).alloc (.cells #[St q] 9)) := ((Below.refl _ _).alloc (Nat.le_refl _) _).alloc (by simp) _
  have L := lies_alloc (lies_new w 25 #[.slice NA ns.length nc, .slice FA fs.length fc]) (.cells #[St q] 9)
  have L2 := lies_new (w.alloc (.cells #[.slice NA ns.length nc, .slice FA fs.length fc] 25)) 9 #[St q]
  rw [World.size_alloc] at L2
  have K := (callsIn_wide (n := 6)).1 (askKids_in 6 (Nat.le_refl _) NA FA nc fc ns fs q (w.heap.size + 1) _ (nodesAt_below hN hB) (filesAt_below hF hB) hp (lies_cell L2 0))
  rw [kids_pick ns fs q hp] at K
  have KK := Lib.hid K
  have x0 := lies_cell L 0
  have x1 := lies_cell L 1
  simp only [List.getElem?_toArray, List.getElem?_cons_zero, List.getElem?_cons_succ] at x0 x1
  have HB := Lib.hid hB
  clear K L L2 hB hN hF hp
  generalize kidsT ns fs q = t at *
  generalize ns.length = n at *
  generalize fs.length = f at *
  go_enter Try.func12, Try.ntmps12
  go_wp2_with (go_at_call 26; (with_reducible refine KK.out.mono ?_); rintro e w1 ⟨v, rfl, ho, hb⟩; obtain ⟨A, C, rfl, ht⟩ := tx_own ho; have H1 := Lib.hid (HB.out.trans (hb.mono HB.out.size)); have T1 := Lib.hid (tx_mono ht HB.out.size); clear ho hb ht)
  go_ret
  exact ⟨A, C, rfl, T1.out, H1.out⟩
end Go.Proofs.Ytdnagkgblmcojaa
