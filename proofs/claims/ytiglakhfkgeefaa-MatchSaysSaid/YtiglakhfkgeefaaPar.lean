/-
What is proved here: the document's own Kids and Names, and the law's look at two lists of texts that are one, by contracts. tree.Names and tree.Kids, by contracts. tree.Names and tree.Kids, by contracts; what a loose tree's nodes keep to. what a loose tree's nodes keep to: each has a directory above it, each file a name; how many there are in all.
-/
import Derived.Test.YtiglakhfkgeefaaRefK
import Derived.Test.YtiglakhfkgeefaaRft
import Derived.Deep.Onto
import Derived.Test.YtiglakhfkgeefaaCls
import Derived.Test.YtiglakhfkgeefaaLse
import Derived.Test.YtiglakhfkgeefaaFon
set_option linter.unusedSimpArgs false
namespace Go.Tre
open Go.Pth Go.Proofs.Ytiglakhfkgeefaa
/-- the paths whose parent it is -/
def kidsP (ns : List Nd) (q : Bt) : List Bt := (ns.filter fun x => same (upP x.path) q).map (·.path)
/-- the paths that name a file -/
def namesF (ns : List Nd) (f : Int) : List Bt := (ns.filter fun x => decide (x.file = f ∧ 0 ≤ f)).map (·.path)
theorem pick_succ (P : Nd → Bool) (ns : List Nd) (i : Nat) (h : i < ns.length) : ((ns.take (i + 1)).filter P).map (·.path) = ((ns.take i).filter P).map (·.path) ++ (if P ns[i] = true then [ns[i].path] else []) := by
  rw [List.take_succ_eq_append_getElem h, List.filter_append, List.map_append]
  by_cases e : P ns[i] = true <;> simp [e]
end Go.Tre
namespace Go.Proofs.Ytiglakhfkgeefaa
open Go.Pth Go.Tre Go.RowKit Go.Word
attribute [local go_sem] guard_eq guard_ne st_eql st_neq

theorem own_below {w w1 : World} {B : Nat} {v : Value} {k : Nat} {xs : List Value} (h : w.ownsRow B 9 1 v k xs) (hb : Below w.heap.size w w1) : w1.ownsRow B 9 1 v k xs :=
  World.ownsRow.kept h ⟨hb.os, hb.tape, hb.output, hb.size, fun i hi _ => hb.block i hi⟩ (row := none) (by cases v.ownBlock <;> simp)

set_option maxRecDepth 100000 in
set_option maxHeartbeats 4000000 in
theorem namesf_ref (NA FA : Option Addr) (nc fc : Nat) (ns : List Nd) (k : Nat) (q : Int) (w : World) (hn : ns.length ≤ 300) (hN : NodesAt w NA ns) :
    Calls Try.prog 25 #[.agg #[.slice NA ns.length nc, .slice FA k fc], .int .i64 q] w fun e w' => ∃ v, e = .returned v ∧ w'.ownsRow w.heap.size 9 1 v (namesF ns q).length ((namesF ns q).map St) ∧ Below w.heap.size w w' := by
  obtain ⟨i0, hi, hz0, hz1, hz2⟩ := info_parts str_info
  obtain ⟨n, hne⟩ : ∃ n, n = ns.length := ⟨_, rfl⟩
  rw [← hne] at hn ⊢
  have NE := Lib.hid hne
  have PK := Lib.hid (pick_succ (fun x => decide (x.file = q ∧ 0 ≤ q)) ns)
  have PL := Lib.hid (show ∀ i, ((ns.take i).filter fun x => decide (x.file = q ∧ 0 ≤ q)).length ≤ 300 from fun i => by
    have h1 := List.length_filter_le (fun x : Nd => decide (x.file = q ∧ 0 ≤ q)) (ns.take i)
    have h2 := List.length_take_le' i ns
    omega)
  clear hne
  have L := lies_new w 25 #[.slice NA n nc, .slice FA k fc]
  have hB : Below w.heap.size w (w.alloc (.cells #[.slice NA n nc, .slice FA k fc] 25)) := (Below.refl _ _).alloc (Nat.le_refl _) _
  have HN := Lib.hid (nodesAt_below hN hB)
  have HB := Lib.hid hB
  have LX := Lib.hid L
  clear L hB hN
  go_enter Try.func25, Try.ntmps25
  go_wp2
  generalize w.alloc (.cells #[.slice NA n nc, .slice FA k fc] 25) = X at *
  go_loopw [5, 6] (fun v5 v6 wr => ∃ i : Nat, i ≤ n ∧ v6 = .int .i64 (i : Int) ∧ wr.ownsRow X.heap.size 9 1 v5 (((ns.take i).filter fun x => decide (x.file = q ∧ 0 ≤ q)).map (·.path)).length ((((ns.take i).filter fun x => decide (x.file = q ∧ 0 ≤ q)).map (·.path)).map St) ∧ Below X.heap.size X wr) (fun _ v6 _ => n - (intOf v6).toNat)
  case atStart => exact ⟨0, Nat.zero_le _, rfl, World.ownsRow_nil _ _ _ _, Below.refl _ _⟩
  case round =>
    obtain ⟨i, hil, rfl, hrow, hb⟩ := hrel
    have c0 := (hb.cell (p := ⟨w.heap.size, 0, none⟩) (lies_lt LX.out)).trans (lies_cell LX.out 0)
    simp only [List.getElem?_toArray, List.getElem?_cons_zero] at c0
    have HBW := Lib.hid hb
    by_cases hlt : i < n
    · have li : (i : Int) < (n : Int) := by omega
      have lf : i < ns.length := by have := NE.out; omega
      obtain ⟨b, o, eA, hl, d1, d2, d3⟩ := HN.out i lf
      subst eA
      have d1 := (hb.cell (p := ⟨b, o + i * 3, none⟩) hl).trans d1
      have d2 := (hb.cell (p := ⟨b, o + i * 3 + 1, none⟩) hl).trans d2
      have S1 := Lib.hid (PK.out i lf)
      have hlen := PL.out i
      generalize ns[i] = x at *
      obtain ⟨p, f, md⟩ := x
      have d1 : wr.cell? ⟨b, o + i * 3, none⟩ = some (St p) := d1
      have d2 : wr.cell? ⟨b, o + i * 3 + 1, none⟩ = some (.int .i64 f) := d2
      have S2 : Hid (((ns.take (i + 1)).filter fun x => decide (x.file = q ∧ 0 ≤ q)).map (·.path) = ((ns.take i).filter fun x => decide (x.file = q ∧ 0 ≤ q)).map (·.path) ++ (if decide (f = q ∧ 0 ≤ q) = true then [p] else [])) := S1
      have HL := Lib.hid hlen
      rw [← List.length_map (f := fun x : Nd => x.path)] at hlen
      generalize (((ns.take i).filter fun x => decide (x.file = q ∧ 0 ≤ q)).map (·.path)) = done at *
      have HR := Lib.hid hrow
      clear d3 hb S1 hrow HL
      by_cases hf : f = q
      · subst hf
        by_cases h0 : 0 ≤ f
        · rw [if_pos (decide_eq_true ⟨rfl, h0⟩)] at S2
          have S3 : Hid (((ns.take (i + 1)).filter fun x => decide (x.file = f ∧ 0 ≤ f)).map (·.path) = done ++ [p]) := Lib.hid S2.out
          go_wp2_with (refine wpList_append_own _ rfl _ _ 56 rfl X.heap.size 9 i0 (.string ⟨#[]⟩) 1 16 Try.underlying56 hi hz0 hz1 hz2 rfl (by decide) _ _ _ rfl (HR.out.alloc _) ⟨wr.heap.size, 0, none⟩ 1 1 [St p] rfl rfl (cell_one_new _ _ _) (fun y hy => by rw [List.mem_singleton] at hy; subst hy; rfl) (by unfold maxLen; omega) (by omega) (by have := HBW.out.size; simp; omega) ?_; intro v' w2 hown' hgrow _; have B2 := Lib.hid (append_below HR.out HBW.out hgrow); have HO := Lib.hid hown'; clear hgrow hown')
          · rename_i h
            rcases h with h | h
            · exact absurd h (by simp [St])
            · exact absurd h (by simp [St])
          · go_roundw
            case rel => exact ⟨i + 1, by omega, by go_num, by rw [S3.out]; simpa using HO.out, B2.out⟩
            case measure => first | (simp [intOf]; done) | (simp [intOf]; omega)
        · rw [if_neg (by intro h; exact h0 (of_decide_eq_true h).2), List.append_nil] at S2
          have S3 := Lib.hid S2.out
          go_wp2
          go_roundw
          case rel => exact ⟨i + 1, by omega, by go_num, by rw [S3.out]; exact HR.out, HBW.out⟩
          case measure => first | (simp [intOf]; done) | (simp [intOf]; omega)
      · rw [if_neg (by intro h; exact hf (of_decide_eq_true h).1), List.append_nil] at S2
        have S3 := Lib.hid S2.out
        have hfb : (f == q) = false := by simpa using hf
        go_wp2
        go_roundw
        case rel => exact ⟨i + 1, by omega, by go_num, by rw [S3.out]; exact HR.out, HBW.out⟩
        case measure => first | (simp [intOf]; done) | (simp [intOf]; omega)
    · have li : ¬ (i : Int) < (n : Int) := by omega
      have e1 : ns.take i = ns := List.take_of_length_le (by have := NE.out; omega)
      rw [e1] at hrow
      have HR : Hid (wr.ownsRow X.heap.size 9 1 _ (namesF ns q).length ((namesF ns q).map St)) := Lib.hid hrow
      clear hb hrow e1
      go_wp2
      go_ret
      exact ⟨_, rfl, World.ownsRow.mono HR.out HB.out.size, HB.out.trans (HBW.out.mono HB.out.size)⟩
end Go.Proofs.Ytiglakhfkgeefaa
set_option linter.unusedSimpArgs false
namespace Go.Tre
open Go.Pth Go.Proofs.Ytiglakhfkgeefaa
/-- the paths of those that are asked for -/
def pickK (P : Nd → Bool) (l : List NdK) : List Bt := (l.filter fun x => P x.1.2).map fun x => x.1.2.path
theorem pickK_snoc (P : Nd → Bool) (l : List NdK) (x : NdK) : pickK P (l ++ [x]) = pickK P l ++ (if P x.1.2 = true then [x.1.2.path] else []) := by
  unfold pickK
  rw [List.filter_append, List.map_append]
  by_cases e : P x.1.2 = true <;> simp [e]
theorem pickK_len (P : Nd → Bool) (l : List NdK) : (pickK P l).length ≤ l.length := by
  unfold pickK
  rw [List.length_map]
  exact List.length_filter_le _ _
theorem pickK_all (P : Nd → Bool) (ns : List Nd) (fs : List Fl) (hp : ∀ x ∈ ns, x.path.length ≤ 100000) : pickK P (seqL ns fs) = if looseE ns fs = 0 then (ns.filter P).map (·.path) else [] := by
  unfold seqL
  by_cases hz : looseE ns fs = 0
  · rw [if_pos hz, if_pos hz]
    have hn := (loose_small hz).1
    have key : ∀ i, i ≤ ns.length → pickK P (nodesTo ns i) = ((ns.take i).filter P).map (·.path) := by
      intro i
      induction i with
      | zero => intro _; simp [nodesTo, pickK]
      | succ i ih =>
        intro hi
        rw [nodesTo_succ ns i hi, pickK_snoc, ih (by omega), pick_succ P ns i hi, ndK_val i ns[i] (by omega) (hp _ (List.getElem_mem hi))]
    have := key ns.length (Nat.le_refl _)
    rw [List.take_of_length_le (Nat.le_refl _)] at this
    exact this
  · rw [if_neg hz, if_neg hz]
    rfl
theorem seq_count (ns : List Nd) (fs : List Fl) : (seqL ns fs).length ≤ 256 := by
  unfold seqL
  by_cases hz : looseE ns fs = 0
  · rw [if_pos hz]
    unfold nodesL
    rw [nodesTo_len]
    exact (loose_small hz).1
  · rw [if_neg hz]
    simp
end Go.Tre
namespace Go.Proofs.Ytiglakhfkgeefaa
open Go.Pth Go.Tre Go.RowKit Go.Word Go.Shelf
attribute [local go_sem] Oper.semAt_some guard_eq guard_ne st_eql

/-- an append to a row of one's own that lies from n₁ on, stored into its box: what else lies as it lay -/
theorem appended3 {W w1 : World} {n₀ n₁ B : Nat} {t e : TypeId} {size : Nat} {v v' : Value} {k m : Nat} {xs ys : List Value} {tmp : Obj}
    (hv : Boxed W B t v) (hte : t ≠ e) (hrow : W.ownsRow n₁ e size v k xs) (hn₀ : n₀ ≤ W.heap.size) (hB : n₀ ≤ B) (h01 : n₀ ≤ n₁) (h1s : n₁ ≤ W.heap.size)
    (hown' : w1.ownsRow n₁ e size v' m ys) (hgrow : (W.alloc tmp).grownBy w1 v.ownBlock) :
    Boxed w1 B t v ∧ Boxed (w1.setCell ⟨B, 0, none⟩ v') B t v' ∧ (w1.setCell ⟨B, 0, none⟩ v').ownsRow n₁ e size v' m ys ∧ KeepsOthers W (w1.setCell ⟨B, 0, none⟩ v') ∧ Below n₀ W (w1.setCell ⟨B, 0, none⟩ v') ∧ ∀ i, i < n₁ → i ≠ B → (w1.setCell ⟨B, 0, none⟩ v').heap[i]? = W.heap[i]? := by
  have hv1 : Boxed w1 B t v := (hv.alloc tmp).kept hgrow (hv.not_row hte hrow)
  have hrow2 : ∀ j, v.ownBlock = some j → n₁ ≤ j := fun j ej => by
    rcases hrow.2 with ⟨rfl, _⟩ | ⟨g, cap, cur, rfl, hb, _, _⟩
    · simp [Value.ownBlock] at ej
    · obtain rfl : g = j := by simpa [Value.ownBlock] using ej
      exact hb
  refine ⟨hv1, hv1.set v', hown'.kept (grownBy_setCell' w1 B v') (.inr (hv1.not_row hte hown').symm), ?_, ?_, fun i hi hne => ?_⟩
  · refine ((KeepsOthers.alloc W tmp).trans (KeepsOthers.of_grownBy hgrow fun j o ej hj => ?_)).trans (KeepsOthers.setCell _ _ _)
    rcases (hrow.alloc tmp).2 with ⟨rfl, _⟩ | ⟨g, cap, cur, rfl, _, hgb, _⟩
    · simp [Value.ownBlock] at ej
    · obtain rfl : g = j := by simpa [Value.ownBlock] using ej
      rw [hgb] at hj; cases hj; rfl
  · refine (((Below.refl n₀ W).alloc hn₀ tmp).grown hgrow (by simp; omega) fun j ej => ?_).setCell (p := ⟨B, 0, none⟩) hB v'
    exact Nat.le_trans h01 (hrow2 j ej)
  · have e1 : w1.heap[i]? = (W.alloc tmp).heap[i]? := hgrow.block i (by simp; omega) (fun e => by have := hrow2 i e.symm; omega)
    have e2 : (W.alloc tmp).heap[i]? = W.heap[i]? := Below.heap_alloc W tmp i (by omega)
    rw [← e2, ← e1]
    exact heap_setCell_other w1 ⟨B, 0, none⟩ i v' hne
theorem boxed_of {W W' : World} {B : Nat} {t : TypeId} {v : Value} (e : W'.heap[B]? = W.heap[B]?) (h : Boxed W B t v) : Boxed W' B t v := e.trans h
theorem boxed_below {W w1 : World} {B : Nat} {t : TypeId} {v : Value} (h : Boxed W B t v) (hb : Below W.heap.size W w1) : Boxed w1 B t v :=
  boxed_own (β := Unit) B t (fun _ => v) () W w1 none h (grown_of_below hb) (fun r e => by cases e)
theorem keeps_below {W w1 : World} (hb : Below W.heap.size W w1) : KeepsOthers W w1 := KeepsOthers.of_grownBy (grown_of_below hb) (fun j o e => by cases e)
end Go.Proofs.Ytiglakhfkgeefaa
set_option linter.unusedSimpArgs false
namespace Go.Tre
open Go.Pth Go.Proofs.Ytiglakhfkgeefaa
def namesT (ns : List Nd) (fs : List Fl) (q : Int) : List Bt := if looseE ns fs = 0 then namesF ns q else []
def kidsT (ns : List Nd) (fs : List Fl) (q : Bt) : List Bt := if looseE ns fs = 0 then kidsP ns q else []
theorem walk_nodes : ∀ (r : List Nd) (D : Bt → Bool) (l : Bt) (k k' : Int), walkT D l k r = some k' → ∀ x ∈ r, isPath x.path = true ∧ (x.file = -1 ∨ 0 ≤ x.file)
  | [], _, _, _, _, _, _, hx => by cases hx
  | y :: r, D, l, k, k', h, x, hx => by
    unfold walkT at h
    split at h
    · cases h
    · rename_i D' l' k1 e
      rcases List.mem_cons.1 hx with rfl | hx
      · unfold nodeT at e
        split at e
        · cases e
        · rename_i h1
          have hp : isPath x.path = true := by
            cases e2 : isPath x.path with
            | true => rfl
            | false => exact absurd (.inr e2) h1
          split at e
          · cases e
          · split at e
            · rename_i h3
              exact ⟨hp, .inl h3.1⟩
            · split at e
              · rename_i h4
                exact ⟨hp, .inr (of_decide_eq_true h4.1).1⟩
              · cases e
      · exact walk_nodes r D' l' k1 k' h x hx
theorem loose_walk {ns : List Nd} {fs : List Fl} (h : looseE ns fs = 0) : walkT root [] 0 ns = some (fs.length : Int) := by
  unfold looseE at h
  split at h
  · cases h
  · split at h
    · rename_i h2
      unfold looseB at h2
      split at h2
      · cases h2
      · rename_i k e
        rw [e]
        simp only [Bool.and_eq_true, decide_eq_true_eq] at h2
        rw [h2.1]
    · cases h
theorem loose_node {ns : List Nd} {fs : List Fl} (h : looseE ns fs = 0) : ∀ x ∈ ns, isPath x.path = true ∧ (x.file = -1 ∨ 0 ≤ x.file) :=
  walk_nodes ns _ _ _ _ (loose_walk h)
theorem up_path (l : Bt) (hu : upP l ≠ []) : isPath (upP l) = true := by
  unfold upP at hu ⊢
  split
  · rename_i hp
    rw [if_pos hp] at hu
    rcases up_base l with ⟨h1, _, _⟩ | ⟨x, y, _, h2, _, h4, _⟩
    · exact absurd h1 hu
    · rw [h2]
      unfold isPath at hp ⊢
      rw [h4] at hp
      simp only [Bool.and_eq_true, decide_eq_true_eq, List.length_append, List.all_append] at hp ⊢
      exact ⟨by omega, hp.2.1⟩
  · rename_i hp
    rw [if_neg hp] at hu
    exact absurd rfl hu
theorem kidsP_none (ns : List Nd) (q : Bt) (h1 : q ≠ []) (h2 : isPath q = false) : kidsP ns q = [] := by
  unfold kidsP
  rw [List.map_eq_nil_iff, List.filter_eq_nil_iff]
  intro x _ hx
  have e : upP x.path = q := of_decide_eq_true hx
  rw [← e] at h1 h2
  rw [up_path _ h1] at h2
  cases h2
theorem kidsP_count (ns : List Nd) (q : Bt) : (kidsP ns q).length ≤ ns.length := by
  unfold kidsP
  rw [List.length_map]
  exact List.length_filter_le _ _
theorem namesF_count (ns : List Nd) (q : Int) : (namesF ns q).length ≤ ns.length := by
  unfold namesF
  rw [List.length_map]
  exact List.length_filter_le _ _
theorem names_pick (ns : List Nd) (fs : List Fl) (q : Int) (hp : ∀ x ∈ ns, x.path.length ≤ 100000) : pickK (fun x => decide (x.file = q ∧ x.file ≠ -1)) (seqL ns fs) = namesT ns fs q := by
  rw [pickK_all _ ns fs hp]
  unfold namesT
  by_cases hz : looseE ns fs = 0
  · rw [if_pos hz, if_pos hz]
    unfold namesF
    congr 1
    refine List.filter_congr (fun x hx => ?_)
    have := (loose_node hz x hx).2
    by_cases e : x.file = q
    · subst e
      by_cases e2 : x.file = -1
      · simp [e2]
      · have h0 : 0 ≤ x.file := by omega
        simp [e2, h0]
    · simp [e]
  · rw [if_neg hz, if_neg hz]
theorem kids_pick (ns : List Nd) (fs : List Fl) (q : Bt) (hp : ∀ x ∈ ns, x.path.length ≤ 100000) : pickK (fun x => same (upP x.path) q) (seqL ns fs) = kidsT ns fs q := pickK_all _ ns fs hp
end Go.Tre
namespace Go.Proofs.Ytiglakhfkgeefaa
open Go.Pth Go.Tre Go.RowKit Go.Word Go.Shelf

end Go.Proofs.Ytiglakhfkgeefaa
set_option linter.unusedSimpArgs false
namespace Go.Tre
open Go.Pth Go.Op Go.Proofs.Ytiglakhfkgeefaa
theorem nodeT_cases {D : Bt → Bool} {l : Bt} {k : Int} {x : Nd} {D' : Bt → Bool} {l' : Bt} {k' : Int} (h : nodeT D l k x = some (D', l', k')) :
    D (upP x.path) = true ∧ ((x.file = -1 ∧ (∀ y, D' y = true ↔ y = x.path ∨ D y = true) ∧ k' = k) ∨ (x.file ≠ -1 ∧ 0 ≤ x.file ∧ x.file ≤ k ∧ D' = D ∧ k' = max k (x.file + 1))) := by
  unfold nodeT at h
  split at h
  · cases h
  · split at h
    · cases h
    · rename_i h2
      have hD : D (upP x.path) = true := by simpa using h2
      refine ⟨hD, ?_⟩
      split at h
      · rename_i h3
        simp only [Option.some.injEq, Prod.mk.injEq] at h
        obtain ⟨e1, _, e3⟩ := h
        refine .inl ⟨h3.1, fun y => ?_, e3.symm⟩
        rw [← e1]
        simp
      · split at h
        · rename_i h4
          simp only [Option.some.injEq, Prod.mk.injEq] at h
          obtain ⟨e1, _, e3⟩ := h
          have h5 := (of_decide_eq_true h4.1).1
          exact .inr ⟨by omega, h5, h4.2, e1.symm, e3.symm⟩
        · cases h
theorem walk_up : ∀ (r : List Nd) (D : Bt → Bool) (l : Bt) (k k' : Int), walkT D l k r = some k' → ∀ x ∈ r, D (upP x.path) = true ∨ ∃ z ∈ r, z.path = upP x.path ∧ z.file = -1
  | [], _, _, _, _, _, _, hx => by cases hx
  | y :: r, D, l, k, k', h, x, hx => by
    unfold walkT at h
    split at h
    · cases h
    · rename_i D' l' k1 e
      obtain ⟨h1, h2⟩ := nodeT_cases e
      rcases List.mem_cons.1 hx with rfl | hx
      · exact .inl h1
      · rcases walk_up r D' l' k1 k' h x hx with h3 | ⟨z, hz, h4⟩
        · rcases h2 with ⟨f1, f2, _⟩ | ⟨_, _, _, f4, _⟩
          · rcases (f2 _).1 h3 with h5 | h5
            · exact .inr ⟨y, by simp, h5.symm, f1⟩
            · exact .inl h5
          · rw [f4] at h3
            exact .inl h3
        · exact .inr ⟨z, by simp [hz], h4⟩
theorem walk_file : ∀ (r : List Nd) (D : Bt → Bool) (l : Bt) (k k' : Int), walkT D l k r = some k' → k ≤ k' ∧ (∀ x ∈ r, x.file = -1 ∨ 0 ≤ x.file ∧ x.file < k') ∧ ∀ f, k ≤ f → f < k' → ∃ x ∈ r, x.file = f
  | [], _, _, k, k', h => by cases h; exact ⟨Int.le_refl _, fun x hx => (by cases hx), fun f h1 h2 => by omega⟩
  | y :: r, D, l, k, k', h => by
    unfold walkT at h
    split at h
    · cases h
    · rename_i D' l' k1 e
      obtain ⟨_, h2⟩ := nodeT_cases e
      obtain ⟨h3, h4, h5⟩ := walk_file r D' l' k1 k' h
      rcases h2 with ⟨f1, _, f3⟩ | ⟨f1, f2, f3, _, f5⟩
      · refine ⟨by omega, fun x hx => ?_, fun f g1 g2 => ?_⟩
        · rcases List.mem_cons.1 hx with rfl | hx
          · exact .inl f1
          · exact h4 x hx
        · obtain ⟨x, hx, e⟩ := h5 f (by omega) g2
          exact ⟨x, by simp [hx], e⟩
      · refine ⟨by omega, fun x hx => ?_, fun f g1 g2 => ?_⟩
        · rcases List.mem_cons.1 hx with rfl | hx
          · exact .inr ⟨f2, by omega⟩
          · exact h4 x hx
        · by_cases e : f < k1
          · exact ⟨y, by simp, by omega⟩
          · obtain ⟨x, hx, e⟩ := h5 f (by omega) g2
            exact ⟨x, by simp [hx], e⟩
section
variable {ns : List Nd} {fs : List Fl} (h : looseE ns fs = 0)
include h
theorem loose_chain : chain [] ns := (walkT_chain ns _ _ _ _ (loose_walk h)).1
theorem loose_lt (i j : Nat) (hij : i < j) (hj : j < ns.length) : bytesLess (ns[i]'(by omega)).path ns[j].path = true := chain_lt ns [] (loose_chain h) i j hij hj
theorem loose_inj (i j : Nat) (hi : i < ns.length) (hj : j < ns.length) (e : ns[i].path = ns[j].path) : i = j := by
  rcases Nat.lt_trichotomy i j with h1 | h1 | h1
  · have := loose_lt h i j h1 hj
    rw [e, bl_irrefl] at this
    cases this
  · exact h1
  · have := loose_lt h j i h1 hi
    rw [e, bl_irrefl] at this
    cases this
theorem loose_find (i : Nat) (hi : i < ns.length) : findI ns ns[i].path = (i : Int) :=
  findI_at ns _ i hi (decide_eq_true rfl) (fun j hj => decide_eq_false (fun e => by have := loose_inj h j i (by omega) hi e; omega))
theorem loose_up (x : Nd) (hx : x ∈ ns) : upP x.path = [] ∨ ∃ z ∈ ns, z.path = upP x.path ∧ z.file = -1 := by
  rcases walk_up ns _ _ _ _ (loose_walk h) x hx with h1 | h1
  · left; simpa [root] using h1
  · exact .inr h1
theorem loose_ne (x : Nd) (hx : x ∈ ns) : x.path ≠ [] := fun e => by
  have := (loose_node h x hx).1
  rw [e] at this
  revert this
  decide
theorem loose_nokids (i : Nat) (hi : i < ns.length) (hf : ns[i].file ≠ -1) : kidsP ns ns[i].path = [] := by
  unfold kidsP
  rw [List.map_eq_nil_iff, List.filter_eq_nil_iff]
  intro y hy he
  have e : upP y.path = ns[i].path := of_decide_eq_true he
  rcases loose_up h y hy with h1 | ⟨z, hz, h1, h2⟩
  · exact loose_ne h _ (List.getElem_mem hi) (by rw [← e, h1])
  · obtain ⟨j, hj, rfl⟩ := List.getElem_of_mem hz
    have := loose_inj h j i hj hi (by rw [h1, e])
    subst this
    exact hf h2
theorem loose_files (x : Nd) (hx : x ∈ ns) : x.file = -1 ∨ 0 ≤ x.file ∧ x.file < fs.length := (walk_file ns _ _ _ _ (loose_walk h)).2.1 x hx
theorem loose_named (f : Nat) (hf : f < fs.length) : ∃ x ∈ ns, x.file = (f : Int) := (walk_file ns _ _ _ _ (loose_walk h)).2.2 f (by omega) (by omega)
end
/-- counted either way -/
theorem count_split {β : Type} (g : Nd → β → Bool) (qs : List β) : ∀ ns : List Nd, (qs.map fun q => (ns.filter (g · q)).length).sum = (ns.map fun x => (qs.filter (g x ·)).length).sum
  | [] => by
    induction qs with
    | nil => rfl
    | cons q t ih => simpa using ih
  | x :: r => by
    have ih := count_split g qs r
    have key : ∀ qs : List β, (qs.map fun q => ((x :: r).filter (g · q)).length).sum = (qs.filter (g x ·)).length + (qs.map fun q => (r.filter (g · q)).length).sum := by
      intro qs
      induction qs with
      | nil => rfl
      | cons q t ih2 =>
        rw [List.map_cons, List.sum_cons, List.map_cons, List.sum_cons, ih2]
        by_cases e : g x q = true
        · simp only [List.filter_cons, e, if_true, List.length_cons]; omega
        · have e : g x q = false := by simpa using e
          simp only [List.filter_cons, e, Bool.false_eq_true, if_false]; omega
    rw [key, ih]
    simp
theorem one_of {β : Type} [DecidableEq β] (a : β) : ∀ qs : List β, qs.Nodup → a ∈ qs → (qs.filter fun q => decide (a = q)).length = 1
  | [], _, h => by cases h
  | q :: t, hn, h => by
    have hn' := List.nodup_cons.1 hn
    by_cases e : a = q
    · subst e
      have : t.filter (fun q => decide (a = q)) = [] := List.filter_eq_nil_iff.2 (fun y hy he => hn'.1 (by rw [of_decide_eq_true he]; exact hy))
      simp [List.filter_cons, this]
    · rcases List.mem_cons.1 h with h | h
      · exact absurd h e
      · simp only [List.filter_cons, e, decide_false, Bool.false_eq_true, if_false]
        exact one_of a t hn'.2 h
theorem sum_ones : ∀ (l : List Nd) (f : Nd → Nat), (∀ x ∈ l, f x = 1) → (l.map f).sum = l.length
  | [], _, _ => rfl
  | x :: r, f, h => by
    rw [List.map_cons, List.sum_cons, sum_ones r f (fun y hy => h y (by simp [hy])), h x (by simp), List.length_cons]
    omega
/-- how many kids the first i nodes have, and the root -/
def kidsTo (ns : List Nd) (i : Nat) : Nat := (kidsP ns []).length + ((ns.take i).map fun x => (kidsP ns x.path).length).sum
theorem kidsTo_succ (ns : List Nd) (i : Nat) (hi : i < ns.length) : kidsTo ns (i + 1) = kidsTo ns i + (kidsP ns ns[i].path).length := by
  unfold kidsTo
  rw [List.take_succ_eq_append_getElem hi, List.map_append, List.sum_append]
  simp
  omega
theorem kidsTo_mono (ns : List Nd) (i : Nat) : ∀ d, i + d ≤ ns.length → kidsTo ns i ≤ kidsTo ns (i + d)
  | 0, _ => Nat.le_refl _
  | d + 1, hd => by
    have := kidsTo_mono ns i d (by omega)
    rw [← Nat.add_assoc, kidsTo_succ ns (i + d) (by omega)]
    omega
theorem kidsTo_all {ns : List Nd} {fs : List Fl} (h : looseE ns fs = 0) : kidsTo ns ns.length = ns.length := by
  have e : kidsTo ns ns.length = ((([] : Bt) :: ns.map (·.path)).map fun q => (ns.filter (fun x => same (upP x.path) q)).length).sum := by
    unfold kidsTo kidsP
    rw [List.take_of_length_le (Nat.le_refl _)]
    simp [Function.comp_def]
  rw [e, count_split (fun x q => same (upP x.path) q)]
  refine sum_ones ns _ (fun x hx => ?_)
  refine one_of (upP x.path) _ ?_ ?_
  · refine List.nodup_cons.2 ⟨fun hm => ?_, ?_⟩
    · obtain ⟨z, hz, e⟩ := List.mem_map.1 hm
      exact loose_ne h z hz e
    · refine List.nodup_iff_pairwise_ne.2 (List.pairwise_iff_getElem.2 (fun i j hi hj hij e => ?_)) 
      simp only [List.getElem_map] at e
      have := loose_inj h i j (by simpa using hi) (by simpa using hj) e
      omega
  · rcases loose_up h x hx with h1 | ⟨z, hz, h1, _⟩
    · rw [h1]; simp
    · rw [← h1]
      exact List.mem_cons_of_mem _ (List.mem_map.2 ⟨z, hz, rfl⟩)
/-- how many names the first f files have -/
def namesTo (ns : List Nd) (f : Nat) : Nat := ((List.range f).map fun (g : Nat) => (namesF ns (g : Int)).length).sum
def dirsTo (ns : List Nd) (i : Nat) : Nat := ((ns.take i).filter isDir).length
theorem namesTo_succ (ns : List Nd) (f : Nat) : namesTo ns (f + 1) = namesTo ns f + (namesF ns (f : Int)).length := by
  unfold namesTo
  rw [List.range_succ, List.map_append, List.sum_append]
  simp
theorem namesTo_mono (ns : List Nd) (f : Nat) : ∀ d, namesTo ns f ≤ namesTo ns (f + d)
  | 0 => Nat.le_refl _
  | d + 1 => by
    have := namesTo_mono ns f d
    rw [← Nat.add_assoc, namesTo_succ]
    omega
theorem dirsTo_succ (ns : List Nd) (i : Nat) (hi : i < ns.length) : dirsTo ns (i + 1) = dirsTo ns i + (if ns[i].file = -1 then 1 else 0) := by
  unfold dirsTo
  rw [List.take_succ_eq_append_getElem hi, List.filter_append, List.length_append]
  by_cases e : ns[i].file = -1
  · simp [isDir, e]
  · simp [isDir, e]
theorem dirsTo_mono (ns : List Nd) (i : Nat) : ∀ d, i + d ≤ ns.length → dirsTo ns i ≤ dirsTo ns (i + d)
  | 0, _ => Nat.le_refl _
  | d + 1, hd => by
    have := dirsTo_mono ns i d (by omega)
    rw [← Nat.add_assoc, dirsTo_succ ns (i + d) (by omega)]
    omega
theorem sum_dirs : ∀ (l : List Nd) (f : Nd → Nat), (∀ x ∈ l, f x = if x.file = -1 then 0 else 1) → (l.map f).sum + (l.filter isDir).length = l.length
  | [], _, _ => rfl
  | x :: r, f, h => by
    have := sum_dirs r f (fun y hy => h y (by simp [hy]))
    rw [List.map_cons, List.sum_cons, h x (by simp)]
    by_cases e : x.file = -1
    · simp [isDir, e] at this ⊢; omega
    · simp [isDir, e] at this ⊢; omega
theorem names_all {ns : List Nd} {fs : List Fl} (h : looseE ns fs = 0) : namesTo ns fs.length + dirsTo ns ns.length = ns.length := by
  have e : namesTo ns fs.length = ((List.range fs.length).map fun (q : Nat) => (ns.filter (fun x => decide (x.file = (q : Int)))).length).sum := by
    unfold namesTo namesF
    congr 1
    refine List.map_congr_left (fun q _ => ?_)
    rw [List.length_map]
    congr 2
    funext x
    have : (0 : Int) ≤ (q : Int) := by omega
    simp [this]
  rw [e, count_split (fun x (q : Nat) => decide (x.file = (q : Int)))]
  unfold dirsTo
  rw [List.take_of_length_le (Nat.le_refl _)]
  refine sum_dirs ns _ (fun x hx => ?_)
  rcases loose_files h x hx with h1 | ⟨h1, h2⟩
  · rw [if_pos h1]
    have : (List.range fs.length).filter (fun (q : Nat) => decide (x.file = (q : Int))) = [] := List.filter_eq_nil_iff.2 (fun q _ he => by have := of_decide_eq_true he; omega)
    rw [this]
    rfl
  · rw [if_neg (by omega)]
    have e2 : (fun q : Nat => decide (x.file = (q : Int))) = fun q => decide (x.file.toNat = q) := by
      funext q
      congr 1
      apply propext
      omega
    rw [e2]
    exact one_of _ _ List.nodup_range (by simp; omega)
/-- the names of a file, one by one -/
theorem namesF_at {ns : List Nd} {fs : List Fl} (h : looseE ns fs = 0) (f : Int) (j : Nat) (hj : j < (namesF ns f).length) : ∃ Z, ∃ hz : Z < ns.length, ns[Z].path = (namesF ns f)[j] ∧ ns[Z].file = f ∧ findI ns (namesF ns f)[j] = (Z : Int) := by
  have hm : (namesF ns f)[j] ∈ namesF ns f := List.getElem_mem hj
  unfold namesF at hm
  obtain ⟨x, hx, e⟩ := List.mem_map.1 hm
  obtain ⟨h1, h2⟩ := List.mem_filter.1 hx
  obtain ⟨Z, hz, rfl⟩ := List.getElem_of_mem h1
  have e : ns[Z].path = (namesF ns f)[j] := e
  exact ⟨Z, hz, e, (of_decide_eq_true h2).1, by rw [← e]; exact loose_find h Z hz⟩
theorem namesF_lt {ns : List Nd} {fs : List Fl} (h : looseE ns fs = 0) (f : Int) (i j : Nat) (hij : i < j) (hj : j < (namesF ns f).length) : bytesLess ((namesF ns f)[i]'(by omega)) (namesF ns f)[j] = true := by
  have hp : ns.Pairwise fun a b => bytesLess a.path b.path = true := List.pairwise_iff_getElem.2 (fun i j hi hj hij => loose_lt h i j hij hj)
  have hq : (namesF ns f).Pairwise fun a b => bytesLess a b = true := by
    unfold namesF
    exact List.pairwise_map.2 (hp.filter _)
  exact List.pairwise_iff_getElem.1 hq i j (by omega) hj hij
theorem namesF_atD {ns : List Nd} {fs : List Fl} (h : looseE ns fs = 0) (f : Int) (j : Nat) (hj : j < (namesF ns f).length) : ∃ Z, ∃ hz : Z < ns.length, ns[Z].file = f ∧ findI ns ((namesF ns f).getD j []) = (Z : Int) := by
  obtain ⟨Z, hz, h1, h2, h3⟩ := namesF_at h f j hj
  refine ⟨Z, hz, h2, ?_⟩
  rw [List.getD_eq_getElem?_getD, List.getElem?_eq_getElem hj]
  exact h3
theorem namesF_ltD {ns : List Nd} {fs : List Fl} (h : looseE ns fs = 0) (f : Int) (i j : Nat) (hij : i < j) (hj : j < (namesF ns f).length) : bytesLess ((namesF ns f).getD i []) ((namesF ns f).getD j []) = true := by
  rw [List.getD_eq_getElem?_getD, List.getElem?_eq_getElem (by omega), List.getD_eq_getElem?_getD, List.getElem?_eq_getElem hj]
  exact namesF_lt h f i j hij hj
theorem namesF_pos {ns : List Nd} {fs : List Fl} (h : looseE ns fs = 0) (f : Nat) (hf : f < fs.length) : 1 ≤ (namesF ns (f : Int)).length := by
  obtain ⟨x, hx, e⟩ := loose_named h f hf
  have : x.path ∈ namesF ns (f : Int) := by
    unfold namesF
    exact List.mem_map.2 ⟨x, List.mem_filter.2 ⟨hx, by simp [e]⟩, rfl⟩
  exact List.length_pos_of_mem this
end Go.Tre
