/-
What is proved here: several texts in one (Txs, Pts, Nmk, Ord, Fom, Fon): each says what it is about.
-/
import Derived.Test.YtjagddhkoacipaaMa7
import Derived.Deep.Onto
import Derived.Test.YtjagddhkoacipaaMa3
import Derived.Test.YtjagddhkoacipaaMa2
import Derived.Test.YtjagddhkoacipaaMa5
/-
What is proved here: the document's own Kids and Names, and the law's look at two lists of texts that are one, by contracts.
-/
set_option linter.unusedSimpArgs false
namespace Go.Tre
open Go.Pth Go.Proofs.Ytjagddhkoacipaa
/-- the paths whose parent it is -/
def kidsP (ns : List Nd) (q : Bt) : List Bt := (ns.filter fun x => same (upP x.path) q).map (·.path)
/-- the paths that name a file -/
def namesF (ns : List Nd) (f : Int) : List Bt := (ns.filter fun x => decide (x.file = f ∧ 0 ≤ f)).map (·.path)
theorem pick_succ (P : Nd → Bool) (ns : List Nd) (i : Nat) (h : i < ns.length) : ((ns.take (i + 1)).filter P).map (·.path) = ((ns.take i).filter P).map (·.path) ++ (if P ns[i] = true then [ns[i].path] else []) := by
  rw [List.take_succ_eq_append_getElem h, List.filter_append, List.map_append]
  by_cases e : P ns[i] = true <;> simp [e]
end Go.Tre
namespace Go.Proofs.Ytjagddhkoacipaa
open Go.Pth Go.Tre Go.RowKit Go.Word
attribute [local go_sem] guard_eq guard_ne st_eql st_neq

theorem own_below {w w1 : World} {B : Nat} {v : Value} {k : Nat} {xs : List Value} (h : w.ownsRow B 9 1 v k xs) (hb : Below w.heap.size w w1) : w1.ownsRow B 9 1 v k xs :=
  World.ownsRow.kept h ⟨hb.os, hb.tape, hb.output, hb.size, fun i hi _ => hb.block i hi⟩ (row := none) (by cases v.ownBlock <;> simp)

set_option maxRecDepth 100000 in
set_option maxHeartbeats 4000000 in
theorem kids_ref (NA FA : Option Addr) (nc fc : Nat) (ns : List Nd) (k : Nat) (q : Bt) (w : World) (hn : ns.length ≤ 300) (hN : NodesAt w NA ns) (hp : ∀ x ∈ ns, x.path.length ≤ 100000) :
    Calls Try.prog 54 #[.agg #[.slice NA ns.length nc, .slice FA k fc], St q] w fun e w' => ∃ v, e = .returned v ∧ w'.ownsRow w.heap.size 9 1 v (kidsP ns q).length ((kidsP ns q).map St) ∧ Below w.heap.size w w' := by
  obtain ⟨i0, hi, hz0, hz1, hz2⟩ := info_parts str_info
  obtain ⟨n, hne⟩ : ∃ n, n = ns.length := ⟨_, rfl⟩
  rw [← hne] at hn ⊢
  have NE := Lib.hid hne
  have HP := Lib.hid hp
  have PK := Lib.hid (pick_succ (fun x => same (upP x.path) q) ns)
  have PL := Lib.hid (show ∀ i, ((ns.take i).filter fun x => same (upP x.path) q).length ≤ 300 from fun i => by
    have h1 := List.length_filter_le (fun x : Nd => same (upP x.path) q) (ns.take i)
    have h2 := List.length_take_le' i ns
    omega)
  clear hne hp
  have L := lies_new w 25 #[.slice NA n nc, .slice FA k fc]
  have hB : Below w.heap.size w (w.alloc (.cells #[.slice NA n nc, .slice FA k fc] 25)) := (Below.refl _ _).alloc (Nat.le_refl _) _
  have HN := Lib.hid (nodesAt_below hN hB)
  have HB := Lib.hid hB
  have LX := Lib.hid L
  clear L hB hN
  go_enter Try.func54, Try.ntmps54
  go_wp2
  generalize w.alloc (.cells #[.slice NA n nc, .slice FA k fc] 25) = X at *
  go_loopw [5, 6] (fun v5 v6 wr => ∃ i : Nat, i ≤ n ∧ v6 = .int .i64 (i : Int) ∧ wr.ownsRow X.heap.size 9 1 v5 (((ns.take i).filter fun x => same (upP x.path) q).map (·.path)).length ((((ns.take i).filter fun x => same (upP x.path) q).map (·.path)).map St) ∧ Below X.heap.size X wr) (fun _ v6 _ => n - (intOf v6).toNat)
  case atStart => exact ⟨0, Nat.zero_le _, rfl, World.ownsRow_nil _ _ _ _, Below.refl _ _⟩
  case round =>
    obtain ⟨i, hil, rfl, hrow, hb⟩ := hrel
    have c0 := (hb.cell (p := ⟨w.heap.size, 0, none⟩) (lies_lt LX.out)).trans (lies_cell LX.out 0)
    simp only [List.getElem?_toArray, List.getElem?_cons_zero] at c0
    have HBW := Lib.hid hb
    by_cases hlt : i < n
    · have li : (i : Int) < (n : Int) := by omega
      have lf : i < ns.length := by have := NE.out; omega
      obtain ⟨b, o, eA, hl, d1, d2, d3⟩ := HN.out i lf
      subst eA
      have hpl := HP.out ns[i] (List.getElem_mem _)
      have d1 := (hb.cell (p := ⟨b, o + i * 3, none⟩) hl).trans d1
      have S1 := Lib.hid (PK.out i lf)
      have hlen := PL.out i
      generalize ns[i] = x at *
      obtain ⟨p, f, md⟩ := x
      have d1 : wr.cell? ⟨b, o + i * 3, none⟩ = some (St p) := d1
      have S2 : Hid (((ns.take (i + 1)).filter fun x => same (upP x.path) q).map (·.path) = ((ns.take i).filter fun x => same (upP x.path) q).map (·.path) ++ (if same (upP p) q = true then [p] else [])) := S1
      have V := Lib.hid (parent_ref p wr hpl)
      obtain ⟨u, hu⟩ : ∃ u, u = upP p := ⟨_, rfl⟩
      rw [← hu] at S2 V
      have HL := Lib.hid hlen
      rw [← List.length_map (f := fun x : Nd => x.path)] at hlen
      generalize (((ns.take i).filter fun x => same (upP x.path) q).map (·.path)) = done at *
      have HR := Lib.hid hrow
      clear d2 d3 hb hpl S1 hu hrow HL
      cases hs : same u q with
      | true =>
        rw [if_pos hs] at S2
        have S3 : Hid (((ns.take (i + 1)).filter fun x => same (upP x.path) q).map (·.path) = done ++ [p]) := Lib.hid S2.out
        go_wp2_with (first
          | (go_at_call 73; (with_reducible refine V.out.mono ?_); rintro e w1 ⟨rfl, h1⟩; have B1 := Lib.hid (HBW.out.trans (h1.mono HBW.out.size)); have R1 := Lib.hid (own_below HR.out h1); have c1 := (h1.cell (p := ⟨w.heap.size, 0, none⟩) (Nat.lt_of_lt_of_le (lies_lt LX.out) HBW.out.size)).trans c0; have e1 := (h1.cell (p := ⟨b, o + i * 3, none⟩) (Nat.lt_of_lt_of_le hl HBW.out.size)).trans d1; clear h1)
          | (refine wpList_append_own _ rfl _ _ 58 rfl X.heap.size 9 i0 (.string ⟨#[]⟩) 1 16 Try.underlying58 hi hz0 hz1 hz2 rfl (by decide) _ _ _ rfl (R1.out.alloc _) ⟨w1.heap.size, 0, none⟩ 1 1 [St p] rfl rfl (cell_one_new _ _ _) (fun y hy => by rw [List.mem_singleton] at hy; subst hy; rfl) (by unfold maxLen; omega) (by omega) (by have := B1.out.size; simp; omega) ?_; intro v' w2 hown' hgrow _; have B2 := Lib.hid (append_below R1.out B1.out hgrow); have HO := Lib.hid hown'; clear hgrow hown'))
        · rename_i h
          rcases h with h | h
          · exact absurd h (by simp [St])
          · exact absurd h (by simp [St])
        · go_roundw
          case rel => exact ⟨i + 1, by omega, by go_num, by rw [S3.out]; simpa using HO.out, B2.out⟩
          case measure => first | (simp [intOf]; done) | (simp [intOf]; omega)
      | false =>
        rw [if_neg (by rw [hs]; decide), List.append_nil] at S2
        have S3 := Lib.hid S2.out
        go_wp2_with (first
          | (go_at_call 73; (with_reducible refine V.out.mono ?_); rintro e w1 ⟨rfl, h1⟩; have B1 := Lib.hid (HBW.out.trans (h1.mono HBW.out.size)); have R1 := Lib.hid (own_below HR.out h1); clear h1))
        go_roundw
        case rel => exact ⟨i + 1, by omega, by go_num, by rw [S3.out]; exact R1.out, B1.out⟩
        case measure => first | (simp [intOf]; done) | (simp [intOf]; omega)
    · have li : ¬ (i : Int) < (n : Int) := by omega
      have e1 : ns.take i = ns := List.take_of_length_le (by have := NE.out; omega)
      rw [e1] at hrow
      have HR : Hid (wr.ownsRow X.heap.size 9 1 _ (kidsP ns q).length ((kidsP ns q).map St)) := Lib.hid hrow
      clear hb hrow e1
      go_wp2
      go_ret
      exact ⟨_, rfl, World.ownsRow.mono HR.out HB.out.size, HB.out.trans (HBW.out.mono HB.out.size)⟩
set_option maxRecDepth 100000 in
set_option maxHeartbeats 4000000 in
theorem namesf_ref (NA FA : Option Addr) (nc fc : Nat) (ns : List Nd) (k : Nat) (q : Int) (w : World) (hn : ns.length ≤ 300) (hN : NodesAt w NA ns) :
    Calls Try.prog 35 #[.agg #[.slice NA ns.length nc, .slice FA k fc], .int .i64 q] w fun e w' => ∃ v, e = .returned v ∧ w'.ownsRow w.heap.size 9 1 v (namesF ns q).length ((namesF ns q).map St) ∧ Below w.heap.size w w' := by
  obtain ⟨i0, hi, hz0, hz1, hz2⟩ := info_parts str_info
  obtain ⟨n, hne⟩ : ∃ n, n = ns.length := ⟨_, rfl⟩
  rw [← hne] at hn ⊢
  have NE := Lib.hid hne
  have PK := Lib.hid (pick_succ (fun x => decide (x.file = q ∧ 0 ≤ q)) ns)
  have PL := Lib.hid (show ∀ i, ((ns.take i).filter fun x => decide (x.file = q ∧ 0 ≤ q)).length ≤ 300 from fun i => by
    have h1 := List.length_filter_le (fun x : Nd => decide (x.file = q ∧ 0 ≤ q)) (ns.take i)
    have h2 := List.length_take_le' i ns
    omega)
  clear hne
  have L := lies_new w 25 #[.slice NA n nc, .slice FA k fc]
  have hB : Below w.heap.size w (w.alloc (.cells #[.slice NA n nc, .slice FA k fc] 25)) := (Below.refl _ _).alloc (Nat.le_refl _) _
  have HN := Lib.hid (nodesAt_below hN hB)
  have HB := Lib.hid hB
  have LX := Lib.hid L
  clear L hB hN
  go_enter Try.func35, Try.ntmps35
  go_wp2
  generalize w.alloc (.cells #[.slice NA n nc, .slice FA k fc] 25) = X at *
  go_loopw [5, 6] (fun v5 v6 wr => ∃ i : Nat, i ≤ n ∧ v6 = .int .i64 (i : Int) ∧ wr.ownsRow X.heap.size 9 1 v5 (((ns.take i).filter fun x => decide (x.file = q ∧ 0 ≤ q)).map (·.path)).length ((((ns.take i).filter fun x => decide (x.file = q ∧ 0 ≤ q)).map (·.path)).map St) ∧ Below X.heap.size X wr) (fun _ v6 _ => n - (intOf v6).toNat)
  case atStart => exact ⟨0, Nat.zero_le _, rfl, World.ownsRow_nil _ _ _ _, Below.refl _ _⟩
  case round =>
    obtain ⟨i, hil, rfl, hrow, hb⟩ := hrel
    have c0 := (hb.cell (p := ⟨w.heap.size, 0, none⟩) (lies_lt LX.out)).trans (lies_cell LX.out 0)
    simp only [List.getElem?_toArray, List.getElem?_cons_zero] at c0
    have HBW := Lib.hid hb
    by_cases hlt : i < n
    · have li : (i : Int) < (n : Int) := by omega
      have lf : i < ns.length := by have := NE.out; omega
      obtain ⟨b, o, eA, hl, d1, d2, d3⟩ := HN.out i lf
      subst eA
      have d1 := (hb.cell (p := ⟨b, o + i * 3, none⟩) hl).trans d1
      have d2 := (hb.cell (p := ⟨b, o + i * 3 + 1, none⟩) hl).trans d2
      have S1 := Lib.hid (PK.out i lf)
      have hlen := PL.out i
      generalize ns[i] = x at *
      obtain ⟨p, f, md⟩ := x
      have d1 : wr.cell? ⟨b, o + i * 3, none⟩ = some (St p) := d1
      have d2 : wr.cell? ⟨b, o + i * 3 + 1, none⟩ = some (.int .i64 f) := d2
      have S2 : Hid (((ns.take (i + 1)).filter fun x => decide (x.file = q ∧ 0 ≤ q)).map (·.path) = ((ns.take i).filter fun x => decide (x.file = q ∧ 0 ≤ q)).map (·.path) ++ (if decide (f = q ∧ 0 ≤ q) = true then [p] else [])) := S1
      have HL := Lib.hid hlen
      rw [← List.length_map (f := fun x : Nd => x.path)] at hlen
      generalize (((ns.take i).filter fun x => decide (x.file = q ∧ 0 ≤ q)).map (·.path)) = done at *
      have HR := Lib.hid hrow
      clear d3 hb S1 hrow HL
      by_cases hf : f = q
      · subst hf
        by_cases h0 : 0 ≤ f
        · rw [if_pos (decide_eq_true ⟨rfl, h0⟩)] at S2
          have S3 : Hid (((ns.take (i + 1)).filter fun x => decide (x.file = f ∧ 0 ≤ f)).map (·.path) = done ++ [p]) := Lib.hid S2.out
          go_wp2_with (refine wpList_append_own _ rfl _ _ 58 rfl X.heap.size 9 i0 (.string ⟨#[]⟩) 1 16 Try.underlying58 hi hz0 hz1 hz2 rfl (by decide) _ _ _ rfl (HR.out.alloc _) ⟨wr.heap.size, 0, none⟩ 1 1 [St p] rfl rfl (cell_one_new _ _ _) (fun y hy => by rw [List.mem_singleton] at hy; subst hy; rfl) (by unfold maxLen; omega) (by omega) (by have := HBW.out.size; simp; omega) ?_; intro v' w2 hown' hgrow _; have B2 := Lib.hid (append_below HR.out HBW.out hgrow); have HO := Lib.hid hown'; clear hgrow hown')
          · rename_i h
            rcases h with h | h
            · exact absurd h (by simp [St])
            · exact absurd h (by simp [St])
          · go_roundw
            case rel => exact ⟨i + 1, by omega, by go_num, by rw [S3.out]; simpa using HO.out, B2.out⟩
            case measure => first | (simp [intOf]; done) | (simp [intOf]; omega)
        · rw [if_neg (by intro h; exact h0 (of_decide_eq_true h).2), List.append_nil] at S2
          have S3 := Lib.hid S2.out
          go_wp2
          go_roundw
          case rel => exact ⟨i + 1, by omega, by go_num, by rw [S3.out]; exact HR.out, HBW.out⟩
          case measure => first | (simp [intOf]; done) | (simp [intOf]; omega)
      · rw [if_neg (by intro h; exact hf (of_decide_eq_true h).1), List.append_nil] at S2
        have S3 := Lib.hid S2.out
        have hfb : (f == q) = false := by simpa using hf
        go_wp2
        go_roundw
        case rel => exact ⟨i + 1, by omega, by go_num, by rw [S3.out]; exact HR.out, HBW.out⟩
        case measure => first | (simp [intOf]; done) | (simp [intOf]; omega)
    · have li : ¬ (i : Int) < (n : Int) := by omega
      have e1 : ns.take i = ns := List.take_of_length_le (by have := NE.out; omega)
      rw [e1] at hrow
      have HR : Hid (wr.ownsRow X.heap.size 9 1 _ (namesF ns q).length ((namesF ns q).map St)) := Lib.hid hrow
      clear hb hrow e1
      go_wp2
      go_ret
      exact ⟨_, rfl, World.ownsRow.mono HR.out HB.out.size, HB.out.trans (HBW.out.mono HB.out.size)⟩
end Go.Proofs.Ytjagddhkoacipaa

/-
What is proved here: tree.Names and tree.Kids, by contracts.
-/
set_option linter.unusedSimpArgs false
namespace Go.Tre
open Go.Pth Go.Proofs.Ytjagddhkoacipaa
/-- the paths of those that are asked for -/
def pickK (P : Nd → Bool) (l : List NdK) : List Bt := (l.filter fun x => P x.1.2).map fun x => x.1.2.path
theorem pickK_snoc (P : Nd → Bool) (l : List NdK) (x : NdK) : pickK P (l ++ [x]) = pickK P l ++ (if P x.1.2 = true then [x.1.2.path] else []) := by
  unfold pickK
  rw [List.filter_append, List.map_append]
  by_cases e : P x.1.2 = true <;> simp [e]
theorem pickK_len (P : Nd → Bool) (l : List NdK) : (pickK P l).length ≤ l.length := by
  unfold pickK
  rw [List.length_map]
  exact List.length_filter_le _ _
theorem pickK_all (P : Nd → Bool) (ns : List Nd) (fs : List Fl) (hp : ∀ x ∈ ns, x.path.length ≤ 100000) : pickK P (seqL ns fs) = if looseE ns fs = 0 then (ns.filter P).map (·.path) else [] := by
  unfold seqL
  by_cases hz : looseE ns fs = 0
  · rw [if_pos hz, if_pos hz]
    have hn := (loose_small hz).1
    have key : ∀ i, i ≤ ns.length → pickK P (nodesTo ns i) = ((ns.take i).filter P).map (·.path) := by
      intro i
      induction i with
      | zero => intro _; simp [nodesTo, pickK]
      | succ i ih =>
        intro hi
        rw [nodesTo_succ ns i hi, pickK_snoc, ih (by omega), pick_succ P ns i hi, ndK_val i ns[i] (by omega) (hp _ (List.getElem_mem hi))]
    have := key ns.length (Nat.le_refl _)
    rw [List.take_of_length_le (Nat.le_refl _)] at this
    exact this
  · rw [if_neg hz, if_neg hz]
    rfl
theorem seq_count (ns : List Nd) (fs : List Fl) : (seqL ns fs).length ≤ 256 := by
  unfold seqL
  by_cases hz : looseE ns fs = 0
  · rw [if_pos hz]
    unfold nodesL
    rw [nodesTo_len]
    exact (loose_small hz).1
  · rw [if_neg hz]
    simp
end Go.Tre
namespace Go.Proofs.Ytjagddhkoacipaa
open Go.Pth Go.Tre Go.RowKit Go.Word Go.Shelf
attribute [local go_sem] Oper.semAt_some guard_eq guard_ne st_eql

/-- an append to a row of one's own that lies from n₁ on, stored into its box: what else lies as it lay -/
theorem appended3 {W w1 : World} {n₀ n₁ B : Nat} {t e : TypeId} {size : Nat} {v v' : Value} {k m : Nat} {xs ys : List Value} {tmp : Obj}
    (hv : Boxed W B t v) (hte : t ≠ e) (hrow : W.ownsRow n₁ e size v k xs) (hn₀ : n₀ ≤ W.heap.size) (hB : n₀ ≤ B) (h01 : n₀ ≤ n₁) (h1s : n₁ ≤ W.heap.size)
    (hown' : w1.ownsRow n₁ e size v' m ys) (hgrow : (W.alloc tmp).grownBy w1 v.ownBlock) :
    Boxed w1 B t v ∧ Boxed (w1.setCell ⟨B, 0, none⟩ v') B t v' ∧ (w1.setCell ⟨B, 0, none⟩ v').ownsRow n₁ e size v' m ys ∧ KeepsOthers W (w1.setCell ⟨B, 0, none⟩ v') ∧ Below n₀ W (w1.setCell ⟨B, 0, none⟩ v') ∧ ∀ i, i < n₁ → i ≠ B → (w1.setCell ⟨B, 0, none⟩ v').heap[i]? = W.heap[i]? := by
  have hv1 : Boxed w1 B t v := (hv.alloc tmp).kept hgrow (hv.not_row hte hrow)
  have hrow2 : ∀ j, v.ownBlock = some j → n₁ ≤ j := fun j ej => by
    rcases hrow.2 with ⟨rfl, _⟩ | ⟨g, cap, cur, rfl, hb, _, _⟩
    · simp [Value.ownBlock] at ej
    · obtain rfl : g = j := by simpa [Value.ownBlock] using ej
      exact hb
  refine ⟨hv1, hv1.set v', hown'.kept (grownBy_setCell' w1 B v') (.inr (hv1.not_row hte hown').symm), ?_, ?_, fun i hi hne => ?_⟩
  · refine ((KeepsOthers.alloc W tmp).trans (KeepsOthers.of_grownBy hgrow fun j o ej hj => ?_)).trans (KeepsOthers.setCell _ _ _)
    rcases (hrow.alloc tmp).2 with ⟨rfl, _⟩ | ⟨g, cap, cur, rfl, _, hgb, _⟩
    · simp [Value.ownBlock] at ej
    · obtain rfl : g = j := by simpa [Value.ownBlock] using ej
      rw [hgb] at hj; cases hj; rfl
  · refine (((Below.refl n₀ W).alloc hn₀ tmp).grown hgrow (by simp; omega) fun j ej => ?_).setCell (p := ⟨B, 0, none⟩) hB v'
    exact Nat.le_trans h01 (hrow2 j ej)
  · have e1 : w1.heap[i]? = (W.alloc tmp).heap[i]? := hgrow.block i (by simp; omega) (fun e => by have := hrow2 i e.symm; omega)
    have e2 : (W.alloc tmp).heap[i]? = W.heap[i]? := Below.heap_alloc W tmp i (by omega)
    rw [← e2, ← e1]
    exact heap_setCell_other w1 ⟨B, 0, none⟩ i v' hne
theorem boxed_of {W W' : World} {B : Nat} {t : TypeId} {v : Value} (e : W'.heap[B]? = W.heap[B]?) (h : Boxed W B t v) : Boxed W' B t v := e.trans h
theorem boxed_below {W w1 : World} {B : Nat} {t : TypeId} {v : Value} (h : Boxed W B t v) (hb : Below W.heap.size W w1) : Boxed w1 B t v :=
  boxed_own (β := Unit) B t (fun _ => v) () W w1 none h (grown_of_below hb) (fun r e => by cases e)
theorem keeps_below {W w1 : World} (hb : Below W.heap.size W w1) : KeepsOthers W w1 := KeepsOthers.of_grownBy (grown_of_below hb) (fun j o e => by cases e)
end Go.Proofs.Ytjagddhkoacipaa

/-
What is proved here: tree.Names and tree.Kids, by contracts; what a loose tree's nodes keep to.
-/
set_option linter.unusedSimpArgs false
namespace Go.Tre
open Go.Pth Go.Proofs.Ytjagddhkoacipaa
def namesT (ns : List Nd) (fs : List Fl) (q : Int) : List Bt := if looseE ns fs = 0 then namesF ns q else []
def kidsT (ns : List Nd) (fs : List Fl) (q : Bt) : List Bt := if looseE ns fs = 0 then kidsP ns q else []
theorem walk_nodes : ∀ (r : List Nd) (D : Bt → Bool) (l : Bt) (k k' : Int), walkT D l k r = some k' → ∀ x ∈ r, isPath x.path = true ∧ (x.file = -1 ∨ 0 ≤ x.file)
  | [], _, _, _, _, _, _, hx => by cases hx
  | y :: r, D, l, k, k', h, x, hx => by
    unfold walkT at h
    split at h
    · cases h
    · rename_i D' l' k1 e
      rcases List.mem_cons.1 hx with rfl | hx
      · unfold nodeT at e
        split at e
        · cases e
        · rename_i h1
          have hp : isPath x.path = true := by
            cases e2 : isPath x.path with
            | true => rfl
            | false => exact absurd (.inr e2) h1
          split at e
          · cases e
          · split at e
            · rename_i h3
              exact ⟨hp, .inl h3.1⟩
            · split at e
              · rename_i h4
                exact ⟨hp, .inr (of_decide_eq_true h4.1).1⟩
              · cases e
      · exact walk_nodes r D' l' k1 k' h x hx
theorem loose_walk {ns : List Nd} {fs : List Fl} (h : looseE ns fs = 0) : walkT root [] 0 ns = some (fs.length : Int) := by
  unfold looseE at h
  split at h
  · cases h
  · split at h
    · rename_i h2
      unfold looseB at h2
      split at h2
      · cases h2
      · rename_i k e
        rw [e]
        simp only [Bool.and_eq_true, decide_eq_true_eq] at h2
        rw [h2.1]
    · cases h
theorem loose_node {ns : List Nd} {fs : List Fl} (h : looseE ns fs = 0) : ∀ x ∈ ns, isPath x.path = true ∧ (x.file = -1 ∨ 0 ≤ x.file) :=
  walk_nodes ns _ _ _ _ (loose_walk h)
theorem up_path (l : Bt) (hu : upP l ≠ []) : isPath (upP l) = true := by
  unfold upP at hu ⊢
  split
  · rename_i hp
    rw [if_pos hp] at hu
    rcases up_base l with ⟨h1, _, _⟩ | ⟨x, y, _, h2, _, h4, _⟩
    · exact absurd h1 hu
    · rw [h2]
      unfold isPath at hp ⊢
      rw [h4] at hp
      simp only [Bool.and_eq_true, decide_eq_true_eq, List.length_append, List.all_append] at hp ⊢
      exact ⟨by omega, hp.2.1⟩
  · rename_i hp
    rw [if_neg hp] at hu
    exact absurd rfl hu
theorem kidsP_none (ns : List Nd) (q : Bt) (h1 : q ≠ []) (h2 : isPath q = false) : kidsP ns q = [] := by
  unfold kidsP
  rw [List.map_eq_nil_iff, List.filter_eq_nil_iff]
  intro x _ hx
  have e : upP x.path = q := of_decide_eq_true hx
  rw [← e] at h1 h2
  rw [up_path _ h1] at h2
  cases h2
theorem kidsP_count (ns : List Nd) (q : Bt) : (kidsP ns q).length ≤ ns.length := by
  unfold kidsP
  rw [List.length_map]
  exact List.length_filter_le _ _
theorem namesF_count (ns : List Nd) (q : Int) : (namesF ns q).length ≤ ns.length := by
  unfold namesF
  rw [List.length_map]
  exact List.length_filter_le _ _
theorem names_pick (ns : List Nd) (fs : List Fl) (q : Int) (hp : ∀ x ∈ ns, x.path.length ≤ 100000) : pickK (fun x => decide (x.file = q ∧ x.file ≠ -1)) (seqL ns fs) = namesT ns fs q := by
  rw [pickK_all _ ns fs hp]
  unfold namesT
  by_cases hz : looseE ns fs = 0
  · rw [if_pos hz, if_pos hz]
    unfold namesF
    congr 1
    refine List.filter_congr (fun x hx => ?_)
    have := (loose_node hz x hx).2
    by_cases e : x.file = q
    · subst e
      by_cases e2 : x.file = -1
      · simp [e2]
      · have h0 : 0 ≤ x.file := by omega
        simp [e2, h0]
    · simp [e]
  · rw [if_neg hz, if_neg hz]
theorem kids_pick (ns : List Nd) (fs : List Fl) (q : Bt) (hp : ∀ x ∈ ns, x.path.length ≤ 100000) : pickK (fun x => same (upP x.path) q) (seqL ns fs) = kidsT ns fs q := pickK_all _ ns fs hp
end Go.Tre
namespace Go.Proofs.Ytjagddhkoacipaa
open Go.Pth Go.Tre Go.RowKit Go.Word Go.Shelf

end Go.Proofs.Ytjagddhkoacipaa

/-
What is proved here: the order of texts by bytes is total and strict; what is above a path is less than it.
-/
namespace Go.Pth
open Go.Op
theorem bl_irrefl : ∀ a : Bt, bytesLess a a = false
  | [] => rfl
  | x :: a => by
    show (decide (x < x) || (x == x && bytesLess a a)) = false
    rw [bl_irrefl a, decide_eq_false (UInt8.lt_irrefl x)]
    simp
theorem bl_trans : ∀ a b c : Bt, bytesLess a b = true → bytesLess b c = true → bytesLess a c = true
  | _, _, [], _, h => by cases ‹Bt› <;> simp [bytesLess] at h
  | [], _, z :: c, _, _ => rfl
  | x :: a, [], z :: c, h, _ => by simp [bytesLess] at h
  | x :: a, y :: b, z :: c, h1, h2 => by
    simp only [bytesLess, Bool.or_eq_true, Bool.and_eq_true, decide_eq_true_eq, beq_iff_eq] at h1 h2 ⊢
    rcases h1 with h1 | ⟨rfl, h1⟩
    · rcases h2 with h2 | ⟨rfl, h2⟩
      · exact .inl (UInt8.lt_trans h1 h2)
      · exact .inl h1
    · rcases h2 with h2 | ⟨rfl, h2⟩
      · exact .inl h2
      · exact .inr ⟨rfl, bl_trans a b c h1 h2⟩
theorem bl_total : ∀ a b : Bt, bytesLess a b = true ∨ a = b ∨ bytesLess b a = true
  | [], [] => .inr (.inl rfl)
  | [], _ :: _ => .inl rfl
  | _ :: _, [] => .inr (.inr rfl)
  | x :: a, y :: b => by
    simp only [bytesLess, Bool.or_eq_true, Bool.and_eq_true, decide_eq_true_eq, beq_iff_eq]
    rcases bl_total a b with h | rfl | h
    · by_cases hxy : x = y
      · exact .inl (.inr ⟨hxy, h⟩)
      · rcases UInt8.lt_or_lt_of_ne hxy with k | k
        · exact .inl (.inl k)
        · exact .inr (.inr (.inl k))
    · by_cases hxy : x = y
      · exact .inr (.inl (by rw [hxy]))
      · rcases UInt8.lt_or_lt_of_ne hxy with k | k
        · exact .inl (.inl k)
        · exact .inr (.inr (.inl k))
    · by_cases hxy : x = y
      · exact .inr (.inr (.inr ⟨hxy.symm, h⟩))
      · rcases UInt8.lt_or_lt_of_ne hxy with k | k
        · exact .inl (.inl k)
        · exact .inr (.inr (.inl k))
theorem bl_prefix : ∀ (x : Bt) (c : UInt8) (y : Bt), bytesLess x (x ++ c :: y) = true
  | [], _, _ => rfl
  | a :: x, c, y => by
    show (decide (a < a) || (a == a && bytesLess x (x ++ c :: y))) = true
    rw [bl_prefix x c y]
    simp
/-- not at or below: above -/
theorem leB_false (a b : Bt) : leB a b = false ↔ bytesLess b a = true := by
  unfold leB
  rw [Bool.or_eq_false_iff]
  constructor
  · rintro ⟨h1, h2⟩
    rcases bl_total a b with h | rfl | h
    · rw [h] at h1; cases h1
    · simp at h2
    · exact h
  · intro h
    refine ⟨?_, ?_⟩
    · cases h1 : bytesLess a b with
      | false => rfl
      | true => have := bl_trans a b a h1 h; rw [bl_irrefl] at this; cases this
    · refine beq_eq_false_iff_ne.2 (fun e => ?_)
      subst e
      rw [bl_irrefl] at h
      cases h
/-- what is above a path, if it is not the root, is less than it -/
theorem up_less (l : Bt) (hu : upP l ≠ []) : bytesLess (upP l) l = true := by
  have hp : isPath l = true := by
    cases h : isPath l with
    | true => rfl
    | false => exact absurd (by unfold upP; rw [h]; rfl) hu
  have e : upP l = up l := by unfold upP; rw [if_pos hp]
  rw [e] at hu ⊢
  rcases up_base l with ⟨h1, _, _⟩ | ⟨x, y, h1, h2, _⟩
  · exact absurd h1 hu
  · have := bl_prefix x 47 y
    rw [h2]
    conv => lhs; rw [h1]
    exact this
end Go.Pth

/-
What is proved here: the document's own look at a tree's form, as a recursion, tells what the walk over the nodes tells.
-/
namespace Go.Tre
open Go.Pth Go.Op Go.Proofs.Ytjagddhkoacipaa
/-- is there a directory of that path -/
def dirAt (ns : List Nd) (p : Bt) : Bool := ns.any fun z => decide (z.path = p) && isDir z
def nodeF (m : Nat) (Q : Bt → Bool) (prev : Bt) (next : Int) (x : Nd) : Option Int :=
  if leB x.path prev = true ∨ isPath x.path = false then none
  else if ¬ upP x.path = [] ∧ Q (upP x.path) = false then none
  else if x.file = -1 then (if okMode x.mode = true then some next else none)
  else if nameB x = true ∧ x.file ≤ next ∧ x.file < m then some (max next (x.file + 1)) else none
def walkF (m : Nat) (Q : Bt → Bool) : Bt → Int → List Nd → Option Int
  | _, k, [] => some k
  | l, k, x :: r => match nodeF m Q l k x with
    | none => none
    | some k' => walkF m Q x.path k' r
def chain : Bt → List Nd → Prop
  | _, [] => True
  | l, x :: r => bytesLess l x.path = true ∧ chain x.path r
def ends (m : Nat) : Option Int → Bool
  | none => false
  | some k => decide (k = m)
theorem chain_all : ∀ (r : List Nd) (l : Bt), chain l r → ∀ z ∈ r, bytesLess l z.path = true
  | [], _, _, _, h => by cases h
  | x :: r, l, hc, z, h => by
    rcases List.mem_cons.1 h with rfl | h
    · exact hc.1
    · exact bl_trans _ _ _ hc.1 (chain_all r _ hc.2 z h)
theorem nodeT_less {D : Bt → Bool} {l : Bt} {k : Int} {x : Nd} {q : (Bt → Bool) × Bt × Int} (h : nodeT D l k x = some q) : bytesLess l x.path = true ∧ q.2.1 = x.path ∧ k ≤ q.2.2 := by
  unfold nodeT at h
  split at h
  · cases h
  · rename_i h1
    have hb : bytesLess l x.path = true := (leB_false _ _).1 (by cases e : leB x.path l with | false => rfl | true => exact absurd (.inl e) h1)
    split at h
    · cases h
    · split at h
      · cases h; exact ⟨hb, rfl, Int.le_refl _⟩
      · split at h
        · cases h; exact ⟨hb, rfl, by show k ≤ max k _; omega⟩
        · cases h
theorem walkT_chain : ∀ (r : List Nd) (D : Bt → Bool) (l : Bt) (k k' : Int), walkT D l k r = some k' → chain l r ∧ k ≤ k'
  | [], _, _, k, k', h => by cases h; exact ⟨trivial, Int.le_refl _⟩
  | x :: r, D, l, k, k', h => by
    unfold walkT at h
    split at h
    · cases h
    · rename_i D' l' k1 e
      obtain ⟨h1, h2, h3⟩ := nodeT_less e
      have h2 : l' = x.path := h2
      have h3 : k ≤ k1 := h3
      obtain ⟨h4, h5⟩ := walkT_chain r _ _ _ _ h
      exact ⟨⟨h1, by rw [← h2]; exact h4⟩, by omega⟩
theorem walkF_chain (m : Nat) (Q : Bt → Bool) : ∀ (r : List Nd) (l : Bt) (k k' : Int), walkF m Q l k r = some k' → chain l r
  | [], _, _, _, _ => trivial
  | x :: r, l, k, k', h => by
    unfold walkF at h
    split at h
    · cases h
    · rename_i k1 e
      refine ⟨?_, walkF_chain m Q r _ _ _ h⟩
      unfold nodeF at e
      split at e
      · cases e
      · rename_i h1
        exact (leB_false _ _).1 (by cases e : leB x.path l with | false => rfl | true => exact absurd (.inl e) h1)
theorem walk_eq (m : Nat) (ns : List Nd) (Q : Bt → Bool) (hQ : ∀ p, Q p = dirAt ns p) : ∀ (r pre : List Nd) (D : Bt → Bool) (l : Bt) (k : Int), ns = pre ++ r → (∀ y, D y = true ↔ y = [] ∨ ∃ z ∈ pre, z.path = y ∧ isDir z = true) → chain l r →
    ends m (walkT D l k r) = ends m (walkF m Q l k r)
  | [], _, _, _, _, _, _, _ => rfl
  | x :: r, pre, D, l, k, hns, hD, hc => by
    have hle : leB x.path l = false := (leB_false _ _).2 hc.1
    unfold walkT walkF
    by_cases hp : isPath x.path = true
    · have hup : D (upP x.path) = false ↔ (¬ upP x.path = [] ∧ Q (upP x.path) = false) := by
        rw [hQ]
        constructor
        · intro h
          have h' : ¬ D (upP x.path) = true := by rw [h]; decide
          rw [hD] at h'
          refine ⟨fun e => h' (.inl e), ?_⟩
          cases e : dirAt ns (upP x.path) with
          | false => rfl
          | true =>
            exfalso
            obtain ⟨z, hz, hz2⟩ := List.any_eq_true.1 e
            simp only [Bool.and_eq_true, decide_eq_true_eq] at hz2
            have hu : upP x.path ≠ [] := fun e => h' (.inl e)
            have hl := up_less x.path hu
            rw [hns] at hz
            rcases List.mem_append.1 hz with hz | hz
            · exact h' (.inr ⟨z, hz, hz2⟩)
            · have hxz : bytesLess (upP x.path) z.path = true := by
                rcases List.mem_cons.1 hz with rfl | hz
                · exact hl
                · exact bl_trans _ _ _ hl (chain_all r _ hc.2 z hz)
              rw [hz2.1, bl_irrefl] at hxz
              cases hxz
        · rintro ⟨h1, h2⟩
          cases e : D (upP x.path) with
          | false => rfl
          | true =>
            exfalso
            rcases (hD _).1 e with h | ⟨z, hz, hz2⟩
            · exact h1 h
            · have : dirAt ns (upP x.path) = true := List.any_eq_true.2 ⟨z, by rw [hns]; exact List.mem_append_left _ hz, by simp [hz2.1, hz2.2]⟩
              rw [h2] at this
              cases this
      have hns2 : ns = (pre ++ [x]) ++ r := by rw [hns]; simp
      unfold nodeT nodeF
      have h0 : ¬ (leB x.path l = true ∨ isPath x.path = false) := by simp [hle, hp]
      rw [if_neg h0, if_neg h0]
      by_cases hu : D (upP x.path) = false
      · rw [if_pos hu, if_pos (hup.1 hu)]
      · have hu2 : ¬ (¬ upP x.path = [] ∧ Q (upP x.path) = false) := fun h => hu (hup.2 h)
        rw [if_neg hu, if_neg hu2]
        by_cases hf : x.file = -1
        · rw [if_pos hf]
          by_cases hm : okMode x.mode = true
          · rw [if_pos ⟨hf, hm⟩, if_pos hm]
            refine walk_eq m ns Q hQ r (pre ++ [x]) _ _ _ hns2 (fun y => ?_) hc.2
            simp only [Bool.or_eq_true, beq_iff_eq, hD, List.mem_append, List.mem_singleton]
            constructor
            · rintro (rfl | h | ⟨z, hz, h2⟩)
              · exact .inr ⟨x, .inr rfl, rfl, decide_eq_true hf⟩
              · exact .inl h
              · exact .inr ⟨z, .inl hz, h2⟩
            · rintro (h | ⟨z, hz | rfl, h2⟩)
              · exact .inr (.inl h)
              · exact .inr (.inr ⟨z, hz, h2⟩)
              · exact .inl h2.1.symm
          · have n1 : ¬ (x.file = -1 ∧ okMode x.mode = true) := fun h => hm h.2
            have n2 : ¬ (nameB x = true ∧ x.file ≤ k) := fun h => by
              have := of_decide_eq_true h.1
              omega
            rw [if_neg n1, if_neg hm, if_neg n2]
        · have n3 : ¬ (x.file = -1 ∧ okMode x.mode = true) := fun h => hf h.1
          rw [if_neg hf, if_neg n3]
          by_cases hn : nameB x = true ∧ x.file ≤ k
          · rw [if_pos hn]
            have hD2 : ∀ y, D y = true ↔ y = [] ∨ ∃ z ∈ pre ++ [x], z.path = y ∧ isDir z = true := fun y => by
              simp only [hD, List.mem_append, List.mem_singleton]
              constructor
              · rintro (h | ⟨z, hz, h2⟩)
                · exact .inl h
                · exact .inr ⟨z, .inl hz, h2⟩
              · rintro (h | ⟨z, hz | rfl, h2⟩)
                · exact .inl h
                · exact .inr ⟨z, hz, h2⟩
                · exact absurd (of_decide_eq_true h2.2) hf
            by_cases hm : x.file < m
            · rw [if_pos ⟨hn.1, hn.2, hm⟩]
              exact walk_eq m ns Q hQ r (pre ++ [x]) _ _ _ hns2 hD2 hc.2
            · have n4 : ¬ (nameB x = true ∧ x.file ≤ k ∧ x.file < m) := fun h => hm h.2.2
              rw [if_neg n4]
              show ends m (walkT D x.path (max k (x.file + 1)) r) = false
              cases e : walkT D x.path (max k (x.file + 1)) r with
              | none => rfl
              | some k' =>
                have := (walkT_chain r _ _ _ _ e).2
                exact decide_eq_false (by omega)
          · have n5 : ¬ (nameB x = true ∧ x.file ≤ k ∧ x.file < m) := fun h => hn ⟨h.1, h.2.1⟩
            rw [if_neg hn, if_neg n5]
    · have hp2 : isPath x.path = false := by simpa using hp
      unfold nodeT nodeF
      have h0 : leB x.path l = true ∨ isPath x.path = false := .inr hp2
      rw [if_pos h0, if_pos h0]
theorem chain_lt : ∀ (ns : List Nd) (l : Bt), chain l ns → ∀ i j (hij : i < j) (hj : j < ns.length), bytesLess (ns[i]'(by omega)).path ns[j].path = true
  | [], _, _, _, _, _, hj => by simp at hj
  | x :: r, l, hc, i, j + 1, hij, hj => by
    have hj' : j < r.length := by simpa using hj
    cases i with
    | zero => exact chain_all r _ hc.2 _ (List.getElem_mem hj')
    | succ i => exact chain_lt r _ hc.2 i j (by omega) hj'
theorem form_eq (ns : List Nd) (fs : List Fl) (Q : Bt → Bool) (hQ : chain [] ns → ∀ p, Q p = dirAt ns p) : (ends fs.length (walkF fs.length Q [] 0 ns) && !anyWrong fs) = looseB ns fs := by
  have e : ends fs.length (walkF fs.length Q [] 0 ns) = ends fs.length (walkT root [] 0 ns) := by
    by_cases hc : chain [] ns
    · exact (walk_eq fs.length ns Q (hQ hc) ns [] root [] 0 rfl (fun y => by simp [root]) hc).symm
    · have h1 : walkF fs.length Q [] 0 ns = none := by
        cases e : walkF fs.length Q [] 0 ns with
        | none => rfl
        | some k => exact absurd (walkF_chain _ _ _ _ _ _ e) hc
      have h2 : walkT root [] 0 ns = none := by
        cases e : walkT root [] 0 ns with
        | none => rfl
        | some k => exact absurd (walkT_chain _ _ _ _ _ e).1 hc
      rw [h1, h2]
  rw [e]
  unfold looseB
  cases walkT root [] 0 ns <;> rfl
end Go.Tre

/-
What is proved here: Find's place tells whether there is a directory of a path; so Form's recursion is the walk over the nodes.
-/
namespace Go.Tre
open Go.Pth Go.Op Go.Proofs.Ytjagddhkoacipaa
/-- Form's look at what is above -/
def findB (ns : List Nd) (p : Bt) : Bool := decide (0 ≤ findI ns p) && decide ((ns.getD (findI ns p).toNat ⟨[], 0, 0⟩).file = -1)
theorem find_dir (ns : List Nd) (hc : chain [] ns) (p : Bt) : findB ns p = dirAt ns p := by
  by_cases hi : ns.findIdx (fun x => same x.path p) < ns.length
  · obtain ⟨i, hie⟩ : ∃ i, i = ns.findIdx (fun x => same x.path p) := ⟨_, rfl⟩
    have hp : same (ns[i]'(by omega)).path p = true := by
      have := List.findIdx_getElem (w := hi)
      simp only [hie]
      exact this
    have hil : i < ns.length := by omega
    have hpe : ns[i].path = p := of_decide_eq_true hp
    have hI : findI ns p = (i : Int) := by unfold findI; rw [if_pos hi, hie]
    have hB : findB ns p = isDir ns[i] := by
      unfold findB
      rw [hI, decide_eq_true (by omega : (0 : Int) ≤ (i : Int)), Bool.true_and, Int.toNat_natCast, List.getD_eq_getElem?_getD, List.getElem?_eq_getElem hil]
      rfl
    rw [hB]
    cases hd : isDir ns[i] with
    | true => exact (List.any_eq_true.2 ⟨ns[i], List.getElem_mem hil, by simp [hpe, hd]⟩).symm
    | false =>
      cases e : dirAt ns p with
      | false => rfl
      | true =>
        obtain ⟨z, hz, hz2⟩ := List.any_eq_true.1 e
        simp only [Bool.and_eq_true, decide_eq_true_eq] at hz2
        obtain ⟨j, hj, rfl⟩ := List.getElem_of_mem hz
        rcases Nat.lt_trichotomy i j with h | h | h
        · have := chain_lt ns [] hc i j h hj
          rw [hpe, hz2.1, bl_irrefl] at this
          cases this
        · subst h
          rw [hd] at hz2
          cases hz2.2
        · have := chain_lt ns [] hc j i h hil
          rw [hpe, hz2.1, bl_irrefl] at this
          cases this
  · have hI : findI ns p = -1 := by unfold findI; rw [if_neg hi]
    have hB : findB ns p = false := by unfold findB; rw [hI]; rfl
    rw [hB]
    cases e : dirAt ns p with
    | false => rfl
    | true =>
      obtain ⟨z, hz, hz2⟩ := List.any_eq_true.1 e
      simp only [Bool.and_eq_true, decide_eq_true_eq] at hz2
      exact absurd (List.findIdx_lt_length_of_exists ⟨z, hz, by unfold same; exact decide_eq_true hz2.1⟩) hi
/-- Form tells what the walk tells -/
theorem form_loose (ns : List Nd) (fs : List Fl) : (ends fs.length (walkF fs.length (findB ns) [] 0 ns) && !anyWrong fs) = looseB ns fs :=
  form_eq ns fs (findB ns) (fun hc p => find_dir ns hc p)
end Go.Tre
