/-
What is proved here: the document's own Kids and Names, and the law's look at two lists of texts that are one, by contracts.
-/
import Derived.Test.YtdnagkgblmcojaaRefK
import Derived.Test.YtdnagkgblmcojaaRft
import Derived.Deep.Onto
set_option linter.unusedSimpArgs false
namespace Go.Tre
open Go.Pth Go.Proofs.Ytdnagkgblmcojaa
/-- the paths whose parent it is -/
def kidsP (ns : List Nd) (q : Bt) : List Bt := (ns.filter fun x => same (upP x.path) q).map (·.path)
/-- the paths that name a file -/
def namesF (ns : List Nd) (f : Int) : List Bt := (ns.filter fun x => decide (x.file = f ∧ 0 ≤ f)).map (·.path)
theorem pick_succ (P : Nd → Bool) (ns : List Nd) (i : Nat) (h : i < ns.length) : ((ns.take (i + 1)).filter P).map (·.path) = ((ns.take i).filter P).map (·.path) ++ (if P ns[i] = true then [ns[i].path] else []) := by
  rw [List.take_succ_eq_append_getElem h, List.filter_append, List.map_append]
  by_cases e : P ns[i] = true <;> simp [e]
end Go.Tre
namespace Go.Proofs.Ytdnagkgblmcojaa
open Go.Pth Go.Tre Go.RowKit Go.Word
attribute [local go_sem] guard_eq guard_ne st_eql st_neq

theorem own_below {w w1 : World} {B : Nat} {v : Value} {k : Nat} {xs : List Value} (h : w.ownsRow B 9 1 v k xs) (hb : Below w.heap.size w w1) : w1.ownsRow B 9 1 v k xs :=
  World.ownsRow.kept h ⟨hb.os, hb.tape, hb.output, hb.size, fun i hi _ => hb.block i hi⟩ (row := none) (by cases v.ownBlock <;> simp)

set_option maxRecDepth 100000 in
set_option maxHeartbeats 4000000 in
theorem sameTexts_any (A A' : Option Addr) (C C' b b' : Nat) (ns : List Bt) (w : World) (h1 : Tx w b A ns) (h2 : Tx w b' A' ns) (hn : ns.length ≤ 100000) :
    Calls Try.prog 17 #[.slice A ns.length C, .slice A' ns.length C'] w fun e w' => e = .returned (.bool true) ∧ Below w.heap.size w w' := by
  go_enter Try.func17, Try.ntmps17
  go_wp2
  go_loopw [5] (fun x wr => ∃ i : Nat, i ≤ ns.length ∧ x = .int .i64 i ∧ Below w.heap.size w wr) (fun x _ => ns.length - (intOf x).toNat)
  case atStart => exact ⟨0, by omega, rfl, Below.refl _ _⟩
  case round =>
    obtain ⟨i, hil, rfl, hb⟩ := hrel
    have HB := Lib.hid hb
    by_cases hlt : i < ns.length
    · obtain ⟨g, rfl, _, c1⟩ := tx_below h1 hb i hlt
      obtain ⟨g', rfl, _, c2⟩ := tx_below h2 hb i hlt
      have li : (i : Int) < (ns.length : Int) := by omega
      have q2 : i + 1 ≤ ns.length := hlt
      have wi : wrap64 ((i : Int) + 1) = ((i + 1 : Nat) : Int) := by rw [wrap_in _ (by omega) (by omega)]; omega
      have ho : ∀ x : Bt, other x x = false := fun x => decide_eq_false (by simp)
      generalize ns.getD i [] = c at *
      have hoc := ho c
      clear h1 h2 ho hb
      go_upto_region 6 with (fail)
      go_quiet (fail)
      go_wp2
      go_roundw
      case rel => exact ⟨i + 1, q2, by go_num, below_drewN HB.out _⟩
      case measure => first | (simp [intOf]; done) | (simp [intOf]; omega)
    · have li : ¬ (i : Int) < (ns.length : Int) := by omega
      clear hb h1 h2
      go_wp2
      go_ret
      exact ⟨rfl, HB.out⟩

set_option maxRecDepth 100000 in
set_option maxHeartbeats 4000000 in
theorem kids_ref (NA FA : Option Addr) (nc fc : Nat) (ns : List Nd) (k : Nat) (q : Bt) (w : World) (hn : ns.length ≤ 300) (hN : NodesAt w NA ns) (hp : ∀ x ∈ ns, x.path.length ≤ 100000) :
    Calls Try.prog 15 #[.agg #[.slice NA ns.length nc, .slice FA k fc], St q] w fun e w' => ∃ v, e = .returned v ∧ w'.ownsRow w.heap.size 9 1 v (kidsP ns q).length ((kidsP ns q).map St) ∧ Below w.heap.size w w' := by
  obtain ⟨i0, hi, hz0, hz1, hz2⟩ := info_parts str_info
  obtain ⟨n, hne⟩ : ∃ n, n = ns.length := ⟨_, rfl⟩
  rw [← hne] at hn ⊢
  have NE := Lib.hid hne
  have HP := Lib.hid hp
  have PK := Lib.hid (pick_succ (fun x => same (upP x.path) q) ns)
  have PL := Lib.hid (show ∀ i, ((ns.take i).filter fun x => same (upP x.path) q).length ≤ 300 from fun i => by
    have h1 := List.length_filter_le (fun x : Nd => same (upP x.path) q) (ns.take i)
    have h2 := List.length_take_le' i ns
    omega)
  clear hne hp
  have L := lies_new w 25 #[.slice NA n nc, .slice FA k fc]
  have hB : Below w.heap.size w (w.alloc (.cells #[.slice NA n nc, .slice FA k fc] 25)) := (Below.refl _ _).alloc (Nat.le_refl _) _
  have HN := Lib.hid (nodesAt_below hN hB)
  have HB := Lib.hid hB
  have LX := Lib.hid L
  clear L hB hN
  go_enter Try.func15, Try.ntmps15
  go_wp2
  generalize w.alloc (.cells #[.slice NA n nc, .slice FA k fc] 25) = X at *
  go_loopw [5, 6] (fun v5 v6 wr => ∃ i : Nat, i ≤ n ∧ v6 = .int .i64 (i : Int) ∧ wr.ownsRow X.heap.size 9 1 v5 (((ns.take i).filter fun x => same (upP x.path) q).map (·.path)).length ((((ns.take i).filter fun x => same (upP x.path) q).map (·.path)).map St) ∧ Below X.heap.size X wr) (fun _ v6 _ => n - (intOf v6).toNat)
  case atStart => exact ⟨0, Nat.zero_le _, rfl, World.ownsRow_nil _ _ _ _, Below.refl _ _⟩
  case round =>
    obtain ⟨i, hil, rfl, hrow, hb⟩ := hrel
    have c0 := (hb.cell (p := ⟨w.heap.size, 0, none⟩) (lies_lt LX.out)).trans (lies_cell LX.out 0)
    simp only [List.getElem?_toArray, List.getElem?_cons_zero] at c0
    have HBW := Lib.hid hb
    by_cases hlt : i < n
    · have li : (i : Int) < (n : Int) := by omega
      have lf : i < ns.length := by have := NE.out; omega
      obtain ⟨b, o, eA, hl, d1, d2, d3⟩ := HN.out i lf
      subst eA
      have hpl := HP.out ns[i] (List.getElem_mem _)
      have d1 := (hb.cell (p := ⟨b, o + i * 3, none⟩) hl).trans d1
      have S1 := Lib.hid (PK.out i lf)
      have hlen := PL.out i
      generalize ns[i] = x at *
      obtain ⟨p, f, md⟩ := x
      have d1 : wr.cell? ⟨b, o + i * 3, none⟩ = some (St p) := d1
      have S2 : Hid (((ns.take (i + 1)).filter fun x => same (upP x.path) q).map (·.path) = ((ns.take i).filter fun x => same (upP x.path) q).map (·.path) ++ (if same (upP p) q = true then [p] else [])) := S1
      have V := Lib.hid (parent_ref p wr hpl)
      obtain ⟨u, hu⟩ : ∃ u, u = upP p := ⟨_, rfl⟩
      rw [← hu] at S2 V
      have HL := Lib.hid hlen
      rw [← List.length_map (f := fun x : Nd => x.path)] at hlen
      generalize (((ns.take i).filter fun x => same (upP x.path) q).map (·.path)) = done at *
      have HR := Lib.hid hrow
      clear d2 d3 hb hpl S1 hu hrow HL
      cases hs : same u q with
      | true =>
        rw [if_pos hs] at S2
        have S3 : Hid (((ns.take (i + 1)).filter fun x => same (upP x.path) q).map (·.path) = done ++ [p]) := Lib.hid S2.out
        go_wp2_with (first
          | (go_at_call 34; (with_reducible refine V.out.mono ?_); rintro e w1 ⟨rfl, h1⟩; have B1 := Lib.hid (HBW.out.trans (h1.mono HBW.out.size)); have R1 := Lib.hid (own_below HR.out h1); have c1 := (h1.cell (p := ⟨w.heap.size, 0, none⟩) (Nat.lt_of_lt_of_le (lies_lt LX.out) HBW.out.size)).trans c0; have e1 := (h1.cell (p := ⟨b, o + i * 3, none⟩) (Nat.lt_of_lt_of_le hl HBW.out.size)).trans d1; clear h1)
          | (refine wpList_append_own _ rfl _ _ 29 rfl X.heap.size 9 i0 (.string ⟨#[]⟩) 1 16 Try.underlying29 hi hz0 hz1 hz2 rfl (by decide) _ _ _ rfl (R1.out.alloc _) ⟨w1.heap.size, 0, none⟩ 1 1 [St p] rfl rfl (cell_one_new _ _ _) (fun y hy => by rw [List.mem_singleton] at hy; subst hy; rfl) (by unfold maxLen; omega) (by omega) (by have := B1.out.size; simp; omega) ?_; intro v' w2 hown' hgrow _; have B2 := Lib.hid (append_below R1.out B1.out hgrow); have HO := Lib.hid hown'; clear hgrow hown'))
        · rename_i h
          rcases h with h | h
          · exact absurd h (by simp [St])
          · exact absurd h (by simp [St])
        · go_roundw
          case rel => exact ⟨i + 1, by omega, by go_num, by rw [S3.out]; simpa using HO.out, B2.out⟩
          case measure => first | (simp [intOf]; done) | (simp [intOf]; omega)
      | false =>
        rw [if_neg (by rw [hs]; decide), List.append_nil] at S2
        have S3 := Lib.hid S2.out
        go_wp2_with (first
          | (go_at_call 34; (with_reducible refine V.out.mono ?_); rintro e w1 ⟨rfl, h1⟩; have B1 := Lib.hid (HBW.out.trans (h1.mono HBW.out.size)); have R1 := Lib.hid (own_below HR.out h1); clear h1))
        go_roundw
        case rel => exact ⟨i + 1, by omega, by go_num, by rw [S3.out]; exact R1.out, B1.out⟩
        case measure => first | (simp [intOf]; done) | (simp [intOf]; omega)
    · have li : ¬ (i : Int) < (n : Int) := by omega
      have e1 : ns.take i = ns := List.take_of_length_le (by have := NE.out; omega)
      rw [e1] at hrow
      have HR : Hid (wr.ownsRow X.heap.size 9 1 _ (kidsP ns q).length ((kidsP ns q).map St)) := Lib.hid hrow
      clear hb hrow e1
      go_wp2
      go_ret
      exact ⟨_, rfl, World.ownsRow.mono HR.out HB.out.size, HB.out.trans (HBW.out.mono HB.out.size)⟩
set_option maxRecDepth 100000 in
set_option maxHeartbeats 4000000 in
theorem namesf_ref (NA FA : Option Addr) (nc fc : Nat) (ns : List Nd) (k : Nat) (q : Int) (w : World) (hn : ns.length ≤ 300) (hN : NodesAt w NA ns) :
    Calls Try.prog 18 #[.agg #[.slice NA ns.length nc, .slice FA k fc], .int .i64 q] w fun e w' => ∃ v, e = .returned v ∧ w'.ownsRow w.heap.size 9 1 v (namesF ns q).length ((namesF ns q).map St) ∧ Below w.heap.size w w' := by
  obtain ⟨i0, hi, hz0, hz1, hz2⟩ := info_parts str_info
  obtain ⟨n, hne⟩ : ∃ n, n = ns.length := ⟨_, rfl⟩
  rw [← hne] at hn ⊢
  have NE := Lib.hid hne
  have PK := Lib.hid (pick_succ (fun x => decide (x.file = q ∧ 0 ≤ q)) ns)
  have PL := Lib.hid (show ∀ i, ((ns.take i).filter fun x => decide (x.file = q ∧ 0 ≤ q)).length ≤ 300 from fun i => by
    have h1 := List.length_filter_le (fun x : Nd => decide (x.file = q ∧ 0 ≤ q)) (ns.take i)
    have h2 := List.length_take_le' i ns
    omega)
  clear hne
  have L := lies_new w 25 #[.slice NA n nc, .slice FA k fc]
  have hB : Below w.heap.size w (w.alloc (.cells #[.slice NA n nc, .slice FA k fc] 25)) := (Below.refl _ _).alloc (Nat.le_refl _) _
  have HN := Lib.hid (nodesAt_below hN hB)
  have HB := Lib.hid hB
  have LX := Lib.hid L
  clear L hB hN
  go_enter Try.func18, Try.ntmps18
  go_wp2
  generalize w.alloc (.cells #[.slice NA n nc, .slice FA k fc] 25) = X at *
  go_loopw [5, 6] (fun v5 v6 wr => ∃ i : Nat, i ≤ n ∧ v6 = .int .i64 (i : Int) ∧ wr.ownsRow X.heap.size 9 1 v5 (((ns.take i).filter fun x => decide (x.file = q ∧ 0 ≤ q)).map (·.path)).length ((((ns.take i).filter fun x => decide (x.file = q ∧ 0 ≤ q)).map (·.path)).map St) ∧ Below X.heap.size X wr) (fun _ v6 _ => n - (intOf v6).toNat)
  case atStart => exact ⟨0, Nat.zero_le _, rfl, World.ownsRow_nil _ _ _ _, Below.refl _ _⟩
  case round =>
    obtain ⟨i, hil, rfl, hrow, hb⟩ := hrel
    have c0 := (hb.cell (p := ⟨w.heap.size, 0, none⟩) (lies_lt LX.out)).trans (lies_cell LX.out 0)
    simp only [List.getElem?_toArray, List.getElem?_cons_zero] at c0
    have HBW := Lib.hid hb
    by_cases hlt : i < n
    · have li : (i : Int) < (n : Int) := by omega
      have lf : i < ns.length := by have := NE.out; omega
      obtain ⟨b, o, eA, hl, d1, d2, d3⟩ := HN.out i lf
      subst eA
      have d1 := (hb.cell (p := ⟨b, o + i * 3, none⟩) hl).trans d1
      have d2 := (hb.cell (p := ⟨b, o + i * 3 + 1, none⟩) hl).trans d2
      have S1 := Lib.hid (PK.out i lf)
      have hlen := PL.out i
      generalize ns[i] = x at *
      obtain ⟨p, f, md⟩ := x
      have d1 : wr.cell? ⟨b, o + i * 3, none⟩ = some (St p) := d1
      have d2 : wr.cell? ⟨b, o + i * 3 + 1, none⟩ = some (.int .i64 f) := d2
      have S2 : Hid (((ns.take (i + 1)).filter fun x => decide (x.file = q ∧ 0 ≤ q)).map (·.path) = ((ns.take i).filter fun x => decide (x.file = q ∧ 0 ≤ q)).map (·.path) ++ (if decide (f = q ∧ 0 ≤ q) = true then [p] else [])) := S1
      have HL := Lib.hid hlen
      rw [← List.length_map (f := fun x : Nd => x.path)] at hlen
      generalize (((ns.take i).filter fun x => decide (x.file = q ∧ 0 ≤ q)).map (·.path)) = done at *
      have HR := Lib.hid hrow
      clear d3 hb S1 hrow HL
      by_cases hf : f = q
      · subst hf
        by_cases h0 : 0 ≤ f
        · rw [if_pos (decide_eq_true ⟨rfl, h0⟩)] at S2
          have S3 : Hid (((ns.take (i + 1)).filter fun x => decide (x.file = f ∧ 0 ≤ f)).map (·.path) = done ++ [p]) := Lib.hid S2.out
          go_wp2_with (refine wpList_append_own _ rfl _ _ 29 rfl X.heap.size 9 i0 (.string ⟨#[]⟩) 1 16 Try.underlying29 hi hz0 hz1 hz2 rfl (by decide) _ _ _ rfl (HR.out.alloc _) ⟨wr.heap.size, 0, none⟩ 1 1 [St p] rfl rfl (cell_one_new _ _ _) (fun y hy => by rw [List.mem_singleton] at hy; subst hy; rfl) (by unfold maxLen; omega) (by omega) (by have := HBW.out.size; simp; omega) ?_; intro v' w2 hown' hgrow _; have B2 := Lib.hid (append_below HR.out HBW.out hgrow); have HO := Lib.hid hown'; clear hgrow hown')
          · rename_i h
            rcases h with h | h
            · exact absurd h (by simp [St])
            · exact absurd h (by simp [St])
          · go_roundw
            case rel => exact ⟨i + 1, by omega, by go_num, by rw [S3.out]; simpa using HO.out, B2.out⟩
            case measure => first | (simp [intOf]; done) | (simp [intOf]; omega)
        · rw [if_neg (by intro h; exact h0 (of_decide_eq_true h).2), List.append_nil] at S2
          have S3 := Lib.hid S2.out
          go_wp2
          go_roundw
          case rel => exact ⟨i + 1, by omega, by go_num, by rw [S3.out]; exact HR.out, HBW.out⟩
          case measure => first | (simp [intOf]; done) | (simp [intOf]; omega)
      · rw [if_neg (by intro h; exact hf (of_decide_eq_true h).1), List.append_nil] at S2
        have S3 := Lib.hid S2.out
        have hfb : (f == q) = false := by simpa using hf
        go_wp2
        go_roundw
        case rel => exact ⟨i + 1, by omega, by go_num, by rw [S3.out]; exact HR.out, HBW.out⟩
        case measure => first | (simp [intOf]; done) | (simp [intOf]; omega)
    · have li : ¬ (i : Int) < (n : Int) := by omega
      have e1 : ns.take i = ns := List.take_of_length_le (by have := NE.out; omega)
      rw [e1] at hrow
      have HR : Hid (wr.ownsRow X.heap.size 9 1 _ (namesF ns q).length ((namesF ns q).map St)) := Lib.hid hrow
      clear hb hrow e1
      go_wp2
      go_ret
      exact ⟨_, rfl, World.ownsRow.mono HR.out HB.out.size, HB.out.trans (HBW.out.mono HB.out.size)⟩
end Go.Proofs.Ytdnagkgblmcojaa
