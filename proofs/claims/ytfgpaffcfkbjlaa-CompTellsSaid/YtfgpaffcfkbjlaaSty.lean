/-
What is proved here: Stay of lists that are lent, by a contract; Wipe of lists of one's own, by a contract.
-/
import Derived.Test.YtfgpaffcfkbjlaaLeg
import Derived.Test.YtfgpaffcfkbjlaaSam
import Derived.Test.YtfgpaffcfkbjlaaOrm
import Derived.Great.Walk
set_option linter.unusedSimpArgs false
set_option linter.unusedVariables false
namespace Go.Proofs.Ytfgpaffcfkbjlaa
open Go.Cmp Go.RowKit
theorem lentD_at {w : World} {B : Nat} {x : Value} {d : List Int} (h : LentD w B x d) : ∃ g C, x = .slice (some ⟨g, 0, none⟩) d.length C ∧ d.length + 1 ≤ C ∧ IntsAt w (some ⟨g, 0, none⟩) d ∧ w.cell? ⟨g, d.length, none⟩ = some (.int .i64 (-71)) := by
  obtain ⟨A, C, rfl, h⟩ := h
  have hc := row_cap h
  obtain ⟨g, cap, hv, hB, hlt⟩ := World.ownsRow.form h (by omega)
  injection hv with e1 e2 e3
  subst e1 e3
  refine ⟨g, C, rfl, hc, fun i hi => ⟨g, 0, rfl, hlt, ?_⟩, ?_⟩
  · rw [Nat.zero_add, h.cellAt i (by omega), List.getElem?_map, List.getElem?_append_left hi, List.getElem?_eq_getElem hi]
    rfl
  · rw [h.cellAt d.length (by omega), List.getElem?_map, List.getElem?_append_right (Nat.le_refl _), Nat.sub_self]
    rfl
theorem lentF_at {w : World} {B C : Nat} {A : Option Addr} {ls : List (List Int)} (h : LentF w B A C ls) : ∃ g gl, A = some ⟨g, 0, none⟩ ∧ g < w.heap.size ∧ ls.length + 1 ≤ C ∧ w.cell? ⟨g, ls.length, none⟩ = some (.slice (some ⟨gl, 0, none⟩) 1 1) ∧ w.cell? ⟨gl, 0, none⟩ = some (.int .i64 (-72)) ∧
    ∀ i (h : i < ls.length), ∃ g' C', w.cell? ⟨g, i, none⟩ = some (.slice (some ⟨g', 0, none⟩) ls[i].length C') ∧ ls[i].length + 1 ≤ C' ∧ IntsAt w (some ⟨g', 0, none⟩) ls[i] ∧ w.cell? ⟨g', ls[i].length, none⟩ = some (.int .i64 (-71)) := by
  obtain ⟨xs, gl, h1, h2, h3, h4⟩ := h
  have hc := row_cap h1
  obtain ⟨g, cap, hv, hB, hlt⟩ := World.ownsRow.form h1 (by omega)
  injection hv with e1 e2 e3
  subst e1 e3
  refine ⟨g, gl, rfl, hlt, hc, ?_, lies_cell h2 0, fun i hi => ?_⟩
  · rw [h1.cellAt ls.length (by omega), List.getElem?_append_right (by omega), h3, Nat.sub_self]
    rfl
  · obtain ⟨x, hx, hd⟩ := h4 i hi
    obtain ⟨g', C', rfl, a, b, c⟩ := lentD_at hd
    refine ⟨g', C', ?_, a, b, c⟩
    rw [h1.cellAt i (by omega), List.getElem?_append_left (by omega)]
    exact hx
theorem lentF_ls {w : World} {B C : Nat} {A : Option Addr} {ls : List (List Int)} (h : LentF w B A C ls) : LsAt w A ls := fun i hi => by
  obtain ⟨g, gl, rfl, hlt, _, _, _, h4⟩ := lentF_at h
  obtain ⟨g', C', a, b, c, _⟩ := h4 i hi
  exact ⟨g, 0, _, C', rfl, hlt, by rw [Nat.zero_add]; exact a, by omega, c⟩
theorem lentF_below {w w' : World} {B C : Nat} {A : Option Addr} {ls : List (List Int)} (h : LentF w B A C ls) (hb : Below w.heap.size w w') : LentF w' B A C ls := by
  obtain ⟨xs, gl, h1, h2, h3, h4⟩ := h
  have hB : But (fun _ => False) w w' := But.of_below hb
  refine ⟨xs, gl, own_but h1 hB (fun _ _ => id), hB.lies h2 id, h3, fun i hi => ?_⟩
  obtain ⟨x, hx, hd⟩ := h4 i hi
  exact ⟨x, hx, lentD_but hd hB (fun _ _ => False.elim)⟩
set_option maxRecDepth 100000 in
set_option maxHeartbeats 4000000 in
theorem stay_any (A LA : Option Addr) (B C lc : Nat) (ls : List (List Int)) (w : World) (hF : LentF w B A C ls) (hL : LsAt w LA ls) (hn : ls.length ≤ 1000000) (hs : ∀ x ∈ ls, x.length ≤ 100000) :
    Calls Try.prog 12 #[.slice A ls.length C, .slice LA ls.length lc] w fun e w' => e = .returned (.bool true) ∧ ∃ q, w' = w.drewN q := by
  have KS := Lib.hid (same_any A LA C lc ls w (lentF_ls hF) hL (by omega) (fun l hl => by have := hs l hl; omega))
  obtain ⟨g, gl, rfl, hlt, hc, c1, c2, h4⟩ := lentF_at hF
  have H4 := Lib.hid h4
  have HL := Lib.hid hL
  have HS := Lib.hid hs
  obtain ⟨n, hnn⟩ : ∃ n, n = ls.length := ⟨_, rfl⟩
  have HN := Lib.hid hnn
  rw [← hnn] at KS hn hc c1 ⊢
  have cut1 := cutl_to (some ⟨g, 0, none⟩) n C (n + 1) hc
  have n1 : (n : Int) < ((n + 1 : Nat) : Int) := by omega
  have n2 : n < n + 1 := by omega
  have e1 : ((n + 1 : Nat) : Int) = (n : Int) + 1 := by omega
  rw [e1] at cut1 n1
  clear hF h4 hL hs hnn
  go_enter Try.func12, Try.ntmps12
  go_upto_region 6 with (go_at_call 16; (with_reducible refine KS.out.mono ?_); rintro e w4 ⟨rfl, q, h⟩; subst h)
  go_loopw [7] (fun v7 wr => ∃ i : Nat, i ≤ n ∧ v7 = .int .i64 (i : Int) ∧ wr = w.drewN q) (fun v7 _ => n - (intOf v7).toNat)
  case atStart => exact ⟨0, Nat.zero_le _, rfl, (by first | rfl | trivial)⟩
  case round =>
    obtain ⟨i, hi, rfl, rfl⟩ := hrel
    by_cases hlt : i < n
    · have li : (i : Int) < (n : Int) := by omega
      have hiN : i < ls.length := by rw [← HN.out]; exact hlt
      obtain ⟨b, o, A1, c3, eA, hbl, cc, _, _⟩ := HL.out i hiN
      obtain ⟨g', C', d1, d2, _, d3⟩ := H4.out i hiN
      have hmb := HS.out _ (List.getElem_mem hiN)
      generalize ls[i].length = m at *
      have cut2 := cuti_to (some ⟨g', 0, none⟩) m C' (m + 1) d2
      have m1 : (m : Int) < (m : Int) + 1 := by omega
      have m2 : m < m + 1 := by omega
      rw [show ((m + 1 : Nat) : Int) = (m : Int) + 1 by omega] at cut2
      subst eA
      clear hbl
      go_wp2
      go_roundw
      case rel => exact ⟨i + 1, by omega, by go_num, (by first | rfl | trivial)⟩
      case measure => first | (simp [intOf]; done) | (simp [intOf]; omega)
    · obtain rfl : i = n := by omega
      have li : ¬ (i : Int) < (i : Int) := by omega
      go_wp2
      go_ret
      exact ⟨rfl, q, rfl⟩
/-- lists of one's own that are written over -/
structure WpI (w : World) (B : Nat) (v : Value) (es : List Ent) (W : World) : Prop where
  row : W.ownsRow B 33 1 v es.length (es.map Ent.rv)
  own : ∀ i (h : i < es.length), ∃ l' : List Int, l'.length = es[i].r.length ∧ OwnI W B es[i].rv l'
  sep : es.Pairwise Apart
  low : Below B w W
  but : But (fun k => ∃ e ∈ es, e.rv.ownBlock = some k) w W
theorem wpI_0 {w : World} {B : Nat} {v : Value} {es : List Ent} (h : Grps w B v es) : WpI w B v es w :=
  ⟨h.row, fun i hi => ⟨zs es[i].r, zs_len _, h.own _ (List.getElem_mem hi)⟩, h.sep, Below.refl _ _, But.refl _ _⟩
theorem wpI_at {w W : World} {B : Nat} {A : Option Addr} {C : Nat} {es : List Ent} (h : WpI w B (.slice A es.length C) es W) {i : Nat} (hi : i < es.length) : ∃ g, A = some ⟨g, 0, none⟩ ∧ W.cell? ⟨g, i, none⟩ = some es[i].rv := by
  obtain ⟨g, cap, hv, hB, hlt⟩ := World.ownsRow.form h.row (by omega)
  injection hv with e1 e2 e3
  subst e1 e3
  refine ⟨g, rfl, ?_⟩
  rw [h.row.cellAt i (by omega), List.getElem?_map, List.getElem?_eq_getElem hi]
  rfl
theorem wpI_put {w W : World} {B : Nat} {v : Value} {es : List Ent} (h : WpI w B v es W) (hB : B ≤ w.heap.size) {i k : Nat} (hi : i < es.length) (hk : k < es[i].r.length) : ∃ b c u, es[i].rv = .slice (some ⟨b, 0, none⟩) es[i].r.length c ∧ W.cell? ⟨b, k, none⟩ = some (iV u) ∧ W.frozen? ⟨b, k, none⟩ = false ∧ WpI w B v es (W.setCell ⟨b, k, none⟩ (.int .i64 (-9))) := by
  obtain ⟨l', hl, ho⟩ := h.own i hi
  have ho' : W.ownsRow B 3 1 es[i].rv l'.length (l'.map iV) := ho
  obtain ⟨b, cap, hv, hBb, hlt⟩ := World.ownsRow.form ho' (by omega)
  rw [hv] at ho'
  have hs := ho'.stored k (.int .i64 (-9))
  have hb : But (· = b) W (W.setCell ⟨b, k, none⟩ (.int .i64 (-9))) := (But.refl (· = b) W).setCell (p := ⟨b, k, none⟩) (fun _ => rfl) _
  have hob : es[i].rv.ownBlock = some b := by rw [hv]; rfl
  obtain ⟨cs, hLb⟩ := (own_heap ho' b rfl).2.2
  refine ⟨b, cap, l'.getD k 0, by rw [hv, hl], ?_, ho'.frozenAt k, ⟨own_but h.row hb (fun q hq e => by subst e; exact own_ne h.row hLb (by decide) hq), fun j hj => ?_, h.sep, h.low.setCell (p := ⟨b, k, none⟩) hBb _, h.but.setCell (p := ⟨b, k, none⟩) (fun _ => ⟨es[i], List.getElem_mem hi, hob⟩) _⟩⟩
  · rw [ho'.cellAt k (by omega), List.getElem?_map, List.getElem?_eq_getElem (by omega), List.getD_eq_getElem?_getD, List.getElem?_eq_getElem (by omega)]
    rfl
  · by_cases e : j = i
    · subst e
      refine ⟨l'.set k (-9), by rw [List.length_set]; exact hl, ?_⟩
      unfold OwnI
      rw [List.length_set, List.map_set, hv]
      exact hs.1
    · obtain ⟨l2, hl2, ho2⟩ := h.own j hj
      refine ⟨l2, hl2, own_but ho2 hb (fun q hq e2 => ?_)⟩
      subst e2
      have hp := List.pairwise_iff_getElem.1 h.sep
      rcases Nat.lt_or_gt_of_ne e with h3 | h3
      · exact hp j i hj hi h3 _ hq hob
      · exact hp i j hi hj h3 _ hob hq
set_option maxRecDepth 100000 in
set_option maxHeartbeats 4000000 in
theorem wipe_any (B : Nat) (A : Option Addr) (C : Nat) (es : List Ent) (w : World) (h : Grps w B (.slice A es.length C) es) (hB : B ≤ w.heap.size) (hn : es.length ≤ 1000000) (hs : ∀ e ∈ es, e.r.length ≤ 1000000) :
    Calls Try.prog 13 #[.slice A es.length C] w fun e w' => e = .returned (.tuple #[]) ∧ Below B w w' ∧ But (fun k => ∃ e ∈ es, e.rv.ownBlock = some k) w w' := by
  have W0 := Lib.hid (wpI_0 h)
  have HS := Lib.hid hs
  have HB := Lib.hid hB
  obtain ⟨n, hnn⟩ : ∃ n, n = es.length := ⟨_, rfl⟩
  have HN := Lib.hid hnn
  rw [← hnn] at hn ⊢
  clear h hs hB hnn
  go_enter Try.func13, Try.ntmps13
  go_wp2
  go_loopw [2] (fun v2 wr => ∃ i : Nat, i ≤ n ∧ v2 = .int .i64 (i : Int) ∧ WpI w B (.slice A es.length C) es wr) (fun v2 _ => n - (intOf v2).toNat)
  case atStart => exact ⟨0, Nat.zero_le _, rfl, W0.out⟩
  case round =>
    obtain ⟨i, hi, rfl, hW⟩ := hrel
    have HW := Lib.hid hW
    clear hW
    by_cases hlt : i < n
    · have li : (i : Int) < (n : Int) := by omega
      have hiN : i < es.length := by rw [← HN.out]; exact hlt
      obtain ⟨g, rfl, hcx⟩ := wpI_at HW.out hiN
      have hmb := HS.out _ (List.getElem_mem hiN)
      obtain ⟨m, hm⟩ : ∃ m, m = es[i].r.length := ⟨_, rfl⟩
      rw [← hm] at hmb
      have HM := Lib.hid hm
      have HI := Lib.hid hiN
      obtain ⟨A9, C9, h9⟩ : ∃ A9 C9, es[i].rv = .slice A9 m C9 := ⟨_, _, by rw [hm]; rfl⟩
      have H9 := Lib.hid h9
      clear hm hcx h9
      go_upto_region 4 with (fail)
      go_loopw [3] (fun v3 wq => ∃ k : Nat, k ≤ m ∧ v3 = .int .i64 (k : Int) ∧ WpI w B (.slice (some ⟨g, 0, none⟩) es.length C) es wq) (fun v3 _ => m - (intOf v3).toNat)
      case atStart => exact ⟨0, Nat.zero_le _, rfl, HW.out⟩
      case round =>
        obtain ⟨k, hk, rfl, hW2⟩ := hrel
        have HW2 := Lib.hid hW2
        clear hW2
        obtain ⟨g2, eg, cc⟩ := wpI_at HW2.out HI.out
        injection eg with eg
        injection eg with eg
        subst eg
        replace cc := cc.trans (congrArg some H9.out)
        by_cases hkm : k < m
        · have lk : (k : Int) < (m : Int) := by omega
          obtain ⟨b, c, u, e1, q1, q2, q3⟩ := wpI_put HW2.out HB.out HI.out (k := k) (by rw [← HM.out]; exact hkm)
          have e1 := H9.out.symm.trans e1
          injection e1 with e1 _ e3
          subst e1
          unfold iV at q1
          have Q3 := Lib.hid q3
          clear q3
          go_wp2
          go_roundw
          case rel => exact ⟨k + 1, by omega, by go_num, Q3.out⟩
          case measure => first | (simp [intOf]; done) | (simp [intOf]; omega)
        · obtain rfl : k = m := by omega
          have lk : ¬ (k : Int) < (k : Int) := by omega
          go_wp2
          go_roundw
          case rel => exact ⟨i + 1, by omega, by go_num, HW2.out⟩
          case measure => first | (simp [intOf]; done) | (simp [intOf]; omega)
    · obtain rfl : i = n := by omega
      have li : ¬ (i : Int) < (i : Int) := by omega
      go_wp2
      exact Go.Great.bodyPost_end0 rfl rfl ⟨rfl, HW.out.low, HW.out.but⟩
end Go.Proofs.Ytfgpaffcfkbjlaa
