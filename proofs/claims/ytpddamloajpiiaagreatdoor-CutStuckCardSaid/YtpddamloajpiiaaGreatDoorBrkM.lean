/-
What is proved here: cut's Break of needs that are taken, by a contract, as far as split has one.
-/
import Derived.Test.YtpddamloajpiiaaGreatDoorSgtM
import Derived.Test.YtpddamloajpiiaaGreatDoorMa7
import Derived.BigQuiet
import Derived.Deep.QuietTactic
set_option linter.unusedSimpArgs false
set_option linter.unusedVariables false
namespace Go.Proofs.YtpddamloajpiiaaGreatDoor
open Go.Cmp Go.RowKit Go.Cut Go.Pth Go.Word Go.Shelf
/-- what Break tells -/
def BrkE (l : List Ac) (G : Gr) (w : World) (e : Ending) (w' : World) : Prop := ∃ (x : Int) (s' : Wk), StrR ⟨l, G.map rise, 0⟩ x s' ∧ WkP s' ∧ Below w.heap.size w w' ∧
  ((x = 0 ∧ ∃ av nv vs, e = .returned (.tuple #[av, nv, .int .i64 (s'.cuts : Int), .int .i64 0]) ∧ OwnA w' w.heap.size av s'.acts ∧ w'.ownsRow w.heap.size 33 1 nv vs.length vs ∧ Rws w' w.heap.size vs s'.needs) ∨
    (x ≠ 0 ∧ e = .returned (.tuple #[nilV, nilV, .int .i64 0, .int .i64 x])))
theorem nx_rise (G : Gr) (i : Nat) : nx (G.map rise) i = rise (nx G i) := by
  unfold nx
  rw [List.getD_eq_getElem?_getD, List.getD_eq_getElem?_getD, List.getElem?_map]
  cases G[i]? <;> rfl
theorem wkp_start {l : List Ac} {G : Gr} (hG : Ok G) (hn : G.length ≤ 1024) (hl : l.length = G.length) (ht : ∀ a ∈ l, a.p.length ≤ 100000) : WkP ⟨l, G.map rise, 0⟩ :=
  ⟨by simpa using hl, fun i => by show Rise (nx (G.map rise) i); rw [nx_rise]; exact rise_rise _, fun r hr x hx => by
    obtain ⟨r', hr', rfl⟩ := List.mem_map.1 hr
    show x < (G.map rise).length
    rw [List.length_map]
    exact hG r' hr' x ((mem_rise _ _).1 hx), by show l.length ≤ 1024; omega, ht, Nat.zero_le _⟩
theorem clone_any (AA : Option Addr) (c : Nat) (l : List Ac) (hl : l.length ≤ 100000) (w : World) (hA : ∀ j u, (acs l)[j]? = some u → ∃ b o, AA = some ⟨b, o, none⟩ ∧ w.cell? ⟨b, o + j, none⟩ = some u) (hp : AA = none ∨ ∃ b o, AA = some ⟨b, o, none⟩) :
    Calls Tryz.prog 18 #[.slice AA l.length c] w fun e w' => ∃ A' c', e = .returned (.slice A' l.length c') ∧ OwnA w' w.heap.size (.slice A' l.length c') l ∧ Below w.heap.size w w' := by
  rcases hp with rfl | ⟨b, o, rfl⟩
  · obtain rfl : l = [] := by
      cases l with
      | nil => rfl
      | cons a t => obtain ⟨b, o, e, _⟩ := hA 0 _ (by simp [acs, acC]; rfl); cases e
    refine (clone_nil c w).mono ?_
    rintro e w' ⟨v, rfl, h1, h2⟩
    obtain ⟨A', c', rfl, _⟩ := own_acts h1
    exact ⟨A', c', rfl, h1, h2⟩
  · refine (clone_some b o c l hl w (fun j u hj => by
      obtain ⟨b', o', e, hc⟩ := hA j u hj
      injection e with e
      injection e with e1 e2
      subst e1 e2
      exact hc)).mono ?_
    rintro e w' ⟨v, rfl, h1, h2⟩
    obtain ⟨A', c', rfl, _⟩ := own_acts h1
    exact ⟨A', c', rfl, h1, h2⟩
theorem results_four {fn : Func} {t u v x : Tmp} (h : fn.results = #[.tmp t, .tmp u, .tmp v, .tmp x]) (tmps : Array Value) (P : Program) (w : World) :
    (results fn tmps).run P w = .ok (.tuple #[tmps.getD t undef, tmps.getD u undef, tmps.getD v undef, tmps.getD x undef]) w := by
  simp [results, h]
theorem row_of {w : World} {B g : Nat} {vs : List Value} (hL : Lies w g 33 vs.toArray) (hB : B ≤ g) (hl : vs.length ≤ 100000) : w.ownsRow B 33 1 (.slice (some ⟨g, 0, none⟩) vs.length vs.length) vs.length vs :=
  ⟨by simp, .inr ⟨g, vs.length, vs.toArray, rfl, hB, hL, Nat.le_refl _, by unfold maxLen; omega, by simp, by simp⟩⟩
theorem rws_mono {w : World} {B B' : Nat} {vs : List Value} {G : Gr} (h : Rws w B vs G) (hb : B' ≤ B) : Rws w B' vs G := ⟨h.len, fun i => win_mono (h.win i) hb, h.sep⟩
theorem rws_below {w w' : World} {B : Nat} {vs : List Value} {G : Gr} (h : Rws w B vs G) (hb : Below w.heap.size w w') : Rws w' B vs G :=
  ⟨h.len, fun i => win_but (h.win i) (But.ofBelow hb (fun _ => False)) (fun _ _ => id), h.sep⟩
set_option maxRecDepth 100000 in
set_option maxHeartbeats 4000000 in
theorem break_of (hS : SplitOK) (AA : Option Addr) (ac : Nat) (LA : Option Addr) (lc : Nat) (l : List Ac) (G : Gr) (hG : Ok G) (hn : G.length ≤ 1024) (hg : ∀ r ∈ G, r.length ≤ 1024) (hl : l.length = G.length) (ht : ∀ a ∈ l, a.p.length ≤ 100000) (w : World) (hT : Pow w) (hL : LsAt w LA (zg G))
    (hA : ∀ j u, (acs l)[j]? = some u → ∃ b o, AA = some ⟨b, o, none⟩ ∧ b < w.heap.size ∧ w.cell? ⟨b, o + j, none⟩ = some u) (hp : AA = none ∨ ∃ b o, AA = some ⟨b, o, none⟩) :
    Calls Tryz.prog 10 #[.slice AA l.length ac, .slice LA G.length lc] w (BrkE l G w) := by
  have hc := chk_ok hG hn hg
  have KC := comps_uni LA lc (zg G) w hL (by simp; omega) (fun r hr => by
    obtain ⟨r', hr', rfl⟩ := List.mem_map.1 hr
    rw [zs_len]
    have := hg r' hr'
    omega)
  rw [zg_len] at KC
  have KC2 := Lib.hid (show Calls Tryz.prog 17 #[.slice LA G.length lc] w (fun e w' => ∃ A C n, e = .returned (.tuple #[.slice A n C, .int .i64 0]) ∧ Below w.heap.size w w') from KC.mono fun e w' ⟨A', C, es, h⟩ => ⟨A', C, es.length, by rw [h.eq, hc], h.low⟩)
  have KL := Lib.hid (fun (W : World) (hb : Below w.heap.size w W) => clone_any AA ac l (by omega) W (fun j u hj => by
    obtain ⟨b, o, e, hbw, hcl⟩ := hA j u hj
    exact ⟨b, o, e, (hb.cell (p := ⟨b, o + j, none⟩) hbw).trans hcl⟩) hp)
  have KR := Lib.hid (fun (W : World) (hb : Below w.heap.size w W) => rising_any LA lc G hn hg W (lsAt_below hL hb))
  have HP := Lib.hid (wkp_start hG hn hl ht)
  have HS := Lib.hid hS
  have HT := Lib.hid hT
  have HL := Lib.hid hl
  rw [hl] at KL ⊢
  obtain ⟨n, hnn⟩ : ∃ n, n = G.length := ⟨_, rfl⟩
  have HN := Lib.hid hnn
  rw [← hnn] at KC2 KL KR ⊢
  clear KC hc hL hA hp hT hG hg ht hS hl hnn hn
  go_enter Tryz.func10, Tryz.ntmps10
  go_upto_region 2 with (go_at_call 17; (with_reducible refine KC2.out.mono ?_); rintro e w1 ⟨A1, C1, n1, rfl, hb⟩; have HB1 := Lib.hid hb; clear hb)
  have KL1 := Lib.hid (KL.out w1 HB1.out)
  go_upto_region 7 with (first
    | (go_at_call 18; (with_reducible refine KL1.out.mono ?_); rintro e w2 ⟨A2, c2, rfl, hA2, hb2⟩; have HA2 := Lib.hid hA2; have HB2 := Lib.hid (HB1.out.trans (hb2.mono HB1.out.size)); have KR2 := Lib.hid (KR.out w2 HB2.out); have SZ2 := Lib.hid hb2.size; clear hA2 hb2)
    | (go_at_call 19; (with_reducible refine KR2.out.mono ?_); rintro e w3 ⟨vs, rfl, hL3, hR3, hb3⟩; have HL3 := Lib.hid hL3; have HR3 := Lib.hid hR3; have HB3 := Lib.hid hb3; clear hL3 hR3 hb3))
  have hvl : vs.length = G.length := by have := HR3.out.len; simpa using this
  have hln := HL.out
  have hnn := HN.out
  have HG1 := Lib.hid (show G.length ≤ 1024 by have := HP.out.big; have h2 : l.length ≤ 1024 := this; omega)
  have hb23 : Below w2.heap.size w2 (w3.alloc (.cells #[.int .i64 0, .int .i64 0, .string { data := #[] }, .slice A2 n c2, .slice (some ⟨w2.heap.size, 0, none⟩) G.length G.length, .int .i64 0] 49)) := HB3.out.alloc HB3.out.size _
  have hb33 : Below w3.heap.size w3 (w3.alloc (.cells #[.int .i64 0, .int .i64 0, .string { data := #[] }, .slice A2 n c2, .slice (some ⟨w2.heap.size, 0, none⟩) G.length G.length, .int .i64 0] 49)) := (Below.refl _ w3).alloc (Nat.le_refl _) _
  have HBX := Lib.hid (HB2.out.trans (hb23.mono HB2.out.size))
  have hWX : WkB w.heap.size w3.heap.size ⟨l, G.map rise, 0⟩ 0 0 [] (.slice A2 n c2) (.slice (some ⟨w2.heap.size, 0, none⟩) G.length G.length) vs (w3.alloc (.cells #[.int .i64 0, .int .i64 0, .string { data := #[] }, .slice A2 n c2, .slice (some ⟨w2.heap.size, 0, none⟩) G.length G.length, .int .i64 0] 49)) := by
    refine ⟨lies_new w3 49 _, ?_, ?_, ?_, Nat.le_trans HB2.out.size HB3.out.size⟩
    · have h1 := HA2.out
      have h2 : OwnA w2 w.heap.size (.slice A2 n c2) l := World.ownsRow.mono h1 HB1.out.size
      exact own_but h2 (But.ofBelow hb23 (fun _ => False)) (fun _ _ => id)
    · have h1 := row_of (B := w.heap.size) (lies_below HL3.out hb33 (lies_lt HL3.out)) HB2.out.size (by have := HG1.out; omega)
      rw [hvl] at h1 ⊢
      exact h1
    · exact rws_below (rws_mono HR3.out HB2.out.size) hb33
  have KS := Lib.hid (straighten_of HS.out w w3.heap.size ⟨l, G.map rise, 0⟩ _ HT.out HBX.out ⟨_, _, _, _, _, _, hWX⟩ HP.out)
  clear hb23 hb33 hWX hvl hln hnn KL1 KR KL HB1 HL3 HR3 HA2
  generalize w3.alloc (.cells #[.int .i64 0, .int .i64 0, .string { data := #[] }, .slice A2 n c2, .slice (some ⟨w2.heap.size, 0, none⟩) G.length G.length, .int .i64 0] 49) = X at *
  go_upto_region 8 with (go_at_call 20; (with_reducible refine KS.out.mono ?_); rintro e w4 ⟨x, s', rfl, hR, hM, hP', hB'⟩; have HR4 := Lib.hid hR; have HM4 := Lib.hid hM; have HP4 := Lib.hid hP'; have HB4 := Lib.hid hB'; clear hR hM hP' hB')
  by_cases hx : x = 0
  · subst hx
    obtain ⟨fs, sn, to, av, nv, vs', hW⟩ := HM4.out
    obtain ⟨A5, c5', eA, _⟩ := own_acts hW.own
    obtain ⟨N5, n5, eN, _⟩ := rws_ls hW.row hW.rws
    subst eA eN
    have c3 := lies_cell hW.box 3
    have c4 := lies_cell hW.box 4
    have c5 := lies_cell hW.box 5
    simp only [List.getElem?_toArray, List.getElem?_cons_zero, List.getElem?_cons_succ] at c3 c4 c5
    have HW := Lib.hid hW
    clear hW
    go_upto_region 10 with (fail)
    go_quiet (fail)
    go_wp2
    (try simp only [Exit.inBlock, Exit.then])
    refine bodyPost_ret (results_four rfl _ _ _) rfl ?_
    have HWd := wkb_but HW.out ((But.refl (fun _ => False) w4).drewN nq) (fun _ _ => id)
    have hBd : Below w.heap.size w (w4.drewN nq) := ⟨HB4.out.os, HB4.out.tape, HB4.out.output, HB4.out.size, HB4.out.block⟩
    exact ⟨0, s', HR4.out, HP4.out, hBd, .inl ⟨rfl, _, _, _, rfl, HWd.own, HWd.row, HWd.rws⟩⟩
  · have ex : (x == 0) = false := by simpa using hx
    have HX := Lib.hid hx
    go_wp2
    (try simp only [Exit.inBlock, Exit.then])
    refine bodyPost_ret (results_four rfl _ _ _) rfl ?_
    exact ⟨x, s', HR4.out, HP4.out, HB4.out, .inr ⟨HX.out, rfl⟩⟩
end Go.Proofs.YtpddamloajpiiaaGreatDoor
