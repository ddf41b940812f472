/-
What is proved here: the document's own looks for a file to keep (same, alike), by contracts. the document's own look for a file by its names (named), by a contract.
-/
import Derived.Test.YtiglakhfkgeefaaRfs
import Derived.Test.YtiglakhfkgeefaaMok
import Derived.Test.YtiglakhfkgeefaaCpm
import Derived.Test.YtiglakhfkgeefaaSys
import Derived.StillTailTactics
set_option linter.unusedSimpArgs false
set_option linter.unusedVariables false
namespace Go.Mat
open Go.Pth Go.Tre
/-- has file g these bytes, and is it not taken? -/
def okT (sds : List Bt) (tk : List Bool) (d : Bt) (g : Nat) : Bool := decide (sds.getD g [] = d) && !(tk.getD g false)
def alikeP (sds : List Bt) (tk : List Bool) (d : Bt) : Int := match (List.range sds.length).find? (okT sds tk d) with | some g => (g : Int) | none => -1
theorem find_range {n : Nat} {p : Nat → Bool} {i : Nat} (h : i < n) (h1 : ∀ j, j < i → p j = false) (h2 : p i = true) : (List.range n).find? p = some i := by
  rw [List.find?_range_eq_some]
  exact ⟨h2, List.mem_range.2 h, fun j hj => by rw [h1 j hj]; rfl⟩
theorem find_range_no {n : Nat} {p : Nat → Bool} (h1 : ∀ j, j < n → p j = false) : (List.range n).find? p = none := by
  rw [List.find?_eq_none]
  intro j hj
  rw [h1 j (List.mem_range.1 hj)]
  decide
theorem alike_hit {sds : List Bt} {tk : List Bool} {d : Bt} {i : Nat} (h : i < sds.length) (h1 : ∀ j, j < i → okT sds tk d j = false) (h2 : okT sds tk d i = true) : alikeP sds tk d = (i : Int) := by
  unfold alikeP
  rw [find_range h h1 h2]
theorem alike_none {sds : List Bt} {tk : List Bool} {d : Bt} (h1 : ∀ j, j < sds.length → okT sds tk d j = false) : alikeP sds tk d = -1 := by
  unfold alikeP
  rw [find_range_no h1]
end Go.Mat
namespace Go.Proofs.Ytiglakhfkgeefaa
open Go.Mat Go.Stk Go.Pth Go.Tre Go.RowKit Go.Word Go.Shelf
attribute [local go_sem] guard_eq guard_ne st_eql st_neq
theorem okT_at {fs : List Fl} {tk : List Bool} {d : Bt} {g : Nat} (h : g < fs.length) (h2 : g < tk.length) : okT (fs.map Fl.data) tk d g = (same fs[g].data d && !tk[g]) := by
  unfold okT
  rw [List.getD_eq_getElem?_getD, List.getD_eq_getElem?_getD, List.getElem?_map, List.getElem?_eq_getElem h, List.getElem?_eq_getElem h2]
  rfl
set_option maxRecDepth 100000 in
set_option maxHeartbeats 4000000 in
theorem same_any (A DA : Option Addr) (c dc : Nat) (a b : Bt) (w : World) (hA : BytesAt w A a) (hb : BytesAt w DA b) :
    Calls Try.prog 38 #[.slice A a.length c, .slice DA b.length dc] w fun e w' => e = .returned (.bool (same a b)) ∧ ∃ m, w' = w.drewN m := by
  have cv1 := run_text47 A a c w hA
  have cv2 := run_text47 DA b dc w hb
  generalize a.length = k1 at *
  generalize b.length = k2 at *
  clear hA hb
  go_enter Try.func38, Try.ntmps38
  go_wp2
  go_ret
  exact ⟨rfl, 0, rfl⟩
/-- what is taken: a row of bools in a block -/
def BlsAt (w : World) (U : Nat) (tk : List Bool) : Prop := Lies w U 4 (tk.map Value.bool).toArray
theorem bls_cell {w : World} {U : Nat} {tk : List Bool} (h : BlsAt w U tk) (i : Nat) (hi : i < tk.length) : w.cell? ⟨U, i, none⟩ = some (.bool tk[i]) := by
  have := lies_cell h i
  rw [this]
  simp [hi]
set_option maxRecDepth 100000 in
set_option maxHeartbeats 4000000 in
theorem alike_any (NA FA MA GA : Option Addr) (nc fc mc gc n n2 U uc : Nat) (fs gs : List Fl) (f : Nat) (tk : List Bool) (w : World) (hF : FilesAt w FA fs) (hG : FilesAt w GA gs) (hU : BlsAt w U tk) (hf : f < gs.length) (ht : tk.length = fs.length) (hn : fs.length ≤ 1000000) :
    Calls Try.prog 37 #[.agg #[.slice NA n nc, .slice FA fs.length fc], .agg #[.slice MA n2 mc, .slice GA gs.length gc], .int .i64 (f : Int), .slice (some ⟨U, 0, none⟩) fs.length uc] w fun e w' => e = .returned (.int .i64 (alikeP (fs.map Fl.data) tk gs[f].data)) ∧ Below w.heap.size w w' := by
  obtain ⟨b2, o2, DB, db, eB, hl2, m2, d2, hby2⟩ := hG f hf
  subst eB
  obtain ⟨d, hd⟩ : ∃ d, d = gs[f].data := ⟨_, rfl⟩
  rw [← hd] at d2 hby2 ⊢
  clear hd m2 hG
  obtain ⟨m, hme⟩ : ∃ m, m = fs.length := ⟨_, rfl⟩
  have ME := Lib.hid hme
  obtain ⟨k, hke⟩ : ∃ k, k = gs.length := ⟨_, rfl⟩
  obtain ⟨r, hr⟩ : ∃ r, r = alikeP (fs.map Fl.data) tk d := ⟨_, rfl⟩
  have RE := Lib.hid hr
  rw [← hme] at ht hn ⊢
  rw [← hke] at hf ⊢
  rw [← hr]
  have HT := Lib.hid ht
  clear hr hme ht
  have lfk : (f : Int) < (k : Int) := by omega
  clear hke
  have L1 := lies_alloc (lies_new w 25 #[.slice NA n nc, .slice FA m fc]) (.cells #[.slice MA n2 mc, .slice (some ⟨b2, o2, none⟩) k gc] 25)
  have L2 := lies_new (w.alloc (.cells #[.slice NA n nc, .slice FA m fc] 25)) 25 #[.slice MA n2 mc, .slice (some ⟨b2, o2, none⟩) k gc]
  rw [World.size_alloc] at L2
  have hB : Below w.heap.size w ((w.alloc (.cells #[.slice NA n nc, .slice FA m fc] 25)).alloc (.cells #[.slice MA n2 mc, .slice (some ⟨b2, o2, none⟩) k gc] 25)) := ((Below.refl _ _).alloc (Nat.le_refl _) _).alloc (by simp) _
  have HF := Lib.hid (filesAt_below hF hB)
  have c0 := lies_cell L1 1
  have c1 := lies_cell L2 1
  simp only [List.getElem?_toArray, List.getElem?_cons_zero, List.getElem?_cons_succ] at c0 c1
  have HU := Lib.hid (show BlsAt ((w.alloc (.cells #[.slice NA n nc, .slice FA m fc] 25)).alloc (.cells #[.slice MA n2 mc, .slice (some ⟨b2, o2, none⟩) k gc] 25)) U tk from lies_below hU hB (lies_lt hU))
  have D2 := Lib.hid ((hB.cell (p := ⟨b2, o2 + f * 2 + 1, none⟩) hl2).trans d2)
  have BY2 := Lib.hid (bytesAt_below hby2 hB)
  have HB := Lib.hid hB
  clear hF hU d2 hby2 hB L1 L2 hl2
  go_enter Try.func37, Try.ntmps37
  go_wp2
  generalize (w.alloc (.cells #[.slice NA n nc, .slice FA m fc] 25)).alloc (.cells #[.slice MA n2 mc, .slice (some ⟨b2, o2, none⟩) k gc] 25) = X at *
  go_loopw [9] (fun v9 wr => ∃ i q : Nat, i ≤ m ∧ v9 = .int .i64 (i : Int) ∧ (∀ j, j < i → okT (fs.map Fl.data) tk d j = false) ∧ wr = X.drewN q) (fun v9 _ => m - (intOf v9).toNat)
  case atStart => exact ⟨0, 0, Nat.zero_le _, rfl, fun j hj => by omega, rfl⟩
  case round =>
    obtain ⟨i, q0, hi, rfl, hno, hw⟩ := hrel
    have y0 : wr.cell? ⟨w.heap.size, 1, none⟩ = some (.slice FA m fc) := by rw [hw]; exact c0
    have y1 : wr.cell? ⟨w.heap.size + 1, 1, none⟩ = some (.slice (some ⟨b2, o2, none⟩) k gc) := by rw [hw]; exact c1
    have hbw : Below X.heap.size X wr := by rw [hw]; exact below_drewN (Below.refl _ _) _
    have BW := Lib.hid hbw
    have HQ := Lib.hid hw
    have NO := Lib.hid hno
    clear hbw hw hno
    by_cases hlt : i < m
    · have li : (i : Int) < (m : Int) := by omega
      have lf : i < fs.length := by have := ME.out; omega
      have lt : i < tk.length := by have := HT.out; omega
      obtain ⟨b1, o1, DA, dc, eA, hl1, m1, d1, hby1⟩ := HF.out i lf
      subst eA
      have d1' := (BW.out.cell (p := ⟨b1, o1 + i * 2 + 1, none⟩) hl1).trans d1
      have y2 : wr.cell? ⟨b2, o2 + f * 2 + 1, none⟩ = some (.slice DB d.length db) := by rw [HQ.out]; exact D2.out
      have y3 : wr.cell? ⟨U, i, none⟩ = some (.bool tk[i]) := by rw [HQ.out]; exact bls_cell HU.out i lt
      have SA := fun q => Lib.hid (same_any DA DB dc db fs[i].data d (wr.drewN q) (bytesAt_below (bytesAt_below hby1 BW.out) (below_drewN (Below.refl _ _) q)) (bytesAt_below (bytesAt_below BY2.out BW.out) (below_drewN (Below.refl _ _) q)))
      have OK := Lib.hid (okT_at (d := d) lf lt)
      clear m1 d1 hby1 hl1
      obtain ⟨x, hx⟩ : ∃ x, x = fs[i].data := ⟨_, rfl⟩
      rw [← hx] at d1' SA OK
      clear hx
      generalize x.length = xl at *
      generalize d.length = dl at *
      generalize ht0 : tk[i] = t0 at *
      clear ht0
      by_cases he : x = d
      · have se : same x d = true := decide_eq_true he
        rw [se] at SA OK
        clear he
        cases t0 with
        | true =>
          have NX := Lib.hid (show ∀ j, j < i + 1 → okT (fs.map Fl.data) tk d j = false from fun j hj => by
            rcases Nat.lt_or_ge j i with h1 | h1
            · exact NO.out j h1
            · obtain rfl : j = i := by omega
              rw [OK.out]; rfl)
          clear OK se
          go_upto_region 4 with (fail)
          go_quiet ((go_at_call 38; exact Calls.quiet_of (SA _).out))
          clear SA
          go_wp2
          go_roundw
          case rel => exact ⟨i + 1, q0 + nq, by omega, by go_num, NX.out, by rw [HQ.out, World.drewN_drewN]⟩
          case measure => first | (simp [intOf]; done) | (simp [intOf]; omega)
        | false =>
          have hr : r = (i : Int) := by
            rw [RE.out]
            exact alike_hit (by rw [List.length_map]; exact lf) NO.out (by rw [OK.out]; rfl)
          subst hr
          clear OK se
          go_upto_region 4 with (fail)
          go_quiet ((go_at_call 38; exact Calls.quiet_of (SA _).out))
          clear SA
          go_wp2
          go_ret
          exact ⟨rfl, by rw [HQ.out, World.drewN_drewN]; exact below_drewN HB.out _⟩
      · have se : same x d = false := decide_eq_false he
        rw [se] at SA OK
        have NX := Lib.hid (show ∀ j, j < i + 1 → okT (fs.map Fl.data) tk d j = false from fun j hj => by
          rcases Nat.lt_or_ge j i with h1 | h1
          · exact NO.out j h1
          · obtain rfl : j = i := by omega
            rw [OK.out]; rfl)
        clear OK se he
        go_upto_region 4 with (fail)
        go_quiet ((go_at_call 38; exact Calls.quiet_of (SA _).out))
        clear SA
        go_wp2
        go_roundw
        case rel => exact ⟨i + 1, q0 + nq, by omega, by go_num, NX.out, by rw [HQ.out, World.drewN_drewN]⟩
        case measure => first | (simp [intOf]; done) | (simp [intOf]; omega)
    · have li : ¬ (i : Int) < (m : Int) := by omega
      have hr : r = -1 := by
        rw [RE.out]
        exact alike_none (fun j hj => NO.out j (by rw [List.length_map] at hj; have := ME.out; omega))
      subst hr
      go_wp2
      go_ret
      exact ⟨rfl, by rw [HQ.out]; exact below_drewN HB.out _⟩
end Go.Proofs.Ytiglakhfkgeefaa
set_option linter.unusedSimpArgs false
set_option linter.unusedVariables false
namespace Go.Mat
open Go.Pth Go.Tre Go.Proofs.Ytiglakhfkgeefaa
/-- the file that a name names, if it has these bytes and is not taken -/
def namedQ (sn : List Nd) (sds : List Bt) (tk : List Bool) (d : Bt) (p : Bt) : Option Int :=
  if 0 ≤ findI sn p ∧ (sn.getD (findI sn p).toNat ⟨[], -1, 0⟩).file ≠ -1 ∧ okT sds tk d (sn.getD (findI sn p).toNat ⟨[], -1, 0⟩).file.toNat = true then some (sn.getD (findI sn p).toNat ⟨[], -1, 0⟩).file else none
def namedP (sn : List Nd) (sds : List Bt) (tk : List Bool) (d : Bt) (nm : List Bt) : Int := (nm.findSome? (namedQ sn sds tk d)).getD (-1)
theorem named_hit {sn : List Nd} {sds : List Bt} {tk : List Bool} {d : Bt} {nm : List Bt} {j : Nat} {g : Int} (h : j < nm.length) (h1 : ∀ k, k < j → namedQ sn sds tk d (nm.getD k []) = none) (h2 : namedQ sn sds tk d (nm.getD j []) = some g) : namedP sn sds tk d nm = g := by
  have e : nm = nm.take j ++ (nm[j] :: nm.drop (j + 1)) := by rw [List.getElem_cons_drop]; exact (List.take_append_drop j nm).symm
  have e1 : (nm.take j).findSome? (namedQ sn sds tk d) = none := by
    rw [List.findSome?_eq_none_iff]
    intro x hx
    obtain ⟨k, hk, rfl⟩ := List.getElem_of_mem hx
    rw [List.length_take] at hk
    have := h1 k (by omega)
    rw [List.getElem_take]
    rwa [List.getD_eq_getElem?_getD, List.getElem?_eq_getElem (show k < nm.length by omega), Option.getD_some] at this
  rw [List.getD_eq_getElem?_getD, List.getElem?_eq_getElem h, Option.getD_some] at h2
  unfold namedP
  rw [e, List.findSome?_append, e1, Option.none_or, List.findSome?_cons, h2]
  rfl
theorem named_none {sn : List Nd} {sds : List Bt} {tk : List Bool} {d : Bt} {nm : List Bt} (h1 : ∀ k, k < nm.length → namedQ sn sds tk d (nm.getD k []) = none) : namedP sn sds tk d nm = -1 := by
  have e1 : nm.findSome? (namedQ sn sds tk d) = none := by
    rw [List.findSome?_eq_none_iff]
    intro x hx
    obtain ⟨k, hk, rfl⟩ := List.getElem_of_mem hx
    have := h1 k hk
    rwa [List.getD_eq_getElem?_getD, List.getElem?_eq_getElem hk, Option.getD_some] at this
  unfold namedP
  rw [e1]
  rfl
theorem q_none {sn : List Nd} {sds : List Bt} {tk : List Bool} {d p : Bt} (h : findI sn p = -1) : namedQ sn sds tk d p = none := by
  unfold namedQ
  rw [if_neg (by rw [h]; omega)]
theorem q_at {sn : List Nd} {sds : List Bt} {tk : List Bool} {d p : Bt} {i : Nat} (hi : i < sn.length) (h : findI sn p = (i : Int)) : namedQ sn sds tk d p = if sn[i].file ≠ -1 ∧ okT sds tk d sn[i].file.toNat = true then some sn[i].file else none := by
  unfold namedQ
  have e : sn.getD (findI sn p).toNat ⟨[], -1, 0⟩ = sn[i] := by
    rw [h, Int.toNat_natCast, List.getD_eq_getElem?_getD, List.getElem?_eq_getElem hi, Option.getD_some]
  rw [e, h]
  have : (0 : Int) ≤ (i : Int) := by omega
  simp only [this, true_and]
end Go.Mat
namespace Go.Proofs.Ytiglakhfkgeefaa
open Go.Mat Go.Stk Go.Pth Go.Tre Go.RowKit Go.Word Go.Shelf
attribute [local go_sem] guard_eq guard_ne st_eql st_neq
theorem rng2 {w : World} {g : Nat} {T : TypeId} {a b : Value} (h : Lies w g T #[a, b]) : w.rangeAt g 0 [a, b] := fun j v hj => by
  match j, hj with
  | 0, hj => injection hj with hj; subst hj; exact lies_cell h 0
  | 1, hj => injection hj with hj; subst hj; exact lies_cell h 1
  | j + 2, hj => simp at hj
set_option maxRecDepth 100000 in
set_option maxHeartbeats 8000000 in
theorem named_any (NA FA MA GA : Option Addr) (nc fc mc gc U uc : Nat) (ns ms : List Nd) (fs gs : List Fl) (f : Nat) (tk : List Bool) (w : World) (hN : NodesAt w NA ns) (hF : FilesAt w FA fs) (hM : NodesAt w MA ms) (hG : FilesAt w GA gs) (hU : BlsAt w U tk) (hf : f < gs.length) (ht : tk.length = fs.length) (hn : fs.length ≤ 1000000)
    (hn1 : ns.length ≤ 300) (hn2 : ms.length ≤ 300) (hx : ∀ x ∈ ns, x.file = -1 ∨ 0 ≤ x.file ∧ x.file < fs.length) :
    Calls Try.prog 36 #[.agg #[.slice NA ns.length nc, .slice FA fs.length fc], .agg #[.slice MA ms.length mc, .slice GA gs.length gc], .int .i64 (f : Int), .slice (some ⟨U, 0, none⟩) fs.length uc] w fun e w' => e = .returned (.int .i64 (namedP ns (fs.map Fl.data) tk gs[f].data (namesF ms (f : Int)))) ∧ Below w.heap.size w w' := by
  obtain ⟨b2, o2, DB, db, eB, hl2, m2, d2, hby2⟩ := hG f hf
  subst eB
  obtain ⟨d, hd⟩ : ∃ d, d = gs[f].data := ⟨_, rfl⟩
  rw [← hd] at d2 hby2 ⊢
  clear hd m2
  have KN := Lib.hid (fun (W : World) (h : Below w.heap.size w W) => namesf_ref MA (some ⟨b2, o2, none⟩) mc gc ms gs.length (f : Int) W hn2 (nodesAt_below hM h))
  have KF := Lib.hid (fun (W : World) (h : Below w.heap.size w W) (p : Bt) => find_ref NA FA nc fc ns fs.length p W (by omega) (nodesAt_below hN h))
  have HNs := Lib.hid (fun (W : World) (h : Below w.heap.size w W) => nodesAt_below hN h)
  have HFs := Lib.hid (fun (W : World) (h : Below w.heap.size w W) => filesAt_below hF h)
  have HUs := Lib.hid (fun (W : World) (h : Below w.heap.size w W) => (show BlsAt W U tk from lies_below hU h (lies_lt hU)))
  have D2s := Lib.hid (fun (W : World) (h : Below w.heap.size w W) => (h.cell (p := ⟨b2, o2 + f * 2 + 1, none⟩) hl2).trans d2)
  have BY2 := Lib.hid (fun (W : World) (h : Below w.heap.size w W) => bytesAt_below hby2 h)
  have HX := Lib.hid hx
  obtain ⟨n, hne⟩ : ∃ n, n = ns.length := ⟨_, rfl⟩
  have NE := Lib.hid hne
  obtain ⟨m, hme⟩ : ∃ m, m = fs.length := ⟨_, rfl⟩
  have ME := Lib.hid hme
  obtain ⟨nl, hnl⟩ : ∃ nl, nl = ms.length := ⟨_, rfl⟩
  obtain ⟨k, hke⟩ : ∃ k, k = gs.length := ⟨_, rfl⟩
  obtain ⟨nt, hnt⟩ : ∃ nt, nt = namesF ms (f : Int) := ⟨_, rfl⟩
  have hntl : nt.length ≤ 300 := by rw [hnt]; have := namesF_count ms (f : Int); omega
  obtain ⟨r, hr⟩ : ∃ r, r = namedP ns (fs.map Fl.data) tk d nt := ⟨_, rfl⟩
  have RE := Lib.hid hr
  rw [← hnt] at KN ⊢
  rw [← hne, ← hme] at KF
  rw [← hnl, ← hke] at KN
  rw [← hme] at ht hn hx
  rw [← hke] at hf
  rw [← hne, ← hme, ← hnl, ← hke, ← hr]
  have HT := Lib.hid ht
  clear hr hme ht hx hne hnt hN hF hM hG hU d2 hby2 hl2 hn2 hnl
  have lfk : (f : Int) < (k : Int) := by omega
  clear hke
  have L1 := lies_alloc (lies_new w 25 #[.slice NA n nc, .slice FA m fc]) (.cells #[.slice MA nl mc, .slice (some ⟨b2, o2, none⟩) k gc] 25)
  have L2 := lies_new (w.alloc (.cells #[.slice NA n nc, .slice FA m fc] 25)) 25 #[.slice MA nl mc, .slice (some ⟨b2, o2, none⟩) k gc]
  rw [World.size_alloc] at L2
  have hB : Below w.heap.size w ((w.alloc (.cells #[.slice NA n nc, .slice FA m fc] 25)).alloc (.cells #[.slice MA nl mc, .slice (some ⟨b2, o2, none⟩) k gc] 25)) := ((Below.refl _ _).alloc (Nat.le_refl _) _).alloc (by simp) _
  have HB := Lib.hid hB
  have LX := Lib.hid L1
  have LY := Lib.hid L2
  clear hB L1 L2
  go_enter Try.func36, Try.ntmps36
  go_upto_region 1 with (fail)
  generalize (w.alloc (.cells #[.slice NA n nc, .slice FA m fc] 25)).alloc (.cells #[.slice MA nl mc, .slice (some ⟨b2, o2, none⟩) k gc] 25) = X at *
  have R2 := Lib.hid (rng2 LY.out)
  go_upto_region 2 with (first
    | (refine wpList_load_mid rfl 25 _ rfl (w.heap.size + 1) 0 rfl [.slice MA nl mc, .slice (some ⟨b2, o2, none⟩) k gc] _ R2.out Try.underlying25 rfl (by kernel_rfl) ?_)
    | (go_at_call 25; (with_reducible refine (KN.out X HB.out).mono ?_); rintro e w5 ⟨v, rfl, hrow, hb⟩; have B5 := Lib.hid (HB.out.trans (hb.mono HB.out.size)); have LX5 := Lib.hid (lies_below LX.out hb (lies_lt LX.out)); have LY5 := Lib.hid (lies_below LY.out hb (lies_lt LY.out)); have R5 := Lib.hid hrow; clear hb hrow))
  obtain ⟨A8, C8, rfl⟩ := own_slice R5.out
  clear KN R2 LX LY
  go_wp2
  go_loopw [10] (fun v10 wr => ∃ i : Nat, i ≤ nt.length ∧ v10 = .int .i64 (i : Int) ∧ (∀ j, j < i → namedQ ns (fs.map Fl.data) tk d (nt.getD j []) = none) ∧ Below w5.heap.size w5 wr) (fun v10 _ => nt.length - (intOf v10).toNat)
  case atStart => exact ⟨0, Nat.zero_le _, rfl, fun j hj => by omega, Below.refl _ _⟩
  case round =>
    obtain ⟨i, hi, rfl, hno, hb⟩ := hrel
    have NO := Lib.hid hno
    have HW := Lib.hid hb
    have BW := Lib.hid (B5.out.trans (hb.mono B5.out.size))
    have LXw := Lib.hid (lies_below LX5.out hb (lies_lt LX5.out))
    have LYw := Lib.hid (lies_below LY5.out hb (lies_lt LY5.out))
    have Rw := Lib.hid (ownsRow_below R5.out hb)
    clear hb hno
    by_cases hlt : i < nt.length
    · have li : (i : Int) < (nt.length : Int) := by omega
      obtain ⟨g8, rfl⟩ := own_at Rw.out (by omega)
      have hp0 : wr.cell? ⟨g8, i, none⟩ = some (St (nt.getD i [])) := by
        rw [Rw.out.cellAt i (by omega), List.getElem?_map, List.getElem?_eq_getElem hlt]
        simp [List.getD_eq_getElem?_getD, List.getElem?_eq_getElem hlt]
      have NX := Lib.hid (fun (h : namedQ ns (fs.map Fl.data) tk d (nt.getD i []) = none) => (show ∀ j, j < i + 1 → namedQ ns (fs.map Fl.data) tk d (nt.getD j []) = none from fun j hj => by
        rcases Nat.lt_or_ge j i with h1 | h1
        · exact NO.out j h1
        · obtain rfl : j = i := by omega
          exact h))
      have HI := Lib.hid (fun (g : Int) (h : namedQ ns (fs.map Fl.data) tk d (nt.getD i []) = some g) => RE.out.trans (named_hit hlt NO.out h))
      obtain ⟨p0, hp⟩ : ∃ p0, p0 = nt.getD i [] := ⟨_, rfl⟩
      rw [← hp] at hp0 NX HI
      clear hp
      have y0 := lies_cell LXw.out 0
      have y1 := lies_cell LXw.out 1
      simp only [List.getElem?_toArray, List.getElem?_cons_zero, List.getElem?_cons_succ] at y0 y1
      go_upto_region 5 with (fail)
      go_still_tail 5, (by kernel_rfl)
      change wpList _ _ _ _ _ wr.drew
      have B6 := Lib.hid (show Below w.heap.size w wr.drew from BW.out.drew)
      have W6 := Lib.hid (show Below w5.heap.size w5 wr.drew from HW.out.drew)
      have L6 := Lib.hid (lies_drew LXw.out)
      have M6 := Lib.hid (lies_drew LYw.out)
      clear BW HW LXw LYw Rw hp0 y0 y1
      generalize wr.drew = X6 at *
      have F1 := Lib.hid (KF.out X6 B6.out p0)
      obtain ⟨kk, hkk⟩ : ∃ kk, kk = findI ns p0 := ⟨_, rfl⟩
      have KK := Lib.hid hkk
      rw [← hkk] at F1
      clear hkk
      go_upto_region 6 with (go_at_call 26; (with_reducible refine F1.out.mono ?_); rintro e w7 ⟨rfl, hb⟩; have B7 := Lib.hid (B6.out.trans (hb.mono B6.out.size)); have W7 := Lib.hid (W6.out.trans (hb.mono W6.out.size)); have L7 := Lib.hid (lies_below L6.out hb (lies_lt L6.out)); have M7 := Lib.hid (lies_below M6.out hb (lies_lt M6.out)); clear hb)
      have x0 := lies_cell L7.out 0
      have x1 := lies_cell L7.out 1
      have z1 := lies_cell M7.out 1
      simp only [List.getElem?_toArray, List.getElem?_cons_zero, List.getElem?_cons_succ] at x0 x1 z1
      clear B6 W6 L6 M6 F1
      rcases findI_cases ns p0 with hc | ⟨q, hq, hc, hpi⟩
      · have hk0 : kk = -1 := by rw [KK.out]; exact hc
        have NN := Lib.hid (NX.out (q_none hc))
        subst hk0
        go_wp2
        go_roundw
        case rel => exact ⟨i + 1, by omega, by go_num, NN.out, W7.out⟩
        case measure => first | (simp [intOf]; done) | (simp [intOf]; omega)
      · have hk0 : kk = (q : Int) := by rw [KK.out]; exact hc
        have QA := q_at (sds := fs.map Fl.data) (tk := tk) (d := d) hq hc
        subst hk0
        have hqn : q < n := by have := NE.out; omega
        have hqn2 : (q : Int) < (n : Int) := by omega
        obtain ⟨b, o, eA, hl, e1, e2, e3⟩ := HNs.out w7 B7.out q hq
        have FX := Lib.hid (HX.out ns[q] (List.getElem_mem hq))
        clear hpi e1 e3 hl
        generalize ns[q].file = fi at *
        subst eA
        by_cases hfi : fi = -1
        · subst hfi
          have NN := Lib.hid (NX.out (by rw [QA]; rfl))
          clear QA
          go_wp2
          go_roundw
          case rel => exact ⟨i + 1, by omega, by go_num, NN.out, W7.out⟩
          case measure => first | (simp [intOf]; done) | (simp [intOf]; omega)
        · obtain ⟨gi, rfl⟩ : ∃ gi : Nat, fi = gi := ⟨fi.toNat, by rcases FX.out with h | h <;> omega⟩
          have fb : ((gi : Int) == -1) = false := by first | (simp; done) | (simp; omega)
          have fb2 : ((gi : Int) != -1) = true := by first | (simp; done) | (simp; omega)
          have lgf : gi < fs.length := by rcases FX.out with h | h <;> omega
          have lgm : gi < m := by have := ME.out; omega
          have lgm2 : (gi : Int) < (m : Int) := by omega
          have lgt : gi < tk.length := by have := HT.out; omega
          obtain ⟨b1, o1, DA, dc, eF, hl1, f1, f2, hby1⟩ := HFs.out w7 B7.out gi lgf
          subst eF
          have y2 := D2s.out w7 B7.out
          have y3 := bls_cell (HUs.out w7 B7.out) gi lgt
          have SA := fun q => Lib.hid (same_any DA DB dc db fs[gi].data d (w7.drewN q) (bytesAt_below hby1 (below_drewN (Below.refl _ _) q)) (bytesAt_below (BY2.out w7 B7.out) (below_drewN (Below.refl _ _) q)))
          have QB := Lib.hid (show namedQ ns (fs.map Fl.data) tk d p0 = if (same fs[gi].data d && !tk[gi]) = true then some (gi : Int) else none by
            rw [QA, Int.toNat_natCast, okT_at lgf lgt]
            have : (gi : Int) ≠ -1 := hfi
            simp only [this, ne_eq, not_false_eq_true, true_and])
          clear QA FX hfi f1 hby1 hl1
          obtain ⟨x, hx⟩ : ∃ x, x = fs[gi].data := ⟨_, rfl⟩
          rw [← hx] at f2 SA QB
          clear hx
          generalize x.length = xl at *
          generalize d.length = dl at *
          generalize ht0 : tk[gi] = t0 at *
          clear ht0
          by_cases he : x = d
          · have se : same x d = true := decide_eq_true he
            rw [se] at SA QB
            clear he
            cases t0 with
            | true =>
              have NN := Lib.hid (NX.out (by rw [QB.out]; rfl))
              clear QB se
              go_upto_region 8 with (fail)
              go_quiet ((go_at_call 38; exact Calls.quiet_of (SA _).out))
              clear SA
              go_wp2
              go_roundw
              case rel => exact ⟨i + 1, by omega, by go_num, NN.out, below_drewN W7.out _⟩
              case measure => first | (simp [intOf]; done) | (simp [intOf]; omega)
            | false =>
              have hr : r = (gi : Int) := HI.out _ (by rw [QB.out]; rfl)
              subst hr
              clear QB se
              go_upto_region 8 with (fail)
              go_quiet ((go_at_call 38; exact Calls.quiet_of (SA _).out))
              clear SA
              go_wp2
              go_ret
              exact ⟨rfl, below_drewN B7.out _⟩
          · have se : same x d = false := decide_eq_false he
            rw [se] at SA QB
            have NN := Lib.hid (NX.out (by rw [QB.out]; rfl))
            clear QB se he
            go_upto_region 8 with (fail)
            go_quiet ((go_at_call 38; exact Calls.quiet_of (SA _).out))
            clear SA
            go_wp2
            go_roundw
            case rel => exact ⟨i + 1, by omega, by go_num, NN.out, below_drewN W7.out _⟩
            case measure => first | (simp [intOf]; done) | (simp [intOf]; omega)
    · have li : ¬ (i : Int) < (nt.length : Int) := by omega
      have hr : r = -1 := by
        rw [RE.out]
        exact named_none (fun j hj => NO.out j (by omega))
      subst hr
      go_wp2
      go_ret
      exact ⟨rfl, BW.out⟩
end Go.Proofs.Ytiglakhfkgeefaa
