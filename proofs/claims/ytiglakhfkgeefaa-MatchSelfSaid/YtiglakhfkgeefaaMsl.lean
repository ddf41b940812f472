/-
What is proved here: what Match finds of a tree and itself. the law of a tree and itself, by a contract.
-/
import Derived.Test.YtiglakhfkgeefaaAli
import Derived.Test.YtiglakhfkgeefaaPar
import Derived.Test.YtiglakhfkgeefaaRefV
import Derived.Test.YtiglakhfkgeefaaRkp
import Derived.Test.YtiglakhfkgeefaaBig
set_option linter.unusedSimpArgs false
set_option linter.unusedVariables false
namespace Go.Mat
open Go.Pth Go.Tre
theorem namesM_fold (f : Nat) : ∀ (l : List Nd) (N : Nat → List Bt), l.foldl nameStep N f = N f ++ (l.filter (fun x => decide (0 ≤ x.file ∧ x.file.toNat = f))).map Nd.path
  | [], N => by simp
  | x :: r, N => by
    rw [List.foldl_cons, namesM_fold f r]
    unfold nameStep
    by_cases h : 0 ≤ x.file
    · rw [if_pos h]
      by_cases e : f = x.file.toNat
      · rw [List.filter_cons_of_pos (by simp [h, e])]
        simp [e]
      · rw [List.filter_cons_of_neg (by simp [h, Ne.symm e])]
        simp [e]
    · rw [if_neg h, List.filter_cons_of_neg (by simp [h])]
theorem namesM_eq (ns : List Nd) (f : Nat) : namesM ns f = (ns.filter (fun x => decide (0 ≤ x.file ∧ x.file.toNat = f))).map Nd.path := by
  unfold namesM
  rw [namesM_fold]
  simp
theorem named_out (p : Bt) : ∀ (l : List Nd) (F : Bt → Option Int), p ∉ l.map Nd.path → l.foldl namedStep F p = F p
  | [], _, _ => rfl
  | x :: r, F, h => by
    rw [List.foldl_cons, named_out p r _ (fun hm => h (by rw [List.map_cons]; exact List.mem_cons_of_mem _ hm))]
    unfold namedStep
    split
    · exact updF_other (fun e => h (by simp [e]))
    · rfl
theorem named_in : ∀ (l : List Nd) (F : Bt → Option Int), (l.map Nd.path).Nodup → ∀ x ∈ l, 0 ≤ x.file → l.foldl namedStep F x.path = some x.file
  | [], _, _, _, h, _ => by cases h
  | y :: r, F, hn, x, hx, hf => by
    rw [List.map_cons, List.nodup_cons] at hn
    rw [List.foldl_cons]
    rcases List.mem_cons.1 hx with rfl | hx
    · rw [named_out _ r _ hn.1]
      unfold namedStep
      rw [if_pos hf]
      exact updF_same _ _ _
    · exact named_in r _ hn.2 x hx hf
theorem chain_nodup : ∀ (r : List Nd) (l : Bt), chain l r → (r.map Nd.path).Nodup
  | [], _, _ => List.nodup_nil
  | x :: r, l, h => by
    rw [List.map_cons, List.nodup_cons]
    refine ⟨fun hm => ?_, chain_nodup r _ h.2⟩
    obtain ⟨y, hy, e⟩ := List.mem_map.1 hm
    have := chain_all r x.path h.2 y hy
    rw [e, bl_irrefl] at this
    cases this
theorem pickF_first {named : Bt → Option Int} {row : List Int} {nm : List Bt} {f : Int} (hne : nm ≠ []) (hn : ∀ p ∈ nm, named p = some f) (hr : f ∈ row) : pickF named row nm = some f := by
  cases nm with
  | nil => exact absurd rfl hne
  | cons p r =>
    unfold pickF
    rw [hn p (List.mem_cons_self)]
    simp [hr]
theorem shelf_has (ds : List Bt) (hd : ∀ x ∈ ds, x.length ≤ 100000) (hn : ds.length ≤ 1000) : ∀ (i : Nat), i ≤ ds.length → ∀ j (hj : j < i) (hjl : j < ds.length), (j : Int) ∈ shelfP (txTo ds i) ds[j]
  | 0, _, _, h, _ => by omega
  | i + 1, hi, j, hj, hjl => by
    rw [txTo_succ ds i (by omega), shelfP_snoc]
    unfold shelfStep
    rw [txK_val i ds[i] (by omega) (hd _ (List.getElem_mem _))]
    by_cases e : ds[j] = ds[i]
    · rw [e, updF_same]
      by_cases ej : j = i
      · subst ej; simp
      · rw [← e]
        exact List.mem_append_left _ (shelf_has ds hd hn i (by omega) j (by omega) hjl)
    · rw [updF_other e]
      exact shelf_has ds hd hn i (by omega) j (by rcases Nat.lt_or_eq_of_le (Nat.le_of_lt_succ hj) with h | h; exact h; subst h; exact absurd rfl e) hjl
/-- the first pass, of a tree and itself -/
theorem self_pass (named : Bt → Option Int) (nm : Nat → List Bt) (stock : Bt → Option Int) (ds : List Bt) (hd : ∀ x ∈ ds, x.length ≤ 100000) (hn : ds.length ≤ 1000) (h1 : ∀ f, f < ds.length → nm f ≠ [] ∧ ∀ p ∈ nm f, named p = some (f : Int)) :
    ∀ i, i ≤ ds.length → (∀ j, j < i → (passM (skP named nm stock 0) (txTo ds i) (List.replicate ds.length z3, ⟨shelfP (txL ds), fun _ => none⟩)).1.getD j z3 = ((1, (j : Int), 0) : Sr)) ∧
      (∀ j, i ≤ j → (passM (skP named nm stock 0) (txTo ds i) (List.replicate ds.length z3, ⟨shelfP (txL ds), fun _ => none⟩)).1.getD j z3 = z3) ∧
      (∀ j (hj : j < ds.length), i ≤ j → (j : Int) ∈ (passM (skP named nm stock 0) (txTo ds i) (List.replicate ds.length z3, ⟨shelfP (txL ds), fun _ => none⟩)).2.F ds[j])
  | 0, _ => ⟨fun j hj => by omega, fun j _ => by
      show (List.replicate ds.length z3).getD j z3 = z3
      simp only [List.getD_eq_getElem?_getD, List.getElem?_replicate]
      split <;> rfl, fun j hj _ => shelf_has ds hd hn ds.length (Nat.le_refl _) j hj hj⟩
  | i + 1, hi => by
    obtain ⟨p1, p2, p3⟩ := self_pass named nm stock ds hd hn h1 i (by omega)
    have hil : i < ds.length := hi
    have hlen := passM_len (skP named nm stock 0) (txTo ds i) (List.replicate ds.length z3, ⟨shelfP (txL ds), fun _ => none⟩)
    rw [txTo_succ ds i hil, passM_snoc]
    generalize passM (skP named nm stock 0) (txTo ds i) (List.replicate ds.length z3, ⟨shelfP (txL ds), fun _ => none⟩) = st at *
    have hlen : st.1.length = ds.length := by rw [hlen]; simp
    have hx : (txK i ds[i]).1 = (i, ds[i]) := txK_val i ds[i] (by omega) (hd _ (List.getElem_mem _))
    have hpick : pickF named (st.2.F ds[i]) (nm i) = some (i : Int) := pickF_first (h1 i hil).1 (h1 i hil).2 (p3 i hil (Nat.le_refl _))
    have hstep : stepM (skP named nm stock 0) st (txK i ds[i]) = (st.1.set i (1, (i : Int), 0), keepS st.2 (i : Int) ds[i] (i : Int)) := by
      unfold stepM
      rw [hx]
      rw [if_pos (p2 i (Nat.le_refl _))]
      show (st.1.set i (seek1S (nm i) named st.2 (i : Int) ds[i]).1, (seek1S (nm i) named st.2 (i : Int) ds[i]).2) = _
      unfold seek1S
      rw [hpick]
    rw [hstep]
    refine ⟨fun j hj => ?_, fun j hj => ?_, fun j hj hij => ?_⟩
    · by_cases e : j = i
      · subst e
        simp [List.getD_eq_getElem?_getD, hlen, hil]
      · have := p1 j (by omega)
        simp only [List.getD_eq_getElem?_getD] at this ⊢
        rw [List.getElem?_set_ne (Ne.symm e)]
        exact this
    · have := p2 j (by omega)
      simp only [List.getD_eq_getElem?_getD] at this ⊢
      rw [List.getElem?_set_ne (by omega)]
      exact this
    · have h3 := p3 j hj (by omega)
      show (j : Int) ∈ updF st.2.F ds[i] (strikeN (st.2.F ds[i]) (i : Int)) ds[j]
      by_cases e : ds[j] = ds[i]
      · rw [e, updF_same]
        rw [e] at h3
        unfold strikeN
        rw [List.mem_filter]
        exact ⟨h3, by simp; omega⟩
      · rw [updF_other e]
        exact h3
theorem pass_skip (sk : MS → Nat → Bt → Sr × MS) : ∀ (xs : List TxK) (st : Mst), (∀ x ∈ xs, st.1.getD x.1.1 z3 ≠ z3) → passM sk xs st = st
  | [], _, _ => rfl
  | x :: r, st, h => by
    show passM sk r (stepM sk st x) = st
    have e : stepM sk st x = st := by unfold stepM; rw [if_neg (h x (List.mem_cons_self))]
    rw [e]
    exact pass_skip sk r st (fun y hy => h y (List.mem_cons_of_mem _ hy))
theorem txL_lt (ds : List Bt) (hn : ds.length ≤ 1000) : ∀ x ∈ txL ds, x.1.1 < ds.length := fun x hx => by
  unfold txL txTo at hx
  obtain ⟨j, hj, rfl⟩ := List.mem_map.1 hx
  have := List.mem_range.1 hj
  show min j 1000 < ds.length
  omega
theorem self_match (ns : List Nd) (fs : List Fl) (h : looseE ns fs = 0) (hn : fs.length ≤ 1000) (hd : ∀ x ∈ fs, x.data.length ≤ 100000) : (matchL ns fs ns fs []).1.length = fs.length ∧ ∀ j, j < fs.length → (matchL ns fs ns fs []).1.getD j z3 = ((1, (j : Int), 0) : Sr) := by
  have hw := loose_walk h
  obtain ⟨_, hb, hall⟩ := walk_file ns root [] 0 _ hw
  have hnd := chain_nodup ns [] (walkT_chain ns root [] 0 _ hw).1
  have e0 : (fs.map Fl.data).length = fs.length := by simp
  have h1 : ∀ f, f < (fs.map Fl.data).length → namesM ns f ≠ [] ∧ ∀ p ∈ namesM ns f, namedF ns p = some (f : Int) := fun f hf => by
    rw [e0] at hf
    rw [namesM_eq]
    constructor
    · obtain ⟨x, hx, e⟩ := hall (f : Int) (by omega) (by omega)
      intro he
      have : x.path ∈ (ns.filter (fun x => decide (0 ≤ x.file ∧ x.file.toNat = f))).map Nd.path := List.mem_map.2 ⟨x, List.mem_filter.2 ⟨hx, by simp; omega⟩, rfl⟩
      rw [he] at this
      cases this
    · intro p hp
      obtain ⟨x, hx, rfl⟩ := List.mem_map.1 hp
      obtain ⟨hx1, hx2⟩ := List.mem_filter.1 hx
      have hx2 : 0 ≤ x.file ∧ x.file.toNat = f := by simpa using hx2
      unfold namedF
      rw [named_in ns _ hnd x hx1 hx2.1]
      congr 1
      omega
  have hd' : ∀ x ∈ fs.map Fl.data, x.length ≤ 100000 := fun x hx => by obtain ⟨y, hy, rfl⟩ := List.mem_map.1 hx; exact hd y hy
  have hs := self_pass (namedF ns) (namesM ns) (stockF []) (fs.map Fl.data) hd' (by rw [e0]; exact hn) h1 _ (Nat.le_refl _)
  have ht : txTo (fs.map Fl.data) (fs.map Fl.data).length = txL (fs.map Fl.data) := rfl
  have p1 := hs.1
  rw [ht, e0] at p1
  have hlen : (passM (skP (namedF ns) (namesM ns) (stockF []) 0) (txL (fs.map Fl.data)) (List.replicate fs.length z3, ⟨shelfP (txL (fs.map Fl.data)), fun _ => none⟩)).1.length = fs.length := by rw [passM_len]; simp
  have hne : ∀ x ∈ txL (fs.map Fl.data), (passM (skP (namedF ns) (namesM ns) (stockF []) 0) (txL (fs.map Fl.data)) (List.replicate fs.length z3, ⟨shelfP (txL (fs.map Fl.data)), fun _ => none⟩)).1.getD x.1.1 z3 ≠ z3 := fun x hx => by
    have hl := txL_lt _ (by rw [e0]; exact hn) x hx
    rw [e0] at hl
    rw [p1 _ hl]
    intro e
    have := congrArg (fun y : Sr => y.1) e
    simp [z3] at this
  have e1 : matchL ns fs ns fs [] = passM (skP (namedF ns) (namesM ns) (stockF []) 0) (txL (fs.map Fl.data)) (List.replicate fs.length z3, ⟨shelfP (txL (fs.map Fl.data)), fun _ => none⟩) := by
    unfold matchL
    simp only [passes]
    rw [pass_skip (skP (namedF ns) (namesM ns) (stockF []) 1) _ _ hne, pass_skip (skP (namedF ns) (namesM ns) (stockF []) 2) _ _ hne]
  rw [e1]
  exact ⟨hlen, p1⟩
end Go.Mat
set_option linter.unusedSimpArgs false
set_option linter.unusedVariables false
namespace Go.Proofs.Ytiglakhfkgeefaa
open Go.Pth Go.Tre Go.RowKit Go.Word Go.Shelf Go.Mat
attribute [local go_sem] len_stg
theorem check_loose {ns : List Nd} {fs : List Fl} (h : checkE ns fs = 0) : looseE ns fs = 0 := by
  unfold checkE at h
  split at h
  · cases h
  · split at h
    · rename_i h1
      exact h
    · rename_i h1
      exact Decidable.not_not.1 h1
theorem ok_of_check {sn tn : List Nd} {sf tf : List Fl} {ls : List Bt} (h : pairE sn sf tn tf = 0) (hs : Small sn sf) (ht : Small tn tf) (h5 : ls.length ≤ 70000) (h6 : ∀ x ∈ ls, x.length ≤ 100000) : MOk sn sf tn tf ls := by
  have hc : checkE sn sf = 0 ∧ checkE tn tf = 0 := by
    unfold pairE at h
    by_cases e : checkE sn sf = 0
    · rw [if_pos e] at h
      exact ⟨e, h⟩
    · rw [if_neg e] at h
      exact absurd h e
  obtain ⟨_, f1, _⟩ := walk_file sn root [] 0 _ (loose_walk (check_loose hc.1))
  obtain ⟨_, f2, _⟩ := walk_file tn root [] 0 _ (loose_walk (check_loose hc.2))
  obtain ⟨s1, s2, _, s4⟩ := hs
  obtain ⟨t1, t2, _, t4⟩ := ht
  exact ⟨by omega, by omega, by omega, by omega, h5, fun x hx => by have := f1 x hx; omega, fun x hx => by have := s4 x hx; omega, fun x hx => by have := f2 x hx; omega, h6, fun x hx => by have := t4 x hx; omega⟩
theorem pair_self {ns : List Nd} {fs : List Fl} (h : checkE ns fs = 0) : pairE ns fs ns fs = 0 := by unfold pairE; rw [if_pos h]; exact h
theorem self_e {ns : List Nd} {fs : List Fl} (h : checkE ns fs = 0) (hn : fs.length ≤ 1000) (hd : ∀ x ∈ fs, x.data.length ≤ 100000) : matchE ns fs ns fs [] = 0 := by
  obtain ⟨h1, h2⟩ := self_match ns fs (check_loose h) hn hd
  unfold matchE
  rw [if_neg (by rw [pair_self h]; simp), if_neg (by decide), if_neg]
  intro hm
  obtain ⟨j, hj, e⟩ := List.getElem_of_mem hm
  have := h2 j (by omega)
  rw [List.getD_eq_getElem?_getD, List.getElem?_eq_getElem hj, Option.getD_some, e] at this
  have := congrArg (fun y : Sr => y.1) this
  simp [z3] at this
set_option maxRecDepth 100000 in
set_option maxHeartbeats 4000000 in
theorem selflaw_any (NA FA : Option Addr) (nc mc : Nat) (ns : List Nd) (fs : List Fl) (w : World) (hN : NodesAt w NA ns) (hF : FilesAt w FA fs)
    (h1 : ns.length ≤ 140737488355328) (h2 : fs.length ≤ 140737488355328) (h3 : ∀ x ∈ ns, x.path.length ≤ 140737488355328) (h4 : ∀ x ∈ fs, x.data.length ≤ 140737488355328) :
    Calls Try.prog 5 #[.agg #[.slice NA ns.length nc, .slice FA fs.length mc]] w fun e w' => e = .returned (.bool true) ∧ Below w.heap.size w w' := by
  have B0 : Below w.heap.size w (w.alloc (.cells #[.slice NA ns.length nc, .slice FA fs.length mc] 25)) := (Below.refl _ _).alloc (Nat.le_refl _) _
  have L0 := lies_new w 25 #[.slice NA ns.length nc, .slice FA fs.length mc]
  have A0 := Lib.hid (alive_any (w.alloc (.cells #[.slice NA ns.length nc, .slice FA fs.length mc] 25)))
  have BG := Lib.hid (fun (W : World) (h : Below w.heap.size w W) => big_any NA FA nc mc ns fs W (nodesAt_below hN h) (filesAt_below hF h) h1 h2 h3 h4)
  have CK := Lib.hid (fun (W : World) (h : Below w.heap.size w W) (hs : Small ns fs) => check_ref NA FA nc mc ns fs W (nodesAt_below hN h) (filesAt_below hF h) (fun x hx => by have := hs.2.2.1 x hx; omega))
  have MT := Lib.hid (fun (W : World) (h : Below w.heap.size w W) (hs : Small ns fs) => match_any NA FA NA FA none nc mc nc mc 0 ns ns fs fs [] W (nodesAt_below hN h) (filesAt_below hF h) (nodesAt_below hN h) (filesAt_below hF h) (fun i hi => by cases hi) (fun x hx => by have := hs.2.2.1 x hx; omega) (fun x hx => by have := hs.2.2.1 x hx; omega) (fun x hx => by cases hx) (fun he _ => ok_of_check he hs hs (by simp) (fun x hx => by cases hx)))
  have SE := Lib.hid (fun (h : checkE ns fs = 0) (hs : Small ns fs) => self_e h (by have := hs.2.1; omega) (fun x hx => by have := hs.2.2.2 x hx; omega))
  have SM := Lib.hid (fun (h : checkE ns fs = 0) (hs : Small ns fs) => self_match ns fs (check_loose h) (by have := hs.2.1; omega) (fun x hx => by have := hs.2.2.2 x hx; omega))
  obtain ⟨n, hn⟩ : ∃ n, n = ns.length := ⟨_, rfl⟩
  obtain ⟨m, hm⟩ : ∃ m, m = fs.length := ⟨_, rfl⟩
  rw [← hn, ← hm] at B0 L0 A0 BG CK MT ⊢
  rw [← hm] at SM
  have ZZ := Lib.hid (num_any 0)
  have HS := Lib.hid (show ∀ b : Bool, (b = false → Small ns fs) → b = false → m ≤ 1000 from fun b h1 h2 => by have := (h1 h2).2.1; omega)
  have LB := Lib.hid L0
  have BB := Lib.hid B0
  clear hN hF h1 h2 h3 h4 hn hm L0 B0
  go_enter Try.func5, Try.ntmps5
  go_upto_region 3 with (first
    | (go_at_call 9; (with_reducible refine A0.out.mono ?_); rintro e w1 ⟨rfl, hb⟩; have B1 := Lib.hid (BB.out.trans (hb.mono BB.out.size)); have l1 := lies_below LB.out hb (lies_lt LB.out); have L1 := Lib.hid l1; have x0 := lies_cell l1 0; have x1 := lies_cell l1 1; simp only [List.getElem?_toArray, List.getElem?_cons_zero, List.getElem?_cons_succ] at x0 x1; clear hb l1)
    | (go_at_call 24; (with_reducible refine (BG.out _ B1.out).mono ?_); rintro e w2 ⟨⟨b, rfl, hs⟩, hb⟩; have B2 := Lib.hid (B1.out.trans (hb.mono B1.out.size)); have l2 := lies_below L1.out hb (lies_lt L1.out); have L2 := Lib.hid l2; have y0 := lies_cell l2 0; have y1 := lies_cell l2 1; have SB := Lib.hid hs; simp only [List.getElem?_toArray, List.getElem?_cons_zero, List.getElem?_cons_succ] at y0 y1; clear hb l2 hs))
  cases b with
  | true =>
    go_wp2
    go_ret
    exact ⟨rfl, B2.out⟩
  | false =>
    have HSm := Lib.hid (SB.out rfl)
    have M1 := Lib.hid (HS.out false SB.out rfl)
    obtain ⟨E, hE⟩ : ∃ E, E = checkE ns fs := ⟨_, rfl⟩
    have C2 := Lib.hid (CK.out w2 B2.out HSm.out)
    rw [← hE] at C2
    by_cases he : E = 0
    · subst he
      have CE := Lib.hid hE.symm
      clear hE
      go_upto_region 5 with (first
        | (go_at_call 20; (with_reducible refine C2.out.mono ?_); rintro e w3 ⟨rfl, hb⟩; have B3 := Lib.hid (B2.out.trans (hb.mono B2.out.size)); have l3 := lies_below L2.out hb (lies_lt L2.out); have L3 := Lib.hid l3; have u0 := lies_cell l3 0; have u1 := lies_cell l3 1; simp only [List.getElem?_toArray, List.getElem?_cons_zero, List.getElem?_cons_succ] at u0 u1; clear hb l3))
      have M3 := MT.out w3 B3.out HSm.out
      rw [SE.out CE.out HSm.out] at M3
      have M3 := Lib.hid (show Calls Try.prog 13 #[.agg #[.slice NA n nc, .slice FA m mc], .agg #[.slice NA n nc, .slice FA m mc], .slice none 0 0] w3 _ from M3)
      go_wp2_with (first
        | (go_at_call 13; (with_reducible refine M3.out.mono ?_); rintro e w4 ⟨v, rfl, _, hv, hb⟩; obtain ⟨g, rfl, hs⟩ := hv rfl; have SR := Lib.hid hs; have B4 := Lib.hid (B3.out.trans (hb.mono B3.out.size)); have l4 := lies_below L3.out hb (lies_lt L3.out); have v1 := lies_cell l4 1; simp only [List.getElem?_toArray, List.getElem?_cons_zero, List.getElem?_cons_succ] at v1; clear hb hs hv l4)
        | (go_at_call 18; (with_reducible refine (ZZ.out _).mono ?_); rintro e w5 ⟨rfl, rfl⟩))
      have SL := Lib.hid (SM.out CE.out HSm.out)
      go_loopw [7] (fun v7 wr => ∃ i : Nat, i ≤ m ∧ v7 = .int .i64 (i : Int) ∧ wr = w4) (fun v7 _ => m - (intOf v7).toNat)
      case atStart => exact ⟨0, Nat.zero_le _, rfl, rfl⟩
      case round =>
        obtain ⟨i, hi, rfl, rfl⟩ := hrel
        by_cases hlt : i < m
        · have li : (i : Int) < (m : Int) := by omega
          have w1' : wrap64 ((i : Int) + 1) = ((i + 1 : Nat) : Int) := by rw [wrap_big _ (by have := M1.out; omega)]; omega
          have hil : i < (matchL ns fs ns fs []).1.length := by have := SL.out.1; omega
          have hx := SL.out.2 i hlt
          rw [List.getD_eq_getElem?_getD, List.getElem?_eq_getElem hil, Option.getD_some] at hx
          have hr := srcR_at SR.out i hil
          rw [hx] at hr
          have LR := Lib.hid (show wr.rangeAt g (i * 3) [.int .i64 1, .int .i64 (i : Int), .int .i64 0] from hr)
          clear hr hx hil v1 x0 x1 y0 y1 u0 u1
          go_wp2_with (refine wpList_load_mid rfl 54 _ rfl g (i * 3) rfl [.int .i64 1, .int .i64 (i : Int), .int .i64 0] _ LR.out Try.underlying54 rfl (by kernel_rfl) ?_)
          go_roundw
          case rel => exact ⟨i + 1, by omega, by rw [w1'], trivial⟩
          case measure =>
            rw [w1']
            show m - (((i + 1 : Nat) : Int)).toNat < m - ((i : Int)).toNat
            omega
        · have li : ¬ (i : Int) < (m : Int) := by omega
          go_wp2
          go_ret
          exact ⟨rfl, B4.out⟩
    · clear hE
      go_wp2_with (go_at_call 20; (with_reducible refine C2.out.mono ?_); rintro e w3 ⟨rfl, hb⟩; have B3 := Lib.hid (B2.out.trans (hb.mono B2.out.size)); clear hb)
      go_ret
      exact ⟨rfl, B3.out⟩
end Go.Proofs.Ytiglakhfkgeefaa
