/-
What is proved here: what Match finds of a tree and itself. the law of a tree and itself, by a contract. what Match finds where modes are others, where the stock has more, and of a file whose names and bytes are the same in both trees (on lists alone).
-/
import Derived.Test.YtiglakhfkgeefaaAli
import Derived.Test.YtiglakhfkgeefaaPar
import Derived.Test.YtiglakhfkgeefaaRefK
import Derived.Test.YtiglakhfkgeefaaRkp
import Derived.Test.YtiglakhfkgeefaaBig
set_option linter.unusedSimpArgs false
set_option linter.unusedVariables false
namespace Go.Mat
open Go.Pth Go.Tre
theorem namesM_fold (f : Nat) : ∀ (l : List Nd) (N : Nat → List Bt), l.foldl nameStep N f = N f ++ (l.filter (fun x => decide (0 ≤ x.file ∧ x.file.toNat = f))).map Nd.path
  | [], N => by simp
  | x :: r, N => by
    rw [List.foldl_cons, namesM_fold f r]
    unfold nameStep
    by_cases h : 0 ≤ x.file
    · rw [if_pos h]
      by_cases e : f = x.file.toNat
      · rw [List.filter_cons_of_pos (by simp [h, e])]
        simp [e]
      · rw [List.filter_cons_of_neg (by simp [h, Ne.symm e])]
        simp [e]
    · rw [if_neg h, List.filter_cons_of_neg (by simp [h])]
theorem namesM_eq (ns : List Nd) (f : Nat) : namesM ns f = (ns.filter (fun x => decide (0 ≤ x.file ∧ x.file.toNat = f))).map Nd.path := by
  unfold namesM
  rw [namesM_fold]
  simp
theorem named_out (p : Bt) : ∀ (l : List Nd) (F : Bt → Option Int), p ∉ l.map Nd.path → l.foldl namedStep F p = F p
  | [], _, _ => rfl
  | x :: r, F, h => by
    rw [List.foldl_cons, named_out p r _ (fun hm => h (by rw [List.map_cons]; exact List.mem_cons_of_mem _ hm))]
    unfold namedStep
    split
    · exact updF_other (fun e => h (by simp [e]))
    · rfl
theorem named_in : ∀ (l : List Nd) (F : Bt → Option Int), (l.map Nd.path).Nodup → ∀ x ∈ l, 0 ≤ x.file → l.foldl namedStep F x.path = some x.file
  | [], _, _, _, h, _ => by cases h
  | y :: r, F, hn, x, hx, hf => by
    rw [List.map_cons, List.nodup_cons] at hn
    rw [List.foldl_cons]
    rcases List.mem_cons.1 hx with rfl | hx
    · rw [named_out _ r _ hn.1]
      unfold namedStep
      rw [if_pos hf]
      exact updF_same _ _ _
    · exact named_in r _ hn.2 x hx hf
theorem chain_nodup : ∀ (r : List Nd) (l : Bt), chain l r → (r.map Nd.path).Nodup
  | [], _, _ => List.nodup_nil
  | x :: r, l, h => by
    rw [List.map_cons, List.nodup_cons]
    refine ⟨fun hm => ?_, chain_nodup r _ h.2⟩
    obtain ⟨y, hy, e⟩ := List.mem_map.1 hm
    have := chain_all r x.path h.2 y hy
    rw [e, bl_irrefl] at this
    cases this
theorem pickF_first {named : Bt → Option Int} {row : List Int} {nm : List Bt} {f : Int} (hne : nm ≠ []) (hn : ∀ p ∈ nm, named p = some f) (hr : f ∈ row) : pickF named row nm = some f := by
  cases nm with
  | nil => exact absurd rfl hne
  | cons p r =>
    unfold pickF
    rw [hn p (List.mem_cons_self)]
    simp [hr]
theorem shelf_has (ds : List Bt) (hd : ∀ x ∈ ds, x.length ≤ 100000) (hn : ds.length ≤ 1000) : ∀ (i : Nat), i ≤ ds.length → ∀ j (hj : j < i) (hjl : j < ds.length), (j : Int) ∈ shelfP (txTo ds i) ds[j]
  | 0, _, _, h, _ => by omega
  | i + 1, hi, j, hj, hjl => by
    rw [txTo_succ ds i (by omega), shelfP_snoc]
    unfold shelfStep
    rw [txK_val i ds[i] (by omega) (hd _ (List.getElem_mem _))]
    by_cases e : ds[j] = ds[i]
    · rw [e, updF_same]
      by_cases ej : j = i
      · subst ej; simp
      · rw [← e]
        exact List.mem_append_left _ (shelf_has ds hd hn i (by omega) j (by omega) hjl)
    · rw [updF_other e]
      exact shelf_has ds hd hn i (by omega) j (by rcases Nat.lt_or_eq_of_le (Nat.le_of_lt_succ hj) with h | h; exact h; subst h; exact absurd rfl e) hjl
/-- the first pass, of a tree and itself -/
theorem self_pass (named : Bt → Option Int) (nm : Nat → List Bt) (stock : Bt → Option Int) (ds : List Bt) (hd : ∀ x ∈ ds, x.length ≤ 100000) (hn : ds.length ≤ 1000) (h1 : ∀ f, f < ds.length → nm f ≠ [] ∧ ∀ p ∈ nm f, named p = some (f : Int)) :
    ∀ i, i ≤ ds.length → (∀ j, j < i → (passM (skP named nm stock 0) (txTo ds i) (List.replicate ds.length z3, ⟨shelfP (txL ds), fun _ => none⟩)).1.getD j z3 = ((1, (j : Int), 0) : Sr)) ∧
      (∀ j, i ≤ j → (passM (skP named nm stock 0) (txTo ds i) (List.replicate ds.length z3, ⟨shelfP (txL ds), fun _ => none⟩)).1.getD j z3 = z3) ∧
      (∀ j (hj : j < ds.length), i ≤ j → (j : Int) ∈ (passM (skP named nm stock 0) (txTo ds i) (List.replicate ds.length z3, ⟨shelfP (txL ds), fun _ => none⟩)).2.F ds[j])
  | 0, _ => ⟨fun j hj => by omega, fun j _ => by
      show (List.replicate ds.length z3).getD j z3 = z3
      simp only [List.getD_eq_getElem?_getD, List.getElem?_replicate]
      split <;> rfl, fun j hj _ => shelf_has ds hd hn ds.length (Nat.le_refl _) j hj hj⟩
  | i + 1, hi => by
    obtain ⟨p1, p2, p3⟩ := self_pass named nm stock ds hd hn h1 i (by omega)
    have hil : i < ds.length := hi
    have hlen := passM_len (skP named nm stock 0) (txTo ds i) (List.replicate ds.length z3, ⟨shelfP (txL ds), fun _ => none⟩)
    rw [txTo_succ ds i hil, passM_snoc]
    generalize passM (skP named nm stock 0) (txTo ds i) (List.replicate ds.length z3, ⟨shelfP (txL ds), fun _ => none⟩) = st at *
    have hlen : st.1.length = ds.length := by rw [hlen]; simp
    have hx : (txK i ds[i]).1 = (i, ds[i]) := txK_val i ds[i] (by omega) (hd _ (List.getElem_mem _))
    have hpick : pickF named (st.2.F ds[i]) (nm i) = some (i : Int) := pickF_first (h1 i hil).1 (h1 i hil).2 (p3 i hil (Nat.le_refl _))
    have hstep : stepM (skP named nm stock 0) st (txK i ds[i]) = (st.1.set i (1, (i : Int), 0), keepS st.2 (i : Int) ds[i] (i : Int)) := by
      unfold stepM
      rw [hx]
      rw [if_pos (p2 i (Nat.le_refl _))]
      show (st.1.set i (seek1S (nm i) named st.2 (i : Int) ds[i]).1, (seek1S (nm i) named st.2 (i : Int) ds[i]).2) = _
      unfold seek1S
      rw [hpick]
    rw [hstep]
    refine ⟨fun j hj => ?_, fun j hj => ?_, fun j hj hij => ?_⟩
    · by_cases e : j = i
      · subst e
        simp [List.getD_eq_getElem?_getD, hlen, hil]
      · have := p1 j (by omega)
        simp only [List.getD_eq_getElem?_getD] at this ⊢
        rw [List.getElem?_set_ne (Ne.symm e)]
        exact this
    · have := p2 j (by omega)
      simp only [List.getD_eq_getElem?_getD] at this ⊢
      rw [List.getElem?_set_ne (by omega)]
      exact this
    · have h3 := p3 j hj (by omega)
      show (j : Int) ∈ updF st.2.F ds[i] (strikeN (st.2.F ds[i]) (i : Int)) ds[j]
      by_cases e : ds[j] = ds[i]
      · rw [e, updF_same]
        rw [e] at h3
        unfold strikeN
        rw [List.mem_filter]
        exact ⟨h3, by simp; omega⟩
      · rw [updF_other e]
        exact h3
theorem pass_skip (sk : MS → Nat → Bt → Sr × MS) : ∀ (xs : List TxK) (st : Mst), (∀ x ∈ xs, st.1.getD x.1.1 z3 ≠ z3) → passM sk xs st = st
  | [], _, _ => rfl
  | x :: r, st, h => by
    show passM sk r (stepM sk st x) = st
    have e : stepM sk st x = st := by unfold stepM; rw [if_neg (h x (List.mem_cons_self))]
    rw [e]
    exact pass_skip sk r st (fun y hy => h y (List.mem_cons_of_mem _ hy))
theorem txL_lt (ds : List Bt) (hn : ds.length ≤ 1000) : ∀ x ∈ txL ds, x.1.1 < ds.length := fun x hx => by
  unfold txL txTo at hx
  obtain ⟨j, hj, rfl⟩ := List.mem_map.1 hx
  have := List.mem_range.1 hj
  show min j 1000 < ds.length
  omega
theorem self_match (ns : List Nd) (fs : List Fl) (h : looseE ns fs = 0) (hn : fs.length ≤ 1000) (hd : ∀ x ∈ fs, x.data.length ≤ 100000) : (matchL ns fs ns fs []).1.length = fs.length ∧ ∀ j, j < fs.length → (matchL ns fs ns fs []).1.getD j z3 = ((1, (j : Int), 0) : Sr) := by
  have hw := loose_walk h
  obtain ⟨_, hb, hall⟩ := walk_file ns root [] 0 _ hw
  have hnd := chain_nodup ns [] (walkT_chain ns root [] 0 _ hw).1
  have e0 : (fs.map Fl.data).length = fs.length := by simp
  have h1 : ∀ f, f < (fs.map Fl.data).length → namesM ns f ≠ [] ∧ ∀ p ∈ namesM ns f, namedF ns p = some (f : Int) := fun f hf => by
    rw [e0] at hf
    rw [namesM_eq]
    constructor
    · obtain ⟨x, hx, e⟩ := hall (f : Int) (by omega) (by omega)
      intro he
      have : x.path ∈ (ns.filter (fun x => decide (0 ≤ x.file ∧ x.file.toNat = f))).map Nd.path := List.mem_map.2 ⟨x, List.mem_filter.2 ⟨hx, by simp; omega⟩, rfl⟩
      rw [he] at this
      cases this
    · intro p hp
      obtain ⟨x, hx, rfl⟩ := List.mem_map.1 hp
      obtain ⟨hx1, hx2⟩ := List.mem_filter.1 hx
      have hx2 : 0 ≤ x.file ∧ x.file.toNat = f := by simpa using hx2
      unfold namedF
      rw [named_in ns _ hnd x hx1 hx2.1]
      congr 1
      omega
  have hd' : ∀ x ∈ fs.map Fl.data, x.length ≤ 100000 := fun x hx => by obtain ⟨y, hy, rfl⟩ := List.mem_map.1 hx; exact hd y hy
  have hs := self_pass (namedF ns) (namesM ns) (stockF []) (fs.map Fl.data) hd' (by rw [e0]; exact hn) h1 _ (Nat.le_refl _)
  have ht : txTo (fs.map Fl.data) (fs.map Fl.data).length = txL (fs.map Fl.data) := rfl
  have p1 := hs.1
  rw [ht, e0] at p1
  have hlen : (passM (skP (namedF ns) (namesM ns) (stockF []) 0) (txL (fs.map Fl.data)) (List.replicate fs.length z3, ⟨shelfP (txL (fs.map Fl.data)), fun _ => none⟩)).1.length = fs.length := by rw [passM_len]; simp
  have hne : ∀ x ∈ txL (fs.map Fl.data), (passM (skP (namedF ns) (namesM ns) (stockF []) 0) (txL (fs.map Fl.data)) (List.replicate fs.length z3, ⟨shelfP (txL (fs.map Fl.data)), fun _ => none⟩)).1.getD x.1.1 z3 ≠ z3 := fun x hx => by
    have hl := txL_lt _ (by rw [e0]; exact hn) x hx
    rw [e0] at hl
    rw [p1 _ hl]
    intro e
    have := congrArg (fun y : Sr => y.1) e
    simp [z3] at this
  have e1 : matchL ns fs ns fs [] = passM (skP (namedF ns) (namesM ns) (stockF []) 0) (txL (fs.map Fl.data)) (List.replicate fs.length z3, ⟨shelfP (txL (fs.map Fl.data)), fun _ => none⟩) := by
    unfold matchL
    simp only [passes]
    rw [pass_skip (skP (namedF ns) (namesM ns) (stockF []) 1) _ _ hne, pass_skip (skP (namedF ns) (namesM ns) (stockF []) 2) _ _ hne]
  rw [e1]
  exact ⟨hlen, p1⟩
end Go.Mat
set_option linter.unusedSimpArgs false
set_option linter.unusedVariables false
namespace Go.Proofs.Ytiglakhfkgeefaa
open Go.Pth Go.Tre Go.RowKit Go.Word Go.Shelf Go.Mat
attribute [local go_sem] len_stg
theorem check_loose {ns : List Nd} {fs : List Fl} (h : checkE ns fs = 0) : looseE ns fs = 0 := by
  unfold checkE at h
  split at h
  · cases h
  · split at h
    · rename_i h1
      exact h
    · rename_i h1
      exact Decidable.not_not.1 h1
theorem ok_of_check {sn tn : List Nd} {sf tf : List Fl} {ls : List Bt} (h : pairE sn sf tn tf = 0) (hs : Small sn sf) (ht : Small tn tf) (h5 : ls.length ≤ 70000) (h6 : ∀ x ∈ ls, x.length ≤ 100000) : MOk sn sf tn tf ls := by
  have hc : checkE sn sf = 0 ∧ checkE tn tf = 0 := by
    unfold pairE at h
    by_cases e : checkE sn sf = 0
    · rw [if_pos e] at h
      exact ⟨e, h⟩
    · rw [if_neg e] at h
      exact absurd h e
  obtain ⟨_, f1, _⟩ := walk_file sn root [] 0 _ (loose_walk (check_loose hc.1))
  obtain ⟨_, f2, _⟩ := walk_file tn root [] 0 _ (loose_walk (check_loose hc.2))
  obtain ⟨s1, s2, _, s4⟩ := hs
  obtain ⟨t1, t2, _, t4⟩ := ht
  exact ⟨by omega, by omega, by omega, by omega, h5, fun x hx => by have := f1 x hx; omega, fun x hx => by have := s4 x hx; omega, fun x hx => by have := f2 x hx; omega, h6, fun x hx => by have := t4 x hx; omega⟩
theorem pair_self {ns : List Nd} {fs : List Fl} (h : checkE ns fs = 0) : pairE ns fs ns fs = 0 := by unfold pairE; rw [if_pos h]; exact h
theorem self_e {ns : List Nd} {fs : List Fl} (h : checkE ns fs = 0) (hn : fs.length ≤ 1000) (hd : ∀ x ∈ fs, x.data.length ≤ 100000) : matchE ns fs ns fs [] = 0 := by
  obtain ⟨h1, h2⟩ := self_match ns fs (check_loose h) hn hd
  unfold matchE
  rw [if_neg (by rw [pair_self h]; simp), if_neg (by decide), if_neg]
  intro hm
  obtain ⟨j, hj, e⟩ := List.getElem_of_mem hm
  have := h2 j (by omega)
  rw [List.getD_eq_getElem?_getD, List.getElem?_eq_getElem hj, Option.getD_some, e] at this
  have := congrArg (fun y : Sr => y.1) this
  simp [z3] at this
set_option maxRecDepth 100000 in
set_option maxHeartbeats 4000000 in
theorem selflaw_any (NA FA : Option Addr) (nc mc : Nat) (ns : List Nd) (fs : List Fl) (w : World) (hN : NodesAt w NA ns) (hF : FilesAt w FA fs)
    (h1 : ns.length ≤ 140737488355328) (h2 : fs.length ≤ 140737488355328) (h3 : ∀ x ∈ ns, x.path.length ≤ 140737488355328) (h4 : ∀ x ∈ fs, x.data.length ≤ 140737488355328) :
    Calls Try.prog 5 #[.agg #[.slice NA ns.length nc, .slice FA fs.length mc]] w fun e w' => e = .returned (.bool true) ∧ Below w.heap.size w w' := by
  have B0 : Below w.heap.size w (w.alloc (.cells #[.slice NA ns.length nc, .slice FA fs.length mc] 25)) := (Below.refl _ _).alloc (Nat.le_refl _) _
  have L0 := lies_new w 25 #[.slice NA ns.length nc, .slice FA fs.length mc]
  have A0 := Lib.hid (alive_any (w.alloc (.cells #[.slice NA ns.length nc, .slice FA fs.length mc] 25)))
  have BG := Lib.hid (fun (W : World) (h : Below w.heap.size w W) => big_any NA FA nc mc ns fs W (nodesAt_below hN h) (filesAt_below hF h) h1 h2 h3 h4)
  have CK := Lib.hid (fun (W : World) (h : Below w.heap.size w W) (hs : Small ns fs) => check_ref NA FA nc mc ns fs W (nodesAt_below hN h) (filesAt_below hF h) (fun x hx => by have := hs.2.2.1 x hx; omega))
  have MT := Lib.hid (fun (W : World) (h : Below w.heap.size w W) (hs : Small ns fs) => match_any NA FA NA FA none nc mc nc mc 0 ns ns fs fs [] W (nodesAt_below hN h) (filesAt_below hF h) (nodesAt_below hN h) (filesAt_below hF h) (fun i hi => by cases hi) (fun x hx => by have := hs.2.2.1 x hx; omega) (fun x hx => by have := hs.2.2.1 x hx; omega) (fun x hx => by cases hx) (fun he _ => ok_of_check he hs hs (by simp) (fun x hx => by cases hx)))
  have SE := Lib.hid (fun (h : checkE ns fs = 0) (hs : Small ns fs) => self_e h (by have := hs.2.1; omega) (fun x hx => by have := hs.2.2.2 x hx; omega))
  have SM := Lib.hid (fun (h : checkE ns fs = 0) (hs : Small ns fs) => self_match ns fs (check_loose h) (by have := hs.2.1; omega) (fun x hx => by have := hs.2.2.2 x hx; omega))
  obtain ⟨n, hn⟩ : ∃ n, n = ns.length := ⟨_, rfl⟩
  obtain ⟨m, hm⟩ : ∃ m, m = fs.length := ⟨_, rfl⟩
  rw [← hn, ← hm] at B0 L0 A0 BG CK MT ⊢
  rw [← hm] at SM
  have ZZ := Lib.hid (num_any 0)
  have HS := Lib.hid (show ∀ b : Bool, (b = false → Small ns fs) → b = false → m ≤ 1000 from fun b h1 h2 => by have := (h1 h2).2.1; omega)
  have LB := Lib.hid L0
  have BB := Lib.hid B0
  clear hN hF h1 h2 h3 h4 hn hm L0 B0
  go_enter Try.func5, Try.ntmps5
  go_upto_region 3 with (first
    | (go_at_call 9; (with_reducible refine A0.out.mono ?_); rintro e w1 ⟨rfl, hb⟩; have B1 := Lib.hid (BB.out.trans (hb.mono BB.out.size)); have l1 := lies_below LB.out hb (lies_lt LB.out); have L1 := Lib.hid l1; have x0 := lies_cell l1 0; have x1 := lies_cell l1 1; simp only [List.getElem?_toArray, List.getElem?_cons_zero, List.getElem?_cons_succ] at x0 x1; clear hb l1)
    | (go_at_call 24; (with_reducible refine (BG.out _ B1.out).mono ?_); rintro e w2 ⟨⟨b, rfl, hs⟩, hb⟩; have B2 := Lib.hid (B1.out.trans (hb.mono B1.out.size)); have l2 := lies_below L1.out hb (lies_lt L1.out); have L2 := Lib.hid l2; have y0 := lies_cell l2 0; have y1 := lies_cell l2 1; have SB := Lib.hid hs; simp only [List.getElem?_toArray, List.getElem?_cons_zero, List.getElem?_cons_succ] at y0 y1; clear hb l2 hs))
  cases b with
  | true =>
    go_wp2
    go_ret
    exact ⟨rfl, B2.out⟩
  | false =>
    have HSm := Lib.hid (SB.out rfl)
    have M1 := Lib.hid (HS.out false SB.out rfl)
    obtain ⟨E, hE⟩ : ∃ E, E = checkE ns fs := ⟨_, rfl⟩
    have C2 := Lib.hid (CK.out w2 B2.out HSm.out)
    rw [← hE] at C2
    by_cases he : E = 0
    · subst he
      have CE := Lib.hid hE.symm
      clear hE
      go_upto_region 5 with (first
        | (go_at_call 20; (with_reducible refine C2.out.mono ?_); rintro e w3 ⟨rfl, hb⟩; have B3 := Lib.hid (B2.out.trans (hb.mono B2.out.size)); have l3 := lies_below L2.out hb (lies_lt L2.out); have L3 := Lib.hid l3; have u0 := lies_cell l3 0; have u1 := lies_cell l3 1; simp only [List.getElem?_toArray, List.getElem?_cons_zero, List.getElem?_cons_succ] at u0 u1; clear hb l3))
      have M3 := MT.out w3 B3.out HSm.out
      rw [SE.out CE.out HSm.out] at M3
      have M3 := Lib.hid (show Calls Try.prog 13 #[.agg #[.slice NA n nc, .slice FA m mc], .agg #[.slice NA n nc, .slice FA m mc], .slice none 0 0] w3 _ from M3)
      go_wp2_with (first
        | (go_at_call 13; (with_reducible refine M3.out.mono ?_); rintro e w4 ⟨v, rfl, _, hv, hb⟩; obtain ⟨g, rfl, hs⟩ := hv rfl; have SR := Lib.hid hs; have B4 := Lib.hid (B3.out.trans (hb.mono B3.out.size)); have l4 := lies_below L3.out hb (lies_lt L3.out); have v1 := lies_cell l4 1; simp only [List.getElem?_toArray, List.getElem?_cons_zero, List.getElem?_cons_succ] at v1; clear hb hs hv l4)
        | (go_at_call 18; (with_reducible refine (ZZ.out _).mono ?_); rintro e w5 ⟨rfl, rfl⟩))
      have SL := Lib.hid (SM.out CE.out HSm.out)
      go_loopw [7] (fun v7 wr => ∃ i : Nat, i ≤ m ∧ v7 = .int .i64 (i : Int) ∧ wr = w4) (fun v7 _ => m - (intOf v7).toNat)
      case atStart => exact ⟨0, Nat.zero_le _, rfl, rfl⟩
      case round =>
        obtain ⟨i, hi, rfl, rfl⟩ := hrel
        by_cases hlt : i < m
        · have li : (i : Int) < (m : Int) := by omega
          have w1' : wrap64 ((i : Int) + 1) = ((i + 1 : Nat) : Int) := by rw [wrap_big _ (by have := M1.out; omega)]; omega
          have hil : i < (matchL ns fs ns fs []).1.length := by have := SL.out.1; omega
          have hx := SL.out.2 i hlt
          rw [List.getD_eq_getElem?_getD, List.getElem?_eq_getElem hil, Option.getD_some] at hx
          have hr := srcR_at SR.out i hil
          rw [hx] at hr
          have LR := Lib.hid (show wr.rangeAt g (i * 3) [.int .i64 1, .int .i64 (i : Int), .int .i64 0] from hr)
          clear hr hx hil v1 x0 x1 y0 y1 u0 u1
          go_wp2_with (refine wpList_load_mid rfl 54 _ rfl g (i * 3) rfl [.int .i64 1, .int .i64 (i : Int), .int .i64 0] _ LR.out Try.underlying54 rfl (by kernel_rfl) ?_)
          go_roundw
          case rel => exact ⟨i + 1, by omega, by rw [w1'], trivial⟩
          case measure =>
            rw [w1']
            show m - (((i + 1 : Nat) : Int)).toNat < m - ((i : Int)).toNat
            omega
        · have li : ¬ (i : Int) < (m : Int) := by omega
          go_wp2
          go_ret
          exact ⟨rfl, B4.out⟩
    · clear hE
      go_wp2_with (go_at_call 20; (with_reducible refine C2.out.mono ?_); rintro e w3 ⟨rfl, hb⟩; have B3 := Lib.hid (B2.out.trans (hb.mono B2.out.size)); clear hb)
      go_ret
      exact ⟨rfl, B3.out⟩
end Go.Proofs.Ytiglakhfkgeefaa
set_option linter.unusedSimpArgs false
set_option linter.unusedVariables false
namespace Go.Mat
open Go.Pth Go.Tre Go.Proofs.Ytiglakhfkgeefaa
/-! modes -/
def remode (g : Int → Int) (fs : List Fl) : List Fl := fs.map fun x => (⟨g x.mode, x.data⟩ : Fl)
theorem remode_len (g : Int → Int) (fs : List Fl) : (remode g fs).length = fs.length := by simp [remode]
theorem remode_data (g : Int → Int) (fs : List Fl) : (remode g fs).map Fl.data = fs.map Fl.data := by
  simp [remode, Function.comp_def]
theorem great_remode (g : Int → Int) (fs : List Fl) : anyGreat (remode g fs) = anyGreat fs := by
  simp [anyGreat, remode, Function.comp_def]
theorem wrong_remode (g : Int → Int) (fs : List Fl) (hg : ∀ x ∈ fs, okMode (g x.mode) = true) : anyWrong (remode g fs) = false := by
  unfold anyWrong remode
  rw [List.any_map, List.any_eq_false]
  intro x hx
  simp [hg x hx]
theorem loose_remode {ns : List Nd} {fs : List Fl} (g : Int → Int) (h : looseE ns fs = 0) (hg : ∀ x ∈ fs, okMode (g x.mode) = true) : looseE ns (remode g fs) = 0 := by
  unfold looseE at h ⊢
  have e1 : tooB ns.length (remode g fs) = tooB ns.length fs := by unfold tooB; rw [remode_len, great_remode]
  rw [e1]
  split at h
  · cases h
  · rename_i h1
    rw [if_neg h1]
    split at h
    · rename_i h2
      rw [if_pos]
      unfold looseB at h2 ⊢
      split at h2
      · cases h2
      · rename_i k hk
        simp only [Bool.and_eq_true, decide_eq_true_eq] at h2 ⊢
        exact ⟨by rw [remode_len]; exact h2.1, by rw [wrong_remode g fs hg]; rfl⟩
    · cases h
theorem check_remode {ns : List Nd} {fs : List Fl} (g : Int → Int) (h : checkE ns fs = 0) (hg : ∀ x ∈ fs, okMode (g x.mode) = true) : checkE ns (remode g fs) = 0 := by
  unfold checkE at h ⊢
  split at h
  · cases h
  · rename_i h1
    rw [if_neg h1]
    by_cases e : looseE ns fs = 0
    · rw [if_neg (by simp [e])] at h
      rw [if_neg (by simp [loose_remode g e hg])]
      exact h
    · rw [if_pos e] at h
      exact absurd h e
theorem okMode_iff (m : Int) : okMode m = true ↔ 0 ≤ m ∧ m ≤ 511 := by unfold okMode; simp
theorem loose_okMode {ns : List Nd} {fs : List Fl} (h : looseE ns fs = 0) : ∀ x ∈ fs, okMode x.mode = true := by
  unfold looseE at h
  split at h
  · cases h
  · split at h
    · rename_i h2
      unfold looseB at h2
      split at h2
      · cases h2
      · simp only [Bool.and_eq_true, Bool.not_eq_true'] at h2
        intro x hx
        have := List.any_eq_false.1 h2.2 x hx
        simpa using this
    · cases h
theorem matchL_remode (g h : Int → Int) (sn tn : List Nd) (sf tf : List Fl) (ls : List Bt) : matchL sn (remode g sf) tn (remode h tf) ls = matchL sn sf tn tf ls := by
  unfold matchL
  rw [remode_data, remode_data, remode_len]
def pairZ (sn : List Nd) (sf : List Fl) (tn : List Nd) (tf : List Fl) : Prop := checkE sn sf = 0 ∧ checkE tn tf = 0
/-- the error that Match tells, without the package's own names for it -/
def errM (sn : List Nd) (sf : List Fl) (tn : List Nd) (tf : List Fl) (ls : List Bt) : Int :=
  if (if checkE sn sf = 0 then checkE tn tf else checkE sn sf) ≠ 0 then (if checkE sn sf = 0 then checkE tn tf else checkE sn sf) else if Stk.checkL (ls.map List.length) ≠ 0 then Stk.checkL (ls.map List.length) else if z3 ∈ (matchL sn sf tn tf ls).1 then 32 else 0
theorem errM_zero {sn tn : List Nd} {sf tf : List Fl} {ls : List Bt} : errM sn sf tn tf ls = 0 ↔ checkE sn sf = 0 ∧ checkE tn tf = 0 ∧ Stk.checkL (ls.map List.length) = 0 ∧ z3 ∉ (matchL sn sf tn tf ls).1 := by
  unfold errM
  by_cases a : checkE sn sf = 0
  · by_cases b : checkE tn tf = 0
    · by_cases c : Stk.checkL (ls.map List.length) = 0
      · by_cases d : z3 ∈ (matchL sn sf tn tf ls).1
        · simp [a, b, c, d]
        · simp [a, b, c, d]
      · simp [a, b, c]
    · simp [a, b]
  · simp [a]
/-! the stock -/
theorem stock_first (ls : List Bt) (hn : ls.length ≤ 100000) (l : Bt) : ∀ k, k ≤ ls.length → 
    (∀ z, placesP ls (bkTo ls.length k) l = some z → ∃ i : Nat, z = (i : Int) ∧ ls.length - k ≤ i ∧ i < ls.length ∧ ls.getD i [] = l ∧ ∀ j, ls.length - k ≤ j → j < i → ls.getD j [] ≠ l) ∧
    (placesP ls (bkTo ls.length k) l = none → ∀ j, ls.length - k ≤ j → j < ls.length → ls.getD j [] ≠ l)
  | 0, _ => ⟨fun z h => (by cases h), fun _ j h1 h2 => (by omega)⟩
  | k + 1, hk => by
    obtain ⟨h1, h2⟩ := stock_first ls hn l k (by omega)
    rw [bkTo_succ, placesP_snoc]
    unfold placeStep
    rw [bkK_val _ (by omega)]
    by_cases e : ls.getD (ls.length - 1 - k) [] = l
    · rw [e, updF_same]
      refine ⟨fun z hz => ?_, fun hz => by cases hz⟩
      injection hz with hz
      exact ⟨ls.length - 1 - k, hz.symm, by omega, by omega, e, fun j g1 g2 => by omega⟩
    · rw [updF_other (Ne.symm e)]
      refine ⟨fun z hz => ?_, fun hz j g1 g2 => ?_⟩
      · obtain ⟨i, q1, q2, q3, q4, q5⟩ := h1 z hz
        refine ⟨i, q1, by omega, q3, q4, fun j g1 g2 => ?_⟩
        by_cases ej : j = ls.length - 1 - k
        · subst ej; exact e
        · exact q5 j (by omega) g2
      · by_cases ej : j = ls.length - 1 - k
        · subst ej; exact e
        · exact h2 hz j (by omega) g2
theorem stockF_some {ls : List Bt} (hn : ls.length ≤ 100000) {l : Bt} {z : Int} (h : stockF ls l = some z) : ∃ i : Nat, z = (i : Int) ∧ i < ls.length ∧ ls.getD i [] = l ∧ ∀ j, j < i → ls.getD j [] ≠ l := by
  obtain ⟨i, h1, _, h2, h3, h4⟩ := (stock_first ls hn l ls.length (Nat.le_refl _)).1 z h
  exact ⟨i, h1, h2, h3, fun j hj => h4 j (by omega) hj⟩
theorem stockF_none {ls : List Bt} (hn : ls.length ≤ 100000) {l : Bt} (h : stockF ls l = none) : ∀ j, j < ls.length → ls.getD j [] ≠ l := fun j hj =>
  (stock_first ls hn l ls.length (Nat.le_refl _)).2 h j (by omega) hj
theorem stockF_of {ls : List Bt} (hn : ls.length ≤ 100000) {l : Bt} {i : Nat} (hi : i < ls.length) (h : ls.getD i [] = l) (hf : ∀ j, j < i → ls.getD j [] ≠ l) : stockF ls l = some (i : Int) := by
  cases e : stockF ls l with
  | none => exact absurd h (stockF_none hn e i hi)
  | some z =>
    obtain ⟨k, rfl, h1, h2, h3⟩ := stockF_some hn e
    rcases Nat.lt_trichotomy k i with g | g | g
    · exact absurd h2 (hf k g)
    · subst g; rfl
    · exact absurd h (h3 i g)
theorem stockF_more (ls more : List Bt) (hn : (ls ++ more).length ≤ 100000) (l : Bt) (z : Int) (h : stockF ls l = some z) : stockF (ls ++ more) l = some z := by
  have hl : ls.length ≤ 100000 := by rw [List.length_append] at hn; omega
  obtain ⟨i, rfl, h1, h2, h3⟩ := stockF_some hl h
  have ap : ∀ j, j < ls.length → (ls ++ more).getD j [] = ls.getD j [] := fun j hj => by
    rw [List.getD_eq_getElem?_getD, List.getElem?_append_left hj, ← List.getD_eq_getElem?_getD]
  refine stockF_of hn (by rw [List.length_append]; omega) (by rw [ap i h1]; exact h2) (fun j hj => by rw [ap j (by omega)]; exact h3 j hj)
/-- what a pass does not come to stays -/
theorem pass_out (sk : MS → Nat → Bt → Sr × MS) (i : Nat) : ∀ (xs : List TxK) (st : Mst), (∀ x ∈ xs, x.1.1 ≠ i) → (passM sk xs st).1.getD i z3 = st.1.getD i z3
  | [], _, _ => rfl
  | x :: r, st, h => by
    show (passM sk r (stepM sk st x)).1.getD i z3 = _
    rw [pass_out sk i r _ (fun y hy => h y (List.mem_cons_of_mem _ hy))]
    unfold stepM
    split
    · simp only [List.getD_eq_getElem?_getD]
      rw [List.getElem?_set_ne (h x (List.mem_cons_self))]
    · rfl
/-- what is found stays -/
theorem pass_stays (sk : MS → Nat → Bt → Sr × MS) (i : Nat) : ∀ (xs : List TxK) (st : Mst), st.1.getD i z3 ≠ z3 → (passM sk xs st).1.getD i z3 = st.1.getD i z3
  | [], _, _ => rfl
  | x :: r, st, h => by
    have e : (stepM sk st x).1.getD i z3 = st.1.getD i z3 := by
      unfold stepM
      split
      · rename_i hx
        have : x.1.1 ≠ i := fun e => h (by rw [← e]; exact hx)
        simp only [List.getD_eq_getElem?_getD]
        rw [List.getElem?_set_ne this]
      · rfl
    show (passM sk r (stepM sk st x)).1.getD i z3 = _
    rw [pass_stays sk i r _ (by rw [e]; exact h), e]
theorem getD_mem_z3 {l : List Sr} {i : Nat} (h : i < l.length) (e : l.getD i z3 = z3) : z3 ∈ l := by
  rw [List.getD_eq_getElem?_getD, List.getElem?_eq_getElem h, Option.getD_some] at e
  rw [← e]
  exact List.getElem_mem h
theorem pass_stock (named : Bt → Option Int) (nm : Nat → List Bt) (f g : Bt → Option Int) (hfg : ∀ l z, f l = some z → g l = some z) : ∀ (xs : List TxK) (st : Mst), (∀ x ∈ xs, x.1.1 < st.1.length) → (xs.map fun x => x.1.1).Nodup → z3 ∉ (passM (skP named nm f 2) xs st).1 → passM (skP named nm g 2) xs st = passM (skP named nm f 2) xs st
  | [], _, _, _, _ => rfl
  | x :: r, st, hl, hnd, hz => by
    rw [List.map_cons, List.nodup_cons] at hnd
    have hstep : stepM (skP named nm g 2) st x = stepM (skP named nm f 2) st x := by
      unfold stepM
      by_cases e : st.1.getD x.1.1 z3 = z3
      · rw [if_pos e, if_pos e]
        have hs : seek3S g st.2 (x.1.1 : Int) x.1.2 = seek3S f st.2 (x.1.1 : Int) x.1.2 := by
          unfold seek3S
          cases h1 : st.2.f1 x.1.2 with
          | some at_ => rfl
          | none =>
            cases h2 : f x.1.2 with
            | some at_ => rw [hfg _ _ h2]
            | none =>
              refine absurd ?_ hz
              have hst : stepM (skP named nm f 2) st x = (st.1.set x.1.1 z3, st.2) := by
                unfold stepM
                rw [if_pos e]
                show (st.1.set x.1.1 (seek3S f st.2 (x.1.1 : Int) x.1.2).1, (seek3S f st.2 (x.1.1 : Int) x.1.2).2) = _
                unfold seek3S
                rw [h1, h2]
              have hlx := hl x (List.mem_cons_self)
              have ho : (passM (skP named nm f 2) r (stepM (skP named nm f 2) st x)).1.getD x.1.1 z3 = z3 := by
                rw [pass_out _ x.1.1 r _ (fun y hy he => hnd.1 (by rw [← he]; exact List.mem_map_of_mem (f := fun x : TxK => x.1.1) hy)), hst]
                simp [List.getD_eq_getElem?_getD, hlx]
              exact getD_mem_z3 (by rw [passM_len]; exact hlx) ho
        show (st.1.set x.1.1 (seek3S g st.2 (x.1.1 : Int) x.1.2).1, (seek3S g st.2 (x.1.1 : Int) x.1.2).2) = (st.1.set x.1.1 (seek3S f st.2 (x.1.1 : Int) x.1.2).1, (seek3S f st.2 (x.1.1 : Int) x.1.2).2)
        rw [hs]
      · rw [if_neg e, if_neg e]
    show passM (skP named nm g 2) r (stepM (skP named nm g 2) st x) = passM (skP named nm f 2) r (stepM (skP named nm f 2) st x)
    rw [hstep]
    refine pass_stock named nm f g hfg r _ (fun y hy => ?_) hnd.2 hz
    have := hl y (List.mem_cons_of_mem _ hy)
    unfold stepM
    split <;> simpa using this
theorem txL_nodup (ds : List Bt) (hn : ds.length ≤ 1000) : ((txL ds).map fun x => x.1.1).Nodup := by
  have e : (txL ds).map (fun x => x.1.1) = List.range ds.length := by
    unfold txL txTo
    rw [List.map_map]
    conv => rhs; rw [← List.map_id (List.range ds.length)]
    refine List.map_congr_left (fun i hi => ?_)
    have := List.mem_range.1 hi
    show min i 1000 = i
    omega
  rw [e]
  exact List.nodup_range
theorem matchL_more (sn tn : List Nd) (sf tf : List Fl) (ls more : List Bt) (hn : (ls ++ more).length ≤ 100000) (ht : tf.length ≤ 1000) (hz : z3 ∉ (matchL sn sf tn tf ls).1) : matchL sn sf tn tf (ls ++ more) = matchL sn sf tn tf ls := by
  unfold matchL at hz ⊢
  simp only [passes] at hz ⊢
  have e : ∀ (stock : Bt → Option Int) (xs : List TxK) (st : Mst), passM (skP (namedF sn) (namesM tn) stock 0) xs st = passM (skP (namedF sn) (namesM tn) (fun _ => none) 0) xs st := fun _ _ _ => rfl
  have e1 : ∀ (stock : Bt → Option Int) (xs : List TxK) (st : Mst), passM (skP (namedF sn) (namesM tn) stock 1) xs st = passM (skP (namedF sn) (namesM tn) (fun _ => none) 1) xs st := fun _ _ _ => rfl
  rw [e (stockF ls), e1 (stockF ls)] at hz ⊢
  rw [e (stockF (ls ++ more)), e1 (stockF (ls ++ more))]
  refine pass_stock _ _ _ _ (fun l z h => stockF_more ls more hn l z h) _ _ (fun x hx => ?_) (txL_nodup _ (by simpa using ht)) hz
  rw [passM_len, passM_len]
  have := txL_lt _ (by simpa using ht) x hx
  simpa using this
theorem chkL_sum : ∀ (ns : List Nat) (a : Nat), (∀ n ∈ ns, n ≤ 8192) → a + ns.sum ≤ 65536 → Stk.chkL a ns = 0
  | [], _, _, _ => rfl
  | n :: r, a, h, hs => by
    rw [List.sum_cons] at hs
    unfold Stk.chkL
    rw [if_neg (by have := h n (List.mem_cons_self); omega)]
    exact chkL_sum r (a + n) (fun m hm => h m (List.mem_cons_of_mem _ hm)) (by omega)
theorem chkL_each : ∀ (ns : List Nat) (a : Nat), Stk.chkL a ns = 0 → ∀ n ∈ ns, n ≤ 8192
  | [], _, _, n, h => by cases h
  | m :: r, a, h, n, hn => by
    unfold Stk.chkL at h
    split at h
    · cases h
    · rename_i h1
      rcases List.mem_cons.1 hn with rfl | hn
      · omega
      · exact chkL_each r _ h n hn
theorem errM_more {sn tn : List Nd} {sf tf : List Fl} {ls more : List Bt} (h : errM sn sf tn tf ls = 0) (hn : ls.length ≤ 100) (hm : more.length ≤ 20) (h1 : ∀ x ∈ more, x.length ≤ 1000) (hs : (ls.map List.length).sum + (more.map List.length).sum ≤ 65536) (ht : tf.length ≤ 1000) :
    errM sn sf tn tf (ls ++ more) = 0 ∧ matchL sn sf tn tf (ls ++ more) = matchL sn sf tn tf ls := by
  obtain ⟨a, b, c, d⟩ := errM_zero.1 h
  have hl : (ls ++ more).length ≤ 120 := by rw [List.length_append]; omega
  have e := matchL_more sn tn sf tf ls more (by omega) ht d
  refine ⟨errM_zero.2 ⟨a, b, ?_, by rw [e]; exact d⟩, e⟩
  unfold Stk.checkL at c ⊢
  rw [if_neg (by rw [List.length_map]; omega)]
  rw [if_neg (by rw [List.length_map]; omega)] at c
  refine chkL_sum _ 0 (fun n hn => ?_) (by rw [List.map_append, List.sum_append]; omega)
  rw [List.map_append] at hn
  rcases List.mem_append.1 hn with hn | hn
  · exact chkL_each _ _ c n hn
  · obtain ⟨x, hx, rfl⟩ := List.mem_map.1 hn
    have := h1 x hx
    omega
theorem errM_remode {sn tn : List Nd} {sf tf : List Fl} {ls : List Bt} (g k : Int → Int) (h : errM sn sf tn tf ls = 0) (hg : ∀ x ∈ sf, okMode (g x.mode) = true) (hk : ∀ x ∈ tf, okMode (k x.mode) = true) : errM sn (remode g sf) tn (remode k tf) ls = 0 := by
  obtain ⟨a, b, c, d⟩ := errM_zero.1 h
  exact errM_zero.2 ⟨check_remode g a hg, check_remode k b hk, c, by rw [matchL_remode]; exact d⟩
/-! a file whose names and bytes are the same in both trees -/
theorem namesF_M (ns : List Nd) (f : Nat) : namesF ns (f : Int) = namesM ns f := by
  rw [namesM_eq]
  unfold namesF
  congr 1
  refine List.filter_congr (fun x _ => ?_)
  apply decide_eq_decide.2
  constructor
  · rintro ⟨h1, h2⟩; omega
  · rintro ⟨h1, h2⟩; omega
theorem named_some {ns : List Nd} (hnd : (ns.map Nd.path).Nodup) : ∀ {p : Bt} {g : Int}, namedF ns p = some g → ∃ x ∈ ns, x.path = p ∧ x.file = g ∧ 0 ≤ g := by
  intro p g h
  by_cases hp : p ∈ ns.map Nd.path
  · obtain ⟨x, hx, rfl⟩ := List.mem_map.1 hp
    by_cases hf : 0 ≤ x.file
    · have := named_in ns (fun _ => none) hnd x hx hf
      unfold namedF at h
      rw [this] at h
      injection h with h
      exact ⟨x, hx, rfl, h, by omega⟩
    · exfalso
      have hno : ∀ (l : List Nd) (F : Bt → Option Int), (l.map Nd.path).Nodup → ∀ x ∈ l, ¬ 0 ≤ x.file → l.foldl namedStep F x.path = F x.path := by
        intro l
        induction l with
        | nil => intro F _ x hx; cases hx
        | cons y r ih =>
          intro F hn x hx hf
          rw [List.map_cons, List.nodup_cons] at hn
          rw [List.foldl_cons]
          rcases List.mem_cons.1 hx with rfl | hx
          · rw [named_out _ r _ hn.1]
            unfold namedStep
            rw [if_neg hf]
          · rw [ih _ hn.2 x hx hf]
            unfold namedStep
            split
            · exact updF_other (fun e => hn.1 (by rw [← e]; exact List.mem_map_of_mem hx))
            · rfl
      unfold namedF at h
      rw [hno ns _ hnd x hx hf] at h
      cases h
  · unfold namedF at h
    rw [named_out p ns _ hp] at h
    cases h
theorem pickF_name {named : Bt → Option Int} {row : List Int} : ∀ {nm : List Bt} {fr : Int}, pickF named row nm = some fr → ∃ p ∈ nm, named p = some fr
  | [], _, h => by cases h
  | p :: r, fr, h => by
    unfold pickF at h
    cases hp : named p with
    | none =>
      rw [hp] at h
      obtain ⟨q, h1, h2⟩ := pickF_name h
      exact ⟨q, List.mem_cons_of_mem _ h1, h2⟩
    | some f =>
      rw [hp] at h
      simp only at h
      split at h
      · injection h with h
        subst h
        exact ⟨p, List.mem_cons_self, hp⟩
      · obtain ⟨q, h1, h2⟩ := pickF_name h
        exact ⟨q, List.mem_cons_of_mem _ h1, h2⟩
/-- where a file stays free till its turn comes, it is kept -/
theorem free_pass (named : Bt → Option Int) (nm : Nat → List Bt) (stock : Bt → Option Int) (ds : List Bt) (hd : ∀ x ∈ ds, x.length ≤ 100000) (hn : ds.length ≤ 1000) (f : Nat) (hf : f < ds.length) (g : Int) (F0 : Bt → List Int)
    (hF : g ∈ F0 ds[f]) (hoff : ∀ j, j < f → ∀ p ∈ nm j, named p ≠ some g) :
    ∀ i, i ≤ f → (∀ j, i ≤ j → (passM (skP named nm stock 0) (txTo ds i) (List.replicate ds.length z3, ⟨F0, fun _ => none⟩)).1.getD j z3 = z3) ∧
      g ∈ (passM (skP named nm stock 0) (txTo ds i) (List.replicate ds.length z3, ⟨F0, fun _ => none⟩)).2.F ds[f]
  | 0, _ => ⟨fun j _ => by
      show (List.replicate ds.length z3).getD j z3 = z3
      simp only [List.getD_eq_getElem?_getD, List.getElem?_replicate]
      split <;> rfl, hF⟩
  | i + 1, hi => by
    obtain ⟨p2, p3⟩ := free_pass named nm stock ds hd hn f hf g F0 hF hoff i (by omega)
    have hil : i < ds.length := by omega
    rw [txTo_succ ds i hil, passM_snoc]
    generalize passM (skP named nm stock 0) (txTo ds i) (List.replicate ds.length z3, ⟨F0, fun _ => none⟩) = st at *
    have hx : (txK i ds[i]).1 = (i, ds[i]) := txK_val i ds[i] (by omega) (hd _ (List.getElem_mem _))
    have hstep : stepM (skP named nm stock 0) st (txK i ds[i]) = (st.1.set i (seek1S (nm i) named st.2 (i : Int) ds[i]).1, (seek1S (nm i) named st.2 (i : Int) ds[i]).2) := by
      unfold stepM
      rw [hx]
      rw [if_pos (p2 i (Nat.le_refl _))]
      rfl
    rw [hstep]
    refine ⟨fun j hj => ?_, ?_⟩
    · have := p2 j (by omega)
      simp only [List.getD_eq_getElem?_getD] at this ⊢
      rw [List.getElem?_set_ne (by omega)]
      exact this
    · unfold seek1S
      cases hp : pickF named (st.2.F ds[i]) (nm i) with
      | none => exact p3
      | some fr =>
        show g ∈ updF st.2.F ds[i] (strikeN (st.2.F ds[i]) fr) ds[f]
        by_cases e : ds[f] = ds[i]
        · rw [e, updF_same]
          rw [e] at p3
          unfold strikeN
          rw [List.mem_filter]
          refine ⟨p3, ?_⟩
          have hne : g ≠ fr := fun e2 => by
            subst e2
            obtain ⟨p, hp1, hp2⟩ := pickF_name hp
            exact hoff i (by omega) p hp1 hp2
          simpa using hne
        · rw [updF_other e]
          exact p3
theorem txTo_split (ds : List Bt) (f : Nat) (hf : f < ds.length) : ∃ r, txL ds = txTo ds f ++ txK f ds[f] :: r := by
  refine ⟨(List.range (ds.length - f - 1)).map fun j => txK (f + 1 + j) (ds.getD (f + 1 + j) []), ?_⟩
  unfold txL
  have e : txTo ds (f + 1) = txTo ds f ++ [txK f ds[f]] := txTo_succ ds f hf
  have e2 : txTo ds ds.length = txTo ds (f + 1) ++ (List.range (ds.length - f - 1)).map fun j => txK (f + 1 + j) (ds.getD (f + 1 + j) []) := by
    unfold txTo
    conv => lhs; rw [show ds.length = (f + 1) + (ds.length - f - 1) by omega, List.range_add, List.map_append, List.map_map]
    rfl
  rw [e2, e, List.append_assoc]
  rfl
theorem stays_match (sn tn : List Nd) (sf tf : List Fl) (ls : List Bt) (hs : looseE sn sf = 0) (ht : looseE tn tf = 0) (hn : tf.length ≤ 1000) (hn2 : sf.length ≤ 1000) (hd : ∀ x ∈ tf, x.data.length ≤ 100000) (hd2 : ∀ x ∈ sf, x.data.length ≤ 100000)
    (f g : Nat) (hf : f < tf.length) (hg : g < sf.length) (hnm : namesM sn g = namesM tn f) (hda : sf[g].data = tf[f].data) : (matchL sn sf tn tf ls).1.getD f z3 = ((1, (g : Int), 0) : Sr) := by
  have hws := loose_walk hs
  have hwt := loose_walk ht
  have hns := chain_nodup sn [] (walkT_chain sn root [] 0 _ hws).1
  have hnt := chain_nodup tn [] (walkT_chain tn root [] 0 _ hwt).1
  have e0 : (tf.map Fl.data).length = tf.length := by simp
  have hft : f < (tf.map Fl.data).length := by omega
  have hgs : g < (sf.map Fl.data).length := by simpa using hg
  have hdd : (tf.map Fl.data)[f] = tf[f].data := by simp
  have hdt : ∀ x ∈ tf.map Fl.data, x.length ≤ 100000 := fun x hx => by obtain ⟨y, hy, rfl⟩ := List.mem_map.1 hx; exact hd y hy
  have hds : ∀ x ∈ sf.map Fl.data, x.length ≤ 100000 := fun x hx => by obtain ⟨y, hy, rfl⟩ := List.mem_map.1 hx; exact hd2 y hy
  have hF : (g : Int) ∈ shelfP (txL (sf.map Fl.data)) (tf.map Fl.data)[f] := by
    have := shelf_has (sf.map Fl.data) hds (by simpa using hn2) (sf.map Fl.data).length (Nat.le_refl _) g hgs hgs
    rw [hdd, ← hda]
    have e1 : (sf.map Fl.data)[g] = sf[g].data := by simp
    rw [e1] at this
    exact this
  have inM : ∀ (ns : List Nd) (j : Nat) (p : Bt), p ∈ namesM ns j ↔ ∃ x ∈ ns, (0 ≤ x.file ∧ x.file.toNat = j) ∧ x.path = p := fun ns j p => by
    rw [namesM_eq, List.mem_map]
    constructor
    · rintro ⟨x, hx, e⟩
      rw [List.mem_filter] at hx
      exact ⟨x, hx.1, by simpa using hx.2, e⟩
    · rintro ⟨x, hx, h, e⟩
      exact ⟨x, List.mem_filter.2 ⟨hx, by simpa using h⟩, e⟩
  have uniq : ∀ x ∈ tn, ∀ y ∈ tn, x.path = y.path → x = y := fun x hx y hy e => by
    obtain ⟨i, hi, rfl⟩ := List.getElem_of_mem hx
    obtain ⟨j, hj, rfl⟩ := List.getElem_of_mem hy
    have := loose_inj ht i j hi hj e
    subst this
    rfl
  have hoff : ∀ j, j < f → ∀ p ∈ namesM tn j, namedF sn p ≠ some (g : Int) := fun j hj p hp hng => by
    obtain ⟨x, hx, hxp, hxf, _⟩ := named_some hns hng
    have hpg : p ∈ namesM sn g := (inM sn g p).2 ⟨x, hx, ⟨by omega, by omega⟩, hxp⟩
    rw [hnm] at hpg
    obtain ⟨y, hy, hyf, hyp⟩ := (inM tn f p).1 hpg
    obtain ⟨z, hz, hzf, hzp⟩ := (inM tn j p).1 hp
    have := uniq y hy z hz (by rw [hyp, hzp])
    subst this
    omega
  obtain ⟨q2, q3⟩ := free_pass (namedF sn) (namesM tn) (stockF ls) (tf.map Fl.data) hdt (by omega) f hft (g : Int) _ hF hoff f (Nat.le_refl _)
  obtain ⟨r, hr⟩ := txTo_split (tf.map Fl.data) f hft
  obtain ⟨_, _, hall⟩ := walk_file tn root [] 0 _ hwt
  obtain ⟨x, hx, hxf⟩ := hall (f : Int) (by omega) (by omega)
  have hne : namesM tn f ≠ [] := fun e => by
    have : x.path ∈ namesM tn f := (inM tn f x.path).2 ⟨x, hx, ⟨by omega, by omega⟩, rfl⟩
    rw [e] at this
    cases this
  have hnamed : ∀ p ∈ namesM tn f, namedF sn p = some (g : Int) := fun p hp => by
    rw [← hnm] at hp
    obtain ⟨y, hy, hyf, rfl⟩ := (inM sn g p).1 hp
    unfold namedF
    rw [named_in sn _ hns y hy hyf.1]
    congr 1
    omega
  have e1 : (passM (skP (namedF sn) (namesM tn) (stockF ls) 0) (txL (tf.map Fl.data)) (List.replicate tf.length z3, ⟨shelfP (txL (sf.map Fl.data)), fun _ => none⟩)).1.getD f z3 = ((1, (g : Int), 0) : Sr) := by
    rw [hr]
    rw [e0] at q2 q3
    have ea : ∀ (xs ys : List TxK) (st : Mst) sk, passM sk (xs ++ ys) st = passM sk ys (passM sk xs st) := fun xs ys st sk => by unfold passM; rw [List.foldl_append]
    rw [ea]
    have hlen := passM_len (skP (namedF sn) (namesM tn) (stockF ls) 0) (txTo (tf.map Fl.data) f) (List.replicate tf.length z3, ⟨shelfP (txL (sf.map Fl.data)), fun _ => none⟩)
    generalize passM (skP (namedF sn) (namesM tn) (stockF ls) 0) (txTo (tf.map Fl.data) f) (List.replicate tf.length z3, ⟨shelfP (txL (sf.map Fl.data)), fun _ => none⟩) = st at *
    have hlen : st.1.length = tf.length := by rw [hlen]; simp
    have hx : (txK f (tf.map Fl.data)[f]).1 = (f, (tf.map Fl.data)[f]) := txK_val f _ (by omega) (hdt _ (List.getElem_mem _))
    have hpick : pickF (namedF sn) (st.2.F (tf.map Fl.data)[f]) (namesM tn f) = some (g : Int) := pickF_first hne hnamed q3
    have hstep : stepM (skP (namedF sn) (namesM tn) (stockF ls) 0) st (txK f (tf.map Fl.data)[f]) = (st.1.set f (1, (g : Int), 0), keepS st.2 (f : Int) (tf.map Fl.data)[f] (g : Int)) := by
      unfold stepM
      rw [hx]
      rw [if_pos (q2 f (Nat.le_refl _))]
      show (st.1.set f (seek1S (namesM tn f) (namedF sn) st.2 (f : Int) (tf.map Fl.data)[f]).1, (seek1S (namesM tn f) (namedF sn) st.2 (f : Int) (tf.map Fl.data)[f]).2) = _
      unfold seek1S
      rw [hpick]
    have e2 : (stepM (skP (namedF sn) (namesM tn) (stockF ls) 0) st (txK f (tf.map Fl.data)[f])).1.getD f z3 = ((1, (g : Int), 0) : Sr) := by
      rw [hstep]
      simp [List.getD_eq_getElem?_getD, hlen, hf]
    show (passM (skP (namedF sn) (namesM tn) (stockF ls) 0) r (stepM (skP (namedF sn) (namesM tn) (stockF ls) 0) st (txK f (tf.map Fl.data)[f]))).1.getD f z3 = _
    rw [pass_stays _ f r _ (by rw [e2]; intro e; have := congrArg (fun y : Sr => y.1) e; simp [z3] at this), e2]
  unfold matchL
  simp only [passes]
  have hz : ((1, (g : Int), 0) : Sr) ≠ z3 := fun e => by have := congrArg (fun y : Sr => y.1) e; simp [z3] at this
  have e3 : (passM (skP (namedF sn) (namesM tn) (stockF ls) 1) (txL (tf.map Fl.data)) (passM (skP (namedF sn) (namesM tn) (stockF ls) 0) (txL (tf.map Fl.data)) (List.replicate tf.length z3, ⟨shelfP (txL (sf.map Fl.data)), fun _ => none⟩))).1.getD f z3 = ((1, (g : Int), 0) : Sr) := by
    rw [pass_stays _ f _ _ (by rw [e1]; exact hz), e1]
  rw [pass_stays _ f _ _ (by rw [e3]; exact hz), e3]
end Go.Mat
