/-
What is proved here: package comp's search in depth, by a contract.
-/
import Derived.Test.YtnbjfmkckebfgaaGreatTke
import Derived.Test.YtnbjfmkckebfgaaGreatJumps
set_option linter.unusedSimpArgs false
set_option linter.unusedVariables false
namespace Go.Cmp
theorem nodup_bound : ∀ (n : Nat) (l : List Nat), l.Nodup → (∀ v ∈ l, v < n) → l.length ≤ n := by
  intro n
  induction n with
  | zero =>
    intro l _ h
    cases l with
    | nil => simp
    | cons a r => exact absurd (h a (by simp)) (by omega)
  | succ n ih =>
    intro l hl h
    have h1 := ih (l.erase n) (hl.erase n) (fun v hv => by
      have h2 := h v (List.mem_of_mem_erase hv)
      have h3 : v ≠ n := fun e => by subst e; exact (List.Nodup.mem_erase_iff hl).1 hv |>.1 rfl
      omega)
    have h2 := List.length_erase (a := n) (l := l)
    split at h2 <;> omega
theorem at_first {G : Gr} {m0 : List Bool} {u : Nat} {s : Sta} (k : At G m0 u s) : m0.getD u false = false := by
  induction k with
  | start h _ => exact h
  | seen _ _ ih => exact ih
  | down _ _ ih => exact ih
  | up _ ih => exact ih
theorem at_len {G : Gr} (hG : Ok G) {F0 : List Nat} {m0 : List Bool} (h0 : J G G.length F0 [] m0) {u : Nat} {m : List Bool} {l : List Nat} {w : List (Nat × List Nat)} {h : Nat × List Nat} (k : At G m0 u ⟨m, l, w, h⟩) : l.length + w.length + 1 ≤ G.length ∧ m.length = G.length ∧ (∀ x ∈ h.2, x < G.length) := by
  have i := inv_of hG h0 k
  refine ⟨?_, i.j.len, fun x hx => ?_⟩
  · have := nodup_bound G.length (F0 ++ l ++ Sta.on ⟨m, l, w, h⟩) i.j.nd (fun v hv => i.j.lt v (List.mem_append.1 hv))
    simp [Sta.on] at this
    omega
  · exact (nx_lt hG ((i.rest h (by simp)).1 x hx)).1
end Go.Cmp
namespace Go.Proofs.YtnbjfmkckebfgaaGreat
open Go.Cmp Go.RowKit Go.Word
/-- what is left of a list, in its slice -/
def RestAt (w : World) (A : Option Addr) (r : List Nat) (c : Nat) : Prop := IntsAt w A (zs r) ∧ r.length ≤ c
/-- the frame at a label -/
def FrD (LA : Option Addr) (n lc M mc : Nat) (v1 LV : Value) (wy hr : Nat) (a : Act) : Prop := ∃ u : Nat → Value, a = { tmps := #[.slice LA n lc, v1, .slice (some ⟨M, 0, none⟩) n mc, u 3, u 4, u 5, .slice none 0 0, LV, .pointer (some ⟨wy, 0, none⟩), .pointer (some ⟨hr, 0, none⟩), u 10, u 11, u 12, u 13, u 14, u 15, u 16, u 17, u 18, u 19, u 20, u 21, u 22, u 23, u 24, u 25, u 26, u 27, u 28, u 29, u 30, u 31, u 32, u 33, u 34, u 35, u 36, u 37, u 38, u 39, u 40, u 41, u 42, u 43, u 44, u 45, u 46, u 47, u 48, u 49, u 50], defers := [] }
theorem frD_mk {LA : Option Addr} {n lc M mc : Nat} {v1 LV : Value} {wy hr : Nat} (a : Act) (h : a = { tmps := #[.slice LA n lc, v1, .slice (some ⟨M, 0, none⟩) n mc, a.tmps.getD 3 undef, a.tmps.getD 4 undef, a.tmps.getD 5 undef, .slice none 0 0, LV, .pointer (some ⟨wy, 0, none⟩), .pointer (some ⟨hr, 0, none⟩), a.tmps.getD 10 undef, a.tmps.getD 11 undef, a.tmps.getD 12 undef, a.tmps.getD 13 undef, a.tmps.getD 14 undef, a.tmps.getD 15 undef, a.tmps.getD 16 undef, a.tmps.getD 17 undef, a.tmps.getD 18 undef, a.tmps.getD 19 undef, a.tmps.getD 20 undef, a.tmps.getD 21 undef, a.tmps.getD 22 undef, a.tmps.getD 23 undef, a.tmps.getD 24 undef, a.tmps.getD 25 undef, a.tmps.getD 26 undef, a.tmps.getD 27 undef, a.tmps.getD 28 undef, a.tmps.getD 29 undef, a.tmps.getD 30 undef, a.tmps.getD 31 undef, a.tmps.getD 32 undef, a.tmps.getD 33 undef, a.tmps.getD 34 undef, a.tmps.getD 35 undef, a.tmps.getD 36 undef, a.tmps.getD 37 undef, a.tmps.getD 38 undef, a.tmps.getD 39 undef, a.tmps.getD 40 undef, a.tmps.getD 41 undef, a.tmps.getD 42 undef, a.tmps.getD 43 undef, a.tmps.getD 44 undef, a.tmps.getD 45 undef, a.tmps.getD 46 undef, a.tmps.getD 47 undef, a.tmps.getD 48 undef, a.tmps.getD 49 undef, a.tmps.getD 50 undef], defers := [] }) : FrD LA n lc M mc v1 LV wy hr a := ⟨fun i => a.tmps.getD i undef, h⟩
/-- the memory at a label -/
structure MmD (w : World) (M : Nat) (m : List Bool) (LV WV c0 c1 : Value) (lf : List Nat) (es : List Ent) (wr : World) : Prop where
  mks : Lies wr M 4 (bRow m)
  wy : Lies wr w.heap.size 143 #[WV]
  hr : Lies wr (w.heap.size + 1) 145 #[c0, c1]
  ow : OwnW wr (w.heap.size + 2) WV es
  ol : OwnI wr (w.heap.size + 2) LV (zs lf)
  but : But (· = M) w wr
  sz : w.heap.size + 2 ≤ wr.heap.size
  rst : ∀ e ∈ es, RestAt w e.A e.r e.c
/-- what a search tells -/
def DownE (G : Gr) (m0 : List Bool) (u M : Nat) (w : World) (e : Ending) (w' : World) : Prop :=
  ∃ A C l m, e = .returned (.slice A l.length C) ∧ OwnI w' w.heap.size (.slice A l.length C) (zs l) ∧ Lies w' M 4 (bRow m) ∧ But (· = M) w w' ∧ ((m0.getD u false = true ∧ l = [] ∧ m = m0) ∨ (m0.getD u false = false ∧ Fnd G m0 u l m))
/-- what holds at each label, and how much is left to do -/
def JmD (G : Gr) (m0 : List Bool) (u : Nat) (LA : Option Addr) (lc M mc : Nat) (w : World) (k l : Nat) (a : Act) (wr : World) : Prop :=
  ∃ (v1 LV WV c0 c1 : Value) (m : List Bool) (lf : List Nat) (es : List Ent), FrD LA G.length lc M mc v1 LV w.heap.size (w.heap.size + 1) a ∧ MmD w M m LV WV c0 c1 lf es wr ∧
    ((l = 2 ∧ ∃ h : Ent, At G m0 u ⟨m, lf, es.map Ent.pr, h.pr⟩ ∧ c0 = iV h.x ∧ c1 = h.rv ∧ RestAt w h.A h.r h.c ∧ k = 2 * meas G ⟨m, lf, es.map Ent.pr, h.pr⟩ + 1) ∨
     (l = 1 ∧ ∃ x : Nat, At G m0 u ⟨m, lf, es.map Ent.pr, (x, [])⟩ ∧ c0 = iV x ∧ k = 2 * meas G ⟨m, lf, es.map Ent.pr, (x, [])⟩) ∨
     (l = 0 ∧ ∃ v : Nat, At G m0 u ⟨m.set v true, lf, es.map Ent.pr, (v, nx G v)⟩ ∧ v1 = iV v ∧ v < G.length ∧ m.length = G.length ∧ k = 2 * meas G ⟨m.set v true, lf, es.map Ent.pr, (v, nx G v)⟩ + 2))
theorem bRow_at {m : List Bool} {v : Nat} (h : v < m.length) : (bRow m)[v]? = some (.bool (m.getD v false)) := by
  unfold bRow
  rw [List.getElem?_toArray, List.getElem?_map, List.getElem?_eq_getElem h, List.getD_eq_getElem?_getD, List.getElem?_eq_getElem h]
  rfl
theorem bRow_set (m : List Bool) (v : Nat) : (bRow m).setIfInBounds v (.bool true) = bRow (m.set v true) := by
  unfold bRow
  rw [List.setIfInBounds_toArray, List.map_set]
  rfl
theorem zg_at {G : Gr} {v : Nat} (h : v < (zg G).length) : (zg G)[v] = zs (nx G v) := by
  have h' : v < G.length := by simpa using h
  have e : nx G v = G[v] := by unfold nx; rw [List.getD_eq_getElem?_getD, List.getElem?_eq_getElem h']; rfl
  rw [e]
  simp [zg]
/-- a list's slice in lists that lie in memory -/
theorem ls_at {w : World} {LA : Option Addr} {G : Gr} (hL : LsAt w LA (zg G)) {v : Nat} (h : v < G.length) : ∃ b o A c, LA = some ⟨b, o, none⟩ ∧ b < w.heap.size ∧ w.cell? ⟨b, o + v, none⟩ = some (.slice A (nx G v).length c) ∧ RestAt w A (nx G v) c := by
  obtain ⟨b, o, A, c, h1, h2, h3, h4, h5⟩ := hL v (by simpa using h)
  rw [zg_at] at h3 h4 h5
  rw [zs_len] at h3 h4
  exact ⟨b, o, A, c, h1, h2, h3, h5, h4⟩
theorem ls_cell {w W : World} {LA : Option Addr} {G : Gr} {M : Nat} {m0 : List Bool} (hL : LsAt w LA (zg G)) (hm : Lies w M 4 (bRow m0)) (hb : But (· = M) w W) {v : Nat} (h : v < G.length) : ∃ b o A c, LA = some ⟨b, o, none⟩ ∧ W.cell? ⟨b, o + v, none⟩ = some (.slice A (nx G v).length c) ∧ RestAt w A (nx G v) c := by
  obtain ⟨b, o, A, c, h1, h2, h3, h4⟩ := ls_at hL h
  refine ⟨b, o, A, c, h1, cell_same h3 (hb.block b h2 (fun e => ?_)), h4⟩
  subst e
  obtain ⟨x, hx⟩ := marks_cell hm _ _ h3
  cases hx
section
variable {w wr : World} {M : Nat} {m : List Bool} {LV WV c0 c1 : Value} {lf : List Nat} {es : List Ent}
theorem mmD_mark (h : MmD w M m LV WV c0 c1 lf es wr) (hM : M < w.heap.size) (v : Nat) : MmD w M (m.set v true) LV WV c0 c1 lf es (wr.setCell ⟨M, v, none⟩ (.bool true)) := by
  have hb : But (· = M) wr (wr.setCell ⟨M, v, none⟩ (.bool true)) := (But.refl (· = M) wr).setCell (p := ⟨M, v, none⟩) (fun _ => rfl) _
  refine ⟨by have := lies_set h.mks v (.bool true); rwa [bRow_set] at this, lies_far h.wy (by show _ ≠ M; omega) _, lies_far h.hr (by show _ ≠ M; omega) _, own_but h.ow hb (fun k hk e => ?_), own_but h.ol hb (fun k hk e => ?_), h.but.trans hb, by simpa [World.setCell] using h.sz, h.rst⟩
  · have := (own_heap h.ow k hk).1; omega
  · have := (own_heap h.ol k hk).1; omega
theorem mmD_here (h : MmD w M m LV WV c0 c1 lf es wr) (hM : M < w.heap.size) (a b : Value) : MmD w M m LV WV a b lf es (wr.setRow (w.heap.size + 1) #[a, b]) := by
  have hb : But (· = w.heap.size + 1) wr (wr.setRow (w.heap.size + 1) #[a, b]) := (But.refl (· = w.heap.size + 1) wr).setRow (g := w.heap.size + 1) (fun _ => rfl) _
  refine ⟨hb.lies h.mks (by omega), hb.lies h.wy (by omega), lies_setRow h.hr _, own_but h.ow hb (fun k hk e => ?_), own_but h.ol hb (fun k hk e => ?_), h.but.setRow (fun x => by omega) _, by simpa using h.sz, h.rst⟩
  · have := (own_heap h.ow k hk).1; omega
  · have := (own_heap h.ol k hk).1; omega
theorem mmD_rest (h : MmD w M m LV WV c0 c1 lf es wr) (hM : M < w.heap.size) (b : Value) : MmD w M m LV WV c0 b lf es (wr.setCell ⟨w.heap.size + 1, 1, none⟩ b) := by
  have hb : But (· = w.heap.size + 1) wr (wr.setCell ⟨w.heap.size + 1, 1, none⟩ b) := (But.refl (· = w.heap.size + 1) wr).setCell (p := ⟨w.heap.size + 1, 1, none⟩) (fun _ => rfl) _
  refine ⟨hb.lies h.mks (by omega), hb.lies h.wy (by omega), lies_set h.hr 1 b, own_but h.ow hb (fun k hk e => ?_), own_but h.ol hb (fun k hk e => ?_), h.but.setCell (p := ⟨w.heap.size + 1, 1, none⟩) (fun (x : w.heap.size + 1 < w.heap.size) => by omega) _, by simpa [World.setCell] using h.sz, h.rst⟩
  · have := (own_heap h.ow k hk).1; omega
  · have := (own_heap h.ol k hk).1; omega
theorem mmD_left (h : MmD w M m LV WV c0 c1 lf es wr) (hM : M < w.heap.size) {o : Obj} {w1 : World} {v' : Value} {x : Nat} (hg : (wr.alloc o).grownBy w1 LV.ownBlock) (ho : OwnI w1 (w.heap.size + 2) v' (zs lf ++ [(x : Int)])) : MmD w M m v' WV c0 c1 (lf ++ [x]) es w1 := by
  have hb : But (fun k => some k = LV.ownBlock) wr w1 := ((But.refl _ wr).alloc o).trans (But.grown hg)
  have hP : ∀ k, some k = LV.ownBlock → w.heap.size + 2 ≤ k := fun k hk => (own_heap h.ol k hk.symm).1
  refine ⟨hb.lies h.mks (fun e => by have := hP _ e; omega), hb.lies h.wy (fun e => by have := hP _ e; omega), hb.lies h.hr (fun e => by have := hP _ e; omega), own_but h.ow hb (fun k hk e => ?_), by simpa [zs] using ho, h.but.step hb (fun k hk e => by have := hP _ e; omega), Nat.le_trans h.sz hb.size, h.rst⟩
  · obtain ⟨_, _, cs, hl⟩ := own_heap h.ol k e.symm
    exact own_ne h.ow hl (by decide) hk
theorem mmD_take (h : MmD w M m LV WV c0 c1 lf es wr) (hM : M < w.heap.size) {es' : List Ent} {e : Ent} (he : es = es' ++ [e]) {w1 : World} (ht : TakeW wr (w.heap.size + 2) w.heap.size es' w1) : ∃ WV', MmD w M m LV WV' c0 c1 lf es' w1 := by
  obtain ⟨WV', h1, h2, hb, _⟩ := ht
  refine ⟨WV', hb.lies h.mks (by omega), h1, hb.lies h.hr (by omega), h2, own_but h.ol hb (fun k hk e => by have := (own_heap h.ol k hk).1; omega), h.but.step hb (fun k hk e => by omega), Nat.le_trans h.sz hb.size, fun x hx => h.rst x (by rw [he]; exact List.mem_append_left _ hx)⟩
theorem mmD_put (h : MmD w M m LV WV c0 c1 lf es wr) (hM : M < w.heap.size) {e : Ent} (he : RestAt w e.A e.r e.c) {w1 : World} (ht : PutW wr (w.heap.size + 2) w.heap.size WV es e w1) : ∃ WV', MmD w M m LV WV' c0 c1 lf (es ++ [e]) w1 := by
  obtain ⟨WV', h1, h2, hb⟩ := ht
  have hP : ∀ k, (k = w.heap.size ∨ some k = WV.ownBlock) → k = w.heap.size ∨ w.heap.size + 2 ≤ k := fun k hk => hk.imp id (fun hk => (own_heap h.ow k hk.symm).1)
  refine ⟨WV', hb.lies h.mks (fun x => by have := hP _ x; omega), h1, hb.lies h.hr (fun x => by have := hP _ x; omega), h2, own_but h.ol hb (fun k hk x => ?_), h.but.step hb (fun k hk x => by have := hP _ x; omega), Nat.le_trans h.sz hb.size, fun x hx => ?_⟩
  · rcases x with x | x
    · have := (own_heap h.ol k hk).1; omega
    · obtain ⟨_, _, cs, hl⟩ := own_heap h.ow k x.symm
      exact own_ne h.ol hl (by decide) hk
  · rcases List.mem_append.1 hx with hx | hx
    · exact h.rst x hx
    · obtain rfl := List.mem_singleton.1 hx; exact he
theorem mmD_drewN (h : MmD w M m LV WV c0 c1 lf es wr) (q : Nat) : MmD w M m LV WV c0 c1 lf es (wr.drewN q) :=
  ⟨h.mks, h.wy, h.hr, h.ow, h.ol, h.but.drewN q, h.sz, h.rst⟩
end
set_option maxRecDepth 100000 in
set_option maxHeartbeats 4000000 in
theorem down_any (LA : Option Addr) (lc : Nat) (G : Gr) (hG : Ok G) (F0 : List Nat) (m0 : List Bool) (h0 : J G G.length F0 [] m0) (hn : G.length ≤ 100000) (u : Nat) (hu : u < G.length) (M mc : Nat) (w : World) (hL : LsAt w LA (zg G)) (hm : Lies w M 4 (bRow m0)) :
    Calls Tryz.prog 62 #[.slice LA G.length lc, iV u, .slice (some ⟨M, 0, none⟩) G.length mc] w (DownE G m0 u M w) := by
  have hlen := h0.len
  have hMw := lies_lt hm
  obtain ⟨n, hnn⟩ : ∃ n, n = G.length := ⟨_, rfl⟩
  have HM := Lib.hid hm
  have HL := Lib.hid hL
  have HG := Lib.hid hG
  have H0 := Lib.hid h0
  have HLEN := Lib.hid hlen
  have HN := Lib.hid hnn
  have HU := Lib.hid hu
  have HB := Lib.hid hn
  have HMW := Lib.hid hMw
  have JD := Lib.hid (fun k l a wr (h : JmD G m0 u LA lc M mc w k l a wr) => h)
  rw [← hnn]
  clear hm hL hG h0 hlen hnn hu hn hMw JD
  unfold iV at *
  go_enter Tryz.func62, Tryz.ntmps62
  go_wp2
  refine wp_scope_meas2 (JmD G m0 u LA lc M mc w) ?_ ?_
  · intro k hk
    have HK := Lib.hid hk
    clear hk
    rintro l a wr ⟨v1, LV, WV, c0, c1, m, lf, es, ⟨fu, rfl⟩, hM, (⟨rfl, h, hat, rfl, rfl, hi, rfl⟩ | ⟨rfl, x, hat, rfl, rfl⟩ | ⟨rfl, v, hat, rfl, hv, hml, rfl⟩)⟩
    · refine ⟨_, rfl, ?_⟩
      obtain ⟨hx, hA, hr, hc⟩ := h
      have g1 := lies_cell hM.hr 1
      simp only [List.getElem?_toArray, List.getElem?_cons_zero, List.getElem?_cons_succ, Ent.rv] at g1
      have HM2 := Lib.hid hM
      have e1 : G.length = n := HN.out.symm
      rw [e1]
      clear e1 hM
      cases hr with
      | nil =>
        have HAT := Lib.hid hat
        clear hat hi
        simp only [List.length_nil] at g1
        go_wp2
        go_step3
        have hn := HN.out
        subst hn
        exact ⟨_, Nat.lt_succ_self _, v1, LV, WV, iV hx, _, m, lf, es, frD_mk _ rfl, HM2.out, .inr (.inl ⟨rfl, hx, HAT.out, rfl, rfl⟩)⟩
      | cons v r =>
        obtain ⟨b, o, hAe, hbw, hcell⟩ := hi.1 0 (by simp)
        subst hAe
        have hlt := (at_len HG.out H0.out hat).2.2 v (by simp [Ent.pr])
        have hcap := hi.2
        simp only [List.length_cons] at g1 hcap
        have hin := HM2.out.but
        have hc0 : wr.cell? ⟨b, o, none⟩ = some (iV v) := cell_same (by simpa [zs] using hcell) (hin.block b hbw (fun e => by
          subst e
          obtain ⟨z, hz⟩ := marks_cell HM.out _ _ hcell
          cases hz))
        have f1 := lies_free HM2.out.hr 1
        have HAT := Lib.hid hat
        have HI := Lib.hid hi
        clear hat hi hcell hin
        unfold iV at hc0
        have hne : ((r.length : Int) + 1 == 0) = false := by simp; omega
        by_cases h1 : hc = 1
        · have hr0 : r = [] := List.length_eq_zero_iff.1 (by omega)
          subst hr0 h1
          simp only [List.length_nil, Nat.zero_add] at g1
          clear hne
          go_upto_region 9 with (fail)
          go_region
          go_step
          have M3 := Lib.hid (mmD_drewN (mmD_rest HM2.out HMW.out (.slice (some ⟨b, o, none⟩) 0 0)) 1)
          have ed : ∀ W : World, W.drew = W.drewN 1 := fun _ => rfl
          rw [ed]
          clear ed
          clear g1 HM2 hc0 f1
          generalize (wr.setCell ⟨w.heap.size + 1, 1, none⟩ (.slice (some ⟨b, o, none⟩) 0 0)).drewN 1 = W at *
          have hml := (at_len HG.out H0.out HAT.out).2.1
          have b1 := (lies_cell M3.out.mks v).trans (bRow_at (m := m) (v := v) (by omega))
          have vi : (v : Int) < (n : Int) := by have := HN.out; omega
          have vn : v < n := by have := HN.out; omega
          have HI3 := Lib.hid (show RestAt w (some ⟨b, o, none⟩) [] 0 from ⟨intsAt_nil _ _, Nat.le_refl 0⟩)
          have RG := Lib.hid (rng2 M3.out.hr)
          clear hml HI
          cases hmv : m.getD v false with
          | true =>
            rw [hmv] at b1
            go_wp2
            go_step3
            have hn := HN.out
            subst hn
            refine ⟨_, ?_, .int .i64 (v : Int), LV, WV, iV hx, .slice (some ⟨b, o, none⟩) 0 0, m, lf, es, frD_mk _ rfl, M3.out, .inl ⟨rfl, ⟨hx, (some ⟨b, o, none⟩), [], 0⟩, HAT.out.seen hmv, rfl, rfl, HI3.out, rfl⟩⟩
            have := meas_seen G m lf (es.map Ent.pr) hx v []
            simp only [Ent.pr] at this ⊢
            omega
          | false =>
            rw [hmv] at b1
            have HMV := Lib.hid hmv
            have KP := Lib.hid (show Calls Tryz.prog 79 #[.pointer (some ⟨w.heap.size, 0, none⟩), .agg #[iV hx, .slice (some ⟨b, o, none⟩) 0 0]] W fun r' w' => r' = .returned (.tuple #[]) ∧ PutW W (w.heap.size + 2) w.heap.size WV es ⟨hx, (some ⟨b, o, none⟩), [], 0⟩ w' from put_any (w.heap.size + 2) w.heap.size WV es ⟨hx, (some ⟨b, o, none⟩), [], 0⟩ W M3.out.wy M3.out.ow M3.out.sz (by have := (at_len HG.out H0.out HAT.out).1; have := HB.out; simp only [List.length_map] at *; omega))
            clear hmv
            go_wp2_with (first
              | (refine wpList_load_mid rfl 145 _ rfl (w.heap.size + 1) 0 rfl [iV hx, .slice (some ⟨b, o, none⟩) 0 0] _ RG.out Tryz.underlying145 rfl (by kernel_rfl) ?_)
              | (go_at_call 79; (with_reducible refine KP.out.mono ?_); rintro e w1 ⟨rfl, hp⟩; obtain ⟨WV', hM4⟩ := mmD_put M3.out HMW.out (e := ⟨hx, (some ⟨b, o, none⟩), [], 0⟩) HI3.out hp; have M4 := Lib.hid hM4; clear hM4 hp))
            go_step3
            have hn := HN.out
            subst hn
            have hml := (at_len HG.out H0.out HAT.out).2.1
            have hdn := HAT.out.down HMV.out
            refine ⟨_, ?_, .int .i64 (v : Int), LV, WV', _, _, m, lf, es ++ [⟨hx, (some ⟨b, o, none⟩), [], 0⟩], frD_mk _ rfl, M4.out, .inr (.inr ⟨rfl, v, by rw [List.map_append]; exact hdn, rfl, hlt, hml, rfl⟩)⟩
            have := meas_down G m lf (es.map Ent.pr) hx v [] (by omega) HMV.out
            simp only [List.map_append, Ent.pr, List.map_cons, List.map_nil] at this ⊢
            omega
        · go_upto_region 9 with (fail)
          go_region
          go_step
          have M3 := Lib.hid (mmD_drewN (mmD_rest HM2.out HMW.out (.slice (some ⟨b, o + 1, none⟩) r.length (hc - 1))) 1)
          have ed : ∀ W : World, W.drew = W.drewN 1 := fun _ => rfl
          rw [ed]
          clear ed
          clear g1 HM2 hc0 f1
          generalize (wr.setCell ⟨w.heap.size + 1, 1, none⟩ (.slice (some ⟨b, o + 1, none⟩) r.length (hc - 1))).drewN 1 = W at *
          have hml := (at_len HG.out H0.out HAT.out).2.1
          have b1 := (lies_cell M3.out.mks v).trans (bRow_at (m := m) (v := v) (by omega))
          have vi : (v : Int) < (n : Int) := by have := HN.out; omega
          have vn : v < n := by have := HN.out; omega
          have HI3 := Lib.hid (show RestAt w (some ⟨b, o + 1, none⟩) r (hc - 1) from ⟨fun i hi => by
            obtain ⟨b', o', e1, e2, e3⟩ := HI.out.1 (i + 1) (by simp [zs] at hi ⊢; omega)
            injection e1 with e1
            injection e1 with e1 e4
            subst e1 e4
            refine ⟨b, o + 1, rfl, e2, ?_⟩
            rw [show o + 1 + i = o + (i + 1) by omega, e3]
            simp [zs], by show r.length ≤ hc - 1; omega⟩)
          have RG := Lib.hid (rng2 M3.out.hr)
          clear hml HI
          cases hmv : m.getD v false with
          | true =>
            rw [hmv] at b1
            go_wp2
            go_step3
            have hn := HN.out
            subst hn
            refine ⟨_, ?_, .int .i64 (v : Int), LV, WV, iV hx, .slice (some ⟨b, o + 1, none⟩) r.length (hc - 1), m, lf, es, frD_mk _ rfl, M3.out, .inl ⟨rfl, ⟨hx, (some ⟨b, o + 1, none⟩), r, hc - 1⟩, HAT.out.seen hmv, rfl, rfl, HI3.out, rfl⟩⟩
            have := meas_seen G m lf (es.map Ent.pr) hx v r
            simp only [Ent.pr] at this ⊢
            omega
          | false =>
            rw [hmv] at b1
            have HMV := Lib.hid hmv
            have KP := Lib.hid (show Calls Tryz.prog 79 #[.pointer (some ⟨w.heap.size, 0, none⟩), .agg #[iV hx, .slice (some ⟨b, o + 1, none⟩) r.length (hc - 1)]] W fun r' w' => r' = .returned (.tuple #[]) ∧ PutW W (w.heap.size + 2) w.heap.size WV es ⟨hx, (some ⟨b, o + 1, none⟩), r, hc - 1⟩ w' from put_any (w.heap.size + 2) w.heap.size WV es ⟨hx, (some ⟨b, o + 1, none⟩), r, hc - 1⟩ W M3.out.wy M3.out.ow M3.out.sz (by have := (at_len HG.out H0.out HAT.out).1; have := HB.out; simp only [List.length_map] at *; omega))
            clear hmv
            go_wp2_with (first
              | (refine wpList_load_mid rfl 145 _ rfl (w.heap.size + 1) 0 rfl [iV hx, .slice (some ⟨b, o + 1, none⟩) r.length (hc - 1)] _ RG.out Tryz.underlying145 rfl (by kernel_rfl) ?_)
              | (go_at_call 79; (with_reducible refine KP.out.mono ?_); rintro e w1 ⟨rfl, hp⟩; obtain ⟨WV', hM4⟩ := mmD_put M3.out HMW.out (e := ⟨hx, (some ⟨b, o + 1, none⟩), r, hc - 1⟩) HI3.out hp; have M4 := Lib.hid hM4; clear hM4 hp))
            go_step3
            have hn := HN.out
            subst hn
            have hml := (at_len HG.out H0.out HAT.out).2.1
            have hdn := HAT.out.down HMV.out
            refine ⟨_, ?_, .int .i64 (v : Int), LV, WV', _, _, m, lf, es ++ [⟨hx, (some ⟨b, o + 1, none⟩), r, hc - 1⟩], frD_mk _ rfl, M4.out, .inr (.inr ⟨rfl, v, by rw [List.map_append]; exact hdn, rfl, hlt, hml, rfl⟩)⟩
            have := meas_down G m lf (es.map Ent.pr) hx v r (by omega) HMV.out
            simp only [List.map_append, Ent.pr, List.map_cons, List.map_nil] at this ⊢
            omega
    · refine ⟨_, rfl, ?_⟩
      have hl := at_len HG.out H0.out hat
      simp only [List.length_map] at hl
      have g0 := lies_cell hM.hr 0
      simp only [List.getElem?_toArray, List.getElem?_cons_zero] at g0
      have HM2 := Lib.hid hM
      have HAT := Lib.hid hat
      have e1 : G.length = n := HN.out.symm
      rw [e1]
      obtain ⟨hl1, hl2, _⟩ := hl
      have HL1 := Lib.hid hl1
      have LN := Lib.hid (lies_new wr 3 #[iV x])
      have OL := Lib.hid (World.ownsRow.alloc hM.ol (.cells #[iV x] 3))
      have SZ := Lib.hid (show w.heap.size + 2 ≤ (wr.alloc (.cells #[iV x] 3)).heap.size by have := hM.sz; simp; omega)
      have LB := Lib.hid (show (zs lf).length ≤ 100000000 by have := HB.out; rw [zs_len]; omega)
      clear e1 hM hat hl1 hl2
      unfold iV at *
      go_upto_region 13 with (refine wpList_app_int rfl _ _ rfl (w.heap.size + 2) wr.heap.size x LV (zs lf) rfl OL.out rfl LN.out LB.out SZ.out ?_; intro v' w1 h1 h2; have O1 := Lib.hid h1; have G1 := Lib.hid h2; clear h1 h2)
      have M1 := Lib.hid (mmD_left HM2.out HMW.out G1.out O1.out)
      obtain ⟨LA', LC', hv'⟩ := own_slice O1.out
      have HV' := Lib.hid hv'
      clear hv'
      have w0 := lies_cell M1.out.wy 0
      simp only [List.getElem?_toArray, List.getElem?_cons_zero] at w0
      clear g0 HM2 LN OL SZ LB G1
      rcases es.eq_nil_or_concat with he | ⟨es', e, he⟩
      · subst he
        obtain ⟨WA, WC, hWV⟩ := own_slice M1.out.ow
        rw [List.length_nil] at hWV
        subst hWV
        go_wp2
        change bodyPost Tryz.prog Tryz.f62 (DownE G m0 u M w) .ret _ _
        go_ret
        refine ⟨LA', LC', lf ++ [x], m, by rw [HV'.out]; simp [zs], ?_, M1.out.mks, M1.out.but, .inr ⟨at_first HAT.out, lf, x, HAT.out, rfl⟩⟩
        have h5 := own_base (B' := w.heap.size) M1.out.ol (fun k hk => by have := (own_heap M1.out.ol k hk).1; omega)
        rw [HV'.out] at h5
        simpa [zs, OwnI] using h5
      · rw [List.concat_eq_append] at he
        obtain ⟨WA, WC, hWV⟩ := own_slice M1.out.ow
        have hel : es.length = es'.length + 1 := by rw [he]; simp
        rw [hel] at hWV
        subst hWV
        have KT := Lib.hid (take_any (w.heap.size + 2) w.heap.size _ es' e w1 M1.out.wy (by rw [← he]; exact M1.out.ow) M1.out.sz (by have := HL1.out; have := HB.out; omega))
        have HE := Lib.hid he
        clear he hel
        go_upto_region 15 with (fail)
        have hne : ((es'.length : Int) + 1 == 0) = false := by simp; omega
        go_wp2_with (first
          | (go_at_call 80; (with_reducible refine KT.out.mono ?_); rintro r w2 ⟨rfl, ht⟩; obtain ⟨WV', hM2⟩ := mmD_take M1.out HMW.out HE.out ht; have HR2 := Lib.hid hM2.hr; have M3 := Lib.hid (mmD_here hM2 HMW.out (iV e.x) e.rv); clear ht hM2)
          | (refine wpList_store_row rfl 145 _ _ rfl (w.heap.size + 1) #[iV e.x, e.rv] rfl rfl 145 _ HR2.out (by kernel_rfl) rfl (two_one rfl rfl) ?_))
        go_step3
        have hn := HN.out
        subst hn
        have hat2 := HAT.out
        rw [HE.out, List.map_append] at hat2
        refine ⟨_, ?_, v1, v', WV', iV e.x, e.rv, m, lf ++ [x], es', frD_mk _ rfl, M3.out, .inl ⟨rfl, e, hat2.up, rfl, rfl, M1.out.rst e (by rw [HE.out]; simp), rfl⟩⟩
        have := meas_up G m lf (lf ++ [x]) (es'.map Ent.pr) x e.x e.r
        rw [HE.out, List.map_append]
        show 2 * meas G ⟨m, lf ++ [x], es'.map Ent.pr, (e.x, e.r)⟩ + 1 < 2 * meas G ⟨m, lf, es'.map Ent.pr ++ [(e.x, e.r)], (x, [])⟩
        omega
    · refine ⟨_, rfl, ?_⟩
      have b1 := (lies_cell hM.mks v).trans (bRow_at (m := m) (v := v) (by omega))
      have f1 := lies_free hM.mks v
      have vi : (v : Int) < (n : Int) := by have := HN.out; omega
      have vn : v < n := by have := HN.out; omega
      have e1 : G.length = n := HN.out.symm
      rw [e1]
      clear e1 hml
      have HM2 := Lib.hid hM
      have HAT := Lib.hid hat
      have HV := Lib.hid hv
      clear hM hat hv
      unfold iV at *
      go_upto_region 7 with (fail)
      have M3 := Lib.hid (mmD_mark HM2.out HMW.out v)
      clear b1 f1 HM2
      generalize wr.setCell ⟨M, v, none⟩ (.bool true) = W at *
      obtain ⟨b, o, A, c, eL, c2, iA⟩ := ls_cell HL.out HM.out M3.out.but HV.out
      have IA := Lib.hid iA
      have eLr := Lib.hid eL
      subst eL
      obtain ⟨nl, hnl⟩ : ∃ nl, nl = (nx G v).length := ⟨_, rfl⟩
      rw [← hnl] at c2
      have NL := Lib.hid hnl
      have MR := Lib.hid (mmD_here M3.out HMW.out (.int .i64 (v : Int)) (.slice A nl c))
      have HR := Lib.hid M3.out.hr
      clear iA eLr hnl
      go_wp2_with (refine wpList_store_row rfl 145 _ _ rfl (w.heap.size + 1) #[.int .i64 (v : Int), .slice A nl c] rfl rfl 145 _ HR.out (by kernel_rfl) rfl (two_one rfl rfl) ?_)
      go_step3
      go_step
      go_step
      have hn := HN.out
      subst hn
      refine HK.out _ 2 _ _ _ (Nat.lt_succ_self _) rfl ⟨.int .i64 (v : Int), LV, WV, iV v, .slice A nl c, _, lf, es, frD_mk _ rfl, MR.out, .inl ⟨rfl, ⟨v, A, nx G v, c⟩, HAT.out, rfl, (by rw [NL.out]; rfl), IA.out, rfl⟩⟩
  · intro hjump
    have HJ := Lib.hid hjump
    clear hjump
    have X0 : MmD w M m0 (.slice none 0 0) (.slice none 0 0) (.int .i64 0) (.slice none 0 0) [] [] ((w.alloc (.cells #[.slice none 0 0] 143)).alloc (.cells #[.int .i64 0, .slice none 0 0] 145)) := by
      have s1 : (w.alloc (.cells #[.slice none 0 0] 143)).heap.size = w.heap.size + 1 := by simp
      have l2 := lies_new (w.alloc (.cells #[.slice none 0 0] 143)) 145 #[.int .i64 0, .slice none 0 0]
      rw [s1] at l2
      exact ⟨lies_alloc (lies_alloc HM.out _) _, lies_alloc (lies_new _ _ _) _, l2, World.ownsRow_nil _ _ _ _, ownI_nil _ _, ((But.refl _ w).alloc _).alloc _, by simp, fun e he => by cases he⟩
    have M0 := Lib.hid X0
    clear X0
    go_upto_region 4 with (fail)
    generalize (w.alloc (.cells #[.slice none 0 0] 143)).alloc (.cells #[.int .i64 0, .slice none 0 0] 145) = W at *
    have b1 := (lies_cell M0.out.mks u).trans (bRow_at (m := m0) (v := u) (by have := HLEN.out; have := HU.out; omega))
    have ui : (u : Int) < (n : Int) := by have := HN.out; have := HU.out; omega
    have un : u < n := by have := HN.out; have := HU.out; omega
    cases hmu : m0.getD u false with
    | true =>
      rw [hmu] at b1
      have HMU := Lib.hid hmu
      clear hmu
      go_wp2
      change bodyPost Tryz.prog Tryz.f62 (DownE G m0 u M w) .ret _ _
      go_ret
      exact ⟨none, 0, [], m0, rfl, ownI_nil _ _, M0.out.mks, M0.out.but, .inl ⟨HMU.out, rfl, rfl⟩⟩
    | false =>
      rw [hmu] at b1
      have HMU := Lib.hid hmu
      clear hmu
      go_wp2
      go_step3
      go_step
      go_step
      have hn := HN.out
      subst hn
      exact HJ.out _ 0 _ _ _ rfl ⟨iV u, .slice none 0 0, .slice none 0 0, _, _, m0, [], [], frD_mk _ rfl, M0.out, .inr (.inr ⟨rfl, u, .start HMU.out (by have := HLEN.out; have := HU.out; omega), rfl, HU.out, HLEN.out, rfl⟩)⟩
end Go.Proofs.YtnbjfmkckebfgaaGreat
