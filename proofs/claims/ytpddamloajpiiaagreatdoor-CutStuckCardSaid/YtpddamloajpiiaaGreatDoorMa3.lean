/-
What is proved here: several texts in one (Dow, Stl, Cks, Trn, Pub): each says what it is about.
-/
import Derived.Test.YtpddamloajpiiaaGreatDoorMa2
import Derived.BigQuiet
import Derived.Deep.QuietTactic
import Derived.Laws.EntriesVeiled
/-
What is proved here: package comp's search in depth, by a contract.
-/
set_option linter.unusedSimpArgs false
set_option linter.unusedVariables false
namespace Go.Cmp
theorem nodup_bound : ∀ (n : Nat) (l : List Nat), l.Nodup → (∀ v ∈ l, v < n) → l.length ≤ n := by
  intro n
  induction n with
  | zero =>
    intro l _ h
    cases l with
    | nil => simp
    | cons a r => exact absurd (h a (by simp)) (by omega)
  | succ n ih =>
    intro l hl h
    have h1 := ih (l.erase n) (hl.erase n) (fun v hv => by
      have h2 := h v (List.mem_of_mem_erase hv)
      have h3 : v ≠ n := fun e => by subst e; exact (List.Nodup.mem_erase_iff hl).1 hv |>.1 rfl
      omega)
    have h2 := List.length_erase (a := n) (l := l)
    split at h2 <;> omega
theorem at_first {G : Gr} {m0 : List Bool} {u : Nat} {s : Sta} (k : At G m0 u s) : m0.getD u false = false := by
  induction k with
  | start h _ => exact h
  | seen _ _ ih => exact ih
  | down _ _ ih => exact ih
  | up _ ih => exact ih
theorem at_len {G : Gr} (hG : Ok G) {F0 : List Nat} {m0 : List Bool} (h0 : J G G.length F0 [] m0) {u : Nat} {m : List Bool} {l : List Nat} {w : List (Nat × List Nat)} {h : Nat × List Nat} (k : At G m0 u ⟨m, l, w, h⟩) : l.length + w.length + 1 ≤ G.length ∧ m.length = G.length ∧ (∀ x ∈ h.2, x < G.length) := by
  have i := inv_of hG h0 k
  refine ⟨?_, i.j.len, fun x hx => ?_⟩
  · have := nodup_bound G.length (F0 ++ l ++ Sta.on ⟨m, l, w, h⟩) i.j.nd (fun v hv => i.j.lt v (List.mem_append.1 hv))
    simp [Sta.on] at this
    omega
  · exact (nx_lt hG ((i.rest h (by simp)).1 x hx)).1
end Go.Cmp
namespace Go.Proofs.YtpddamloajpiiaaGreatDoor
open Go.Cmp Go.RowKit Go.Word
/-- what is left of a list, in its slice -/
def RestAt (w : World) (A : Option Addr) (r : List Nat) (c : Nat) : Prop := IntsAt w A (zs r) ∧ r.length ≤ c
/-- the frame at a label -/
def FrD (LA : Option Addr) (n lc M mc : Nat) (v1 LV : Value) (wy hr : Nat) (a : Act) : Prop := ∃ u : Nat → Value, a = { tmps := #[.slice LA n lc, v1, .slice (some ⟨M, 0, none⟩) n mc, u 3, u 4, u 5, .slice none 0 0, LV, .pointer (some ⟨wy, 0, none⟩), .pointer (some ⟨hr, 0, none⟩), u 10, u 11, u 12, u 13, u 14, u 15, u 16, u 17, u 18, u 19, u 20, u 21, u 22, u 23, u 24, u 25, u 26, u 27, u 28, u 29, u 30, u 31, u 32, u 33, u 34, u 35, u 36, u 37, u 38, u 39, u 40, u 41, u 42, u 43, u 44, u 45, u 46, u 47, u 48, u 49, u 50], defers := [] }
theorem frD_mk {LA : Option Addr} {n lc M mc : Nat} {v1 LV : Value} {wy hr : Nat} (a : Act) (h : a = { tmps := #[.slice LA n lc, v1, .slice (some ⟨M, 0, none⟩) n mc, a.tmps.getD 3 undef, a.tmps.getD 4 undef, a.tmps.getD 5 undef, .slice none 0 0, LV, .pointer (some ⟨wy, 0, none⟩), .pointer (some ⟨hr, 0, none⟩), a.tmps.getD 10 undef, a.tmps.getD 11 undef, a.tmps.getD 12 undef, a.tmps.getD 13 undef, a.tmps.getD 14 undef, a.tmps.getD 15 undef, a.tmps.getD 16 undef, a.tmps.getD 17 undef, a.tmps.getD 18 undef, a.tmps.getD 19 undef, a.tmps.getD 20 undef, a.tmps.getD 21 undef, a.tmps.getD 22 undef, a.tmps.getD 23 undef, a.tmps.getD 24 undef, a.tmps.getD 25 undef, a.tmps.getD 26 undef, a.tmps.getD 27 undef, a.tmps.getD 28 undef, a.tmps.getD 29 undef, a.tmps.getD 30 undef, a.tmps.getD 31 undef, a.tmps.getD 32 undef, a.tmps.getD 33 undef, a.tmps.getD 34 undef, a.tmps.getD 35 undef, a.tmps.getD 36 undef, a.tmps.getD 37 undef, a.tmps.getD 38 undef, a.tmps.getD 39 undef, a.tmps.getD 40 undef, a.tmps.getD 41 undef, a.tmps.getD 42 undef, a.tmps.getD 43 undef, a.tmps.getD 44 undef, a.tmps.getD 45 undef, a.tmps.getD 46 undef, a.tmps.getD 47 undef, a.tmps.getD 48 undef, a.tmps.getD 49 undef, a.tmps.getD 50 undef], defers := [] }) : FrD LA n lc M mc v1 LV wy hr a := ⟨fun i => a.tmps.getD i undef, h⟩
/-- the memory at a label -/
structure MmD (w : World) (M : Nat) (m : List Bool) (LV WV c0 c1 : Value) (lf : List Nat) (es : List Ent) (wr : World) : Prop where
  mks : Lies wr M 4 (bRow m)
  wy : Lies wr w.heap.size 97 #[WV]
  hr : Lies wr (w.heap.size + 1) 99 #[c0, c1]
  ow : OwnW wr (w.heap.size + 2) WV es
  ol : OwnI wr (w.heap.size + 2) LV (zs lf)
  but : But (· = M) w wr
  sz : w.heap.size + 2 ≤ wr.heap.size
  rst : ∀ e ∈ es, RestAt w e.A e.r e.c
/-- what a search tells -/
def DownE (G : Gr) (m0 : List Bool) (u M : Nat) (w : World) (e : Ending) (w' : World) : Prop :=
  ∃ A C l m, e = .returned (.slice A l.length C) ∧ OwnI w' w.heap.size (.slice A l.length C) (zs l) ∧ Lies w' M 4 (bRow m) ∧ But (· = M) w w' ∧ ((m0.getD u false = true ∧ l = [] ∧ m = m0) ∨ (m0.getD u false = false ∧ Fnd G m0 u l m))
/-- what holds at each label, and how much is left to do -/
def JmD (G : Gr) (m0 : List Bool) (u : Nat) (LA : Option Addr) (lc M mc : Nat) (w : World) (k l : Nat) (a : Act) (wr : World) : Prop :=
  ∃ (v1 LV WV c0 c1 : Value) (m : List Bool) (lf : List Nat) (es : List Ent), FrD LA G.length lc M mc v1 LV w.heap.size (w.heap.size + 1) a ∧ MmD w M m LV WV c0 c1 lf es wr ∧
    ((l = 2 ∧ ∃ h : Ent, At G m0 u ⟨m, lf, es.map Ent.pr, h.pr⟩ ∧ c0 = iV h.x ∧ c1 = h.rv ∧ RestAt w h.A h.r h.c ∧ k = 2 * meas G ⟨m, lf, es.map Ent.pr, h.pr⟩ + 1) ∨
     (l = 1 ∧ ∃ x : Nat, At G m0 u ⟨m, lf, es.map Ent.pr, (x, [])⟩ ∧ c0 = iV x ∧ k = 2 * meas G ⟨m, lf, es.map Ent.pr, (x, [])⟩) ∨
     (l = 0 ∧ ∃ v : Nat, At G m0 u ⟨m.set v true, lf, es.map Ent.pr, (v, nx G v)⟩ ∧ v1 = iV v ∧ v < G.length ∧ m.length = G.length ∧ k = 2 * meas G ⟨m.set v true, lf, es.map Ent.pr, (v, nx G v)⟩ + 2))
theorem bRow_at {m : List Bool} {v : Nat} (h : v < m.length) : (bRow m)[v]? = some (.bool (m.getD v false)) := by
  unfold bRow
  rw [List.getElem?_toArray, List.getElem?_map, List.getElem?_eq_getElem h, List.getD_eq_getElem?_getD, List.getElem?_eq_getElem h]
  rfl
theorem bRow_set (m : List Bool) (v : Nat) : (bRow m).setIfInBounds v (.bool true) = bRow (m.set v true) := by
  unfold bRow
  rw [List.setIfInBounds_toArray, List.map_set]
  rfl
theorem zg_at {G : Gr} {v : Nat} (h : v < (zg G).length) : (zg G)[v] = zs (nx G v) := by
  have h' : v < G.length := by simpa using h
  have e : nx G v = G[v] := by unfold nx; rw [List.getD_eq_getElem?_getD, List.getElem?_eq_getElem h']; rfl
  rw [e]
  simp [zg]
/-- a list's slice in lists that lie in memory -/
theorem ls_at {w : World} {LA : Option Addr} {G : Gr} (hL : LsAt w LA (zg G)) {v : Nat} (h : v < G.length) : ∃ b o A c, LA = some ⟨b, o, none⟩ ∧ b < w.heap.size ∧ w.cell? ⟨b, o + v, none⟩ = some (.slice A (nx G v).length c) ∧ RestAt w A (nx G v) c := by
  obtain ⟨b, o, A, c, h1, h2, h3, h4, h5⟩ := hL v (by simpa using h)
  rw [zg_at] at h3 h4 h5
  rw [zs_len] at h3 h4
  exact ⟨b, o, A, c, h1, h2, h3, h5, h4⟩
theorem ls_cell {w W : World} {LA : Option Addr} {G : Gr} {M : Nat} {m0 : List Bool} (hL : LsAt w LA (zg G)) (hm : Lies w M 4 (bRow m0)) (hb : But (· = M) w W) {v : Nat} (h : v < G.length) : ∃ b o A c, LA = some ⟨b, o, none⟩ ∧ W.cell? ⟨b, o + v, none⟩ = some (.slice A (nx G v).length c) ∧ RestAt w A (nx G v) c := by
  obtain ⟨b, o, A, c, h1, h2, h3, h4⟩ := ls_at hL h
  refine ⟨b, o, A, c, h1, cell_same h3 (hb.block b h2 (fun e => ?_)), h4⟩
  subst e
  obtain ⟨x, hx⟩ := marks_cell hm _ _ h3
  cases hx
section
variable {w wr : World} {M : Nat} {m : List Bool} {LV WV c0 c1 : Value} {lf : List Nat} {es : List Ent}
theorem mmD_mark (h : MmD w M m LV WV c0 c1 lf es wr) (hM : M < w.heap.size) (v : Nat) : MmD w M (m.set v true) LV WV c0 c1 lf es (wr.setCell ⟨M, v, none⟩ (.bool true)) := by
  have hb : But (· = M) wr (wr.setCell ⟨M, v, none⟩ (.bool true)) := (But.refl (· = M) wr).setCell (p := ⟨M, v, none⟩) (fun _ => rfl) _
  refine ⟨by have := lies_set h.mks v (.bool true); rwa [bRow_set] at this, lies_far h.wy (by show _ ≠ M; omega) _, lies_far h.hr (by show _ ≠ M; omega) _, own_but h.ow hb (fun k hk e => ?_), own_but h.ol hb (fun k hk e => ?_), h.but.trans hb, by simpa [World.setCell] using h.sz, h.rst⟩
  · have := (own_heap h.ow k hk).1; omega
  · have := (own_heap h.ol k hk).1; omega
theorem mmD_here (h : MmD w M m LV WV c0 c1 lf es wr) (hM : M < w.heap.size) (a b : Value) : MmD w M m LV WV a b lf es (wr.setRow (w.heap.size + 1) #[a, b]) := by
  have hb : But (· = w.heap.size + 1) wr (wr.setRow (w.heap.size + 1) #[a, b]) := (But.refl (· = w.heap.size + 1) wr).setRow (g := w.heap.size + 1) (fun _ => rfl) _
  refine ⟨hb.lies h.mks (by omega), hb.lies h.wy (by omega), lies_setRow h.hr _, own_but h.ow hb (fun k hk e => ?_), own_but h.ol hb (fun k hk e => ?_), h.but.setRow (fun x => by omega) _, by simpa using h.sz, h.rst⟩
  · have := (own_heap h.ow k hk).1; omega
  · have := (own_heap h.ol k hk).1; omega
theorem mmD_rest (h : MmD w M m LV WV c0 c1 lf es wr) (hM : M < w.heap.size) (b : Value) : MmD w M m LV WV c0 b lf es (wr.setCell ⟨w.heap.size + 1, 1, none⟩ b) := by
  have hb : But (· = w.heap.size + 1) wr (wr.setCell ⟨w.heap.size + 1, 1, none⟩ b) := (But.refl (· = w.heap.size + 1) wr).setCell (p := ⟨w.heap.size + 1, 1, none⟩) (fun _ => rfl) _
  refine ⟨hb.lies h.mks (by omega), hb.lies h.wy (by omega), lies_set h.hr 1 b, own_but h.ow hb (fun k hk e => ?_), own_but h.ol hb (fun k hk e => ?_), h.but.setCell (p := ⟨w.heap.size + 1, 1, none⟩) (fun (x : w.heap.size + 1 < w.heap.size) => by omega) _, by simpa [World.setCell] using h.sz, h.rst⟩
  · have := (own_heap h.ow k hk).1; omega
  · have := (own_heap h.ol k hk).1; omega
theorem mmD_left (h : MmD w M m LV WV c0 c1 lf es wr) (hM : M < w.heap.size) {o : Obj} {w1 : World} {v' : Value} {x : Nat} (hg : (wr.alloc o).grownBy w1 LV.ownBlock) (ho : OwnI w1 (w.heap.size + 2) v' (zs lf ++ [(x : Int)])) : MmD w M m v' WV c0 c1 (lf ++ [x]) es w1 := by
  have hb : But (fun k => some k = LV.ownBlock) wr w1 := ((But.refl _ wr).alloc o).trans (But.grown hg)
  have hP : ∀ k, some k = LV.ownBlock → w.heap.size + 2 ≤ k := fun k hk => (own_heap h.ol k hk.symm).1
  refine ⟨hb.lies h.mks (fun e => by have := hP _ e; omega), hb.lies h.wy (fun e => by have := hP _ e; omega), hb.lies h.hr (fun e => by have := hP _ e; omega), own_but h.ow hb (fun k hk e => ?_), by simpa [zs] using ho, h.but.step hb (fun k hk e => by have := hP _ e; omega), Nat.le_trans h.sz hb.size, h.rst⟩
  · obtain ⟨_, _, cs, hl⟩ := own_heap h.ol k e.symm
    exact own_ne h.ow hl (by decide) hk
theorem mmD_take (h : MmD w M m LV WV c0 c1 lf es wr) (hM : M < w.heap.size) {es' : List Ent} {e : Ent} (he : es = es' ++ [e]) {w1 : World} (ht : TakeW wr (w.heap.size + 2) w.heap.size es' w1) : ∃ WV', MmD w M m LV WV' c0 c1 lf es' w1 := by
  obtain ⟨WV', h1, h2, hb, _⟩ := ht
  refine ⟨WV', hb.lies h.mks (by omega), h1, hb.lies h.hr (by omega), h2, own_but h.ol hb (fun k hk e => by have := (own_heap h.ol k hk).1; omega), h.but.step hb (fun k hk e => by omega), Nat.le_trans h.sz hb.size, fun x hx => h.rst x (by rw [he]; exact List.mem_append_left _ hx)⟩
theorem mmD_put (h : MmD w M m LV WV c0 c1 lf es wr) (hM : M < w.heap.size) {e : Ent} (he : RestAt w e.A e.r e.c) {w1 : World} (ht : PutW wr (w.heap.size + 2) w.heap.size WV es e w1) : ∃ WV', MmD w M m LV WV' c0 c1 lf (es ++ [e]) w1 := by
  obtain ⟨WV', h1, h2, hb⟩ := ht
  have hP : ∀ k, (k = w.heap.size ∨ some k = WV.ownBlock) → k = w.heap.size ∨ w.heap.size + 2 ≤ k := fun k hk => hk.imp id (fun hk => (own_heap h.ow k hk.symm).1)
  refine ⟨WV', hb.lies h.mks (fun x => by have := hP _ x; omega), h1, hb.lies h.hr (fun x => by have := hP _ x; omega), h2, own_but h.ol hb (fun k hk x => ?_), h.but.step hb (fun k hk x => by have := hP _ x; omega), Nat.le_trans h.sz hb.size, fun x hx => ?_⟩
  · rcases x with x | x
    · have := (own_heap h.ol k hk).1; omega
    · obtain ⟨_, _, cs, hl⟩ := own_heap h.ow k x.symm
      exact own_ne h.ol hl (by decide) hk
  · rcases List.mem_append.1 hx with hx | hx
    · exact h.rst x hx
    · obtain rfl := List.mem_singleton.1 hx; exact he
theorem mmD_drewN (h : MmD w M m LV WV c0 c1 lf es wr) (q : Nat) : MmD w M m LV WV c0 c1 lf es (wr.drewN q) :=
  ⟨h.mks, h.wy, h.hr, h.ow, h.ol, h.but.drewN q, h.sz, h.rst⟩
end
set_option maxRecDepth 100000 in
set_option maxHeartbeats 4000000 in
theorem down_any (LA : Option Addr) (lc : Nat) (G : Gr) (hG : Ok G) (F0 : List Nat) (m0 : List Bool) (h0 : J G G.length F0 [] m0) (hn : G.length ≤ 100000) (u : Nat) (hu : u < G.length) (M mc : Nat) (w : World) (hL : LsAt w LA (zg G)) (hm : Lies w M 4 (bRow m0)) :
    Calls Tryz.prog 50 #[.slice LA G.length lc, iV u, .slice (some ⟨M, 0, none⟩) G.length mc] w (DownE G m0 u M w) := by
  have hlen := h0.len
  have hMw := lies_lt hm
  obtain ⟨n, hnn⟩ : ∃ n, n = G.length := ⟨_, rfl⟩
  have HM := Lib.hid hm
  have HL := Lib.hid hL
  have HG := Lib.hid hG
  have H0 := Lib.hid h0
  have HLEN := Lib.hid hlen
  have HN := Lib.hid hnn
  have HU := Lib.hid hu
  have HB := Lib.hid hn
  have HMW := Lib.hid hMw
  have JD := Lib.hid (fun k l a wr (h : JmD G m0 u LA lc M mc w k l a wr) => h)
  rw [← hnn]
  clear hm hL hG h0 hlen hnn hu hn hMw JD
  unfold iV at *
  go_enter Tryz.func50, Tryz.ntmps50
  go_wp2
  refine wp_scope_meas2 (JmD G m0 u LA lc M mc w) ?_ ?_
  · intro k hk
    have HK := Lib.hid hk
    clear hk
    rintro l a wr ⟨v1, LV, WV, c0, c1, m, lf, es, ⟨fu, rfl⟩, hM, (⟨rfl, h, hat, rfl, rfl, hi, rfl⟩ | ⟨rfl, x, hat, rfl, rfl⟩ | ⟨rfl, v, hat, rfl, hv, hml, rfl⟩)⟩
    · refine ⟨_, rfl, ?_⟩
      obtain ⟨hx, hA, hr, hc⟩ := h
      have g1 := lies_cell hM.hr 1
      simp only [List.getElem?_toArray, List.getElem?_cons_zero, List.getElem?_cons_succ, Ent.rv] at g1
      have HM2 := Lib.hid hM
      have e1 : G.length = n := HN.out.symm
      rw [e1]
      clear e1 hM
      cases hr with
      | nil =>
        have HAT := Lib.hid hat
        clear hat hi
        simp only [List.length_nil] at g1
        go_wp2
        go_step3
        have hn := HN.out
        subst hn
        exact ⟨_, Nat.lt_succ_self _, v1, LV, WV, iV hx, _, m, lf, es, frD_mk _ rfl, HM2.out, .inr (.inl ⟨rfl, hx, HAT.out, rfl, rfl⟩)⟩
      | cons v r =>
        obtain ⟨b, o, hAe, hbw, hcell⟩ := hi.1 0 (by simp)
        subst hAe
        have hlt := (at_len HG.out H0.out hat).2.2 v (by simp [Ent.pr])
        have hcap := hi.2
        simp only [List.length_cons] at g1 hcap
        have hin := HM2.out.but
        have hc0 : wr.cell? ⟨b, o, none⟩ = some (iV v) := cell_same (by simpa [zs] using hcell) (hin.block b hbw (fun e => by
          subst e
          obtain ⟨z, hz⟩ := marks_cell HM.out _ _ hcell
          cases hz))
        have f1 := lies_free HM2.out.hr 1
        have HAT := Lib.hid hat
        have HI := Lib.hid hi
        clear hat hi hcell hin
        unfold iV at hc0
        have hne : ((r.length : Int) + 1 == 0) = false := by simp; omega
        by_cases h1 : hc = 1
        · have hr0 : r = [] := List.length_eq_zero_iff.1 (by omega)
          subst hr0 h1
          simp only [List.length_nil, Nat.zero_add] at g1
          clear hne
          go_upto_region 9 with (fail)
          go_region
          go_step
          have M3 := Lib.hid (mmD_drewN (mmD_rest HM2.out HMW.out (.slice (some ⟨b, o, none⟩) 0 0)) 1)
          have ed : ∀ W : World, W.drew = W.drewN 1 := fun _ => rfl
          rw [ed]
          clear ed
          clear g1 HM2 hc0 f1
          generalize (wr.setCell ⟨w.heap.size + 1, 1, none⟩ (.slice (some ⟨b, o, none⟩) 0 0)).drewN 1 = W at *
          have hml := (at_len HG.out H0.out HAT.out).2.1
          have b1 := (lies_cell M3.out.mks v).trans (bRow_at (m := m) (v := v) (by omega))
          have vi : (v : Int) < (n : Int) := by have := HN.out; omega
          have vn : v < n := by have := HN.out; omega
          have HI3 := Lib.hid (show RestAt w (some ⟨b, o, none⟩) [] 0 from ⟨intsAt_nil _ _, Nat.le_refl 0⟩)
          have RG := Lib.hid (rng2 M3.out.hr)
          clear hml HI
          cases hmv : m.getD v false with
          | true =>
            rw [hmv] at b1
            go_wp2
            go_step3
            have hn := HN.out
            subst hn
            refine ⟨_, ?_, .int .i64 (v : Int), LV, WV, iV hx, .slice (some ⟨b, o, none⟩) 0 0, m, lf, es, frD_mk _ rfl, M3.out, .inl ⟨rfl, ⟨hx, (some ⟨b, o, none⟩), [], 0⟩, HAT.out.seen hmv, rfl, rfl, HI3.out, rfl⟩⟩
            have := meas_seen G m lf (es.map Ent.pr) hx v []
            simp only [Ent.pr] at this ⊢
            omega
          | false =>
            rw [hmv] at b1
            have HMV := Lib.hid hmv
            have KP := Lib.hid (show Calls Tryz.prog 73 #[.pointer (some ⟨w.heap.size, 0, none⟩), .agg #[iV hx, .slice (some ⟨b, o, none⟩) 0 0]] W fun r' w' => r' = .returned (.tuple #[]) ∧ PutW W (w.heap.size + 2) w.heap.size WV es ⟨hx, (some ⟨b, o, none⟩), [], 0⟩ w' from put_any (w.heap.size + 2) w.heap.size WV es ⟨hx, (some ⟨b, o, none⟩), [], 0⟩ W M3.out.wy M3.out.ow M3.out.sz (by have := (at_len HG.out H0.out HAT.out).1; have := HB.out; simp only [List.length_map] at *; omega))
            clear hmv
            go_wp2_with (first
              | (refine wpList_load_mid rfl 99 _ rfl (w.heap.size + 1) 0 rfl [iV hx, .slice (some ⟨b, o, none⟩) 0 0] _ RG.out Tryz.underlying99 rfl (by kernel_rfl) ?_)
              | (go_at_call 73; (with_reducible refine KP.out.mono ?_); rintro e w1 ⟨rfl, hp⟩; obtain ⟨WV', hM4⟩ := mmD_put M3.out HMW.out (e := ⟨hx, (some ⟨b, o, none⟩), [], 0⟩) HI3.out hp; have M4 := Lib.hid hM4; clear hM4 hp))
            go_step3
            have hn := HN.out
            subst hn
            have hml := (at_len HG.out H0.out HAT.out).2.1
            have hdn := HAT.out.down HMV.out
            refine ⟨_, ?_, .int .i64 (v : Int), LV, WV', _, _, m, lf, es ++ [⟨hx, (some ⟨b, o, none⟩), [], 0⟩], frD_mk _ rfl, M4.out, .inr (.inr ⟨rfl, v, by rw [List.map_append]; exact hdn, rfl, hlt, hml, rfl⟩)⟩
            have := meas_down G m lf (es.map Ent.pr) hx v [] (by omega) HMV.out
            simp only [List.map_append, Ent.pr, List.map_cons, List.map_nil] at this ⊢
            omega
        · go_upto_region 9 with (fail)
          go_region
          go_step
          have M3 := Lib.hid (mmD_drewN (mmD_rest HM2.out HMW.out (.slice (some ⟨b, o + 1, none⟩) r.length (hc - 1))) 1)
          have ed : ∀ W : World, W.drew = W.drewN 1 := fun _ => rfl
          rw [ed]
          clear ed
          clear g1 HM2 hc0 f1
          generalize (wr.setCell ⟨w.heap.size + 1, 1, none⟩ (.slice (some ⟨b, o + 1, none⟩) r.length (hc - 1))).drewN 1 = W at *
          have hml := (at_len HG.out H0.out HAT.out).2.1
          have b1 := (lies_cell M3.out.mks v).trans (bRow_at (m := m) (v := v) (by omega))
          have vi : (v : Int) < (n : Int) := by have := HN.out; omega
          have vn : v < n := by have := HN.out; omega
          have HI3 := Lib.hid (show RestAt w (some ⟨b, o + 1, none⟩) r (hc - 1) from ⟨fun i hi => by
            obtain ⟨b', o', e1, e2, e3⟩ := HI.out.1 (i + 1) (by simp [zs] at hi ⊢; omega)
            injection e1 with e1
            injection e1 with e1 e4
            subst e1 e4
            refine ⟨b, o + 1, rfl, e2, ?_⟩
            rw [show o + 1 + i = o + (i + 1) by omega, e3]
            simp [zs], by show r.length ≤ hc - 1; omega⟩)
          have RG := Lib.hid (rng2 M3.out.hr)
          clear hml HI
          cases hmv : m.getD v false with
          | true =>
            rw [hmv] at b1
            go_wp2
            go_step3
            have hn := HN.out
            subst hn
            refine ⟨_, ?_, .int .i64 (v : Int), LV, WV, iV hx, .slice (some ⟨b, o + 1, none⟩) r.length (hc - 1), m, lf, es, frD_mk _ rfl, M3.out, .inl ⟨rfl, ⟨hx, (some ⟨b, o + 1, none⟩), r, hc - 1⟩, HAT.out.seen hmv, rfl, rfl, HI3.out, rfl⟩⟩
            have := meas_seen G m lf (es.map Ent.pr) hx v r
            simp only [Ent.pr] at this ⊢
            omega
          | false =>
            rw [hmv] at b1
            have HMV := Lib.hid hmv
            have KP := Lib.hid (show Calls Tryz.prog 73 #[.pointer (some ⟨w.heap.size, 0, none⟩), .agg #[iV hx, .slice (some ⟨b, o + 1, none⟩) r.length (hc - 1)]] W fun r' w' => r' = .returned (.tuple #[]) ∧ PutW W (w.heap.size + 2) w.heap.size WV es ⟨hx, (some ⟨b, o + 1, none⟩), r, hc - 1⟩ w' from put_any (w.heap.size + 2) w.heap.size WV es ⟨hx, (some ⟨b, o + 1, none⟩), r, hc - 1⟩ W M3.out.wy M3.out.ow M3.out.sz (by have := (at_len HG.out H0.out HAT.out).1; have := HB.out; simp only [List.length_map] at *; omega))
            clear hmv
            go_wp2_with (first
              | (refine wpList_load_mid rfl 99 _ rfl (w.heap.size + 1) 0 rfl [iV hx, .slice (some ⟨b, o + 1, none⟩) r.length (hc - 1)] _ RG.out Tryz.underlying99 rfl (by kernel_rfl) ?_)
              | (go_at_call 73; (with_reducible refine KP.out.mono ?_); rintro e w1 ⟨rfl, hp⟩; obtain ⟨WV', hM4⟩ := mmD_put M3.out HMW.out (e := ⟨hx, (some ⟨b, o + 1, none⟩), r, hc - 1⟩) HI3.out hp; have M4 := Lib.hid hM4; clear hM4 hp))
            go_step3
            have hn := HN.out
            subst hn
            have hml := (at_len HG.out H0.out HAT.out).2.1
            have hdn := HAT.out.down HMV.out
            refine ⟨_, ?_, .int .i64 (v : Int), LV, WV', _, _, m, lf, es ++ [⟨hx, (some ⟨b, o + 1, none⟩), r, hc - 1⟩], frD_mk _ rfl, M4.out, .inr (.inr ⟨rfl, v, by rw [List.map_append]; exact hdn, rfl, hlt, hml, rfl⟩)⟩
            have := meas_down G m lf (es.map Ent.pr) hx v r (by omega) HMV.out
            simp only [List.map_append, Ent.pr, List.map_cons, List.map_nil] at this ⊢
            omega
    · refine ⟨_, rfl, ?_⟩
      have hl := at_len HG.out H0.out hat
      simp only [List.length_map] at hl
      have g0 := lies_cell hM.hr 0
      simp only [List.getElem?_toArray, List.getElem?_cons_zero] at g0
      have HM2 := Lib.hid hM
      have HAT := Lib.hid hat
      have e1 : G.length = n := HN.out.symm
      rw [e1]
      obtain ⟨hl1, hl2, _⟩ := hl
      have HL1 := Lib.hid hl1
      have LN := Lib.hid (lies_new wr 3 #[iV x])
      have OL := Lib.hid (World.ownsRow.alloc hM.ol (.cells #[iV x] 3))
      have SZ := Lib.hid (show w.heap.size + 2 ≤ (wr.alloc (.cells #[iV x] 3)).heap.size by have := hM.sz; simp; omega)
      have LB := Lib.hid (show (zs lf).length ≤ 100000000 by have := HB.out; rw [zs_len]; omega)
      clear e1 hM hat hl1 hl2
      unfold iV at *
      go_upto_region 13 with (refine wpList_app_int rfl _ _ rfl (w.heap.size + 2) wr.heap.size x LV (zs lf) rfl OL.out rfl LN.out LB.out SZ.out ?_; intro v' w1 h1 h2; have O1 := Lib.hid h1; have G1 := Lib.hid h2; clear h1 h2)
      have M1 := Lib.hid (mmD_left HM2.out HMW.out G1.out O1.out)
      obtain ⟨LA', LC', hv'⟩ := own_slice O1.out
      have HV' := Lib.hid hv'
      clear hv'
      have w0 := lies_cell M1.out.wy 0
      simp only [List.getElem?_toArray, List.getElem?_cons_zero] at w0
      clear g0 HM2 LN OL SZ LB G1
      rcases es.eq_nil_or_concat with he | ⟨es', e, he⟩
      · subst he
        obtain ⟨WA, WC, hWV⟩ := own_slice M1.out.ow
        rw [List.length_nil] at hWV
        subst hWV
        go_wp2
        change bodyPost Tryz.prog Tryz.f50 (DownE G m0 u M w) .ret _ _
        go_ret
        refine ⟨LA', LC', lf ++ [x], m, by rw [HV'.out]; simp [zs], ?_, M1.out.mks, M1.out.but, .inr ⟨at_first HAT.out, lf, x, HAT.out, rfl⟩⟩
        have h5 := own_base (B' := w.heap.size) M1.out.ol (fun k hk => by have := (own_heap M1.out.ol k hk).1; omega)
        rw [HV'.out] at h5
        simpa [zs, OwnI] using h5
      · rw [List.concat_eq_append] at he
        obtain ⟨WA, WC, hWV⟩ := own_slice M1.out.ow
        have hel : es.length = es'.length + 1 := by rw [he]; simp
        rw [hel] at hWV
        subst hWV
        have KT := Lib.hid (take_any (w.heap.size + 2) w.heap.size _ es' e w1 M1.out.wy (by rw [← he]; exact M1.out.ow) M1.out.sz (by have := HL1.out; have := HB.out; omega))
        have HE := Lib.hid he
        clear he hel
        go_upto_region 15 with (fail)
        have hne : ((es'.length : Int) + 1 == 0) = false := by simp; omega
        go_wp2_with (first
          | (go_at_call 74; (with_reducible refine KT.out.mono ?_); rintro r w2 ⟨rfl, ht⟩; obtain ⟨WV', hM2⟩ := mmD_take M1.out HMW.out HE.out ht; have HR2 := Lib.hid hM2.hr; have M3 := Lib.hid (mmD_here hM2 HMW.out (iV e.x) e.rv); clear ht hM2)
          | (refine wpList_store_row rfl 99 _ _ rfl (w.heap.size + 1) #[iV e.x, e.rv] rfl rfl 99 _ HR2.out (by kernel_rfl) rfl (two_one rfl rfl) ?_))
        go_step3
        have hn := HN.out
        subst hn
        have hat2 := HAT.out
        rw [HE.out, List.map_append] at hat2
        refine ⟨_, ?_, v1, v', WV', iV e.x, e.rv, m, lf ++ [x], es', frD_mk _ rfl, M3.out, .inl ⟨rfl, e, hat2.up, rfl, rfl, M1.out.rst e (by rw [HE.out]; simp), rfl⟩⟩
        have := meas_up G m lf (lf ++ [x]) (es'.map Ent.pr) x e.x e.r
        rw [HE.out, List.map_append]
        show 2 * meas G ⟨m, lf ++ [x], es'.map Ent.pr, (e.x, e.r)⟩ + 1 < 2 * meas G ⟨m, lf, es'.map Ent.pr ++ [(e.x, e.r)], (x, [])⟩
        omega
    · refine ⟨_, rfl, ?_⟩
      have b1 := (lies_cell hM.mks v).trans (bRow_at (m := m) (v := v) (by omega))
      have f1 := lies_free hM.mks v
      have vi : (v : Int) < (n : Int) := by have := HN.out; omega
      have vn : v < n := by have := HN.out; omega
      have e1 : G.length = n := HN.out.symm
      rw [e1]
      clear e1 hml
      have HM2 := Lib.hid hM
      have HAT := Lib.hid hat
      have HV := Lib.hid hv
      clear hM hat hv
      unfold iV at *
      go_upto_region 7 with (fail)
      have M3 := Lib.hid (mmD_mark HM2.out HMW.out v)
      clear b1 f1 HM2
      generalize wr.setCell ⟨M, v, none⟩ (.bool true) = W at *
      obtain ⟨b, o, A, c, eL, c2, iA⟩ := ls_cell HL.out HM.out M3.out.but HV.out
      have IA := Lib.hid iA
      have eLr := Lib.hid eL
      subst eL
      obtain ⟨nl, hnl⟩ : ∃ nl, nl = (nx G v).length := ⟨_, rfl⟩
      rw [← hnl] at c2
      have NL := Lib.hid hnl
      have MR := Lib.hid (mmD_here M3.out HMW.out (.int .i64 (v : Int)) (.slice A nl c))
      have HR := Lib.hid M3.out.hr
      clear iA eLr hnl
      go_wp2_with (refine wpList_store_row rfl 99 _ _ rfl (w.heap.size + 1) #[.int .i64 (v : Int), .slice A nl c] rfl rfl 99 _ HR.out (by kernel_rfl) rfl (two_one rfl rfl) ?_)
      go_step3
      go_step
      go_step
      have hn := HN.out
      subst hn
      refine HK.out _ 2 _ _ _ (Nat.lt_succ_self _) rfl ⟨.int .i64 (v : Int), LV, WV, iV v, .slice A nl c, _, lf, es, frD_mk _ rfl, MR.out, .inl ⟨rfl, ⟨v, A, nx G v, c⟩, HAT.out, rfl, (by rw [NL.out]; rfl), IA.out, rfl⟩⟩
  · intro hjump
    have HJ := Lib.hid hjump
    clear hjump
    have X0 : MmD w M m0 (.slice none 0 0) (.slice none 0 0) (.int .i64 0) (.slice none 0 0) [] [] ((w.alloc (.cells #[.slice none 0 0] 97)).alloc (.cells #[.int .i64 0, .slice none 0 0] 99)) := by
      have s1 : (w.alloc (.cells #[.slice none 0 0] 97)).heap.size = w.heap.size + 1 := by simp
      have l2 := lies_new (w.alloc (.cells #[.slice none 0 0] 97)) 99 #[.int .i64 0, .slice none 0 0]
      rw [s1] at l2
      exact ⟨lies_alloc (lies_alloc HM.out _) _, lies_alloc (lies_new _ _ _) _, l2, World.ownsRow_nil _ _ _ _, ownI_nil _ _, ((But.refl _ w).alloc _).alloc _, by simp, fun e he => by cases he⟩
    have M0 := Lib.hid X0
    clear X0
    go_upto_region 4 with (fail)
    generalize (w.alloc (.cells #[.slice none 0 0] 97)).alloc (.cells #[.int .i64 0, .slice none 0 0] 99) = W at *
    have b1 := (lies_cell M0.out.mks u).trans (bRow_at (m := m0) (v := u) (by have := HLEN.out; have := HU.out; omega))
    have ui : (u : Int) < (n : Int) := by have := HN.out; have := HU.out; omega
    have un : u < n := by have := HN.out; have := HU.out; omega
    cases hmu : m0.getD u false with
    | true =>
      rw [hmu] at b1
      have HMU := Lib.hid hmu
      clear hmu
      go_wp2
      change bodyPost Tryz.prog Tryz.f50 (DownE G m0 u M w) .ret _ _
      go_ret
      exact ⟨none, 0, [], m0, rfl, ownI_nil _ _, M0.out.mks, M0.out.but, .inl ⟨HMU.out, rfl, rfl⟩⟩
    | false =>
      rw [hmu] at b1
      have HMU := Lib.hid hmu
      clear hmu
      go_wp2
      go_step3
      go_step
      go_step
      have hn := HN.out
      subst hn
      exact HJ.out _ 0 _ _ _ rfl ⟨iV u, .slice none 0 0, .slice none 0 0, _, _, m0, [], [], frD_mk _ rfl, M0.out, .inr (.inr ⟨rfl, u, .start HMU.out (by have := HLEN.out; have := HU.out; omega), rfl, HU.out, HLEN.out, rfl⟩)⟩
end Go.Proofs.YtpddamloajpiiaaGreatDoor

/-
What is proved here: Round's closure, which tells a component of one number that doesn't need itself, by a contract.
-/
set_option linter.unusedSimpArgs false
set_option linter.unusedVariables false
namespace Go.Proofs.YtpddamloajpiiaaGreatDoor
open Go.Cmp Go.RowKit
theorem has_at (l : List Int) (x : Int) (i : Nat) (hi : i < l.length) (h : x = l[i]) : l.contains x = true := by
  rw [List.contains_iff_mem]; rw [h]; exact List.getElem_mem hi
theorem has_not (l : List Int) (x : Int) (h : ∀ j (hj : j < l.length), x ≠ l[j]) : l.contains x = false := by
  rw [Bool.eq_false_iff]
  intro hc
  obtain ⟨j, hj, e⟩ := List.getElem_of_mem (List.contains_iff_mem.1 hc)
  exact h j hj e.symm
set_option maxRecDepth 100000 in
set_option maxHeartbeats 2000000 in
theorem index_any (A : Option Addr) (c : Nat) (l : List Int) (x : Int) (w : World) (hL : IntsAt w A l) (hn : l.length ≤ 1000000000) :
    Calls Tryz.prog 111 #[.slice A l.length c, .int .i64 x] w fun e w' => (∃ z, e = .returned (.int .i64 z) ∧ Fst (l.contains x) z) ∧ w' = w := by
  have HL := Lib.hid hL
  obtain ⟨n, hnn⟩ : ∃ n, n = l.length := ⟨_, rfl⟩
  have HN := Lib.hid hnn
  obtain ⟨rr, hrr⟩ : ∃ rr, rr = l.contains x := ⟨_, rfl⟩
  have HRR := Lib.hid hrr
  rw [← hnn] at hn ⊢
  rw [← hrr]
  clear hL hnn hrr
  go_enter Tryz.func111, Tryz.ntmps111
  go_wp2
  go_loopw [5, 8] (fun _ v8 wr => ∃ i : Nat, i ≤ n ∧ v8 = .int .i64 (i : Int) ∧ wr = w ∧ Hid (∀ j (hj : j < l.length), j < i → x ≠ l[j])) (fun _ v8 _ => n - (intOf v8).toNat)
  case atStart => exact ⟨0, Nat.zero_le _, rfl, rfl, fun j _ hj => absurd hj (Nat.not_lt_zero _)⟩
  case round =>
    obtain ⟨i, hi, rfl, rfl, hA⟩ := hrel
    by_cases hlt : i < n
    · have li : (i : Int) < (n : Int) := by omega
      have hiN : i < l.length := by rw [← HN.out]; exact hlt
      obtain ⟨b, o, eA, hbw, cc⟩ := HL.out i hiN
      subst eA
      obtain ⟨z, hz⟩ : ∃ z, z = l[i] := ⟨_, rfl⟩
      rw [← hz] at cc
      have HZ := Lib.hid hz
      clear hz
      unfold iV at cc
      by_cases hp : x = z
      · have hb : (x == z) = true := by simp [hp]
        have HP := Lib.hid hp
        clear hp
        go_wp2
        go_ret
        exact ⟨⟨_, rfl, .inr ⟨HRR.out.trans (has_at _ _ i hiN (by rw [← HZ.out]; exact HP.out)), i, rfl⟩⟩, rfl⟩
      · have hb : (x == z) = false := by simp [hp]
        have HP := Lib.hid hp
        clear hp
        go_wp2
        go_roundw
        case rel =>
          refine ⟨i + 1, by omega, by go_num, (by first | rfl | trivial), fun j hj hji => ?_⟩
          rcases Nat.lt_or_ge j i with h | h
          · exact hA j hj h
          · obtain rfl : j = i := by omega
            rw [← HZ.out]; exact HP.out
        case measure => first | (simp [intOf]; done) | (simp [intOf]; omega)
    · obtain rfl : i = n := by omega
      have li : ¬ (i : Int) < (i : Int) := by omega
      go_wp2
      go_ret
      exact ⟨⟨_, rfl, .inl ⟨HRR.out.trans (has_not _ _ (fun j hj => hA j hj (by rw [HN.out]; exact hj))), rfl⟩⟩, rfl⟩
set_option maxRecDepth 100000 in
theorem has_any (A : Option Addr) (c : Nat) (l : List Int) (x : Int) (w : World) (hL : IntsAt w A l) (hn : l.length ≤ 1000000000) :
    Calls Tryz.prog 82 #[.slice A l.length c, .int .i64 x] w fun e w' => e = .returned (.bool (l.contains x)) ∧ w' = w := by
  have K := Lib.hid (index_any A c l x w hL hn)
  obtain ⟨b, hb⟩ : ∃ b, b = l.contains x := ⟨_, rfl⟩
  rw [← hb] at K ⊢
  clear hL hb
  generalize l.length = n at *
  go_enter Tryz.func82, Tryz.ntmps82
  go_upto_region 1 with (fail)
  have K1 := K.out
  rcases Bool.eq_false_or_eq_true b with hb | hb
  · subst hb
    go_wp2_with (go_at_call 111; (with_reducible refine K1.mono ?_); rintro e w1 ⟨⟨z, rfl, hz⟩, rfl⟩; obtain ⟨k, rfl⟩ := fst_true hz; have k0 : (0 : Int) ≤ (k : Int) := by omega)
    go_ret
    exact ⟨by simp, rfl⟩
  · subst hb
    go_wp2_with (go_at_call 111; (with_reducible refine K1.mono ?_); rintro e w1 ⟨⟨z, rfl, hz⟩, rfl⟩; obtain rfl := fst_false hz)
    go_ret
    exact ⟨by simp, rfl⟩
/-- a component that does not go round -/
def stillP (G : Gr) (r : List Nat) : Bool := decide (r.length = 1) && !(zs (nx G (r.headD 0))).contains (r.headD 0 : Int)
set_option maxRecDepth 100000 in
set_option maxHeartbeats 2000000 in
theorem still_any (LA : Option Addr) (lc : Nat) (G : Gr) (hg : ∀ l ∈ G, l.length ≤ 1024) (BB : Nat) (A : Option Addr) (c : Nat) (r : List Nat) (hr : ∀ v ∈ r, v < G.length) (w : World) (hB : Lies w BB 23 #[.slice LA G.length lc]) (hL : LsAt w LA (zg G)) (hI : IntsAt w A (zs r)) :
    Calls Tryz.prog 81 #[.slice A r.length c, .pointer (some ⟨BB, 0, none⟩)] w fun e w' => e = .returned (.bool (stillP G r)) ∧ ∃ q, w' = w.drewN q := by
  have cb := lies_cell hB 0
  simp only [List.getElem?_toArray, List.getElem?_cons_zero] at cb
  unfold stillP
  by_cases h1 : r.length = 1
  · obtain ⟨x, rfl⟩ : ∃ x, r = [x] := by
      match r, h1 with
      | [x], _ => exact ⟨x, rfl⟩
    have hx := hr x (by simp)
    obtain ⟨b, o, eA, _, cx⟩ := hI 0 (by simp [zs])
    obtain ⟨bL, oL, AL, cL, eL, hbl, cl, hRst⟩ := ls_at hL hx
    subst eA eL
    simp only [zs, List.map_cons, List.map_nil, List.getElem_cons_zero, Nat.add_zero] at cx
    unfold iV at cx
    have hnx : (nx G x).length ≤ 1024 := by
      unfold nx
      rw [List.getD_eq_getElem?_getD, List.getElem?_eq_getElem hx]
      exact hg _ (List.getElem_mem hx)
    have KH := Lib.hid (fun (q : Nat) => has_any AL cL (zs (nx G x)) (x : Int) (w.drewN q) (intsAt_below hRst.1 (below_drewN (Below.refl _ w) q)) (by simp [zs]; omega))
    rw [zs_len] at KH
    have xi : (x : Int) < (G.length : Int) := by omega
    obtain ⟨n, hn⟩ : ∃ n, n = G.length := ⟨_, rfl⟩
    obtain ⟨m, hm⟩ : ∃ m, m = (nx G x).length := ⟨_, rfl⟩
    obtain ⟨hc, hhc⟩ : ∃ hc, hc = (zs (nx G x)).contains (x : Int) := ⟨_, rfl⟩
    rw [← hn] at cb xi
    rw [← hm] at KH cl hnx
    rw [← hhc] at KH
    have HC := Lib.hid hhc
    clear hB hL hI hr hRst hn hm hhc hx hg
    go_enter Tryz.func81, Tryz.ntmps81
    go_upto_region 1 with (fail)
    go_quiet ((go_at_call 82; exact Calls.quiet_of_same (KH.out _)))
    go_wp2
    go_ret
    exact ⟨by rw [HC.out]; simp, _, rfl⟩
  · have h2 : ((r.length : Int) == 1) = false := by simp; omega
    obtain ⟨n, hn⟩ : ∃ n, n = r.length := ⟨_, rfl⟩
    rw [← hn] at h1 h2 ⊢
    clear hB hL hI hr hn hg
    go_enter Tryz.func81, Tryz.ntmps81
    go_upto_region 1 with (fail)
    go_quiet (fail)
    go_wp2
    go_ret
    exact ⟨by simp [h1], _, rfl⟩
end Go.Proofs.YtpddamloajpiiaaGreatDoor

/-
What is proved here: package comp's check of needs, by a contract.
-/
set_option linter.unusedSimpArgs false
set_option linter.unusedVariables false
namespace Go.Proofs.YtpddamloajpiiaaGreatDoor
open Go.Cmp Go.RowKit
/-- what is wrong with needs -/
def chk (N : List (List Int)) : Int := if 1024 < N.length ∨ N.any longP = true then 2 else if N.any (badP N.length) = true then 1 else 0
theorem below_alloc (w : World) (o : Obj) : Below w.heap.size w (w.alloc o) := (Below.refl _ w).alloc (Nat.le_refl _) _
set_option maxRecDepth 100000 in
set_option maxHeartbeats 2000000 in
theorem check_any (A : Option Addr) (c : Nat) (N : List (List Int)) (w : World) (hL : LsAt w A N) (hn : N.length ≤ 1000000000) (hs : ∀ l ∈ N, l.length ≤ 1000000000) :
    Calls Tryz.prog 28 #[.slice A N.length c] w fun e w' => e = .returned (.int .i64 (chk N)) ∧ Below w.heap.size w w' := by
  have b1 := below_alloc w (.cells #[.slice A N.length c] 23)
  have l1 := lsAt_below hL b1
  have KA := Lib.hid (con29_any A c N _ l1 hn)
  have LB := Lib.hid (lies_new w 23 #[.slice A N.length c])
  have HB := Lib.hid b1
  have HL := Lib.hid l1
  have HS := Lib.hid hs
  have HH := Lib.hid hn
  have c0 := lies_cell LB.out 0
  simp only [List.getElem?_toArray, List.getElem?_cons_zero] at c0
  unfold chk
  obtain ⟨n, hnn⟩ : ∃ n, n = N.length := ⟨_, rfl⟩
  have HN := Lib.hid hnn
  rw [← hnn] at KA LB HB HL c0 ⊢
  clear hL hn hs hnn b1 l1
  obtain ⟨r, hr⟩ : ∃ r, r = (if 1024 < n ∨ N.any longP = true then (2 : Int) else if N.any (badP n) = true then 1 else 0) := ⟨_, rfl⟩
  rw [← hr]
  have HR := Lib.hid hr
  clear hr
  by_cases h1 : 1024 < n
  · have h1i : (1024 : Int) < (n : Int) := by omega
    have e2 : r = 2 := by rw [HR.out, if_pos (.inl h1)]
    clear HR
    subst e2
    go_enter Tryz.func28, Tryz.ntmps28
    go_wp2
    go_ret
    exact ⟨rfl, HB.out⟩
  · have h1i : ¬ (1024 : Int) < (n : Int) := by omega
    cases hb : N.any longP with
    | true =>
      rw [hb] at KA
      have e2 : r = 2 := by rw [HR.out, if_pos (.inr hb)]
      clear HR hb
      subst e2
      go_enter Tryz.func28, Tryz.ntmps28
      go_upto_region 2 with (fail)
      generalize w.alloc (.cells #[.slice A n c] 23) = X at *
      go_wp2_with (go_at_call 42; (with_reducible refine KA.out.mono ?_); rintro e w1 ⟨rfl, rfl⟩)
      go_ret
      exact ⟨rfl, HB.out⟩
    | false =>
      rw [hb] at KA
      have HR2 := Lib.hid (show r = if N.any (badP n) = true then (1 : Int) else 0 by rw [HR.out, if_neg (by rw [hb]; simp; omega)])
      clear HR hb
      go_enter Tryz.func28, Tryz.ntmps28
      go_upto_region 2 with (fail)
      generalize w.alloc (.cells #[.slice A n c] 23) = X at *
      go_upto_region 4 with (go_at_call 42; (with_reducible refine KA.out.mono ?_); rintro e w1 ⟨rfl, rfl⟩)
      generalize w1 = Y at *
      have L1 := lies_new Y 65 #[.nilFunc]
      have c1 := lies_cell L1 0
      have f1 := lies_free L1 0
      simp only [List.getElem?_toArray, List.getElem?_cons_zero] at c1
      clear c0
      have c0 := lies_cell (lies_alloc LB.out (.cells #[.nilFunc] 65)) 0
      simp only [List.getElem?_toArray, List.getElem?_cons_zero] at c0
      have L2 := Lib.hid L1
      clear L1
      go_upto_region 5 with (fail)
      have hb4 := below_alloc Y (.cells #[.func (.func 43) #[] #[.pointer (some ⟨w.heap.size, 0, none⟩)]] 65)
      have LN := lies_new Y 65 #[.func (.func 43) #[] #[.pointer (some ⟨w.heap.size, 0, none⟩)]]
      have LB2 := Lib.hid (lies_alloc LB.out (.cells #[.func (.func 43) #[] #[.pointer (some ⟨w.heap.size, 0, none⟩)]] 65))
      have HL2 := Lib.hid (lsAt_below HL.out hb4)
      have HB2 := Lib.hid (HB.out.trans (hb4.mono HB.out.size))
      generalize Y.alloc (.cells #[.func (.func 43) #[] #[.pointer (some ⟨w.heap.size, 0, none⟩)]] 65) = Z at *
      have KB := Lib.hid (con32_any A c N Z HL2.out HH.out HS.out n c A w.heap.size Y.heap.size LB2.out LN)
      rw [← HN.out] at KB
      clear c0 c1 f1 LN hb4
      have c0 := lies_cell LB2.out 0
      simp only [List.getElem?_toArray, List.getElem?_cons_zero] at c0
      cases hp : N.any (badP n) with
      | true =>
        rw [hp] at KB
        have e2 : r = 1 := by rw [HR2.out, if_pos hp]
        clear HR2 hp
        subst e2
        go_wp2_with (go_at_call 42; (with_reducible refine KB.out.mono ?_); rintro e w1 ⟨rfl, rfl⟩)
        go_ret
        exact ⟨rfl, HB2.out⟩
      | false =>
        rw [hp] at KB
        have e2 : r = 0 := by rw [HR2.out, if_neg (by rw [hp]; simp)]
        clear HR2 hp
        subst e2
        go_wp2_with (go_at_call 42; (with_reducible refine KB.out.mono ?_); rintro e w1 ⟨rfl, rfl⟩)
        go_ret
        exact ⟨rfl, HB2.out⟩
end Go.Proofs.YtpddamloajpiiaaGreatDoor

/-
What is proved here: package comp's lists turned, by a contract.
-/
set_option linter.unusedSimpArgs false
set_option linter.unusedVariables false
namespace Go.Cmp
/-- lists turned, as far as the first i lists and j numbers of the next -/
structure Tr (G : Gr) (i j : Nat) (T : Gr) : Prop where
  len : T.length = G.length
  mem : ∀ v x, x ∈ nx T v ↔ (x < i ∧ v ∈ nx G x) ∨ (x = i ∧ v ∈ (nx G i).take j)
  big : ∀ v, (nx T v).length ≤ i * 1024 + j
theorem nx_set (T : Gr) (v k : Nat) (l : List Nat) : nx (T.set v l) k = if v = k ∧ k < T.length then l else nx T k := by
  unfold nx
  rw [List.getD_eq_getElem?_getD, List.getElem?_set]
  by_cases e : v = k
  · subst e
    by_cases h : v < T.length
    · simp [h]
    · simp [h, List.getD_eq_getElem?_getD]
  · rw [if_neg e, if_neg (fun h => e h.1), ← List.getD_eq_getElem?_getD]
theorem tr_0 (G : Gr) : Tr G 0 0 (List.replicate G.length []) := by
  have e : ∀ v, nx (List.replicate G.length ([] : List Nat)) v = [] := fun v => by
    unfold nx
    rw [List.getD_eq_getElem?_getD, List.getElem?_replicate]
    split <;> rfl
  exact ⟨by simp, fun v x => by rw [e]; simp, fun v => by rw [e]; simp⟩
theorem tr_step {G : Gr} (hG : Ok G) {i j : Nat} {T : Gr} (h : Tr G i j T) (hi : i < G.length) (hj : j < (nx G i).length) : Tr G i (j + 1) (T.set (nx G i)[j] (nx T (nx G i)[j] ++ [i])) := by
  have hv : (nx G i)[j] < T.length := by rw [h.len]; exact (nx_lt hG (List.getElem_mem hj)).1
  refine ⟨by simp [h.len], fun v x => ?_, fun v => ?_⟩
  · rw [nx_set, List.take_succ_eq_append_getElem hj]
    by_cases e : (nx G i)[j] = v
    · subst e
      rw [if_pos ⟨rfl, hv⟩]
      simp only [List.mem_append, List.mem_singleton, h.mem]
      constructor
      · rintro ((h1 | h1) | h1)
        · exact .inl h1
        · exact .inr ⟨h1.1, .inl h1.2⟩
        · exact .inr ⟨h1, .inr trivial⟩
      · rintro (h1 | ⟨h1, h2 | h2⟩)
        · exact .inl (.inl h1)
        · exact .inl (.inr ⟨h1, h2⟩)
        · exact .inr h1
    · rw [if_neg (fun x => e x.1), h.mem]
      simp only [List.mem_append, List.mem_singleton]
      constructor
      · rintro (h1 | h1)
        · exact .inl h1
        · exact .inr ⟨h1.1, .inl h1.2⟩
      · rintro (h1 | ⟨h1, h2 | h2⟩)
        · exact .inl h1
        · exact .inr ⟨h1, h2⟩
        · exact absurd h2.symm e
  · rw [nx_set]
    have := h.big v
    split
    · rename_i hh
      rw [hh.1, List.length_append]; simp; omega
    · omega
set_option maxRecDepth 100000 in
theorem tr_next {G : Gr} {i : Nat} {T : Gr} (hb : (nx G i).length ≤ 1024) (h : Tr G i (nx G i).length T) : Tr G (i + 1) 0 T := by
  refine ⟨h.len, fun v x => ?_, fun v => by have := h.big v; omega⟩
  rw [h.mem, List.take_length]
  simp only [List.take_zero, List.not_mem_nil, and_false, or_false]
  constructor
  · rintro (h1 | ⟨rfl, h1⟩)
    · exact ⟨by omega, h1.2⟩
    · exact ⟨by omega, h1⟩
  · rintro ⟨h1, h2⟩
    by_cases e : x = i
    · subst e; exact .inr ⟨rfl, h2⟩
    · exact .inl ⟨by omega, h2⟩
/-- lists turned -/
structure Turned (G T : Gr) : Prop where
  len : T.length = G.length
  mem : ∀ v x, x ∈ nx T v ↔ v ∈ nx G x
theorem turned_of {G : Gr} {T : Gr} (h : Tr G G.length 0 T) : Turned G T := ⟨h.len, fun v x => by
  rw [h.mem]
  simp only [List.take_zero, List.not_mem_nil, and_false, or_false]
  refine ⟨fun h1 => h1.2, fun h1 => ⟨?_, h1⟩⟩
  rcases Nat.lt_or_ge x G.length with h2 | h2
  · exact h2
  · unfold nx at h1
    rw [List.getD_eq_getElem?_getD, List.getElem?_eq_none h2] at h1
    cases h1⟩
theorem ok_turned {G T : Gr} (h : Turned G T) : Ok T := fun l hl x hx => by
  obtain ⟨v, hv, rfl⟩ := List.getElem_of_mem hl
  have e : nx T v = T[v] := by unfold nx; rw [List.getD_eq_getElem?_getD, List.getElem?_eq_getElem hv]; rfl
  have := (h.mem v x).1 (by rw [e]; exact hx)
  rw [h.len]
  rcases Nat.lt_or_ge x G.length with h2 | h2
  · exact h2
  · unfold nx at this
    rw [List.getD_eq_getElem?_getD, List.getElem?_eq_none h2] at this
    cases this
end Go.Cmp
namespace Go.Proofs.YtpddamloajpiiaaGreatDoor
open Go.Cmp Go.RowKit
theorem zg_getD (T : Gr) (v : Nat) : (zg T).getD v [] = zs (nx T v) := by
  unfold zg nx
  rw [List.getD_eq_getElem?_getD, List.getElem?_map, List.getD_eq_getElem?_getD]
  cases T[v]? <;> rfl
theorem zg_set (T : Gr) (v : Nat) (l : List Nat) : zg (T.set v l) = (zg T).set v (zs l) := by simp [zg, List.map_set]
/-- what is made: the row, and the lists in it -/
structure TrM (w : World) (R : Nat) (vs : List Value) (T : Gr) (wr : World) : Prop where
  row : Lies wr R 33 vs.toArray
  sep : Sep wr (R + 1) vs (zg T)
  low : Below R w wr
  sz : R + 1 ≤ wr.heap.size
theorem trM_app {w : World} {R : Nat} {vs : List Value} {T : Gr} {wr w1 : World} (h : TrM w R vs T wr) {v x : Nat} (hv : v < T.length) {o : Obj} {G C : Nat} (hg : (wr.alloc o).grownBy w1 (vs.getD v undef).ownBlock)
    (ho : OwnI w1 (R + 1) (.slice (some ⟨G, 0, none⟩) ((nx T v).length + 1) C) (zs (nx T v) ++ [(x : Int)])) (hat : (vs.getD v undef).ownBlock = some G ∨ G = (wr.alloc o).heap.size) :
    TrM w R (vs.set v (.slice (some ⟨G, 0, none⟩) ((nx T v).length + 1) C)) (T.set v (nx T v ++ [x])) (w1.setCell ⟨R, v, none⟩ (.slice (some ⟨G, 0, none⟩) ((nx T v).length + 1) C)) := by
  have hvz : v < (zg T).length := by simpa using hv
  have hb : But (fun k => some k = (vs.getD v undef).ownBlock) wr w1 := ((But.refl _ wr).alloc o).trans (But.grown hg)
  have hlow : ∀ k, some k = (vs.getD v undef).ownBlock → R + 1 ≤ k := fun k hk => (own_heap (h.sep.own v hvz) k hk.symm).1
  have e : zg (T.set v (nx T v ++ [x])) = (zg T).set v (zs (nx T v) ++ [(x : Int)]) := by rw [zg_set]; simp [zs]
  have hs : (wr.alloc o).heap.size = wr.heap.size + 1 := by simp
  have h1 := h.sep.turn hvz hb ho (by
    rcases hat with h1 | h1
    · exact .inl h1.symm
    · exact .inr (fun k hk => by injection hk with hk; have hk' : G = k := hk; omega))
  have hR : Lies w1 R 33 vs.toArray := hb.lies h.row (fun x => by have := hlow R x; omega)
  have hw : But (· = R) w1 (w1.setCell ⟨R, v, none⟩ (.slice (some ⟨G, 0, none⟩) ((nx T v).length + 1) C)) := (But.refl (· = R) w1).setCell (p := ⟨R, v, none⟩) (fun _ => rfl) _
  refine ⟨?_, ?_, ?_, ?_⟩
  · have := lies_set hR v (.slice (some ⟨G, 0, none⟩) ((nx T v).length + 1) C)
    rwa [List.setIfInBounds_toArray] at this
  · rw [e]
    exact h1.but hw (fun u k hu hk x => by have := (own_heap (h1.own u hu) k hk).1; omega)
  · exact (h.low.trans (hb.below (by have := h.sz; omega) (fun k hk => by have := hlow k hk; omega))).setCell (p := ⟨R, v, none⟩) (Nat.le_refl R) _
  · have := h.sz; have := hb.size; simp [World.setCell]; omega
theorem trM_row {w : World} {R : Nat} {vs : List Value} {T : Gr} {wr w1 : World} (h : TrM w R vs T wr) {v : Nat} (hv : v < T.length) {o : Obj} (hg : (wr.alloc o).grownBy w1 (vs.getD v undef).ownBlock) : Lies w1 R 33 vs.toArray := by
  have hvz : v < (zg T).length := by simpa using hv
  have hb : But (fun k => some k = (vs.getD v undef).ownBlock) wr w1 := ((But.refl _ wr).alloc o).trans (But.grown hg)
  exact hb.lies h.row (fun x => by have := (own_heap (h.sep.own v hvz) R x.symm).1; omega)
/-- a list of those that are made -/
theorem trM_at {w : World} {R : Nat} {vs : List Value} {T : Gr} {wr : World} (h : TrM w R vs T wr) {v : Nat} (hv : v < T.length) : ∃ A c, vs.getD v undef = .slice A (nx T v).length c ∧ wr.cell? ⟨R, v, none⟩ = some (.slice A (nx T v).length c) ∧ OwnI wr (R + 1) (vs.getD v undef) (zs (nx T v)) ∧ vs.toArray[v]? = some (vs.getD v undef) := by
  have hvz : v < (zg T).length := by simpa using hv
  have ho := h.sep.own v hvz
  rw [zg_getD] at ho
  obtain ⟨A, c, e, _⟩ := ownI_cap ho
  rw [zs_len] at e
  have hl : v < vs.length := by rw [h.sep.len]; exact hvz
  have ha : vs.toArray[v]? = some (vs.getD v undef) := by
    rw [List.getElem?_toArray, List.getElem?_eq_getElem hl, List.getD_eq_getElem?_getD, List.getElem?_eq_getElem hl]
    rfl
  exact ⟨A, c, e, by rw [lies_cell h.row, ha, e], ho, ha⟩
/-- what the lists turned leave -/
def TurnE (G : Gr) (w w' : World) : Prop := ∃ T vs, Turned G T ∧ TrM w w.heap.size vs T w'
set_option maxRecDepth 100000 in
set_option maxHeartbeats 4000000 in
theorem turned_any (LA : Option Addr) (lc : Nat) (G : Gr) (hG : Ok G) (hn : G.length ≤ 1024) (hg : ∀ l ∈ G, l.length ≤ 1024) (w : World) (hL : LsAt w LA (zg G)) :
    Calls Tryz.prog 51 #[.slice LA G.length lc] w fun e w' => e = .returned (.slice (some ⟨w.heap.size, 0, none⟩) G.length G.length) ∧ TurnE G w w' := by
  have mk := mk_lists w G.length (by omega)
  have M0 := Lib.hid (show TrM w w.heap.size (List.replicate G.length nilV) (List.replicate G.length []) (w.alloc (.cells (Array.replicate G.length (.slice none 0 0)) 33)) from
    ⟨by rw [List.toArray_replicate]; exact lies_new _ _ _, by have := sep_made (w.alloc (.cells (Array.replicate G.length (.slice none 0 0)) 33)) (w.heap.size + 1) G.length; simpa [zg, zs] using this, (Below.refl _ _).alloc (Nat.le_refl _) _, by simp⟩)
  have T0 := Lib.hid (tr_0 G)
  obtain ⟨n, hnn⟩ : ∃ n, n = G.length := ⟨_, rfl⟩
  have HL := Lib.hid hL
  have HG := Lib.hid hG
  have HGL := Lib.hid (show ∀ v, (nx G v).length ≤ 1024 from fun v => by
    unfold nx
    rw [List.getD_eq_getElem?_getD]
    cases e : G[v]? with
    | none => simp
    | some l => exact hg l (List.mem_of_getElem? e))
  have HN := Lib.hid hnn
  rw [← hnn] at mk M0 hn ⊢
  clear hL hG hg hnn
  go_enter Tryz.func51, Tryz.ntmps51
  go_upto_region 2 with (fail)
  clear mk
  generalize w.alloc (.cells (Array.replicate n (.slice none 0 0)) 33) = X at *
  go_wp2
  go_loopw [13] (fun v13 wr => ∃ (i : Nat) (T : Gr) (vs : List Value), i ≤ n ∧ v13 = .int .i64 (i : Int) ∧ Tr G i 0 T ∧ TrM w w.heap.size vs T wr) (fun v13 _ => n - (intOf v13).toNat)
  case atStart => exact ⟨0, _, _, Nat.zero_le _, rfl, by have := T0.out; rw [← HN.out] at this; exact this, M0.out⟩
  case round =>
    obtain ⟨i, T, vs, hi, rfl, hT, hM⟩ := hrel
    have HT := Lib.hid hT
    have HM := Lib.hid hM
    clear hT hM
    by_cases hlt : i < n
    · have li : (i : Int) < (n : Int) := by omega
      obtain ⟨b, o, A, c, eL, hbw, c2, hA, hAc⟩ := ls_at HL.out (v := i) (by have := HN.out; omega)
      replace c2 := (HM.out.low.cell (p := ⟨b, o + i, none⟩) hbw).trans c2
      subst eL
      obtain ⟨k, hk⟩ : ∃ k, k = (nx G i).length := ⟨_, rfl⟩
      have KE := Lib.hid hk
      have HA := Lib.hid hA
      have hk2 : k ≤ 1024 := by rw [hk]; exact HGL.out i
      rw [← hk] at c2
      clear hk hA hAc hbw
      go_upto_region 6 with (fail)
      go_loopw [20] (fun v20 wq => ∃ (j : Nat) (T : Gr) (vs : List Value), j ≤ k ∧ v20 = .int .i64 (j : Int) ∧ Tr G i j T ∧ TrM w w.heap.size vs T wq) (fun v20 _ => k - (intOf v20).toNat)
      case atStart => exact ⟨0, T, vs, Nat.zero_le _, rfl, HT.out, HM.out⟩
      case round =>
        obtain ⟨j, T2, vs2, hj, rfl, hT2, hM2⟩ := hrel
        by_cases hjl : j < k
        · have lj : (j : Int) < (k : Int) := by omega
          have hjg : j < (nx G i).length := by rw [← KE.out]; exact hjl
          obtain ⟨b2, o2, eA, hb2, c3⟩ := HA.out j (by simpa using hjg)
          replace c3 := (hM2.low.cell (p := ⟨b2, o2 + j, none⟩) hb2).trans c3
          have ez : (zs (nx G i))[j]'(by simpa using hjg) = ((nx G i)[j] : Int) := by simp [zs]
          rw [ez] at c3
          have hvg : (nx G i)[j] < n := by have := (nx_lt HG.out (List.getElem_mem hjg)).1; rw [HN.out]; exact this
          obtain ⟨v, hv⟩ : ∃ v, v = (nx G i)[j] := ⟨_, rfl⟩
          rw [← hv] at c3 hvg
          have HV := Lib.hid hv
          have hvT : v < T2.length := by rw [hT2.len, ← HN.out]; exact hvg
          obtain ⟨A3, cc, e3, c4, o4, va⟩ := trM_at hM2 hvT
          have VA := Lib.hid va
          clear va
          have hbig : (nx T2 v).length ≤ 100000000 := by
            have := hT2.big v
            have : i * 1024 ≤ 1024 * 1024 := Nat.mul_le_mul_right 1024 (by omega)
            omega
          obtain ⟨VV, hVV⟩ : ∃ VV, VV = vs2.getD v undef := ⟨_, rfl⟩
          rw [← e3, ← hVV] at c4
          have LN := Lib.hid (lies_new wr 3 #[iV i])
          have OL := Lib.hid (show OwnI (wr.alloc (.cells #[iV i] 3)) (w.heap.size + 1) VV (zs (nx T2 v)) by rw [hVV]; exact World.ownsRow.alloc o4 _)
          have SZ := Lib.hid (show w.heap.size + 1 ≤ (wr.alloc (.cells #[iV i] 3)).heap.size by have := hM2.sz; simp; omega)
          have LB := Lib.hid (show (zs (nx T2 v)).length ≤ 100000000 by rw [zs_len]; exact hbig)
          have HT2 := Lib.hid hT2
          have HM2 := Lib.hid hM2
          have E3 := Lib.hid hVV
          have HVT := Lib.hid hvT
          have HJ := Lib.hid hjg
          have vi : (v : Int) < (n : Int) := by omega
          subst eA
          clear hT2 hM2 e3 o4 hVV hv hbig ez hb2 hvT
          unfold iV at *
          go_wp2_with (refine wpList_app_at rfl _ _ rfl (w.heap.size + 1) wr.heap.size i VV (zs (nx T2 v)) rfl OL.out rfl LN.out LB.out SZ.out ?_; intro G' C w1 h1 h2 h3; rw [E3.out] at h2 h3; have RW := trM_row HM2.out HVT.out h2; have fR := lies_free RW v; have cR := (lies_cell RW v).trans VA.out; have M1 := Lib.hid (trM_app HM2.out HVT.out h2 (by rw [zs_len] at h1; exact h1) h3); rw [zs_len]; clear h1 h2 h3 RW)
          have HTS := Lib.hid (tr_step HG.out HT2.out (show i < G.length by rw [← HN.out]; exact hlt) HJ.out)
          go_roundw
          case rel => exact ⟨j + 1, _, _, by omega, by go_num, by have := HTS.out; rw [← HV.out] at this; exact this, M1.out⟩
          case measure => first | (simp [intOf]; done) | (simp [intOf]; omega)
        · obtain rfl : j = k := by omega
          have lj : ¬ (j : Int) < (j : Int) := by omega
          have HT2 := Lib.hid hT2
          have HM2 := Lib.hid hM2
          clear hT2 hM2
          go_wp2
          go_roundw
          case rel => exact ⟨i + 1, T2, vs2, by omega, by go_num, tr_next (HGL.out i) (by have := HT2.out; rw [KE.out] at this; exact this), HM2.out⟩
          case measure => first | (simp [intOf]; done) | (simp [intOf]; omega)
    · obtain rfl : i = n := by omega
      have li : ¬ (i : Int) < (i : Int) := by omega
      go_wp2
      go_ret
      exact ⟨rfl, T, vs, turned_of (by have := HT.out; rw [HN.out] at this; exact this), HM.out⟩
end Go.Proofs.YtpddamloajpiiaaGreatDoor

/-
What is proved here: that a search through lists of numbers, and one through the lists turned, tell the components. On lists alone.
-/
set_option linter.unusedSimpArgs false
set_option linter.unusedVariables false
namespace Go.Cmp
theorem rch_turned {G T : Gr} (h : Turned G T) {u v : Nat} (k : Rch T u v) : Rch G v u := by
  induction k with
  | refl => exact .refl
  | step _ hx ih => exact (Rch.one ((h.mem _ _).1 hx)).trans ih
theorem turned_rch {G T : Gr} (h : Turned G T) {u v : Nat} (k : Rch G u v) : Rch T v u := by
  induction k with
  | refl => exact .refl
  | step _ hx ih => exact (Rch.one ((h.mem _ _).2 hx)).trans ih
theorem J.closed {G : Gr} {n : Nat} {L : List Nat} {m : List Bool} (h : J G n L [] m) {u v : Nat} (hu : u ∈ L) (k : Rch G u v) : v ∈ L := by
  rcases h.out hu k with h1 | ⟨s, h1, _⟩
  · exact h1
  · cases h1
theorem J.marked {G : Gr} {n : Nat} {L : List Nat} {m : List Bool} (h : J G n L [] m) (v : Nat) : m.getD v false = true ↔ v ∈ L := by
  rw [h.mark v]; simp
theorem j_empty (G : Gr) : J G G.length [] [] (List.replicate G.length false) := by
  refine ⟨by simp, fun v => ?_, (fun v hv => by simp at hv), .nil, .nil, (fun v hv => by cases hv), (fun v hv => by cases hv), (fun v hv => by cases hv)⟩
  rw [List.getD_eq_getElem?_getD, List.getElem?_replicate]
  split <;> simp
/-- a component -/
def Scc (G : Gr) (g : List Nat) : Prop := ∃ r ∈ g, ∀ v, v ∈ g ↔ Rch G r v ∧ Rch G v r
theorem scc_all {G : Gr} {g : List Nat} (h : Scc G g) {u v : Nat} (hu : u ∈ g) : v ∈ g ↔ Rch G u v ∧ Rch G v u := by
  obtain ⟨r, _, hr⟩ := h
  have h1 := (hr u).1 hu
  rw [hr v]
  exact ⟨fun h2 => ⟨h1.2.trans h2.1, h2.2.trans h1.1⟩, fun h2 => ⟨h1.1.trans h2.1, h2.2.trans h1.2⟩⟩
/-- what the second search has found when it has looked at the last k of those that the first one left -/
structure PB (G T : Gr) (F F2 : List Nat) (m : List Bool) (LL : List (List Nat)) (k : Nat) : Prop where
  j : J T G.length F2 [] m
  done : ∀ v ∈ F.drop (F.length - k), v ∈ F2
  scc : ∀ g ∈ LL, Scc G g
  up : ∀ g ∈ LL, g.Pairwise (· < ·)
  cov : ∀ v, v ∈ F2 ↔ ∃ g ∈ LL, v ∈ g
  dis : LL.Pairwise fun a b => ∀ v ∈ a, v ∉ b
theorem pb_0 {G T : Gr} (hT : Turned G T) (F : List Nat) : PB G T F [] (List.replicate G.length false) [] 0 := by
  refine ⟨(by have := j_empty T; rwa [hT.len] at this), fun v hv => ?_, (fun g hg => by cases hg), (fun g hg => by cases hg), (fun v => by simp), .nil⟩
  rw [Nat.sub_zero, List.drop_length] at hv
  cases hv
theorem drop_next {F : List Nat} {k : Nat} (hk : k < F.length) : F.drop (F.length - (k + 1)) = F[F.length - 1 - k]'(by omega) :: F.drop (F.length - k) := by
  rw [List.drop_eq_getElem_cons (by omega)]
  congr 1
  · congr 1; omega
  · congr 1; omega
theorem pb_skip {G T : Gr} {F F2 : List Nat} {m : List Bool} {LL : List (List Nat)} {k : Nat} (h : PB G T F F2 m LL k) (hk : k < F.length) (hm : m.getD (F[F.length - 1 - k]'(by omega)) false = true) : PB G T F F2 m LL (k + 1) := by
  refine ⟨h.j, fun v hv => ?_, h.scc, h.up, h.cov, h.dis⟩
  rw [drop_next hk] at hv
  rcases List.mem_cons.1 hv with rfl | hv
  · exact (h.j.marked _).1 hm
  · exact h.done v hv
theorem split_unique {r : Nat} : ∀ {a b a' b' : List Nat}, (a ++ r :: b).Nodup → a ++ r :: b = a' ++ r :: b' → a = a' ∧ b = b'
  | [], b, [], b' => fun _ h => by simp at h; exact ⟨rfl, h⟩
  | [], b, y :: a', b' => fun hn h => by
    simp at h
    obtain ⟨rfl, h⟩ := h
    subst h
    simp at hn
  | x :: a, b, [], b' => fun hn h => by
    simp at h
    obtain ⟨rfl, h⟩ := h
    simp at hn
  | x :: a, b, y :: a', b' => fun hn h => by
    simp only [List.cons_append, List.cons.injEq] at h
    obtain ⟨rfl, h⟩ := h
    obtain ⟨rfl, rfl⟩ := split_unique (by simp only [List.cons_append, List.nodup_cons] at hn; exact hn.2) h
    exact ⟨rfl, rfl⟩
theorem pb_step {G T : Gr} (hT : Turned G T) {F F2 : List Nat} {mA m : List Bool} (hA : J G G.length F [] mA) (hall : ∀ v, v < G.length → v ∈ F) {LL : List (List Nat)} {k : Nat} (h : PB G T F F2 m LL k) (hk : k < F.length) {l g : List Nat} {m' : List Bool}
    (hf : Fnd T m (F[F.length - 1 - k]'(by omega)) l m') (hm : m.getD (F[F.length - 1 - k]'(by omega)) false = false) (hp : g.Perm l) (hs : g.Pairwise (· < ·)) : PB G T F (F2 ++ l) m' (LL ++ [g]) (k + 1) := by
  obtain ⟨r, hr⟩ : ∃ r, r = F[F.length - 1 - k]'(by omega) := ⟨_, rfl⟩
  rw [← hr] at hf hm
  have hj : J T T.length F2 [] m := by rw [hT.len]; exact h.j
  obtain ⟨hj2, hrl, hreach⟩ := fnd_of (ok_turned hT) hj hf
  rw [hT.len] at hj2
  have hnot : r ∉ F2 := fun x => by rw [(h.j.marked r).2 x] at hm; cases hm
  have hdl : ∀ v ∈ l, v ∉ F2 := fun v hv hv2 => by
    have := (List.nodup_append.1 (by have := hj2.nd; rwa [List.append_nil] at this)).2.2 v hv2 v hv
    exact this rfl
  have hnb : ∀ x, NB F r x → x = r ∨ x ∈ F2 := fun x hx => by
    obtain ⟨a, b, hab, hx⟩ := hx
    rcases List.mem_cons.1 hx with rfl | hx
    · exact .inl rfl
    · refine .inr (h.done x ?_)
      have hnd : F.Nodup := by have := hA.nd; rwa [List.append_nil] at this
      have h2 : F = F.take (F.length - 1 - k) ++ r :: F.drop (F.length - k) := by
        have h3 := (List.take_append_drop (F.length - (k + 1)) F).symm
        rw [drop_next hk, ← hr] at h3
        rw [show F.length - 1 - k = F.length - (k + 1) by omega]
        exact h3
      have h4 := split_unique (by rw [← hab]; exact hnd) (hab.symm.trans h2)
      rw [← h4.2]; exact hx
  have hset : ∀ v, v ∈ l ↔ Rch G r v ∧ Rch G v r := fun v => by
    constructor
    · intro hv
      have h1 := rch_turned hT (hreach v hv)
      refine ⟨?_, h1⟩
      have hvF : v ∈ F := hall v (hj2.lt v (.inl (List.mem_append_right _ hv)))
      have hrF : r ∈ F := by rw [hr]; exact List.getElem_mem _
      rcases hA.last v hvF r hrF h1 with ⟨x, hx, h2, h3⟩ | ⟨s, hs, _⟩
      · rcases hnb x hx with rfl | hx
        · exact h3
        · exact absurd (h.j.closed hx (turned_rch hT h2)) (hdl v hv)
      · cases hs
    · intro ⟨h1, h2⟩
      have := hj2.closed (List.mem_append_right F2 hrl) (turned_rch hT h2)
      rcases List.mem_append.1 this with h3 | h3
      · exact absurd (h.j.closed h3 (turned_rch hT h1)) hnot
      · exact h3
  refine ⟨hj2, fun v hv => ?_, fun x hx => ?_, fun x hx => ?_, fun v => ?_, ?_⟩
  · rw [drop_next hk, ← hr] at hv
    rcases List.mem_cons.1 hv with rfl | hv
    · exact List.mem_append_right _ hrl
    · exact List.mem_append_left _ (h.done v hv)
  · rcases List.mem_append.1 hx with hx | hx
    · exact h.scc x hx
    · obtain rfl := List.mem_singleton.1 hx
      exact ⟨r, hp.mem_iff.2 hrl, fun v => by rw [hp.mem_iff]; exact hset v⟩
  · rcases List.mem_append.1 hx with hx | hx
    · exact h.up x hx
    · obtain rfl := List.mem_singleton.1 hx; exact hs
  · rw [List.mem_append, h.cov v]
    constructor
    · rintro (⟨x, h1, h2⟩ | h1)
      · exact ⟨x, List.mem_append_left _ h1, h2⟩
      · exact ⟨g, by simp, hp.mem_iff.2 h1⟩
    · rintro ⟨x, h1, h2⟩
      rcases List.mem_append.1 h1 with h1 | h1
      · exact .inl ⟨x, h1, h2⟩
      · obtain rfl := List.mem_singleton.1 h1
        exact .inr (hp.mem_iff.1 h2)
  · refine List.pairwise_append.2 ⟨h.dis, by simp, fun a ha b hb v hv hv2 => ?_⟩
    obtain rfl := List.mem_singleton.1 hb
    exact hdl v (hp.mem_iff.1 hv2) ((h.cov v).2 ⟨a, ha, hv⟩)
/-- the components, each rising, by their least numbers -/
structure Groups (G : Gr) (LL : List (List Nat)) : Prop where
  scc : ∀ g ∈ LL, Scc G g
  up : ∀ g ∈ LL, g.Pairwise (· < ·)
  all : ∀ v, v < G.length → ∃ g ∈ LL, v ∈ g
  lt : ∀ g ∈ LL, ∀ v ∈ g, v < G.length
  ord : LL.Pairwise fun a b => ∀ x y, a.head? = some x → b.head? = some y → x < y
  dis : LL.Pairwise fun a b => ∀ v ∈ a, v ∉ b
open Go.Proofs.YtpddamloajpiiaaGreatDoor in
theorem groups_of {G T : Gr} {F F2 : List Nat} {m : List Bool} {LL LS : List (List Nat)} (h : PB G T F F2 m LL F.length) (hall : ∀ v, v < G.length → v ∈ F) (hp : LS.Perm LL) (hs : LS.Pairwise fun a b => ¬ cmpL (zs b) (zs a) < 0) : Groups G LS := by
  have hdis : LS.Pairwise fun a b => ∀ v ∈ a, v ∉ b := (hp.pairwise_iff (fun {a b} h v hv hv2 => h v hv2 hv)).2 h.dis
  have h2 : ∀ v, v < G.length → v ∈ F2 := fun v hv => h.done v (by rw [Nat.sub_self]; exact hall v hv)
  refine ⟨fun g hg => h.scc g (hp.mem_iff.1 hg), fun g hg => h.up g (hp.mem_iff.1 hg), fun v hv => ?_, fun g hg v hv => ?_, ?_, hdis⟩
  · obtain ⟨g, h3, h4⟩ := (h.cov v).1 (h2 v hv)
    exact ⟨g, hp.mem_iff.2 h3, h4⟩
  · exact h.j.lt v (.inl ((h.cov v).2 ⟨g, hp.mem_iff.1 hg, hv⟩))
  · refine (hs.and hdis).imp fun {a b} hab x y hx hy => ?_
    obtain ⟨h3, h4⟩ := hab
    cases a with
    | nil => cases hx
    | cons a0 ar =>
      cases b with
      | nil => cases hy
      | cons b0 br =>
        injection hx with hx
        injection hy with hy
        subst hx hy
        have hne : a0 ≠ b0 := fun e => h4 a0 (by simp) (by rw [e]; simp)
        rcases Nat.lt_or_ge a0 b0 with h5 | h5
        · exact h5
        · refine absurd ?_ h3
          simp only [zs, List.map_cons, cmpL]
          rw [if_pos (by omega)]
          decide
/-- numbers put in order -/
def srtN (l : List Nat) : List Nat := (Go.Proofs.YtpddamloajpiiaaGreatDoor.sortZ (Go.Proofs.YtpddamloajpiiaaGreatDoor.zs l)).map Int.toNat
open Go.Proofs.YtpddamloajpiiaaGreatDoor in
theorem srtN_of (l : List Nat) (hn : l.Nodup) : (srtN l).Perm l ∧ (srtN l).Pairwise (· < ·) ∧ zs (srtN l) = sortZ (zs l) ∧ (srtN l).length = l.length := by
  have hp : (sortZ (zs l)).Perm (zs l) := List.mergeSort_perm _ _
  have h1 : ((zs l).map Int.toNat) = l := by simp [zs, Function.comp_def]
  have hpN : (srtN l).Perm l := by
    have := hp.map Int.toNat
    rw [h1] at this
    exact this
  have hback : zs (srtN l) = sortZ (zs l) := by
    unfold srtN zs
    rw [List.map_map]
    refine (List.map_congr_left fun z hz => ?_).trans (List.map_id _)
    have := hp.mem_iff.1 hz
    obtain ⟨n, _, rfl⟩ := List.mem_map.1 this
    simp
  have hs : (sortZ (zs l)).Pairwise (fun x y => x ≤ y) := by
    have := List.pairwise_mergeSort (le := fun x y : Int => decide (x ≤ y)) (fun a b c h1 h2 => by simp at *; omega) (fun a b => by simp; omega) (zs l)
    exact this.imp (fun h => of_decide_eq_true h)
  refine ⟨hpN, ?_, hback, hpN.length_eq⟩
  have hnd : (srtN l).Nodup := hpN.symm.nodup hn
  rw [← hback] at hs
  have h3 : (srtN l).Pairwise (fun x y => x ≤ y) := by
    unfold zs at hs
    rw [List.pairwise_map] at hs
    exact hs.imp (fun h => by omega)
  exact (h3.and hnd).imp (fun h => by have := h.1; have := h.2; omega)
end Go.Cmp
