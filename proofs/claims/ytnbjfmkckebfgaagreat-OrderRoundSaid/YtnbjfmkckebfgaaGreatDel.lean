/-
What is proved here: the library's DeleteFunc on components, by a contract; package comp's Round.
-/
import Derived.Test.YtnbjfmkckebfgaaGreatStl
import Derived.Test.YtnbjfmkckebfgaaGreatCps
set_option linter.unusedSimpArgs false
set_option linter.unusedVariables false
namespace Go.Proofs.YtnbjfmkckebfgaaGreat
open Go.Cmp Go.RowKit Go.Sort Go.Shelf
/-- a component that the closure may look at while row g is written anew -/
structure DL (w : World) (g n : Nat) where
  e : Ent
  ok : IntsAt w e.A (zs e.r) ∧ (∀ b o, e.A = some ⟨b, o, none⟩ → b ≠ g) ∧ ∀ v ∈ e.r, v < n
instance (w : World) (g n : Nat) : Inhabited (DL w g n) := ⟨⟨⟨0, none, [], 0⟩, intsAt_nil _ _, (fun _ _ h => by cases h), fun v hv => by cases hv⟩⟩
def dlV {w : World} {g n : Nat} (x : DL w g n) : Value := x.e.rv
def dlP (G : Gr) {w : World} {g n : Nat} (x : DL w g n) : Bool := stillP G x.e.r
theorem del_any (B BB : Nat) (LA A : Option Addr) (lc C : Nat) (G : Gr) (es : List Ent) (w : World) (hg : ∀ l ∈ G, l.length ≤ 1024) (h : Grps w B (.slice A es.length C) es) (h0 : 0 < es.length) (hl : es.length ≤ 100000) (hr : ∀ e ∈ es, ∀ v ∈ e.r, v < G.length) (hB : B ≤ w.heap.size)
    (hw : ∀ W, Below B w W → LsAt W LA (zg G) ∧ Lies W BB 24 #[.slice LA G.length lc]) :
    Calls Tryz.prog 38 #[.slice A es.length C, .func (.func 36) #[] #[.pointer (some ⟨BB, 0, none⟩)]] w fun e w' => ∃ A' C', e = .returned (.slice A' (es.filter fun e => !stillP G e.r).length C') ∧ Grps w' B (.slice A' (es.filter fun e => !stillP G e.r).length C') (es.filter fun e => !stillP G e.r) ∧ Below B w w' := by
  obtain ⟨g, cap, hv, hBg, hgl⟩ := World.ownsRow.form h.row (by omega)
  injection hv with e1 e2 e3
  subst e1 e3
  obtain ⟨cs, hLg⟩ : ∃ cs, Lies w g 27 cs := (own_heap h.row g rfl).2.2
  have hok : ∀ e ∈ es, IntsAt w e.A (zs e.r) ∧ (∀ b o, e.A = some ⟨b, o, none⟩ → b ≠ g) ∧ ∀ v ∈ e.r, v < G.length := fun e he => by
    have ho := h.own e he
    refine ⟨(ownI_ints ho).2, fun b o hA hb => ?_, hr e he⟩
    subst hb
    exact own_ne ho hLg (by decide) (by unfold Ent.rv; rw [hA]; rfl)
  obtain ⟨d, hd⟩ : ∃ d : List (DL w g G.length), d.map (·.e) = es := ⟨es.attach.map fun e => ⟨e.1, hok e.1 e.2⟩, by rw [List.map_map]; exact List.attach_map_subtype_val es⟩
  have hdl : d.length = es.length := by have := congrArg List.length hd; rwa [List.length_map] at this
  have hsz : d.toArray.size = es.length := by simpa using hdl
  have hbut : ∀ (m : Nat) (os : Array Obj) (dk : Array (DL w g G.length)), But (· = g) w (sortWorld dlV w g 0 m dk os) := fun m os dk => but_put dk
  have hcon := AnyE.slices_DeleteFunc delF (dlV (w := w) (g := g) (n := G.length)) (fun _ => rfl) (dlP G) 36 #[.pointer (some ⟨BB, 0, none⟩)] (enters_of Tryz.func36 (by kernel_rfl) rfl) default (fun W => Tryz.zeroValue27 W) g 0 C d.toArray w
    (fun W x hW => by
      have hWB := hw W (hW.mono hB)
      exact still_any LA lc G hg BB x.e.A x.e.c x.e.r x.ok.2.2 W hWB.2 hWB.1 (intsAt_below x.ok.1 hW))
    (fun m os dk x hs => by
      have hb := hbut m os dk
      have hWB := hw _ (hb.below hB (fun k hk => by omega))
      exact still_any LA lc G hg BB x.e.A x.e.c x.e.r x.ok.2.2 _ hWB.2 hWB.1 (intsAt_off x.ok.1 hb x.ok.2.1))
    (fun j hj => by
      have hj' : j < d.length := by simpa using hj
      refine ⟨?_, h.row.frozenAt _⟩
      rw [Nat.zero_add, h.row.cellAt j (by omega)]
      have : (es.map Ent.rv)[j]? = some (dlV d[j]) := by
        rw [← hd, List.map_map, List.getElem?_map, List.getElem?_eq_getElem hj']
        rfl
      rw [this]
      simp [getElem!_pos d j hj']) (by omega) (by
        rw [hsz]
        rcases h.row.2 with ⟨h1, _⟩ | ⟨_, cap', _, h1, _, _, h2, _⟩
        · cases h1
        · injection h1 with _ _ h1; omega)
  rw [hsz] at hcon
  have hf : (d.toArray.toList.filter fun x => !dlP G x).map (·.e) = es.filter fun e => !stillP G e.r := by
    rw [show d.toArray.toList = d by simp]
    conv => rhs; rw [← hd]
    rw [List.filter_map]
    rfl
  have hfl : (d.toArray.toList.filter fun x => !dlP G x).length = (es.filter fun e => !stillP G e.r).length := by rw [← hf, List.length_map]
  refine (show Calls Tryz.prog 38 _ _ _ from hcon).mono ?_
  rintro e w' ⟨rfl, q, rfl⟩
  obtain ⟨F, hF⟩ : ∃ F, F = d.toArray.toList.filter fun x => !dlP G x := ⟨_, rfl⟩
  rw [← hF] at hf hfl ⊢
  have hFle : F.length ≤ es.length := by rw [hfl]; exact List.length_filter_le _ _
  have hw' : putRow dlV (Sort.ahead w q) g 0 (F ++ List.replicate (es.length - F.length) default).toArray = grow (putRow dlV (Sort.ahead w q) g 0 (F ++ List.replicate (es.length - F.length) default).toArray) #[] := (grow_empty _).symm
  rw [hw', ← hfl]
  have hO := own_less (n := 0) (own_put (enc := dlV (w := w) (g := g) (n := G.length)) (n := q) (os := #[]) (d := (F ++ List.replicate (es.length - F.length) default).toArray) h.row (by simp; omega)) hFle
  have hb : But (· = g) w (grow (putRow (dlV (w := w) (g := g) (n := G.length)) (Sort.ahead w q) g 0 (F ++ List.replicate (es.length - F.length) default).toArray) #[]) := but_put _
  refine ⟨_, _, rfl, ⟨?_, fun e he => ?_, ?_⟩, hb.below hB (fun k hk => by omega)⟩
  · rw [← hf, List.length_map, List.map_map]
    have e : ((F ++ List.replicate (es.length - F.length) (default : DL w g G.length)).toArray.toList.map dlV).take F.length = F.map dlV := by simp
    rw [e] at hO
    exact hO
  · have he2 : e ∈ es := (List.mem_filter.1 he).1
    exact own_but (h.own e he2) hb (fun k hk x => by subst x; exact own_ne (h.own e he2) hLg (by decide) hk)
  · exact h.sep.filter _
/-- what Round tells of needs that are taken -/
def RndE (G : Gr) (w : World) (e : Ending) (w' : World) : Prop := ∃ (A : Option Addr) (C : Nat) (es : List Ent), e = .returned (.tuple #[.slice A (es.filter fun e => !stillP G e.r).length C, .int .i64 0]) ∧ Groups G (es.map Ent.r) ∧ Grps w' w.heap.size (.slice A (es.filter fun e => !stillP G e.r).length C) (es.filter fun e => !stillP G e.r) ∧ Below w.heap.size w w'
set_option maxRecDepth 100000 in
set_option maxHeartbeats 2000000 in
theorem round_any (LA : Option Addr) (lc : Nat) (G : Gr) (hG : Ok G) (h0 : 0 < G.length) (hn : G.length ≤ 1024) (hg : ∀ l ∈ G, l.length ≤ 1024) (w : World) (hL : LsAt w LA (zg G)) :
    Calls Tryz.prog 13 #[.slice LA G.length lc] w (RndE G w) := by
  have hb0 := below_alloc w (.cells #[.slice LA G.length lc] 24)
  have kc := check_any LA lc (zg G) _ (lsAt_below hL hb0) (by simp; omega) (fun l hl => by
    obtain ⟨l', hl', rfl⟩ := List.mem_map.1 hl
    have := hg l' hl'
    simp [zs]; omega)
  rw [chk_ok hG hn hg, show (zg G).length = G.length by simp [zg]] at kc
  have LB := lies_new w 24 #[.slice LA G.length lc]
  have cb := lies_cell LB 0
  simp only [List.getElem?_toArray, List.getElem?_cons_zero] at cb
  have KC := Lib.hid kc
  have HB0 := Lib.hid hb0
  have HLB := Lib.hid LB
  have SZ := Lib.hid (World.size_alloc w (.cells #[.slice LA G.length lc] 24))
  have KG := Lib.hid (fun (W : World) (hb : Below w.heap.size w W) => groups_any LA lc G hG hn hg W (lsAt_below hL hb))
  have KD := Lib.hid (fun (X : World) (hX : Below w.heap.size w X) (hXL : Lies X w.heap.size 24 #[.slice LA G.length lc]) (hXs : w.heap.size < X.heap.size) (W : World) (A : Option Addr) (C : Nat) (es : List Ent) (hS : Groups G (es.map Ent.r)) (hE : Grps W X.heap.size (.slice A es.length C) es) (hb : Below X.heap.size X W) => del_any X.heap.size w.heap.size LA A lc C G es W hg hE (by
      obtain ⟨g, hg2, _⟩ := hS.all 0 h0
      have := List.length_pos_of_mem hg2
      simpa using this) (by have := groups_len hS; simp at this; omega) (fun e he v hv => hS.lt e.r (List.mem_map.2 ⟨e, he, rfl⟩) v hv) hb.size (fun W2 h2 => ⟨lsAt_below hL (hX.trans ((hb.trans h2).mono hX.size)), lies_below hXL (hb.trans h2) hXs⟩))
  generalize G.length = n at *
  clear kc hL hb0 LB
  go_enter Tryz.func13, Tryz.ntmps13
  go_upto_region 1 with (fail)
  generalize w.alloc (.cells #[.slice LA n lc] 24) = X at *
  go_upto_region 2 with (go_at_call 35; (with_reducible refine KC.out.mono ?_); rintro e w1 ⟨rfl, hb⟩; have B1 := Lib.hid hb; have L1 := Lib.hid (lies_below HLB.out hb (by have := SZ.out; omega)); have S1 := Lib.hid (show w.heap.size < w1.heap.size by have := SZ.out; have := hb.size; omega); have W1 := Lib.hid (HB0.out.trans (hb.mono HB0.out.size)); have c1 := lies_cell L1.out 0; simp only [List.getElem?_toArray, List.getElem?_cons_zero] at c1; clear hb cb)
  have K1 := Lib.hid (KG.out _ W1.out)
  go_wp2_with (first
    | (go_at_call 39; (with_reducible refine K1.out.mono ?_); rintro e w2 ⟨GA, gc, es, rfl, hS, hE, hb⟩; have B2 := Lib.hid hb; have HS := Lib.hid hS; have HE := Lib.hid hE; have K2 := Lib.hid (KD.out _ W1.out L1.out S1.out w2 GA gc es hS hE hb); clear hb hS hE)
    | (go_at_call 38; (with_reducible refine K2.out.mono ?_); rintro e w3 ⟨A, C, rfl, h1, h2⟩; have H1 := Lib.hid h1; have H2 := Lib.hid h2; clear h1 h2))
  go_ret2
  refine ⟨A, C, es, rfl, HS.out, ?_, W1.out.trans ((B2.out.trans H2.out).mono W1.out.size)⟩
  have := H1.out
  exact ⟨this.row.mono W1.out.size, fun e he => (this.own e he).mono W1.out.size, this.sep⟩
end Go.Proofs.YtnbjfmkckebfgaaGreat
