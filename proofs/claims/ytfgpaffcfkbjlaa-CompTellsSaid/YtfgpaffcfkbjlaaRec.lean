/-
What is proved here: the document's own search from a number marks all that it leads to, by a contract.
-/
import Derived.Test.YtfgpaffcfkbjlaaPre
import Derived.Test.YtfgpaffcfkbjlaaZro
import Derived.Test.YtfgpaffcfkbjlaaApq
import Derived.Deep.LoopGhost
set_option linter.unusedSimpArgs false
set_option linter.unusedVariables false
namespace Go.Proofs.Ytfgpaffcfkbjlaa
open Go.Cmp Go.RowKit
set_option maxRecDepth 100000 in
theorem todo_le {G : Gr} (hg : ∀ l ∈ G, l.length ≤ 1024) : ∀ m : List Bool, todo G m ≤ m.length * 1026 := fun m => by
  unfold todo
  have : ∀ n, ((List.range n).map fun v => if m.getD v false then 0 else (nx G v).length + 2).sum ≤ n * 1026 := fun n => by
    induction n with
    | zero => simp
    | succ n ih =>
      rw [List.range_succ, List.map_append, List.sum_append]
      simp only [List.map_cons, List.map_nil, List.sum_cons, List.sum_nil]
      have hx : (nx G n).length ≤ 1024 := by
        rcases Nat.lt_or_ge n G.length with h | h
        · have e : nx G n = G[n] := by unfold nx; rw [List.getD_eq_getElem?_getD, List.getElem?_eq_getElem h]; rfl
          rw [e]; exact hg _ (List.getElem_mem h)
        · have e : nx G n = [] := by unfold nx; rw [List.getD_eq_getElem?_getD, List.getElem?_eq_none h]; rfl
          rw [e]; simp
      split <;> omega
  exact this m.length
/-- what the search keeps: the marks in block M, the list in a row of its own -/
structure RcM (w : World) (G : Gr) (f : Nat) (v6 : Value) (m : List Bool) (l : List Nat) (W : World) : Prop where
  inv : RcI G f m l
  own : OwnI W (w.heap.size + 1) v6 (zs l)
  mks : Lies W w.heap.size 4 (bRow m)
  low : Below w.heap.size w W
  sz : w.heap.size + 1 ≤ W.heap.size
set_option maxRecDepth 100000 in
set_option maxHeartbeats 4000000 in
theorem reach_any (LA : Option Addr) (lc : Nat) (G : Gr) (hG : Ok G) (hn : G.length ≤ 1024) (hg : ∀ l ∈ G, l.length ≤ 1024) (f : Nat) (hf : f < G.length) (w : World) (hL : LsAt w LA (zg G)) :
    Calls Try.prog 27 #[.slice LA G.length lc, .int .i64 (f : Int)] w fun e w' => ∃ m, e = .returned (.slice (some ⟨w.heap.size, 0, none⟩) G.length G.length) ∧ Rea G f m ∧ Lies w' w.heap.size 4 (bRow m) ∧ Below w.heap.size w w' := by
  have HG := Lib.hid hG
  have HGG := Lib.hid hg
  have HL := Lib.hid hL
  obtain ⟨n, hnn⟩ : ∃ n, n = G.length := ⟨_, rfl⟩
  have HN := Lib.hid hnn
  have mk1 := fun W => mk_marks W n (by omega)
  have hb0 := below_alloc w (.cells (bRow (List.replicate n false)) 4)
  have L0 := lies_new w 4 (bRow (List.replicate n false))
  have sz0 := World.size_alloc w (.cells (bRow (List.replicate n false)) 4)
  rw [hnn] at L0 hb0 sz0
  have M0 := Lib.hid (fun (v6 : Value) (W : World) (ho : OwnI W (w.heap.size + 1) v6 (zs (nx G f))) (hb : But (fun _ => False) (w.alloc (.cells (bRow (List.replicate G.length false)) 4)) W) => (⟨rcI_0 G f, ho, hb.lies L0 id, hb0.trans (hb.below (by omega) (fun k hk => hk.elim)), by have := hb.size; omega⟩ : RcM w G f v6 (List.replicate G.length false) (nx G f) W))
  obtain ⟨b, o, A', c', eA, hbl, cc, hcl, hI⟩ := zrow_at hL hf
  have hfn : (nx G f).length ≤ 1024 := by
    have e : nx G f = G[f] := by unfold nx; rw [List.getD_eq_getElem?_getD, List.getElem?_eq_getElem hf]; rfl
    rw [e]; exact hg _ (List.getElem_mem hf)
  have hI0 := Lib.hid (intsAt_below hI hb0)
  have HFN := Lib.hid hfn
  have HLN := Lib.hid (zs_len (nx G f)).symm
  replace cc := (hb0.cell (p := ⟨b, o + f, none⟩) hbl).trans cc
  have SZ0 := Lib.hid sz0
  rw [← hnn] at hf hn ⊢
  rw [← hnn] at cc SZ0 hI0 M0
  have hfi : (f : Int) < (n : Int) := by omega
  subst eA
  obtain ⟨k0, hk0⟩ : ∃ k0, k0 = (nx G f).length := ⟨_, rfl⟩
  rw [← hk0] at cc HLN HFN
  clear hL hG hg hI hfn hb0 L0 sz0 hnn hk0 hcl
  go_enter Try.func27, Try.ntmps27
  go_upto_region 2 with (fail)
  generalize w.alloc (.cells (bRow (List.replicate n false)) 4) = X at *
  go_upto_region 3 with (refine wpList_app_list rfl _ _ rfl (w.heap.size + 1) (.slice none 0 0) [] rfl (ownI_nil _ _) A' k0 c' (zs (nx G f)) HLN.out rfl hI0.out (by simp) (by rw [← HLN.out]; have := HFN.out; omega) (by have := SZ0.out; omega) ?_; intro v6 w1 g1 g2; have M1 := Lib.hid (M0.out v6 w1 g1 (g2.mono (fun k _ h => by cases h))); clear g1 g2)
  clear cc mk1
  go_loopg [6] (n * 1026 + 1024) (fun k v6 wr => ∃ (m : List Bool) (l : List Nat), RcM w G f v6 m l wr ∧ todo G m + l.length ≤ k) 
  case atStart =>
    refine ⟨_, _, M1.out, ?_⟩
    have h1 := M1.out.inv.big
    have h2 := todo_le HGG.out (List.replicate G.length false)
    have h3 := HLN.out
    rw [zs_len] at h3
    have h4 := HFN.out
    rw [List.length_replicate, ← HN.out] at h2
    omega
  case round =>
    obtain ⟨m, l, hM, hk⟩ := hrel
    have HM := Lib.hid hM
    have HK := Lib.hid hk
    obtain ⟨A6, C6, h6⟩ := own_slice HM.out.own
    rw [zs_len] at h6
    subst h6
    clear hM hk
    rcases List.eq_nil_or_concat l with hl | ⟨l', v, hl⟩
    · subst hl
      go_wp2
      go_ret
      have := HM.out
      exact ⟨m, rfl, ⟨this.inv.len, rcI_end this.inv⟩, this.mks, this.low⟩
    · rw [List.concat_eq_append] at hl
      subst hl
      obtain ⟨k, hkl⟩ : ∃ k, k = l'.length := ⟨_, rfl⟩
      have hq : (l' ++ [v]).length = k + 1 := by rw [hkl]; simp
      have hvG : v < G.length := r1_lt HG.out (HM.out.inv.ls v (by simp))
      have hvn : v < n := by rw [HN.out]; exact hvG
      have hown : wr.ownsRow (w.heap.size + 1) 3 1 (.slice A6 (l' ++ [v]).length C6) (k + 1) ((zs (l' ++ [v])).map iV) := by
        have := HM.out.own
        unfold OwnI at this
        rw [zs_len, hq] at this
        rw [hq]
        exact this
      have hcap : k + 1 ≤ C6 := by
        obtain ⟨A', c', h1, h2, _⟩ := ownI_cap HM.out.own
        injection h1 with _ _ h1
        rw [zs_len, hq] at h2
        omega
      rw [hq] at hown ⊢
      obtain ⟨g, cap, hv6, hBg, hgl⟩ := World.ownsRow.form hown (by omega)
      injection hv6 with e1 e2 e3
      subst e1 e3
      have hxs : (zs (l' ++ [v])).map iV = (zs l').map iV ++ [iV v] := by simp [zs]
      have cc := hown.cellAt k (by omega)
      rw [hxs, List.getElem?_append_right (by simp [zs]; omega), show k - ((zs l').map iV).length = 0 by simp [zs]; omega] at cc
      simp only [List.getElem?_cons_zero, iV] at cc
      have hless := own_less (n := 0) hown (m := k) (by omega)
      rw [hxs, List.take_left' (by simp [zs]; omega)] at hless
      have OWL : OwnI wr (w.heap.size + 1) (.slice (some ⟨g, 0, none⟩) k C6) (zs l') := by
        unfold OwnI
        rw [zs_len, ← hkl]
        exact hless
      have b1 := (lies_cell HM.out.mks v).trans (bRow_at (m := m) (v := v) (by rw [HM.out.inv.len]; exact hvG))
      have f1 := lies_free HM.out.mks v
      have hkb : k ≤ 100000000 := by
        have h1 := HM.out.inv.big
        have h2 := todo_le HGG.out (List.replicate G.length false)
        have hfG : f < G.length := by rw [← HN.out]; exact hf
        have hff : (nx G f).length ≤ 1024 := by
          have e : nx G f = G[f] := by unfold nx; rw [List.getD_eq_getElem?_getD, List.getElem?_eq_getElem hfG]; rfl
          rw [e]; exact HGG.out _ (List.getElem_mem hfG)
        have h3 := HN.out
        rw [List.length_replicate] at h2
        rw [List.length_append] at h1
        omega
      have ki : ((k + 1 : Nat) : Int) - 1 = (k : Int) := by omega
      have k0 : (0 : Int) < ((k + 1 : Nat) : Int) := by omega
      have kk : (k : Int) < ((k + 1 : Nat) : Int) := by omega
      have kc : (k : Int) ≤ (C6 : Int) := by omega
      have vi : (v : Int) < (n : Int) := by omega
      obtain ⟨q, hqq⟩ : ∃ q, q = k + 1 := ⟨_, rfl⟩
      rw [← hqq] at ki k0 kk hcap ⊢
      have HKL := Lib.hid hkl
      have HOL := Lib.hid OWL
      have HQ := Lib.hid hqq
      have HGB := Lib.hid hBg
      clear hown hless hxs hkl hq OWL hqq
      cases hmv : m.getD v false with
      | true =>
        have HMV := Lib.hid hmv
        rw [hmv] at b1
        clear hmv
        go_wp2
        go_roundg (todo G m + l'.length)
        case measure =>
          have := HK.out
          simp only [List.length_append, List.length_singleton] at this
          omega
        case rel => exact ⟨m, l', ⟨rcI_seen HM.out.inv HMV.out, HOL.out, HM.out.mks, HM.out.low, HM.out.sz⟩, Nat.le_refl _⟩
      | false =>
        have HMV := Lib.hid hmv
        rw [hmv] at b1
        clear hmv
        have hbY : But (· = w.heap.size) wr (wr.setCell ⟨w.heap.size, v, none⟩ (.bool true)) := (But.refl (· = w.heap.size) wr).setCell (p := ⟨w.heap.size, v, none⟩) (fun _ => rfl) _
        have OW2 := Lib.hid (show OwnI (wr.setCell ⟨w.heap.size, v, none⟩ (.bool true)) (w.heap.size + 1) (.slice (some ⟨g, 0, none⟩) k C6) (zs l') from own_but HOL.out hbY (fun k hk e => by
          have : g = k := by simpa [Value.ownBlock] using hk
          have := HGB.out
          omega))
        have MK2 := Lib.hid (show Lies (wr.setCell ⟨w.heap.size, v, none⟩ (.bool true)) w.heap.size 4 (bRow (m.set v true)) by have := lies_set HM.out.mks v (.bool true); rwa [bRow_set] at this)
        have LOW2 := Lib.hid (HM.out.low.trans (hbY.below HM.out.low.size (fun k hk => by omega)))
        have SZ2 := Lib.hid (show w.heap.size + 1 ≤ (wr.setCell ⟨w.heap.size, v, none⟩ (.bool true)).heap.size by have := hbY.size; have := HM.out.sz; omega)
        obtain ⟨b2, o2, A2, c2, eA2, _, cc2, _, hI2⟩ := zrow_at (lsAt_below HL.out LOW2.out) hvG
        injection eA2 with eA2
        injection eA2 with eb eo
        subst eb eo
        have HI2 := Lib.hid hI2
        have IV2 := Lib.hid (rcI_mark HG.out HM.out.inv HMV.out)
        have HTD := Lib.hid (todo_set G m v (by rw [HM.out.inv.len]; exact hvG) HMV.out)
        have HKK := Lib.hid (show todo G m + (l'.length + 1) ≤ gk by have := HK.out; simpa using this)
        have hgv : (nx G v).length ≤ 1024 := by
          have e : nx G v = G[v] := by unfold nx; rw [List.getD_eq_getElem?_getD, List.getElem?_eq_getElem hvG]; rfl
          rw [e]; exact HGG.out _ (List.getElem_mem hvG)
        have LB1 := Lib.hid (show (zs l').length ≤ 100000000 by rw [zs_len, ← HKL.out]; exact hkb)
        obtain ⟨n2, hn2⟩ : ∃ n2, n2 = (nx G v).length := ⟨_, rfl⟩
        rw [← hn2] at cc2
        have HN2 := Lib.hid (show n2 = (zs (nx G v)).length by rw [zs_len]; exact hn2)
        have LB2 := Lib.hid (show (zs (nx G v)).length ≤ 100000000 by rw [zs_len]; omega)
        clear hbY hI2 hgv hn2
        go_upto_region 8 with (fail)
        generalize wr.setCell ⟨w.heap.size, v, none⟩ (.bool true) = Y at *
        have M3 := Lib.hid (fun (v6 : Value) (w3 : World) (ho : OwnI w3 (w.heap.size + 1) v6 (zs l' ++ zs (nx G v))) (hb : But (fun k => some k = (Value.slice (some ⟨g, 0, none⟩) k C6).ownBlock) Y w3) => (⟨IV2.out, by rw [show zs (l' ++ nx G v) = zs l' ++ zs (nx G v) by simp [zs]]; exact ho, hb.lies MK2.out (fun e => by
            have : g = w.heap.size := by simpa [Value.ownBlock] using e.symm
            have := HGB.out
            omega), LOW2.out.trans (hb.below LOW2.out.size (fun k hk => by
            have : g = k := by simpa [Value.ownBlock] using hk.symm
            have := HGB.out
            omega)), by have := hb.size; have := SZ2.out; omega⟩ : RcM w G f v6 (m.set v true) (l' ++ nx G v) w3))
        go_wp2_with (refine wpList_app_list rfl _ _ rfl (w.heap.size + 1) (.slice (some ⟨g, 0, none⟩) k C6) (zs l') rfl OW2.out A2 n2 c2 (zs (nx G v)) HN2.out rfl HI2.out LB1.out LB2.out SZ2.out ?_; intro v6 w3 g1 g2; have M4 := Lib.hid (M3.out v6 w3 g1 g2); clear g1 g2)
        go_roundg (todo G (m.set v true) + (l' ++ nx G v).length)
        case measure =>
          have h1 := HTD.out
          have h2 := HKK.out
          rw [List.length_append]
          omega
        case rel => exact ⟨_, _, M4.out, Nat.le_refl _⟩
end Go.Proofs.Ytfgpaffcfkbjlaa
