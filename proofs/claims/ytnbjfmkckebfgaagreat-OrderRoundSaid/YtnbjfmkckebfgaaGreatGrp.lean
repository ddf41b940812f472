/-
What is proved here: lists of numbers of one's own, put in order by the library's sort, by a contract.
-/
import Derived.Test.YtnbjfmkckebfgaaGreatSrt
import Derived.Test.YtnbjfmkckebfgaaGreatCmp
import Derived.Test.YtnbjfmkckebfgaaGreatStk
set_option linter.unusedSimpArgs false
set_option linter.unusedVariables false
namespace Go.Cmp
theorem cmpL_anti : ∀ l k : List Int, cmpL k l = - cmpL l k
  | [], [] => rfl
  | [], _ :: _ => rfl
  | _ :: _, [] => rfl
  | x :: xs, y :: ys => by
    unfold cmpL
    by_cases h : x < y
    · rw [if_neg (by omega), if_pos h, if_pos h]; rfl
    · by_cases h2 : y < x
      · rw [if_pos h2, if_neg h, if_pos h2]
      · rw [if_neg h2, if_neg h, if_neg h, if_neg h2]; exact cmpL_anti xs ys
theorem cmpL_refl (l : List Int) : cmpL l l = 0 := by have := cmpL_anti l l; omega
theorem cmpL_le : ∀ l k m : List Int, cmpL l k ≤ 0 → cmpL k m ≤ 0 → cmpL l m ≤ 0 ∧ (cmpL l k < 0 ∨ cmpL k m < 0 → cmpL l m < 0)
  | [], [], m => fun _ h => ⟨h, fun h2 => h2.elim (fun h3 => by simp [cmpL] at h3) id⟩
  | [], y :: ys, [] => fun _ h => by simp [cmpL] at h
  | [], y :: ys, z :: zs => fun _ _ => ⟨by simp [cmpL], fun _ => by simp [cmpL]⟩
  | x :: xs, [], m => fun h _ => by simp [cmpL] at h
  | x :: xs, y :: ys, [] => fun _ h => by simp [cmpL] at h
  | x :: xs, y :: ys, z :: zs => fun h1 h2 => by
    unfold cmpL at h1 h2 ⊢
    have ih := cmpL_le xs ys zs
    by_cases a : x < y
    · rw [if_pos a] at h1 ⊢
      by_cases b : y < z
      · rw [if_pos (show x < z by omega)]; exact ⟨by omega, fun _ => by omega⟩
      · rw [if_neg b] at h2
        by_cases b2 : z < y
        · rw [if_pos b2] at h2; omega
        · rw [if_pos (show x < z by omega)]; exact ⟨by omega, fun _ => by omega⟩
    · rw [if_neg a] at h1 ⊢
      by_cases a2 : y < x
      · rw [if_pos a2] at h1; omega
      · rw [if_neg a2] at h1 ⊢
        by_cases b : y < z
        · rw [if_pos b, if_pos (show x < z by omega)]; exact ⟨by omega, fun _ => by omega⟩
        · rw [if_neg b] at h2 ⊢
          by_cases b2 : z < y
          · rw [if_pos b2] at h2; omega
          · rw [if_neg b2] at h2 ⊢
            rw [if_neg (show ¬ x < z by omega), if_neg (show ¬ z < x by omega)]
            exact ih h1 h2
end Go.Cmp
namespace Go.Proofs.YtnbjfmkckebfgaaGreat
open Go.Cmp Go.RowKit Go.Sort Go.Shelf
theorem intsAt_off {w w' : World} {A : Option Addr} {l : List Int} {g : Nat} (h : IntsAt w A l) (hb : But (· = g) w w') (hne : ∀ b o, A = some ⟨b, o, none⟩ → b ≠ g) : IntsAt w' A l := fun i hi => by
  obtain ⟨b, o, e, hl, hc⟩ := h i hi
  exact ⟨b, o, e, Nat.lt_of_lt_of_le hl hb.size, cell_same hc (hb.block b hl (hne b o e))⟩
/-- no block is both -/
def Apart (a b : Ent) : Prop := ∀ k, a.rv.ownBlock = some k → b.rv.ownBlock ≠ some k
theorem apart_symm {a b : Ent} (h : Apart a b) : Apart b a := fun k hk hk2 => h k hk2 hk
/-- lists of numbers of one's own, each in a block of its own, their slices in a row of one's own -/
structure Grps (w : World) (B : Nat) (v : Value) (es : List Ent) : Prop where
  row : w.ownsRow B 27 1 v es.length (es.map Ent.rv)
  own : ∀ e ∈ es, OwnI w B e.rv (zs e.r)
  sep : es.Pairwise Apart
/-- a list that the comparison may look at while row g is put in order -/
structure SL (w : World) (g : Nat) where
  e : Ent
  ok : IntsAt w e.A (zs e.r) ∧ (∀ b o, e.A = some ⟨b, o, none⟩ → b ≠ g) ∧ e.r.length ≤ 100000000
instance (w : World) (g : Nat) : Inhabited (SL w g) := ⟨⟨⟨0, none, [], 0⟩, intsAt_nil _ _, (fun _ _ h => by cases h), Nat.zero_le _⟩⟩
def slV {w : World} {g : Nat} (x : SL w g) : Value := x.e.rv
def slC {w : World} {g : Nat} (x y : SL w g) : Int := cmpL (zs x.e.r) (zs y.e.r)
theorem sl_swo (w : World) (g : Nat) : SWO (ltOf (slC (w := w) (g := g))) where
  irrefl x := by simp [ltOf, slC, cmpL_refl]
  trans x y z h1 h2 := by
    have k1 : cmpL (zs x.e.r) (zs y.e.r) < 0 := of_decide_eq_true h1
    have k2 : cmpL (zs y.e.r) (zs z.e.r) < 0 := of_decide_eq_true h2
    exact decide_eq_true ((cmpL_le _ _ _ (by omega) (by omega)).2 (.inl k1))
  ntrans x y z h1 h2 := by
    have k1 : ¬ cmpL (zs x.e.r) (zs y.e.r) < 0 := of_decide_eq_false h1
    have k2 : ¬ cmpL (zs y.e.r) (zs z.e.r) < 0 := of_decide_eq_false h2
    refine decide_eq_false (show ¬ cmpL (zs x.e.r) (zs z.e.r) < 0 from ?_)
    have a := cmpL_anti (zs x.e.r) (zs y.e.r)
    have b := cmpL_anti (zs y.e.r) (zs z.e.r)
    have c := cmpL_anti (zs x.e.r) (zs z.e.r)
    have := (cmpL_le (zs z.e.r) (zs y.e.r) (zs x.e.r) (by omega) (by omega)).1
    omega
theorem sl_cmp (w : World) (g n : Nat) : CmpLays1 Tryz.prog 67 #[] (slV (w := w) (g := g)) slC g 0 n w :=
  CmpReads.lays fun m os dk hs x y => by
    have h := cmpL_any x.e.A y.e.A x.e.c y.e.c (zs x.e.r) (zs y.e.r) (sortWorld slV w g 0 m dk os) (intsAt_off x.ok.1 (but_put dk) x.ok.2.1) (intsAt_off y.ok.1 (but_put dk) y.ok.2.1) (by rw [zs_len]; have := x.ok.2.2; omega) (by rw [zs_len]; have := y.ok.2.2; omega)
    rw [zs_len, zs_len] at h
    exact h.mono fun e w' ⟨he, hw⟩ => ⟨he, 0, hw.symm⟩
/-- what the sort leaves -/
def SrtE (w : World) (B : Nat) (v : Value) (es : List Ent) (w' : World) : Prop := ∃ es', es'.Perm es ∧ es'.Pairwise (fun a b => ¬ cmpL (zs b.r) (zs a.r) < 0) ∧ Grps w' B v es' ∧ But (fun k => some k = v.ownBlock) w w'
theorem sortL_any (B : Nat) (A : Option Addr) (C : Nat) (es : List Ent) (w : World) (h : Grps w B (.slice A es.length C) es) (hl : es.length ≤ 100000) (hr : ∀ e ∈ es, e.r.length ≤ 100000000) :
    Calls Tryz.prog 66 #[.slice A es.length C, .func (.func 67) #[] #[]] w fun e w' => e = .returned (.tuple #[]) ∧ SrtE w B (.slice A es.length C) es w' := by
  by_cases h0 : es.length = 0
  · have hes : es = [] := List.length_eq_zero_iff.1 h0
    subst hes
    refine (show Calls Tryz.prog 66 #[.slice A 0 C, .func (.func 67) #[] #[]] w _ from AnyF.slices_SortFunc_none { sortL with } A C (.func (.func 67) #[] #[]) w).mono ?_
    rintro e w' ⟨rfl, rfl⟩
    exact ⟨rfl, [], .refl _, .nil, h, .refl _ _⟩
  obtain ⟨g, cap, hv, hBg, hgl⟩ := World.ownsRow.form h.row (by omega)
  injection hv with e1 e2 e3
  subst e1 e3
  have hLg : ∃ cs, Lies w g 27 cs := (own_heap h.row g rfl).2.2
  obtain ⟨cs, hLg⟩ := hLg
  have hok : ∀ e ∈ es, IntsAt w e.A (zs e.r) ∧ (∀ b o, e.A = some ⟨b, o, none⟩ → b ≠ g) ∧ e.r.length ≤ 100000000 := fun e he => by
    have ho := h.own e he
    refine ⟨(ownI_ints ho).2, fun b o hA hb => ?_, hr e he⟩
    subst hb
    exact own_ne ho hLg (by decide) (by unfold Ent.rv; rw [hA]; rfl)
  let d : List (SL w g) := es.attach.map fun e => ⟨e.1, hok e.1 e.2⟩
  have hd : d.map (·.e) = es := by
    show (es.attach.map fun e => (⟨e.1, hok e.1 e.2⟩ : SL w g)).map (·.e) = es
    rw [List.map_map]
    exact List.attach_map_subtype_val es
  have hdl : d.length = es.length := by have := congrArg List.length hd; rwa [List.length_map] at this
  have hcon := Any.slices_SortFunc sortL (slV (w := w) (g := g)) (fun _ => rfl) slC (sl_swo w g) 67 #[] g 0 C d.toArray w (enters_of Tryz.func67 (by kernel_rfl) rfl) (sl_cmp w g _) (fun j hj => by
    have hj' : j < d.length := by simpa using hj
    refine ⟨?_, h.row.frozenAt _⟩
    rw [Nat.zero_add, h.row.cellAt j (by omega)]
    have : (es.map Ent.rv)[j]? = some (slV d[j]) := by
      rw [← hd, List.map_map, List.getElem?_map, List.getElem?_eq_getElem hj']
      rfl
    rw [this]
    simp [getElem!_pos d j hj']) hgl (by simp; omega)
  have hsz : d.toArray.size = es.length := by simpa using hdl
  rw [hsz] at hcon
  refine (show Calls Tryz.prog 66 _ _ _ from hcon).mono ?_
  rintro e w' ⟨rfl, d', n, os, hp, hs, rfl⟩
  have hds : d'.size = es.length := by rw [hp.1, hsz]
  have hperm : (d'.toList.map (·.e)).Perm es := by
    have h3 := hp.2.2
    rw [show d'.extract 0 es.length = d' by rw [← hds]; simp, show d.toArray.extract 0 es.length = d.toArray by rw [← hsz]; simp] at h3
    have h4 := h3.map (·.e)
    simpa [hd] using h4
  refine ⟨rfl, d'.toList.map (·.e), hperm, ?_, ⟨?_, fun e he => ?_, ?_⟩, (but_put _).mono (fun k _ hk => by subst hk; rfl)⟩
  · refine List.pairwise_iff_getElem.2 fun i j hi hj hij => ?_
    simp only [List.length_map, Array.length_toList] at hi hj
    have := hs i j (Nat.zero_le _) hij (by omega)
    rw [getElem!_pos d' i hi, getElem!_pos d' j hj] at this
    have k : ¬ cmpL (zs (d'[j]).e.r) (zs (d'[i]).e.r) < 0 := of_decide_eq_false this
    simpa using k
  · have := own_put (enc := slV (w := w) (g := g)) (n := n) (os := os) (d := d') h.row hds
    rw [List.length_map, List.map_map, show d'.toList.length = es.length by rw [Array.length_toList]; exact hds]
    exact this
  · have he2 := hperm.mem_iff.1 he
    exact own_but (h.own e he2) (but_put d') (fun k hk x => by subst x; exact own_ne (h.own e he2) hLg (by decide) hk)
  · exact (hperm.pairwise_iff (fun h => apart_symm h)).2 h.sep
end Go.Proofs.YtnbjfmkckebfgaaGreat
