/-
What is proved here: several texts in one (Grp, Mks, Apq, Apl, Win, Chk, Tke, Jumps): each says what it is about.
-/
import Derived.Test.YtpddamloajpiiaaGreatDoorMa1
import Derived.Lib.SliceRun
import Derived.Shelf.Slices.Empties
import Derived.BigQuiet
import Derived.Deep.QuietTactic
import Derived.Scope
import Derived.WalkKit
import Derived.WalkMore
/-
What is proved here: lists of numbers of one's own, put in order by the library's sort, by a contract.
-/
set_option linter.unusedSimpArgs false
set_option linter.unusedVariables false
namespace Go.Cmp
theorem cmpL_anti : ∀ l k : List Int, cmpL k l = - cmpL l k
  | [], [] => rfl
  | [], _ :: _ => rfl
  | _ :: _, [] => rfl
  | x :: xs, y :: ys => by
    unfold cmpL
    by_cases h : x < y
    · rw [if_neg (by omega), if_pos h, if_pos h]; rfl
    · by_cases h2 : y < x
      · rw [if_pos h2, if_neg h, if_pos h2]
      · rw [if_neg h2, if_neg h, if_neg h, if_neg h2]; exact cmpL_anti xs ys
theorem cmpL_refl (l : List Int) : cmpL l l = 0 := by have := cmpL_anti l l; omega
theorem cmpL_le : ∀ l k m : List Int, cmpL l k ≤ 0 → cmpL k m ≤ 0 → cmpL l m ≤ 0 ∧ (cmpL l k < 0 ∨ cmpL k m < 0 → cmpL l m < 0)
  | [], [], m => fun _ h => ⟨h, fun h2 => h2.elim (fun h3 => by simp [cmpL] at h3) id⟩
  | [], y :: ys, [] => fun _ h => by simp [cmpL] at h
  | [], y :: ys, z :: zs => fun _ _ => ⟨by simp [cmpL], fun _ => by simp [cmpL]⟩
  | x :: xs, [], m => fun h _ => by simp [cmpL] at h
  | x :: xs, y :: ys, [] => fun _ h => by simp [cmpL] at h
  | x :: xs, y :: ys, z :: zs => fun h1 h2 => by
    unfold cmpL at h1 h2 ⊢
    have ih := cmpL_le xs ys zs
    by_cases a : x < y
    · rw [if_pos a] at h1 ⊢
      by_cases b : y < z
      · rw [if_pos (show x < z by omega)]; exact ⟨by omega, fun _ => by omega⟩
      · rw [if_neg b] at h2
        by_cases b2 : z < y
        · rw [if_pos b2] at h2; omega
        · rw [if_pos (show x < z by omega)]; exact ⟨by omega, fun _ => by omega⟩
    · rw [if_neg a] at h1 ⊢
      by_cases a2 : y < x
      · rw [if_pos a2] at h1; omega
      · rw [if_neg a2] at h1 ⊢
        by_cases b : y < z
        · rw [if_pos b, if_pos (show x < z by omega)]; exact ⟨by omega, fun _ => by omega⟩
        · rw [if_neg b] at h2 ⊢
          by_cases b2 : z < y
          · rw [if_pos b2] at h2; omega
          · rw [if_neg b2] at h2 ⊢
            rw [if_neg (show ¬ x < z by omega), if_neg (show ¬ z < x by omega)]
            exact ih h1 h2
end Go.Cmp
namespace Go.Proofs.YtpddamloajpiiaaGreatDoor
open Go.Cmp Go.RowKit Go.Sort Go.Shelf
theorem intsAt_off {w w' : World} {A : Option Addr} {l : List Int} {g : Nat} (h : IntsAt w A l) (hb : But (· = g) w w') (hne : ∀ b o, A = some ⟨b, o, none⟩ → b ≠ g) : IntsAt w' A l := fun i hi => by
  obtain ⟨b, o, e, hl, hc⟩ := h i hi
  exact ⟨b, o, e, Nat.lt_of_lt_of_le hl hb.size, cell_same hc (hb.block b hl (hne b o e))⟩
/-- no block is both -/
def Apart (a b : Ent) : Prop := ∀ k, a.rv.ownBlock = some k → b.rv.ownBlock ≠ some k
theorem apart_symm {a b : Ent} (h : Apart a b) : Apart b a := fun k hk hk2 => h k hk2 hk
/-- lists of numbers of one's own, each in a block of its own, their slices in a row of one's own -/
structure Grps (w : World) (B : Nat) (v : Value) (es : List Ent) : Prop where
  row : w.ownsRow B 33 1 v es.length (es.map Ent.rv)
  own : ∀ e ∈ es, OwnI w B e.rv (zs e.r)
  sep : es.Pairwise Apart
/-- a list that the comparison may look at while row g is put in order -/
structure SL (w : World) (g : Nat) where
  e : Ent
  ok : IntsAt w e.A (zs e.r) ∧ (∀ b o, e.A = some ⟨b, o, none⟩ → b ≠ g) ∧ e.r.length ≤ 100000000
instance (w : World) (g : Nat) : Inhabited (SL w g) := ⟨⟨⟨0, none, [], 0⟩, intsAt_nil _ _, (fun _ _ h => by cases h), Nat.zero_le _⟩⟩
def slV {w : World} {g : Nat} (x : SL w g) : Value := x.e.rv
def slC {w : World} {g : Nat} (x y : SL w g) : Int := cmpL (zs x.e.r) (zs y.e.r)
theorem sl_swo (w : World) (g : Nat) : SWO (ltOf (slC (w := w) (g := g))) where
  irrefl x := by simp [ltOf, slC, cmpL_refl]
  trans x y z h1 h2 := by
    have k1 : cmpL (zs x.e.r) (zs y.e.r) < 0 := of_decide_eq_true h1
    have k2 : cmpL (zs y.e.r) (zs z.e.r) < 0 := of_decide_eq_true h2
    exact decide_eq_true ((cmpL_le _ _ _ (by omega) (by omega)).2 (.inl k1))
  ntrans x y z h1 h2 := by
    have k1 : ¬ cmpL (zs x.e.r) (zs y.e.r) < 0 := of_decide_eq_false h1
    have k2 : ¬ cmpL (zs y.e.r) (zs z.e.r) < 0 := of_decide_eq_false h2
    refine decide_eq_false (show ¬ cmpL (zs x.e.r) (zs z.e.r) < 0 from ?_)
    have a := cmpL_anti (zs x.e.r) (zs y.e.r)
    have b := cmpL_anti (zs y.e.r) (zs z.e.r)
    have c := cmpL_anti (zs x.e.r) (zs z.e.r)
    have := (cmpL_le (zs z.e.r) (zs y.e.r) (zs x.e.r) (by omega) (by omega)).1
    omega
theorem sl_cmp (w : World) (g n : Nat) : CmpLays1 Tryz.prog 55 #[] (slV (w := w) (g := g)) slC g 0 n w :=
  CmpReads.lays fun m os dk hs x y => by
    have h := cmpL_any x.e.A y.e.A x.e.c y.e.c (zs x.e.r) (zs y.e.r) (sortWorld slV w g 0 m dk os) (intsAt_off x.ok.1 (but_put dk) x.ok.2.1) (intsAt_off y.ok.1 (but_put dk) y.ok.2.1) (by rw [zs_len]; have := x.ok.2.2; omega) (by rw [zs_len]; have := y.ok.2.2; omega)
    rw [zs_len, zs_len] at h
    exact h.mono fun e w' ⟨he, hw⟩ => ⟨he, 0, hw.symm⟩
/-- what the sort leaves -/
def SrtE (w : World) (B : Nat) (v : Value) (es : List Ent) (w' : World) : Prop := ∃ es', es'.Perm es ∧ es'.Pairwise (fun a b => ¬ cmpL (zs b.r) (zs a.r) < 0) ∧ Grps w' B v es' ∧ But (fun k => some k = v.ownBlock) w w'
theorem sortL_any (B : Nat) (A : Option Addr) (C : Nat) (es : List Ent) (w : World) (h : Grps w B (.slice A es.length C) es) (hl : es.length ≤ 100000) (hr : ∀ e ∈ es, e.r.length ≤ 100000000) :
    Calls Tryz.prog 54 #[.slice A es.length C, .func (.func 55) #[] #[]] w fun e w' => e = .returned (.tuple #[]) ∧ SrtE w B (.slice A es.length C) es w' := by
  by_cases h0 : es.length = 0
  · have hes : es = [] := List.length_eq_zero_iff.1 h0
    subst hes
    refine (show Calls Tryz.prog 54 #[.slice A 0 C, .func (.func 55) #[] #[]] w _ from AnyF.slices_SortFunc_none { sortL with } A C (.func (.func 55) #[] #[]) w).mono ?_
    rintro e w' ⟨rfl, rfl⟩
    exact ⟨rfl, [], .refl _, .nil, h, .refl _ _⟩
  obtain ⟨g, cap, hv, hBg, hgl⟩ := World.ownsRow.form h.row (by omega)
  injection hv with e1 e2 e3
  subst e1 e3
  have hLg : ∃ cs, Lies w g 33 cs := (own_heap h.row g rfl).2.2
  obtain ⟨cs, hLg⟩ := hLg
  have hok : ∀ e ∈ es, IntsAt w e.A (zs e.r) ∧ (∀ b o, e.A = some ⟨b, o, none⟩ → b ≠ g) ∧ e.r.length ≤ 100000000 := fun e he => by
    have ho := h.own e he
    refine ⟨(ownI_ints ho).2, fun b o hA hb => ?_, hr e he⟩
    subst hb
    exact own_ne ho hLg (by decide) (by unfold Ent.rv; rw [hA]; rfl)
  let d : List (SL w g) := es.attach.map fun e => ⟨e.1, hok e.1 e.2⟩
  have hd : d.map (·.e) = es := by
    show (es.attach.map fun e => (⟨e.1, hok e.1 e.2⟩ : SL w g)).map (·.e) = es
    rw [List.map_map]
    exact List.attach_map_subtype_val es
  have hdl : d.length = es.length := by have := congrArg List.length hd; rwa [List.length_map] at this
  have hcon := Any.slices_SortFunc sortL (slV (w := w) (g := g)) (fun _ => rfl) slC (sl_swo w g) 55 #[] g 0 C d.toArray w (enters_of Tryz.func55 (by kernel_rfl) rfl) (sl_cmp w g _) (fun j hj => by
    have hj' : j < d.length := by simpa using hj
    refine ⟨?_, h.row.frozenAt _⟩
    rw [Nat.zero_add, h.row.cellAt j (by omega)]
    have : (es.map Ent.rv)[j]? = some (slV d[j]) := by
      rw [← hd, List.map_map, List.getElem?_map, List.getElem?_eq_getElem hj']
      rfl
    rw [this]
    simp [getElem!_pos d j hj']) hgl (by simp; omega)
  have hsz : d.toArray.size = es.length := by simpa using hdl
  rw [hsz] at hcon
  refine (show Calls Tryz.prog 54 _ _ _ from hcon).mono ?_
  rintro e w' ⟨rfl, d', n, os, hp, hs, rfl⟩
  have hds : d'.size = es.length := by rw [hp.1, hsz]
  have hperm : (d'.toList.map (·.e)).Perm es := by
    have h3 := hp.2.2
    rw [show d'.extract 0 es.length = d' by rw [← hds]; simp, show d.toArray.extract 0 es.length = d.toArray by rw [← hsz]; simp] at h3
    have h4 := h3.map (·.e)
    simpa [hd] using h4
  refine ⟨rfl, d'.toList.map (·.e), hperm, ?_, ⟨?_, fun e he => ?_, ?_⟩, (but_put _).mono (fun k _ hk => by subst hk; rfl)⟩
  · refine List.pairwise_iff_getElem.2 fun i j hi hj hij => ?_
    simp only [List.length_map, Array.length_toList] at hi hj
    have := hs i j (Nat.zero_le _) hij (by omega)
    rw [getElem!_pos d' i hi, getElem!_pos d' j hj] at this
    have k : ¬ cmpL (zs (d'[j]).e.r) (zs (d'[i]).e.r) < 0 := of_decide_eq_false this
    simpa using k
  · have := own_put (enc := slV (w := w) (g := g)) (n := n) (os := os) (d := d') h.row hds
    rw [List.length_map, List.map_map, show d'.toList.length = es.length by rw [Array.length_toList]; exact hds]
    exact this
  · have he2 := hperm.mem_iff.1 he
    exact own_but (h.own e he2) (but_put d') (fun k hk x => by subst x; exact own_ne (h.own e he2) hLg (by decide) hk)
  · exact (hperm.pairwise_iff (fun h => apart_symm h)).2 h.sep
end Go.Proofs.YtpddamloajpiiaaGreatDoor

/-
What is proved here: rows that the program makes, of lists, of numbers and of marks.
-/
set_option linter.unusedSimpArgs false
set_option linter.unusedVariables false
namespace Go.Proofs.YtpddamloajpiiaaGreatDoor
open Go.Cmp Go.RowKit
def nilV : Value := .slice none 0 0
theorem made_rep (v : Value) (n : Nat) : madeCells #[v] n = Array.replicate n v := by
  rw [← List.toArray_replicate]
  refine Array.ext_getElem? fun j => ?_
  by_cases h : j < n
  · have : (madeCells #[v] n)[j]? = some v := by simp [madeCells, h, Nat.mod_one]
    rw [this, List.getElem?_toArray, List.getElem?_replicate, if_pos h]
  · rw [Array.getElem?_eq_none (by simp [madeCells]; omega), List.getElem?_toArray, List.getElem?_eq_none (by simp; omega)]
theorem mk_lists (W : World) (n : Nat) (h : n ≤ 1000000) : (Instr.makeSlice 23 (.int .i64 (n : Int)) (.int .i64 (n : Int))).run Tryz.prog W =
    .ok (.slice (some ⟨W.heap.size, 0, none⟩) n n) (W.alloc (.cells (Array.replicate n (.slice none 0 0)) 33)) := by
  obtain ⟨i, hi, hz0, hz1, hz2⟩ := info_parts list_info
  have := run_makeSlice (P := Tryz.prog) W 23 33 i (.slice none 0 0) Tryz.underlying23 hi hz0 .i64 .i64 (n : Int) (n : Int) (by omega) (by omega) (by rw [hz1]; omega) (by rw [hz2]; omega) (by omega)
  rw [this, hz1, Int.toNat_natCast, Nat.mul_one, ← made_rep]
  rfl
theorem mk_ints (W : World) (n : Nat) (h : n ≤ 1000000) : (Instr.makeSlice 33 (.int .i64 (n : Int)) (.int .i64 (n : Int))).run Tryz.prog W =
    .ok (.slice (some ⟨W.heap.size, 0, none⟩) n n) (W.alloc (.cells (Array.replicate n (.int .i64 0)) 3)) := by
  obtain ⟨i, hi, hz0, hz1, hz2⟩ := info_parts int_info
  have := run_makeSlice (P := Tryz.prog) W 33 3 i (.int .i64 0) Tryz.underlying33 hi hz0 .i64 .i64 (n : Int) (n : Int) (by omega) (by omega) (by rw [hz1]; omega) (by rw [hz2]; omega) (by omega)
  rw [this, hz1, Int.toNat_natCast, Nat.mul_one, ← made_rep]
  rfl
theorem mk_marks (W : World) (n : Nat) (h : n ≤ 1000000) : (Instr.makeSlice 70 (.int .i64 (n : Int)) (.int .i64 (n : Int))).run Tryz.prog W =
    .ok (.slice (some ⟨W.heap.size, 0, none⟩) n n) (W.alloc (.cells (bRow (List.replicate n false)) 4)) := by
  obtain ⟨i, hi, hz0, hz1, hz2⟩ := info_parts bool_info
  have := run_makeSlice (P := Tryz.prog) W 70 4 i (.bool false) Tryz.underlying70 hi hz0 .i64 .i64 (n : Int) (n : Int) (by omega) (by omega) (by rw [hz1]; omega) (by rw [hz2]; omega) (by omega)
  rw [this, hz1, Int.toNat_natCast, Nat.mul_one]
  have e : bRow (List.replicate n false) = madeCells #[.bool false] n := by rw [made_rep, ← List.toArray_replicate]; simp [bRow, bV]
  rw [e]
  rfl
theorem sep_made (w : World) (B n : Nat) : Sep w B (List.replicate n nilV) (List.replicate n []) := by
  refine ⟨by simp, fun v hv => ?_, fun v v' k hv hv' hne hk => ?_⟩
  · simp at hv
    rw [List.getD_eq_getElem?_getD, List.getElem?_replicate, if_pos hv, List.getD_eq_getElem?_getD, List.getElem?_replicate, if_pos hv]
    exact ownI_nil _ _
  · simp at hv
    rw [List.getD_eq_getElem?_getD, List.getElem?_replicate, if_pos hv] at hk
    cases hk
end Go.Proofs.YtpddamloajpiiaaGreatDoor

/-
What is proved here: a list put behind a row of one's own.
-/
set_option linter.unusedSimpArgs false
set_option linter.unusedVariables false
namespace Go.Proofs.YtpddamloajpiiaaGreatDoor
open Go.Cmp Go.RowKit
theorem run_append_none_cap (w : World) (base : Nat) (t ty e : TypeId) (i : TypeInfo) (size : Nat) (ht : Tryz.prog.underlying t = some (.slice e)) (hi : Tryz.prog.info? e = some i)
    (v : Value) (n : Nat) (xs : List Value) (c : Nat) (hown : w.ownsRow base e size v n xs) :
    (Builtin.append_ #[t, t] ty #[v, .slice none 0 c]).run Tryz.prog w = .ok v w := by
  rcases hown.2 with ⟨rfl, rfl⟩ | ⟨g, cap, cur, rfl, _, _, hnc, _⟩
  · simp [Builtin.append_, run_underlying ht, sizeOf, typeInfo, hi, Builtin.lenOf, Builtin.firstCells]
  · simp [Builtin.append_, run_underlying ht, sizeOf, typeInfo, hi, Builtin.lenOf, Builtin.firstCells, hnc, storeCells]
theorem intsAt_none {w : World} {l : List Int} (h : IntsAt w none l) : l = [] := by
  cases l with
  | nil => rfl
  | cons c t =>
    obtain ⟨b, o, e, _⟩ := h 0 (by simp)
    cases e
set_option maxRecDepth 100000 in
theorem wpList_app_list {w : World} {ops : Array Oper} {rest : List Oper} {o : Oper} {a : Act} {Q : Exit → Act → World → Prop} (hgd : o.guard = none) (s x : Operand)
    (ho : o.op = .call { callee := .builtin .append, args := #[s, x], argTypes := #[33, 33] }) (B : Nat) (v : Value) (l : List Int) (hs : a.eval s = v) (hown : OwnI w B v l)
    (DA : Option Addr) (dn dc : Nat) (d : List Int) (hdn : dn = d.length) (hx : a.eval x = .slice DA dn dc) (hd : IntsAt w DA d) (hb1 : l.length ≤ 100000000) (hb2 : d.length ≤ 100000000) (hbase : B ≤ w.heap.size)
    (h : ∀ v' w', OwnI w' B v' (l ++ d) → But (fun k => some k = v.ownBlock) w w' → wpList Tryz.prog ops Q rest (a.put o.dst v') w') : wpList Tryz.prog ops Q (o :: rest) a w := by
  subst hdn
  obtain ⟨i0, hi, hz0, hz1, hz2⟩ := info_parts int_info
  cases DA with
  | none =>
    have hd0 := intsAt_none hd
    subst hd0
    rw [List.append_nil] at h
    refine wpList_plain hgd fun K hK => ?_
    have hrun := run_append_none_cap w B 33 o.type 3 i0 1 Tryz.underlying33 hi v l.length (l.map iV) dc hown
    unfold Oper.wp
    simp only [List.length_nil] at hx
    simp [execOp, ho, resolve, invoke, builtin, hs, hx, hrun, Result.andThen]
    exact hK _ _ (h _ _ hown (.refl _ _))
  | some ad =>
    refine wpList_append_own _ hgd s x 33 ho B 3 i0 (.int .i64 0) 1 8 Tryz.underlying33 hi hz0 hz1 hz2 rfl (by decide) v l.length (l.map iV) hs hown ad d.length dc (d.map iV) hx (by simp) (fun j u hj => ?_) (fun u hu => ?_) (by unfold maxLen; omega) (by omega) hbase (fun v' w' h1 h2 _ => h v' w' ?_ (But.grown h2))
    · have hjl : j < d.length := by
        have := (List.getElem?_eq_some_iff.1 hj).1
        simpa using this
      obtain ⟨b, o, e, _, hc⟩ := hd j hjl
      injection e with e
      subst e
      rw [Addr.add_mid, hc]
      rw [List.getElem?_map, List.getElem?_eq_getElem hjl] at hj
      simpa using hj
    · obtain ⟨c, _, rfl⟩ := List.mem_map.1 hu
      rfl
    · unfold OwnI
      rw [List.length_append, List.map_append]
      exact h1
theorem own_less {w : World} {B g cap n t : Nat} {xs : List Value} {k m : Nat} (h : w.ownsRow B t 1 (.slice (some ⟨g, 0, none⟩) k cap) k xs) (hm : m ≤ k) : w.ownsRow B t 1 (.slice (some ⟨g, 0, none⟩) m cap) m (xs.take m) := by
  rcases h with ⟨hx, h2⟩
  rcases h2 with ⟨h0, _⟩ | ⟨g', cap', cur, hv, hg, hb, hn, hcap, hs, ht⟩
  · cases h0
  · injection hv with e1 e2 e3
    injection e1 with e1
    injection e1 with e1
    subst e1 e3
    refine ⟨by rw [List.length_take]; omega, .inr ⟨g, cap, cur, rfl, hg, hb, by omega, hcap, hs, ?_⟩⟩
    rw [← ht, List.take_take]
    congr 1
    omega
end Go.Proofs.YtpddamloajpiiaaGreatDoor

/-
What is proved here: a list put behind a row of one's own; a slice put behind a row of slices of one's own; marks cleared.
-/
set_option linter.unusedSimpArgs false
set_option linter.unusedVariables false
namespace Go.Proofs.YtpddamloajpiiaaGreatDoor
open Go.Cmp Go.RowKit
set_option maxRecDepth 100000 in
/-- one slice more behind a row of slices of one's own, and where the row then lies -/
theorem wpList_app_slice {w : World} {ops : Array Oper} {rest : List Oper} {o : Oper} {a : Act} {Q : Exit → Act → World → Prop} (hgd : o.guard = none) (s x : Operand)
    (ho : o.op = .call { callee := .builtin .append, args := #[s, x], argTypes := #[23, 23] }) (B g : Nat) (u v : Value) (n : Nat) (xs : List Value) (hs : a.eval s = v) (hown : w.ownsRow B 33 1 v n xs) (hx : a.eval x = .slice (some ⟨g, 0, none⟩) 1 1) (hg : Lies w g 33 #[u]) (hu : u.oneCell' = true)
    (hb : n ≤ 1000000) (hbase : B ≤ w.heap.size)
    (h : ∀ G cap w', w'.ownsRow B 33 1 (.slice (some ⟨G, 0, none⟩) (n + 1) cap) (n + 1) (xs ++ [u]) → w.grownBy w' v.ownBlock → (v.ownBlock = some G ∨ G = w.heap.size) → wpList Tryz.prog ops Q rest (a.put o.dst (.slice (some ⟨G, 0, none⟩) (n + 1) cap)) w') : wpList Tryz.prog ops Q (o :: rest) a w := by
  obtain ⟨i0, hi, hz0, hz1, hz2⟩ := info_parts list_info
  refine wpList_append_lies w hgd s x 23 ho B 33 i0 (.slice none 0 0) 1 24 Tryz.underlying23 hi hz0 hz1 hz2 rfl (by decide) v n xs hs hown ⟨g, 0, none⟩ 1 1 [u] hx (by simp) (fun j y hj => by
    match j, hj with
    | 0, hj => injection hj with hj; subst hj; exact lies_cell hg 0
    | j + 1, hj => simp at hj) (fun y hy => by simp at hy; subst hy; exact hu) (by decide) (by unfold maxLen; omega) (by omega) hbase w.heap.size rfl (fun G cap w' h1 h2 h3 _ => h G cap w' h1 h2 h3)
theorem lies_setCells (g : Nat) (t : TypeId) : ∀ (vs : List Value) (o : Nat) (w : World) (cs : Array Value), Lies w g t cs → o + vs.length ≤ cs.size →
    ∃ cs', Lies (w.setCells g o vs) g t cs' ∧ cs'.size = cs.size ∧ ∀ j, cs'[j]? = if o ≤ j ∧ j < o + vs.length then vs[j - o]? else cs[j]?
  | [], o, w, cs => fun h _ => ⟨cs, h, rfl, fun j => by rw [if_neg (by simp)]⟩
  | v :: r, o, w, cs => fun h hs => by
    simp only [List.length_cons] at hs
    obtain ⟨cs', h1, h2, h3⟩ := lies_setCells g t r (o + 1) (w.setCell ⟨g, o, none⟩ v) _ (lies_set h o v) (by simp; omega)
    refine ⟨cs', h1, by rw [h2]; simp, fun j => ?_⟩
    rw [h3 j]
    by_cases e : j = o
    · subst e
      rw [if_neg (by omega), if_pos (by simp), Array.getElem?_setIfInBounds, if_pos rfl, if_pos (by omega), Nat.sub_self]
      rfl
    · by_cases e2 : o + 1 ≤ j ∧ j < o + 1 + r.length
      · rw [if_pos e2, if_pos (by simp; omega), show j - o = (j - (o + 1)) + 1 by omega]
        simp
      · rw [if_neg e2, if_neg (by simp; omega), Array.getElem?_setIfInBounds, if_neg (by omega)]
theorem but_setCells (g : Nat) : ∀ (vs : List Value) (o : Nat) (w : World), But (· = g) w (w.setCells g o vs)
  | [], o, w => .refl _ _
  | v :: r, o, w => ((But.refl (· = g) w).setCell (p := ⟨g, o, none⟩) (fun _ => rfl) v).trans (but_setCells g r (o + 1) _)
theorem zero4 : ∀ w, (zeroValue 4).run Tryz.prog w = .ok (.bool false) w := Tryz.zeroValue4
theorem run_clear_marks (w : World) (ty : TypeId) (M n : Nat) (m : List Bool) (hm : Lies w M 4 (bRow m)) (hl : m.length = n) : ∃ w', (Builtin.clear_ #[70] ty #[.slice (some ⟨M, 0, none⟩) n n]).run Tryz.prog w = .ok (.tuple #[]) w' ∧ Lies w' M 4 (bRow (List.replicate n false)) ∧ But (· = M) w w' := by
  by_cases h0 : n = 0
  · subst h0
    have : m = [] := List.length_eq_zero_iff.1 hl
    subst this
    refine ⟨w, ?_, hm, .refl _ _⟩
    simp [Builtin.clear_, run_underlying Tryz.underlying70]
  · have hr := Lib.run_clear_slice (P := Tryz.prog) w 70 4 ty (.bool false) Tryz.underlying70 zero4 rfl rfl M 0 n n (by omega) (fun j hj => by rw [Nat.zero_add, lies_cell hm]; simp [bRow, hl, hj]) (fun j hj => by exact lies_free hm _)
    obtain ⟨cs', h1, h2, h3⟩ := lies_setCells M 4 (List.replicate n (.bool false)) 0 w _ hm (by simp [bRow, hl])
    refine ⟨_, hr, ?_, but_setCells M _ _ _⟩
    have e : cs' = bRow (List.replicate n false) := by
      refine Array.ext_getElem? fun j => ?_
      rw [h3 j]
      by_cases hj : j < n
      · rw [if_pos (by simp; omega)]
        simp [bRow, bV, hj]
      · rw [if_neg (by simp; omega)]
        simp [bRow, hl, hj]
    rw [← e]
    exact h1
end Go.Proofs.YtpddamloajpiiaaGreatDoor

/-
What is proved here: a number put into a window of a row of one's own, by a contract; and the look for its place.
-/
set_option linter.unusedSimpArgs false
set_option linter.unusedVariables false
namespace Go.Proofs.YtpddamloajpiiaaGreatDoor
open Go.Cmp Go.RowKit Go.Shelf
theorem lies_drew {w : World} {g : Nat} {t : TypeId} {cs : Array Value} (h : Lies w g t cs) : Lies w.drew g t cs := h
theorem lies_shape {w : World} {g : Nat} {t : TypeId} {cs : Array Value} (h : Lies w g t cs) : w.shape? g = some (t, cs.size) := by
  unfold Lies at h
  simp [World.shape?, h]
def wblk : Value → Option Nat
  | .slice (some a) _ _ => some a.block
  | _ => none
/-- numbers in a window of a row, room behind them -/
def Win (w : World) (B : Nat) (v : Value) (l : List Int) : Prop := (v = .slice none 0 0 ∧ l = []) ∨
  ∃ (g o c : Nat) (cur : Array Value), v = .slice (some ⟨g, o, none⟩) l.length c ∧ B ≤ g ∧ Lies w g 3 cur ∧ l.length ≤ c ∧ c ≤ maxLen ∧ o + c ≤ cur.size ∧ ∀ j, j < l.length → cur[o + j]? = (l.map iV)[j]?
theorem win_block {w : World} {B : Nat} {v : Value} {l : List Int} (h : Win w B v l) : ∀ k, wblk v = some k → B ≤ k ∧ k < w.heap.size := by
  rcases h with ⟨rfl, _⟩ | ⟨g, o, c, cur, rfl, hB, hL, _⟩
  · intro k hk; cases hk
  · intro k hk
    injection hk with hk
    subst hk
    exact ⟨hB, lies_lt hL⟩
theorem win_but {P : Nat → Prop} {w w' : World} {B : Nat} {v : Value} {l : List Int} (h : Win w B v l) (hb : But P w w') (hn : ∀ k, wblk v = some k → ¬ P k) : Win w' B v l := by
  rcases h with ⟨rfl, e⟩ | ⟨g, o, c, cur, rfl, hB, hL, h2⟩
  · exact .inl ⟨rfl, e⟩
  · exact .inr ⟨g, o, c, cur, rfl, hB, hb.lies hL (hn g rfl), h2⟩
def insAt (l : List Int) (i : Nat) (g : Int) : List Int := l.take i ++ g :: l.drop i
theorem insAt_len (l : List Int) (i : Nat) (g : Int) (h : i ≤ l.length) : (insAt l i g).length = l.length + 1 := by simp [insAt]; omega
theorem insAt_get (l : List Int) (i : Nat) (g : Int) (h : i ≤ l.length) (j : Nat) : ((insAt l i g).map iV)[j]? = if j < i then (l.map iV)[j]? else if j = i then some (iV g) else (l.map iV)[j - 1]? := by
  unfold insAt
  rw [List.map_append, List.map_cons, List.getElem?_append]
  by_cases h1 : j < i
  · rw [if_pos h1, if_pos (by simp; omega), List.map_take, List.getElem?_take_of_lt h1]
  · rw [if_neg h1, if_neg (by simp; omega)]
    by_cases h2 : j = i
    · subst h2
      rw [if_pos rfl, show j - (List.map iV (l.take j)).length = 0 by simp; omega]
      rfl
    · rw [if_neg h2, show j - (List.map iV (l.take i)).length = (j - 1 - i) + 1 by simp; omega, List.getElem?_cons_succ, List.map_drop, List.getElem?_drop, show i + (j - 1 - i) = j - 1 by omega]
theorem win_first {w : World} {B : Nat} {v : Value} {l : List Int} (h : Win w B v l) (h0 : 0 < l.length) : ∃ (g o c : Nat) (cur : Array Value), v = .slice (some ⟨g, o, none⟩) l.length c ∧ B ≤ g ∧ Lies w g 3 cur ∧ l.length ≤ c ∧ c ≤ maxLen ∧ o + c ≤ cur.size ∧ ∀ j, j < l.length → cur[o + j]? = (l.map iV)[j]? := by
  rcases h with ⟨rfl, rfl⟩ | h
  · cases h0
  · exact h
/-- what the insertion tells -/
def InsE (w : World) (B : Nat) (v : Value) (l' : List Int) (e : Ending) (w' : World) : Prop :=
  ∃ G o n c, e = .returned (.slice (some ⟨G, o, none⟩) n c) ∧ Win w' B (.slice (some ⟨G, o, none⟩) n c) l' ∧ But (fun k => some k = wblk v) w w' ∧ (wblk v = some G ∨ w.heap.size ≤ G)
theorem maxLen_eq : maxLen = 9223372036854775807 := by decide
theorem one_cell (z : Int) : ∀ v ∈ [iV z], v.oneCell' = true := fun v hv => by
  obtain rfl := List.mem_singleton.1 hv; rfl
theorem cells_one (l : List Int) : ∀ v ∈ l.map iV, v.oneCell' = true := fun v hv => by
  obtain ⟨z, _, rfl⟩ := List.mem_map.1 hv; rfl
theorem one_at {w : World} {vb : Nat} {g : Int} (hv : Lies w vb 3 #[iV g]) : ∀ j v, [iV g][j]? = some v → w.cell? ⟨vb, 0 + j, none⟩ = some v := fun j v hj => by
  match j, hj with
  | 0, hj => rw [lies_cell hv]; exact hj
  | j + 1, hj => simp at hj
theorem insert_any (B : Nat) (v : Value) (l : List Int) (i vb : Nat) (g : Int) (w : World) (h : Win w B v l) (hi : i ≤ l.length) (hl : l.length ≤ 100000) (hv : Lies w vb 3 #[iV g]) (hne : wblk v ≠ some vb) (hB : B ≤ w.heap.size) :
    Calls Tryz.prog 49 #[v, .int .i64 (i : Int), .slice (some ⟨vb, 0, none⟩) 1 1] w (InsE w B v (insAt l i g)) := by
  rcases Nat.lt_or_ge i l.length with h1 | h1
  · obtain ⟨b, o, c, cur, rfl, hBb, hL, hlc, hcm, hoc, hcells⟩ := win_first h (by omega)
    have hcs : ∀ j u, (l.map iV)[j]? = some u → w.cell? ⟨b, o + j, none⟩ = some u := fun j u hj => by
      have hjl : j < l.length := by have := (List.getElem?_eq_some_iff.1 hj).1; simpa using this
      rw [lies_cell hL, hcells j hjl]
      exact hj
    rcases Nat.lt_or_ge c (l.length + 1) with h2 | h2
    · have hcon := Any2.slices_Insert_int_grow insertI b o l.length c i vb 0 1 1 (l.map iV) [iV g] w h1 (by omega) hlc h2 (by omega) (by simp) rfl hcs (one_at hv) (cells_one l) (one_cell g)
      refine (show Calls Tryz.prog 49 _ _ _ from hcon).mono ?_
      rintro e w' ⟨rfl, rfl⟩
      have hcap := grownCap_ge w (l.length + 1) c 3
      have hcm2 := grownCap_le_maxLen w (l.length + 1) c 3 (by unfold maxLen; omega)
      obtain ⟨C, hC⟩ : ∃ C, C = grownCap w (l.length + 1) c 3 := ⟨_, rfl⟩
      rw [show grownCap w (l.length + 1) c (insertI_ren.t 3) = C from hC.symm]
      rw [← hC] at hcap hcm2
      have hz : (Value.int .i64 0).cells = #[.int .i64 0] := rfl
      have hzc : ∀ n, (Builtin.zeroCells #[Value.int .i64 0] n).size = n := fun n => by simp [Builtin.zeroCells]
      have L0 := lies_new w 3 (((l.map iV).take i).toArray ++ Builtin.zeroCells (Value.int .i64 0).cells (l.length + 1 - i) ++ Builtin.zeroCells (Value.int .i64 0).cells (C - (l.length + 1)))
      obtain ⟨c1, L1, s1, g1⟩ := lies_setCells w.heap.size 3 [iV g] i _ _ (lies_drew L0) (by simp [hz, hzc]; omega)
      obtain ⟨c2, L2, s2, g2⟩ := lies_setCells w.heap.size 3 ((l.map iV).drop i) (i + 1) _ _ (lies_drew L1) (by rw [s1]; simp [hz, hzc]; omega)
      refine ⟨_, _, _, _, rfl, .inr ⟨w.heap.size, 0, C, c2, by rw [insAt_len _ _ _ hi], hB, L2, by rw [insAt_len _ _ _ hi]; exact hcap, hcm2, by rw [s2, s1]; simp [hz, hzc]; omega, fun j hj => ?_⟩, ?_, .inr (Nat.le_refl _)⟩
      · rw [insAt_len _ _ _ hi] at hj
        rw [insAt_get _ _ _ hi, Nat.zero_add, g2 j]
        by_cases e1 : j < i
        · rw [if_neg (by omega), g1 j, if_neg (by omega), if_pos e1]
          rw [Array.getElem?_append_left (by simp [hz, hzc]; omega), Array.getElem?_append_left (by simp; omega)]
          rw [List.getElem?_toArray, List.getElem?_take_of_lt e1]
        · by_cases e2 : j = i
          · subst e2
            rw [if_neg (by omega), g1 j, if_pos (by simp), if_neg e1, if_pos rfl, Nat.sub_self]
            rfl
          · rw [if_pos (by simp; omega), if_neg e1, if_neg e2, List.getElem?_drop, show i + (j - (i + 1)) = j - 1 by omega]
      · have b1 := ((But.refl (fun k => some k = wblk (.slice (some ⟨b, o, none⟩) l.length c)) w).alloc (.cells (((l.map iV).take i).toArray ++ Builtin.zeroCells (Value.int .i64 0).cells (l.length + 1 - i) ++ Builtin.zeroCells (Value.int .i64 0).cells (C - (l.length + 1))) 3)).drew
        exact b1.step ((((but_setCells w.heap.size [iV g] i _)).drew).trans (but_setCells w.heap.size _ _ _)) (fun k hk e => by omega)
    · have hcon := Any2.slices_Insert_int_shift insertI b o l.length c i vb 0 1 1 (l.map iV) [iV g] w h1 (by omega) h2 (by rw [← maxLen_eq]; exact hcm) (fun e => hne (by rw [e]; rfl)) (by simp) rfl hcs (fun j hj => by rw [lies_cell hL, Array.getElem?_eq_getElem (by omega)]; rfl) (fun j _ => lies_free hL _) (one_at hv) (cells_one l) (one_cell g) 3 3 1 cur.size (lies_shape hv) (lies_shape hL) (by omega) (lies_free hv _) (lies_free hv _)
      refine (show Calls Tryz.prog 49 _ _ _ from hcon).mono ?_
      rintro e w' ⟨rfl, rfl⟩
      obtain ⟨c1, L1, s1, g1⟩ := lies_setCells b 3 ((l.map iV).drop i) (o + (i + 1)) _ _ (lies_drew hL) (by simp; omega)
      obtain ⟨c2, L2, s2, g2⟩ := lies_setCells b 3 [iV g] (o + i) _ _ L1 (by rw [s1]; simp; omega)
      refine ⟨_, _, _, _, rfl, .inr ⟨b, o, c, c2, by rw [insAt_len _ _ _ hi], hBb, L2, by rw [insAt_len _ _ _ hi]; exact h2, hcm, by rw [s2, s1]; exact hoc, fun j hj => ?_⟩, ?_, .inl rfl⟩
      · rw [insAt_len _ _ _ hi] at hj
        rw [insAt_get _ _ _ hi, g2 (o + j)]
        by_cases e1 : j < i
        · rw [if_neg (by omega), g1 (o + j), if_neg (by omega), if_pos e1]
          exact hcells j (by omega)
        · by_cases e2 : j = i
          · subst e2
            rw [if_pos (by simp), if_neg e1, if_pos rfl, Nat.sub_self]
            rfl
          · rw [if_neg (by simp; omega), g1 (o + j), if_pos (by simp; omega), if_neg e1, if_neg e2, List.getElem?_drop, show i + (o + j - (o + (i + 1))) = j - 1 by omega]
      · exact (((But.refl (· = b) w).drew.trans (but_setCells b _ _ _)).trans (but_setCells b _ _ _)).mono (fun k _ hk => by subst hk; rfl)
  · obtain rfl : i = l.length := by omega
    have e0 : insAt l l.length g = l ++ [g] := by simp [insAt]
    by_cases hroom : ∃ (b o c : Nat) (cur : Array Value), v = .slice (some ⟨b, o, none⟩) l.length c ∧ B ≤ b ∧ Lies w b 3 cur ∧ l.length + 1 ≤ c ∧ c ≤ maxLen ∧ o + c ≤ cur.size ∧ ∀ j, j < l.length → cur[o + j]? = (l.map iV)[j]?
    · obtain ⟨b, o, c, cur, rfl, hBb, hL, hlc, hcm, hoc, hcells⟩ := hroom
      have hcon := Any2.slices_Insert_int_end_room insertI b o l.length c vb 0 1 1 [iV g] w (by omega) hlc (by rw [← maxLen_eq]; exact hcm) rfl (fun j hj => by rw [lies_cell hL, Array.getElem?_eq_getElem (by omega)]; rfl) (fun j _ => lies_free hL _) (one_at hv) (one_cell g)
      refine (show Calls Tryz.prog 49 _ _ _ from hcon).mono ?_
      rintro e w' ⟨rfl, rfl⟩
      obtain ⟨c1, L1, s1, g1⟩ := lies_setCells b 3 [iV g] (o + l.length) _ _ hL (by simp; omega)
      refine ⟨_, _, _, _, rfl, .inr ⟨b, o, c, c1, by rw [insAt_len _ _ _ hi], hBb, L1, by rw [insAt_len _ _ _ hi]; exact hlc, hcm, by rw [s1]; exact hoc, fun j hj => ?_⟩, ?_, .inl rfl⟩
      · rw [insAt_len _ _ _ hi] at hj
        rw [insAt_get _ _ _ hi, g1 (o + j)]
        by_cases e1 : j < l.length
        · rw [if_neg (by omega), if_pos e1]
          exact hcells j e1
        · obtain rfl : j = l.length := by omega
          rw [if_pos (by simp), if_neg e1, if_pos rfl, Nat.sub_self]
          rfl
      · exact (but_setCells b _ _ _).mono (fun k _ hk => by subst hk; rfl)
    · obtain ⟨base, c, rfl, hlc, hc1, hnil, hcs⟩ : ∃ (base : Option Addr) (c : Nat), v = .slice base l.length c ∧ l.length ≤ c ∧ c < l.length + 1 ∧ (base = none → l.length = 0) ∧ ∀ a, base = some a → ∀ j u, (l.map iV)[j]? = some u → w.cell? (a.add j) = some u := by
        rcases h with ⟨rfl, rfl⟩ | ⟨b, o, c, cur, rfl, hBb, hL, hlc, hcm, hoc, hcells⟩
        · exact ⟨none, 0, rfl, Nat.le_refl _, by simp, fun _ => rfl, fun a ha => by cases ha⟩
        · refine ⟨_, c, rfl, hlc, ?_, (fun h => by cases h), fun a ha j u hj => ?_⟩
          · rcases Nat.lt_or_ge c (l.length + 1) with h2 | h2
            · exact h2
            · exact absurd ⟨b, o, c, cur, rfl, hBb, hL, h2, hcm, hoc, hcells⟩ hroom
          · injection ha with ha
            subst ha
            have hjl : j < l.length := by have := (List.getElem?_eq_some_iff.1 hj).1; simpa using this
            rw [Addr.add_mid, lies_cell hL, hcells j hjl]
            exact hj
      have hcon := Any2.slices_Insert_int_end_grow insertI base l.length c vb 0 1 1 (l.map iV) [iV g] w (by omega) hlc hc1 (by omega) (by simp) rfl hnil hcs (one_at hv) (one_cell g)
      refine (show Calls Tryz.prog 49 _ _ _ from hcon).mono ?_
      rintro e w' ⟨rfl, rfl⟩
      have hcap := grownCap_ge w (l.length + 1) c 3
      have hcm2 := grownCap_le_maxLen w (l.length + 1) c 3 (by unfold maxLen; omega)
      obtain ⟨C, hC⟩ : ∃ C, C = grownCap w (l.length + 1) c 3 := ⟨_, rfl⟩
      rw [show grownCap w (l.length + 1) c (insertI_ren.t 3) = C from hC.symm]
      rw [← hC] at hcap hcm2
      have hz : (Value.int .i64 0).cells = #[.int .i64 0] := rfl
      have hzc : ∀ n, (Builtin.zeroCells #[Value.int .i64 0] n).size = n := fun n => by simp [Builtin.zeroCells]
      refine ⟨_, _, _, _, rfl, .inr ⟨w.heap.size, 0, C, _, by rw [insAt_len _ _ _ hi], hB, lies_new w.drew 3 _, by rw [insAt_len _ _ _ hi]; exact hcap, hcm2, by simp [hz, hzc]; omega, fun j hj => ?_⟩, (But.refl _ w).drew.alloc _, .inr (Nat.le_refl _)⟩
      rw [insAt_len _ _ _ hi] at hj
      rw [e0, Nat.zero_add, Array.getElem?_append_left (by simp; omega), List.getElem?_toArray, List.map_append]
      rfl
end Go.Proofs.YtpddamloajpiiaaGreatDoor

/-
What is proved here: package comp's check of needs, by a contract.
-/
set_option linter.unusedSimpArgs false
set_option linter.unusedVariables false
namespace Go.Proofs.YtpddamloajpiiaaGreatDoor
open Go.Cmp Go.RowKit
/-- too long a list -/
def longP (l : List Int) : Bool := decide (1024 < l.length)
/-- no place of K -/
def noneP (K : Nat) (z : Int) : Bool := decide (z < 0) || decide ((K : Int) ≤ z)
theorem long_any (A : Option Addr) (n c : Nat) (w : World) : Calls Tryz.prog 41 #[.slice A n c] w fun e w' => e = .returned (.bool (decide (1024 < n))) ∧ w' = w := by
  by_cases h : 1024 < n
  · have h1 : (1024 : Int) < (n : Int) := by omega
    go_enter Tryz.func41, Tryz.ntmps41
    go_wp2
    go_ret
    exact ⟨by simp [h], rfl⟩
  · have h1 : ¬ (1024 : Int) < (n : Int) := by omega
    go_enter Tryz.func41, Tryz.ntmps41
    go_wp2
    go_ret
    exact ⟨by simp [h], rfl⟩
theorem none_any (K c : Nat) (A : Option Addr) (BB : Nat) (z : Int) (w : World) (h : Lies w BB 23 #[.slice A K c]) : Calls Tryz.prog 43 #[.int .i64 z, .pointer (some ⟨BB, 0, none⟩)] w fun e w' => e = .returned (.bool (noneP K z)) ∧ w' = w := by
  have c0 := lies_cell h 0
  simp only [List.getElem?_toArray, List.getElem?_cons_zero] at c0
  unfold noneP
  clear h
  by_cases h1 : z < 0
  · go_enter Tryz.func43, Tryz.ntmps43
    go_wp2
    go_ret
    exact ⟨by simp [h1], rfl⟩
  · by_cases h2 : (K : Int) ≤ z
    · go_enter Tryz.func43, Tryz.ntmps43
      go_wp2
      go_ret
      exact ⟨by simp [h1, h2], rfl⟩
    · go_enter Tryz.func43, Tryz.ntmps43
      go_wp2
      go_ret
      exact ⟨by simp [h1, h2], rfl⟩
/-- what a look for the first one tells -/
def Fst (b : Bool) (z : Int) : Prop := (b = false ∧ z = -1) ∨ (b = true ∧ ∃ k : Nat, z = (k : Int))
theorem fst_true {z : Int} (h : Fst true z) : ∃ k : Nat, z = (k : Int) := by
  rcases h with ⟨h, _⟩ | ⟨_, h⟩
  · cases h
  · exact h
theorem fst_false {z : Int} (h : Fst false z) : z = -1 := by
  rcases h with ⟨_, h⟩ | ⟨h, _⟩
  · exact h
  · cases h
theorem any_at {α : Type} (l : List α) (p : α → Bool) (i : Nat) (hi : i < l.length) (h : p l[i] = true) : l.any p = true := List.any_eq_true.2 ⟨_, List.getElem_mem hi, h⟩
theorem any_not {α : Type} (l : List α) (p : α → Bool) (h : ∀ j (hj : j < l.length), p l[j] = false) : l.any p = false := by
  rw [List.any_eq_false]
  intro x hx
  obtain ⟨j, hj, rfl⟩ := List.getElem_of_mem hx
  rw [h j hj]; simp

set_option maxRecDepth 100000 in
set_option maxHeartbeats 2000000 in
theorem idx29_any (A : Option Addr) (c : Nat) (N : List (List Int)) (w : World) (hL : LsAt w A N) (hn : N.length ≤ 1000000000)  :
    Calls Tryz.prog 67 #[.slice A N.length c, .func (.func 41) #[] #[]] w fun e w' => (∃ z, e = .returned (.int .i64 z) ∧ Fst (N.any longP) z) ∧ w' = w := by
  have HL := Lib.hid hL
  have KF := Lib.hid (fun (A : Option Addr) (n c : Nat) (l : List Int) (hl : n = l.length) (hi : IntsAt w A l) => (show Calls Tryz.prog 41 #[.slice A n c] w (fun e w' => e = .returned (.bool (longP l)) ∧ w' = w) by have := long_any A n c w; unfold longP; rw [← hl]; exact this))
  obtain ⟨n, hnn⟩ : ∃ n, n = N.length := ⟨_, rfl⟩
  have HN := Lib.hid hnn
  rw [← hnn] at hn ⊢
  clear hL hnn
  go_enter Tryz.func67, Tryz.ntmps67
  go_wp2
  go_loopw [5, 8] (fun _ v8 wr => ∃ i : Nat, i ≤ n ∧ v8 = .int .i64 (i : Int) ∧ wr = w ∧ Hid (∀ j (hj : j < N.length), j < i → longP N[j] = false)) (fun _ v8 _ => n - (intOf v8).toNat)
  case atStart => exact ⟨0, Nat.zero_le _, rfl, rfl, fun j _ hj => absurd hj (Nat.not_lt_zero _)⟩
  case round =>
    obtain ⟨i, hi, rfl, rfl, hA⟩ := hrel
    by_cases hlt : i < n
    · have li : (i : Int) < (n : Int) := by omega
      have hiN : i < N.length := by rw [← HN.out]; exact hlt
      obtain ⟨b, o, A', c', eA, hbw, cc, hcl, hI⟩ := HL.out i hiN
      subst eA
      obtain ⟨l, hl⟩ : ∃ l, l = N[i] := ⟨_, rfl⟩
      rw [← hl] at cc hcl hI
      have HLI := Lib.hid hl
      obtain ⟨m, hm⟩ : ∃ m, m = l.length := ⟨_, rfl⟩
      have K1 := Lib.hid (KF.out A' m c' l hm hI)
      rw [← hm] at cc hcl
      clear hl hI hm
      cases hp : longP l with
      | true =>
        rw [hp] at K1
        go_wp2_with (go_at_call 41; (with_reducible refine K1.out.mono ?_); rintro e w1 ⟨rfl, rfl⟩)
        go_ret
        exact ⟨⟨_, rfl, .inr ⟨any_at _ _ i hiN (by rw [← HLI.out]; exact hp), i, rfl⟩⟩, rfl⟩
      | false =>
        rw [hp] at K1
        go_wp2_with (go_at_call 41; (with_reducible refine K1.out.mono ?_); rintro e w1 ⟨rfl, rfl⟩)
        go_roundw
        case rel =>
          refine ⟨i + 1, by omega, by go_num, (by first | rfl | trivial), fun j hj hji => ?_⟩
          rcases Nat.lt_or_ge j i with h | h
          · exact hA j hj h
          · obtain rfl : j = i := by omega
            rw [← HLI.out]; exact hp
        case measure => first | (simp [intOf]; done) | (simp [intOf]; omega)
    · obtain rfl : i = n := by omega
      have li : ¬ (i : Int) < (i : Int) := by omega
      go_wp2
      go_ret
      exact ⟨⟨_, rfl, .inl ⟨any_not _ _ (fun j hj => hA j hj (by rw [HN.out]; exact hj)), rfl⟩⟩, rfl⟩
set_option maxRecDepth 100000 in
theorem con29_any (A : Option Addr) (c : Nat) (N : List (List Int)) (w : World) (hL : LsAt w A N) (hn : N.length ≤ 1000000000)  :
    Calls Tryz.prog 42 #[.slice A N.length c, .func (.func 41) #[] #[]] w fun e w' => e = .returned (.bool (N.any longP)) ∧ w' = w := by
  have K := Lib.hid (idx29_any A c N w hL hn )
  obtain ⟨b, hb⟩ : ∃ b, b = N.any longP := ⟨_, rfl⟩
  rw [← hb] at K ⊢
  clear hL hb
  generalize N.length = n at *
  go_enter Tryz.func42, Tryz.ntmps42
  go_upto_region 1 with (fail)
  have K1 := K.out
  rcases Bool.eq_false_or_eq_true b with hb | hb
  · subst hb
    go_wp2_with (go_at_call 67; (with_reducible refine K1.mono ?_); rintro e w1 ⟨⟨z, rfl, hz⟩, rfl⟩; obtain ⟨k, rfl⟩ := fst_true hz; have k0 : (0 : Int) ≤ (k : Int) := by omega)
    go_ret
    exact ⟨by simp, rfl⟩
  · subst hb
    go_wp2_with (go_at_call 67; (with_reducible refine K1.mono ?_); rintro e w1 ⟨⟨z, rfl, hz⟩, rfl⟩; obtain rfl := fst_false hz)
    go_ret
    exact ⟨by simp, rfl⟩

set_option maxRecDepth 100000 in
set_option maxHeartbeats 2000000 in
theorem idxI_any (A : Option Addr) (c : Nat) (l : List Int) (w : World) (hL : IntsAt w A l) (hn : l.length ≤ 1000000000) (KN cK : Nat) (AK : Option Addr) (BB : Nat) (hBB : Lies w BB 23 #[.slice AK KN cK]) :
    Calls Tryz.prog 68 #[.slice A l.length c, .func (.func 43) #[] #[.pointer (some ⟨BB, 0, none⟩)]] w fun e w' => (∃ z, e = .returned (.int .i64 z) ∧ Fst (l.any (noneP KN)) z) ∧ w' = w := by
  have HL := Lib.hid hL
  have KF := Lib.hid (fun (z : Int) => none_any KN cK AK BB z w hBB)
  obtain ⟨n, hnn⟩ : ∃ n, n = l.length := ⟨_, rfl⟩
  have HN := Lib.hid hnn
  rw [← hnn] at hn ⊢
  clear hL hnn hBB
  go_enter Tryz.func68, Tryz.ntmps68
  go_wp2
  go_loopw [5, 8] (fun _ v8 wr => ∃ i : Nat, i ≤ n ∧ v8 = .int .i64 (i : Int) ∧ wr = w ∧ Hid (∀ j (hj : j < l.length), j < i → noneP KN l[j] = false)) (fun _ v8 _ => n - (intOf v8).toNat)
  case atStart => exact ⟨0, Nat.zero_le _, rfl, rfl, fun j _ hj => absurd hj (Nat.not_lt_zero _)⟩
  case round =>
    obtain ⟨i, hi, rfl, rfl, hA⟩ := hrel
    by_cases hlt : i < n
    · have li : (i : Int) < (n : Int) := by omega
      have hiN : i < l.length := by rw [← HN.out]; exact hlt
      obtain ⟨b, o, eA, hbw, cc⟩ := HL.out i hiN
      subst eA
      obtain ⟨z, hz⟩ : ∃ z, z = l[i] := ⟨_, rfl⟩
      rw [← hz] at cc
      have HZ := Lib.hid hz
      have K1 := Lib.hid (KF.out z)
      clear hz
      unfold iV at cc
      cases hp : noneP KN z with
      | true =>
        rw [hp] at K1
        go_wp2_with (go_at_call 43; (with_reducible refine K1.out.mono ?_); rintro e w1 ⟨rfl, rfl⟩)
        go_ret
        exact ⟨⟨_, rfl, .inr ⟨any_at _ _ i hiN (by rw [← HZ.out]; exact hp), i, rfl⟩⟩, rfl⟩
      | false =>
        rw [hp] at K1
        go_wp2_with (go_at_call 43; (with_reducible refine K1.out.mono ?_); rintro e w1 ⟨rfl, rfl⟩)
        go_roundw
        case rel =>
          refine ⟨i + 1, by omega, by go_num, (by first | rfl | trivial), fun j hj hji => ?_⟩
          rcases Nat.lt_or_ge j i with h | h
          · exact hA j hj h
          · obtain rfl : j = i := by omega
            rw [← HZ.out]; exact hp
        case measure => first | (simp [intOf]; done) | (simp [intOf]; omega)
    · obtain rfl : i = n := by omega
      have li : ¬ (i : Int) < (i : Int) := by omega
      go_wp2
      go_ret
      exact ⟨⟨_, rfl, .inl ⟨any_not _ _ (fun j hj => hA j hj (by rw [HN.out]; exact hj)), rfl⟩⟩, rfl⟩
set_option maxRecDepth 100000 in
theorem conI_any (A : Option Addr) (c : Nat) (N : List Int) (w : World) (hL : IntsAt w A N) (hn : N.length ≤ 1000000000) (KN cK : Nat) (AK : Option Addr) (BB : Nat) (hBB : Lies w BB 23 #[.slice AK KN cK]) :
    Calls Tryz.prog 45 #[.slice A N.length c, .func (.func 43) #[] #[.pointer (some ⟨BB, 0, none⟩)]] w fun e w' => e = .returned (.bool (N.any (noneP KN))) ∧ w' = w := by
  have K := Lib.hid (idxI_any A c N w hL hn KN cK AK BB hBB)
  obtain ⟨b, hb⟩ : ∃ b, b = N.any (noneP KN) := ⟨_, rfl⟩
  rw [← hb] at K ⊢
  clear hL hb
  generalize N.length = n at *
  go_enter Tryz.func45, Tryz.ntmps45
  go_upto_region 1 with (fail)
  have K1 := K.out
  rcases Bool.eq_false_or_eq_true b with hb | hb
  · subst hb
    go_wp2_with (go_at_call 68; (with_reducible refine K1.mono ?_); rintro e w1 ⟨⟨z, rfl, hz⟩, rfl⟩; obtain ⟨k, rfl⟩ := fst_true hz; have k0 : (0 : Int) ≤ (k : Int) := by omega)
    go_ret
    exact ⟨by simp, rfl⟩
  · subst hb
    go_wp2_with (go_at_call 68; (with_reducible refine K1.mono ?_); rintro e w1 ⟨⟨z, rfl, hz⟩, rfl⟩; obtain rfl := fst_false hz)
    go_ret
    exact ⟨by simp, rfl⟩

/-- a list with a number that is no place -/
def badP (KN : Nat) (l : List Int) : Bool := l.any (noneP KN)
theorem in32_any (A : Option Addr) (n c : Nat) (l : List Int) (hl : n = l.length) (hn : l.length ≤ 1000000000) (w : World) (hi : IntsAt w A l) (KN cK : Nat) (AK : Option Addr) (BB NB : Nat) (hBB : Lies w BB 23 #[.slice AK KN cK]) (hNB : Lies w NB 65 #[.func (.func 43) #[] #[.pointer (some ⟨BB, 0, none⟩)]]) :
    Calls Tryz.prog 44 #[.slice A n c, .pointer (some ⟨NB, 0, none⟩)] w fun e w' => e = .returned (.bool (badP KN l)) ∧ w' = w := by
  have c0 := lies_cell hNB 0
  simp only [List.getElem?_toArray, List.getElem?_cons_zero] at c0
  have K := Lib.hid (conI_any A c l w hi hn KN cK AK BB hBB)
  rw [← hl] at K
  unfold badP
  clear hi hBB hNB hl
  go_enter Tryz.func44, Tryz.ntmps44
  go_wp2_with (go_at_call 45; (with_reducible refine K.out.mono ?_); rintro e w1 ⟨rfl, rfl⟩)
  go_ret
  exact ⟨rfl, rfl⟩

set_option maxRecDepth 100000 in
set_option maxHeartbeats 2000000 in
theorem idx32_any (A : Option Addr) (c : Nat) (N : List (List Int)) (w : World) (hL : LsAt w A N) (hn : N.length ≤ 1000000000) (hs : ∀ l ∈ N, l.length ≤ 1000000000) (KN cK : Nat) (AK : Option Addr) (BB NB : Nat) (hBB : Lies w BB 23 #[.slice AK KN cK]) (hNB : Lies w NB 65 #[.func (.func 43) #[] #[.pointer (some ⟨BB, 0, none⟩)]]) :
    Calls Tryz.prog 67 #[.slice A N.length c, .func (.func 44) #[] #[.pointer (some ⟨NB, 0, none⟩)]] w fun e w' => (∃ z, e = .returned (.int .i64 z) ∧ Fst (N.any (badP KN)) z) ∧ w' = w := by
  have HL := Lib.hid hL
  have KF := Lib.hid (fun (A : Option Addr) (n c : Nat) (l : List Int) (hl : n = l.length) (hi : IntsAt w A l) => fun (hll : l.length ≤ 1000000000) => in32_any A n c l hl hll w hi KN cK AK BB NB hBB hNB)
  obtain ⟨n, hnn⟩ : ∃ n, n = N.length := ⟨_, rfl⟩
  have HN := Lib.hid hnn
  rw [← hnn] at hn ⊢
  have HSS := Lib.hid hs
  clear hL hnn hs hBB hNB
  go_enter Tryz.func67, Tryz.ntmps67
  go_wp2
  go_loopw [5, 8] (fun _ v8 wr => ∃ i : Nat, i ≤ n ∧ v8 = .int .i64 (i : Int) ∧ wr = w ∧ Hid (∀ j (hj : j < N.length), j < i → (badP KN) N[j] = false)) (fun _ v8 _ => n - (intOf v8).toNat)
  case atStart => exact ⟨0, Nat.zero_le _, rfl, rfl, fun j _ hj => absurd hj (Nat.not_lt_zero _)⟩
  case round =>
    obtain ⟨i, hi, rfl, rfl, hA⟩ := hrel
    by_cases hlt : i < n
    · have li : (i : Int) < (n : Int) := by omega
      have hiN : i < N.length := by rw [← HN.out]; exact hlt
      obtain ⟨b, o, A', c', eA, hbw, cc, hcl, hI⟩ := HL.out i hiN
      subst eA
      obtain ⟨l, hl⟩ : ∃ l, l = N[i] := ⟨_, rfl⟩
      rw [← hl] at cc hcl hI
      have HLI := Lib.hid hl
      obtain ⟨m, hm⟩ : ∃ m, m = l.length := ⟨_, rfl⟩
      have K1 := Lib.hid (KF.out A' m c' l hm hI (by rw [hl]; exact HSS.out _ (List.getElem_mem hiN)))
      rw [← hm] at cc hcl
      clear hl hI hm
      cases hp : (badP KN) l with
      | true =>
        rw [hp] at K1
        go_wp2_with (go_at_call 44; (with_reducible refine K1.out.mono ?_); rintro e w1 ⟨rfl, rfl⟩)
        go_ret
        exact ⟨⟨_, rfl, .inr ⟨any_at _ _ i hiN (by rw [← HLI.out]; exact hp), i, rfl⟩⟩, rfl⟩
      | false =>
        rw [hp] at K1
        go_wp2_with (go_at_call 44; (with_reducible refine K1.out.mono ?_); rintro e w1 ⟨rfl, rfl⟩)
        go_roundw
        case rel =>
          refine ⟨i + 1, by omega, by go_num, (by first | rfl | trivial), fun j hj hji => ?_⟩
          rcases Nat.lt_or_ge j i with h | h
          · exact hA j hj h
          · obtain rfl : j = i := by omega
            rw [← HLI.out]; exact hp
        case measure => first | (simp [intOf]; done) | (simp [intOf]; omega)
    · obtain rfl : i = n := by omega
      have li : ¬ (i : Int) < (i : Int) := by omega
      go_wp2
      go_ret
      exact ⟨⟨_, rfl, .inl ⟨any_not _ _ (fun j hj => hA j hj (by rw [HN.out]; exact hj)), rfl⟩⟩, rfl⟩
set_option maxRecDepth 100000 in
theorem con32_any (A : Option Addr) (c : Nat) (N : List (List Int)) (w : World) (hL : LsAt w A N) (hn : N.length ≤ 1000000000) (hs : ∀ l ∈ N, l.length ≤ 1000000000) (KN cK : Nat) (AK : Option Addr) (BB NB : Nat) (hBB : Lies w BB 23 #[.slice AK KN cK]) (hNB : Lies w NB 65 #[.func (.func 43) #[] #[.pointer (some ⟨BB, 0, none⟩)]]) :
    Calls Tryz.prog 42 #[.slice A N.length c, .func (.func 44) #[] #[.pointer (some ⟨NB, 0, none⟩)]] w fun e w' => e = .returned (.bool (N.any (badP KN))) ∧ w' = w := by
  have K := Lib.hid (idx32_any A c N w hL hn hs KN cK AK BB NB hBB hNB)
  obtain ⟨b, hb⟩ : ∃ b, b = N.any (badP KN) := ⟨_, rfl⟩
  rw [← hb] at K ⊢
  clear hL hb
  generalize N.length = n at *
  go_enter Tryz.func42, Tryz.ntmps42
  go_upto_region 1 with (fail)
  have K1 := K.out
  rcases Bool.eq_false_or_eq_true b with hb | hb
  · subst hb
    go_wp2_with (go_at_call 67; (with_reducible refine K1.mono ?_); rintro e w1 ⟨⟨z, rfl, hz⟩, rfl⟩; obtain ⟨k, rfl⟩ := fst_true hz; have k0 : (0 : Int) ≤ (k : Int) := by omega)
    go_ret
    exact ⟨by simp, rfl⟩
  · subst hb
    go_wp2_with (go_at_call 67; (with_reducible refine K1.mono ?_); rintro e w1 ⟨⟨z, rfl, hz⟩, rfl⟩; obtain rfl := fst_false hz)
    go_ret
    exact ⟨by simp, rfl⟩

end Go.Proofs.YtpddamloajpiiaaGreatDoor

/-
What is proved here: what taking a place from package comp's stack does, by a contract.
-/
set_option linter.unusedSimpArgs false
set_option linter.unusedVariables false
namespace Go.Proofs.YtpddamloajpiiaaGreatDoor
open Go.Cmp Go.RowKit
def TakeW (w : World) (B wy : Nat) (es : List Ent) (w' : World) : Prop :=
  ∃ v', Lies w' wy 97 #[v'] ∧ OwnW w' B v' es ∧ But (· = wy) w w' ∧ ∀ k, v'.ownBlock = some k → k < w.heap.size
theorem two_one {a b : Value} (ha : a.oneCell' = true) (hb : b.oneCell' = true) : (#[a, b] : Array Value).all (·.oneCell') = true := by simp [ha, hb]
theorem take_end {w Y : World} {B wy g cap n : Nat} {cur : Array Value} {es : List Ent} {e : Ent} (hb : But (· = wy) w Y) (hW : Lies Y wy 97 #[.slice (some ⟨g, 0, none⟩) (n + 1) cap]) (hG : Lies Y g 99 cur) (hgw : g ≠ wy) (hgs : g < w.heap.size) (hn : n = es.length) (hnc : n + 1 ≤ cap) (hcm : cap ≤ maxLen)
    (ht : B ≤ g ∧ cur.size = cap * 2 ∧ cur.toList.take ((n + 1) * 2) = wcs es ++ e.cs) : TakeW w B wy es (Y.setCell ⟨wy, 0, none⟩ (.slice (some ⟨g, 0, none⟩) n cap)) := by
  refine ⟨_, lies_set hW 0 _, ⟨wcs_len es, .inr ⟨g, cap, cur, by rw [hn], ht.1, ?_, by omega, hcm, ht.2.1, ?_⟩⟩, hb.setCell (fun _ => rfl) _, fun k hk => by injection hk with hk; exact hk ▸ hgs⟩
  · exact lies_far hG hgw _
  · have h := congrArg (List.take (es.length * 2)) ht.2.2
    rw [List.take_take, Nat.min_eq_left (by omega), List.take_append_of_le_length (by rw [wcs_len]; omega)] at h
    rw [h, List.take_of_length_le (by rw [wcs_len]; omega)]
set_option maxRecDepth 100000 in
set_option maxHeartbeats 4000000 in
theorem take_any (B wy : Nat) (vW : Value) (es : List Ent) (e : Ent) (w : World) (hg : Lies w wy 97 #[vW]) (hown : OwnW w B vW (es ++ [e])) (hB : B ≤ w.heap.size) (hn : es.length ≤ 100000) :
    Calls Tryz.prog 74 #[.pointer (some ⟨wy, 0, none⟩)] w fun r w' => r = .returned (.agg #[iV e.x, e.rv]) ∧ TakeW w B wy es w' := by
  have hlt := lies_lt hg
  obtain ⟨g, cap, cur, rfl, hBg, hgb, hnc, hcm, hcs, htk⟩ : ∃ g cap cur, vW = .slice (some ⟨g, 0, none⟩) (es.length + 1) cap ∧ B ≤ g ∧ w.heap[g]? = some (.cells cur 99 (0, 0)) ∧ es.length + 1 ≤ cap ∧ cap ≤ maxLen ∧ cur.size = cap * 2 ∧ cur.toList.take ((es.length + 1) * 2) = wcs es ++ e.cs := by
    rcases hown.2 with ⟨_, h0⟩ | ⟨g, cap, cur, h1, h2, h3, h4, h5, h6, h7⟩
    · simp at h0
    · rw [List.length_append] at h1 h4 h7
      rw [wcs_snoc] at h7
      exact ⟨g, cap, cur, h1, h2, h3, h4, h5, h6, h7⟩
  have hgs : g < w.heap.size := (Array.getElem?_eq_some_iff.1 hgb).1
  have hgw : g ≠ wy := fun x => by subst x; unfold Lies at hg; rw [hg] at hgb; injection hgb with hgb; injection hgb with _ h _; cases h
  obtain ⟨rv, hrv⟩ : ∃ rv, rv = e.rv := ⟨_, rfl⟩
  have hO1 : rv.oneCell' = true := by rw [hrv]; rfl
  have hct : ∀ j u, [iV e.x, rv][j]? = some u → cur[es.length * 2 + j]? = some u := fun j u hj => by
    have hj2 : j < 2 := by have := (List.getElem?_eq_some_iff.1 hj).1; simpa using this
    have := congrArg (fun l => l[es.length * 2 + j]?) htk
    rw [← Array.getElem?_toList]
    rw [List.getElem?_take_of_lt (by omega), List.getElem?_append_right (by rw [wcs_len]; omega), wcs_len] at this
    rw [this, show es.length * 2 + j - es.length * 2 = j by omega, ← hj, hrv]
    rfl
  have L2 : Lies (w.alloc (.cells #[.int .i64 0, .slice none 0 0] 99)) w.heap.size 99 #[.int .i64 0, .slice none 0 0] := lies_new _ _ _
  have RG : ∀ W : World, Lies W g 99 cur → W.rangeAt g (es.length * 2) [iV e.x, rv] := fun W hW j u hj => by
    rw [lies_cell hW]; exact hct j u hj
  have G0 : Lies w g 99 cur := hgb
  have b1 : But (· = wy) w (w.alloc (.cells #[.int .i64 0, .slice none 0 0] 99)) := (But.refl _ _).alloc _
  have sz1 : (w.alloc (.cells #[.int .i64 0, .slice none 0 0] 99)).heap.size = w.heap.size + 1 := by simp
  have hgw1 := lies_alloc hg (.cells #[.int .i64 0, .slice none 0 0] 99)
  have G1 := lies_alloc G0 (.cells #[.int .i64 0, .slice none 0 0] 99)
  have hL2 := Lib.hid L2
  have hRG := Lib.hid RG
  have hG1 := Lib.hid G1
  have hB1 := Lib.hid b1
  have hS1 := Lib.hid sz1
  have hW1 := Lib.hid hgw1
  have hRV := Lib.hid hrv
  have hO := Lib.hid hO1
  have hTK := Lib.hid (And.intro hBg (And.intro hcs htk))
  have hCM := Lib.hid hcm
  have hGW := Lib.hid hgw
  have hLT := Lib.hid hlt
  have hGS := Lib.hid hgs
  have c0 := lies_cell hgw1 0
  have f0 := lies_free hgw1 0
  simp only [List.getElem?_toArray, List.getElem?_cons_zero] at c0
  rw [← hrv]
  clear L2 RG G1 b1 sz1 hgw1 G0 hct htk hcs hgb hg hown hrv hO1 hBg hcm hgw hlt hgs
  obtain ⟨n, hnn⟩ : ∃ n, n = es.length := ⟨_, rfl⟩
  rw [← hnn] at hn hRG hTK hnc c0 hW1
  have HN2 := Lib.hid hnn
  clear hnn
  go_enter Tryz.func74, Tryz.ntmps74
  go_upto_region 1 with (fail)
  generalize w.alloc (.cells #[.int .i64 0, .slice none 0 0] 99) = X at *
  go_upto_region 2 with (fail)
  have RG1 := Lib.hid (hRG.out X hG1.out)
  have LN := Lib.hid (lies_new X 99 #[.int .i64 0, .slice none 0 0])
  have LR := Lib.hid (lies_new X 99 #[iV e.x, rv])
  have ES := Lib.hid (setRow_alloc X 99 #[.int .i64 0, .slice none 0 0] #[iV e.x, rv])
  go_upto_region 3 with (first
    | (refine wpList_load_mid rfl 99 _ rfl g (n * 2) rfl [iV e.x, rv] _ RG1.out Tryz.underlying99 rfl (by kernel_rfl) ?_)
    | (refine wpList_store_row rfl 99 _ _ rfl X.heap.size #[iV e.x, rv] rfl rfl 99 _ LN.out (by kernel_rfl) rfl (two_one rfl hO.out) ?_; rw [ES.out]))
  have xg : But (· = wy) X (X.alloc (.cells #[iV e.x, rv] 99)) := (But.refl _ _).alloc _
  have W2 := lies_alloc hW1.out (.cells #[iV e.x, rv] 99)
  have G2 := lies_alloc hG1.out (.cells #[iV e.x, rv] 99)
  have L22 := lies_alloc hL2.out (.cells #[iV e.x, rv] 99)
  have B2 := Lib.hid (hB1.out.trans xg)
  have S2 := Lib.hid (show X.heap.size < (X.alloc (.cells #[iV e.x, rv] 99)).heap.size by simp)
  obtain ⟨q, hq⟩ : ∃ q, q = X.heap.size := ⟨_, rfl⟩
  have HQ := Lib.hid (show q = w.heap.size + 1 by rw [hq]; exact hS1.out)
  rw [← hq] at LR S2 ⊢
  have hW2 := Lib.hid W2
  have hG2 := Lib.hid G2
  have hL22 := Lib.hid L22
  clear RG1 LN ES xg hB1 hq hS1 hW1 hG1 hL2 hRG c0 f0 W2 G2 L22
  generalize X.alloc (.cells #[iV e.x, rv] 99) = Y at *
  have c0 := lies_cell hW2.out 0
  have f0 := lies_free hW2.out 0
  simp only [List.getElem?_toArray, List.getElem?_cons_zero] at c0
  go_upto_region 4 with (fail)
  have E := Lib.hid (take_end B2.out hW2.out hG2.out hGW.out hGS.out HN2.out hnc hCM.out hTK.out)
  have RY := Lib.hid (rng2 (lies_far LR.out (p := ⟨wy, 0, none⟩) (show q ≠ wy by have := HQ.out; have := hLT.out; omega) (.slice (some ⟨g, 0, none⟩) n cap)))
  have LZ := Lib.hid (lies_far hL22.out (p := ⟨wy, 0, none⟩) (show w.heap.size ≠ wy by have := hLT.out; omega) (.slice (some ⟨g, 0, none⟩) n cap))
  clear LR hW2 hG2 hL22 c0 f0 B2 hTK
  generalize Y.setCell ⟨wy, 0, none⟩ (.slice (some ⟨g, 0, none⟩) n cap) = Z at *
  have LF := Lib.hid (lies_setRow LZ.out #[iV e.x, rv])
  have EF := Lib.hid (show TakeW w B wy es (Z.setRow w.heap.size #[iV e.x, rv]) by
    obtain ⟨v', h1, h2, h3, h4⟩ := E.out
    have hlt := hLT.out
    refine ⟨v', (setRow_other Z w.heap.size wy _ (by omega)).trans h1, own_but h2 (P := (· = w.heap.size)) ((But.refl (· = w.heap.size) Z).setRow (g := w.heap.size) (fun _ => rfl) _) (fun k hk x => ?_), h3.setRow (fun h => by omega) _, h4⟩
    have h5 := h4 k hk
    omega)
  clear E
  go_wp2_with (first
    | (refine wpList_load_mid rfl 99 _ rfl q 0 rfl [iV e.x, rv] _ RY.out Tryz.underlying99 rfl (by kernel_rfl) ?_)
    | (refine wpList_store_row rfl 99 _ _ rfl w.heap.size #[iV e.x, rv] rfl rfl 99 _ LZ.out (by kernel_rfl) rfl (two_one rfl hO.out) ?_))
  rw [hRV.out] at LF EF ⊢
  refine bodyPost_ret (results_cell_row rfl _ _ w.heap.size 99 #[iV e.x, e.rv] (0, 0) _ rfl LF.out Tryz.underlying99 rfl (by kernel_rfl)) rfl ⟨rfl, EF.out⟩
end Go.Proofs.YtpddamloajpiiaaGreatDoor

/-
What is proved here: a scope in which the run jumps to several labels: what holds at each jump, and a measure that each jump lowers. Of whatever program.
-/
namespace Go.Word

/-- As Q; by a goto to label l: J l. -/
def Exit.jumps (J : Nat → Act → World → Prop) (Q : Exit → Act → World → Prop) : Exit → Act → World → Prop
  | .goto l, a, w => J l a w
  | e, a, w => Q e a w

section
variable {P : Program} {a : Act} {w : World} {Q : Exit → Act → World → Prop}
theorem jumps_mono {J J' : Nat → Act → World → Prop} (h : ∀ l a w, J l a w → J' l a w) {c : Code} (hc : c.wp P (Exit.jumps J Q) a w) : c.wp P (Exit.jumps J' Q) a w := by
  intro b k cs
  obtain ⟨e, a₁, w₁, hq, harr⟩ := hc b k cs
  refine ⟨e, a₁, w₁, ?_, harr⟩
  cases e with
  | goto l => exact h _ _ _ hq
  | _ => exact hq

theorem wp_scope_meas {c : Code} (J : Nat → Nat → Act → World → Prop)
    (pass : ∀ n l a w, J n l a w → ∃ rest, findLabel c l = some (.seq .skip rest) ∧ rest.wp P (Exit.jumps (fun l' a' w' => ∃ n', n' < n ∧ J n' l' a' w') Q) a w)
    (first : (∀ n l rest a w, findLabel c l = some (.seq .skip rest) → J n l a w → rest.wp P (Exit.jumps (fun l' a' w' => ∃ n', J n' l' a' w') Q) a w) → c.wp P (Exit.jumps (fun l' a' w' => ∃ n', J n' l' a' w') Q) a w) : (Code.scope c).wp P Q a w := by
  intro b k cs
  have key : ∀ n l a w rest, findLabel c l = some rest → J n l a w → ∃ e a' w', Q e a' w' ∧ Arrives P (lone (b.at a (.code rest :: .inScope c :: k)) cs w) b k cs e a' w' := by
    intro n
    induction n using Nat.strongRecOn with
    | _ n ih =>
      intro l a w rest hf hJ
      obtain ⟨rest', hf', hp⟩ := pass n l a w hJ
      obtain rfl : rest = .seq .skip rest' := Option.some.inj (hf.symm.trans hf')
      obtain ⟨e, a₁, w₁, hq, harr⟩ := (wp_seq (wp_skip (Q := Exit.then _ _) hp)) b (.inScope c :: k) cs
      cases e with
      | normal => exact ⟨.normal, a₁, w₁, hq, Steps.trans harr (.one step_inScope)⟩
      | exit id => exact ⟨.exit id, a₁, w₁, hq, fun k' hk => harr k' (by simp [exitTo, hk])⟩
      | goto l' =>
        obtain ⟨n', hlt, hJ'⟩ := hq
        obtain ⟨rest₂, hf₂, _⟩ := pass n' l' a₁ w₁ hJ'
        obtain ⟨e₂, a₂, w₂, hq₂, harr₂⟩ := ih _ hlt l' a₁ w₁ _ hf₂ hJ'
        have hg : gotoIn l' (.inScope c :: k) = some (.code (.seq .skip rest₂) :: .inScope c :: k) := by simp [gotoIn, hf₂]
        exact ⟨e₂, a₂, w₂, hq₂, .of_steps (harr _ hg) harr₂⟩
      | ret => exact ⟨_, a₁, w₁, hq, harr⟩
      | panic ch => exact ⟨_, a₁, w₁, hq, harr⟩
      | outgrown => exact ⟨_, a₁, w₁, hq, harr⟩
  obtain ⟨e, a₁, w₁, hq, harr⟩ := first (fun n l rest a w hf hJ => by
    obtain ⟨rest', hf', hp⟩ := pass n l a w hJ
    obtain rfl : rest = rest' := by
      have := Option.some.inj (hf.symm.trans hf')
      injection this
    exact jumps_mono (fun _ _ _ ⟨n', _, h⟩ => ⟨n', h⟩) hp) b (.inScope c :: k) cs
  cases e with
  | normal => exact ⟨.normal, a₁, w₁, hq, .head step_scope (Steps.trans harr (.one step_inScope))⟩
  | exit id => exact ⟨.exit id, a₁, w₁, hq, fun k' hk => .head step_scope (harr k' (by simp [exitTo, hk]))⟩
  | goto l' =>
    obtain ⟨n', hJ'⟩ := hq
    obtain ⟨rest₂, hf₂, _⟩ := pass n' l' a₁ w₁ hJ'
    obtain ⟨e₂, a₂, w₂, hq₂, harr₂⟩ := key n' l' a₁ w₁ _ hf₂ hJ'
    have hg : gotoIn l' (.inScope c :: k) = some (.code (.seq .skip rest₂) :: .inScope c :: k) := by simp [gotoIn, hf₂]
    exact ⟨e₂, a₂, w₂, hq₂, .of_steps (.head step_scope (harr _ hg)) harr₂⟩
  | ret => exact ⟨_, a₁, w₁, hq, .of_steps (.one step_scope) harr⟩
  | panic ch => exact ⟨_, a₁, w₁, hq, .of_steps (.one step_scope) harr⟩
  | outgrown => exact ⟨_, a₁, w₁, hq, .of_steps (.one step_scope) harr⟩
theorem wp_scope_meas2 {c : Code} (J : Nat → Nat → Act → World → Prop)
    (pass : ∀ n, (∀ n' l rest a w, n' < n → findLabel c l = some (.seq .skip rest) → J n' l a w → rest.wp P (Exit.jumps (fun l' a' w' => ∃ n'', n'' < n ∧ J n'' l' a' w') Q) a w) → ∀ l a w, J n l a w → ∃ rest, findLabel c l = some (.seq .skip rest) ∧ rest.wp P (Exit.jumps (fun l' a' w' => ∃ n', n' < n ∧ J n' l' a' w') Q) a w)
    (first : (∀ n l rest a w, findLabel c l = some (.seq .skip rest) → J n l a w → rest.wp P (Exit.jumps (fun l' a' w' => ∃ n', J n' l' a' w') Q) a w) → c.wp P (Exit.jumps (fun l' a' w' => ∃ n', J n' l' a' w') Q) a w) : (Code.scope c).wp P Q a w := by
  refine wp_scope_meas J (fun n => ?_) first
  induction n using Nat.strongRecOn with
  | _ n ih =>
    refine pass n (fun n' l rest a w hlt hf hJ => ?_)
    obtain ⟨rest', hf', hp⟩ := ih n' hlt l a w hJ
    obtain rfl : rest = rest' := by
      have := Option.some.inj (hf.symm.trans hf')
      injection this
    exact jumps_mono (fun _ _ _ ⟨n'', h, h2⟩ => ⟨n'', Nat.lt_trans h hlt, h2⟩) hp
end
end Go.Word
