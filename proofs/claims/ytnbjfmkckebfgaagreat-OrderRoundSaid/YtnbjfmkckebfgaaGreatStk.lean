/-
What is proved here: what package comp's stack of places does, by contracts.
-/
import Derived.Test.YtnbjfmkckebfgaaGreatBas
import Derived.Laws.ResultCell
import Derived.Deep.AppendLies
import Derived.Deep.RegionLaw
import Derived.Great.Walk
import Derived.Deep.Cut
set_option linter.unusedSimpArgs false
set_option linter.unusedVariables false
namespace Go.Proofs.YtnbjfmkckebfgaaGreat
open Go.Cmp Go.RowKit
/-- a number, and the slice of those of its that were not looked at -/
structure Ent where
  x : Nat
  A : Option Addr
  r : List Nat
  c : Nat
def Ent.rv (e : Ent) : Value := .slice e.A e.r.length e.c
def Ent.cs (e : Ent) : List Value := [iV e.x, e.rv]
def Ent.pr (e : Ent) : Nat × List Nat := (e.x, e.r)
def wcs (es : List Ent) : List Value := (es.map Ent.cs).flatten
theorem wcs_len (es : List Ent) : (wcs es).length = es.length * 2 := by
  induction es with
  | nil => rfl
  | cons e r ih => simp [wcs, Ent.cs] at ih ⊢; omega
theorem wcs_snoc (es : List Ent) (e : Ent) : wcs (es ++ [e]) = wcs es ++ e.cs := by simp [wcs]
/-- the stack -/
def OwnW (w : World) (B : Nat) (v : Value) (es : List Ent) : Prop := w.ownsRow B 145 2 v es.length (wcs es)
theorem spot_info : (Tryz.prog.info? 145).map (fun i => (i.zero, i.size, i.bytes)) = some (some (.agg #[.int .i64 0, .slice none 0 0]), 2, 32) := by kernel_rfl
/-- what a place put on the stack leaves -/
def PutW (w : World) (B wy : Nat) (vW : Value) (es : List Ent) (e : Ent) (w' : World) : Prop :=
  ∃ v', Lies w' wy 143 #[v'] ∧ OwnW w' B v' (es ++ [e]) ∧ But (fun k => k = wy ∨ some k = vW.ownBlock) w w'
theorem putw_end {w X W w1 : World} {B wy gg cap : Nat} {vW : Value} {es : List Ent} {e : Ent} (hlt : wy < w.heap.size) (hX : w.grownBy X none) (hW : X.grownBy W none) (h1 : W.grownBy w1 vW.ownBlock) (LG : Lies X wy 143 #[vW]) (hne : vW.ownBlock ≠ some wy)
    (own : w1.ownsRow B 145 2 (.slice (some ⟨gg, 0, none⟩) (es.length + 1) cap) (es.length + 1) (wcs es ++ [iV e.x, e.rv])) :
    PutW w B wy vW es e (w1.setCell ⟨wy, 0, none⟩ (.slice (some ⟨gg, 0, none⟩) (es.length + 1) cap)) := by
  have hs := hX.size
  have hs2 := hW.size
  have LW : Lies W wy 143 #[vW] := (hW.block wy (by omega) (by simp)).trans LG
  have L1 : Lies w1 wy 143 #[vW] := (h1.block wy (by omega) (fun x => hne x.symm)).trans LW
  have hgg : gg ≠ wy := fun x => own_ne own L1 (by decide) (by rw [x]; rfl)
  have bX : But (fun k => k = wy ∨ some k = vW.ownBlock) w X := (But.grown hX).mono (fun k _ h => by cases h)
  have bW : But (fun k => k = wy ∨ some k = vW.ownBlock) X W := (But.grown hW).mono (fun k _ h => by cases h)
  have b1 : But (fun k => k = wy ∨ some k = vW.ownBlock) W w1 := (But.grown h1).mono (fun k _ h => .inr h)
  refine ⟨_, lies_set L1 0 _, ?_, ((bX.trans bW).trans b1).setCell (fun _ => .inl rfl) _⟩
  unfold OwnW
  rw [wcs_snoc, List.length_append]
  exact own_but own (P := (· = wy)) ((But.refl (· = wy) w1).setCell (p := ⟨wy, 0, none⟩) (fun _ => rfl) _) (fun k hk x => by injection hk with hk; exact hgg (hk.trans x))
set_option maxRecDepth 100000 in
set_option maxHeartbeats 4000000 in
theorem put_any (B wy : Nat) (vW : Value) (es : List Ent) (e : Ent) (w : World) (hg : Lies w wy 143 #[vW]) (hown : OwnW w B vW es) (hB : B ≤ w.heap.size) (hn : es.length ≤ 100000) :
    Calls Tryz.prog 79 #[.pointer (some ⟨wy, 0, none⟩), .agg #[iV e.x, e.rv]] w fun r w' => r = .returned (.tuple #[]) ∧ PutW w B wy vW es e w' := by
  obtain ⟨i0, hi0, hz0, hz1, hz2⟩ := info_parts spot_info
  have hlt := lies_lt hg
  have hne := own_ne hown hg (by decide)
  obtain ⟨rv, hrv⟩ : ∃ rv, rv = e.rv := ⟨_, rfl⟩
  obtain ⟨xs, hxs⟩ : ∃ xs, xs = wcs es := ⟨_, rfl⟩
  unfold OwnW at hown
  rw [← hxs] at hown
  have LG := lies_alloc hg (.cells #[iV e.x, e.rv] 145)
  have LN := lies_new w 145 #[iV e.x, e.rv]
  have OW := (hown.alloc (.cells #[iV e.x, e.rv] 145)).alloc (.cells #[iV e.x, e.rv] 145)
  have GR : w.grownBy (w.alloc (.cells #[iV e.x, e.rv] 145)) none := World.grownBy_alloc w _ none
  rw [← hrv] at LG LN OW GR ⊢
  have HO1 := Lib.hid (show rv.oneCell' = true by rw [hrv]; rfl)
  have HRV := Lib.hid hrv
  have HXS := Lib.hid hxs
  have g0 := lies_cell LG 0
  have n0 := lies_cell LN 0
  have n1 := lies_cell LN 1
  simp only [List.getElem?_toArray, List.getElem?_cons_zero, List.getElem?_cons_succ] at g0 n0 n1
  have HG := Lib.hid LG
  have HN := Lib.hid LN
  have HI := Lib.hid hi0
  have HZ0 := Lib.hid hz0
  have HZ1 := Lib.hid hz1
  have HZ2 := Lib.hid hz2
  have SZ := Lib.hid (World.size_alloc w (.cells #[iV e.x, rv] 145))
  have GRH := Lib.hid GR
  have OWH := Lib.hid OW
  have HNE := Lib.hid hne
  have HOUT := Lib.hid (fun w' (h : PutW w B wy vW es e w') => h)
  clear LG LN hg hi0 hz0 hz1 hz2 hown hne GR OW hrv hxs
  unfold iV at *
  obtain ⟨n, hnn⟩ : ∃ n, n = es.length := ⟨_, rfl⟩
  rw [← hnn] at hn OWH
  have HN2 := Lib.hid hnn
  clear hnn
  go_enter Tryz.func79, Tryz.ntmps79
  go_upto_region 1 with (fail)
  generalize w.alloc (.cells #[.int .i64 e.x, rv] 145) = X at *
  have GD := Lib.hid (show (X.alloc (.cells #[.int .i64 e.x, rv] 145)).grownBy (X.alloc (.cells #[.int .i64 e.x, rv] 145)).drew none from ⟨rfl, rfl, rfl, Nat.le_refl _, fun _ _ _ => rfl⟩)
  have gd := lies_cell (lies_alloc HG.out (.cells #[.int .i64 e.x, rv] 145)) 0
  simp only [List.getElem?_toArray, List.getElem?_cons_zero] at gd
  go_region_law (first
    | (refine step_append_lies _ (by rfl) _ _ _ (by rfl) B 145 i0 _ 2 32 Tryz.underlying143 HI.out HZ0.out HZ1.out HZ2.out rfl (by omega) vW n xs (by rfl) OWH.out
        ⟨X.heap.size, 0, none⟩ 1 1 [.int .i64 e.x, rv] (by rfl) (by rfl) (World.news_of_block (cs := #[.int .i64 e.x, rv]) (t := 145) (fr := (0, 0)) (heap_alloc_new _ _)) (fun u hu => by
          rcases List.mem_cons.1 hu with rfl | hu
          · rfl
          · obtain rfl := List.mem_singleton.1 hu; exact HO1.out)
        (by omega) (by have : (100001 : Nat) ≤ maxLen := by decide
                       omega) (by omega) (by have := SZ.out; simp; omega) (X.heap.size + 1) (by simp) ?_; intro gg cap w1 hown1 hgrow hat hlt1; have hW := (⟨rfl, rfl, rfl, by simp, fun k hk _ => Below.heap_alloc _ _ _ hk⟩ : X.grownBy (X.alloc (.cells #[.int .i64 e.x, rv] 145)).drew none); have L1 := (hgrow.block wy (by have := SZ.out; simp; omega) (fun x => HNE.out x.symm)).trans (lies_alloc HG.out (.cells #[.int .i64 e.x, rv] 145)); have g1 := lies_cell (w := w1) L1 0; have fz := lies_free (w := w1) L1 0; simp only [List.getElem?_toArray, List.getElem?_cons_zero] at g1; have HE := Lib.hid (putw_end hlt GRH.out hW hgrow HG.out HNE.out (by rw [← HN2.out, ← HXS.out, ← HRV.out]; exact hown1)); clear hown1 hgrow hat hlt1 hW L1))
  all_goals (go_wp2_with fail)
  all_goals exact Go.Great.bodyPost_end0 rfl rfl ⟨rfl, by have := HE.out; rw [← HN2.out] at this; exact this⟩
end Go.Proofs.YtnbjfmkckebfgaaGreat
