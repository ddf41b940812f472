/-
What is proved here: what ordered holds in memory, and how each of its steps keeps it.
-/
import Derived.Test.YtnbjfmkckebfgaaGreatBtw
import Derived.Test.YtnbjfmkckebfgaaGreatAdd
import Derived.Test.YtnbjfmkckebfgaaGreatPuq
import Derived.Deep.Onto
set_option linter.unusedSimpArgs false
set_option linter.unusedVariables false
namespace Go.Proofs.YtnbjfmkckebfgaaGreat
open Go.Cmp Go.RowKit
theorem zs_insN (l : List Nat) (g : Nat) : zs (insN l g) = ins (zs l) (g : Int) := by
  have e : less (zs l) (g : Int) = l.countP (· < g) := by
    unfold less zs
    rw [List.countP_map]
    congr 1
    funext x
    simp
  unfold ins insAt insN
  rw [e]
  unfold zs
  rw [List.map_append, List.map_cons, List.map_take, List.map_drop]
structure OrM (w1 : World) (O : Nat) (op : List Nat) (rv : Value) (l : List Nat) (lv : Value) (cs : List Value) (W : World) : Prop where
  but : But (fun k => k = O ∨ w1.heap.size ≤ k) w1 W
  opn : Lies W O 3 (iRow op)
  box : Lies W w1.heap.size 27 #[rv]
  win : Win W (w1.heap.size + 1) rv (zs l)
  row : W.ownsRow (w1.heap.size + 1) 27 1 lv cs.length cs
  sep : ∀ k, wblk rv = some k → lv.ownBlock ≠ some k
  hO : O < w1.heap.size
variable {w1 W W' : World} {O : Nat} {op : List Nat} {rv : Value} {l : List Nat} {lv : Value} {cs : List Value}
theorem orm_size (h : OrM w1 O op rv l lv cs W) : w1.heap.size + 1 ≤ W.heap.size := lies_lt h.box
theorem orm_0 {w1 : World} {O : Nat} {op : List Nat} (hO : Lies w1 O 3 (iRow op)) : OrM w1 O op (.slice none 0 0) [] (.slice none 0 0) [] (w1.alloc (.cells #[.slice none 0 0] 27)) :=
  ⟨(But.refl _ _).alloc _, lies_alloc hO _, lies_new _ _ _, .inl ⟨rfl, rfl⟩, World.ownsRow_nil _ _ _ _, (fun k hk => by cases hk), lies_lt hO⟩
theorem orm_drewN (h : OrM w1 O op rv l lv cs W) (q : Nat) : OrM w1 O op rv l lv cs (W.drewN q) :=
  ⟨h.but.drewN q, h.opn, h.box, win_but h.win ((But.refl (fun _ => False) W).drewN q) (fun _ _ => id), h.row, h.sep, h.hO⟩
theorem orm_alloc (h : OrM w1 O op rv l lv cs W) (o : Obj) : OrM w1 O op rv l lv cs (W.alloc o) :=
  ⟨h.but.alloc _, lies_alloc h.opn _, lies_alloc h.box _, win_but h.win ((But.refl (fun _ => False) W).alloc o) (fun _ _ => id), h.row.alloc o, h.sep, h.hO⟩
theorem orm_open (h : OrM w1 O op rv l lv cs W) (g x : Nat) : OrM w1 O (op.set g x) rv l lv cs (W.setCell ⟨O, g, none⟩ (.int .i64 (x : Int))) := by
  have hO := h.hO
  have hb : But (· = O) W (W.setCell ⟨O, g, none⟩ (.int .i64 (x : Int))) := (But.refl (· = O) W).setCell (p := ⟨O, g, none⟩) (fun _ => rfl) _
  refine ⟨h.but.setCell (p := ⟨O, g, none⟩) (fun _ => .inl rfl) _, by have := lies_set h.opn g (.int .i64 (x : Int)); rwa [iRow_set] at this, hb.lies h.box (by omega), win_but h.win hb (fun k hk e => by have := (win_block h.win k hk).1; omega), own_but h.row hb (fun k hk e => by have := (own_heap h.row k hk).1; omega), h.sep, h.hO⟩
theorem orm_add (h : OrM w1 O op rv l lv cs W) {g : Nat} (ha : AddE W (w1.heap.size + 1) w1.heap.size rv (ins (zs l) (g : Int)) W') : ∃ rv', OrM w1 O op rv' (insN l g) lv cs W' := by
  have hO := h.hO
  obtain ⟨⟨v', h1, h2, h3⟩, hb⟩ := ha
  have hw := win_block h.win
  have hr : ∀ k, lv.ownBlock = some k → w1.heap.size + 1 ≤ k ∧ k < W.heap.size := fun k hk => ⟨(own_heap h.row k hk).1, (own_heap h.row k hk).2.1⟩
  refine ⟨v', h.but.step hb (fun k hk e => ?_), hb.lies h.opn ?_, h1, by rw [zs_insN]; exact h2, own_but h.row hb (fun k hk e => ?_), fun k hk e => ?_, h.hO⟩
  · rcases e with e | e
    · exact .inr (by omega)
    · exact .inr (by have := (hw k e.symm).1; omega)
  · rintro (e | e)
    · omega
    · have := (hw O e.symm).1; omega
  · rcases e with e | e
    · have := (hr k hk).1; omega
    · exact h.sep k e.symm hk
  · rcases h3 with h4 | ⟨j, h4, h5⟩
    · rw [h4] at hk; exact h.sep k hk e
    · rw [h4] at hk
      injection hk with hk
      have := (hr k e).2
      omega
/-- the first one taken from those that are ready -/
theorem orm_tail {g o m c x : Nat} (h : OrM w1 O op (.slice (some ⟨g, o, none⟩) (m + 1) c) (x :: l) lv cs W) (hm : m = l.length) (o' : Nat) (ho : o' = if c = 1 then o else o + 1) :
    OrM w1 O op (.slice (some ⟨g, o', none⟩) m (c - 1)) l lv cs (W.setCell ⟨w1.heap.size, 0, none⟩ (.slice (some ⟨g, o', none⟩) m (c - 1))) := by
  have hO := h.hO
  obtain ⟨g', oo, c', cur, hv, hB, hL, hlc, hcm, hoc, hcells⟩ := win_first h.win (by simp [zs])
  injection hv with e1 e2 e3
  injection e1 with e1
  injection e1 with e1 e4
  subst e1 e3 e4
  simp only [zs, List.map_cons, List.length_cons, List.length_map] at hlc hcells e2
  have hb : But (· = w1.heap.size) W (W.setCell ⟨w1.heap.size, 0, none⟩ (.slice (some ⟨g, o', none⟩) m (c - 1))) := (But.refl (· = w1.heap.size) W).setCell (p := ⟨w1.heap.size, 0, none⟩) (fun _ => rfl) _
  refine ⟨h.but.setCell (p := ⟨w1.heap.size, 0, none⟩) (fun _ => .inr (Nat.le_refl _)) _, hb.lies h.opn (by omega), by have := lies_set h.box 0 (.slice (some ⟨g, o', none⟩) m (c - 1)); simpa using this, ?_, own_but h.row hb (fun k hk e => by have := (own_heap h.row k hk).1; omega), fun k hk => h.sep k hk, h.hO⟩
  refine .inr ⟨g, o', c - 1, cur, by rw [hm]; simp [zs], hB, hb.lies hL (by omega), by simp [zs]; omega, by omega, by rw [ho]; split <;> omega, fun j hj => ?_⟩
  have hjl : j < l.length := by simpa [zs] using hj
  have hc1 : c ≠ 1 := by omega
  have := hcells (j + 1) (by omega)
  rw [ho, if_neg hc1, show o + 1 + j = o + (j + 1) by omega, this]
  simp [zs]
/-- one more told -/
theorem orm_list (h : OrM w1 O op rv l lv cs W) {u : Value} {G C : Nat} (ho : W'.ownsRow (w1.heap.size + 1) 27 1 (.slice (some ⟨G, 0, none⟩) (cs.length + 1) C) (cs.length + 1) (cs ++ [u])) (hg : W.grownBy W' lv.ownBlock) (hat : lv.ownBlock = some G ∨ W.heap.size ≤ G) :
    OrM w1 O op rv l (.slice (some ⟨G, 0, none⟩) (cs.length + 1) C) (cs ++ [u]) W' := by
  have hO := h.hO
  have hb := But.grown hg
  have hr : ∀ k, lv.ownBlock = some k → w1.heap.size + 1 ≤ k ∧ k < W.heap.size := fun k hk => ⟨(own_heap h.row k hk).1, (own_heap h.row k hk).2.1⟩
  refine ⟨h.but.step hb (fun k _ e => .inr (by have := (hr k e.symm).1; omega)), hb.lies h.opn (fun e => by have := (hr O e.symm).1; omega), hb.lies h.box (fun e => by have := (hr _ e.symm).1; omega), win_but h.win hb (fun k hk e => h.sep k hk e.symm), by simpa using ho, fun k hk e => ?_, h.hO⟩
  have e : G = k := by simpa [Value.ownBlock] using e
  subst e
  rcases hat with h1 | h1
  · exact h.sep _ hk h1
  · have := (win_block h.win _ hk).2; omega
theorem grps_ls {w : World} {B : Nat} {A : Option Addr} {C : Nat} {es : List Ent} (h : Grps w B (.slice A es.length C) es) : LsAt w A (zg (es.map Ent.r)) := fun i hi => by
  have hie : i < es.length := by simpa using hi
  obtain ⟨g, cap, hv, hB, hlt⟩ := World.ownsRow.form h.row (by omega)
  injection hv with e1 e2 e3
  subst e1
  have hc := (e3 ▸ h.row).cellAt i (by omega)
  rw [List.getElem?_map, List.getElem?_eq_getElem hie] at hc
  have ho := h.own _ (List.getElem_mem hie)
  have hI := ownI_ints ho
  have e : (zg (es.map Ent.r))[i] = zs es[i].r := by simp [zg]
  refine ⟨g, 0, es[i].A, es[i].c, rfl, hlt, ?_, ?_, ?_⟩
  · rw [Nat.zero_add, hc, e, ← hI.1]; rfl
  · rw [e, ← hI.1]
    rcases ho.2 with ⟨h1, h2⟩ | ⟨_, cap', _, h1, _, _, h2, _⟩
    · have : es[i].r.length = 0 := by simpa using h2
      omega
    · unfold Ent.rv at h1
      injection h1 with _ _ h1
      rw [h1]; simpa using h2
  · rw [e]; exact hI.2
theorem grps_cell {w : World} {B : Nat} {A : Option Addr} {C : Nat} {es : List Ent} (h : Grps w B (.slice A es.length C) es) {k : Nat} (hk : k < es.length) : ∃ g, A = some ⟨g, 0, none⟩ ∧ g < w.heap.size ∧ w.cell? ⟨g, 0 + k, none⟩ = some (.slice es[k].A es[k].r.length es[k].c) := by
  obtain ⟨g, cap, hv, hB, hlt⟩ := World.ownsRow.form h.row (by omega)
  injection hv with e1 e2 e3
  subst e1
  have hc := (e3 ▸ h.row).cellAt k (by omega)
  rw [List.getElem?_map, List.getElem?_eq_getElem hk] at hc
  exact ⟨g, rfl, hlt, by rw [Nat.zero_add, hc]; rfl⟩
theorem groups_len {G : Gr} {S : List (List Nat)} (h : Groups G S) : S.length ≤ G.length := by
  have hne : ∀ g ∈ S, ∃ x, g.head? = some x ∧ x ∈ g := fun g hg => by
    obtain ⟨r, hr, _⟩ := h.scc g hg
    cases g with
    | nil => cases hr
    | cons a t => exact ⟨a, rfl, by simp⟩
  have := nodup_bound G.length (S.map fun g => g.headD 0) (by
    rw [List.nodup_iff_pairwise_ne, List.pairwise_map]
    refine h.ord.imp_of_mem (fun {a b} ha hb hab e => ?_)
    obtain ⟨x, hx, _⟩ := hne a ha
    obtain ⟨y, hy, _⟩ := hne b hb
    have := hab x y hx hy
    simp [List.headD_eq_head?_getD, hx, hy] at e
    omega) (fun v hv => by
    obtain ⟨g, hg, rfl⟩ := List.mem_map.1 hv
    obtain ⟨x, hx, hx2⟩ := hne g hg
    have := h.lt g hg x hx2
    simpa [List.headD_eq_head?_getD, hx] using this)
  simpa using this
end Go.Proofs.YtnbjfmkckebfgaaGreat
