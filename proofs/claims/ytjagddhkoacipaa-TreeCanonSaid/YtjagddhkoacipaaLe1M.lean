/-
What is proved here: the worlds in which a tree is lent: each file's bytes with one more behind them, and one file more.
-/
import Derived.Test.YtjagddhkoacipaaRc3M
set_option linter.unusedSimpArgs false
set_option linter.unusedVariables false
namespace Go.Proofs.Ytjagddhkoacipaa
open Go.Pth Go.Tre Go.RowKit Go.Word Go.Shelf
/-- bytes with one more behind them -/
def LentD (w : World) (B : Nat) (v : Value) (d : Bt) : Prop := ∃ A C, v = .slice A d.length C ∧ w.ownsRow B 5 1 (.slice A (d.length + 1) C) (d.length + 1) ((d ++ [167]).map yB)
theorem row_cap {w : World} {B e z n C : Nat} {A : Option Addr} {xs : List Value} (h : w.ownsRow B e z (.slice A n C) n xs) : n ≤ C := by
  rcases h.2 with ⟨e1, h0⟩ | ⟨_, cap, _, e1, _, _, h1, _⟩
  · omega
  · injection e1 with _ _ e1
    omega
set_option maxRecDepth 100000 in
theorem cutb_to (A : Option Addr) (k c m : Nat) (h : m ≤ c) (W : World) : (Instr.slice 37 (.slice A k c) none (some (.int .i64 (m : Int))) none).run Try.prog W = .ok (.slice A m c) W := by
  have := run_slice_h (P := Try.prog) W 37 A k c Try.underlying37 .i64 (m : Int) (by omega) (by omega)
  rw [this]
  have hz : (sizeOf (Try.prog.elem 37)).run Try.prog W = .ok 1 W := by kernel_rfl
  rw [hz]
  cases A <;> simp [sliced, Result.andThen, Addr.add]
set_option maxRecDepth 100000 in
theorem cutf_to (A : Option Addr) (k c m : Nat) (h : m ≤ c) (W : World) : (Instr.slice 23 (.slice A k c) none (some (.int .i64 (m : Int))) none).run Try.prog W = .ok (.slice A m c) W := by
  have := run_slice_h (P := Try.prog) W 23 A k c Try.underlying23 .i64 (m : Int) (by omega) (by omega)
  rw [this]
  have hz : (sizeOf (Try.prog.elem 23)).run Try.prog W = .ok 2 W := by kernel_rfl
  rw [hz]
  cases A <;> simp [sliced, Result.andThen, Addr.add]
set_option maxRecDepth 100000 in
theorem row_byte (w : World) (B : Nat) (v : Value) (d : Bt) (h : OwnB w B v d) (hB : B ≤ w.heap.size) (hl : d.length ≤ 1000000) :
    ∃ A C Z, (Builtin.append_ #[37, 37] 37 #[v, .slice (some ⟨w.heap.size, 0, none⟩) 1 1]).run Try.prog (w.alloc (.cells #[.int .u8 167] 5)) = .ok (.slice A (d.length + 1) C) Z ∧ Z.ownsRow B 5 1 (.slice A (d.length + 1) C) (d.length + 1) ((d ++ [167]).map yB) ∧ (w.alloc (.cells #[.int .u8 167] 5)).grownBy Z v.ownBlock ∧ ∀ r, v.ownBlock = some r → B ≤ r ∧ ∃ cs, (w.alloc (.cells #[.int .u8 167] 5)).heap[r]? = some (.cells cs 5 (0, 0)) := by
  obtain ⟨i0, hi, hz0, hz1, hz2⟩ := info_parts byte_info
  have h1 := ownB_alloc h (.cells #[.int .u8 167] 5)
  have L := lies_new w 5 #[.int .u8 167]
  obtain ⟨v', Z, hr, ho, hg, _⟩ := run_append_own (P := Try.prog) (w.alloc (.cells #[.int .u8 167] 5)) B 37 37 5 i0 (.int .u8 0) 1 1 Try.underlying37 hi hz0 hz1 hz2 rfl (by decide) v d.length (d.map yB) h1 ⟨w.heap.size, 0, none⟩ 1 1 [.int .u8 167] rfl (fun q u hq => by
    match q, hq with
    | 0, hq => injection hq with hq; subst hq; exact lies_cell L 0
    | q + 1, hq => simp at hq) (fun u hu => by simp at hu; subst hu; rfl) (by unfold maxLen; omega) (by omega) (by simp; omega)
  obtain ⟨A, C, rfl⟩ := own_slice ho
  refine ⟨A, C, Z, hr, ?_, hg, fun r e => own_heap h1 r e⟩
  rw [List.map_append]
  exact ho
set_option maxRecDepth 100000 in
theorem row_file (w : World) (B : Nat) (vF vD : Value) (D : Nat → Value) (us : List Fl) (md : Int) (h : w.ownsRow B 57 2 vF us.length (fcells D us)) (hB : B ≤ w.heap.size) (ho : vD.oneCell' = true) (hl : us.length ≤ 1000000) :
    ∃ A C Z, (Builtin.append_ #[23, 23] 23 #[vF, .slice (some ⟨w.heap.size, 0, none⟩) 1 1]).run Try.prog (w.alloc (.cells #[.int .i64 md, vD] 57)) = .ok (.slice A (us.length + 1) C) Z ∧ Z.ownsRow B 57 2 (.slice A (us.length + 1) C) (us.length + 1) (fcells D us ++ [.int .i64 md, vD]) ∧ (w.alloc (.cells #[.int .i64 md, vD] 57)).grownBy Z vF.ownBlock ∧ ∀ r, vF.ownBlock = some r → B ≤ r ∧ ∃ cs, (w.alloc (.cells #[.int .i64 md, vD] 57)).heap[r]? = some (.cells cs 57 (0, 0)) := by
  obtain ⟨i1, hj, hj0, hj1, hj2⟩ := info_parts file_info2
  have h1 := h.alloc (.cells #[.int .i64 md, vD] 57)
  have L := lies_new w 57 #[.int .i64 md, vD]
  obtain ⟨v', Z, hr, ho2, hg, _⟩ := run_append_own (P := Try.prog) (w.alloc (.cells #[.int .i64 md, vD] 57)) B 23 23 57 i1 _ 2 32 Try.underlying23 hj hj0 hj1 hj2 rfl (by decide) vF us.length (fcells D us) h1 ⟨w.heap.size, 0, none⟩ 1 1 [.int .i64 md, vD] rfl (fun q u hq => by
    match q, hq with
    | 0, hq => injection hq with hq; subst hq; exact lies_cell L 0
    | 1, hq => injection hq with hq; subst hq; exact lies_cell L 1
    | q + 2, hq => simp at hq) (fun u hu => by
    simp at hu
    rcases hu with rfl | rfl
    · rfl
    · exact ho) (by unfold maxLen; omega) (by omega) (by simp; omega)
  obtain ⟨A, C, rfl⟩ := own_slice ho2
  exact ⟨A, C, Z, hr, ho2, hg, fun r e => own_heap h1 r e⟩
theorem lentD_kept {w w' : World} {B : Nat} {v : Value} {d : Bt} {row : Option Nat} (h : LentD w B v d) (hg : w.grownBy w' row) (hr : ∀ A C, v = .slice A d.length C → (Value.slice A (d.length + 1) C).ownBlock = none ∨ (Value.slice A (d.length + 1) C).ownBlock ≠ row) : LentD w' B v d := by
  obtain ⟨A, C, e, h⟩ := h
  exact ⟨A, C, e, h.kept hg (hr A C e)⟩
theorem lentD_other {w w' : World} {B : Nat} {v : Value} {d : Bt} {row : Option Nat} (h : LentD w B v d) (hg : w.grownBy w' row) (hr : ∀ r, row = some r → ∃ cs t, w.heap[r]? = some (.cells cs t (0, 0)) ∧ t ≠ 5) : LentD w' B v d := by
  obtain ⟨A, C, e, h⟩ := h
  exact ⟨A, C, e, h.kept hg (own_other h hr)⟩
theorem lies_other {w w' : World} {T : Nat} {cs : Array Value} {row : Option Nat} (h : Lies w T 25 cs) (hg : w.grownBy w' row) (hr : ∀ r, row = some r → ∃ cs t, w.heap[r]? = some (.cells cs t (0, 0)) ∧ t ≠ 25) : Lies w' T 25 cs :=
  (hg.block T (lies_lt h) (fun e => by
    obtain ⟨_, t, h1, h2⟩ := hr T e.symm
    rw [show _ = _ from h] at h1
    injection h1 with h1
    injection h1 with _ h1 _
    exact h2 h1.symm)).trans h
theorem lent_step {wr : World} {B T n C1 : Nat} {A1 : Option Addr} {vF : Value} {D : Nat → Value} {us : List Fl} {nds : List Value} (ND : wr.ownsRow B 54 3 (.slice A1 (n + 1) C1) (n + 1) nds) (LL : Lies wr T 25 #[.slice A1 n C1, vF]) (FR : wr.ownsRow B 57 2 vF us.length (fcells D us)) (DD : ∀ k, k < us.length → LentD wr B (D k) (us.getD k ⟨0, []⟩).data) (hB : B ≤ wr.heap.size) (hT : B ≤ T)
    (DA : Option Addr) (dc : Nat) (d : Bt) (md : Int) (hd : BytesAt wr DA d) (hl : d.length ≤ 100000) (hu : us.length ≤ 1000) :
    ∃ Ad Cd W1, (Builtin.append_ #[37, 37] 37 #[.slice none 0 0, .slice DA d.length dc]).run Try.prog wr = .ok (.slice Ad d.length Cd) W1 ∧
    ∃ Ae Ce W3, (Builtin.append_ #[37, 37] 37 #[.slice Ad d.length Cd, .slice (some ⟨W1.heap.size, 0, none⟩) 1 1]).run Try.prog (W1.alloc (.cells #[.int .u8 167] 5)) = .ok (.slice Ae (d.length + 1) Ce) W3 ∧ d.length + 1 ≤ Ce ∧ Lies W3 T 25 #[.slice A1 n C1, vF] ∧ Below B wr W3 ∧
    ∃ Ag Cg Z3, (Builtin.append_ #[23, 23] 23 #[vF, .slice (some ⟨W3.heap.size, 0, none⟩) 1 1]).run Try.prog (W3.drew.alloc (.cells #[.int .i64 md, .slice Ae d.length Ce] 57)) = .ok (.slice Ag (us.length + 1) Cg) Z3 ∧
      Lies (W3.drew.alloc (.cells #[.int .i64 md, .slice Ae d.length Ce] 57)) T 25 #[.slice A1 n C1, vF] ∧ Lies Z3 T 25 #[.slice A1 n C1, vF] ∧ Below B wr (W3.drew.alloc (.cells #[.int .i64 md, .slice Ae d.length Ce] 57)) ∧ Below B wr Z3 ∧ Below B wr (Z3.setCell ⟨T, 1, none⟩ (.slice Ag (us.length + 1) Cg)) ∧
      Lies (Z3.setCell ⟨T, 1, none⟩ (.slice Ag (us.length + 1) Cg)) T 25 #[.slice A1 n C1, .slice Ag (us.length + 1) Cg] ∧ (Z3.setCell ⟨T, 1, none⟩ (.slice Ag (us.length + 1) Cg)).ownsRow B 54 3 (.slice A1 (n + 1) C1) (n + 1) nds ∧
      ∃ D' : Nat → Value, (Z3.setCell ⟨T, 1, none⟩ (.slice Ag (us.length + 1) Cg)).ownsRow B 57 2 (.slice Ag (us.length + 1) Cg) (us.length + 1) (fcells D' (us ++ [⟨md, d⟩])) ∧ ∀ k, k < us.length + 1 → LentD (Z3.setCell ⟨T, 1, none⟩ (.slice Ag (us.length + 1) Cg)) B (D' k) ((us ++ [(⟨md, d⟩ : Fl)]).getD k ⟨0, []⟩).data := by
  obtain ⟨vD, W1, r1, o1, g1⟩ := run_app_fresh wr 37 DA dc d hd (by omega)
  obtain ⟨Ad, Cd, rfl⟩ := own_slice o1
  have n1 : ∀ r, (none : Option Nat) = some r → ∃ cs t, wr.heap[r]? = some (.cells cs t (0, 0)) ∧ t ≠ 25 := fun r e => by cases e
  have no : ∀ {w : World} {e z : Nat} {v : Value} {k : Nat} {xs : List Value} {w' : World}, w.ownsRow B e z v k xs → w.grownBy w' none → w'.ownsRow B e z v k xs := fun {w e z v k xs w'} h hg => h.kept hg (by cases v.ownBlock <;> simp)
  have g1' : wr.grownBy (W1.alloc (.cells #[.int .u8 167] 5)) none := ⟨g1.os, g1.tape, g1.output, Nat.le_trans g1.size (by simp), fun q hq hne => (heap_alloc_old W1 _ (Nat.lt_of_lt_of_le hq g1.size)).trans (g1.block q hq hne)⟩
  obtain ⟨Ae, Ce, W3, r2, o2, g2, b2⟩ := row_byte W1 wr.heap.size _ d o1 g1.size (by omega)
  have hcap := row_cap o2
  -- what stands behind the byte
  have nd2 := no ND g1'
  have fr2 := no FR g1'
  have l2 : Lies (W1.alloc (.cells #[.int .u8 167] 5)) T 25 #[.slice A1 n C1, vF] := (g1'.block T (lies_lt LL) (by simp)).trans LL
  have d2 : ∀ k, k < us.length → LentD (W1.alloc (.cells #[.int .u8 167] 5)) B (D k) (us.getD k ⟨0, []⟩).data := fun k hk => by
    obtain ⟨A, C, e, h⟩ := DD k hk
    exact ⟨A, C, e, no h g1'⟩
  have t5 : ∀ r, (Value.slice Ad d.length Cd).ownBlock = some r → ∃ cs t, (W1.alloc (.cells #[.int .u8 167] 5)).heap[r]? = some (.cells cs t (0, 0)) ∧ t = 5 := fun r e => by obtain ⟨_, cs, h⟩ := b2 r e; exact ⟨cs, 5, h, rfl⟩
  have nd3 := nd2.kept g2 (own_other nd2 (fun r e => by obtain ⟨cs, t, h, ht⟩ := t5 r e; exact ⟨cs, t, h, by rw [ht]; decide⟩))
  have fr3 := fr2.kept g2 (own_other fr2 (fun r e => by obtain ⟨cs, t, h, ht⟩ := t5 r e; exact ⟨cs, t, h, by rw [ht]; decide⟩))
  have l3 := lies_other l2 g2 (fun r e => by obtain ⟨cs, t, h, ht⟩ := t5 r e; exact ⟨cs, t, h, by rw [ht]; decide⟩)
  have d3 : ∀ k, k < us.length → LentD W3 B (D k) (us.getD k ⟨0, []⟩).data := fun k hk => by
    obtain ⟨A, C, e, h⟩ := d2 k hk
    obtain ⟨A', C', e', h'⟩ := DD k hk
    have e2 := e.symm.trans e'
    injection e2 with a1 _ a3
    subst a1 a3
    refine ⟨A, C, e, h.kept g2 ?_⟩
    cases hv : (Value.slice A ((us.getD k ⟨0, []⟩).data.length + 1) C).ownBlock with
    | none => exact .inl rfl
    | some b =>
      refine .inr (fun e3 => ?_)
      have h4 := (h'.lt b hv).2
      have h5 := (b2 b e3.symm).1
      omega
  have w3 : Below B wr W3 := by
    have h1 : Below B wr (W1.alloc (.cells #[.int .u8 167] 5)) := (Below.refl B wr).grown g1' hB (fun k e => by cases e)
    exact h1.grown g2 (Nat.le_trans hB g1'.size) (fun k e => Nat.le_trans hB (b2 k e).1)
  have s3 : B ≤ W3.heap.size := Nat.le_trans hB (Nat.le_trans g1'.size g2.size)
  have gd : W3.grownBy W3.drew none := ⟨rfl, rfl, rfl, Nat.le_refl _, fun _ _ _ => rfl⟩
  have lD : LentD W3 B (.slice Ae d.length Ce) d := ⟨Ae, Ce, rfl, World.ownsRow.mono o2 hB⟩
  obtain ⟨Ag, Cg, Z3, r3, o3, g3, b3⟩ := row_file W3.drew B vF (.slice Ae d.length Ce) D us md (no fr3 gd) s3 rfl (by omega)
  have g4 : W3.grownBy (W3.drew.alloc (.cells #[.int .i64 md, .slice Ae d.length Ce] 57)) none := ⟨rfl, rfl, rfl, by simp, fun q hq _ => heap_alloc_old W3.drew _ hq⟩
  have nd4 := no nd3 g4
  have l4 := lies_other l3 g4 (fun r e => by cases e)
  have t57 : ∀ r, vF.ownBlock = some r → ∃ cs t, (W3.drew.alloc (.cells #[.int .i64 md, .slice Ae d.length Ce] 57)).heap[r]? = some (.cells cs t (0, 0)) ∧ t = 57 := fun r e => by obtain ⟨_, cs, h⟩ := b3 r e; exact ⟨cs, 57, h, rfl⟩
  have nd5 := nd4.kept g3 (own_other nd4 (fun r e => by obtain ⟨cs, t, h, ht⟩ := t57 r e; exact ⟨cs, t, h, by rw [ht]; decide⟩))
  have l5 := lies_other l4 g3 (fun r e => by obtain ⟨cs, t, h, ht⟩ := t57 r e; exact ⟨cs, t, h, by rw [ht]; decide⟩)
  have w4 : Below B wr (W3.drew.alloc (.cells #[.int .i64 md, .slice Ae d.length Ce] 57)) := w3.grown g4 s3 (fun k e => by cases e)
  have w5 : Below B wr Z3 := w4.grown g3 (Nat.le_trans s3 g4.size) (fun k e => (b3 k e).1)
  have gs := grown_setCell Z3 T 1 (.slice Ag (us.length + 1) Cg)
  have t25 : ∀ r, some T = some r → ∃ cs t, Z3.heap[r]? = some (.cells cs t (0, 0)) ∧ t = 25 := fun r e => by injection e with e; subst e; exact ⟨_, 25, l5, rfl⟩
  have l6 : Lies (Z3.setCell ⟨T, 1, none⟩ (.slice Ag (us.length + 1) Cg)) T 25 #[.slice A1 n C1, .slice Ag (us.length + 1) Cg] := lies_set l5 1 _
  have dk : ∀ v e, LentD W3 B v e → LentD (Z3.setCell ⟨T, 1, none⟩ (.slice Ag (us.length + 1) Cg)) B v e := fun v e h =>
    lentD_other (lentD_other (lentD_other h g4 (fun r e => by cases e)) g3 (fun r e => by obtain ⟨cs, t, h, ht⟩ := t57 r e; exact ⟨cs, t, h, by rw [ht]; decide⟩)) gs (fun r e => by obtain ⟨cs, t, h, ht⟩ := t25 r e; exact ⟨cs, t, h, by rw [ht]; decide⟩)
  refine ⟨Ad, Cd, W1, r1, Ae, Ce, W3, r2, hcap, l3, w3, Ag, Cg, Z3, r3, l4, l5, w4, w5, below_setCell w5 hT _, l6, nd5.kept gs (own_other nd5 (fun r e => by obtain ⟨cs, t, h, ht⟩ := t25 r e; exact ⟨cs, t, h, by rw [ht]; decide⟩)), (fun k => if k = us.length then .slice Ae d.length Ce else D k), ?_, fun k hk => ?_⟩
  · rw [fcells_snoc D _ us ⟨md, d⟩ (fun i hi => by rw [if_neg (by omega)]), if_pos rfl]
    exact o3.kept gs (own_other o3 (fun r e => by obtain ⟨cs, t, h, ht⟩ := t25 r e; exact ⟨cs, t, h, by rw [ht]; decide⟩))
  · by_cases e : k = us.length
    · subst e
      have e2 : ((us ++ [(⟨md, d⟩ : Fl)]).getD us.length ⟨0, []⟩).data = d := by simp [List.getD_eq_getElem?_getD]
      show LentD _ B (if us.length = us.length then .slice Ae d.length Ce else D us.length) _
      rw [if_pos rfl, e2]
      exact dk _ _ lD
    · have hk' : k < us.length := by omega
      have e2 : (us ++ [(⟨md, d⟩ : Fl)]).getD k ⟨0, []⟩ = us.getD k ⟨0, []⟩ := by
        rw [List.getD_eq_getElem?_getD, List.getD_eq_getElem?_getD, List.getElem?_append_left hk']
      show LentD _ B (if k = us.length then .slice Ae d.length Ce else D k) _
      rw [if_neg e, e2]
      exact dk _ _ (d3 k hk')
/-- what stands behind a lent tree's nodes -/
def endN : Nd := ⟨[], -71, 0⟩
/-- a lent tree: one more behind each list -/
def LentAt (w : World) (NA : Option Addr) (nc : Nat) (FA : Option Addr) (fc : Nat) (ns : List Nd) (fs : List Fl) : Prop :=
  NodesAt w NA (ns ++ [endN]) ∧ ns.length + 1 ≤ nc ∧ fs.length + 1 ≤ fc ∧ ∃ g, FA = some ⟨g, 0, none⟩ ∧ g < w.heap.size ∧ w.cell? ⟨g, fs.length * 2, none⟩ = some (.int .i64 (-72)) ∧
    ∀ i (h : i < fs.length), ∃ DA dc, w.cell? ⟨g, i * 2, none⟩ = some (.int .i64 fs[i].mode) ∧ w.cell? ⟨g, i * 2 + 1, none⟩ = some (.slice DA fs[i].data.length dc) ∧ fs[i].data.length + 1 ≤ dc ∧ BytesAt w DA (fs[i].data ++ [167])
theorem lent_at {w : World} {B C1 C2 : Nat} {A1 A2 : Option Addr} {D : Nat → Value} {ns : List Nd} {fs : List Fl} (N : w.ownsRow B 54 3 (.slice A1 (ns.length + 1) C1) (ns.length + 1) (ncells (ns ++ [endN])))
    (O : w.ownsRow B 57 2 (.slice A2 (fs.length + 1) C2) (fs.length + 1) (fcells D fs ++ [.int .i64 (-72), .slice none 0 0])) (DD : ∀ k, k < fs.length → LentD w B (D k) (fs.getD k ⟨0, []⟩).data) : LentAt w A1 C1 A2 C2 ns fs := by
  have hl : (ns ++ [endN]).length = ns.length + 1 := by simp
  obtain ⟨A, C, e, hN, hc, _⟩ := own_nodes (us := ns ++ [endN]) (by rw [hl]; exact N)
  rw [hl] at e hc
  obtain ⟨rfl, rfl⟩ : A1 = A ∧ C1 = C := by injection e with h1 h2 h3; exact ⟨h1, h3⟩
  have hc2 := row_cap O
  obtain ⟨g, rfl⟩ := own_at O (by omega)
  obtain ⟨_, cs, hg⟩ := own_heap O g rfl
  refine ⟨hN, hc, hc2, g, rfl, (Array.getElem?_eq_some_iff.1 hg).1, ?_, fun i hi => ?_⟩
  · rw [O.cellAt _ (by omega), List.getElem?_append_right (by rw [fcells_len]; omega), fcells_len, Nat.sub_self]
    rfl
  · have e2 : fs.getD i ⟨0, []⟩ = fs[i] := by simp [List.getD_eq_getElem?_getD, List.getElem?_eq_getElem hi]
    obtain ⟨A, C, e, h⟩ := DD i hi
    rw [e2] at e h
    have h' : OwnB w B (.slice A (fs[i].data.length + 1) C) (fs[i].data ++ [167]) := by
      unfold OwnB
      rw [List.length_append]
      exact h
    obtain ⟨DA, dc, e3, hb⟩ := own_bytes h'
    obtain ⟨rfl, rfl⟩ : A = DA ∧ C = dc := by injection e3 with h1 h2 h3; exact ⟨h1, h3⟩
    refine ⟨A, C, ?_, ?_, row_cap h, hb⟩
    · rw [O.cellAt _ (by omega), List.getElem?_append_left (by rw [fcells_len]; omega), (fcells_at D fs i hi).1]
    · rw [O.cellAt _ (by omega), List.getElem?_append_left (by rw [fcells_len]; omega), (fcells_at D fs i hi).2, e]
section
variable {w w' : World} {NA FA : Option Addr} {nc fc : Nat} {ns : List Nd} {fs : List Fl}
theorem lent_below (h : LentAt w NA nc FA fc ns fs) (hb : Below w.heap.size w w') : LentAt w' NA nc FA fc ns fs := by
  obtain ⟨h1, h2, h3, g, e, hg, h4, h5⟩ := h
  refine ⟨nodesAt_below h1 hb, h2, h3, g, e, Nat.lt_of_lt_of_le hg hb.size, (hb.cell (p := ⟨g, fs.length * 2, none⟩) hg).trans h4, fun i hi => ?_⟩
  obtain ⟨DA, dc, a, b, c, d⟩ := h5 i hi
  exact ⟨DA, dc, (hb.cell (p := ⟨g, i * 2, none⟩) hg).trans a, (hb.cell (p := ⟨g, i * 2 + 1, none⟩) hg).trans b, c, bytesAt_below d hb⟩
theorem lent_nodes (h : LentAt w NA nc FA fc ns fs) : NodesAt w NA ns := fun i hi => by
  obtain ⟨b, o, e, hl, a, b', c⟩ := h.1 i (by simp; omega)
  rw [List.getElem_append_left hi] at a b' c
  exact ⟨b, o, e, hl, a, b', c⟩
theorem lent_files (h : LentAt w NA nc FA fc ns fs) : FilesAt w FA fs := fun i hi => by
  obtain ⟨_, _, _, g, e, hg, _, h5⟩ := h
  obtain ⟨DA, dc, a, b, _, d⟩ := h5 i hi
  refine ⟨g, 0, DA, dc, e, hg, by rw [Nat.zero_add]; exact a, by rw [Nat.zero_add]; exact b, fun k hk => ?_⟩
  obtain ⟨b2, o2, e2, hl, hc⟩ := d k (by simp; omega)
  rw [List.getElem_append_left hk] at hc
  exact ⟨b2, o2, e2, hl, hc⟩
end
end Go.Proofs.Ytjagddhkoacipaa
