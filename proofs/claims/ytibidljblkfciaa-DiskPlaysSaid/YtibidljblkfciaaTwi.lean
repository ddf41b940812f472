/-
What is proved here: Twin of the disk: a disk that is as this one in all, in new memory alone.
-/
import Derived.Test.YtibidljblkfciaaTwn
set_option linter.unusedSimpArgs false
namespace Go.Proofs.Ytibidljblkfciaa
open Go.Word Go.RowKit Go.Shelf

attribute [local go_sem] Oper.semAt_some

/-- the same write, its bytes elsewhere -/
def Ent.like (e e' : Ent) : Prop := e.at_ = e'.at_ ∧ e.da = e'.da ∧ e.dc = e'.dc
/-- what the twin's making has done behind some of the writes -/
structure Twg (w : World) (g' : Nat) (hs : List Ent) (N K : Nat) (f : Nat → BitVec 8) (on : Bool) (lf : Int) (pre : List (Fin N)) (es : List Ent) (X : World) : Prop where
  len : es.length = N
  row : Lies X (g' + 2) 73 (es.flatMap Ent.cells).toArray
  like : ∀ (i : Nat) (h : i < es.length) (h' : i < hs.length), (es[i]).like hs[i]
  done : ∀ x ∈ pre, ∀ (h : x.1 < es.length), g' + 3 ≤ es[x.1].a ∧ g' + 3 ≤ es[x.1].c ∧ Lies X es[x.1].a 5 (yRow es[x.1].da 512) ∧ Lies X es[x.1].c 5 (yRow es[x.1].dc 512)
  self : Lies X g' 65 (DRow (g' + 1) K (.slice (some ⟨g' + 2, 0, none⟩) N N) on lf)
  bytes : Lies X (g' + 1) 5 (yRow f K)
  size : g' + 4 ≤ X.heap.size
  old : Below w.heap.size w X
theorem twg_own {w X Y : World} {row : Option Nat} {g' : Nat} {hs : List Ent} {N K : Nat} {f : Nat → BitVec 8} {on : Bool} {lf : Int} {pre : List (Fin N)} {es : List Ent} (h : Twg w g' hs N K f on lf pre es X) (hw : w.heap.size ≤ g') (hg : X.grownBy Y row) (hr : ∀ r, row = some r → g' + 4 ≤ r ∧ ∃ o : Obj, X.heap[r]? = some o ∧ o.isCells = false) : Twg w g' hs N K f on lf pre es Y where
  len := h.len
  row := lies_own _ 73 _ h.row hg (fun r e => (hr r e).2)
  like := h.like
  done := fun x hx hl => by
    obtain ⟨h1, h2, h3, h4⟩ := h.done x hx hl
    exact ⟨h1, h2, lies_own _ 5 _ h3 hg (fun r e => (hr r e).2), lies_own _ 5 _ h4 hg (fun r e => (hr r e).2)⟩
  self := lies_own _ 65 _ h.self hg (fun r e => (hr r e).2)
  bytes := lies_own _ 5 _ h.bytes hg (fun r e => (hr r e).2)
  size := Nat.le_trans h.size hg.size
  old := h.old.grown hg h.old.size (fun k e => by have := (hr k e).1; omega)
theorem twg_below {w X Y : World} {g' : Nat} {hs : List Ent} {N K : Nat} {f : Nat → BitVec 8} {on : Bool} {lf : Int} {pre : List (Fin N)} {es : List Ent} (h : Twg w g' hs N K f on lf pre es X) (hb : Below X.heap.size X Y) : Twg w g' hs N K f on lf pre es Y where
  len := h.len
  row := lies_below h.row hb (lies_lt h.row)
  like := h.like
  done := fun x hx hl => by
    obtain ⟨h1, h2, h3, h4⟩ := h.done x hx hl
    exact ⟨h1, h2, lies_below h3 hb (lies_lt h3), lies_below h4 hb (lies_lt h4)⟩
  self := lies_below h.self hb (lies_lt h.self)
  bytes := lies_below h.bytes hb (lies_lt h.bytes)
  size := Nat.le_trans h.size hb.size
  old := h.old.trans (hb.mono h.old.size)
/-- one write more is the twin's own -/
theorem twg_step {w X : World} {g' : Nat} {hs : List Ent} {N K : Nat} {f : Nat → BitVec 8} {on : Bool} {lf : Int} {pre : List (Fin N)} {es : List Ent} (h : Twg w g' hs N K f on lf pre es X) (x : Fin N) (hx : x.1 < hs.length) (hw : w.heap.size ≤ g') (W1 W2 W3 W4 : World)
    (e1 : W1 = X.drew.alloc (.cells (yRow hs[x.1].da 512) 5)) (e2 : W2 = W1.alloc (.cells (yRow hs[x.1].dc 512) 5)) (e3 : W3 = W2.setCell ⟨g' + 2, x.1 * 3 + 1, none⟩ (.slice (some ⟨X.heap.size, 0, none⟩) 512 512)) (e4 : W4 = W3.setCell ⟨g' + 2, x.1 * 3 + 2, none⟩ (.slice (some ⟨X.heap.size + 1, 0, none⟩) 512 512)) :
    ∃ es', Twg w g' hs N K f on lf (pre ++ [x]) es' W4 ∧ W4.os = X.os ∧ W4.tape = X.tape ∧ W4.output = X.output ∧ X.heap.size ≤ W4.heap.size ∧ ∀ i, i < X.heap.size → i ≠ g' + 2 → W4.heap[i]? = X.heap[i]? := by
  have hxe : x.1 < es.length := by have := h.len; have := x.2; omega
  have hlk := h.like x.1 hxe hx
  have b2 : Below X.heap.size X W2 := by
    rw [e2, e1]; exact ((Below.drew (Below.refl _ _)).alloc (Nat.le_refl _) _).alloc (by simp) _
  have l1 : Lies W2 X.heap.size 5 (yRow hs[x.1].da 512) := by
    rw [e2, e1]; exact lies_alloc (lies_new X.drew 5 _) _
  have l2 : Lies W2 (X.heap.size + 1) 5 (yRow hs[x.1].dc 512) := by
    have := lies_new W1 5 (yRow hs[x.1].dc 512)
    rw [← e2] at this
    have hz : W1.heap.size = X.heap.size + 1 := by rw [e1]; simp
    rw [hz] at this
    exact this
  have z2 : W2.heap.size = X.heap.size + 2 := by rw [e2, e1]; simp
  have z4 : W4.heap.size = X.heap.size + 2 := by rw [e4, e3]; simp [World.setCell, z2]
  have hrow := lies_below h.row b2 (lies_lt h.row)
  have g4 : W2.grownBy W4 (some (g' + 2)) := by rw [e4, e3]; exact only_setCell (only_setCell (World.grownBy.refl W2 _) _ _) _ _
  have sz := h.size
  have far : ∀ {i t cs}, Lies W2 i t cs → i ≠ g' + 2 → Lies W4 i t cs := fun hl hne => (g4.block _ (lies_lt hl) (fun e => by injection e with e; exact hne e)).trans hl
  let ea : Ent := { es[x.1] with a := X.heap.size }
  let eb : Ent := { es[x.1] with a := X.heap.size, c := X.heap.size + 1 }
  have q1 : (es.flatMap Ent.cells).set (x.1 * 3 + 1) (.slice (some ⟨X.heap.size, 0, none⟩) 512 512) = (es.set x.1 ea).flatMap Ent.cells := flat_set ea 1 (by decide) _ es x.1 hxe rfl
  have hxa : x.1 < (es.set x.1 ea).length := by simpa using hxe
  have q2 : ((es.set x.1 ea).flatMap Ent.cells).set (x.1 * 3 + 2) (.slice (some ⟨X.heap.size + 1, 0, none⟩) 512 512) = ((es.set x.1 ea).set x.1 eb).flatMap Ent.cells := flat_set eb 2 (by decide) _ _ x.1 hxa (by simp [ea, eb, Ent.cells])
  have hrow4 : Lies W4 (g' + 2) 73 ((es.set x.1 eb).flatMap Ent.cells).toArray := by
    have r3 := lies_set hrow (x.1 * 3 + 1) (.slice (some ⟨X.heap.size, 0, none⟩) 512 512)
    have r4 := lies_set r3 (x.1 * 3 + 2) (.slice (some ⟨X.heap.size + 1, 0, none⟩) 512 512)
    rw [← e3, ← e4] at r4
    simp only [List.setIfInBounds_toArray] at r4
    rw [q1, q2, List.set_set] at r4
    exact r4
  refine ⟨es.set x.1 eb, ⟨by rw [List.length_set]; exact h.len, hrow4, ?_, ?_, far (lies_below h.self b2 (lies_lt h.self)) (by omega), far (lies_below h.bytes b2 (lies_lt h.bytes)) (by omega), by omega, ?_⟩, g4.os.trans b2.os, g4.tape.trans b2.tape, g4.output.trans b2.output, by omega, ?_⟩
  · intro i hi hi'
    rw [List.getElem_set]
    by_cases e : x.1 = i
    · subst e
      rw [if_pos rfl]
      exact hlk
    · rw [if_neg e]
      exact h.like i (by simpa using hi) hi'
  · intro y hy hyl
    rw [List.getElem_set]
    by_cases e : x.1 = y.1
    · rw [if_pos e]
      refine ⟨by show g' + 3 ≤ X.heap.size; omega, by show g' + 3 ≤ X.heap.size + 1; omega, ?_, ?_⟩
      · have := far l1 (by omega)
        show Lies W4 X.heap.size 5 (yRow es[x.1].da 512)
        rw [hlk.2.1]; exact this
      · have := far l2 (by omega)
        show Lies W4 (X.heap.size + 1) 5 (yRow es[x.1].dc 512)
        rw [hlk.2.2]; exact this
    · rw [if_neg e]
      have hy2 : y ∈ pre := by
        rcases List.mem_append.1 hy with h | h
        · exact h
        · obtain rfl := List.mem_singleton.1 h
          exact absurd rfl e
      obtain ⟨h1, h2, h3, h4⟩ := h.done y hy2 (by simpa using hyl)
      exact ⟨h1, h2, far (lies_below h3 b2 (lies_lt h3)) (by omega), far (lies_below h4 b2 (lies_lt h4)) (by omega)⟩
  · have b3 := h.old.trans (b2.mono h.old.size)
    exact b3.grown g4 b3.size (fun k e => by injection e with e; omega)
  · intro i hi hne
    exact (g4.block i (by omega) (fun e => by injection e with e; exact hne e)).trans (b2.block i hi)
/-- at the end: the twin -/
theorem twg_end {w X : World} {g' : Nat} {hs : List Ent} {n N K : Nat} {f : Nat → BitVec 8} {on : Bool} {lf : Int} {pre : List (Fin N)} {es : List Ent} (h : Twg w g' hs N K f on lf pre es X) (hall : pre.map Fin.val = List.range N) (hlen : hs.length = N) (hK : K = 512 * n) (hn : 1 ≤ n ∧ n ≤ 4096) (hNm : N ≤ 70000) (hat : ∀ e ∈ hs, e.at_ < n) :
    Dsk X g' (g' + 1) (g' + 2) n K f (.slice (some ⟨g' + 2, 0, none⟩) N N) es on lf where
  self := h.self
  bytes := h.bytes
  held := by
    refine ⟨by rw [flat_len], .inr ⟨g' + 2, N, _, by rw [h.len], Nat.le_refl _, h.row, by rw [h.len]; exact Nat.le_refl _, by unfold maxLen; omega, by rw [List.size_toArray, flat_len, h.len], ?_⟩⟩
    exact List.take_of_length_le (by show (es.flatMap Ent.cells).length ≤ _; rw [flat_len]; exact Nat.le_refl _)
  size := hK
  most := hn
  ord := ⟨⟨by omega, by omega⟩, by omega, by have := h.size; omega⟩
  rows := fun e he => by
    obtain ⟨i, hi, rfl⟩ := List.getElem_of_mem he
    have hiN : i < N := by rw [← h.len]; exact hi
    have hlk := h.like i hi (by omega)
    have hmem : (⟨i, hiN⟩ : Fin N) ∈ pre := by
      have : i ∈ pre.map Fin.val := by rw [hall]; exact List.mem_range.2 hiN
      obtain ⟨y, hy, e⟩ := List.mem_map.1 this
      have : y = ⟨i, hiN⟩ := Fin.ext e
      rw [← this]; exact hy
    obtain ⟨h1, h2, h3, h4⟩ := h.done _ hmem hi
    refine ⟨by rw [hlk.1]; exact hat _ (List.getElem_mem _), by show g' + 2 ≤ es[i].a; exact Nat.le_trans (by omega) h1, Nat.le_trans (by omega) h2, h3, h4, ?_, ?_⟩
    · simp [Value.ownBlock]; exact fun e => by have h1' : g' + 3 ≤ es[i].a := h1; omega
    · simp [Value.ownBlock]; exact fun e => by have h2' : g' + 3 ≤ es[i].c := h2; omega

/-- behind Twin: the twin, and all else as it was -/
def TwinIs (w : World) (hs : List Ent) (n N K : Nat) (f : Nat → BitVec 8) (on : Bool) (lf : Int) (w' : World) : Prop :=
  (∃ es : List Ent, es.length = N ∧ (∀ (i : Nat) (h : i < es.length) (h' : i < hs.length), (es[i]).like hs[i]) ∧ Dsk w' w.heap.size (w.heap.size + 1) (w.heap.size + 2) n K f (.slice (some ⟨w.heap.size + 2, 0, none⟩) N N) es on lf) ∧ Below w.heap.size w w'
set_option maxRecDepth 100000 in
set_option maxHeartbeats 8000000 in
theorem twin_in (F : Fence) (n' : Nat) (h14 : F.fn 14) (h32 : F.fn 32) (h33 : F.fn 33) (h43 : F.fn 43) (hro : F.round = none) (hn : 4 ≤ n') {g B base n K : Nat} {f : Nat → BitVec 8} {hvA : Option Addr} {N C : Nat} {hs : List Ent} {on : Bool} {lf : Int} (w : World) (hN : hs.length = N) (hNm : N ≤ 70000)
    (T32 : ∀ (ad : Addr) (k c : Nat) (f : Nat → BitVec 8) (w : World), k ≤ 3000000 → Src8 w ad f k → ad.block < w.heap.size → ∀ m, CallsIn F m Try.prog 32 #[.slice (some ad) k c] w fun e w' => e = .returned (.slice (some ⟨w.heap.size, 0, none⟩) k k) ∧ w' = w.alloc (.cells (yRow f k) 5))
    (h : Dsk w g B base n K f (.slice hvA N C) hs on lf) :
    CallsIn F n' Try.prog 14 #[.pointer (some ⟨g, 0, none⟩)] w fun e w' => e = .returned (.pointer (some ⟨w.heap.size, 0, none⟩)) ∧ TwinIs w hs n N K f on lf w' := by
  have h1 : 1 ≤ n' := by omega
  have c0 : w.cell? ⟨g, 0, none⟩ = some (.slice (some ⟨B, 0, none⟩) K K) := lies_cell h.self 0
  have c1 : w.cell? ⟨g, 1, none⟩ = some (.slice hvA N C) := lies_cell h.self 1
  have c2 : w.cell? ⟨g, 2, none⟩ = some (.bool on) := lies_cell h.self 2
  have c3 : w.cell? ⟨g, 3, none⟩ = some (.int .i64 lf) := lies_cell h.self 3
  have hgl := lies_lt h.self
  have hmk := fun W => held_cells N hNm W
  have hKm : K ≤ 3000000 := by have := h.size; have := h.most; omega
  have S1 := Lib.hid (src_row (lies_alloc h.bytes (.cells (DRow B K (.slice hvA N C) on lf) 65)))
  have S2 := Lib.hid (show B < (w.alloc (.cells (DRow B K (.slice hvA N C) on lf) 65)).heap.size by have := lies_lt h.bytes; simp; omega)
  have H := Lib.hid h
  have HN := Lib.hid hN
  have HNm := Lib.hid hNm
  clear h hN hNm
  refine callsIn_of_wp_marks Try.func14 rfl h14 ?_ hro
  simp only [Try.ntmps14, List.size_toArray, List.length_cons, List.length_nil, Nat.reduceAdd, Nat.reduceSub, Array.replicate_succ, Array.replicate_zero, List.push_toArray, List.append_toArray, List.nil_append, List.cons_append]
  gi_wp2_with (gi_at_call 32; refine (T32 _ _ _ f _ hKm S1.out S2.out _).mono ?_; rintro e w' ⟨rfl, rfl⟩)
  change Code.wpIn _ _ _ _ _ _ (((w.alloc (.cells #[.slice (some ⟨w.heap.size + 1, 0, none⟩) K K, .slice (some ⟨w.heap.size + 1 + 1, 0, none⟩) N N, .bool on, .int .i64 lf] 65)).alloc (.cells (yRow f K) 5)).alloc (.cells (madeCells #[.int .i64 0, .slice none 0 0, .slice none 0 0] (N * 3)) 73))
  have z3 : (((w.alloc (.cells #[.slice (some ⟨w.heap.size + 1, 0, none⟩) K K, .slice (some ⟨w.heap.size + 1 + 1, 0, none⟩) N N, .bool on, .int .i64 lf] 65)).alloc (.cells (yRow f K) 5)).alloc (.cells (madeCells #[.int .i64 0, .slice none 0 0, .slice none 0 0] (N * 3)) 73)).heap.size = w.heap.size + 3 := by simp
  have la := lies_alloc (lies_alloc (lies_new w 65 #[.slice (some ⟨w.heap.size + 1, 0, none⟩) K K, .slice (some ⟨w.heap.size + 1 + 1, 0, none⟩) N N, .bool on, .int .i64 lf]) (.cells (yRow f K) 5)) (.cells (madeCells #[.int .i64 0, .slice none 0 0, .slice none 0 0] (N * 3)) 73)
  have lb := lies_alloc (lies_new (w.alloc (.cells #[.slice (some ⟨w.heap.size + 1, 0, none⟩) K K, .slice (some ⟨w.heap.size + 1 + 1, 0, none⟩) N N, .bool on, .int .i64 lf] 65)) 5 (yRow f K)) (.cells (madeCells #[.int .i64 0, .slice none 0 0, .slice none 0 0] (N * 3)) 73)
  have lc := lies_new ((w.alloc (.cells #[.slice (some ⟨w.heap.size + 1, 0, none⟩) K K, .slice (some ⟨w.heap.size + 1 + 1, 0, none⟩) N N, .bool on, .int .i64 lf] 65)).alloc (.cells (yRow f K) 5)) 73 (madeCells #[.int .i64 0, .slice none 0 0, .slice none 0 0] (N * 3))
  have ba : Below w.heap.size w (((w.alloc (.cells #[.slice (some ⟨w.heap.size + 1, 0, none⟩) K K, .slice (some ⟨w.heap.size + 1 + 1, 0, none⟩) N N, .bool on, .int .i64 lf] 65)).alloc (.cells (yRow f K) 5)).alloc (.cells (madeCells #[.int .i64 0, .slice none 0 0, .slice none 0 0] (N * 3)) 73)) := (((Below.refl _ w).alloc (Nat.le_refl _) _).alloc (by simp) _).alloc (by simp; omega) _
  simp only [World.size_alloc] at lb lc
  generalize (((w.alloc (.cells #[.slice (some ⟨w.heap.size + 1, 0, none⟩) K K, .slice (some ⟨w.heap.size + 1 + 1, 0, none⟩) N N, .bool on, .int .i64 lf] 65)).alloc (.cells (yRow f K) 5)).alloc (.cells (madeCells #[.int .i64 0, .slice none 0 0, .slice none 0 0] (N * 3)) 73)) = X at la lb lc ba z3 ⊢
  obtain ⟨Wf, hWf⟩ : ∃ Wf : Array Bool → World, Wf = fun listed => cond (listed.getD 6 false) (X.drew.setRow (w.heap.size + 1 + 1) (hs.flatMap Ent.cells).toArray) X.drew := ⟨_, rfl⟩
  have hne : ∀ (listed : Array Bool) (i : Nat), i ≠ 6 → Wf (listed.setIfInBounds i true) = Wf listed := fun listed i hi => by rw [hWf]; show cond ((listed.setIfInBounds i true).getD 6 false) _ _ = cond (listed.getD 6 false) _ _; rw [getD_set_ne false hi]
  have hcell : ∀ (listed : Array Bool) (b o : Nat), b ≠ w.heap.size + 1 + 1 → (Wf listed).cell? ⟨b, o, none⟩ = X.cell? ⟨b, o, none⟩ := fun listed b o hb => by
    rw [hWf]
    show (cond (listed.getD 6 false) _ _ : World).cell? _ = _
    cases listed.getD 6 false with
    | false => rfl
    | true => exact World.cell?_of_block (setRow_other X.drew _ b _ hb)
  have HO := Lib.hid (dsk_below H.out (ba.mono (Nat.le_refl _))).held
  rw [HN.out] at HO
  refine wpIn_region_any (by kernel_rfl) ?_
  have hstart : Wf (Array.replicate 7 false) = X.drew := by rw [hWf]; rfl
  change wpAnyIn _ _ _ _ _ _ _ _ _ (World.drew X)
  rw [← hstart]
  refine every_in (own := ownAll _) (vals := fun i => match i with | 0 => .pointer (some ⟨w.heap.size, 1, none⟩) | 1 => .slice (some ⟨w.heap.size + 1 + 1, 0, none⟩) N N | 2 => .pointer (some ⟨g, 0, none⟩) | 3 => .pointer (some ⟨g, 0, none⟩) | 4 => .pointer (some ⟨g, 1, none⟩) | 5 => .slice hvA N C | _ => .int .i64 (N : Int)) id Wf (acAll_of (by kernel_rfl)) (onAll_of (by kernel_rfl)) (dstAll_of (by kernel_rfl)) ?hop ?hend _ _ _ rfl (shut_none _) (of_decide_eq_true (by kernel_rfl)) (tabd_start (fun i => rep_false _ i))
  case hop =>
    intro i oi a listed hoi hun hsz hcl hdeps ht
    have hi7 : i < 7 := (Array.getElem?_eq_some_iff.1 hoi).1
    obtain rfl | rfl | rfl | rfl | rfl | rfl | rfl : i = 0 ∨ i = 1 ∨ i = 2 ∨ i = 3 ∨ i = 4 ∨ i = 5 ∨ i = 6 := by omega
    · obtain rfl := Option.some.inj hoi
      exact ⟨rfl, fun K hk => wpIn_valueW (fun c h => by cases h) rfl (field651 (.tmp 3) rfl ((tabd_old ht (of_decide_eq_true (by kernel_rfl)) (by kernel_rfl)).trans rfl)) (hne _ _ (by decide)) hk⟩
    · obtain rfl := Option.some.inj hoi
      have d1 := hdeps ⟨0, .data⟩ (by simp) rfl
      exact ⟨rfl, fun K hk => wpIn_valueW (fun c h => by cases h) rfl (load63 (.tmp 24) rfl (tabd_at ht (of_decide_eq_true (by kernel_rfl)) (by kernel_rfl) d1) ((hcell _ _ _ (by omega)).trans (lies_cell la 1))) (hne _ _ (by decide)) hk⟩
    · obtain rfl := Option.some.inj hoi
      exact ⟨rfl, fun K hk => wpIn_valueW (fun c h => by cases h) rfl (move_op (.tmp 0) rfl ((tabd_old ht (of_decide_eq_true (by kernel_rfl)) (by kernel_rfl)).trans rfl)) (hne _ _ (by decide)) hk⟩
    · obtain rfl := Option.some.inj hoi
      have d1 := hdeps ⟨2, .data⟩ (by simp) rfl
      exact ⟨rfl, fun K hk => wpIn_valueW (fun c h => by cases h) rfl (nil_op (.tmp 26) rfl (tabd_at ht (of_decide_eq_true (by kernel_rfl)) (by kernel_rfl) d1)) (hne _ _ (by decide)) hk⟩
    · obtain rfl := Option.some.inj hoi
      have d1 := hdeps ⟨3, .data⟩ (by simp) rfl
      exact ⟨rfl, fun K hk => wpIn_valueW (fun c h => by cases h) rfl (field651 (.tmp 27) rfl (tabd_at ht (of_decide_eq_true (by kernel_rfl)) (by kernel_rfl) d1)) (hne _ _ (by decide)) hk⟩
    · obtain rfl := Option.some.inj hoi
      have d1 := hdeps ⟨4, .data⟩ (by simp) rfl
      exact ⟨rfl, fun K hk => wpIn_valueW (fun c h => by cases h) rfl (load63 (.tmp 28) rfl (tabd_at ht (of_decide_eq_true (by kernel_rfl)) (by kernel_rfl) d1) ((hcell _ _ _ (by omega)).trans ((ba.cell (p := ⟨g, 1, none⟩) hgl).trans c1))) (hne _ _ (by decide)) hk⟩
    · obtain rfl := Option.some.inj hoi
      have d1 := hdeps ⟨1, .data⟩ (by simp) rfl
      have d2 := hdeps ⟨5, .data⟩ (by simp) rfl
      have eW : Wf listed = X.drew := by rw [hWf]; show cond (listed.getD 6 false) _ _ = _; rw [hun]; rfl
      have eW2 : Wf (listed.setIfInBounds 6 true) = X.drew.setRow (w.heap.size + 1 + 1) (hs.flatMap Ent.cells).toArray := by rw [hWf]; show cond ((listed.setIfInBounds 6 true).getD 6 false) _ _ = _; rw [getD_here (by rw [hsz]; exact hi7)]; rfl
      refine ⟨rfl, fun K hk => ?_⟩
      rw [eW2] at hk
      rw [eW]
      exact wpIn_turn (fun c h => by cases h) (fun f hf => by rw [aboutCopyH (.tmp 25) (.tmp 29) rfl] at hf; cases hf) (copyh_op (.tmp 25) (.tmp 29) rfl (tabd_at ht (of_decide_eq_true (by kernel_rfl)) (by kernel_rfl) d1) (tabd_at ht (of_decide_eq_true (by kernel_rfl)) (by kernel_rfl) d2) (lies_drew lc) HO.out HN.out) hk
  case hend =>
    intro a listed hall ht
    have eW : Wf listed = X.drew.setRow (w.heap.size + 1 + 1) (hs.flatMap Ent.cells).toArray := by rw [hWf]; show cond (listed.getD 6 false) _ _ = _; rw [hall 6 (of_decide_eq_true (by kernel_rfl))]; rfl
    rw [eW, tabd_fill ht (fun t i ho => hall i (ownAll_lt ho))]
    clear hWf hne hcell hstart hall ht eW
    change Exit.then _ _ Exit.normal { tmps := #[.pointer (some ⟨g, 0, none⟩), undef, .pointer none, .pointer (some ⟨w.heap.size, 0, none⟩), undef, undef, .pointer (some ⟨g, 0, none⟩), .bool false, .pointer (some ⟨g, 0, none⟩), .pointer (some ⟨g, 0, none⟩), .agg #[.slice (some ⟨B, 0, none⟩) K K, .slice hvA N C, .bool on, .int .i64 lf], .pointer (some ⟨g, 0, none⟩), .pointer (some ⟨g, 0, none⟩), .pointer (some ⟨g, 0, none⟩), .slice (some ⟨B, 0, none⟩) K K, .slice (some ⟨w.heap.size + 1, 0, none⟩) K K, .pointer (some ⟨w.heap.size, 0, none⟩), .pointer (some ⟨g, 0, none⟩), .pointer (some ⟨g, 0, none⟩), .pointer (some ⟨g, 1, none⟩), .slice hvA N C, .int .i64 (N : Int), .slice (some ⟨w.heap.size + 1 + 1, 0, none⟩) N N, .pointer (some ⟨w.heap.size, 1, none⟩), .pointer (some ⟨w.heap.size, 1, none⟩), .slice (some ⟨w.heap.size + 1 + 1, 0, none⟩) N N, .pointer (some ⟨g, 0, none⟩), .pointer (some ⟨g, 0, none⟩), .pointer (some ⟨g, 1, none⟩), .slice hvA N C, .int .i64 (N : Int), undef, undef, undef, undef, undef, undef, undef, undef, undef, undef, undef, undef, undef, undef, undef, undef, undef, undef, undef, undef, undef, undef], defers := [] } _
    have l6 : Lies (X.drew.setRow (w.heap.size + 1 + 1) (hs.flatMap Ent.cells).toArray) (w.heap.size + 1 + 1) 73 (hs.flatMap Ent.cells).toArray := lies_setRow (lies_drew lc) _
    have la6 : Lies (X.drew.setRow (w.heap.size + 1 + 1) (hs.flatMap Ent.cells).toArray) w.heap.size 65 #[.slice (some ⟨w.heap.size + 1, 0, none⟩) K K, .slice (some ⟨w.heap.size + 1 + 1, 0, none⟩) N N, .bool on, .int .i64 lf] := (setRow_other _ _ _ _ (by omega)).trans (lies_drew la)
    have lb6 : Lies (X.drew.setRow (w.heap.size + 1 + 1) (hs.flatMap Ent.cells).toArray) (w.heap.size + 1) 5 (yRow f K) := (setRow_other _ _ _ _ (by omega)).trans (lies_drew lb)
    have b6 : Below w.heap.size w (X.drew.setRow (w.heap.size + 1 + 1) (hs.flatMap Ent.cells).toArray) := below_setRow ba.drew (by omega) _
    have z6 : (X.drew.setRow (w.heap.size + 1 + 1) (hs.flatMap Ent.cells).toArray).heap.size = w.heap.size + 3 := by simp [z3]
    generalize X.drew.setRow (w.heap.size + 1 + 1) (hs.flatMap Ent.cells).toArray = X6 at l6 la6 lb6 b6 z6 ⊢
    clear la lb lc ba z3 HO
    have HZ := Lib.hid z6
    clear z6
    gi_wp2_with (gi_at_call 33; refine (writes_in F (n' - 1) h33 hro _ _).mono ?_; rintro e w' ⟨rfl, rfl⟩)
    have hz6 := HZ.out
    have bN := Boxed.new X6 25 (.pointer (some ⟨g, 0, none⟩))
    have b7 : Below w.heap.size w (X6.alloc (.cells #[.pointer (some ⟨g, 0, none⟩)] 25)) := b6.alloc (by omega) _
    have l7 := lies_alloc l6 (.cells #[.pointer (some ⟨g, 0, none⟩)] 25)
    have la7 := lies_alloc la6 (.cells #[.pointer (some ⟨g, 0, none⟩)] 25)
    have lb7 := lies_alloc lb6 (.cells #[.pointer (some ⟨g, 0, none⟩)] 25)
    have z7 : (X6.alloc (.cells #[.pointer (some ⟨g, 0, none⟩)] 25)).heap.size = w.heap.size + 4 := by simp [hz6]
    obtain ⟨W7, hW7⟩ : ∃ W7, X6.alloc (.cells #[.pointer (some ⟨g, 0, none⟩)] 25) = W7 := ⟨_, rfl⟩
    rw [hW7] at bN b7 l7 la7 lb7 z7 ⊢
    clear hW7 l6 la6 lb6 b6
    have hNN := HN.out
    have hlk : ∀ k : Fin N, k.1 < hs.length := fun k => by rw [hNN]; exact k.2
    obtain ⟨E, hE⟩ : ∃ E : Fin N → Ent, ∀ k, E k = hs[k.1]'(hlk k) := ⟨fun k => hs[k.1]'(hlk k), fun _ => rfl⟩
    have hOw := H.out.held
    rw [hNN] at hOw
    obtain ⟨hb, hA, hbl, hbc⟩ : ∃ hb, (∀ _ : Fin N, hvA = some ⟨hb, 0, none⟩) ∧ hb < w.heap.size ∧ ∀ j, j < N * 3 → w.cell? ⟨hb, j, none⟩ = (hs.flatMap Ent.cells)[j]? := by
      rcases hOw.2 with ⟨_, e0⟩ | ⟨gg, cap, cur, e, _⟩
      · subst e0
        exact ⟨g, fun k => k.elim0, hgl, fun j hj => by omega⟩
      · obtain ⟨rfl, _⟩ : hvA = some ⟨gg, 0, none⟩ ∧ C = cap := by simpa using e
        exact ⟨gg, fun _ => rfl, (World.ownsRow.lt hOw gg rfl).2, fun j hj => World.ownsRow.cellAt hOw j hj⟩
    have hcs : ∀ (W : World), Below W7.heap.size W7 W → ∀ k : Fin N, W.cell? ⟨hb, k.1 * 3, none⟩ = some (.int .i64 ((E k).at_ : Int)) ∧ W.cell? ⟨hb, k.1 * 3 + 1, none⟩ = some (.slice (some ⟨(E k).a, 0, none⟩) 512 512) ∧ W.cell? ⟨hb, k.1 * 3 + 2, none⟩ = some (.slice (some ⟨(E k).c, 0, none⟩) 512 512) := fun W hW k => by
      have at_ : ∀ o, o < 3 → W.cell? ⟨hb, k.1 * 3 + o, none⟩ = (Ent.cells (E k))[o]? := fun o ho => by
        have hk := k.2
        have := (hW.cell (p := ⟨hb, k.1 * 3 + o, none⟩) (by show hb < W7.heap.size; omega)).trans ((b7.cell (p := ⟨hb, k.1 * 3 + o, none⟩) hbl).trans (hbc (k.1 * 3 + o) (by omega)))
        rw [this, hE, ← List.getElem?_toArray, flat_get hs k.1 o (hlk k) ho]
      exact ⟨at_ 0 (by decide), at_ 1 (by decide), at_ 2 (by decide)⟩
    refine wpIn_rangeFunc_ownH hro h1 (gf := 43) (lb := #[.pointer (some ⟨X6.heap.size, 0, none⟩)]) rfl h43 (enters_of Try.func43 (by kernel_rfl) rfl)
      (encs := encF N E) (Kp := KB (w.heap.size + 2) (w.heap.size + 4)) (S := fun ys => ys.map Fin.val = List.range N) (Sp := fun _ => True) (N := N) (w0 := W7)
      (fun l J Jx W hW hJ _ hY hj0 => (iterf_in F (n' - 1) h43 hro (by omega) l X6.heap.size (w.heap.size + 4) (w.heap.size + 2) g hb N C E HNm.out (by omega) (by omega) J Jx hY W hJ (by have := hW.size; omega) ((hW.cell (p := ⟨X6.heap.size, 0, none⟩) (by show X6.heap.size < W7.heap.size; omega)).trans bN.cell) hvA hA ((hW.cell (p := ⟨g, 1, none⟩) (by show g < W7.heap.size; omega)).trans ((b7.cell (p := ⟨g, 1, none⟩) hgl).trans c1)) (hcs W hW) hj0).mono (fun e W' ⟨he, hr⟩ => ⟨he, by
        rcases hr with ⟨ys, eys, hj⟩ | ⟨pre, _, hj⟩
        · exact .inl ⟨ys, eys, hj⟩
        · exact .inr ⟨pre, trivial, hj⟩⟩))
      kb_t (fun W l o o' hl ho h1 h2 => kb_b (w := W7) (by omega) W l o o' hl ho h1 h2) (Below.refl _ _) (fun _ => rfl)
      (fun pre W => ∃ es, Twg w w.heap.size hs N K f on lf pre es W)
      (fun _ _ _ => False)
      (fun _ X Y row hs' hg hr => by obtain ⟨es, ht⟩ := hs'; exact ⟨es, twg_own ht (Nat.le_refl _) hg (fun r e => ⟨by have := (hr r e).1; omega, (hr r e).2⟩)⟩)
      (fun _ _ _ _ _ hs _ _ => hs)
      ⟨hs, hNN, l7, fun _ _ _ => ⟨rfl, rfl, rfl⟩, (fun _ hx => by cases hx), la7, lb7, by omega, b7⟩
      (fun x a' W => ∃ Bx, w.heap.size + 4 ≤ Bx ∧ Lies W Bx 73 (Ent.arr (E x)) ∧ a' = { tmps := #[.pointer (some ⟨g, 0, none⟩), undef, .pointer none, .pointer (some ⟨w.heap.size, 0, none⟩), .int .i64 (x.1 : Int), .pointer (some ⟨Bx, 0, none⟩), .pointer (some ⟨g, 0, none⟩), .bool false, .pointer (some ⟨g, 0, none⟩), .pointer (some ⟨g, 0, none⟩), .agg #[.slice (some ⟨B, 0, none⟩) K K, .slice hvA N C, .bool on, .int .i64 lf], .pointer (some ⟨g, 0, none⟩), .pointer (some ⟨g, 0, none⟩), .pointer (some ⟨g, 0, none⟩), .slice (some ⟨B, 0, none⟩) K K, .slice (some ⟨w.heap.size + 1, 0, none⟩) K K, .pointer (some ⟨w.heap.size, 0, none⟩), .pointer (some ⟨g, 0, none⟩), .pointer (some ⟨g, 0, none⟩), .pointer (some ⟨g, 1, none⟩), .slice hvA N C, .int .i64 (N : Int), .slice (some ⟨w.heap.size + 1 + 1, 0, none⟩) N N, .pointer (some ⟨w.heap.size, 1, none⟩), .pointer (some ⟨w.heap.size, 1, none⟩), .slice (some ⟨w.heap.size + 1 + 1, 0, none⟩) N N, .pointer (some ⟨g, 0, none⟩), .pointer (some ⟨g, 0, none⟩), .pointer (some ⟨g, 1, none⟩), .slice hvA N C, .int .i64 (N : Int), .pointer (some ⟨g, 0, none⟩), .func (.func 43) #[] #[.pointer (some ⟨X6.heap.size, 0, none⟩)], .int .i64 (x.1 : Int), .agg (Ent.arr (E x)), undef, undef, undef, undef, undef, undef, undef, undef, undef, undef, undef, undef, undef, undef, undef, undef, undef, undef], defers := [] })
      (fun x a' _ X Y row hs hg hr => by obtain ⟨Bx, h0, h1, h2⟩ := hs; exact ⟨Bx, h0, lies_own Bx 73 _ h1 hg (fun r e => (hr r e).2), h2⟩)
      ?assign ?body ?done ?stop
    case assign =>
      rintro l pre x W KK ⟨es, ht⟩ hKK
      have hzt := ht.size
      dsimp only [encF, Ent.arr]
      clear hz6 z7 hNN hE hcs hbc hA
      gi_wp2
      exact hKK _ _ ((KeepsOthers.alloc _ _).from _) (kb_below ((Below.refl _ W).alloc hzt _)) ⟨es, twg_below ht ((Below.refl _ W).alloc (Nat.le_refl _) _)⟩ ⟨W.heap.size, hzt, lies_new W 73 _, rfl⟩
    case body =>
      rintro l pre x a' W hl ⟨r, hr⟩ ⟨es, ht⟩ ⟨Bx, hBx, lx, rfl⟩ hlt
      have hxh := hlk x
      have hEx := hE x
      rw [hEx] at lx
      obtain ⟨r1, r2, r3, r4, r5, r6, r7⟩ := H.out.rows hs[x.1] (List.getElem_mem _)
      have s4 := src_row (lies_below r4 ht.old (lies_lt r4))
      have s5 := src_row (lies_below r5 ht.old (lies_lt r5))
      have hla := lies_lt r4
      have hlc := lies_lt r5
      have hos := ht.old.size
      have hsz := ht.size
      have h1m : 1 ≤ n' - 1 - 1 := by omega
      have cx1 : W.cell? ⟨Bx, 1, none⟩ = some (.slice (some ⟨hs[x.1].a, 0, none⟩) 512 512) := lies_cell lx 1
      have cx2 : W.cell? ⟨Bx, 2, none⟩ = some (.slice (some ⟨hs[x.1].c, 0, none⟩) 512 512) := lies_cell lx 2
      have cg1 : W.cell? ⟨w.heap.size, 1, none⟩ = some (.slice (some ⟨w.heap.size + 1 + 1, 0, none⟩) N N) := lies_cell ht.self 1
      have hlenE : x.1 < es.length := by have := ht.len; have := x.2; omega
      obtain ⟨W1, hW1⟩ : ∃ W1, W1 = W.drew.alloc (.cells (yRow hs[x.1].da 512) 5) := ⟨_, rfl⟩
      obtain ⟨W2, hW2⟩ : ∃ W2, W2 = W1.alloc (.cells (yRow hs[x.1].dc 512) 5) := ⟨_, rfl⟩
      obtain ⟨W3, hW3⟩ : ∃ W3, W3 = W2.setCell ⟨w.heap.size + 2, x.1 * 3 + 1, none⟩ (.slice (some ⟨W.heap.size, 0, none⟩) 512 512) := ⟨_, rfl⟩
      obtain ⟨W4, hW4⟩ : ∃ W4, W4 = W3.setCell ⟨w.heap.size + 2, x.1 * 3 + 2, none⟩ (.slice (some ⟨W.heap.size + 1, 0, none⟩) 512 512) := ⟨_, rfl⟩
      have T1 := CallsIn.inRound l (T32 ⟨hs[x.1].a, 0, none⟩ 512 512 hs[x.1].da W.drew (by omega) (fun j hj => s4 j hj) (by show hs[x.1].a < W.heap.size; omega) (n' - 1 - 1 - 1))
      have bw1 : Below W.heap.size W W1 := by rw [hW1]; exact (Below.drew (Below.refl _ _)).alloc (Nat.le_refl _) _
      have z1 : W1.heap.size = W.heap.size + 1 := by rw [hW1]; simp
      have T2 := CallsIn.inRound l (T32 ⟨hs[x.1].c, 0, none⟩ 512 512 hs[x.1].dc W1 (by omega) (fun j hj => by rw [bw1.cell (by rw [add_block]; show hs[x.1].c < W.heap.size; omega)]; exact s5 j hj) (by show hs[x.1].c < W1.heap.size; omega) (n' - 1 - 1 - 1))
      rw [z1, ← hW2] at T2
      have bw2 : Below W.heap.size W W2 := by rw [hW2]; exact bw1.alloc (by omega) _
      have z2 : W2.heap.size = W.heap.size + 2 := by rw [hW2]; simp [z1]
      have hrow2 := lies_below ht.row bw2 (lies_lt ht.row)
      have k1 : W2.cell? ⟨w.heap.size + 2, x.1 * 3 + 1, none⟩ = some (.slice (some ⟨es[x.1].a, 0, none⟩) 512 512) := by rw [lies_cell hrow2, flat_get es x.1 1 hlenE (by decide)]; rfl
      have k2 : W3.cell? ⟨w.heap.size + 2, x.1 * 3 + 2, none⟩ = some (.slice (some ⟨es[x.1].c, 0, none⟩) 512 512) := by
        rw [hW3, World.cell?_setCell_other _ _ _ _ (by intro e; injection e with _ e _; omega), lies_cell hrow2, flat_get es x.1 2 hlenE (by decide)]; rfl
      have q1 := lies_free hrow2 (x.1 * 3 + 1)
      have q2 : W3.frozen? ⟨w.heap.size + 2, x.1 * 3 + 2, none⟩ = false := by rw [hW3]; exact lies_free (lies_set hrow2 _ _) _
      have STEP := Lib.hid (twg_step ht x hxh (Nat.le_refl _) W1 W2 W3 W4 hW1 hW2 hW3 hW4)
      obtain ⟨Wf, hWf⟩ : ∃ Wf : Array Bool → World, Wf = fun listed => cond (listed.getD 19 false) W4 (cond (listed.getD 16 false) W3 (cond (listed.getD 12 false) W2 (cond (listed.getD 9 false) W1 W.drew))) := ⟨_, rfl⟩
      have hne : ∀ (listed : Array Bool) (i : Nat), i ≠ 9 → i ≠ 12 → i ≠ 16 → i ≠ 19 → Wf (listed.setIfInBounds i true) = Wf listed := fun listed i h9 h12 h16 h19 => by
        rw [hWf]
        show cond ((listed.setIfInBounds i true).getD 19 false) _ (cond ((listed.setIfInBounds i true).getD 16 false) _ (cond ((listed.setIfInBounds i true).getD 12 false) _ (cond ((listed.setIfInBounds i true).getD 9 false) _ _))) = _
        rw [getD_set_ne false h9, getD_set_ne false h12, getD_set_ne false h16, getD_set_ne false h19]
      have hall4 : ∀ (p : Addr), p.block < W.heap.size → p.block ≠ w.heap.size + 2 → W1.cell? p = W.cell? p ∧ W2.cell? p = W.cell? p ∧ W3.cell? p = W.cell? p ∧ W4.cell? p = W.cell? p := fun p hp hne => by
        have e3 : W3.cell? p = W2.cell? p := by rw [hW3]; exact World.cell?_setCell_other _ _ _ _ (fun e => hne (by rw [← e]))
        have e4 : W4.cell? p = W3.cell? p := by rw [hW4]; exact World.cell?_setCell_other _ _ _ _ (fun e => hne (by rw [← e]))
        have e1 := bw1.cell hp
        have e2 := bw2.cell hp
        exact ⟨e1, e2, e3.trans e2, e4.trans (e3.trans e2)⟩
      have hcell : ∀ (listed : Array Bool) (b o : Nat), b < W.heap.size → b ≠ w.heap.size + 2 → (Wf listed).cell? ⟨b, o, none⟩ = W.cell? ⟨b, o, none⟩ := fun listed b o hb1 hb2 => by
        obtain ⟨e1, e2, e3, e4⟩ := hall4 ⟨b, o, none⟩ hb1 hb2
        rw [hWf]
        show (cond (listed.getD 19 false) _ (cond (listed.getD 16 false) _ (cond (listed.getD 12 false) _ (cond (listed.getD 9 false) _ _))) : World).cell? _ = _
        cases listed.getD 19 false <;> cases listed.getD 16 false <;> cases listed.getD 12 false <;> cases listed.getD 9 false <;> first | exact e4 | exact e3 | exact e2 | exact e1 | rfl
      have hBxl := lies_lt lx
      have z7' : w.heap.size + 4 ≤ W7.heap.size := by omega
      have W1E := Lib.hid hW1
      have W3E := Lib.hid hW3
      have W4E := Lib.hid hW4
      clear hW1 hW2 hW3 hW4 hz6 z7 hNN hE hcs hbc hA hEx
      gi_wp2
      refine wpIn_region_any (by kernel_rfl) ?_
      have hstart : Wf (Array.replicate 20 false) = W.drew := by rw [hWf]; rfl
      change wpAnyIn _ _ _ _ _ _ _ _ _ (World.drew W)
      rw [← hstart]
      refine every_in (own := ownAll _) (vals := fun i => match i with | 0 => .pointer (some ⟨w.heap.size, 1, none⟩) | 1 => .slice (some ⟨w.heap.size + 1 + 1, 0, none⟩) N N | 2 => .int .i64 (x.1 : Int) | 3 => .pointer (some ⟨w.heap.size, 1, none⟩) | 4 => .slice (some ⟨w.heap.size + 1 + 1, 0, none⟩) N N | 5 => .int .i64 (x.1 : Int) | 6 => .pointer (some ⟨Bx, 0, none⟩) | 7 => .pointer (some ⟨Bx, 1, none⟩) | 8 => .slice (some ⟨hs[x.1].a, 0, none⟩) 512 512 | 9 => .slice (some ⟨W.heap.size, 0, none⟩) 512 512 | 10 => .pointer (some ⟨Bx, 2, none⟩) | 11 => .slice (some ⟨hs[x.1].c, 0, none⟩) 512 512 | 12 => .slice (some ⟨W.heap.size + 1, 0, none⟩) 512 512 | 13 => .pointer (some ⟨w.heap.size + 1 + 1, x.1 * 3, none⟩) | 14 => .pointer (some ⟨w.heap.size + 1 + 1, x.1 * 3, none⟩) | 15 => .pointer (some ⟨w.heap.size + 1 + 1, x.1 * 3 + 1, none⟩) | 17 => .pointer (some ⟨w.heap.size + 1 + 1, x.1 * 3, none⟩) | 18 => .pointer (some ⟨w.heap.size + 1 + 1, x.1 * 3 + 2, none⟩) | _ => undef) id Wf (acAll_of (by kernel_rfl)) (onAll_of (by kernel_rfl)) (dstAll_of (by kernel_rfl)) ?hop ?hend _ _ _ rfl (shut_none _) (of_decide_eq_true (by kernel_rfl)) (tabd_start (fun i => rep_false _ i))
      case hop =>
        intro i oi a listed hoi hun hsz2 hcl hdeps ht2
        have hi20 : i < 20 := (Array.getElem?_eq_some_iff.1 hoi).1
        have n12 : listed.getD 9 false = false → listed.getD 12 false = false := fun h9 => by
          cases h : listed.getD 12 false with
          | false => rfl
          | true => have := hcl 12 _ rfl h ⟨9, .chain⟩ (by simp) rfl; rw [h9] at this; cases this
        have n16 : listed.getD 12 false = false → listed.getD 16 false = false := fun h9 => by
          cases h : listed.getD 16 false with
          | false => rfl
          | true => have := hcl 16 _ rfl h ⟨12, .chain⟩ (by simp) rfl; rw [h9] at this; cases this
        have n19 : listed.getD 16 false = false → listed.getD 19 false = false := fun h9 => by
          cases h : listed.getD 19 false with
          | false => rfl
          | true => have := hcl 19 _ rfl h ⟨16, .chain⟩ (by simp) rfl; rw [h9] at this; cases this
        have c20 : i = 0 ∨ i = 1 ∨ i = 2 ∨ i = 3 ∨ i = 4 ∨ i = 5 ∨ i = 6 ∨ i = 7 ∨ i = 8 ∨ i = 9 ∨ i = 10 ∨ i = 11 ∨ i = 12 ∨ i = 13 ∨ i = 14 ∨ i = 15 ∨ i = 16 ∨ i = 17 ∨ i = 18 ∨ i = 19 := by omega
        obtain rfl | rfl | rfl | rfl | rfl | rfl | rfl | rfl | rfl | rfl | rfl | rfl | rfl | rfl | rfl | rfl | rfl | rfl | rfl | rfl := c20
        all_goals obtain rfl := Option.some.inj hoi
        · exact ⟨rfl, fun K hk => wpIn_valueW (fun c h => by cases h) rfl (field651 (.tmp 3) rfl ((tabd_old ht2 (t := 3) (of_decide_eq_true (by kernel_rfl)) (by kernel_rfl)).trans rfl)) (hne _ _ (by decide) (by decide) (by decide) (by decide)) hk⟩
        · have d1 := hdeps ⟨0, .data⟩ (by simp) rfl
          exact ⟨rfl, fun K hk => wpIn_valueW (fun c h => by cases h) rfl (load63 (.tmp 35) rfl (tabd_at ht2 (of_decide_eq_true (by kernel_rfl)) (by kernel_rfl) d1) ((hcell _ _ _ (by omega) (by omega)).trans cg1)) (hne _ _ (by decide) (by decide) (by decide) (by decide)) hk⟩
        · exact ⟨rfl, fun K hk => wpIn_valueW (fun c h => by cases h) rfl (move_op (.tmp 4) rfl ((tabd_old ht2 (t := 4) (of_decide_eq_true (by kernel_rfl)) (by kernel_rfl)).trans rfl)) (hne _ _ (by decide) (by decide) (by decide) (by decide)) hk⟩
        · exact ⟨rfl, fun K hk => wpIn_valueW (fun c h => by cases h) rfl (field651 (.tmp 3) rfl ((tabd_old ht2 (t := 3) (of_decide_eq_true (by kernel_rfl)) (by kernel_rfl)).trans rfl)) (hne _ _ (by decide) (by decide) (by decide) (by decide)) hk⟩
        · have d1 := hdeps ⟨3, .data⟩ (by simp) rfl
          exact ⟨rfl, fun K hk => wpIn_valueW (fun c h => by cases h) rfl (load63 (.tmp 38) rfl (tabd_at ht2 (of_decide_eq_true (by kernel_rfl)) (by kernel_rfl) d1) ((hcell _ _ _ (by omega) (by omega)).trans cg1)) (hne _ _ (by decide) (by decide) (by decide) (by decide)) hk⟩
        · exact ⟨rfl, fun K hk => wpIn_valueW (fun c h => by cases h) rfl (move_op (.tmp 4) rfl ((tabd_old ht2 (t := 4) (of_decide_eq_true (by kernel_rfl)) (by kernel_rfl)).trans rfl)) (hne _ _ (by decide) (by decide) (by decide) (by decide)) hk⟩
        · exact ⟨rfl, fun K hk => wpIn_valueW (fun c h => by cases h) rfl (field730o (.tmp 5) rfl ((tabd_old ht2 (t := 5) (of_decide_eq_true (by kernel_rfl)) (by kernel_rfl)).trans rfl)) (hne _ _ (by decide) (by decide) (by decide) (by decide)) hk⟩
        · have d1 := hdeps ⟨6, .data⟩ (by simp) rfl
          exact ⟨rfl, fun K hk => wpIn_valueW (fun c h => by cases h) rfl (field711 (.tmp 41) rfl (tabd_at ht2 (of_decide_eq_true (by kernel_rfl)) (by kernel_rfl) d1)) (hne _ _ (by decide) (by decide) (by decide) (by decide)) hk⟩
        · have d1 := hdeps ⟨7, .data⟩ (by simp) rfl
          exact ⟨rfl, fun K hk => wpIn_valueW (fun c h => by cases h) rfl (load44 (.tmp 42) rfl (tabd_at ht2 (of_decide_eq_true (by kernel_rfl)) (by kernel_rfl) d1) ((hcell _ _ _ hBxl (by omega)).trans cx1)) (hne _ _ (by decide) (by decide) (by decide) (by decide)) hk⟩
        · have d1 := hdeps ⟨8, .data⟩ (by simp) rfl
          have v1 := tabd_at ht2 (t := 43) (of_decide_eq_true (by kernel_rfl)) (by kernel_rfl) d1
          have eW : Wf listed = W.drew := by rw [hWf]; show cond (listed.getD 19 false) _ (cond (listed.getD 16 false) _ (cond (listed.getD 12 false) _ (cond (listed.getD 9 false) _ _))) = _; rw [n19 (n16 (n12 hun)), n16 (n12 hun), n12 hun, hun]; rfl
          have eW2 : Wf (listed.setIfInBounds 9 true) = W1 := by rw [hWf]; show cond ((listed.setIfInBounds 9 true).getD 19 false) _ (cond ((listed.setIfInBounds 9 true).getD 16 false) _ (cond ((listed.setIfInBounds 9 true).getD 12 false) _ (cond ((listed.setIfInBounds 9 true).getD 9 false) _ _))) = _; rw [getD_set_ne false (by decide), getD_set_ne false (by decide), getD_set_ne false (by decide), n19 (n16 (n12 hun)), n16 (n12 hun), n12 hun, getD_here (by rw [hsz2]; exact hi20)]; rfl
          refine ⟨rfl, fun K hk => ?_⟩
          rw [eW2] at hk
          rw [eW]
          exact wpIn_callW (fun c h => by cases h) (fun f hf => by rw [about32 (.tmp 43) rfl rfl] at hf; injection hf with hf; subst hf; exact h32) (call32 (.tmp 43) rfl rfl v1) h1m (T1.mono (fun e w2 q => ⟨q.1, q.2.trans W1E.out.symm⟩)) hk
        · exact ⟨rfl, fun K hk => wpIn_valueW (fun c h => by cases h) rfl (field731 (.tmp 5) rfl ((tabd_old ht2 (t := 5) (of_decide_eq_true (by kernel_rfl)) (by kernel_rfl)).trans rfl)) (hne _ _ (by decide) (by decide) (by decide) (by decide)) hk⟩
        · have d1 := hdeps ⟨10, .data⟩ (by simp) rfl
          exact ⟨rfl, fun K hk => wpIn_valueW (fun c h => by cases h) rfl (load44 (.tmp 45) rfl (tabd_at ht2 (of_decide_eq_true (by kernel_rfl)) (by kernel_rfl) d1) ((hcell _ _ _ hBxl (by omega)).trans cx2)) (hne _ _ (by decide) (by decide) (by decide) (by decide)) hk⟩
        · have d1 := hdeps ⟨11, .data⟩ (by simp) rfl
          have d9 := hdeps ⟨9, .chain⟩ (by simp) rfl
          have v1 := tabd_at ht2 (t := 46) (of_decide_eq_true (by kernel_rfl)) (by kernel_rfl) d1
          have eW : Wf listed = W1 := by rw [hWf]; show cond (listed.getD 19 false) _ (cond (listed.getD 16 false) _ (cond (listed.getD 12 false) _ (cond (listed.getD 9 false) _ _))) = _; rw [n19 (n16 hun), n16 hun, hun, d9]; rfl
          have eW2 : Wf (listed.setIfInBounds 12 true) = W2 := by rw [hWf]; show cond ((listed.setIfInBounds 12 true).getD 19 false) _ (cond ((listed.setIfInBounds 12 true).getD 16 false) _ (cond ((listed.setIfInBounds 12 true).getD 12 false) _ _)) = _; rw [getD_set_ne false (by decide), getD_set_ne false (by decide), n19 (n16 hun), n16 hun, getD_here (by rw [hsz2]; exact hi20)]; rfl
          refine ⟨rfl, fun K hk => ?_⟩
          rw [eW2] at hk
          rw [eW]
          exact wpIn_callW (fun c h => by cases h) (fun f hf => by rw [about32 (.tmp 46) rfl rfl] at hf; injection hf with hf; subst hf; exact h32) (call32 (.tmp 46) rfl rfl v1) h1m T2 hk
        · have d1 := hdeps ⟨1, .data⟩ (by simp) rfl
          have d2 := hdeps ⟨2, .data⟩ (by simp) rfl
          exact ⟨rfl, fun K hk => wpIn_valueW (fun c h => by cases h) rfl (index63 (.tmp 36) (.tmp 37) rfl (tabd_at ht2 (of_decide_eq_true (by kernel_rfl)) (by kernel_rfl) d1) (tabd_at ht2 (of_decide_eq_true (by kernel_rfl)) (by kernel_rfl) d2) x.2) (hne _ _ (by decide) (by decide) (by decide) (by decide)) hk⟩
        · have d1 := hdeps ⟨13, .data⟩ (by simp) rfl
          exact ⟨rfl, fun K hk => wpIn_valueW (fun c h => by cases h) rfl (field730o (.tmp 48) rfl (tabd_at ht2 (of_decide_eq_true (by kernel_rfl)) (by kernel_rfl) d1)) (hne _ _ (by decide) (by decide) (by decide) (by decide)) hk⟩
        · have d1 := hdeps ⟨14, .data⟩ (by simp) rfl
          exact ⟨rfl, fun K hk => wpIn_valueW (fun c h => by cases h) rfl (field711o (.tmp 49) rfl (tabd_at ht2 (of_decide_eq_true (by kernel_rfl)) (by kernel_rfl) d1)) (hne _ _ (by decide) (by decide) (by decide) (by decide)) hk⟩
        · have d1 := hdeps ⟨15, .data⟩ (by simp) rfl
          have d2 := hdeps ⟨9, .data⟩ (by simp) rfl
          have d12 := hdeps ⟨12, .chain⟩ (by simp) rfl
          have eW : Wf listed = W2 := by rw [hWf]; show cond (listed.getD 19 false) _ (cond (listed.getD 16 false) _ (cond (listed.getD 12 false) _ _)) = _; rw [n19 hun, hun, d12]; rfl
          have eW2 : Wf (listed.setIfInBounds 16 true) = W3 := by rw [hWf]; show cond ((listed.setIfInBounds 16 true).getD 19 false) _ (cond ((listed.setIfInBounds 16 true).getD 16 false) _ _) = _; rw [getD_set_ne false (by decide), n19 hun, getD_here (by rw [hsz2]; exact hi20)]; rfl
          refine ⟨rfl, fun K hk => ?_⟩
          rw [eW2] at hk
          rw [eW]
          exact wpIn_skip rfl (fun c h => by cases h) rfl ((store44 (.tmp 50) (.tmp 44) rfl (tabd_at ht2 (of_decide_eq_true (by kernel_rfl)) (by kernel_rfl) d1) (tabd_at ht2 (of_decide_eq_true (by kernel_rfl)) (by kernel_rfl) d2) k1 q1).trans (congrArg (Result.ok _) W3E.out.symm)) hk
        · have d1 := hdeps ⟨4, .data⟩ (by simp) rfl
          have d2 := hdeps ⟨5, .data⟩ (by simp) rfl
          exact ⟨rfl, fun K hk => wpIn_valueW (fun c h => by cases h) rfl (index63 (.tmp 39) (.tmp 40) rfl (tabd_at ht2 (of_decide_eq_true (by kernel_rfl)) (by kernel_rfl) d1) (tabd_at ht2 (of_decide_eq_true (by kernel_rfl)) (by kernel_rfl) d2) x.2) (hne _ _ (by decide) (by decide) (by decide) (by decide)) hk⟩
        · have d1 := hdeps ⟨17, .data⟩ (by simp) rfl
          exact ⟨rfl, fun K hk => wpIn_valueW (fun c h => by cases h) rfl (field731o (.tmp 51) rfl (tabd_at ht2 (of_decide_eq_true (by kernel_rfl)) (by kernel_rfl) d1)) (hne _ _ (by decide) (by decide) (by decide) (by decide)) hk⟩
        · have d1 := hdeps ⟨18, .data⟩ (by simp) rfl
          have d2 := hdeps ⟨12, .data⟩ (by simp) rfl
          have d16 := hdeps ⟨16, .chain⟩ (by simp) rfl
          have eW : Wf listed = W3 := by rw [hWf]; show cond (listed.getD 19 false) _ (cond (listed.getD 16 false) _ _) = _; rw [hun, d16]; rfl
          have eW2 : Wf (listed.setIfInBounds 19 true) = W4 := by rw [hWf]; show cond ((listed.setIfInBounds 19 true).getD 19 false) _ _ = _; rw [getD_here (by rw [hsz2]; exact hi20)]; rfl
          refine ⟨rfl, fun K hk => ?_⟩
          rw [eW2] at hk
          rw [eW]
          exact wpIn_skip rfl (fun c h => by cases h) rfl ((store44 (.tmp 52) (.tmp 47) rfl (tabd_at ht2 (of_decide_eq_true (by kernel_rfl)) (by kernel_rfl) d1) (tabd_at ht2 (of_decide_eq_true (by kernel_rfl)) (by kernel_rfl) d2) k2 q2).trans (congrArg (Result.ok _) W4E.out.symm)) hk
      case hend =>
        intro a listed hall ht2
        have eW : Wf listed = W4 := by rw [hWf]; show cond (listed.getD 19 false) _ _ = _; rw [hall 19 (of_decide_eq_true (by kernel_rfl))]; rfl
        rw [eW]
        obtain ⟨es', ht4, p1, p2, p3, p4, p5⟩ := STEP.out
        refine ⟨KeepsFrom.of_grownBy (row := some (w.heap.size + 2)) ⟨p1, p2, p3, p4, fun i hi hb => p5 i hi (fun e => hb (by rw [e]))⟩ (fun j e => by cases e; omega), ⟨p1, p2, p3, p4, fun i hi hb => p5 i (by omega) hb⟩, ⟨es', ht4⟩⟩
    case done =>
      rintro D ys W hD hys ⟨es, ht⟩ hK
      have hfin := Lib.hid (twg_end ht hys hNN H.out.size H.out.most HNm.out (fun e he => (H.out.rows e he).1))
      have HT := Lib.hid ht
      have HLK := Lib.hid ht.like
      have hDz : w.heap.size ≤ D := by omega
      clear ht hys hcs hbc hE hA hz6 z7 hNN
      gi_wp2
      refine ⟨by simp, .inl ⟨_, _, rfl, run_takeDeferred hK, ?_⟩⟩
      refine ⟨_, results_tmp rfl _ _ _, rfl, ⟨es, HT.out.len, HLK.out, dsk_own hfin.out (grownBy_putObj' W D _) (fun r e => by cases e; exact ⟨_, hK, rfl⟩)⟩, HT.out.old.trans (belowK_b (w := w) (Nat.le_refl _) W D _ _ hDz hK rfl rfl)⟩
    case stop =>
      rintro D c pre W _ _ h _
      exact h.elim

/-- Twin -/
theorem twin_k {g B base n K : Nat} {f : Nat → BitVec 8} {hv : Value} {hs : List Ent} {on : Bool} {lf : Int} (w : World) (hN : hs.length ≤ 70000) (h : Dsk w g B base n K f hv hs on lf) :
    Calls Try.prog 14 #[.pointer (some ⟨g, 0, none⟩)] w fun e w' => e = .returned (.pointer (some ⟨w.heap.size, 0, none⟩)) ∧ TwinIs w hs n hs.length K f on lf w' := by
  obtain ⟨A, C, e⟩ : ∃ A C, hv = .slice A hs.length C := by
    rcases h.held.2 with ⟨e, e0⟩ | ⟨gg, cap, cur, e, _⟩
    · exact ⟨none, 0, by rw [e, e0]⟩
    · exact ⟨_, _, e⟩
  subst e
  exact (callsIn_wide (n := 9)).1 (twin_in .wide 9 trivial trivial trivial trivial rfl (by decide) w rfl hN (fun ad k c f w h1 h2 h3 m => callsIn_wide.2 (twinx ad k c f w h1 h2 h3)) h)
end Go.Proofs.Ytibidljblkfciaa
