/-
What is proved here: the document's own Copy, by a contract: a tree of the call's own. a copied tree as nodes and files in memory; one cell of it written anew.
-/
import Derived.Test.YtiglakhfkgeefaaPar
import Derived.Test.YtiglakhfkgeefaaOpw
import Derived.Test.YtiglakhfkgeefaaTools2
import Derived.Deep.Onto
import Derived.Great.BuildSlice
import Derived.Laws.AppendOwnNone
import Derived.Laws.Rows
import Derived.Lib.AppendStr
import Derived.StillTailTactics
set_option linter.unusedSimpArgs false
namespace Go.Tre
open Go.Pth Go.Proofs.Ytiglakhfkgeefaa
/-- a number in two bytes -/
def wordB (n : Int) : Bt := [UInt8.ofNat (n % 256).toNat, UInt8.ofNat (n / 256).toNat]
def nodeB (x : Nd) : Bt := UInt8.ofNat x.path.length :: (x.path ++ (wordB (x.file + 1) ++ wordB x.mode))
def fileB (x : Fl) : Bt := wordB x.mode ++ (wordB x.data.length ++ x.data)
def nodesB (ns : List Nd) : Bt := wordB ns.length ++ ns.flatMap nodeB
def bytesT (ns : List Nd) (fs : List Fl) : Bt := nodesB ns ++ (wordB fs.length ++ fs.flatMap fileB)
theorem walk_mode : ∀ (r : List Nd) (D : Bt → Bool) (l : Bt) (k k' : Int), walkT D l k r = some k' → ∀ x ∈ r, 0 ≤ x.mode ∧ x.mode ≤ 511
  | [], _, _, _, _, _, _, hx => by cases hx
  | y :: r, D, l, k, k', h, x, hx => by
    unfold walkT at h
    split at h
    · cases h
    · rename_i D' l' k1 e
      rcases List.mem_cons.1 hx with rfl | hx
      · unfold nodeT at e
        split at e
        · cases e
        · split at e
          · cases e
          · split at e
            · rename_i h3
              exact of_decide_eq_true h3.2
            · split at e
              · rename_i h4
                have := (of_decide_eq_true h4.1).2
                omega
              · cases e
      · exact walk_mode r D' l' k1 k' h x hx
section
variable {ns : List Nd} {fs : List Fl} (h : looseE ns fs = 0)
include h
theorem loose_mode (x : Nd) (hx : x ∈ ns) : 0 ≤ x.mode ∧ x.mode ≤ 511 := walk_mode ns _ _ _ _ (loose_walk h) x hx
theorem loose_fmode (x : Fl) (hx : x ∈ fs) : 0 ≤ x.mode ∧ x.mode ≤ 511 := by
  have hl : looseB ns fs = true := by
    unfold looseE at h
    split at h
    · cases h
    · split at h
      · assumption
      · cases h
  unfold looseB at hl
  split at hl
  · cases hl
  · simp only [Bool.and_eq_true, decide_eq_true_eq] at hl
    have h2 := hl.2
    unfold anyWrong at h2
    simp only [Bool.not_eq_true', List.any_eq_false] at h2
    have := h2 x hx
    simp only [Bool.not_eq_true', Bool.not_eq_false] at this
    exact of_decide_eq_true this
theorem loose_plen (x : Nd) (hx : x ∈ ns) : x.path.length ≤ 100 := path_len _ (loose_node h x hx).1
end
end Go.Tre
namespace Go.Proofs.Ytiglakhfkgeefaa
open Go.Pth Go.Tre Go.RowKit Go.Word Go.Shelf
def yB (c : UInt8) : Value := .int .u8 (c.toNat : Int)
theorem byte_info : (Try.prog.info? 5).map (fun i => (i.zero, i.size, i.bytes)) = some (some (.int .u8 0), 1, 1) := by kernel_rfl
/-- a row of bytes of one's own -/
def OwnB (w : World) (B : Nat) (v : Value) (l : Bt) : Prop := w.ownsRow B 5 1 v l.length (l.map yB)
theorem ownB_below {w w1 : World} {B : Nat} {v : Value} {l : Bt} (h : OwnB w B v l) (hb : Below w.heap.size w w1) : OwnB w1 B v l :=
  World.ownsRow.kept h ⟨hb.os, hb.tape, hb.output, hb.size, fun i hi _ => hb.block i hi⟩ (row := none) (by cases v.ownBlock <;> simp)
theorem ownB_alloc {w : World} {B : Nat} {v : Value} {l : Bt} (h : OwnB w B v l) (o : Obj) : OwnB (w.alloc o) B v l := World.ownsRow.alloc h o
theorem ownB_nil (w : World) (B : Nat) : OwnB w B (.slice none 0 0) [] := World.ownsRow_nil _ _ _ _
/-- all but one's own row is as it was -/
def Keep5 (w w' : World) (v : Value) : Prop := ∀ i, i < w.heap.size → some i ≠ v.ownBlock → w'.heap[i]? = w.heap[i]?
theorem lies_keep {w w' : World} {g B : Nat} {T : TypeId} {cs : Array Value} {v : Value} {l : Bt} (hT : T ≠ 5) (h : Lies w g T cs) (ho : OwnB w B v l) (hk : Keep5 w w' v) : Lies w' g T cs :=
  (hk g (lies_lt h) (fun e => by
    rcases ho.2 with ⟨rfl, _⟩ | ⟨g', cap, cur, rfl, _, hgb, _⟩
    · simp [Value.ownBlock] at e
    · obtain rfl : g = g' := by simpa [Value.ownBlock] using e
      unfold Lies at h
      rw [h] at hgb
      injection hgb with hgb
      injection hgb with _ h2 _
      exact hT h2)).trans h
theorem keep5_alloc {w w1 : World} {v : Value} {tmp : Obj} (hg : (w.alloc tmp).grownBy w1 v.ownBlock) : Keep5 w w1 v := fun i hi hne => (hg.block i (by simp; omega) hne).trans (Below.heap_alloc w tmp i hi)
theorem keep5_grown {w w1 : World} {v : Value} (hg : w.grownBy w1 v.ownBlock) : Keep5 w w1 v := fun i hi hne => hg.block i hi hne
theorem append_belowB {B : Nat} {wr w1 : World} {v : Value} {l : Bt} {tmp : Obj} (hrow : OwnB wr B v l) (hB : B ≤ wr.heap.size) (hg : (wr.alloc tmp).grownBy w1 v.ownBlock) : Below B wr w1 :=
  ((Below.refl B wr).alloc hB tmp).grown hg (by simp; omega) (fun j ej => (World.ownsRow.lt hrow j ej).1)
theorem append_belowB0 {B : Nat} {wr w1 : World} {v : Value} {l : Bt} (hrow : OwnB wr B v l) (hB : B ≤ wr.heap.size) (hg : wr.grownBy w1 v.ownBlock) : Below B wr w1 :=
  (Below.refl B wr).grown hg hB (fun j ej => (World.ownsRow.lt hrow j ej).1)
theorem yB_of (z : Int) (h0 : 0 ≤ z) (h1 : z < 256) : yB (UInt8.ofNat z.toNat) = .int .u8 z := by
  unfold yB
  have : (UInt8.ofNat z.toNat).toNat = z.toNat := by simp; omega
  rw [this]
  congr 1
  omega
theorem wordB_cells (n : Int) (h0 : 0 ≤ n) (h1 : n < 65536) : (wordB n).map yB = [.int .u8 (n % 256), .int .u8 (n / 256)] := by
  unfold wordB
  rw [List.map_cons, List.map_cons, List.map_nil, yB_of _ (by omega) (by omega), yB_of _ (by omega) (by omega)]
end Go.Proofs.Ytiglakhfkgeefaa
set_option linter.unusedSimpArgs false
namespace Go.Proofs.Ytiglakhfkgeefaa
open Go.Pth Go.Tre Go.RowKit Go.Word Go.Shelf
theorem run_append_none_cap (w : World) (base : Nat) (t ty e : TypeId) (i : TypeInfo) (size : Nat) (ht : Try.prog.underlying t = some (.slice e)) (hi : Try.prog.info? e = some i)
    (v : Value) (n : Nat) (xs : List Value) (c : Nat) (hown : w.ownsRow base e size v n xs) :
    (Builtin.append_ #[t, t] ty #[v, .slice none 0 c]).run Try.prog w = .ok v w := by
  rcases hown.2 with ⟨rfl, rfl⟩ | ⟨g, cap, cur, rfl, _, _, hnc, _⟩
  · simp [Builtin.append_, run_underlying ht, sizeOf, typeInfo, hi, Builtin.lenOf, Builtin.firstCells]
  · simp [Builtin.append_, run_underlying ht, sizeOf, typeInfo, hi, Builtin.lenOf, Builtin.firstCells, hnc, storeCells]
set_option maxRecDepth 100000 in
theorem wpList_app_bytes {w : World} {ops : Array Oper} {rest : List Oper} {o : Oper} {a : Act} {Q : Exit → Act → World → Prop} (hgd : o.guard = none) (s x : Operand)
    (ho : o.op = .call { callee := .builtin .append, args := #[s, x], argTypes := #[47, 47] }) (B : Nat) (v : Value) (l : Bt) (hs : a.eval s = v) (hown : OwnB w B v l)
    (DA : Option Addr) (dc : Nat) (d : Bt) (hx : a.eval x = .slice DA d.length dc) (hd : BytesAt w DA d) (hb1 : l.length ≤ 100000000) (hb2 : d.length ≤ 100000000) (hbase : B ≤ w.heap.size)
    (h : ∀ v' w', OwnB w' B v' (l ++ d) → Below B w w' → Keep5 w w' v → wpList Try.prog ops Q rest (a.put o.dst v') w') : wpList Try.prog ops Q (o :: rest) a w := by
  obtain ⟨i0, hi, hz0, hz1, hz2⟩ := info_parts byte_info
  cases DA with
  | none =>
    have hd0 : d = [] := by
      cases d with
      | nil => rfl
      | cons c t =>
        obtain ⟨b, o, e, _⟩ := hd 0 (by simp)
        cases e
    subst hd0
    rw [List.append_nil] at h
    refine wpList_plain hgd fun K hK => ?_
    have hrun := run_append_none_cap w B 47 o.type 5 i0 1 Try.underlying47 hi v l.length (l.map yB) dc hown
    unfold Oper.wp
    simp only [List.length_nil] at hx
    simp [execOp, ho, resolve, invoke, builtin, hs, hx, hrun, Result.andThen]
    exact hK _ _ (h _ _ hown (Below.refl _ _) (fun _ _ _ => rfl))
  | some ad =>
    refine wpList_append_own _ hgd s x 47 ho B 5 i0 (.int .u8 0) 1 1 Try.underlying47 hi hz0 hz1 hz2 rfl (by decide) v l.length (l.map yB) hs hown ad d.length dc (d.map yB) hx (by simp) (fun j u hj => ?_) (fun u hu => ?_) (by unfold maxLen; omega) (by omega) hbase (fun v' w' h1 h2 _ => h v' w' ?_ ?_ (keep5_grown h2))
    · have hjl : j < d.length := by
        have := (List.getElem?_eq_some_iff.1 hj).1
        simpa using this
      obtain ⟨b, o, e, _, hc⟩ := hd j hjl
      injection e with e
      subst e
      rw [Addr.add_mid, hc]
      rw [List.getElem?_map, List.getElem?_eq_getElem hjl] at hj
      simpa [yB] using hj
    · obtain ⟨c, _, rfl⟩ := List.mem_map.1 hu
      rfl
    · unfold OwnB
      rw [List.length_append, List.map_append]
      exact h1
    · exact append_belowB0 hown hbase h2
theorem strCells_st (p : Bt) : Go.Lib.strCells ⟨p.toArray⟩ = p.map yB := by
  unfold Go.Lib.strCells
  simp [yB]
set_option maxRecDepth 100000 in
theorem wpList_app_text {w : World} {ops : Array Oper} {rest : List Oper} {o : Oper} {a : Act} {Q : Exit → Act → World → Prop} (hgd : o.guard = none) (s x : Operand)
    (ho : o.op = .call { callee := .builtin .append, args := #[s, x], argTypes := #[47, 9] }) (B : Nat) (v : Value) (l : Bt) (hs : a.eval s = v) (hown : OwnB w B v l)
    (p : Bt) (hx : a.eval x = St p) (hb1 : l.length ≤ 100000000) (hb2 : p.length ≤ 100000000) (hbase : B ≤ w.heap.size)
    (h : ∀ v' w', OwnB w' B v' (l ++ p) → Below B w w' → Keep5 w w' v → wpList Try.prog ops Q rest (a.put o.dst v') w') : wpList Try.prog ops Q (o :: rest) a w := by
  obtain ⟨i0, hi, hz0, hz1, hz2⟩ := info_parts byte_info
  refine Go.Lib.wpList_append_own_string _ hgd s x 47 9 ho B 5 i0 Try.underlying47 Try.underlying9 hi hz0 hz1 hz2 v l.length (l.map yB) hs hown ⟨p.toArray⟩ hx (by unfold maxLen; rw [size_st]; omega) (by rw [size_st]; omega) hbase (fun v' w' h1 h2 _ => h v' w' ?_ ?_ (keep5_grown h2))
  · rw [strCells_st, size_st] at h1
    unfold OwnB
    rw [List.length_append, List.map_append]
    exact h1
  · exact append_belowB0 hown hbase h2
end Go.Proofs.Ytiglakhfkgeefaa
set_option linter.unusedSimpArgs false
namespace Go.Tre
open Go.Pth
theorem flat_len {α : Type} (g : α → Bt) (k : Nat) : ∀ l : List α, (∀ x ∈ l, (g x).length ≤ k) → (l.flatMap g).length ≤ l.length * k
  | [], _ => by simp
  | x :: r, h => by
    have h1 := flat_len g k r (fun y hy => h y (by simp [hy]))
    have h2 := h x (by simp)
    rw [List.flatMap_cons, List.length_append, List.length_cons, Nat.succ_mul]
    omega
theorem flat_succ {α : Type} (g : α → Bt) (l : List α) (i : Nat) (h : i < l.length) : (l.take (i + 1)).flatMap g = (l.take i).flatMap g ++ g l[i] := by
  rw [List.take_succ_eq_append_getElem h, List.flatMap_append]
  simp
end Go.Tre
namespace Go.Proofs.Ytiglakhfkgeefaa
open Go.Pth Go.Tre Go.RowKit Go.Word Go.Shelf
theorem ownB_one {w : World} {B : Nat} {v : Value} {l : Bt} {c : Nat} (hc : c < 256) (h : w.ownsRow B 5 1 v (l.length + 1) (l.map yB ++ [.int .u8 (c : Int)])) : OwnB w B v (l ++ [UInt8.ofNat c]) := by
  have e := yB_of (c : Int) (by omega) (by omega)
  rw [Int.toNat_natCast] at e
  unfold OwnB
  rw [List.length_append, List.map_append, List.map_cons, List.map_nil, e]
  exact h
theorem ownB_one' {w : World} {B n : Nat} {v : Value} {l : Bt} {c : Nat} (hc : c < 256) (hn : n = l.length) (h : w.ownsRow B 5 1 v (n + 1) (l.map yB ++ [.int .u8 (c : Int)])) : OwnB w B v (l ++ [UInt8.ofNat c]) := by
  subst hn
  exact ownB_one hc h
theorem ownB_slice {w : World} {B : Nat} {v : Value} {l : Bt} (h : OwnB w B v l) : ∃ A C, v = .slice A l.length C := by
  rcases h.2 with ⟨e1, e2⟩ | ⟨g, cap, cur, e1, _⟩
  · exact ⟨none, 0, by rw [e2]; exact e1⟩
  · exact ⟨_, _, e1⟩
end Go.Proofs.Ytiglakhfkgeefaa
set_option linter.unusedSimpArgs false
namespace Go.Proofs.Ytiglakhfkgeefaa
open Go.Pth Go.Tre Go.RowKit Go.Word Go.Shelf
def ncells (ns : List Nd) : List Value := ns.flatMap fun x => [St x.path, .int .i64 x.file, .int .i64 x.mode]
def fcells (D : Nat → Value) (fs : List Fl) : List Value := (List.range fs.length).flatMap fun i => [.int .i64 (fs.getD i ⟨0, []⟩).mode, D i]
theorem fcells_snoc (D D' : Nat → Value) (fs : List Fl) (x : Fl) (h : ∀ i, i < fs.length → D' i = D i) : fcells D' (fs ++ [x]) = fcells D fs ++ [.int .i64 x.mode, D' fs.length] := by
  unfold fcells
  rw [List.length_append, List.length_singleton, List.range_succ, List.flatMap_append]
  congr 1
  · rw [List.flatMap_def, List.flatMap_def]
    congr 1
    refine List.map_congr_left (fun i hi => ?_)
    have hi : i < fs.length := by simpa using hi
    rw [h i hi, List.getD_eq_getElem?_getD, List.getD_eq_getElem?_getD, List.getElem?_append_left hi]
  · simp [List.getD_eq_getElem?_getD]
/-- a tree's copy: nodes, files and each file's bytes in blocks of their own, from B on -/
structure CopyAt (w : World) (B : Nat) (vN vF : Value) (D : Nat → Value) (ns : List Nd) (fs : List Fl) : Prop where
  nodes : w.ownsRow B 60 3 vN ns.length (ncells ns)
  files : w.ownsRow B 52 2 vF fs.length (fcells D fs)
  data : ∀ i, i < fs.length → OwnB w B (D i) (fs.getD i ⟨0, []⟩).data
  apart : ∀ i k, i < k → k < fs.length → ∀ b, (D i).ownBlock = some b → (D k).ownBlock ≠ some b
theorem own_heap {w : World} {B e size : Nat} {v : Value} {n : Nat} {xs : List Value} (h : w.ownsRow B e size v n xs) (b : Nat) (hb : v.ownBlock = some b) : B ≤ b ∧ ∃ cs, w.heap[b]? = some (.cells cs e (0, 0)) := by
  rcases h.2 with ⟨rfl, _⟩ | ⟨g, cap, cur, rfl, hbg, hg, _⟩
  · simp [Value.ownBlock] at hb
  · obtain rfl : g = b := by simpa [Value.ownBlock] using hb
    exact ⟨hbg, cur, hg⟩
theorem own_other {w : World} {B e size : Nat} {v : Value} {n : Nat} {xs : List Value} (h : w.ownsRow B e size v n xs) {row : Option Nat} (hr : ∀ r, row = some r → ∃ cs t, w.heap[r]? = some (.cells cs t (0, 0)) ∧ t ≠ e) : v.ownBlock = none ∨ v.ownBlock ≠ row := by
  cases hv : v.ownBlock with
  | none => exact .inl rfl
  | some b =>
    refine .inr (fun e1 => ?_)
    obtain ⟨cs, t, h1, h2⟩ := hr b e1.symm
    obtain ⟨_, cs', h3⟩ := own_heap h b hv
    rw [h1] at h3
    injection h3 with h3
    injection h3 with _ h4 _
    exact h2 h4
theorem copy_kept {w w' : World} {B : Nat} {vN vF : Value} {D : Nat → Value} {ns : List Nd} {fs : List Fl} (h : CopyAt w B vN vF D ns fs) {row : Option Nat} (hg : w.grownBy w' row)
    (hr : ∀ r, row = some r → ∃ cs t, w.heap[r]? = some (.cells cs t (0, 0)) ∧ t ≠ 60 ∧ t ≠ 52 ∧ t ≠ 5) : CopyAt w' B vN vF D ns fs where
  nodes := h.nodes.kept hg (own_other h.nodes (fun r e => by obtain ⟨cs, t, h1, h2, _⟩ := hr r e; exact ⟨cs, t, h1, h2⟩))
  files := h.files.kept hg (own_other h.files (fun r e => by obtain ⟨cs, t, h1, _, h2, _⟩ := hr r e; exact ⟨cs, t, h1, h2⟩))
  data := fun i hi => World.ownsRow.kept (h.data i hi) hg (own_other (h.data i hi) (fun r e => by obtain ⟨cs, t, h1, _, _, h2⟩ := hr r e; exact ⟨cs, t, h1, h2⟩))
  apart := h.apart
theorem copy_step {w w1 w2 w3 : World} {B : Nat} {vN vF vF' vD : Value} {D : Nat → Value} {ns : List Nd} {fs : List Fl} {m : Int} {d : Bt} (h : CopyAt w B vN vF D ns fs)
    (hBw : B ≤ w.heap.size) (h1 : OwnB w1 w.heap.size vD d) (g1 : w.grownBy w1 none) (hw2 : w2 = w1.alloc (.cells #[.int .i64 m, vD] 52))
    (h3 : w3.ownsRow B 52 2 vF' (fs.length + 1) (fcells D fs ++ [.int .i64 m, vD])) (g3 : w2.grownBy w3 vF.ownBlock) :
    CopyAt w3 B vN vF' (fun i => if i = fs.length then vD else D i) ns (fs ++ [⟨m, d⟩]) := by
  have c1 := copy_kept h g1 (fun r e => by cases e)
  have g2 : w1.grownBy w2 none := by rw [hw2]; exact World.grownBy_alloc w1 _ none
  have c2 := copy_kept c1 g2 (fun r e => by cases e)
  have hb : ∀ r, vF.ownBlock = some r → ∃ cs, w2.heap[r]? = some (.cells cs 52 (0, 0)) := fun r e => (own_heap c2.files r e).2
  have d2 : OwnB w2 w.heap.size vD d := h1.kept g2 (by cases vD.ownBlock <;> simp)
  have hD : ∀ i, i < fs.length → (if i = fs.length then vD else D i) = D i := fun i hi => by rw [if_neg (by omega)]
  refine ⟨c2.nodes.kept g3 (own_other c2.nodes (fun r e => by obtain ⟨cs, h1⟩ := hb r e; exact ⟨cs, 52, h1, by decide⟩)), ?_, fun i hi => ?_, fun i k hik hk b hb1 hb2 => ?_⟩
  · rw [List.length_append, List.length_singleton, fcells_snoc D _ fs ⟨m, d⟩ hD]
    simpa using h3
  · rw [List.length_append, List.length_singleton] at hi
    by_cases e : i = fs.length
    · subst e
      have e2 : ((fs ++ [(⟨m, d⟩ : Fl)]).getD fs.length ⟨0, []⟩).data = d := by simp [List.getD_eq_getElem?_getD]
      rw [if_pos rfl, e2]
      have d2' : w2.ownsRow w.heap.size 5 1 vD d.length (d.map yB) := d2
      have d3 := World.ownsRow.kept d2' g3 (own_other d2' (fun r e => by obtain ⟨cs, h1⟩ := hb r e; exact ⟨cs, 52, h1, by decide⟩))
      exact World.ownsRow.mono d3 hBw
    · have hi' : i < fs.length := by omega
      have e2 : ((fs ++ [(⟨m, d⟩ : Fl)]).getD i ⟨0, []⟩).data = (fs.getD i ⟨0, []⟩).data := by
        rw [List.getD_eq_getElem?_getD, List.getD_eq_getElem?_getD, List.getElem?_append_left hi']
      rw [if_neg e, e2]
      have d2' : w2.ownsRow B 5 1 (D i) (fs.getD i ⟨0, []⟩).data.length ((fs.getD i ⟨0, []⟩).data.map yB) := c2.data i hi'
      exact World.ownsRow.kept d2' g3 (own_other d2' (fun r e => by obtain ⟨cs, h1⟩ := hb r e; exact ⟨cs, 52, h1, by decide⟩))
  · rw [List.length_append, List.length_singleton] at hk
    by_cases e : k = fs.length
    · subst e
      rw [if_pos rfl] at hb2
      rw [if_neg (by omega)] at hb1
      have h5 := (own_heap h1 b hb2).1
      obtain ⟨cs, h6⟩ := (own_heap (h.data i (by omega)) b hb1).2
      have := (Array.getElem?_eq_some_iff.1 h6).1
      omega
    · rw [if_neg e] at hb2
      rw [if_neg (by omega)] at hb1
      exact h.apart i k hik (by omega) b hb1 hb2
set_option maxRecDepth 100000 in
theorem run_app_fresh (w : World) (ty : TypeId) (DA : Option Addr) (dc : Nat) (d : Bt) (hd : BytesAt w DA d) (hb : d.length ≤ 100000000) :
    ∃ v' w', (Builtin.append_ #[47, 47] ty #[.slice none 0 0, .slice DA d.length dc]).run Try.prog w = .ok v' w' ∧ OwnB w' w.heap.size v' d ∧ w.grownBy w' none := by
  obtain ⟨i0, hi, hz0, hz1, hz2⟩ := info_parts byte_info
  have hnil : w.ownsRow w.heap.size 5 1 (.slice none 0 0) 0 [] := World.ownsRow_nil _ _ _ _
  cases DA with
  | none =>
    have hd0 : d = [] := by
      cases d with
      | nil => rfl
      | cons c t =>
        obtain ⟨b, o, e, _⟩ := hd 0 (by simp)
        cases e
    subst hd0
    exact ⟨_, w, run_append_none_cap w w.heap.size 47 ty 5 i0 1 Try.underlying47 hi (.slice none 0 0) 0 [] dc hnil, hnil, ⟨rfl, rfl, rfl, Nat.le_refl _, fun _ _ _ => rfl⟩⟩
  | some ad =>
    obtain ⟨v', w', h1, h2, h3, _⟩ := run_append_own (P := Try.prog) w w.heap.size 47 ty 5 i0 (.int .u8 0) 1 1 Try.underlying47 hi hz0 hz1 hz2 rfl (by decide) (.slice none 0 0) 0 [] hnil ad d.length dc (d.map yB) (by simp) (fun j u hj => by
      have hjl : j < d.length := by
        have := (List.getElem?_eq_some_iff.1 hj).1
        simpa using this
      obtain ⟨b, o, e, _, hc⟩ := hd j hjl
      injection e with e
      subst e
      rw [Addr.add_mid, hc]
      rw [List.getElem?_map, List.getElem?_eq_getElem hjl] at hj
      simpa [yB] using hj) (fun u hu => by obtain ⟨c, _, rfl⟩ := List.mem_map.1 hu; rfl) (by unfold maxLen; omega) (by omega) (Nat.le_refl _)
    refine ⟨v', w', h1, ?_, h3⟩
    unfold OwnB
    simpa using h2
end Go.Proofs.Ytiglakhfkgeefaa
set_option linter.unusedSimpArgs false
namespace Go.Word
section
variable {P : Program} {Q : Exit → Act → World → Prop} {a : Act} {w w' : World} {K : Act → World → Prop} {oi : Oper}
end
end Go.Word
namespace Go.Proofs.Ytiglakhfkgeefaa
open Go.Pth Go.Tre Go.RowKit Go.Word Go.Shelf
theorem own_slice {w : World} {B e size : Nat} {v : Value} {n : Nat} {xs : List Value} (h : w.ownsRow B e size v n xs) : ∃ A C, v = .slice A n C := by
  rcases h.2 with ⟨e1, e2⟩ | ⟨g, cap, cur, e1, _⟩
  · exact ⟨none, 0, by rw [e2]; exact e1⟩
  · exact ⟨_, _, e1⟩
theorem ncells_len (ns : List Nd) : (ncells ns).length = ns.length * 3 := by
  unfold ncells
  induction ns with
  | nil => rfl
  | cons x r ih => rw [List.flatMap_cons, List.length_append, ih]; simp; omega
theorem ncells_one (ns : List Nd) : ∀ u ∈ ncells ns, u.oneCell' = true := fun u hu => by
  obtain ⟨x, _, hx⟩ := List.mem_flatMap.1 hu
  simp at hx
  rcases hx with rfl | rfl | rfl <;> rfl
theorem ncells_at : ∀ (ns : List Nd) (i : Nat) (h : i < ns.length), (ncells ns)[i * 3]? = some (St ns[i].path) ∧ (ncells ns)[i * 3 + 1]? = some (.int .i64 ns[i].file) ∧ (ncells ns)[i * 3 + 2]? = some (.int .i64 ns[i].mode)
  | x :: r, 0, _ => ⟨rfl, rfl, rfl⟩
  | x :: r, i + 1, h => by
    have := ncells_at r i (by simpa using h)
    unfold ncells at this ⊢
    rw [List.flatMap_cons]
    refine ⟨?_, ?_, ?_⟩
    · rw [List.getElem?_append_right (by simp; omega)]
      have e : (i + 1) * 3 - [St x.path, Value.int .i64 x.file, Value.int .i64 x.mode].length = i * 3 := by simp; omega
      rw [e]; exact this.1
    · rw [List.getElem?_append_right (by simp; omega)]
      have e : (i + 1) * 3 + 1 - [St x.path, Value.int .i64 x.file, Value.int .i64 x.mode].length = i * 3 + 1 := by simp; omega
      rw [e]; exact this.2.1
    · rw [List.getElem?_append_right (by simp; omega)]
      have e : (i + 1) * 3 + 2 - [St x.path, Value.int .i64 x.file, Value.int .i64 x.mode].length = i * 3 + 2 := by simp; omega
      rw [e]; exact this.2.2
theorem ncells_src {w : World} {NA : Addr} {ns : List Nd} (h : NodesAt w (some NA) ns) : ∀ j u, (ncells ns)[j]? = some u → w.cell? (NA.add j) = some u := fun j u hj => by
  have hl : j < (ncells ns).length := (List.getElem?_eq_some_iff.1 hj).1
  rw [ncells_len] at hl
  have hi : j / 3 < ns.length := by omega
  obtain ⟨b, o, e, _, d1, d2, d3⟩ := h (j / 3) hi
  injection e with e
  subst e
  obtain ⟨k1, k2, k3⟩ := ncells_at ns (j / 3) hi
  rw [Addr.add_mid]
  have h3 : j % 3 = 0 ∨ j % 3 = 1 ∨ j % 3 = 2 := by omega
  rcases h3 with h3 | h3 | h3
  · have ej : j = j / 3 * 3 := by omega
    rw [ej] at hj
    rw [k1] at hj
    rw [← hj, show o + j = o + j / 3 * 3 by omega]
    exact d1
  · have ej : j = j / 3 * 3 + 1 := by omega
    rw [ej] at hj
    rw [k2] at hj
    rw [← hj, show o + j = o + j / 3 * 3 + 1 by omega]
    exact d2
  · have ej : j = j / 3 * 3 + 2 := by omega
    rw [ej] at hj
    rw [k3] at hj
    rw [← hj, show o + j = o + j / 3 * 3 + 2 by omega]
    exact d3
theorem node_info3 : (Try.prog.info? 60).map (fun i => (i.zero, i.size, i.bytes)) = some (some (.agg #[.string ⟨#[]⟩, .int .i64 0, .int .i64 0]), 3, 32) := by kernel_rfl
theorem file_info2 : (Try.prog.info? 52).map (fun i => (i.zero, i.size, i.bytes)) = some (some (.agg #[.int .i64 0, .slice none 0 0]), 2, 32) := by kernel_rfl
theorem run_app_nodes (w : World) (ty : TypeId) (NA : Option Addr) (nc : Nat) (ns : List Nd) (hN : NodesAt w NA ns) (hb : ns.length ≤ 1000000) :
    ∃ v' w', (Builtin.append_ #[22, 22] ty #[.slice none 0 0, .slice NA ns.length nc]).run Try.prog w = .ok v' w' ∧ w'.ownsRow w.heap.size 60 3 v' ns.length (ncells ns) ∧ w.grownBy w' none := by
  obtain ⟨i0, hi, hz0, hz1, hz2⟩ := info_parts node_info3
  have hnil : w.ownsRow w.heap.size 60 3 (.slice none 0 0) 0 [] := World.ownsRow_nil _ _ _ _
  cases NA with
  | none =>
    have hd0 : ns = [] := by
      cases ns with
      | nil => rfl
      | cons c t =>
        obtain ⟨b, o, e, _⟩ := hN 0 (by simp)
        cases e
    subst hd0
    exact ⟨_, w, run_append_none_cap w w.heap.size 22 ty 60 i0 3 Try.underlying22 hi (.slice none 0 0) 0 [] nc hnil, hnil, ⟨rfl, rfl, rfl, Nat.le_refl _, fun _ _ _ => rfl⟩⟩
  | some ad =>
    obtain ⟨v', w', h1, h2, h3, _⟩ := run_append_own (P := Try.prog) w w.heap.size 22 ty 60 i0 _ 3 32 Try.underlying22 hi hz0 hz1 hz2 rfl (by decide) (.slice none 0 0) 0 [] hnil ad ns.length nc (ncells ns) (ncells_len ns) (ncells_src hN) (ncells_one ns) (by unfold maxLen; omega) (by omega) (Nat.le_refl _)
    refine ⟨v', w', h1, ?_, h3⟩
    simpa using h2
end Go.Proofs.Ytiglakhfkgeefaa
set_option linter.unusedSimpArgs false
namespace Go.Proofs.Ytiglakhfkgeefaa
open Go.Pth Go.Tre Go.RowKit Go.Word Go.Shelf
/-- the world of a region with four writes one behind the other, by what has come up -/
def Stg (A B C D E : World) (l : Array Bool) : World := if l.getD 19 false = true then E else if l.getD 17 false = true then D else if l.getD 16 false = true then C else if l.getD 14 false = true then B else A
theorem stg_keep {A B C D E : World} {l : Array Bool} {i : Nat} (h1 : i ≠ 14) (h2 : i ≠ 16) (h3 : i ≠ 17) (h4 : i ≠ 19) : Stg A B C D E (l.setIfInBounds i true) = Stg A B C D E l := by
  unfold Stg
  simp only [getD_set, h1, h2, h3, h4, false_and, if_false]
theorem stg_all {A B C D E : World} {l : Array Bool} (p : World → Prop) (hA : p A) (hB : p B) (hC : p C) (hD : p D) (hE : l.getD 19 false = true → p E) : p (Stg A B C D E l) := by
  unfold Stg
  split
  · exact hE (by assumption)
  · split
    · exact hD
    · split
      · exact hC
      · split
        · exact hB
        · exact hA
theorem stg_0 {A B C D E : World} {l : Array Bool} (up16 : l.getD 16 false = true → l.getD 14 false = true) (up17 : l.getD 17 false = true → l.getD 16 false = true) (up19 : l.getD 19 false = true → l.getD 17 false = true) (hs : l.size = 20) (hu : l.getD 14 false = false) : Stg A B C D E l = A ∧ Stg A B C D E (l.setIfInBounds 14 true) = B := by
  have h16 : l.getD 16 false = false := by cases h : l.getD 16 false with | false => rfl | true => rw [up16 h] at hu; cases hu
  have h17 : l.getD 17 false = false := by cases h : l.getD 17 false with | false => rfl | true => rw [up17 h] at h16; cases h16
  have h19 : l.getD 19 false = false := by cases h : l.getD 19 false with | false => rfl | true => rw [up19 h] at h17; cases h17
  unfold Stg
  simp only [getD_set, hs, h16, h17, h19, hu, Nat.reduceEqDiff, Nat.reduceLT, reduceIte, false_and, true_and, and_self, Bool.false_eq_true]
theorem stg_1 {A B C D E : World} {l : Array Bool} (up17 : l.getD 17 false = true → l.getD 16 false = true) (up19 : l.getD 19 false = true → l.getD 17 false = true) (hs : l.size = 20) (hu : l.getD 16 false = false) (h14 : l.getD 14 false = true) : Stg A B C D E l = B ∧ Stg A B C D E (l.setIfInBounds 16 true) = C := by
  have h17 : l.getD 17 false = false := by cases h : l.getD 17 false with | false => rfl | true => rw [up17 h] at hu; cases hu
  have h19 : l.getD 19 false = false := by cases h : l.getD 19 false with | false => rfl | true => rw [up19 h] at h17; cases h17
  unfold Stg
  simp only [getD_set, hs, h14, h17, h19, hu, Nat.reduceEqDiff, Nat.reduceLT, reduceIte, false_and, true_and, and_self, Bool.false_eq_true]
theorem stg_2 {A B C D E : World} {l : Array Bool} (up19 : l.getD 19 false = true → l.getD 17 false = true) (hs : l.size = 20) (hu : l.getD 17 false = false) (h16 : l.getD 16 false = true) : Stg A B C D E l = C ∧ Stg A B C D E (l.setIfInBounds 17 true) = D := by
  have h19 : l.getD 19 false = false := by cases h : l.getD 19 false with | false => rfl | true => rw [up19 h] at hu; cases hu
  unfold Stg
  simp only [getD_set, hs, h16, h19, hu, Nat.reduceEqDiff, Nat.reduceLT, reduceIte, false_and, true_and, and_self, Bool.false_eq_true]
theorem stg_3 {A B C D E : World} {l : Array Bool}  (hs : l.size = 20) (hu : l.getD 19 false = false) (h17 : l.getD 17 false = true) : Stg A B C D E l = D ∧ Stg A B C D E (l.setIfInBounds 19 true) = E := by
  unfold Stg
  simp only [getD_set, hs, h17, hu, Nat.reduceEqDiff, Nat.reduceLT, reduceIte, false_and, true_and, and_self, Bool.false_eq_true]
theorem stg_end {A B C D E : World} {l : Array Bool} (h : l.getD 19 false = true) : Stg A B C D E l = E := by
  unfold Stg
  rw [if_pos h]
theorem copy_mono {w : World} {B B' : Nat} {vN vF : Value} {D : Nat → Value} {ns : List Nd} {fs : List Fl} (h : CopyAt w B vN vF D ns fs) (hB : B' ≤ B) : CopyAt w B' vN vF D ns fs where
  nodes := h.nodes.mono hB
  files := h.files.mono hB
  data := fun i hi => World.ownsRow.mono (h.data i hi) hB
  apart := h.apart
theorem grown_setRow (w : World) (g : Nat) (cs : Array Value) : w.grownBy (w.setRow g cs) (some g) :=
  ⟨rfl, rfl, rfl, by simp, fun k hk hne => by simp at hne; exact setRow_other w g k cs hne⟩
theorem grown_setCell (w : World) (g i : Nat) (u : Value) : w.grownBy (w.setCell ⟨g, i, none⟩ u) (some g) :=
  ⟨rfl, rfl, rfl, by simp [World.setCell], fun k hk hne => Below.heap_setCell w ⟨g, i, none⟩ u k (by simpa using hne)⟩
theorem copy_first {w : World} {B : Nat} {vN : Value} {ns : List Nd} (h : w.ownsRow B 60 3 vN ns.length (ncells ns)) (o : Obj) : CopyAt (w.alloc o) B vN (.slice none 0 0) (fun _ => undef) ns [] where
  nodes := h.kept (World.grownBy_alloc w o none) (by cases vN.ownBlock <;> simp)
  files := World.ownsRow_nil _ _ _ _
  data := fun i hi => by simp at hi
  apart := fun i k _ hk => by simp at hk
end Go.Proofs.Ytiglakhfkgeefaa
set_option linter.unusedSimpArgs false
namespace Go.Proofs.Ytiglakhfkgeefaa
open Go.Pth Go.Tre Go.RowKit Go.Word Go.Shelf
set_option maxRecDepth 100000 in
set_option maxHeartbeats 8000000 in
theorem copy_any (NA FA : Option Addr) (nc fc : Nat) (ns : List Nd) (fs : List Fl) (w : World) (hN : NodesAt w NA ns) (hF : FilesAt w FA fs) (h1 : ns.length ≤ 300) (h2 : fs.length ≤ 300) (h3 : ∀ x ∈ fs, x.data.length ≤ 40000) :
    Calls Try.prog 27 #[.agg #[.slice NA ns.length nc, .slice FA fs.length fc]] w fun e w' => ∃ vN vF D, e = .returned (.agg #[vN, vF]) ∧ CopyAt w' w.heap.size vN vF D ns fs ∧ Below w.heap.size w w' := by
  obtain ⟨i1, hj, hj0, hj1, hj2⟩ := info_parts file_info2
  have L := lies_alloc (lies_new w 25 #[.slice NA ns.length nc, .slice FA fs.length fc]) (.cells #[.slice none 0 0, .slice none 0 0] 25)
  have hB : Below w.heap.size w ((w.alloc (.cells #[.slice NA ns.length nc, .slice FA fs.length fc] 25)).alloc (.cells #[.slice none 0 0, .slice none 0 0] 25)) := ((Below.refl _ _).alloc (Nat.le_refl _) _).alloc (by simp) _
  have L2 := lies_new (w.alloc (.cells #[.slice NA ns.length nc, .slice FA fs.length fc] 25)) 25 #[.slice none 0 0, .slice none 0 0]
  rw [World.size_alloc] at L2
  have HN := Lib.hid (nodesAt_below hN hB)
  have HF := Lib.hid (filesAt_below hF hB)
  have H3 := Lib.hid h3
  clear hN hF h3
  have x0 := lies_cell L 0
  have x1 := lies_cell L 1
  simp only [List.getElem?_toArray, List.getElem?_cons_zero, List.getElem?_cons_succ] at x0 x1
  have HB := Lib.hid hB
  have LX := Lib.hid L
  have LR := Lib.hid L2
  clear L L2 hB
  generalize hne : ns.length = n at *
  generalize hme : fs.length = m at *
  have NE := Lib.hid hne
  have ME := Lib.hid hme
  clear hne hme
  go_enter Try.func27, Try.ntmps27
  go_upto_region 1 with (fail)
  generalize (w.alloc (.cells #[.slice NA n nc, .slice FA m fc] 25)).alloc (.cells #[.slice none 0 0, .slice none 0 0] 25) = X at *
  obtain ⟨v1, w1, hr1, ho1, hg1⟩ := run_app_nodes X 22 NA nc ns HN.out (by have := NE.out; omega)
  rw [NE.out] at hr1
  obtain ⟨A1, C1, rfl⟩ := own_slice ho1
  rw [NE.out] at hr1
  have HR1 := Lib.hid hr1
  have O1 := Lib.hid ho1
  have G1 := Lib.hid hg1
  clear hr1 ho1 hg1
  go_upto_region 2 with (refine wpList_app_run rfl _ _ rfl rfl rfl HR1.out ?_)
  have O1' := O1.out
  have C0 := Lib.hid (copy_first O1' (.cells #[.slice A1 n C1, .slice none 0 0] 25))
  have L0 := Lib.hid (lies_new w1 25 #[.slice A1 n C1, .slice none 0 0])
  have B0 := Lib.hid (((Below.refl _ X).grown G1.out (Nat.le_refl _) (fun k e => by cases e)).alloc G1.out.size (.cells #[.slice A1 n C1, .slice none 0 0] 25))
  have ZT := Lib.hid (show X.heap.size ≤ w1.heap.size from G1.out.size)
  rw [NE.out] at C0
  clear O1' O1 G1 HR1
  generalize w1.alloc (.cells #[.slice A1 n C1, .slice none 0 0] 25) = W2 at *
  generalize hT : w1.heap.size = T at *
  clear hT
  generalize hvN : (Value.slice A1 n C1) = vN at *
  clear hvN
  go_wp2
  go_loopw [4] (fun v4 wr => ∃ j : Nat, j ≤ m ∧ v4 = .int .i64 (j : Int) ∧ (∃ vF D, Lies wr T 25 #[vN, vF] ∧ CopyAt wr X.heap.size vN vF D ns (fs.take j)) ∧ Below X.heap.size X wr) (fun v4 _ => m - (intOf v4).toNat)
  case atStart => exact ⟨0, Nat.zero_le _, rfl, ⟨_, _, L0.out, by simpa using C0.out⟩, B0.out⟩
  case round =>
    obtain ⟨j, hj', rfl, ⟨vF, D, hL, hC⟩, hb⟩ := hrel
    have HBJ := Lib.hid hb
    have HCJ := Lib.hid hC
    have HLJ := Lib.hid hL
    clear hb hC hL
    have y0 := lies_cell HLJ.out 0
    have y1 := lies_cell HLJ.out 1
    simp only [List.getElem?_toArray, List.getElem?_cons_zero, List.getElem?_cons_succ] at y0 y1
    have q0 := (HBJ.out.cell (p := ⟨w.heap.size, 0, none⟩) (lies_lt LX.out)).trans x0
    have q1 := (HBJ.out.cell (p := ⟨w.heap.size, 1, none⟩) (lies_lt LX.out)).trans x1
    have LRJ := Lib.hid (lies_below LR.out HBJ.out (lies_lt LR.out))
    by_cases hlt : j < m
    · have lj : (j : Int) < (m : Int) := by omega
      have lf : j < fs.length := by have := ME.out; omega
      obtain ⟨b, o, DA, dc, eA, hl, d1, d2, d3⟩ := HF.out j lf
      subst eA
      have dl := H3.out fs[j] (List.getElem_mem _)
      have dx1 := d1
      have dx2 := d2
      have d1 := (HBJ.out.cell (p := ⟨b, o + j * 2, none⟩) hl).trans d1
      have d2 := (HBJ.out.cell (p := ⟨b, o + j * 2 + 1, none⟩) hl).trans d2
      have TS := Lib.hid (List.take_succ_eq_append_getElem lf)
      generalize fs[j] = x at *
      obtain ⟨md, d⟩ := x
      have dl : d.length ≤ 40000 := dl
      have d1 : wr.cell? ⟨b, o + j * 2, none⟩ = some (.int .i64 md) := d1
      have d2 : wr.cell? ⟨b, o + j * 2 + 1, none⟩ = some (.slice DA d.length dc) := d2
      have d3 : BytesAt X DA d := d3
      have dx1 : X.cell? ⟨b, o + j * 2, none⟩ = some (.int .i64 md) := dx1
      have dx2 : X.cell? ⟨b, o + j * 2 + 1, none⟩ = some (.slice DA d.length dc) := dx2
      obtain ⟨vD, Z1, hr1, ho1, hg1⟩ := run_app_fresh wr.drew 47 DA dc d (bytesAt_below d3 HBJ.out.drew) (by omega)
      obtain ⟨Ad, Cd, rfl⟩ := own_slice ho1
      have cj := copy_kept HCJ.out (row := none) (w' := wr.drew) ⟨rfl, rfl, rfl, Nat.le_refl _, fun _ _ _ => rfl⟩ (fun r e => by cases e)
      have len : (fs.take j).length = j := by rw [List.length_take]; omega
      have c1 := copy_kept cj hg1 (fun r e => by cases e)
      have c2 := copy_kept c1 (World.grownBy_alloc Z1 (.cells #[.int .i64 md, (.slice Ad d.length Cd)] 52) none) (fun r e => by cases e)
      have LZ2 := lies_new Z1 52 #[.int .i64 md, (.slice Ad d.length Cd)]
      have zs : X.heap.size ≤ Z1.heap.size := Nat.le_trans HBJ.out.size hg1.size
      obtain ⟨vG, Z3, hr3, ho3, hg3, _⟩ := run_append_own (P := Try.prog) (Z1.alloc (.cells #[.int .i64 md, (.slice Ad d.length Cd)] 52)) X.heap.size 23 23 52 i1 _ 2 32 Try.underlying23 hj hj0 hj1 hj2 rfl (by decide) vF (fs.take j).length (fcells D (fs.take j)) c2.files ⟨Z1.heap.size, 0, none⟩ 1 1 [.int .i64 md, (.slice Ad d.length Cd)] rfl (fun q u hq => by
        match q, hq with
        | 0, hq => injection hq with hq; subst hq; exact lies_cell LZ2 0
        | 1, hq => injection hq with hq; subst hq; exact lies_cell LZ2 1
        | q + 2, hq => simp at hq) (fun u hu => by simp at hu; rcases hu with h | h <;> subst h <;> rfl) (by unfold maxLen; omega) (by omega) (by simp; omega)
      obtain ⟨Ag, Cg, rfl⟩ := own_slice ho3
      have c3 := copy_step cj (Nat.le_trans HBJ.out.size (Nat.le_refl _)) ho1 hg1 rfl ho3 hg3
      have l1 : Lies Z1 T 25 #[vN, vF] := (hg1.block T (lies_lt HLJ.out) (by simp)).trans HLJ.out
      have l2 := lies_alloc l1 (.cells #[.int .i64 md, (.slice Ad d.length Cd)] 52)
      have ne : vF.ownBlock ≠ some T := fun e => by
        obtain ⟨_, cs, h⟩ := own_heap c2.files T e
        rw [show _ = _ from l2] at h
        injection h with h
        injection h with _ h _
        cases h
      have l3 : Lies Z3 T 25 #[vN, vF] := (hg3.block T (lies_lt l2) (fun e => ne e.symm)).trans l2
      have l4 : Lies (Z3.setCell ⟨T, 1, none⟩ (.slice Ag ((fs.take j).length + 1) Cg)) T 25 #[vN, (.slice Ag ((fs.take j).length + 1) Cg)] := lies_set l3 1 (.slice Ag ((fs.take j).length + 1) Cg)
      have c4 := copy_kept c3 (grown_setCell Z3 T 1 (.slice Ag ((fs.take j).length + 1) Cg)) (fun r e => by injection e with e; subst e; exact ⟨_, 25, l3, by decide, by decide, by decide⟩)
      have b1 : Below X.heap.size X Z1 := HBJ.out.drew.grown hg1 HBJ.out.size (fun k e => by cases e)
      have b2 : Below X.heap.size X (Z1.alloc (.cells #[.int .i64 md, (.slice Ad d.length Cd)] 52)) := b1.alloc zs _
      have b3 : Below X.heap.size X Z3 := b2.grown hg3 b2.size (fun k e => (own_heap c2.files k e).1)
      have b4 : Below X.heap.size X (Z3.setCell ⟨T, 1, none⟩ (.slice Ag ((fs.take j).length + 1) Cg)) := below_setCell b3 ZT.out _
      have C4 := Lib.hid c4
      have L4 := Lib.hid l4
      have B4 := Lib.hid b4
      have L3 := Lib.hid l3
      have HR1 := Lib.hid hr1
      have HR3 := Lib.hid hr3
      have BA := Lib.hid (fun (l : Array Bool) => stg_all (l := l) (Below X.heap.size X) HBJ.out.drew b1 b2 b3 (fun _ => b4))
      have F3 := Lib.hid (fun (l : Array Bool) => ((BA.out l).cell (p := ⟨w.heap.size, 1, none⟩) (lies_lt LX.out)).trans x1)
      have FC1 := Lib.hid (fun (l : Array Bool) => ((BA.out l).cell (p := ⟨b, o + j * 2, none⟩) hl).trans dx1)
      have FC2 := Lib.hid (fun (l : Array Bool) => ((BA.out l).cell (p := ⟨b, o + j * 2 + 1, none⟩) hl).trans dx2)
      have FY := Lib.hid (fun (l : Array Bool) (hu : l.getD 19 false = false) => stg_all (A := wr.drew) (B := Z1) (C := Z1.alloc (.cells #[.int .i64 md, .slice Ad d.length Cd] 52)) (D := Z3) (E := Z3.setCell ⟨T, 1, none⟩ (.slice Ag ((fs.take j).length + 1) Cg)) (l := l) (fun W => W.cell? ⟨T, 1, none⟩ = some vF) (lies_cell (lies_drew HLJ.out) 1) (lies_cell l1 1) (lies_cell l2 1) (lies_cell l3 1) (fun h => by rw [hu] at h; cases h))
      clear c1 c2 c3 c4 cj l1 l2 l3 l4 b1 b2 b3 b4 ne hr1 hr3 ho1 ho3 hg1 hg3 LZ2 BA dx1 dx2 d3
      go_upto_region 5 with (fail)
      refine wp_region_any (by kernel_rfl) ?_
      refine every_at (own := ownAll _) (vals := fun k => match k with | 0 => .pointer (some ⟨T, 1, none⟩) | 1 => vF | 2 => .pointer (some ⟨w.heap.size, 1, none⟩) | 3 => .slice (some ⟨b, o, none⟩) m fc | 4 => .int .i64 (j : Int) | 5 => .pointer (some ⟨b, o + j * 2, none⟩) | 6 => .pointer (some ⟨b, o + j * 2, none⟩) | 7 => .int .i64 md | 8 => .pointer (some ⟨w.heap.size, 1, none⟩) | 9 => .slice (some ⟨b, o, none⟩) m fc | 10 => .int .i64 (j : Int) | 11 => .pointer (some ⟨b, o + j * 2, none⟩) | 12 => .pointer (some ⟨b, o + j * 2 + 1, none⟩) | 13 => .slice DA d.length dc | 14 => .slice Ad d.length Cd | 15 => .agg #[.int .i64 md, .slice Ad d.length Cd] | 16 => .slice (some ⟨Z1.heap.size, 0, none⟩) 1 1 | 17 => .slice Ag ((fs.take j).length + 1) Cg | 18 => .pointer (some ⟨T, 1, none⟩) | 19 => undef | _ => undef) id (fun l W => W = (Stg wr.drew Z1 (Z1.alloc (.cells #[.int .i64 md, .slice Ad d.length Cd] 52)) Z3 (Z3.setCell ⟨T, 1, none⟩ (.slice Ag ((fs.take j).length + 1) Cg))) l) (acAll_of (by kernel_rfl)) (onAll_of (by kernel_rfl)) (dstAll_of (by kernel_rfl)) ?hop ?hend _ _ _ _ rfl (shut_none _) (of_decide_eq_true (by kernel_rfl)) (tabd_start (fun i => rep_false _ i)) rfl
      case hop =>
        intro k oi a w0 listed hoi hun hsz hcl hdeps ht hI
        have hk : k < 20 := (Array.getElem?_eq_some_iff.1 hoi).1
        have ck : k = 0 ∨ k = 1 ∨ k = 2 ∨ k = 3 ∨ k = 4 ∨ k = 5 ∨ k = 6 ∨ k = 7 ∨ k = 8 ∨ k = 9 ∨ k = 10 ∨ k = 11 ∨ k = 12 ∨ k = 13 ∨ k = 14 ∨ k = 15 ∨ k = 16 ∨ k = 17 ∨ k = 18 ∨ k = 19 := by omega
        have s20 : listed.size = 20 := hsz
        have up16 : listed.getD 16 false = true → listed.getD 14 false = true := fun h => hcl 15 _ rfl (hcl 16 _ rfl h ⟨15, .data⟩ (by simp) rfl) ⟨14, .data⟩ (by simp) rfl
        have up17 : listed.getD 17 false = true → listed.getD 16 false = true := fun h => hcl 17 _ rfl h ⟨16, .data⟩ (by simp) rfl
        have up19 : listed.getD 19 false = true → listed.getD 17 false = true := fun h => hcl 19 _ rfl h ⟨17, .data⟩ (by simp) rfl
        have up1 : listed.getD 19 false = true → listed.getD 1 false = true := fun h => hcl 19 _ rfl h ⟨1, .phase⟩ (by simp) rfl
        have up15 : listed.getD 15 false = true → listed.getD 14 false = true := fun h => hcl 15 _ rfl h ⟨14, .data⟩ (by simp) rfl
        clear hcl
        obtain rfl | rfl | rfl | rfl | rfl | rfl | rfl | rfl | rfl | rfl | rfl | rfl | rfl | rfl | rfl | rfl | rfl | rfl | rfl | rfl := ck
        all_goals obtain rfl := Option.some.inj hoi
        · have e3 : a.eval (.tmp 3) = .pointer (some ⟨T, 0, none⟩) := (tabd_old ht (t := 3) (of_decide_eq_true (by kernel_rfl)) (by kernel_rfl)).trans rfl
          exact .inl ⟨rfl, fun K hk => wp_val (v := .pointer (some ⟨T, 1, none⟩)) (by generalize a.eval = ρ at *; unfold execOp; simp only [e3]; go_simp) (hk _ (hI.trans (stg_keep (by decide) (by decide) (by decide) (by decide)).symm))⟩
        · have d0 := hdeps ⟨0, .data⟩ (by simp) rfl
          have e16 : a.eval (.tmp 16) = .pointer (some ⟨T, 1, none⟩) := tabd_at ht (t := 16) (of_decide_eq_true (by kernel_rfl)) (by kernel_rfl) d0
          have h : w0.cell? ⟨T, 1, none⟩ = some (vF) := by rw [hI]; exact FY.out listed (by cases h : listed.getD 19 false with | false => rfl | true => rw [up1 h] at hun; cases hun)
          exact .inl ⟨rfl, fun K hk => wp_val (v := vF) (by clear hk hI hoi hdeps ht; generalize a.eval = ρ at *; unfold execOp; simp only [e16]; go_simp) (hk _ (hI.trans (stg_keep (by decide) (by decide) (by decide) (by decide)).symm))⟩
        · have e1 : a.eval (.tmp 1) = .pointer (some ⟨w.heap.size, 0, none⟩) := (tabd_old ht (t := 1) (of_decide_eq_true (by kernel_rfl)) (by kernel_rfl)).trans rfl
          exact .inl ⟨rfl, fun K hk => wp_val (v := .pointer (some ⟨w.heap.size, 1, none⟩)) (by generalize a.eval = ρ at *; unfold execOp; simp only [e1]; go_simp) (hk _ (hI.trans (stg_keep (by decide) (by decide) (by decide) (by decide)).symm))⟩
        · have d2 := hdeps ⟨2, .data⟩ (by simp) rfl
          have e18 : a.eval (.tmp 18) = .pointer (some ⟨w.heap.size, 1, none⟩) := tabd_at ht (t := 18) (of_decide_eq_true (by kernel_rfl)) (by kernel_rfl) d2
          have h : w0.cell? ⟨w.heap.size, 1, none⟩ = some (.slice (some ⟨b, o, none⟩) m fc) := by rw [hI]; exact F3.out listed
          exact .inl ⟨rfl, fun K hk => wp_val (v := .slice (some ⟨b, o, none⟩) m fc) (by clear hk hI hoi hdeps ht; generalize a.eval = ρ at *; unfold execOp; simp only [e18]; go_simp) (hk _ (hI.trans (stg_keep (by decide) (by decide) (by decide) (by decide)).symm))⟩
        · have e4 : a.eval (.tmp 4) = .int .i64 (j : Int) := (tabd_old ht (t := 4) (of_decide_eq_true (by kernel_rfl)) (by kernel_rfl)).trans rfl
          exact .inl ⟨rfl, fun K hk => wp_val (v := .int .i64 (j : Int)) (by generalize a.eval = ρ at *; unfold execOp; simp only [e4]; go_simp) (hk _ (hI.trans (stg_keep (by decide) (by decide) (by decide) (by decide)).symm))⟩
        · have d3 := hdeps ⟨3, .data⟩ (by simp) rfl
          have d4 := hdeps ⟨4, .data⟩ (by simp) rfl
          have e19 : a.eval (.tmp 19) = .slice (some ⟨b, o, none⟩) m fc := tabd_at ht (t := 19) (of_decide_eq_true (by kernel_rfl)) (by kernel_rfl) d3
          have e20 : a.eval (.tmp 20) = .int .i64 (j : Int) := tabd_at ht (t := 20) (of_decide_eq_true (by kernel_rfl)) (by kernel_rfl) d4
          exact .inl ⟨rfl, fun K hk => wp_val (v := .pointer (some ⟨b, o + j * 2, none⟩)) (by generalize a.eval = ρ at *; unfold execOp; simp only [e19, e20]; go_simp) (hk _ (hI.trans (stg_keep (by decide) (by decide) (by decide) (by decide)).symm))⟩
        · have d5 := hdeps ⟨5, .data⟩ (by simp) rfl
          have e21 : a.eval (.tmp 21) = .pointer (some ⟨b, o + j * 2, none⟩) := tabd_at ht (t := 21) (of_decide_eq_true (by kernel_rfl)) (by kernel_rfl) d5
          exact .inl ⟨rfl, fun K hk => wp_val (v := .pointer (some ⟨b, o + j * 2, none⟩)) (by generalize a.eval = ρ at *; unfold execOp; simp only [e21]; go_simp) (hk _ (hI.trans (stg_keep (by decide) (by decide) (by decide) (by decide)).symm))⟩
        · have d6 := hdeps ⟨6, .data⟩ (by simp) rfl
          have e22 : a.eval (.tmp 22) = .pointer (some ⟨b, o + j * 2, none⟩) := tabd_at ht (t := 22) (of_decide_eq_true (by kernel_rfl)) (by kernel_rfl) d6
          have h : w0.cell? ⟨b, o + j * 2, none⟩ = some (.int .i64 md) := by rw [hI]; exact FC1.out listed
          exact .inl ⟨rfl, fun K hk => wp_val (v := .int .i64 md) (by clear hk hI hoi hdeps ht; generalize a.eval = ρ at *; unfold execOp; simp only [e22]; go_simp) (hk _ (hI.trans (stg_keep (by decide) (by decide) (by decide) (by decide)).symm))⟩
        · have e1 : a.eval (.tmp 1) = .pointer (some ⟨w.heap.size, 0, none⟩) := (tabd_old ht (t := 1) (of_decide_eq_true (by kernel_rfl)) (by kernel_rfl)).trans rfl
          exact .inl ⟨rfl, fun K hk => wp_val (v := .pointer (some ⟨w.heap.size, 1, none⟩)) (by generalize a.eval = ρ at *; unfold execOp; simp only [e1]; go_simp) (hk _ (hI.trans (stg_keep (by decide) (by decide) (by decide) (by decide)).symm))⟩
        · have d8 := hdeps ⟨8, .data⟩ (by simp) rfl
          have e24 : a.eval (.tmp 24) = .pointer (some ⟨w.heap.size, 1, none⟩) := tabd_at ht (t := 24) (of_decide_eq_true (by kernel_rfl)) (by kernel_rfl) d8
          have h : w0.cell? ⟨w.heap.size, 1, none⟩ = some (.slice (some ⟨b, o, none⟩) m fc) := by rw [hI]; exact F3.out listed
          exact .inl ⟨rfl, fun K hk => wp_val (v := .slice (some ⟨b, o, none⟩) m fc) (by clear hk hI hoi hdeps ht; generalize a.eval = ρ at *; unfold execOp; simp only [e24]; go_simp) (hk _ (hI.trans (stg_keep (by decide) (by decide) (by decide) (by decide)).symm))⟩
        · have e4 : a.eval (.tmp 4) = .int .i64 (j : Int) := (tabd_old ht (t := 4) (of_decide_eq_true (by kernel_rfl)) (by kernel_rfl)).trans rfl
          exact .inl ⟨rfl, fun K hk => wp_val (v := .int .i64 (j : Int)) (by generalize a.eval = ρ at *; unfold execOp; simp only [e4]; go_simp) (hk _ (hI.trans (stg_keep (by decide) (by decide) (by decide) (by decide)).symm))⟩
        · have d9 := hdeps ⟨9, .data⟩ (by simp) rfl
          have d10 := hdeps ⟨10, .data⟩ (by simp) rfl
          have e25 : a.eval (.tmp 25) = .slice (some ⟨b, o, none⟩) m fc := tabd_at ht (t := 25) (of_decide_eq_true (by kernel_rfl)) (by kernel_rfl) d9
          have e26 : a.eval (.tmp 26) = .int .i64 (j : Int) := tabd_at ht (t := 26) (of_decide_eq_true (by kernel_rfl)) (by kernel_rfl) d10
          exact .inl ⟨rfl, fun K hk => wp_val (v := .pointer (some ⟨b, o + j * 2, none⟩)) (by generalize a.eval = ρ at *; unfold execOp; simp only [e25, e26]; go_simp) (hk _ (hI.trans (stg_keep (by decide) (by decide) (by decide) (by decide)).symm))⟩
        · have d11 := hdeps ⟨11, .data⟩ (by simp) rfl
          have e27 : a.eval (.tmp 27) = .pointer (some ⟨b, o + j * 2, none⟩) := tabd_at ht (t := 27) (of_decide_eq_true (by kernel_rfl)) (by kernel_rfl) d11
          exact .inl ⟨rfl, fun K hk => wp_val (v := .pointer (some ⟨b, o + j * 2 + 1, none⟩)) (by generalize a.eval = ρ at *; unfold execOp; simp only [e27]; go_simp) (hk _ (hI.trans (stg_keep (by decide) (by decide) (by decide) (by decide)).symm))⟩
        · have d12 := hdeps ⟨12, .data⟩ (by simp) rfl
          have e28 : a.eval (.tmp 28) = .pointer (some ⟨b, o + j * 2 + 1, none⟩) := tabd_at ht (t := 28) (of_decide_eq_true (by kernel_rfl)) (by kernel_rfl) d12
          have h : w0.cell? ⟨b, o + j * 2 + 1, none⟩ = some (.slice DA d.length dc) := by rw [hI]; exact FC2.out listed
          exact .inl ⟨rfl, fun K hk => wp_val (v := .slice DA d.length dc) (by clear hk hI hoi hdeps ht; generalize a.eval = ρ at *; unfold execOp; simp only [e28]; go_simp) (hk _ (hI.trans (stg_keep (by decide) (by decide) (by decide) (by decide)).symm))⟩
        · have d13 := hdeps ⟨13, .data⟩ (by simp) rfl
          have e29 : a.eval (.tmp 29) = .slice DA d.length dc := tabd_at ht (t := 29) (of_decide_eq_true (by kernel_rfl)) (by kernel_rfl) d13
          have hst : Stg wr.drew Z1 (Z1.alloc (.cells #[.int .i64 md, .slice Ad d.length Cd] 52)) Z3 (Z3.setCell ⟨T, 1, none⟩ (.slice Ag ((fs.take j).length + 1) Cg)) listed = wr.drew ∧ _ := stg_0 up16 up17 up19 s20 hun
          have hw : wr.drew = w0 := (hI.trans hst.1).symm
          subst hw
          exact .inl ⟨rfl, fun K hk => wp_valT (v := .slice Ad d.length Cd) (w' := Z1) (app_op _ _ rfl rfl e29 HR1.out) (hk _ hst.2.symm)⟩
        · have d7 := hdeps ⟨7, .data⟩ (by simp) rfl
          have d14 := hdeps ⟨14, .data⟩ (by simp) rfl
          have e23 : a.eval (.tmp 23) = .int .i64 md := tabd_at ht (t := 23) (of_decide_eq_true (by kernel_rfl)) (by kernel_rfl) d7
          have e30 : a.eval (.tmp 30) = .slice Ad d.length Cd := tabd_at ht (t := 30) (of_decide_eq_true (by kernel_rfl)) (by kernel_rfl) d14
          exact .inl ⟨rfl, fun K hk => wp_val (v := .agg #[.int .i64 md, .slice Ad d.length Cd]) (by generalize a.eval = ρ at *; unfold execOp; simp only [e23, e30]; go_simp) (hk _ (hI.trans (stg_keep (by decide) (by decide) (by decide) (by decide)).symm))⟩
        · have d15 := hdeps ⟨15, .data⟩ (by simp) rfl
          have e31 : a.eval (.tmp 31) = .agg #[.int .i64 md, .slice Ad d.length Cd] := tabd_at ht (t := 31) (of_decide_eq_true (by kernel_rfl)) (by kernel_rfl) d15
          have hst : Stg wr.drew Z1 (Z1.alloc (.cells #[.int .i64 md, .slice Ad d.length Cd] 52)) Z3 (Z3.setCell ⟨T, 1, none⟩ (.slice Ag ((fs.take j).length + 1) Cg)) listed = Z1 ∧ _ := stg_1 up17 up19 s20 hun (up15 d15)
          have hw : Z1 = w0 := (hI.trans hst.1).symm
          subst hw
          exact .inl ⟨rfl, fun K hk => wp_buildSlice 23 52 1 _ rfl #[.int .i64 md, .slice Ad d.length Cd] i1 _ Try.underlying23 hj hj0 (by rw [hj1]; decide) (by rw [hj1]; decide) (by rw [hj1]; simp only [List.map_toArray, List.map_cons, List.map_nil, e31]; kernel_rfl) (hk _ hst.2.symm)⟩
        · have d1 := hdeps ⟨1, .data⟩ (by simp) rfl
          have d16 := hdeps ⟨16, .data⟩ (by simp) rfl
          have d14 := hdeps ⟨14, .chain⟩ (by simp) rfl
          have e17 : a.eval (.tmp 17) = vF := tabd_at ht (t := 17) (of_decide_eq_true (by kernel_rfl)) (by kernel_rfl) d1
          have e32 : a.eval (.tmp 32) = .slice (some ⟨Z1.heap.size, 0, none⟩) 1 1 := tabd_at ht (t := 32) (of_decide_eq_true (by kernel_rfl)) (by kernel_rfl) d16
          have hst : Stg wr.drew Z1 (Z1.alloc (.cells #[.int .i64 md, .slice Ad d.length Cd] 52)) Z3 (Z3.setCell ⟨T, 1, none⟩ (.slice Ag ((fs.take j).length + 1) Cg)) listed = Z1.alloc (.cells #[.int .i64 md, .slice Ad d.length Cd] 52) ∧ _ := stg_2 up19 s20 hun d16
          have hw : Z1.alloc (.cells #[.int .i64 md, .slice Ad d.length Cd] 52) = w0 := (hI.trans hst.1).symm
          subst hw
          exact .inl ⟨rfl, fun K hk => wp_valT (v := .slice Ag ((fs.take j).length + 1) Cg) (w' := Z3) (app_op _ _ rfl e17 e32 HR3.out) (hk _ hst.2.symm)⟩
        · have e3 : a.eval (.tmp 3) = .pointer (some ⟨T, 0, none⟩) := (tabd_old ht (t := 3) (of_decide_eq_true (by kernel_rfl)) (by kernel_rfl)).trans rfl
          exact .inl ⟨rfl, fun K hk => wp_val (v := .pointer (some ⟨T, 1, none⟩)) (by generalize a.eval = ρ at *; unfold execOp; simp only [e3]; go_simp) (hk _ (hI.trans (stg_keep (by decide) (by decide) (by decide) (by decide)).symm))⟩
        · have d18 := hdeps ⟨18, .data⟩ (by simp) rfl
          have d17 := hdeps ⟨17, .data⟩ (by simp) rfl
          have e33 : a.eval (.tmp 33) = .slice Ag ((fs.take j).length + 1) Cg := tabd_at ht (t := 33) (of_decide_eq_true (by kernel_rfl)) (by kernel_rfl) d17
          have e34 : a.eval (.tmp 34) = .pointer (some ⟨T, 1, none⟩) := tabd_at ht (t := 34) (of_decide_eq_true (by kernel_rfl)) (by kernel_rfl) d18
          have hst : Stg wr.drew Z1 (Z1.alloc (.cells #[.int .i64 md, .slice Ad d.length Cd] 52)) Z3 (Z3.setCell ⟨T, 1, none⟩ (.slice Ag ((fs.take j).length + 1) Cg)) listed = Z3 ∧ _ := stg_3 s20 hun d17
          have hw : Z3 = w0 := (hI.trans hst.1).symm
          subst hw
          exact .inl ⟨rfl, fun K hk => wp_skipT (w' := Z3.setCell ⟨T, 1, none⟩ (.slice Ag ((fs.take j).length + 1) Cg)) (by have h1 := lies_cell L3.out 1; have h2 := lies_free L3.out 1; simp only [List.getElem?_toArray, List.getElem?_cons_zero, List.getElem?_cons_succ] at h1; clear hk hst hI ht hoi hdeps; generalize a.eval = ρ at *; unfold execOp; simp only [e33, e34]; go_simp) (hk _ hst.2.symm)⟩
      case hend =>
        intro a w0 listed hall ht hI
        rw [tabd_fill ht (fun t i ho => hall i (ownAll_lt ho))]
        have hw : w0 = _ := hI.trans (stg_end (hall 19 (of_decide_eq_true (by kernel_rfl))))
        change Exit.inBlock _ (Exit.then _ _) Exit.normal { tmps := #[.agg #[.slice NA n nc, .slice (some ⟨b, o, none⟩) m fc], .pointer (some ⟨w.heap.size, 0, none⟩), .pointer (some ⟨w.heap.size + 1, 0, none⟩), .pointer (some ⟨T, 0, none⟩), .int .i64 (j : Int), .pointer (some ⟨w.heap.size, 0, none⟩), .slice NA n nc, vN, .agg #[vN, .slice none 0 0], .int .i64 (j : Int), .pointer (some ⟨w.heap.size, 1, none⟩), .slice (some ⟨b, o, none⟩) m fc, .int .i64 (m : Int), .bool true, u14, u15, .pointer (some ⟨T, 1, none⟩), vF, .pointer (some ⟨w.heap.size, 1, none⟩), .slice (some ⟨b, o, none⟩) m fc, .int .i64 (j : Int), .pointer (some ⟨b, o + j * 2, none⟩), .pointer (some ⟨b, o + j * 2, none⟩), .int .i64 md, .pointer (some ⟨w.heap.size, 1, none⟩), .slice (some ⟨b, o, none⟩) m fc, .int .i64 (j : Int), .pointer (some ⟨b, o + j * 2, none⟩), .pointer (some ⟨b, o + j * 2 + 1, none⟩), .slice DA d.length dc, .slice Ad d.length Cd, .agg #[.int .i64 md, .slice Ad d.length Cd], .slice (some ⟨Z1.heap.size, 0, none⟩) 1 1, .slice Ag ((fs.take j).length + 1) Cg, .pointer (some ⟨T, 1, none⟩), undef], defers := [] } w0
        clear hall ht hI
        subst hw
        go_wp2
        go_roundw
        case rel => (have L5 := L4.out; have C5 := C4.out; have B5 := B4.out; simp only [len] at L5 C5 B5; exact ⟨j + 1, by omega, by go_num, ⟨_, _, L5, by rw [TS.out]; exact C5⟩, B5⟩)
        case measure => first | (simp [intOf]; done) | (simp [intOf]; omega)
    · have lj : ¬ (j : Int) < (m : Int) := by omega
      have r0 := lies_cell LRJ.out 0
      have r1 := lies_cell LRJ.out 1
      simp only [List.getElem?_toArray, List.getElem?_cons_zero, List.getElem?_cons_succ] at r0 r1
      have oN : vN.oneCell' = true := by obtain ⟨A, C, e⟩ := own_slice HCJ.out.nodes; rw [e]; rfl
      have oF : vF.oneCell' = true := by obtain ⟨A, C, e⟩ := own_slice HCJ.out.files; rw [e]; rfl
      have cf := HCJ.out
      rw [List.take_of_length_le (by have := ME.out; omega)] at cf
      have kf := copy_mono (copy_kept cf (grown_setRow wr (w.heap.size + 1) #[vN, vF]) (fun r e => by injection e with e; subst e; exact ⟨_, 25, LRJ.out, by decide, by decide, by decide⟩)) HB.out.size
      have CF := Lib.hid kf
      clear cf kf
      go_wp2_with (refine wpList_store_row rfl 25 _ _ rfl (w.heap.size + 1) #[vN, vF] rfl rfl 25 _ LRJ.out (by kernel_rfl) rfl (by simp [oN, oF]) ?_)
      have LZ := lies_setRow LRJ.out #[vN, vF]
      have z0 := lies_cell LZ 0
      have z1 := lies_cell LZ 1
      simp only [List.getElem?_toArray, List.getElem?_cons_zero, List.getElem?_cons_succ] at z0 z1
      have bz : Below w.heap.size w (wr.setRow (w.heap.size + 1) #[vN, vF]) := below_setRow (HB.out.trans (HBJ.out.mono HB.out.size)) (by omega) _
      have BZ := Lib.hid bz
      clear bz LZ
      refine bodyPost_ret (results_cell_row rfl _ _ (w.heap.size + 1) 25 #[vN, vF] (0, 0) _ rfl (lies_setRow LRJ.out #[vN, vF]) Try.underlying25 rfl (by kernel_rfl)) rfl ?_
      exact ⟨_, _, rfl, ⟨_, CF.out⟩, BZ.out⟩
end Go.Proofs.Ytiglakhfkgeefaa
set_option linter.unusedSimpArgs false
namespace Go.Proofs.Ytiglakhfkgeefaa
open Go.Pth Go.Tre Go.RowKit Go.Word Go.Shelf
theorem copy_nodes {w : World} {B : Nat} {vN vF : Value} {D : Nat → Value} {ns : List Nd} {fs : List Fl} (h : CopyAt w B vN vF D ns fs) : ∃ NA nc, vN = .slice NA ns.length nc ∧ NodesAt w NA ns := by
  rcases h.nodes.2 with ⟨e, h0⟩ | ⟨g, cap, cur, e, hg, hb, _⟩
  · exact ⟨none, 0, by rw [e, h0], fun i hi => by omega⟩
  · subst e
    refine ⟨_, _, rfl, fun i hi => ⟨g, 0, rfl, (Array.getElem?_eq_some_iff.1 hb).1, ?_⟩⟩
    obtain ⟨k1, k2, k3⟩ := ncells_at ns i hi
    rw [Nat.zero_add, h.nodes.cellAt _ (by omega), h.nodes.cellAt _ (by omega), h.nodes.cellAt _ (by omega)]
    exact ⟨k1, k2, k3⟩
theorem fcells_at (D : Nat → Value) : ∀ (fs : List Fl) (i : Nat) (h : i < fs.length), (fcells D fs)[i * 2]? = some (.int .i64 fs[i].mode) ∧ (fcells D fs)[i * 2 + 1]? = some (D i) := fun fs i h => by
  have key : ∀ (k : Nat), k ≤ fs.length → i < k → ((List.range k).flatMap fun i => [Value.int .i64 (fs.getD i ⟨0, []⟩).mode, D i])[i * 2]? = some (.int .i64 fs[i].mode) ∧ ((List.range k).flatMap fun i => [Value.int .i64 (fs.getD i ⟨0, []⟩).mode, D i])[i * 2 + 1]? = some (D i) := by
    intro k
    induction k with
    | zero => intro _ h; omega
    | succ k ih =>
      intro hk hik
      have hl : ((List.range k).flatMap fun i => [Value.int .i64 (fs.getD i ⟨0, []⟩).mode, D i]).length = k * 2 := by
        clear ih hk hik
        induction k with
        | zero => rfl
        | succ k ih => rw [List.range_succ, List.flatMap_append, List.length_append, ih]; simp; omega
      rw [List.range_succ, List.flatMap_append]
      by_cases e : i = k
      · subst e
        rw [List.getElem?_append_right (by omega), List.getElem?_append_right (by omega), hl, show i * 2 - i * 2 = 0 by omega, show i * 2 + 1 - i * 2 = 1 by omega]
        simp [List.getD_eq_getElem?_getD, List.getElem?_eq_getElem h]
      · rw [List.getElem?_append_left (by omega), List.getElem?_append_left (by omega)]
        exact ih (by omega) (by omega)
  exact key fs.length (Nat.le_refl _) h
theorem fcells_len (D : Nat → Value) (fs : List Fl) : (fcells D fs).length = fs.length * 2 := by
  unfold fcells
  generalize fs.length = k
  induction k with
  | zero => rfl
  | succ k ih => rw [List.range_succ, List.flatMap_append, List.length_append, ih]; simp; omega
theorem own_bytes {w : World} {B : Nat} {v : Value} {l : Bt} (h : OwnB w B v l) : ∃ DA dc, v = .slice DA l.length dc ∧ BytesAt w DA l := by
  rcases h.2 with ⟨e, h0⟩ | ⟨g, cap, cur, e, hg, hb, _⟩
  · exact ⟨none, 0, by rw [e, h0], fun i hi => by omega⟩
  · subst e
    refine ⟨_, _, rfl, fun i hi => ⟨g, 0, rfl, (Array.getElem?_eq_some_iff.1 hb).1, ?_⟩⟩
    have h' : w.ownsRow B 5 1 (.slice (some ⟨g, 0, none⟩) l.length cap) l.length (l.map yB) := h
    rw [Nat.zero_add, h'.cellAt _ (by omega), List.getElem?_map, List.getElem?_eq_getElem hi]
    simp [yB]
theorem copy_files {w : World} {B : Nat} {vN vF : Value} {D : Nat → Value} {ns : List Nd} {fs : List Fl} (h : CopyAt w B vN vF D ns fs) : ∃ FA fc, vF = .slice FA fs.length fc ∧ FilesAt w FA fs := by
  rcases h.files.2 with ⟨e, h0⟩ | ⟨g, cap, cur, e, hg, hb, _⟩
  · exact ⟨none, 0, by rw [e, h0], fun i hi => by omega⟩
  · subst e
    refine ⟨_, _, rfl, fun i hi => ?_⟩
    obtain ⟨k1, k2⟩ := fcells_at D fs i hi
    have hd := h.data i hi
    have e : fs.getD i ⟨0, []⟩ = fs[i] := by simp [List.getD_eq_getElem?_getD, List.getElem?_eq_getElem hi]
    rw [e] at hd
    obtain ⟨DA, dc, e1, e2⟩ := own_bytes hd
    refine ⟨g, 0, DA, dc, rfl, (Array.getElem?_eq_some_iff.1 hb).1, ?_, ?_, e2⟩
    · rw [Nat.zero_add, h.files.cellAt _ (by omega), k1]
    · rw [Nat.zero_add, h.files.cellAt _ (by omega), k2, e1]
/-- other nodes in the copy's row -/
theorem copy_nodes_turned {w w' : World} {B : Nat} {vN vN' vF : Value} {D : Nat → Value} {ns ns' : List Nd} {fs : List Fl} (h : CopyAt w B vN vF D ns fs) (h1 : w'.ownsRow B 60 3 vN' ns'.length (ncells ns')) (hg : w.grownBy w' vN.ownBlock) : CopyAt w' B vN' vF D ns' fs where
  nodes := h1
  files := h.files.kept hg (own_other h.files (fun r e => by obtain ⟨_, cs, h2⟩ := own_heap h.nodes r e; exact ⟨cs, 60, h2, by decide⟩))
  data := fun i hi => World.ownsRow.kept (h.data i hi) hg (own_other (h.data i hi) (fun r e => by obtain ⟨_, cs, h2⟩ := own_heap h.nodes r e; exact ⟨cs, 60, h2, by decide⟩))
  apart := h.apart
/-- other modes in the copy's row of files -/
theorem copy_files_turned {w w' : World} {B : Nat} {vN vF vF' : Value} {D : Nat → Value} {ns : List Nd} {fs fs' : List Fl} (h : CopyAt w B vN vF D ns fs) (hl : fs'.length = fs.length) (hd : ∀ i, i < fs.length → (fs'.getD i ⟨0, []⟩).data = (fs.getD i ⟨0, []⟩).data) (h1 : w'.ownsRow B 52 2 vF' fs'.length (fcells D fs')) (hg : w.grownBy w' vF.ownBlock) : CopyAt w' B vN vF' D ns fs' where
  nodes := h.nodes.kept hg (own_other h.nodes (fun r e => by obtain ⟨_, cs, h2⟩ := own_heap h.files r e; exact ⟨cs, 52, h2, by decide⟩))
  files := h1
  data := fun i hi => by rw [hd i (by omega)]; exact World.ownsRow.kept (h.data i (by omega)) hg (own_other (h.data i (by omega)) (fun r e => by obtain ⟨_, cs, h2⟩ := own_heap h.files r e; exact ⟨cs, 52, h2, by decide⟩))
  apart := fun i k hik hk => h.apart i k hik (by omega)
end Go.Proofs.Ytiglakhfkgeefaa
set_option linter.unusedSimpArgs false
namespace Go.Proofs.Ytiglakhfkgeefaa
open Go.Pth Go.Tre Go.RowKit Go.Word Go.Shelf
theorem ownsRow_below {B : Nat} {e : TypeId} {k : Nat} {v : Value} {n : Nat} {xs : List Value} {w w' : World} (h : w.ownsRow B e k v n xs) (hb : Below w.heap.size w w') : w'.ownsRow B e k v n xs :=
  h.kept (row := none) ⟨hb.os, hb.tape, hb.output, hb.size, fun j hj _ => hb.block j hj⟩ (by cases hv : v.ownBlock <;> simp)
theorem fcells_congr {D D' : Nat → Value} {fs : List Fl} (h : ∀ i, i < fs.length → D i = D' i) : fcells D fs = fcells D' fs := by
  unfold fcells
  rw [List.flatMap_def, List.flatMap_def]
  congr 1
  refine List.map_congr_left (fun i hi => ?_)
  rw [h i (by simpa using hi)]
theorem fcells_put (D : Nat → Value) (u : Value) (fs : List Fl) (k : Nat) (h : k < fs.length) : (fcells D fs).set (k * 2 + 1) u = fcells (fun i => if i = k then u else D i) fs := by
  apply List.ext_getElem?
  intro i
  by_cases hi : i < fs.length * 2
  · obtain ⟨k1, k2⟩ := fcells_at (fun i => if i = k then u else D i) fs (i / 2) (by omega)
    obtain ⟨j1, j2⟩ := fcells_at D fs (i / 2) (by omega)
    have h2 : i % 2 = 0 ∨ i % 2 = 1 := by omega
    rcases h2 with h2 | h2
    · rw [show (fcells (fun i => if i = k then u else D i) fs)[i]? = (fcells (fun i => if i = k then u else D i) fs)[i / 2 * 2]? by congr 1; omega, k1, List.getElem?_set, if_neg (by omega), show (fcells D fs)[i]? = (fcells D fs)[i / 2 * 2]? by congr 1; omega, j1]
    · rw [show (fcells (fun i => if i = k then u else D i) fs)[i]? = (fcells (fun i => if i = k then u else D i) fs)[i / 2 * 2 + 1]? by congr 1; omega, k2, List.getElem?_set]
      by_cases e : k * 2 + 1 = i
      · have e2 : i / 2 = k := by omega
        rw [if_pos e, if_pos (by rw [fcells_len]; omega), if_pos e2]
      · have e2 : i / 2 ≠ k := by omega
        rw [if_neg e, if_neg e2, show (fcells D fs)[i]? = (fcells D fs)[i / 2 * 2 + 1]? by congr 1; omega, j2]
  · rw [List.getElem?_eq_none (by rw [List.length_set, fcells_len]; omega), List.getElem?_eq_none (by rw [fcells_len]; omega)]
theorem copy_below {w w' : World} {B : Nat} {vN vF : Value} {D : Nat → Value} {ns : List Nd} {fs : List Fl} (h : CopyAt w B vN vF D ns fs) (hb : Below w.heap.size w w') : CopyAt w' B vN vF D ns fs where
  nodes := ownsRow_below h.nodes hb
  files := ownsRow_below h.files hb
  data := fun i hi => ownsRow_below (h.data i hi) hb
  apart := h.apart
end Go.Proofs.Ytiglakhfkgeefaa
set_option linter.unusedSimpArgs false
namespace Go.Proofs.Ytiglakhfkgeefaa
open Go.Pth Go.Tre Go.RowKit Go.Word Go.Shelf
attribute [local go_sem] guard_eq guard_ne st_eql st_neq
theorem own_at {w : World} {B e size n C : Nat} {A : Option Addr} {xs : List Value} (h : w.ownsRow B e size (.slice A n C) n xs) (hn : 0 < n) : ∃ g, A = some ⟨g, 0, none⟩ := by
  rcases h.2 with ⟨_, h0⟩ | ⟨g, cap, cur, e, _⟩
  · omega
  · injection e with e
    exact ⟨g, e⟩
theorem ncells_set (c : Nat) (u : Value) (f : Nd → Nd) (hc : c < 3) : ∀ (ns : List Nd) (k : Nat) (h : k < ns.length), ([St (f ns[k]).path, .int .i64 (f ns[k]).file, .int .i64 (f ns[k]).mode] = ([St ns[k].path, .int .i64 ns[k].file, .int .i64 ns[k].mode] : List Value).set c u) → (ncells ns).set (k * 3 + c) u = ncells (ns.set k (f ns[k]))
  | x :: r, 0, _, he => by
    have he : [St (f x).path, .int .i64 (f x).file, .int .i64 (f x).mode] = ([St x.path, .int .i64 x.file, .int .i64 x.mode] : List Value).set c u := he
    unfold ncells
    rw [List.flatMap_cons, List.set_append_left _ _ (by simp; omega)]
    show _ = List.flatMap _ (f x :: r)
    rw [List.flatMap_cons, he, show 0 * 3 + c = c by omega]
  | x :: r, k + 1, h, he => by
    have ih := ncells_set c u f hc r k (by simpa using h) he
    unfold ncells at ih ⊢
    show _ = List.flatMap _ (x :: r.set k (f (r[k]'(by simpa using h))))
    rw [List.flatMap_cons, List.flatMap_cons, List.set_append_right _ _ (by simp; omega)]
    congr 1
    rw [← ih]
    congr 1
    simp
    omega
theorem fcells_set (D : Nat → Value) (u : Int) (fs : List Fl) (k : Nat) (h : k < fs.length) : (fcells D fs).set (k * 2) (.int .i64 u) = fcells D (fs.set k ⟨u, fs[k].data⟩) := by
  apply List.ext_getElem?
  intro i
  have hl : (fs.set k ⟨u, fs[k].data⟩).length = fs.length := by simp
  by_cases hi : i < fs.length * 2
  · obtain ⟨k1, k2⟩ := fcells_at D (fs.set k ⟨u, fs[k].data⟩) (i / 2) (by omega)
    obtain ⟨j1, j2⟩ := fcells_at D fs (i / 2) (by omega)
    have h2 : i % 2 = 0 ∨ i % 2 = 1 := by omega
    rcases h2 with h2 | h2
    · rw [show (fcells D (fs.set k ⟨u, fs[k].data⟩))[i]? = (fcells D (fs.set k ⟨u, fs[k].data⟩))[i / 2 * 2]? by congr 1; omega, k1, List.getElem?_set]
      by_cases e : k * 2 = i
      · have e2 : i / 2 = k := by omega
        rw [if_pos e, if_pos (by rw [fcells_len]; omega)]
        simp [e2]
      · have e2 : i / 2 ≠ k := by omega
        rw [if_neg e, show (fcells D fs)[i]? = (fcells D fs)[i / 2 * 2]? by congr 1; omega, j1]
        simp [List.getElem_set, Ne.symm e2]
    · rw [show (fcells D (fs.set k ⟨u, fs[k].data⟩))[i]? = (fcells D (fs.set k ⟨u, fs[k].data⟩))[i / 2 * 2 + 1]? by congr 1; omega, k2, List.getElem?_set, if_neg (by omega), show (fcells D fs)[i]? = (fcells D fs)[i / 2 * 2 + 1]? by congr 1; omega, j2]
  · rw [List.getElem?_eq_none (by rw [List.length_set, fcells_len]; omega), List.getElem?_eq_none (by rw [fcells_len]; omega)]
theorem copy_drew {w : World} {B : Nat} {vN vF : Value} {D : Nat → Value} {ns : List Nd} {fs : List Fl} (h : CopyAt w B vN vF D ns fs) : CopyAt w.drew B vN vF D ns fs := copy_kept h (row := none) ⟨rfl, rfl, rfl, Nat.le_refl _, fun _ _ _ => rfl⟩ (fun r e => by cases e)
theorem wrap_i64 (n : Int) : IntKind.i64.wrap n = (n + 9223372036854775808) % 18446744073709551616 - 9223372036854775808 := by
  simp only [IntKind.wrap, IntKind.bits, IntKind.signed]
  simp
  split <;> omega
theorem ofInt_wrap (x : BitVec 64) : BitVec.ofInt 64 (IntKind.i64.wrap (x.toNat : Int)) = x := by
  apply BitVec.eq_of_toNat_eq
  have := x.isLt
  rw [BitVec.toNat_ofInt, wrap_i64]
  omega
theorem getD_set_fl (fs : List Fl) (k i : Nat) (x : Fl) (hk : k < fs.length) : (fs.set k x).getD i ⟨0, []⟩ = if i = k then x else fs.getD i ⟨0, []⟩ := by
  rw [List.getD_eq_getElem?_getD, List.getD_eq_getElem?_getD, List.getElem?_set]
  by_cases e : k = i
  · subst e
    rw [if_pos rfl, if_pos hk, if_pos rfl]
    rfl
  · rw [if_neg e, if_neg (fun h => e h.symm)]
theorem store_st (P : Program) (w : World) (a : Addr) (m : Mode) (x : Bt) : (store a (St x) m).run P w = stored P w a (St x) m := run_store P w a _ m rfl
end Go.Proofs.Ytiglakhfkgeefaa
