/-
What is proved here: order's row of needs of which nothing goes round, by a contract: what the pure row comes to.
-/
import Derived.Test.YtnbjfmkckebfgaaGreatOtr
import Derived.Test.YtnbjfmkckebfgaaGreatOlt
set_option linter.unusedSimpArgs false
set_option linter.unusedVariables false
namespace Go.Proofs.YtnbjfmkckebfgaaGreat
open Go.Cmp Go.RowKit
/-- what lies in memory while the row is made: the counts, the line, the row -/
structure RwM (X : World) (O g : Nat) (v : Value) (rdy : List Nat) (op : List Int) (ov : Value) (out : List Nat) (wr : World) : Prop where
  low : But (fun k => k = g ∨ k = O) X wr
  opn : Lies wr O 3 (oRow op)
  lin : LnM X.heap.size g v rdy wr
  row : OwnI wr X.heap.size ov (zs out)
  dis : ∀ k, v.ownBlock = some k → ov.ownBlock ≠ some k
theorem rw_line {X : World} {O g : Nat} {v : Value} {rdy rdy' : List Nat} {op : List Int} {ov : Value} {out : List Nat} {wr w1 : World} (h : RwM X O g v rdy op ov out wr) (hO : O < X.heap.size) (he : LnE X.heap.size g v rdy' wr w1) : ∃ v', RwM X O g v' rdy' op ov out w1 := by
  obtain ⟨v', h1, h2, h3⟩ := he
  have hv : ∀ k, some k = v.ownBlock → X.heap.size ≤ k := fun k hk => (own_heap h.lin.own k hk.symm).1
  refine ⟨v', h.low.step h2 (fun i hi hp => ?_), h2.lies h.opn (fun hp => ?_), h1, own_but h.row h2 (fun k hk hp => ?_), fun k hk hk2 => ?_⟩
  · rcases hp with e | e
    · exact .inl e
    · have := hv i e; omega
  · rcases hp with e | e
    · have h4 := h.opn
      have h5 := h.lin.box
      unfold Lies at h4 h5
      rw [e, h5] at h4
      injection h4 with h4
      injection h4 with _ h4 _
      cases h4
    · have := hv O e; omega
  · rcases hp with e | e
    · exact own_ne h.row h.lin.box (by decide) (e ▸ hk)
    · exact h.dis k e.symm hk
  · rcases h3 with e | e
    · exact h.dis k (e ▸ hk) hk2
    · have h4 := e k hk
      have h5 := (own_heap h.row k hk2).2.1
      omega
theorem rw_open {X : World} {O g : Nat} {v : Value} {rdy : List Nat} {op : List Int} {ov : Value} {out : List Nat} {wr : World} (h : RwM X O g v rdy op ov out wr) (hO : O < X.heap.size) (i : Nat) (z : Int) : RwM X O g v rdy (op.set i z) ov out (wr.setCell ⟨O, i, none⟩ (.int .i64 z)) := by
  have hw : But (· = O) wr (wr.setCell ⟨O, i, none⟩ (.int .i64 z)) := (But.refl (· = O) wr).setCell (p := ⟨O, i, none⟩) (fun _ => rfl) _
  refine ⟨h.low.step hw (fun i hi hp => .inr hp), ?_, ⟨hw.lies h.lin.box (fun e => ?_), own_but h.lin.own hw (fun k hk hp => ?_)⟩, own_but h.row hw (fun k hk hp => ?_), h.dis⟩
  · have := lies_set h.opn i (.int .i64 z)
    rwa [oRow_set] at this
  · have h4 := h.opn
    have h5 := h.lin.box
    unfold Lies at h4 h5
    rw [e, h4] at h5
    injection h5 with h5
    injection h5 with _ h5 _
    cases h5
  · have := (own_heap h.lin.own k hk).1; omega
  · have := (own_heap h.row k hk).1; omega
theorem rw_out {X : World} {O g : Nat} {v : Value} {rdy : List Nat} {op : List Int} {ov : Value} {out : List Nat} {wr w1 : World} {o : Obj} {x G C : Nat} (h : RwM X O g v rdy op ov out wr) (hO : O < X.heap.size) (h1 : OwnI w1 X.heap.size (.slice (some ⟨G, 0, none⟩) (out.length + 1) C) (zs out ++ [(x : Int)])) (h2 : (wr.alloc o).grownBy w1 ov.ownBlock) (h3 : ov.ownBlock = some G ∨ G = (wr.alloc o).heap.size) :
    RwM X O g v rdy op (.slice (some ⟨G, 0, none⟩) (out.length + 1) C) (out ++ [x]) w1 := by
  have hb : But (fun k => some k = ov.ownBlock) wr w1 := ((But.refl _ wr).alloc o).trans (But.grown h2)
  have hv : ∀ k, some k = ov.ownBlock → X.heap.size ≤ k := fun k hk => (own_heap h.row k hk.symm).1
  refine ⟨h.low.step hb (fun i hi hp => by have := hv i hp; omega), hb.lies h.opn (fun hp => by have := hv O hp; omega), ⟨hb.lies h.lin.box (fun hp => own_ne h.row h.lin.box (by decide) hp.symm), own_but h.lin.own hb (fun k hk hp => h.dis k hk hp.symm)⟩, by rw [zs_app]; exact h1, fun k hk hk2 => ?_⟩
  injection hk2 with hk2
  have hk2' : G = k := hk2
  rcases h3 with h3 | h3
  · exact h.dis k hk (by rw [h3, hk2'])
  · have h5 := (own_heap h.lin.own k hk).2.1
    rw [World.size_alloc] at h3
    omega
/-- the line as least makes it -/
theorem least_any (w : World) : Calls Tryz.prog 9 #[] w fun e w' => e = .returned (.tuple #[.func (.func 15) #[.pointer (some ⟨w.heap.size, 0, none⟩)] #[], .func (.func 16) #[.pointer (some ⟨w.heap.size, 0, none⟩)] #[]]) ∧ w' = w.alloc (.cells #[.slice none 0 0, .func (.func 14) #[] #[]] 51) := by
  go_enter Tryz.func9, Tryz.ntmps9
  go_wp2
  go_ret2
  exact ⟨rfl, rfl⟩
theorem relF_len : ∀ (l : List Nat) (s : List Nat × List Int), (l.foldl relF s).2.length = s.2.length
  | [], s => rfl
  | x :: r, s => by rw [List.foldl_cons, relF_len r]; simp [relF]
theorem relF_big : ∀ (l : List Nat) (s : List Nat × List Int), (l.foldl relF s).1.length ≤ s.1.length + l.length
  | [], s => by simp
  | x :: r, s => by
    rw [List.foldl_cons]
    have := relF_big r (relF s x)
    have h2 : (relF s x).1.length ≤ s.1.length + 1 := by
      unfold relF
      simp only []
      split
      · simp
      · omega
    simp only [List.length_cons]
    omega
theorem simO_len (G : Gr) : ∀ k, (simO G k).opn.length = G.length
  | 0 => by simp [simO, opn0]
  | k + 1 => by
    rw [simO]
    unfold nextO
    simp only []
    rw [relF_len, simO_len G k]
theorem simO_out (G : Gr) : ∀ k, (simO G k).out.length = k
  | 0 => rfl
  | k + 1 => by
    rw [simO]
    unfold nextO
    simp only [List.length_append, List.length_singleton]
    rw [simO_out G k]
end Go.Proofs.YtnbjfmkckebfgaaGreat
