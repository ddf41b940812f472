/-
What is proved here: on bytes alone: what a crash makes of what is held back: all is taken back, last first; then what is kept is written again, in order. No function of the program.
-/
import Derived.Test.YtibidljblkfciaaIterb
import Derived.Test.YtibidljblkfciaaHold
set_option linter.unusedSimpArgs false
namespace Go.Proofs.Ytibidljblkfciaa
open Go.Word Go.RowKit

theorem entIn {hs : List Ent} {d : Ent} {k : Nat} (h : k < hs.length) : hs.getD k d ∈ hs := by
  rw [List.getD_eq_getElem?_getD, List.getElem?_eq_getElem h]
  exact List.getElem_mem h
/-- the k-th that is held back -/
def entk (hs : List Ent) (d : { e : Ent // e ∈ hs }) (k : Nat) : { e : Ent // e ∈ hs } := if hk : k < hs.length then ⟨hs.getD k d.1, entIn hk⟩ else d
theorem entk_val {hs : List Ent} {d : { e : Ent // e ∈ hs }} {k : Nat} (h : k < hs.length) : (entk hs d k).1 = hs[k] := by
  unfold entk
  rw [dif_pos h]
  simp [List.getD_eq_getElem?_getD, h]
/-- what is held back is taken back, last first -/
def undo (hs : List Ent) (f : Nat → BitVec 8) : Nat → BitVec 8 := hs.foldr (fun e f => put f (512 * e.at_) e.dc) f
/-- what is kept is written, in order -/
def kept (kp : Nat → Bool) : Nat → List Ent → (Nat → BitVec 8) → Nat → BitVec 8
  | _, [], f => f
  | i, e :: r, f => kept kp (i + 1) r (if kp i then put f (512 * e.at_) e.da else f)
theorem kept_snoc (kp : Nat → Bool) (e : Ent) : ∀ (r : List Ent) (i : Nat) (f : Nat → BitVec 8), kept kp i (r ++ [e]) f = if kp (i + r.length) then put (kept kp i r f) (512 * e.at_) e.da else kept kp i r f
  | [], i, f => by simp [kept]
  | x :: r, i, f => by
    have := kept_snoc kp e r (i + 1) (if kp i then put f (512 * x.at_) x.da else f)
    simp only [List.cons_append, kept, List.length_cons]
    rw [this, show i + 1 + r.length = i + (r.length + 1) by omega]
def unL {hs : List Ent} (pre : List { e : Ent // e ∈ hs }) (f : Nat → BitVec 8) : Nat → BitVec 8 := pre.foldl (fun f x => put f (512 * x.1.at_) x.1.dc) f
def rdL {hs : List Ent} (kp : Nat → Bool) (pre : List (Nat × { e : Ent // e ∈ hs })) (f : Nat → BitVec 8) : Nat → BitVec 8 := pre.foldl (fun f x => if kp x.1 then put f (512 * x.2.1.at_) x.2.1.da else f) f
theorem unL_snoc {hs : List Ent} (pre : List { e : Ent // e ∈ hs }) (x : { e : Ent // e ∈ hs }) (f : Nat → BitVec 8) (p : Nat) (hp : p = 512 * x.1.at_) : unL (pre ++ [x]) f = put (unL pre f) p x.1.dc := by
  subst hp
  simp [unL]
theorem rdL_snoc {hs : List Ent} (kp : Nat → Bool) (pre : List (Nat × { e : Ent // e ∈ hs })) (x : Nat × { e : Ent // e ∈ hs }) (f : Nat → BitVec 8) : rdL kp (pre ++ [x]) f = if kp x.1 then put (rdL kp pre f) (512 * x.2.1.at_) x.2.1.da else rdL kp pre f := by
  simp [rdL]
theorem unL_all {hs : List Ent} (d : { e : Ent // e ∈ hs }) (f : Nat → BitVec 8) (N : Nat) (hN : N = hs.length) : unL (upto (fun j => entk hs d (N - 1 - j)) N) f = undo hs f := by
  subst hN
  have h : ∀ k, k ≤ hs.length → unL (upto (fun j => entk hs d (hs.length - 1 - j)) k) f = undo (hs.drop (hs.length - k)) f := by
    intro k
    induction k with
    | zero => intro _; simp [unL, upto, undo]
    | succ k ih =>
      intro hk
      rw [upto_succ, unL_snoc _ _ _ _ rfl, ih (by omega), entk_val (by omega)]
      have e : hs.drop (hs.length - (k + 1)) = hs[hs.length - 1 - k] :: hs.drop (hs.length - k) := by
        rw [List.drop_eq_getElem_cons (by omega)]
        congr 1
        · congr 1; omega
        · congr 1; omega
      rw [e]
      simp [undo]
  rw [h _ (Nat.le_refl _)]
  simp
theorem rdL_all {hs : List Ent} (d : { e : Ent // e ∈ hs }) (kp : Nat → Bool) (f : Nat → BitVec 8) (N : Nat) (hN : N = hs.length) : rdL kp (upto (fun j => (j, entk hs d j)) N) f = kept kp 0 hs f := by
  subst hN
  have h : ∀ k, k ≤ hs.length → rdL kp (upto (fun j => (j, entk hs d j)) k) f = kept kp 0 (hs.take k) f := by
    intro k
    induction k with
    | zero => intro _; simp [rdL, upto, kept]
    | succ k ih =>
      intro hk
      rw [upto_succ, rdL_snoc, ih (by omega), List.take_succ_eq_append_getElem (by omega), kept_snoc]
      rw [entk_val (by omega)]
      simp [show min k hs.length = k by omega]
  rw [h _ (Nat.le_refl _)]
  simp
/-- what an answer keep keeps -/
def keeps (kl : Nat) (ks : Nat → Int) (i : Nat) : Bool := decide (i < kl) && decide (0 < ks i)
/-- the bytes behind a crash -/
def crashed (kl : Nat) (ks : Nat → Int) (hs : List Ent) (f : Nat → BitVec 8) : Nat → BitVec 8 := kept (keeps kl ks) 0 hs (undo hs f)
/-- the numbers of a slice that came in, none of them in block B -/
def Ints (w : World) (B : Nat) (KA : Option Addr) (kl : Nat) (ks : Nat → Int) : Prop := ∀ i, i < kl → ∃ b o, KA = some ⟨b, o, none⟩ ∧ b < w.heap.size ∧ b ≠ B ∧ w.cell? ⟨b, o + i, none⟩ = some (.int .i64 (ks i))
/-- all is as it was, but blocks g and B -/
structure Two (g B : Nat) (w w' : World) : Prop where
  os : w'.os = w.os
  tape : w'.tape = w.tape
  output : w'.output = w.output
  size : w.heap.size ≤ w'.heap.size
  block : ∀ i, i < w.heap.size → i ≠ g → i ≠ B → w'.heap[i]? = w.heap[i]?
theorem two_end {w X W5 : World} {g B D D2 : Nat} {o1 o2 : Obj} (h : w.grownBy X (some B)) (g5 : X.grownBy W5 (some g)) (hD : w.heap.size ≤ D) (hD2 : w.heap.size ≤ D2) : Two g B w ((W5.putObj D2 o1).putObj D o2) := by
  have p1 := grownBy_putObj' W5 D2 o1
  have p2 := grownBy_putObj' (W5.putObj D2 o1) D o2
  refine ⟨p2.os.trans (p1.os.trans (g5.os.trans h.os)), p2.tape.trans (p1.tape.trans (g5.tape.trans h.tape)), p2.output.trans (p1.output.trans (g5.output.trans h.output)), Nat.le_trans h.size (Nat.le_trans g5.size (Nat.le_trans p1.size p2.size)), fun i hi h1 h2 => ?_⟩
  have i1 := Nat.lt_of_lt_of_le hi h.size
  have i2 := Nat.lt_of_lt_of_le i1 g5.size
  have i3 := Nat.lt_of_lt_of_le i2 p1.size
  rw [p2.block i i3 (fun e => by injection e with e; omega), p1.block i i2 (fun e => by injection e with e; omega), g5.block i i1 (fun e => by injection e with e; omega), h.block i hi (fun e => by injection e with e; omega)]
theorem ownFrom_grown {β : Type} {n₀ Bq : Nat} {w₀ : World} (hB : w₀.heap.size ≤ n₀) : Go.OwnFrom n₀ (fun (_ : β) W => w₀.grownBy W (some Bq)) :=
  fun _ X Y row hs hg hr => ⟨hg.os.trans hs.os, hg.tape.trans hs.tape, hg.output.trans hs.output, Nat.le_trans hs.size hg.size, fun i hi hne => (hg.block i (Nat.lt_of_lt_of_le hi hs.size) (fun e => by have := (hr i e.symm).1; omega)).trans (hs.block i hi hne)⟩
theorem ints_in {w X : World} {B : Nat} {KA : Option Addr} {kl : Nat} {ks : Nat → Int} (h : Ints w B KA kl ks) (hg : w.grownBy X (some B)) {i : Nat} (hi : i < kl) : ∃ b o, KA = some ⟨b, o, none⟩ ∧ X.cell? ⟨b, o + i, none⟩ = some (.int .i64 (ks i)) := by
  obtain ⟨b, o, e, hb, hB, hc⟩ := h i hi
  exact ⟨b, o, e, (only_cell (p := ⟨b, o + i, none⟩) hg hb hB).trans hc⟩
end Go.Proofs.Ytibidljblkfciaa
