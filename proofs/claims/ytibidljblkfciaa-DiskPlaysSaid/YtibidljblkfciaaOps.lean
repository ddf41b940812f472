/-
What is proved here: the small functions of the disk, each by a contract.
-/
import Derived.Test.YtibidljblkfciaaBas
import Derived.Laws.CopyOwn
import Derived.Laws.BytesArg
import Derived.Deep.Cut
import Derived.Deep.CutBlock
import Derived.StillTailTactics
set_option linter.unusedSimpArgs false
namespace Go.Proofs.Ytibidljblkfciaa
open Go.Word Go.RowKit

/-- a write that is held back: its block, where its bytes lie, where what was there lies, and both -/
structure Ent where
  at_ : Nat
  a : Nat
  c : Nat
  da : Nat → BitVec 8
  dc : Nat → BitVec 8
def Ent.cells (e : Ent) : List Value := [.int .i64 (e.at_ : Int), .slice (some ⟨e.a, 0, none⟩) 512 512, .slice (some ⟨e.c, 0, none⟩) 512 512]
/-- the cells of a Disk -/
def DRow (B K : Nat) (hv : Value) (on : Bool) (lf : Int) : Array Value := #[.slice (some ⟨B, 0, none⟩) K K, hv, .bool on, .int .i64 lf]
/-- the Disk in block g: its bytes in block B, what is held back in blocks from base on -/
structure Dsk (w : World) (g B base n K : Nat) (f : Nat → BitVec 8) (hv : Value) (hs : List Ent) (on : Bool) (lf : Int) : Prop where
  self : Lies w g 65 (DRow B K hv on lf)
  bytes : Lies w B 5 (yRow f K)
  held : w.ownsRow base 73 3 hv hs.length (hs.flatMap Ent.cells)
  size : K = 512 * n
  most : 1 ≤ n ∧ n ≤ 4096
  ord : (B ≠ g ∧ B < base) ∧ g < base ∧ base ≤ w.heap.size
  rows : ∀ e ∈ hs, e.at_ < n ∧ base ≤ e.a ∧ base ≤ e.c ∧ Lies w e.a 5 (yRow e.da 512) ∧ Lies w e.c 5 (yRow e.dc 512) ∧ hv.ownBlock ≠ some e.a ∧ hv.ownBlock ≠ some e.c
def Src8 (w : World) (ad : Addr) (f : Nat → BitVec 8) (k : Nat) : Prop := ∀ j, j < k → w.cell? (ad.add j) = some (Y (f j))

theorem byte_info : (Try.prog.info? 5).map (fun i => (i.zero, i.size, i.bytes)) = some (some (.int .u8 0), 1, 1) := by kernel_rfl
theorem made_n (n : Nat) (h : n ≤ 3000000) (W : World) : (Instr.makeSlice 44 (.int .i64 (n : Int)) (.int .i64 (n : Int))).run Try.prog W =
    .ok (.slice (some ⟨W.heap.size, 0, none⟩) n n) (W.alloc (.cells (madeCells #[.int .u8 0] n) 5)) := by
  obtain ⟨i, hi, hz0, hz1, hz2⟩ := info_parts byte_info
  have := run_make (P := Try.prog) W 44 5 i (.int .u8 0) Try.underlying44 hi hz0 .i64 .i64 (n : Int) (n : Int) (by omega) (by omega) (by rw [hz2]; omega) (by omega)
  rw [this, hz1, Int.toNat_natCast, Nat.mul_one]
  rfl
theorem made_size (n : Nat) : (madeCells #[.int .u8 0] n).size = n := by simp [madeCells]
theorem made_zero (n : Nat) : madeCells #[.int .u8 0] n = yRow (fun _ => 0) n := by
  refine Array.ext_getElem? fun j => ?_
  by_cases h : j < n
  · rw [yRow_at _ h]; simp [madeCells, h, Nat.mod_one]; rfl
  · rw [Array.getElem?_eq_none (by rw [made_size]; omega), Array.getElem?_eq_none (by rw [yRow_size]; omega)]
theorem y_one (l : List Nat) (f : Nat → BitVec 8) : ∀ v ∈ l.map fun j => Y (f j), v.oneCell' = true := by
  intro v hv
  simp only [List.mem_map] at hv
  obtain ⟨x, _, rfl⟩ := hv
  rfl
/-- copy into a part of a block -/
theorem wpList_copy_n {P : Program} {w : World} {ops : Array Oper} {rest : List Oper} {o : Oper} {a : Act} {Q : Exit → Act → World → Prop} (hgd : o.guard = none) (d s : Operand) (dT sT : TypeId)
    (ho : o.op = .call { callee := .builtin .copy, args := #[d, s], argTypes := #[dT, sT] }) (elem : TypeId) (hu : P.underlying dT = some (.slice elem)) (hsz : (P.info? elem).map (·.size) = some 1)
    (g off dCap : Nat) (ad : Addr) (sCap : Nat) (n : Nat) (hd : a.eval d = .slice (some ⟨g, off, none⟩) n dCap) (hs : a.eval s = .slice (some ad) n sCap)
    (cur : Array Value) (t : TypeId) (hg : w.heap[g]? = some (.cells cur t (0, 0))) (f : Nat → BitVec 8)
    (hsrc : Src8 w ad f n) (hfit : off + n ≤ cur.size)
    (h : wpList P ops Q rest (a.put o.dst (.int .i64 (n : Int))) (w.setRow g (cur.toList.take off ++ (((List.range n).map fun j => Y (f j)) ++ cur.toList.drop (off + n))).toArray)) : wpList P ops Q (o :: rest) a w := by
  have hl : ((List.range n).map fun j => Y (f j)).length = n := by simp
  refine wpList_copy_own hgd d s dT sT ho elem hu hsz g off n dCap ad n sCap hd hs cur t hg ((List.range n).map fun j => Y (f j)) (by rw [hl]; exact (Nat.min_self n).symm) (fun j v hv => ?_) (by rw [hl]; exact hfit) (y_one _ f) (by rw [show goInt ((List.range n).map fun j => Y (f j)).length = .int .i64 (n : Int) by rw [hl]; rfl, hl]; exact h)
  have hj : j < n := by
    rcases Nat.lt_or_ge j n with h | h
    · exact h
    · rw [List.getElem?_eq_none (by rw [hl]; exact h)] at hv; cases hv
  rw [hsrc j hj]
  simpa [hj] using hv
theorem copied_all (f : Nat → BitVec 8) (k : Nat) (cur : Array Value) (h : cur.size = k) : (cur.toList.take 0 ++ (((List.range k).map fun j => Y (f j)) ++ cur.toList.drop (0 + k))).toArray = yRow f k := by
  have : cur.toList.drop (0 + k) = [] := List.drop_eq_nil_of_le (by simp; omega)
  rw [this]
  refine Array.ext_getElem? fun j => ?_
  by_cases hj : j < k
  · rw [yRow_at _ hj]; simp [hj]
  · rw [Array.getElem?_eq_none (by simp; omega), Array.getElem?_eq_none (by rw [yRow_size]; omega)]

set_option maxHeartbeats 400000 in
theorem twin_any (ad : Addr) (k c : Nat) (f : Nat → BitVec 8) (w : World) (hk : k ≤ 3000000) (hs : Src8 w ad f k) (hl : ad.block < w.heap.size) :
    Calls Try.prog 32 #[.slice (some ad) k c] w fun e w' => ∃ g, e = .returned (.slice (some ⟨g, 0, none⟩) k k) ∧ w.heap.size = g ∧ Lies w' g 5 (yRow f k) ∧ Below w.heap.size w w' := by
  have hmk := fun W => made_n k hk W
  have HS := Lib.hid hs
  have HL := Lib.hid hl
  clear hs hl
  go_enter Try.func32, Try.ntmps32
  go_upto_region 2 with (fail)
  obtain ⟨G, hG⟩ : ∃ G, w.heap.size = G := ⟨_, rfl⟩
  have l1 := lies_new w 5 (madeCells #[.int .u8 0] k)
  have b1 : Below w.heap.size w (w.alloc (.cells (madeCells #[.int .u8 0] k) 5)) := (Below.refl _ _).alloc (Nat.le_refl _) _
  have s1 : Src8 (w.alloc (.cells (madeCells #[.int .u8 0] k) 5)) ad f k := fun j hj => by
    rw [b1.cell (by rw [add_block]; exact HL.out)]; exact HS.out j hj
  rw [hG] at l1 ⊢
  generalize w.alloc (.cells (madeCells #[.int .u8 0] k) 5) = W at *
  have L1 := Lib.hid l1
  have S1 := Lib.hid s1
  clear l1 s1 hmk
  go_wp2_with (refine wpList_copy_n rfl (.tmp 7) (.tmp 8) 44 44 rfl 5 Try.underlying44 (by kernel_rfl) G 0 k ad c k rfl rfl _ 5 L1.out f S1.out (by rw [made_size]; omega) ?_; rw [copied_all f k _ (made_size k)])
  go_ret
  exact ⟨G, rfl, hG, lies_setRow L1.out _, below_setRow b1 (by omega) _⟩

theorem on_any (g : Nat) (on : Bool) (w : World) (h : w.cell? ⟨g, 2, none⟩ = some (.bool on)) :
    Calls Try.prog 20 #[.pointer (some ⟨g, 0, none⟩)] w fun e w' => e = .returned (.bool on) ∧ w = w' := by
  go_enter Try.func20, Try.ntmps20
  go_wp2
  go_ret
  exact ⟨rfl, rfl⟩
theorem blocks_any (g B n K : Nat) (w : World) (hK : K = 512 * n) (hn : n ≤ 4096) (h : w.cell? ⟨g, 0, none⟩ = some (.slice (some ⟨B, 0, none⟩) K K)) :
    Calls Try.prog 30 #[.pointer (some ⟨g, 0, none⟩)] w fun e w' => e = .returned (.int .i64 (n : Int)) ∧ w = w' := by
  have hq : (K : Int).tdiv 512 = (n : Int) := by rw [Int.tdiv_eq_ediv_of_nonneg (by omega)]; omega
  have hq2 : (K : Int) / 512 = (n : Int) := by omega
  clear hK
  go_enter Try.func30, Try.ntmps30
  go_wp2
  go_ret
  exact ⟨rfl, rfl⟩
theorem num_any (z : Int) (w : World) : Calls Try.prog 24 #[.int .i64 z] w fun e w' => e = .returned (.int .i64 z) ∧ w = w' := by
  go_enter Try.func24, Try.ntmps24
  go_wp2
  go_ret
  exact ⟨rfl, rfl⟩
/-- why a block can't be reached -/
def why (on : Bool) (n : Nat) (z : Int) : Int := if on = false then 11 else if z < 0 ∨ (n : Int) ≤ z then 10 else 0
set_option maxHeartbeats 400000 in
theorem reach_any (g B n K : Nat) (hv : Value) (on : Bool) (lf : Int) (z : Int) (w : World) (hK : K = 512 * n) (hn : n ≤ 4096) (h : Lies w g 65 (DRow B K hv on lf)) :
    Calls Try.prog 39 #[.pointer (some ⟨g, 0, none⟩), .int .i64 z] w fun e w' => e = .returned (.int .i64 (why on n z)) ∧ w = w' := by
  have F1 := Lib.hid (on_any g on w (lies_cell h 2))
  have F2 := Lib.hid (blocks_any g B n K w hK hn (lies_cell h 0))
  clear h
  cases on with
  | false =>
    go_enter Try.func39, Try.ntmps39
    go_wp2_with (go_at_call 20; (with_reducible refine F1.out.mono ?_); rintro e w' ⟨rfl, rfl⟩)
    go_ret
    exact ⟨rfl, rfl⟩
  | true =>
    by_cases h1 : z < 0
    · have t1 : decide (z < 0) = true := decide_eq_true h1
      have e : why true n z = 10 := by simp [why, h1]
      rw [e]
      clear e
      go_enter Try.func39, Try.ntmps39
      go_wp2_with (go_at_call 20; (with_reducible refine F1.out.mono ?_); rintro e w' ⟨rfl, rfl⟩)
      go_ret
      exact ⟨rfl, rfl⟩
    · have t1 : decide (z < 0) = false := decide_eq_false h1
      by_cases h2 : (n : Int) ≤ z
      · have t2 : decide ((n : Int) ≤ z) = true := decide_eq_true h2
        have e : why true n z = 10 := by simp [why, h2]
        rw [e]
        clear e
        go_enter Try.func39, Try.ntmps39
        go_wp2_with (first
          | (go_at_call 20; (with_reducible refine F1.out.mono ?_); rintro e w' ⟨rfl, rfl⟩)
          | (go_at_call 30; (with_reducible refine F2.out.mono ?_); rintro e w' ⟨rfl, rfl⟩))
        go_ret
        exact ⟨rfl, rfl⟩
      · have t2 : decide ((n : Int) ≤ z) = false := decide_eq_false h2
        have e : why true n z = 0 := by simp [why, h1, h2]
        rw [e]
        clear e
        go_enter Try.func39, Try.ntmps39
        go_wp2_with (first
          | (go_at_call 20; (with_reducible refine F1.out.mono ?_); rintro e w' ⟨rfl, rfl⟩)
          | (go_at_call 30; (with_reducible refine F2.out.mono ?_); rintro e w' ⟨rfl, rfl⟩))
        go_ret
        exact ⟨rfl, rfl⟩
theorem slice_block (B K p : Nat) (h : p + 512 ≤ K) (W : World) : (Instr.slice 44 (.slice (some ⟨B, 0, none⟩) K K) (some (.int .i64 (p : Int))) (some (.int .i64 ((p : Int) + 512))) (some (.int .i64 ((p : Int) + 512)))).run Try.prog W = .ok (.slice (some ⟨B, p, none⟩) 512 512) W := by
  have := run_slice_lhm (P := Try.prog) W 44 (some ⟨B, 0, none⟩) K K Try.underlying44 .i64 .i64 .i64 (p : Int) ((p : Int) + 512) ((p : Int) + 512) (by omega) (by omega) (by omega) (by omega)
  rw [this]
  have hz : (sizeOf (Try.prog.elem 44)).run Try.prog W = .ok 1 W := by kernel_rfl
  rw [hz]
  have e : ((p : Int) + 512).toNat = p + 512 := by omega
  simp [sliced, Result.andThen, e, Addr.add]
  omega
theorem block_any (g B n K : Nat) (hv : Value) (on : Bool) (lf : Int) (at_ p : Nat) (w : World) (hK : K = 512 * n) (hn : n ≤ 4096) (hp : p = 512 * at_) (ha : at_ < n) (h : Lies w g 65 (DRow B K hv on lf)) :
    Calls Try.prog 40 #[.pointer (some ⟨g, 0, none⟩), .int .i64 (at_ : Int)] w fun e w' => e = .returned (.slice (some ⟨B, p, none⟩) 512 512) ∧ w = w' := by
  have c0 : w.cell? ⟨g, 0, none⟩ = some (.slice (some ⟨B, 0, none⟩) K K) := lies_cell h 0
  have hs := fun W => slice_block B K p (by omega) W
  have e1 : (at_ : Int) * 512 = (p : Int) := by omega
  have e2 : ((at_ : Int) + 1) * 512 = (p : Int) + 512 := by omega
  have hb : at_ ≤ 4096 := by omega
  clear h hK hp
  go_enter Try.func40, Try.ntmps40
  go_wp2
  go_ret
  exact ⟨rfl, rfl⟩
end Go.Proofs.Ytibidljblkfciaa
