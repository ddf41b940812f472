/-
What is proved here: mix (a part mixed into the state), by a contract.
-/
import Derived.Test.YtlnmaejpchncoaaDoorSpread
import Derived.WalkMore
import Derived.Test.YtlnmaejpchncoaaDoorJumps
namespace Go.Proofs.YtlnmaejpchncoaaDoor
open Go.Word Go.RowKit
attribute [local go_sem] u_xor u_and u_or u_add u_not byte_word

/-- the numbers that the rounds add -/
def keys : List Nat := [0x428a2f98, 0x71374491, 0xb5c0fbcf, 0xe9b5dba5, 0x3956c25b, 0x59f111f1, 0x923f82a4, 0xab1c5ed5,
  0xd807aa98, 0x12835b01, 0x243185be, 0x550c7dc3, 0x72be5d74, 0x80deb1fe, 0x9bdc06a7, 0xc19bf174,
  0xe49b69c1, 0xefbe4786, 0x0fc19dc6, 0x240ca1cc, 0x2de92c6f, 0x4a7484aa, 0x5cb0a9dc, 0x76f988da,
  0x983e5152, 0xa831c66d, 0xb00327c8, 0xbf597fc7, 0xc6e00bf3, 0xd5a79147, 0x06ca6351, 0x14292967,
  0x27b70a85, 0x2e1b2138, 0x4d2c6dfc, 0x53380d13, 0x650a7354, 0x766a0abb, 0x81c2c92e, 0x92722c85,
  0xa2bfe8a1, 0xa81a664b, 0xc24b8b70, 0xc76c51a3, 0xd192e819, 0xd6990624, 0xf40e3585, 0x106aa070,
  0x19a4c116, 0x1e376c08, 0x2748774c, 0x34b0bcb5, 0x391c0cb3, 0x4ed8aa4a, 0x5b9cca4f, 0x682e6ff3,
  0x748f82ee, 0x78a5636f, 0x84c87814, 0x8cc70208, 0x90befffa, 0xa4506ceb, 0xbef9a3f7, 0xc67178f2]
def key (i : Nat) : BitVec 32 := BitVec.ofNat 32 (keys.getD i 0)
/-- the state as Go holds it -/
def stRow (s : St) : Array Value := #[U s.a, U s.b, U s.c, U s.d, U s.e, U s.f, U s.g, U s.h]
theorem stRow_one (s : St) : (stRow s).all (·.oneCell') = true := by
  rw [Array.all_eq_true_iff_forall_mem]
  intro v hv
  simp only [stRow, List.mem_toArray, List.mem_cons, List.not_mem_nil, or_false] at hv
  rcases hv with rfl | rfl | rfl | rfl | rfl | rfl | rfl | rfl <;> rfl
/-- the package's table of numbers lies in its block -/
def Keyed (w : World) : Prop := 1 ≤ w.heap.size ∧ ∀ i, i < 64 → w.cell? ⟨0, i, none⟩ = some (U (key i))

set_option maxRecDepth 100000 in
/-- the frame at the head of a round -/
def Frm (w : World) (g : Nat) (r : St) (i : Int) (a : Act) : Prop := ∃ u : Nat → Value, a = { tmps := List.toArray (u 0 :: u 1 :: (Value.pointer (some ⟨w.heap.size, 0, none⟩)) :: (Value.pointer (some ⟨w.heap.size + 1, 0, none⟩)) :: (Value.pointer (some ⟨w.heap.size + 1 + 1, 0, none⟩)) :: (Value.pointer (some ⟨g, 0, none⟩)) :: (U r.a) :: (U r.b) :: (U r.c) :: (U r.d) :: (U r.e) :: (U r.f) :: (U r.g) :: (U r.h) :: u 14 :: u 15 :: (Value.int .i64 i) :: u 17 :: u 18 :: u 19 :: u 20 :: u 21 :: u 22 :: u 23 :: u 24 :: u 25 :: u 26 :: u 27 :: u 28 :: u 29 :: u 30 :: u 31 :: u 32 :: u 33 :: u 34 :: u 35 :: u 36 :: u 37 :: u 38 :: u 39 :: u 40 :: u 41 :: u 42 :: u 43 :: u 44 :: u 45 :: u 46 :: u 47 :: u 48 :: u 49 :: u 50 :: u 51 :: u 52 :: u 53 :: u 54 :: u 55 :: u 56 :: u 57 :: u 58 :: u 59 :: u 60 :: u 61 :: u 62 :: u 63 :: u 64 :: u 65 :: u 66 :: u 67 :: u 68 :: u 69 :: u 70 :: u 71 :: u 72 :: u 73 :: u 74 :: u 75 :: u 76 :: u 77 :: u 78 :: u 79 :: u 80 :: u 81 :: u 82 :: u 83 :: u 84 :: u 85 :: u 86 :: u 87 :: u 88 :: u 89 :: u 90 :: u 91 :: u 92 :: u 93 :: u 94 :: u 95 :: u 96 :: u 97 :: u 98 :: u 99 :: u 100 :: u 101 :: u 102 :: u 103 :: u 104 :: u 105 :: u 106 :: u 107 :: u 108 :: u 109 :: u 110 :: u 111 :: u 112 :: u 113 :: u 114 :: u 115 :: u 116 :: u 117 :: u 118 :: u 119 :: u 120 :: u 121 :: u 122 :: u 123 :: u 124 :: u 125 :: u 126 :: u 127 :: u 128 :: u 129 :: u 130 :: []), defers := [] }
theorem frm_mk {w : World} {g : Nat} {r : St} {i : Int} (a : Act) (h : a = { tmps := List.toArray (a.tmps.getD 0 undef :: a.tmps.getD 1 undef :: (Value.pointer (some ⟨w.heap.size, 0, none⟩)) :: (Value.pointer (some ⟨w.heap.size + 1, 0, none⟩)) :: (Value.pointer (some ⟨w.heap.size + 1 + 1, 0, none⟩)) :: (Value.pointer (some ⟨g, 0, none⟩)) :: (U r.a) :: (U r.b) :: (U r.c) :: (U r.d) :: (U r.e) :: (U r.f) :: (U r.g) :: (U r.h) :: a.tmps.getD 14 undef :: a.tmps.getD 15 undef :: (Value.int .i64 i) :: a.tmps.getD 17 undef :: a.tmps.getD 18 undef :: a.tmps.getD 19 undef :: a.tmps.getD 20 undef :: a.tmps.getD 21 undef :: a.tmps.getD 22 undef :: a.tmps.getD 23 undef :: a.tmps.getD 24 undef :: a.tmps.getD 25 undef :: a.tmps.getD 26 undef :: a.tmps.getD 27 undef :: a.tmps.getD 28 undef :: a.tmps.getD 29 undef :: a.tmps.getD 30 undef :: a.tmps.getD 31 undef :: a.tmps.getD 32 undef :: a.tmps.getD 33 undef :: a.tmps.getD 34 undef :: a.tmps.getD 35 undef :: a.tmps.getD 36 undef :: a.tmps.getD 37 undef :: a.tmps.getD 38 undef :: a.tmps.getD 39 undef :: a.tmps.getD 40 undef :: a.tmps.getD 41 undef :: a.tmps.getD 42 undef :: a.tmps.getD 43 undef :: a.tmps.getD 44 undef :: a.tmps.getD 45 undef :: a.tmps.getD 46 undef :: a.tmps.getD 47 undef :: a.tmps.getD 48 undef :: a.tmps.getD 49 undef :: a.tmps.getD 50 undef :: a.tmps.getD 51 undef :: a.tmps.getD 52 undef :: a.tmps.getD 53 undef :: a.tmps.getD 54 undef :: a.tmps.getD 55 undef :: a.tmps.getD 56 undef :: a.tmps.getD 57 undef :: a.tmps.getD 58 undef :: a.tmps.getD 59 undef :: a.tmps.getD 60 undef :: a.tmps.getD 61 undef :: a.tmps.getD 62 undef :: a.tmps.getD 63 undef :: a.tmps.getD 64 undef :: a.tmps.getD 65 undef :: a.tmps.getD 66 undef :: a.tmps.getD 67 undef :: a.tmps.getD 68 undef :: a.tmps.getD 69 undef :: a.tmps.getD 70 undef :: a.tmps.getD 71 undef :: a.tmps.getD 72 undef :: a.tmps.getD 73 undef :: a.tmps.getD 74 undef :: a.tmps.getD 75 undef :: a.tmps.getD 76 undef :: a.tmps.getD 77 undef :: a.tmps.getD 78 undef :: a.tmps.getD 79 undef :: a.tmps.getD 80 undef :: a.tmps.getD 81 undef :: a.tmps.getD 82 undef :: a.tmps.getD 83 undef :: a.tmps.getD 84 undef :: a.tmps.getD 85 undef :: a.tmps.getD 86 undef :: a.tmps.getD 87 undef :: a.tmps.getD 88 undef :: a.tmps.getD 89 undef :: a.tmps.getD 90 undef :: a.tmps.getD 91 undef :: a.tmps.getD 92 undef :: a.tmps.getD 93 undef :: a.tmps.getD 94 undef :: a.tmps.getD 95 undef :: a.tmps.getD 96 undef :: a.tmps.getD 97 undef :: a.tmps.getD 98 undef :: a.tmps.getD 99 undef :: a.tmps.getD 100 undef :: a.tmps.getD 101 undef :: a.tmps.getD 102 undef :: a.tmps.getD 103 undef :: a.tmps.getD 104 undef :: a.tmps.getD 105 undef :: a.tmps.getD 106 undef :: a.tmps.getD 107 undef :: a.tmps.getD 108 undef :: a.tmps.getD 109 undef :: a.tmps.getD 110 undef :: a.tmps.getD 111 undef :: a.tmps.getD 112 undef :: a.tmps.getD 113 undef :: a.tmps.getD 114 undef :: a.tmps.getD 115 undef :: a.tmps.getD 116 undef :: a.tmps.getD 117 undef :: a.tmps.getD 118 undef :: a.tmps.getD 119 undef :: a.tmps.getD 120 undef :: a.tmps.getD 121 undef :: a.tmps.getD 122 undef :: a.tmps.getD 123 undef :: a.tmps.getD 124 undef :: a.tmps.getD 125 undef :: a.tmps.getD 126 undef :: a.tmps.getD 127 undef :: a.tmps.getD 128 undef :: a.tmps.getD 129 undef :: a.tmps.getD 130 undef :: []), defers := [] }) : Frm w g r i a := ⟨fun n => a.tmps.getD n undef, h⟩
/-- what holds at the head of round i -/
def Head (w : World) (s : St) (p : Nat → BitVec 8) (i : Nat) (a : Act) (wr : World) : Prop :=
  ∃ (g : Nat) (z : Int), z = i ∧ Frm w g (rounds key (word p) s i) z a ∧ Lies wr w.heap.size 59 (stRow s) ∧ Row wr (w.heap.size + 1 + 1) 59 8 (fun _ => undef) 0 ∧ Lies wr g 60 (uRow (word p) 64) ∧ w.heap.size + 1 + 1 < g ∧ Below w.heap.size w wr
def Jmp (w : World) (s : St) (p : Nat → BitVec 8) (l : Nat) (a : Act) (wr : World) : Prop :=
  (l = 1 ∧ ∃ i, i ≤ 64 ∧ Head w s p i a wr) ∨ (l = 0 ∧ Head w s p 64 a wr)
def Mu (l : Nat) (a : Act) (_ : World) : Nat := if l = 1 then 65 - (intOf (a.tmps.getD 16 undef)).toNat else 0

theorem behind_spread {w w1 : World} (s : St) (p : Nat → BitVec 8) {o : Array Value} (ho : o.size = 8) {z : Array Value} (hb : Below (((w.alloc (.cells (stRow s) 59)).alloc (.cells (yRow p 64) 64)).alloc (.cells o 59)).heap.size (((w.alloc (.cells (stRow s) 59)).alloc (.cells (yRow p 64) 64)).alloc (.cells o 59)) w1) {w2 : World} (hw : (w1.alloc (.cells z 60)).setRow w1.heap.size (uRow (word p) 64) = w2) :
    Lies w2 w.heap.size 59 (stRow s) ∧ Row w2 (w.heap.size + 1 + 1) 59 8 (fun _ => undef) 0 ∧ Lies w2 w1.heap.size 60 (uRow (word p) 64) ∧ w.heap.size + 1 + 1 < w1.heap.size ∧ Below w.heap.size w w2 := by
  subst hw
  have hs := hb.size
  simp at hs
  have a1 : Lies (((w.alloc (.cells (stRow s) 59)).alloc (.cells (yRow p 64) 64)).alloc (.cells o 59)) w.heap.size 59 (stRow s) := lies_alloc (lies_alloc (lies_new _ _ _) _) _
  have a2 : Row (((w.alloc (.cells (stRow s) 59)).alloc (.cells (yRow p 64) 64)).alloc (.cells o 59)) (w.heap.size + 1 + 1) 59 8 (fun _ => undef) 0 := row_new' _ _ _ _ _ _ _ (by simp) ho (fun j hj => by omega)
  have b1 := lies_below a1 hb (by simp; omega)
  have b2 := row_below a2 hb (by simp)
  refine ⟨(setRow_other _ _ _ _ (by omega)).trans (lies_alloc b1 _), ?_, lies_setRow (lies_new w1 60 z) _, by omega, ?_⟩
  · obtain ⟨cs, h, r⟩ := row_alloc b2 (.cells z 60)
    exact ⟨cs, (setRow_other _ _ _ _ (by omega)).trans h, r⟩
  · exact below_setRow ((((((Below.refl w.heap.size w).alloc (Nat.le_refl _) _).alloc (by simp) _).alloc (by simp; omega) _).trans (hb.mono (by simp; omega))).alloc (by omega) _) (by omega) _

set_option maxRecDepth 100000 in
set_option maxHeartbeats 2000000 in
theorem mix_any (s : St) (p : Nat → BitVec 8) (w : World) (hk : Keyed w) :
    Calls Tryd.prog 28 #[.agg (stRow s), .agg (yRow p 64)] w fun e w' => e = .returned (.agg (stRow (mixed key s p))) ∧ Below w.heap.size w w' := by
  have h53 : Lies ((w.alloc (.cells (stRow s) 59)).alloc (.cells (yRow p 64) 64)) (w.heap.size + 1) 64 (yRow p 64) := by
    have := lies_new (w.alloc (.cells (stRow s) 59)) 64 (yRow p 64)
    simpa using this
  have HB := Lib.hid h53
  clear h53
  have HK := Lib.hid hk
  clear hk
  go_enter Tryd.func28, Tryd.ntmps28
  go_wp2
  refine wp_scope_labels (Jmp w s p) Mu ?_ ?_
  · rintro l a wr (⟨rfl, i, hi, g, z, hz, hf, h1, h2, h3, h4, h5⟩ | ⟨rfl, g, z, hz, hf, h1, h2, h3, h4, h5⟩)
    · refine ⟨_, rfl, ?_⟩
      obtain ⟨u, rfl⟩ := hf
      subst hz
      obtain ⟨r, hr⟩ : ∃ r, rounds key (word p) s i = r := ⟨_, rfl⟩
      rw [hr]
      have HR := Lib.hid hr
      clear hr
      by_cases hlt : i < 64
      · have ck := (h5.cell (p := ⟨0, i, none⟩) (by have := HK.out.1; show 0 < _; omega)).trans (HK.out.2 i hlt)
        have cw := (lies_cell h3 i).trans (uRow_at (word p) hlt)
        have li : (i : Int) < 64 := by omega
        go_wp2
        go_quiet ((go_at_call 32; exact Calls.quiet_of_same (turn_q _ _ _ (by decide) (by decide))))
        clear ck cw
        have k1 := lies_drewN h1 nq
        have k2 := row_drewN h2 nq
        have k3 := lies_drewN h3 nq
        have k5 := below_drewN h5 nq
        clear h1 h2 h3 h5
        generalize wr.drewN nq = w4 at *
        go_wp2_with (go_at_call 32; (with_reducible refine (turn_z _ _ _ (by decide) (by decide)).mono ?_); rintro e w' ⟨rfl, rfl⟩)
        go_step3
        have e : rounds key (word p) s (i + 1) = r.round (key i) (word p i) := by rw [rounds, HR.out]
        show Jmp w s p 1 _ _ ∧ Mu 1 _ _ < Mu 1 _ _
        refine ⟨Or.inl ⟨rfl, i + 1, by omega, g, (i : Int) + 1, by omega, (by rw [e]; exact frm_mk _ rfl), k1, k2, k3, h4, k5⟩, ?_⟩
        show 65 - ((i : Int) + 1).toNat < 65 - (i : Int).toNat
        omega
      · obtain rfl : i = 64 := by omega
        go_wp2
        go_step3
        show Jmp w s p 0 _ _ ∧ Mu 0 _ _ < Mu 1 _ _
        refine ⟨Or.inr ⟨rfl, g, 64, rfl, (by rw [HR.out]; exact frm_mk _ rfl), h1, h2, h3, h4, h5⟩, ?_⟩
        show 0 < 65 - (64 : Int).toNat
        decide
    · refine ⟨_, rfl, ?_⟩
      obtain ⟨u, rfl⟩ := hf
      have e : mixed key s p = s.plus (rounds key (word p) s 64) := rfl
      obtain ⟨r, hr⟩ : ∃ r, rounds key (word p) s 64 = r := ⟨_, rfl⟩
      rw [hr] at e ⊢
      have HR := Lib.hid e
      clear hr e
      have c0 := lies_cell h1 0
      have c1 := lies_cell h1 1
      have c2 := lies_cell h1 2
      have c3 := lies_cell h1 3
      have c4 := lies_cell h1 4
      have c5 := lies_cell h1 5
      have c6 := lies_cell h1 6
      have c7 := lies_cell h1 7
      simp only [stRow, List.getElem?_toArray, List.getElem?_cons_zero, List.getElem?_cons_succ] at c0 c1 c2 c3 c4 c5 c6 c7
      obtain ⟨old, h2, hold, _⟩ := h2
      have H2 := Lib.hid h2
      have HO := Lib.hid hold
      clear h2 hold h1 h3 h4 hz
      go_wp2_with (first | (refine wpList_built rfl 59 _ rfl (stRow (s.plus r)) (by kernel_rfl) ?_) | (refine wpList_store_row rfl 59 _ _ rfl (w.heap.size + 1 + 1) (stRow (s.plus r)) rfl rfl 59 old H2.out (by kernel_rfl) HO.out (stRow_one _) ?_))
      change bodyPost Tryd.prog Tryd.f28 (fun e w' => e = .returned (.agg (stRow (mixed key s p))) ∧ Below w.heap.size w w') .ret _ _
      refine bodyPost_ret (results_cell_row rfl _ _ (w.heap.size + 1 + 1) 59 (stRow (s.plus r)) (0, 0) _ rfl (lies_setRow H2.out _) Tryd.underlying59 rfl (by kernel_rfl)) rfl ⟨by rw [HR.out], below_setRow h5 (by omega) _⟩
  · intro h
    have HH := Lib.hid h
    clear h
    go_wp2_with (first
      | (refine wpList_load_row rfl 64 _ rfl (w.heap.size + 1) rfl 64 (yRow p 64) (0, 0) _ (lies_alloc HB.out _) Tryd.underlying64 rfl (by rw [yRow_size]; kernel_rfl) ?_)
      | (go_at_call 31; (with_reducible refine (spread_any _ _).mono ?_); rintro e w1 ⟨rfl, hb⟩)
      | (refine wpList_store_row rfl 60 _ _ rfl _ (uRow (word p) 64) rfl rfl 60 _ (lies_new _ _ _) (by rw [uRow_size]; kernel_rfl) (by rw [uRow_size]; rfl) (uRow_one _ _) ?_))
    generalize hw : World.setRow _ w1.heap.size (uRow (word p) 64) = w2
    obtain ⟨h1, h2, h3, h4, h5⟩ := behind_spread s p rfl hb hw
    clear hb hw
    generalize w1.heap.size = g at *
    have c0 := lies_cell h1 0
    have c1 := lies_cell h1 1
    have c2 := lies_cell h1 2
    have c3 := lies_cell h1 3
    have c4 := lies_cell h1 4
    have c5 := lies_cell h1 5
    have c6 := lies_cell h1 6
    have c7 := lies_cell h1 7
    simp only [stRow, List.getElem?_toArray, List.getElem?_cons_zero, List.getElem?_cons_succ] at c0 c1 c2 c3 c4 c5 c6 c7
    go_quiet (fail)
    clear c0 c1 c2 c3 c4 c5 c6 c7
    have k1 := lies_drewN h1 nq
    have k2 := row_drewN h2 nq
    have k3 := lies_drewN h3 nq
    have k5 := below_drewN h5 nq
    clear h1 h2 h3 h5
    generalize w2.drewN nq = w3 at *
    go_wp2
    go_step3
    go_step
    go_step
    refine HH.out 1 _ _ _ rfl (Or.inl ⟨rfl, 0, by omega, g, 0, rfl, frm_mk _ rfl, k1, k2, k3, h4, k5⟩)
end Go.Proofs.YtlnmaejpchncoaaDoor
