/-
What is proved here: the laws' small helpers: a block of bytes in one new block, a row of writes, two disks that read alike.
-/
import Derived.Test.YtibidljblkfciaaDk
import Derived.Laws.BitsLemmas
set_option linter.unusedSimpArgs false
namespace Go.Word
section
variable {P : Program} {md : Region.Mode} {ops : Array Oper} {Q : Exit → Act → World → Prop} {own : Nat → Option Nat} {vals : Nat → Value} {a0 : Act}
/-- every order at once, where the last operation may do what it will -/
theorem every_last (rank : Nat → Nat) (last : Nat) (Wf : Array Bool → World)
    (hac : ∀ (i : Nat) (oi : Oper), ops[i]? = some oi → ∀ e ∈ oi.after, Region.binds md e = true → rank e.on < rank i)
    (hon : ∀ (i : Nat) (oi : Oper), ops[i]? = some oi → ∀ e ∈ oi.after, e.on < ops.size)
    (hlast : last < ops.size)
    (hdst : ∀ i oi, ops[i]? = some oi → (oi.dst = none ∧ ∀ t, own t ≠ some i) ∨ ∃ d, oi.dst = some d ∧ d < a0.tmps.size ∧ own d = some i ∧ ∀ t, own t = some i → t = d)
    (hop : ∀ i oi a listed, ops[i]? = some oi → i ≠ last → listed.getD i false = false → listed.size = ops.size → Shut md ops listed → (∀ e ∈ oi.after, Region.binds md e = true → listed.getD e.on false = true) → Tabd own vals a0 listed a →
      Region.wanted oi (yielded ops a.tmps) = true ∧ ∀ K : Act → World → Prop, K (a.put oi.dst (vals i)) (Wf (listed.setIfInBounds i true)) → Oper.wp P oi a (Wf listed) K Q)
    (hall : ∀ listed : Array Bool, Shut md ops listed → (∀ ol, ops[last]? = some ol → ∀ e ∈ ol.after, Region.binds md e = true → listed.getD e.on false = true) → ∀ i, i < ops.size → i ≠ last → listed.getD i false = true)
    (hl : ∀ a listed ol, ops[last]? = some ol → (∀ i, i < ops.size → i ≠ last → listed.getD i false = true) → listed.getD last false = false → Tabd own vals a0 listed a → listed.size = ops.size →
      Region.wanted ol (yielded ops a.tmps) = true ∧ ∀ K : Act → World → Prop, (∀ a' w', Q .normal a' w' → K a' w') → Oper.wp P ol a (Wf listed) K Q) :
    ∀ (fuel : Nat) (listed : Array Bool) (a : Act), listed.size = ops.size → Shut md ops listed → listed.getD last false = false → listed.toList.count false ≤ fuel → Tabd own vals a0 listed a → wpAny P md ops Q fuel listed a (Wf listed) := by
  intro fuel
  induction fuel with
  | zero =>
    intro listed a hs _ hlf hc _
    have hun : listed.getD last true = false := by
      rw [Array.getD_eq_getD_getElem?, Array.getElem?_eq_getElem (by omega)] at hlf ⊢
      simpa using hlf
    have := count_pos (by omega) hun
    omega
  | succ fuel ih =>
    intro listed a hs hcl hlf hc ht
    refine ⟨fun hr => ?_, fun i hi => ?_⟩
    · have := all_listed hac hs hon hr last hlast
      rw [hlf] at this
      cases this
    obtain ⟨hun, oi, hoi, hdeps⟩ := mem_ready.1 hi
    have hilt : i < ops.size := (Array.getElem?_eq_some_iff.1 hoi).1
    have hun2 : listed.getD i false = false := by
      rw [Array.getD_eq_getD_getElem?, Array.getElem?_eq_getElem (by omega)] at hun ⊢
      simpa using hun
    by_cases hil : i = last
    · subst hil
      have hothers := hall listed hcl (fun ol hol => by rw [hoi] at hol; injection hol with hol; subst hol; exact hdeps)
      obtain ⟨hw, hK⟩ := hl a listed oi hoi hothers hlf ht hs
      unfold wpOp
      rw [hoi]
      simp only [hw, if_true]
      refine .inl (hK _ fun a' w' hq => wpAny_done (List.eq_nil_iff_forall_not_mem.2 fun j hj => ?_) hq fuel)
      obtain ⟨hj1, oj, hoj, _⟩ := mem_ready.1 hj
      have hjlt : j < ops.size := (Array.getElem?_eq_some_iff.1 hoj).1
      by_cases hji : j = i
      · subst hji
        simp [hs, hjlt] at hj1
      · rw [getD_set_ne true (Ne.symm hji)] at hj1
        have h2 := hothers j hjlt hji
        rw [Array.getD_eq_getD_getElem?, Array.getElem?_eq_getElem (by omega)] at hj1 h2
        simp only [Option.getD_some] at hj1 h2
        rw [hj1] at h2
        cases h2
    obtain ⟨hw, hK⟩ := hop i oi a listed hoi hil hun2 hs hcl hdeps ht
    unfold wpOp
    rw [hoi]
    simp only [hw, if_true]
    refine .inl (hK _ (ih _ _ (by simp [hs]) (shut_set hcl hs hoi hdeps) (by rw [getD_set_ne false hil]; exact hlf) (count_set (by omega) hun hc) ?_))
    rcases hdst i oi hoi with ⟨hd, hno⟩ | ⟨d, hd, hdl, hod, hinj⟩
    · rw [hd]; exact tabd_skip ht hno
    · rw [hd]; exact tabd_put ht (by omega) hdl hod hinj
end
section
variable {P : Program} {Q : Exit → Act → World → Prop} {a : Act} {w w' : World} {K : Act → World → Prop} {oi : Oper}
theorem wp_valueW {v : Value} (hr : (execOp a.eval oi).run P w = .ok (.value v) w) (hW : w' = w) (h : K (a.put oi.dst v) w') : Oper.wp P oi a w K Q := by
  subst hW
  unfold Oper.wp
  rw [hr]
  exact h
theorem wp_callW {v : Value} {f : FuncId} {args : Array Value} (hr : (execOp a.eval oi).run P w = .ok (.enter f args) w) (hc : Calls P f args w fun e w2 => e = .returned v ∧ w2 = w') (h : K (a.put oi.dst v) w') : Oper.wp P oi a w K Q := by
  unfold Oper.wp
  rw [hr]
  refine hc.mono ?_
  rintro e w2 ⟨rfl, rfl⟩
  exact h
theorem wp_callR {v : Value} {R : World → Prop} {f : FuncId} {args : Array Value} (hr : (execOp a.eval oi).run P w = .ok (.enter f args) w) (hc : Calls P f args w fun e w2 => e = .returned v ∧ R w2) (h : ∀ w2, R w2 → K (a.put oi.dst v) w2) : Oper.wp P oi a w K Q := by
  unfold Oper.wp
  rw [hr]
  refine hc.mono ?_
  rintro e w2 ⟨rfl, hR⟩
  exact h _ hR
end
end Go.Word
namespace Go.Proofs.Ytibidljblkfciaa
open Go.Word Go.RowKit

theorem and7 (n : Int) : bits .and .i64 n 7 = n % 8 := by
  have h127 : (BitVec.ofInt 64 7).toNat = 2 ^ 3 - 1 := by decide
  have key : (BitVec.ofInt 64 n &&& BitVec.ofInt 64 7).toNat = (n % ((2 ^ 64 : Nat) : Int)).toNat % 2 ^ 3 := by
    rw [BitVec.toNat_and, BitVec.toNat_ofInt, h127, Nat.and_two_pow_sub_one_eq_mod]
  show IntKind.i64.wrap ((BitVec.ofInt 64 n &&& BitVec.ofInt 64 7).toNat : Nat) = n % 8
  rw [key, IntKind.wrap_i64]
  omega
set_option maxHeartbeats 400000 in
/-- the law's block, in one new block -/
theorem blkx (z : Int) (w : World) :
    Calls Try.prog 23 #[.int .i64 z] w fun e w' => e = .returned (.slice (some ⟨w.heap.size, 0, none⟩) 512 512) ∧ w' = w.alloc (.cells (yRow (blk z) 512) 5) := by
  have hmk : ∀ W, (Instr.makeSlice 44 (.int .i64 512) (.int .i64 512)).run Try.prog W = .ok (.slice (some ⟨W.heap.size, 0, none⟩) 512 512) (W.alloc (.cells (madeCells #[.int .u8 0] 512) 5)) := fun W => made_n 512 (by omega) W
  go_enter Try.func23, Try.ntmps23
  go_upto_region 2 with (fail)
  have sz := made_size 512
  generalize madeCells #[.int .u8 0] 512 = cs0 at sz ⊢
  have SZ := Lib.hid sz
  clear sz hmk
  go_wp2
  go_loopw [4] (fun v wr => ∃ (j : Nat) (cs : Array Value), j ≤ 512 ∧ v = .int .i64 (j : Int) ∧ wr = w.alloc (.cells cs 5) ∧ cs.size = 512 ∧ ∀ i, i < j → cs[i]? = some (Y (blk z i))) (fun v _ => 512 - (intOf v).toNat)
  case atStart => exact ⟨0, cs0, by omega, rfl, rfl, SZ.out, fun i hi => by omega⟩
  case round =>
    clear SZ
    obtain ⟨j, cs, hj, rfl, rfl, hs, hc⟩ := hrel
    have HS := Lib.hid hs
    have HC := Lib.hid hc
    clear hs hc
    by_cases hlt : j < 512
    · have li : (j : Int) < 512 := by omega
      have lj := lies_new w 5 cs
      have cc : (w.alloc (.cells cs 5)).cell? ⟨w.heap.size, j, none⟩ = some (cs[j]'(by rw [HS.out]; exact hlt)) := by rw [lies_cell lj]; exact Array.getElem?_eq_getElem _
      have ff := lies_free lj j
      generalize cs[j]'(by rw [HS.out]; exact hlt) = u at cc
      clear lj
      go_wp2
      go_roundw
      case rel =>
        refine ⟨j + 1, cs.setIfInBounds j (Y (blk z j)), by omega, by go_num, ?_, by rw [Array.size_setIfInBounds]; exact HS.out, fun i hi => ?_⟩
        · rw [← blk_y]
        · rw [Array.getElem?_setIfInBounds]
          by_cases e : j = i
          · subst e; rw [if_pos rfl, if_pos (by rw [HS.out]; exact hlt)]
          · rw [if_neg e]; exact HC.out i (by omega)
      case measure => first | (simp [intOf]; done) | (simp [intOf]; omega)
    · obtain rfl : j = 512 := by omega
      have e : cs = yRow (blk z) 512 := by
        refine Array.ext_getElem? fun i => ?_
        by_cases hi : i < 512
        · rw [HC.out i hi, yRow_at _ hi]
        · rw [Array.getElem?_eq_none (by rw [HS.out]; omega), Array.getElem?_eq_none (by rw [yRow_size]; omega)]
      subst e
      clear HC HS
      go_wp2
      go_ret
      exact ⟨rfl, rfl⟩

theorem keeps_trans {fp fp' : Nat → Prop} {w w1 w2 : World} (h1 : Keeps fp w w1) (hs : Sub w fp fp') (h2 : Keeps fp' w1 w2) : Keeps fp w w2 :=
  ⟨h2.os.trans h1.os, h2.tape.trans h1.tape, h2.output.trans h1.output, Nat.le_trans h1.size h2.size, fun i hi hn => (h2.block i (Nat.lt_of_lt_of_le hi h1.size) (fun h => by rcases hs i h with h3 | h3; exact hn h3; omega)).trans (h1.block i hi hn)⟩
theorem sub_trans {fp fp' fp'' : Nat → Prop} {w w1 : World} (h1 : Sub w fp fp') (hw : w.heap.size ≤ w1.heap.size) (h2 : Sub w1 fp' fp'') : Sub w fp fp'' := fun i hi => by
  rcases h2 i hi with h | h
  · exact h1 i h
  · exact .inr (by omega)
theorem keeps_refl (fp : Nat → Prop) (w : World) : Keeps fp w w := keeps_below (Below.refl _ _)
/-- the block that a number names -/
def atOf (z : Int) : Nat := (z % 8 % 6).toNat
theorem atOf_lt (z : Int) : atOf z < 6 := by unfold atOf; omega
def filW (ks : Nat → Int) (k : Nat) : List (Nat × Bytes) := upto (fun i => (atOf (ks i), blk (100 + (i : Int)))) k
theorem filW_succ (ks : Nat → Int) (k : Nat) : filW ks (k + 1) = filW ks k ++ [(atOf (ks k), blk (100 + (k : Int)))] := upto_succ _ _
theorem filW_length (ks : Nat → Int) (k : Nat) : (filW ks k).length = k := upto_length _ _
theorem index31 {ρ : Operand → Value} {oi : Oper} {w : World} {b o i N C : Nat} (x y : Operand) (ho : oi.op = .indexAddr 31 x y) (hx : ρ x = .slice (some ⟨b, o, none⟩) N C) (hy : ρ y = .int .i64 (i : Int)) (hi : i < N) : (execOp ρ oi).run Try.prog w = .ok (.value (.pointer (some ⟨b, o + i, none⟩))) w := by
  have t : (i : Int) < (N : Int) := by omega
  unfold execOp
  simp only [ho, hx, hy]
  go_simp
theorem load3o {ρ : Operand → Value} {oi : Oper} {w : World} {b o : Nat} {z : Int} (x : Operand) (ho : oi.op = .load 3 x) (hx : ρ x = .pointer (some ⟨b, o, none⟩)) (hc : w.cell? ⟨b, o, none⟩ = some (.int .i64 z)) : (execOp ρ oi).run Try.prog w = .ok (.value (.int .i64 z)) w := by
  unfold execOp
  simp only [ho, hx]
  go_simp
theorem and7_op {ρ : Operand → Value} {oi : Oper} {w : World} {z : Int} (x : Operand) (ho : oi.op = .binOp .and 3 x (.const (.int .i64 7)) 3) (hx : ρ x = .int .i64 z) (hy : ρ (.const (.int .i64 7)) = .int .i64 7) : (execOp ρ oi).run Try.prog w = .ok (.value (.int .i64 (z % 8))) w := by
  unfold execOp
  simp only [ho, hx, hy]
  go_simp
  rw [and7]
theorem rem6_op {ρ : Operand → Value} {oi : Oper} {w : World} {z : Int} (x : Operand) (ho : oi.op = .binOp .rem 3 x (.const (.int .i64 6)) 3) (hx : ρ x = .int .i64 (z % 8)) (hy : ρ (.const (.int .i64 6)) = .int .i64 6) : (execOp ρ oi).run Try.prog w = .ok (.value (.int .i64 (atOf z : Int))) w := by
  have e : (atOf z : Int) = z % 8 % 6 := by unfold atOf; omega
  have h0 : 0 ≤ z % 8 := by omega
  have h1 : z % 8 ≤ 7 := by omega
  rw [e]
  generalize z % 8 = y at *
  unfold execOp
  simp only [ho, hx, hy]
  go_simp
  rw [Int.tmod_eq_emod_of_nonneg h0]
theorem add100_op {ρ : Operand → Value} {oi : Oper} {w : World} {i : Nat} (x : Operand) (ho : oi.op = .binOp .add 3 (.const (.int .i64 100)) x 3) (hx : ρ x = .int .i64 (i : Int)) (hy : ρ (.const (.int .i64 100)) = .int .i64 100) (hi : i ≤ 1000000) : (execOp ρ oi).run Try.prog w = .ok (.value (.int .i64 (100 + (i : Int)))) w := by
  unfold execOp
  simp only [ho, hx, hy]
  go_simp
  rw [IntKind.wrap_i64]
  omega
theorem call23 {ρ : Operand → Value} {oi : Oper} {w : World} {u : Value} (x : Operand) (ho : oi.op = .call { callee := .value (.func 23), args := #[x], argTypes := #[3] }) (hf : ρ (.func 23) = .func (.func 23) #[] #[]) (hx : ρ x = u) : (execOp ρ oi).run Try.prog w = .ok (.enter 23 #[u]) w := by
  unfold execOp
  simp only [ho]
  go_simp
theorem call22 {ρ : Operand → Value} {oi : Oper} {w : World} {u v t : Value} (x y z : Operand) (ho : oi.op = .call { callee := .value (.func 22), args := #[x, y, z], argTypes := #[25, 3, 44] }) (hf : ρ (.func 22) = .func (.func 22) #[] #[]) (hx : ρ x = u) (hy : ρ y = v) (hz : ρ z = t) : (execOp ρ oi).run Try.prog w = .ok (.enter 22 #[u, v, t]) w := by
  unfold execOp
  simp only [ho]
  go_simp
theorem false_of (n i : Nat) (h : i < n) : (Array.replicate n false).getD i false = false := by
  rw [Array.getD_eq_getD_getElem?]; simp [h]
theorem rep_false2 (n i : Nat) : (Array.replicate n false).getD i false = false := by
  rw [Array.getD_eq_getD_getElem?]
  by_cases h : i < n <;> simp [h]

set_option maxRecDepth 100000 in
set_option maxHeartbeats 4000000 in
theorem fill_any {g : Nat} {F : Bytes} {ws : List (Nat × Bytes)} {fp : Nat → Prop} (A : Option Addr) (kl kc : Nat) (ks : Nat → Int) (w : World) (hkl : kl ≤ 1000) (hN : ws.length ≤ 10000) (hks : Nums w A kl ks) (hA : ∀ b o, 0 < kl → A = some ⟨b, o, none⟩ → ¬ fp b) (h : DK w g 6 F ws true (-1) fp) :
    Calls Try.prog 28 #[.pointer (some ⟨g, 0, none⟩), .slice A kl kc] w fun e w' => e = .returned (.tuple #[]) ∧ (∃ fp', Sub w fp fp' ∧ DK w' g 6 F (ws ++ filW ks kl) true (-1) fp') ∧ Keeps fp w w' := by
  have HK := Lib.hid hks
  have HA := Lib.hid hA
  have H := Lib.hid h
  clear hks hA h
  go_enter Try.func28, Try.ntmps28
  go_wp2
  go_loopw [4] (fun v wr => ∃ (i : Nat) (fp' : Nat → Prop), i ≤ kl ∧ v = .int .i64 (i : Int) ∧ Sub w fp fp' ∧ DK wr g 6 F (ws ++ filW ks i) true (-1) fp' ∧ Keeps fp w wr) (fun v _ => kl - (intOf v).toNat)
  case atStart => exact ⟨0, fp, Nat.zero_le _, rfl, sub_refl _ _, by simpa [filW, upto] using H.out, keeps_refl _ _⟩
  case round =>
    obtain ⟨i, fp', hi, rfl, hsub, hd, hkp⟩ := hrel
    have HS := Lib.hid hsub
    have HD := Lib.hid hd
    have HKP := Lib.hid hkp
    clear hsub hd hkp
    by_cases hlt : i < kl
    · have lk : decide (i < kl) = true := decide_eq_true hlt
      have lk' : (i : Int) < (kl : Int) := by omega
      obtain ⟨b, o, eA, hbl, hc0, _⟩ := HK.out i hlt
      have hc : wr.cell? ⟨b, o + i, none⟩ = some (.int .i64 (ks i)) := (World.cell?_of_block (HKP.out.block b hbl (HA.out b o (by omega) eA))).trans hc0
      clear hc0
      have HWR := Lib.hid (show DK (wr.alloc (.cells (yRow (blk (100 + (i : Int))) 512) 5)) g 6 F (ws ++ filW ks i) true (-1) fp' from dk_below HD.out ((Below.refl _ wr).alloc (Nat.le_refl _) _))
      have WR := Lib.hid (dk_write (atOf (ks i) : Int) (atOf (ks i)) rfl ⟨wr.heap.size, 0, none⟩ 512 (blk (100 + (i : Int))) (wr.drew.alloc (.cells (yRow (blk (100 + (i : Int))) 512) 5)) (atOf_lt _) (by rw [List.length_append, filW_length]; omega) (by decide) (by decide) (dk_below HD.out ((Below.drew (Below.refl _ wr)).alloc (Nat.le_refl _) _)) (src_row (lies_new wr.drew 5 _)) (by show wr.heap.size < _; simp) (fun h => by have := dk_all HD.out wr.heap.size h; omega))
      clear HWR
      subst eA
      go_wp2
      refine wp_region_any (by kernel_rfl) ?_
      obtain ⟨Wf, hWf⟩ : ∃ Wf : Array Bool → World, Wf = fun listed => cond (listed.getD 9 false) (wr.drew.alloc (.cells (yRow (blk (100 + (i : Int))) 512) 5)) wr.drew := ⟨_, rfl⟩
      have hne : ∀ (listed : Array Bool) (k : Nat), k ≠ 9 → Wf (listed.setIfInBounds k true) = Wf listed := fun listed k hk => by
        rw [hWf]
        show cond ((listed.setIfInBounds k true).getD 9 false) _ _ = cond (listed.getD 9 false) _ _
        rw [getD_set_ne false hk]
      have hcell : ∀ (listed : Array Bool), (Wf listed).cell? ⟨b, o + i, none⟩ = some (.int .i64 (ks i)) := fun listed => by
        have hbw : b < wr.heap.size := Nat.lt_of_lt_of_le hbl HKP.out.size
        rw [hWf]
        show (cond (listed.getD 9 false) _ _ : World).cell? _ = _
        cases listed.getD 9 false with
        | false => exact hc
        | true => exact (((Below.drew (Below.refl _ wr)).alloc (Nat.le_refl _) _).cell (p := ⟨b, o + i, none⟩) hbw).trans hc
      have hstart : Wf (Array.replicate 11 false) = wr.drew := by rw [hWf]; rfl
      change wpAny _ _ _ _ _ _ _ (World.drew wr)
      rw [← hstart]
      refine every_last (own := ownAll _) (vals := fun j => match j with | 0 => .pointer (some ⟨g, 0, none⟩) | 1 => .slice (some ⟨b, o, none⟩) kl kc | 2 => .int .i64 (i : Int) | 3 => .pointer (some ⟨b, o + i, none⟩) | 4 => .int .i64 (ks i) | 5 => .int .i64 (ks i % 8) | 6 => .int .i64 (atOf (ks i) : Int) | 7 => .int .i64 (i : Int) | 8 => .int .i64 (100 + (i : Int)) | 9 => .slice (some ⟨wr.heap.size, 0, none⟩) 512 512 | _ => .int .i64 0) id 10 Wf (acAll_of (by kernel_rfl)) (onAll_of (by kernel_rfl)) (of_decide_eq_true (by kernel_rfl)) (dstAll_of (by kernel_rfl)) ?hop ?hall ?hl _ _ _ rfl (shut_none _) (rep_false2 _ _) (of_decide_eq_true (by kernel_rfl)) (tabd_start (fun i => rep_false2 _ i))
      case hop =>
        intro j oi a listed hoi hil hun hsz hcl hdeps ht
        have hj11 : j < 11 := (Array.getElem?_eq_some_iff.1 hoi).1
        have c11 : j = 0 ∨ j = 1 ∨ j = 2 ∨ j = 3 ∨ j = 4 ∨ j = 5 ∨ j = 6 ∨ j = 7 ∨ j = 8 ∨ j = 9 := by omega
        obtain rfl | rfl | rfl | rfl | rfl | rfl | rfl | rfl | rfl | rfl := c11
        all_goals obtain rfl := Option.some.inj hoi
        · exact ⟨rfl, fun K hk => wp_valueW (move_op (.tmp 0) rfl ((tabd_old ht (of_decide_eq_true (by kernel_rfl)) (by kernel_rfl)).trans rfl)) (hne _ _ (by decide)) hk⟩
        · exact ⟨rfl, fun K hk => wp_valueW (move_op (.tmp 1) rfl ((tabd_old ht (of_decide_eq_true (by kernel_rfl)) (by kernel_rfl)).trans rfl)) (hne _ _ (by decide)) hk⟩
        · exact ⟨rfl, fun K hk => wp_valueW (move_op (.tmp 4) rfl ((tabd_old ht (of_decide_eq_true (by kernel_rfl)) (by kernel_rfl)).trans rfl)) (hne _ _ (by decide)) hk⟩
        · have d1 := hdeps ⟨1, .data⟩ (by simp) rfl
          have d2 := hdeps ⟨2, .data⟩ (by simp) rfl
          exact ⟨rfl, fun K hk => wp_valueW (index31 (.tmp 12) (.tmp 13) rfl (tabd_at ht (of_decide_eq_true (by kernel_rfl)) (by kernel_rfl) d1) (tabd_at ht (of_decide_eq_true (by kernel_rfl)) (by kernel_rfl) d2) hlt) (hne _ _ (by decide)) hk⟩
        · have d1 := hdeps ⟨3, .data⟩ (by simp) rfl
          exact ⟨rfl, fun K hk => wp_valueW (load3o (.tmp 14) rfl (tabd_at ht (of_decide_eq_true (by kernel_rfl)) (by kernel_rfl) d1) (hcell _)) (hne _ _ (by decide)) hk⟩
        · have d1 := hdeps ⟨4, .data⟩ (by simp) rfl
          exact ⟨rfl, fun K hk => wp_valueW (and7_op (.tmp 15) rfl (tabd_at ht (of_decide_eq_true (by kernel_rfl)) (by kernel_rfl) d1) rfl) (hne _ _ (by decide)) hk⟩
        · have d1 := hdeps ⟨5, .data⟩ (by simp) rfl
          exact ⟨rfl, fun K hk => wp_valueW (rem6_op (.tmp 16) rfl (tabd_at ht (of_decide_eq_true (by kernel_rfl)) (by kernel_rfl) d1) rfl) (hne _ _ (by decide)) hk⟩
        · exact ⟨rfl, fun K hk => wp_valueW (move_op (.tmp 4) rfl ((tabd_old ht (of_decide_eq_true (by kernel_rfl)) (by kernel_rfl)).trans rfl)) (hne _ _ (by decide)) hk⟩
        · have d1 := hdeps ⟨7, .data⟩ (by simp) rfl
          exact ⟨rfl, fun K hk => wp_valueW (add100_op (.tmp 18) rfl (tabd_at ht (of_decide_eq_true (by kernel_rfl)) (by kernel_rfl) d1) rfl (by omega)) (hne _ _ (by decide)) hk⟩
        · have d1 := hdeps ⟨8, .data⟩ (by simp) rfl
          have v1 := tabd_at ht (t := 19) (of_decide_eq_true (by kernel_rfl)) (by kernel_rfl) d1
          have eW : Wf listed = wr.drew := by rw [hWf]; show cond (listed.getD 9 false) _ _ = _; rw [hun]; rfl
          have eW2 : Wf (listed.setIfInBounds 9 true) = wr.drew.alloc (.cells (yRow (blk (100 + (i : Int))) 512) 5) := by rw [hWf]; show cond ((listed.setIfInBounds 9 true).getD 9 false) _ _ = _; rw [getD_here (by rw [hsz]; exact hj11)]; rfl
          refine ⟨rfl, fun K hk => ?_⟩
          rw [eW2] at hk
          rw [eW]
          exact wp_callW (call23 (.tmp 19) rfl rfl v1) (blkx _ _) hk
      case hall =>
        intro listed hcl hlast j hj hne2
        have e0 := hlast _ rfl ⟨0, .data⟩ (by simp) rfl
        have e6 := hlast _ rfl ⟨6, .data⟩ (by simp) rfl
        have e9 := hlast _ rfl ⟨9, .data⟩ (by simp) rfl
        have e5 := hcl 6 _ rfl e6 ⟨5, .data⟩ (by simp) rfl
        have e4 := hcl 5 _ rfl e5 ⟨4, .data⟩ (by simp) rfl
        have e3 := hcl 4 _ rfl e4 ⟨3, .data⟩ (by simp) rfl
        have e1 := hcl 3 _ rfl e3 ⟨1, .data⟩ (by simp) rfl
        have e2 := hcl 3 _ rfl e3 ⟨2, .data⟩ (by simp) rfl
        have e8 := hcl 9 _ rfl e9 ⟨8, .data⟩ (by simp) rfl
        have e7 := hcl 8 _ rfl e8 ⟨7, .data⟩ (by simp) rfl
        have hj11 : j < 11 := hj
        have c11 : j = 0 ∨ j = 1 ∨ j = 2 ∨ j = 3 ∨ j = 4 ∨ j = 5 ∨ j = 6 ∨ j = 7 ∨ j = 8 ∨ j = 9 := by omega
        obtain rfl | rfl | rfl | rfl | rfl | rfl | rfl | rfl | rfl | rfl := c11
        all_goals assumption
      case hl =>
        intro a listed ol hol hothers hlf ht hsz0
        obtain rfl := Option.some.inj hol
        have v0 := tabd_at ht (t := 11) (of_decide_eq_true (by kernel_rfl)) (by kernel_rfl) (hothers 0 (of_decide_eq_true (by kernel_rfl)) (by decide))
        have v6 := tabd_at ht (t := 17) (of_decide_eq_true (by kernel_rfl)) (by kernel_rfl) (hothers 6 (of_decide_eq_true (by kernel_rfl)) (by decide))
        have v9 := tabd_at ht (t := 20) (of_decide_eq_true (by kernel_rfl)) (by kernel_rfl) (hothers 9 (of_decide_eq_true (by kernel_rfl)) (by decide))
        have eW : Wf listed = wr.drew.alloc (.cells (yRow (blk (100 + (i : Int))) 512) 5) := by rw [hWf]; show cond (listed.getD 9 false) _ _ = _; rw [hothers 9 (of_decide_eq_true (by kernel_rfl)) (by decide)]; rfl
        refine ⟨rfl, fun K hK => ?_⟩
        rw [eW]
        refine wp_callR (call22 (.tmp 11) (.tmp 17) (.tmp 20) rfl rfl v0 v6 v9) WR.out (fun w2 hw2 => hK _ _ ?_)
        obtain ⟨⟨fp2, s2, d2⟩, k2⟩ := hw2
        have hsz := HKP.out.size
        have bb := (Below.drew (Below.refl wr.heap.size wr)).alloc (Nat.le_refl _) (.cells (yRow (blk (100 + (i : Int))) 512) 5)
        have zw : (wr.drew.alloc (.cells (yRow (blk (100 + (i : Int))) 512) 5)).heap.size = wr.heap.size + 1 := by simp
        have R0 : Sub wr fp' fp2 := fun x hx => (s2 x hx).imp id (fun h => by omega)
        have R1 := Lib.hid (sub_trans HS.out hsz R0)
        have R2 := Lib.hid (show DK w2 g 6 F (ws ++ filW ks (i + 1)) true (-1) fp2 by rw [filW_succ, ← List.append_assoc]; exact d2)
        have R3 := Lib.hid (keeps_trans HKP.out HS.out (keeps_trans (keeps_below bb) (sub_refl _ _) k2))
        have ht3 := tabd_put ht (i := 10) (d := 21) (by rw [hsz0]; exact of_decide_eq_true (by kernel_rfl)) (of_decide_eq_true (by kernel_rfl)) (by kernel_rfl) (fun t ho => by have := ownAll_spec ho; simpa using this.symm)
        have eF := tabd_fill ht3 (fun t j ho => by
          by_cases e : j = 10
          · subst e; exact getD_here (by rw [hsz0]; exact of_decide_eq_true (by kernel_rfl))
          · rw [getD_set_ne false (Ne.symm e)]; exact hothers j (ownAll_lt ho) e)
        change Exit.inBlock _ _ Exit.normal (a.put (some 21) (.int .i64 0)) w2
        rw [show a.put (some 21) (.int .i64 0) = _ from eF]
        change Exit.inBlock _ _ Exit.normal { tmps := #[.pointer (some ⟨g, 0, none⟩), .slice (some ⟨b, o, none⟩) kl kc, undef, undef, .int .i64 (i : Int), .int .i64 (i : Int), .slice (some ⟨b, o, none⟩) kl kc, .int .i64 (kl : Int), .bool true, u9, u10, .pointer (some ⟨g, 0, none⟩), .slice (some ⟨b, o, none⟩) kl kc, .int .i64 (i : Int), .pointer (some ⟨b, o + i, none⟩), .int .i64 (ks i), .int .i64 (ks i % 8), .int .i64 (atOf (ks i) : Int), .int .i64 (i : Int), .int .i64 (100 + (i : Int)), .slice (some ⟨wr.heap.size, 0, none⟩) 512 512, .int .i64 0], defers := [] } w2
        clear eF ht3 ht v0 v6 v9 hothers eW hWf hne hcell hstart WR hc
        go_wp2
        go_roundw
        case rel => exact ⟨i + 1, fp2, by omega, by go_num, R1.out, R2.out, R3.out⟩
        case measure => first | (simp [intOf]; done) | (simp [intOf]; omega)
    · have lk : decide (i < kl) = false := decide_eq_false hlt
      have lk' : ¬ (i : Int) < (kl : Int) := by omega
      obtain rfl : i = kl := by omega
      go_wp2
      go_end0
      exact ⟨rfl, ⟨fp', HS.out, HD.out⟩, HKP.out⟩
end Go.Proofs.Ytibidljblkfciaa
