/-
What is proved here: the library's iterator that goes backward through numbers, for a body that keeps them.
-/
import Derived.Test.YtnbjfmkckebfgaaGreatApl
import Derived.RangeFuncWrites
import Derived.ControlIn
import Derived.Sort.CutIn
import Derived.LoopIn
set_option linter.unusedSimpArgs false
set_option linter.unusedVariables false
namespace Go.Cmp
/-- the places of a list, from its end -/
def bk (L k : Nat) : List (Fin L) := ((List.finRange L).reverse).take k
theorem bk_len (L k : Nat) (h : k ≤ L) : (bk L k).length = k := by simp [bk]; omega
theorem bk_succ (L k : Nat) (h : k < L) : bk L (k + 1) = bk L k ++ [⟨L - 1 - k, by omega⟩] := by
  unfold bk
  rw [List.take_succ_eq_append_getElem (by simp; omega)]
  congr 1
  simp [List.getElem_reverse]
theorem bk_snoc {L : Nat} {pre : List (Fin L)} {x : Fin L} (hlt : pre.length < L) (h : pre ++ [x] = bk L (pre ++ [x]).length) : pre = bk L pre.length ∧ x.1 = L - 1 - pre.length := by
  rw [List.length_append, List.length_singleton, bk_succ L pre.length hlt] at h
  have h2 := List.append_inj h (by rw [bk_len L _ (by omega)])
  exact ⟨h2.1, by have := h2.2; simp only [List.cons.injEq, and_true] at this; rw [this]⟩
end Go.Cmp
namespace Go.Proofs.YtnbjfmkckebfgaaGreat
open Go.Cmp Go.RowKit
def KQ (Q : Nat → Prop) (A B : World) : Prop := (∀ i, Q i → B.heap[i]? = A.heap[i]?) ∧ A.heap.size ≤ B.heap.size
theorem kq_t {Q : Nat → Prop} {A B C : World} (h : KQ Q A B) (k : KQ Q B C) : KQ Q A C := ⟨fun i hi => (k.1 i hi).trans (h.1 i hi), Nat.le_trans h.2 k.2⟩
theorem kq_b {Q : Nat → Prop} {w : World} (hQ : ∀ i, Q i → i < w.heap.size) (W : World) (l : Nat) (o o' : Obj) (hl : w.heap.size ≤ l) (h : W.heap[l]? = some o) (_ : o.isCells = false) (_ : o.isWalk = false) : KQ Q W (W.putObj l o') :=
  ⟨fun i hi => by
    have hne : l ≠ i := fun e => by have := hQ i hi; omega
    show (W.heap.setIfInBounds l o')[i]? = _
    rw [Array.getElem?_setIfInBounds, if_neg hne], by simp [World.putObj]⟩
def encF (F : List Nat) (k : Fin F.length) : Array Value := #[.int .i64 (k.1 : Int), .int .i64 (F[k.1] : Int)]
attribute [local go_sem] Oper.semAt_some
set_option maxRecDepth 100000 in
set_option maxHeartbeats 4000000 in
theorem back_stops (nn : Nat) (hnn : 1 ≤ nn) (F : List Nat) (hF0 : F.length ≤ 100000) (Bs c : Nat) (A : Option Addr) (Q : Nat → Prop) (w : World)
    (hb1 : w.cell? ⟨Bs, 0, none⟩ = some (.slice A F.length c)) (hQB : Q Bs) (hQ : ∀ i, Q i → i < w.heap.size) (hI : IntsAt w A (zs F)) (hQA : ∀ b o, A = some ⟨b, o, none⟩ → 0 < F.length → Q b) :
    SeqStopsK .wide nn Tryz.prog 81 #[.pointer (some ⟨Bs, 0, none⟩)] (encF F) (KQ Q) (fun ys => ys = bk F.length F.length) (fun _ => True) F.length w := fun lp J Jx W hW hJ _ hY h0 => by
  have cB0 := (hW.cell (p := ⟨Bs, 0, none⟩) (hQ Bs hQB)).trans hb1
  have hKW : ∀ i, Q i → W.heap[i]? = w.heap[i]? := fun i hi => hW.block i (hQ i hi)
  have CB := Lib.hid cB0
  have HB := Lib.hid hQB
  have HF := Lib.hid (fun i (hi : i < F.length) => show ∃ b o, A = some ⟨b, o, none⟩ ∧ Q b ∧ W.cell? ⟨b, o + i, none⟩ = some (.int .i64 (F[i] : Int)) from by
    obtain ⟨b, o, e, hb, hc⟩ := hI i (by simpa using hi)
    have hq := hQA b o e (by omega)
    refine ⟨b, o, e, hq, cell_same (by simpa [zs, iV] using hc) (hKW b hq)⟩)
  obtain ⟨n, hn⟩ : ∃ n, n = F.length := ⟨_, rfl⟩
  have hn0 : n ≤ 100000 := by omega
  have w1 : wrap64 ((n : Int) - 1) = (n : Int) - 1 := by unfold wrap64; omega
  have HN := Lib.hid hn
  rw [← hn] at cB0 CB
  clear hb1 hI hKW hQ hQB hQA hn
  refine callsIn_of_wp Tryz.func81 rfl trivial ?_ rfl
  simp only [Tryz.ntmps81, List.size_toArray, List.length_cons, List.length_nil, Nat.reduceAdd, Nat.reduceSub, Array.replicate_succ, Array.replicate_zero, List.push_toArray, List.append_toArray, List.nil_append, List.cons_append]
  gi_wp2
  gi_loopw [3] (fun v3 wr => ∃ k : Nat, k ≤ n ∧ v3 = .int .i64 ((n : Int) - 1 - (k : Int)) ∧ J (bk F.length k) wr ∧ (∀ i, Q i → wr.heap[i]? = W.heap[i]?) ∧ W.heap.size ≤ wr.heap.size) (fun v3 _ => (intOf v3 + 1).toNat)
  case atStart => exact ⟨0, Nat.zero_le _, by simp, by simpa [bk] using h0, fun _ _ => rfl, Nat.le_refl _⟩
  case round =>
    obtain ⟨k, hk, rfl, hJr, hK, hz⟩ := hrel
    have HJR := Lib.hid hJr
    have HK := Lib.hid hK
    have HZ := Lib.hid hz
    have cB1 := (World.cell?_of_block (a := ⟨Bs, 0, none⟩) (hK Bs HB.out)).trans CB.out
    clear cB0 hJr hK hz
    by_cases hlt : k < n
    · obtain ⟨i, hi⟩ : ∃ i : Nat, i = n - 1 - k := ⟨_, rfl⟩
      have ei : (n : Int) - 1 - (k : Int) = (i : Int) := by omega
      have hin : i < n := by omega
      have hiF : i < F.length := by have := HN.out; omega
      obtain ⟨b, o, eA, hq, hc⟩ := HF.out i hiF
      subst eA
      have d1 := (World.cell?_of_block (a := ⟨b, o + i, none⟩) (HK.out b hq)).trans hc
      have FD := Lib.hid (show bk F.length (k + 1) = bk F.length k ++ [⟨i, hiF⟩] by rw [bk_succ F.length k (by have := HN.out; omega)]; congr 3; have := HN.out; omega)
      have li : (i : Int) < (n : Int) := by omega
      have l0 : (0 : Int) ≤ (i : Int) := by omega
      have w2 : wrap64 ((i : Int) - 1) = (i : Int) - 1 := by unfold wrap64; omega
      obtain ⟨fn, tmps, assign, body, hy, hR⟩ := hY (bk F.length k) ⟨i, hiF⟩ _ HJR.out (by rw [bk_len _ _ (by have := HN.out; omega)]; have := HN.out; omega)
      dsimp only [encF] at hy
      rw [ei]
      have EI := Lib.hid ei
      have HI := Lib.hid hi
      generalize F[i] = fi at *
      clear hc ei hi
      gi_wp2
      refine hR.mono ?_
      rintro e W4 (⟨rfl, hJ4, hk4⟩ | ⟨rfl, hJx4⟩)
      · have J4 := Lib.hid (show J (bk F.length (k + 1)) W4 by rw [FD.out]; exact hJ4)
        have KH4 := Lib.hid (show ∀ i, Q i → W4.heap[i]? = W.heap[i]? from fun i h1 => (hk4.1 i h1).trans (HK.out i h1))
        have Z4 := Lib.hid (Nat.le_trans HZ.out hk4.2)
        clear hJ4 hk4
        gi_wp2
        go_roundw
        case rel => exact ⟨k + 1, by omega, by have := EI.out; congr 1; omega, J4.out, KH4.out, Z4.out⟩
        case measure => first | (simp [intOf]; done) | (simp [intOf]; omega)
      · gi_wp2
        refine bodyPost_ret (results_none rfl _ _ _) rfl ?_
        exact ⟨⟨_, rfl⟩, .inr ⟨_, trivial, hJx4⟩⟩
    · obtain rfl : k = n := by omega
      have e1 : (k : Int) - 1 - (k : Int) = -1 := by omega
      rw [e1]
      gi_wp2
      go_end0
      exact ⟨⟨_, rfl⟩, .inl ⟨_, by rw [HN.out], HJR.out⟩⟩
end Go.Proofs.YtnbjfmkckebfgaaGreat
