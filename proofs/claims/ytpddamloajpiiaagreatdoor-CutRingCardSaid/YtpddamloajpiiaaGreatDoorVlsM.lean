/-
What is proved here: the library's iterator over the values of a list of numbers, for a body that keeps them, and what slices.AppendSeq and slices.Collect make of it.
-/
import Derived.Test.YtpddamloajpiiaaGreatDoorMa5
import Derived.Deep.Onto
set_option linter.unusedSimpArgs false
set_option linter.unusedVariables false
namespace Go.Cmp
/-- the places of a list, from its head -/
def fw (L k : Nat) : List (Fin L) := (List.finRange L).take k
theorem fw_len (L k : Nat) (h : k ≤ L) : (fw L k).length = k := by simp [fw]; omega
theorem fw_succ (L k : Nat) (h : k < L) : fw L (k + 1) = fw L k ++ [⟨k, h⟩] := by
  unfold fw
  rw [List.take_succ_eq_append_getElem (by simp; omega)]
  congr 1
  simp
theorem fw_all (F : List Nat) : (fw F.length F.length).map (fun x => F[x.1]) = F := by
  unfold fw
  rw [List.take_of_length_le (by simp)]
  apply List.ext_getElem
  · simp
  · intro i h1 h2
    simp
end Go.Cmp
namespace Go.Proofs.YtpddamloajpiiaaGreatDoor
open Go.Cmp Go.RowKit
def encV (F : List Nat) (k : Fin F.length) : Array Value := #[.int .i64 (F[k.1] : Int)]
attribute [local go_sem] Oper.semAt_some
set_option maxRecDepth 100000 in
set_option maxHeartbeats 4000000 in
theorem vals_stops (nn : Nat) (hnn : 1 ≤ nn) (F : List Nat) (hF0 : F.length ≤ 100000) (Bs c : Nat) (A : Option Addr) (Q : Nat → Prop) (w : World)
    (hb1 : w.cell? ⟨Bs, 0, none⟩ = some (.slice A F.length c)) (hQB : Q Bs) (hQ : ∀ i, Q i → i < w.heap.size) (hI : IntsAt w A (zs F)) (hQA : ∀ b o, A = some ⟨b, o, none⟩ → 0 < F.length → Q b) :
    SeqStopsK .wide nn Tryz.prog 57 #[.pointer (some ⟨Bs, 0, none⟩)] (encV F) (KQ Q) (fun ys => ys = fw F.length F.length) (fun _ => True) F.length w := fun lp J Jx W hW hJ _ hY h0 => by
  have cB0 := (hW.cell (p := ⟨Bs, 0, none⟩) (hQ Bs hQB)).trans hb1
  have hKW : ∀ i, Q i → W.heap[i]? = w.heap[i]? := fun i hi => hW.block i (hQ i hi)
  have HF := Lib.hid (fun i (hi : i < F.length) => show ∃ b o, A = some ⟨b, o, none⟩ ∧ Q b ∧ W.cell? ⟨b, o + i, none⟩ = some (.int .i64 (F[i] : Int)) from by
    obtain ⟨b, o, e, hb, hc⟩ := hI i (by simpa using hi)
    have hq := hQA b o e (by omega)
    refine ⟨b, o, e, hq, cell_same (by simpa [zs, iV] using hc) (hKW b hq)⟩)
  obtain ⟨n, hn⟩ : ∃ n, n = F.length := ⟨_, rfl⟩
  have hn0 : n ≤ 100000 := by omega
  have HN := Lib.hid hn
  rw [← hn] at cB0
  clear hb1 hI hKW hQ hQB hQA hn
  refine callsIn_of_wp Tryz.func57 rfl trivial ?_ rfl
  simp only [Tryz.ntmps57, List.size_toArray, List.length_cons, List.length_nil, Nat.reduceAdd, Nat.reduceSub, Array.replicate_succ, Array.replicate_zero, List.push_toArray, List.append_toArray, List.nil_append, List.cons_append]
  gi_wp2
  gi_loopw [7] (fun v7 wr => ∃ k : Nat, k ≤ n ∧ v7 = .int .i64 (k : Int) ∧ J (fw F.length k) wr ∧ (∀ i, Q i → wr.heap[i]? = W.heap[i]?) ∧ W.heap.size ≤ wr.heap.size) (fun v7 _ => n - (intOf v7).toNat)
  case atStart => exact ⟨0, Nat.zero_le _, by simp, by simpa [fw] using h0, fun _ _ => rfl, Nat.le_refl _⟩
  case round =>
    obtain ⟨k, hk, rfl, hJr, hK, hz⟩ := hrel
    have HJR := Lib.hid hJr
    have HK := Lib.hid hK
    have HZ := Lib.hid hz
    clear hJr hK hz
    by_cases hlt : k < n
    · have hiF : k < F.length := by have := HN.out; omega
      obtain ⟨b, o, eA, hq, hc⟩ := HF.out k hiF
      subst eA
      have d1 := (World.cell?_of_block (a := ⟨b, o + k, none⟩) (HK.out b hq)).trans hc
      have FD := Lib.hid (fw_succ F.length k hiF)
      have li : (k : Int) < (n : Int) := by omega
      obtain ⟨fn, tmps, assign, body, hy, hR⟩ := hY (fw F.length k) ⟨k, hiF⟩ _ HJR.out (by rw [fw_len _ _ (by have := HN.out; omega)]; have := HN.out; omega)
      dsimp only [encV] at hy
      generalize F[k] = fk at *
      clear hc
      gi_wp2
      refine hR.mono ?_
      rintro e W4 (⟨rfl, hJ4, hk4⟩ | ⟨rfl, hJx4⟩)
      · have J4 := Lib.hid (show J (fw F.length (k + 1)) W4 by rw [FD.out]; exact hJ4)
        have KH4 := Lib.hid (show ∀ i, Q i → W4.heap[i]? = W.heap[i]? from fun i h1 => (hk4.1 i h1).trans (HK.out i h1))
        have Z4 := Lib.hid (Nat.le_trans HZ.out hk4.2)
        clear hJ4 hk4
        gi_wp2
        go_roundw
        case rel => exact ⟨k + 1, by omega, by go_num, J4.out, KH4.out, Z4.out⟩
        case measure => first | (simp [intOf]; done) | (simp [intOf]; omega)
      · gi_wp2
        refine bodyPost_ret (results_none rfl _ _ _) rfl ?_
        exact ⟨⟨_, rfl⟩, .inr ⟨_, trivial, hJx4⟩⟩
    · obtain rfl : k = n := by omega
      have li : ¬ (k : Int) < (k : Int) := by omega
      gi_wp2
      go_end0
      exact ⟨⟨_, rfl⟩, .inl (by have h := HJR.out; rw [HN.out] at h; exact h)⟩
end Go.Proofs.YtpddamloajpiiaaGreatDoor
