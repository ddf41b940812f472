/-
What is proved here: the function value that goes over a path's names: its contract for every loop body that keeps what lay below and the walks over texts.
-/
import Derived.Test.YtdnagkgblmcojaaSpl
import Derived.Test.YtdnagkgblmcojaaPure3
import Derived.RangeFuncNested
import Derived.RangeFuncBox
import Derived.RangeFuncLeaves
import Derived.RangeFuncBound
import Derived.RangeFuncCalls
import Derived.Shelf.Abstract
import Derived.OwnWalkIn
import Derived.TacticsInMore
import Derived.LoopNIn
import Derived.LoopIn
import Derived.Maps.AppendAt
set_option linter.unusedSimpArgs false
namespace Go.Proofs.Ytdnagkgblmcojaa
open Go.Pth Go.RowKit Go.Word Go.Shelf
attribute [local go_sem] Oper.semAt_some run_range_st

def encS (x : Bt) : Array Value := #[St x]
/-- what a round keeps -/
def KS (Bs : Nat) (A B : World) : Prop := B.heap[Bs]? = A.heap[Bs]? ∧ KeepsWalks A B
theorem ks_t {Bs : Nat} {A B C : World} (h : KS Bs A B) (k : KS Bs B C) : KS Bs A C := ⟨k.1.trans h.1, h.2.trans k.2⟩
theorem ks_b {Bs : Nat} {w : World} (hB : Bs < w.heap.size) (W : World) (l : Nat) (o o' : Obj) (hl : w.heap.size ≤ l) (h : W.heap[l]? = some o) (_ : o.isCells = false) (hw : o.isWalk = false) : KS Bs W (W.putObj l o') :=
  ⟨World.putObj_heap_other (by omega), KeepsWalks.putObj _ h hw⟩
theorem next_at (w : World) (it : Nat) (l : Bt) (i : Nat) (h : w.heap[it]? = some (.stringIter ⟨l.toArray⟩ i)) (hi : i < l.length) (ha : l[i].toNat < 128) (ty : TypeId) :
    (Instr.next (.pointer (some ⟨it, 0, none⟩)) true ty).run Try.prog w = .ok (.tuple #[.bool true, .int .i64 i, .int .i32 l[i].toNat]) (w.putObj it (.stringIter ⟨l.toArray⟩ (i + 1))) := by
  have h1 : i < (ByteArray.mk l.toArray).size := by rw [size_st]; exact hi
  have h2 : ((ByteArray.mk l.toArray)[i]'h1).toNat < 128 := by rw [get_st l i hi]; exact ha
  simp only [Instr.next, getObj, setObj, Sem.run_bind, Sem.run, h, Result.andThen, h1, if_true, decode_ascii _ i h1 h2]
  simp [goInt, Sem.run, h, World.putObj, get_st l i hi]
theorem end_at (w : World) (it : Nat) (l : Bt) (i : Nat) (h : w.heap[it]? = some (.stringIter ⟨l.toArray⟩ i)) (hi : ¬ i < l.length) (ty : TypeId) :
    (Instr.next (.pointer (some ⟨it, 0, none⟩)) true ty).run Try.prog w = .ok (.tuple #[.bool false]) w := by
  have h1 : ¬ i < (ByteArray.mk l.toArray).size := by rw [size_st]; exact hi
  simp [Instr.next, getObj, Sem.run, h, h1]
theorem pos_at (w : World) (it : Nat) (s : ByteArray) (i : Nat) (h : w.heap[it]? = some (.stringIter s i)) : w.iterPos it = i := by simp [World.iterPos, h]
theorem grown_of_below {w w' : World} (h : Below w.heap.size w w') : w.grownBy w' none := ⟨h.os, h.tape, h.output, h.size, fun k hk _ => h.block k hk⟩

set_option maxRecDepth 100000 in
set_option maxHeartbeats 4000000 in
theorem names_stops (n : Nat) (hn : 1 ≤ n) (l : Bt) (hl : l.length ≤ 100000) (Bs : Nat) (w : World) (hBs : Bs < w.heap.size) (hb : w.cell? ⟨Bs, 0, none⟩ = some (St l)) :
    SeqStopsK .wide n Try.prog 66 #[.pointer (some ⟨Bs, 0, none⟩)] encS (KS Bs) (fun ys => ys = namesP l) (fun pre => pre <+: namesP l) (namesP l).length w := fun lp J Jx W hW hJ _ hY h0 => by
  have V := Lib.hid (valid_any l W hl)
  have cB0 := (hW.cell (p := ⟨Bs, 0, none⟩) (by show Bs < _; omega)).trans hb
  have hnW : Bs < W.heap.size := Nat.lt_of_lt_of_le hBs hW.size
  refine callsIn_of_wp Try.func66 rfl trivial ?_ rfl
  simp only [Try.ntmps66, List.size_toArray, List.length_cons, List.length_nil, Nat.reduceAdd, Nat.reduceSub, Array.replicate_succ, Array.replicate_zero, List.push_toArray, List.append_toArray, List.nil_append, List.cons_append]
  cases hp : isPath l with
  | false =>
    have hN : namesP l = [] := by simp [namesP, hp]
    rw [hp] at V
    rw [hN]
    gi_wp2_with (refine ⟨trivial, ?_⟩; gi_at_call 39; refine (callsIn_wide.2 V.out).mono ?_; rintro e w1 ⟨rfl, hb1⟩; have H1 := Lib.hid hb1; clear hb1)
    refine bodyPost_ret (results_none rfl _ _ _) rfl ?_
    exact ⟨⟨_, rfl⟩, .inl ⟨_, rfl, hJ _ _ _ none h0 (grown_of_below H1.out) (fun _ e => by cases e)⟩⟩
  | true =>
    have hN : namesP l = parts l := by simp [namesP, hp]
    rw [hp] at V
    have hlow := path_low l hp
    rw [hN] at hY ⊢
    gi_wp2_with (refine ⟨trivial, ?_⟩; gi_at_call 39; refine (callsIn_wide.2 V.out).mono ?_; rintro e w1 ⟨rfl, hb1⟩; have H1 := Lib.hid hb1; have cB1 := (hb1.cell (p := ⟨Bs, 0, none⟩) (by show Bs < _; omega)).trans cB0; clear hb1)
    obtain ⟨it, hit⟩ : ∃ it, w1.heap.size = it := ⟨_, rfl⟩
    have hWit : W.heap.size ≤ it := by rw [← hit]; exact H1.out.size
    have s1 : (w1.iter ⟨l.toArray⟩ 0).heap[it]? = some (.stringIter ⟨l.toArray⟩ 0) := by rw [← hit]; exact World.iter_heap w1 _ 0
    have s2 : (w1.iter ⟨l.toArray⟩ 0).cell? ⟨Bs, 0, none⟩ = some (St l) := ((below_iter w1 _ 0).cell (p := ⟨Bs, 0, none⟩) (by show Bs < _; omega)).trans cB1
    have s3 : J [] (w1.iter ⟨l.toArray⟩ 0) := hJ _ _ _ none h0 (grown_of_below (H1.out.trans ((below_iter w1 _ 0).mono H1.out.size))) (fun _ e => by cases e)
    rw [hit]
    generalize w1.iter ⟨l.toArray⟩ 0 = w2 at *
    clear H1 cB0 cB1 V hit h0 hb hW
    gi_loopw [3] (fun x wr => ∃ (i f : Nat) (done : List Bt), x = .int .i64 f ∧ f ≤ i ∧ i ≤ l.length ∧ (∀ c ∈ (l.drop f).take (i - f), c ≠ 47) ∧ parts l = done ++ parts (l.drop f) ∧ J done wr ∧ wr.heap[it]? = some (.stringIter ⟨l.toArray⟩ i) ∧ wr.cell? ⟨Bs, 0, none⟩ = some (St l)) (fun _ wr => l.length - wr.iterPos it)
    case atStart => exact ⟨0, 0, [], rfl, by omega, by omega, fun c hc => by simp at hc, rfl, s3, s1, s2⟩
    case round =>
      obtain ⟨i, f, done, rfl, hfi, hil, hno, hpl, hJr, hit, hcb⟩ := hrel
      have hm := pos_at wr it _ _ hit
      by_cases hi : i < l.length
      · have ha := hlow l[i] (List.getElem_mem hi)
        have hn := next_at wr it l i hit hi ha
        have hw3 := hJ _ _ _ (some it) hJr (grownBy_putObj' wr it (.stringIter ⟨l.toArray⟩ (i + 1))) (fun r e => by cases e; exact ⟨hWit, _, hit, rfl⟩)
        have hit3 : (wr.putObj it (.stringIter ⟨l.toArray⟩ (i + 1))).heap[it]? = some (.stringIter ⟨l.toArray⟩ (i + 1)) := World.putObj_heap_same (Array.getElem?_eq_some_iff.1 hit).1
        have hcb3 : (wr.putObj it (.stringIter ⟨l.toArray⟩ (i + 1))).cell? ⟨Bs, 0, none⟩ = some (St l) := by
          rw [← hcb]
          exact World.cell?_of_block (World.putObj_heap_other (by show Bs ≠ it; omega))
        generalize wr.putObj it (.stringIter ⟨l.toArray⟩ (i + 1)) = w3 at *
        have hsl := run_sub l f i hfi hil
        have hnx : (l.drop f).take (i + 1 - f) = (l.drop f).take (i - f) ++ [l[i]] := by
          rw [show i + 1 - f = i - f + 1 by omega, List.take_succ_eq_append_getElem (by simp; omega)]
          simp only [List.getElem_drop, show f + (i - f) = i by omega]
        have hdr : l.drop f = (l.drop f).take (i - f) ++ l[i] :: l.drop (i + 1) := by
          conv => lhs; rw [← List.take_append_drop (i - f) (l.drop f)]
          rw [List.drop_drop, show f + (i - f) = i by omega, List.drop_eq_getElem_cons hi]
        have q1 : f ≤ i + 1 := by omega
        have q2 : i + 1 ≤ l.length := hi
        have q3 : l.length - (i + 1) < l.length - i := by omega
        have HX := Lib.hid hnx
        have HD := Lib.hid hdr
        have wi : wrap64 ((i : Int) + 1) = ((i + 1 : Nat) : Int) := by rw [wrap_in _ (by omega) (by omega)]; omega
        clear hnx hdr
        by_cases h47 : l[i] = 47
        · have h47n : (l[i].toNat : Int) = 47 := by rw [h47]; decide
          rw [h47n] at hn
          have hpp : parts (l.drop f) = (l.drop f).take (i - f) :: parts (l.drop (i + 1)) := by
            conv => lhs; rw [HD.out, h47]
            rw [parts_app, parts_none _ hno]
            rfl
          have hlen : done.length < (parts l).length := by rw [hpl, hpp]; simp
          obtain ⟨fn, tmps, assign, body, hy, hR⟩ := hY done ((l.drop f).take (i - f)) w3 hw3 hlen
          dsimp only [encS] at hy
          have hnl : parts l = done ++ [(l.drop f).take (i - f)] ++ parts (l.drop (i + 1)) := by rw [hpl, hpp]; simp
          generalize (l.drop f).take (i - f) = cur at *
          have HP := Lib.hid hnl
          clear hnl hpp hpl HD HX hno h47 h47n hlow
          gi_wp2
          refine hR.mono ?_
          rintro e W3 (⟨rfl, hJ3, hk3⟩ | ⟨rfl, hJx3⟩)
          · gi_wp2
            go_roundw
            case rel => exact ⟨i + 1, i + 1, _, congrArg (Value.int .i64) wi, Nat.le_refl _, q2, fun c hc => by simp at hc, HP.out, hJ3, hk3.2.same _ _ hit3 rfl, (World.cell?_of_block hk3.1).trans hcb3⟩
            case measure =>
              rw [pos_at _ it _ _ (hk3.2.same _ _ hit3 rfl), hm]
              exact q3
          · gi_wp2
            refine bodyPost_ret (results_none rfl _ _ _) rfl ?_
            exact ⟨⟨_, rfl⟩, .inr ⟨_, ⟨_, HP.out.symm⟩, hJx3⟩⟩
        · have h47n : (l[i].toNat : Int) ≠ 47 := fun e => h47 (UInt8.toNat_inj.1 (by show l[i].toNat = 47; omega))
          have hno2 : ∀ c ∈ (l.drop f).take (i + 1 - f), c ≠ 47 := fun c hc => by
            rw [HX.out] at hc
            rcases List.mem_append.1 hc with hc | hc
            · exact hno c hc
            · rw [List.mem_singleton] at hc
              rw [hc]; exact h47
          have HN := Lib.hid hno2
          clear hno2 hno HX HD hlow h47
          generalize l[i].toNat = c at *
          gi_wp2
          go_roundw
          case rel => exact ⟨i + 1, f, done, rfl, q1, q2, HN.out, hpl, hw3, hit3, hcb3⟩
          case measure =>
            rw [pos_at _ it _ _ hit3, hm]
            exact q3
      · obtain rfl : i = l.length := by omega
        have hn := end_at wr it l l.length hit (by omega)
        have hsl := run_from l f (by omega)
        have e1 : (l.drop f).take (l.length - f) = l.drop f := List.take_of_length_le (by simp)
        rw [e1] at hno
        rw [parts_none _ hno] at hpl
        obtain ⟨fn, tmps, assign, body, hy, hR⟩ := hY done (l.drop f) wr hJr (by rw [hpl]; simp)
        dsimp only [encS] at hy
        generalize l.drop f = cur at *
        have HP := Lib.hid hpl
        clear e1 hno hpl hlow
        gi_wp2
        refine hR.mono ?_
        rintro e W3 (⟨rfl, hJ3, hk3⟩ | ⟨rfl, hJx3⟩)
        · gi_wp2
          go_end0
          exact ⟨⟨_, rfl⟩, .inl ⟨_, HP.out.symm, hJ3⟩⟩
        · gi_wp2
          go_end0
          exact ⟨⟨_, rfl⟩, .inr ⟨_, ⟨[], by rw [List.append_nil]; exact HP.out.symm⟩, hJx3⟩⟩
end Go.Proofs.Ytdnagkgblmcojaa
