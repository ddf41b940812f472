/-
What is proved here: slices.Equal of nodes, by a contract.
-/
import Derived.Test.YtdnagkgblmcojaaEqb
import Derived.Deep.QuietTactic
import Derived.BigQuiet
set_option linter.unusedSimpArgs false
namespace Go.Proofs.Ytdnagkgblmcojaa
open Go.Pth Go.Tre Go.RowKit Go.Word Go.Shelf

set_option maxRecDepth 100000 in
theorem neq_node (p q : Bt) (f g m k : Int) (w : World) : (binOp .neq 41 (.agg #[St p, .int .i64 f, .int .i64 m]) (.agg #[St q, .int .i64 g, .int .i64 k])).run Try.prog w = .ok (.bool (!eqNd p q f g m k)) w := by
  have h := eql_node p q f g m k w
  rw [run_eql_struct] at h
  rw [run_neq_struct]
  cases hE : (Op.equalIn 10000 41 (.agg #[St p, .int .i64 f, .int .i64 m]) (.agg #[St q, .int .i64 g, .int .i64 k])).run Try.prog w with
  | ok b w' =>
    rw [hE] at h
    simp only [Result.andThen] at h ⊢
    injection h with h1 h2
    injection h1 with h1
    rw [h1, h2]
  | _ => rw [hE] at h; simp [Result.andThen] at h
theorem eqNd_iff (x y : Nd) : eqNd x.path y.path x.file y.file x.mode y.mode = decide (x = y) := by
  obtain ⟨p, f, m⟩ := x
  obtain ⟨q, g, k⟩ := y
  unfold eqNd same
  by_cases h1 : p = q <;> by_cases h2 : f = g <;> by_cases h3 : m = k <;> simp [h1, h2, h3]
theorem take_eq {α : Type} (a b : List α) (i : Nat) (h : a.take i = b.take i) (ha : i < a.length) (hb : i < b.length) : (a.take (i + 1) = b.take (i + 1) ↔ a[i] = b[i]) := by
  rw [List.take_succ_eq_append_getElem ha, List.take_succ_eq_append_getElem hb, h, List.append_right_inj]
  exact ⟨fun e => by injection e, fun e => by rw [e]⟩

set_option maxRecDepth 100000 in
set_option maxHeartbeats 4000000 in
theorem equalNodes_any (A B : Option Addr) (c d : Nat) (ns ms : List Nd) (w : World) (hn : ns.length ≤ 1000000) (hA : NodesAt w A ns) (hB : NodesAt w B ms) :
    Calls Try.prog 35 #[.slice A ns.length c, .slice B ms.length d] w fun e w' => e = .returned (.bool (decide (ns = ms))) ∧ Below w.heap.size w w' := by
  obtain ⟨n, hne⟩ : ∃ n, n = ns.length := ⟨_, rfl⟩
  obtain ⟨m, hme⟩ : ∃ m, m = ms.length := ⟨_, rfl⟩
  rw [← hne] at hn ⊢
  rw [← hme]
  have NE := Lib.hid hne
  have ME := Lib.hid hme
  have HA := Lib.hid hA
  have HB := Lib.hid hB
  clear hne hme hA hB
  by_cases hnm : n = m
  · subst hnm
    obtain ⟨r, hr⟩ : ∃ r, r = decide (ns = ms) := ⟨_, rfl⟩
    rw [← hr]
    have RE := Lib.hid hr
    clear hr
    go_enter Try.func35, Try.ntmps35
    go_wp2
    go_loopw [5, 13] (fun _ v13 wr => ∃ i : Nat, i ≤ n ∧ v13 = .int .i64 (i : Int) ∧ ns.take i = ms.take i ∧ Below w.heap.size w wr) (fun _ v13 _ => n - (intOf v13).toNat)
    case atStart => exact ⟨0, Nat.zero_le _, rfl, by simp, Below.refl _ _⟩
    case round =>
      obtain ⟨i, hi, rfl, hno, hb⟩ := hrel
      have HBW := Lib.hid hb
      have NO := Lib.hid hno
      clear hb hno
      by_cases hlt : i < n
      · have li : (i : Int) < (n : Int) := by omega
        have lf : i < ns.length := by have := NE.out; omega
        have lm : i < ms.length := by have := ME.out; omega
        obtain ⟨b, o, eA, hl, h1, h2, h3⟩ := HA.out i lf
        obtain ⟨b', o', eB, hl', h1', h2', h3'⟩ := HB.out i lm
        subst eA eB
        have d1 := (HBW.out.cell (p := ⟨b, o + i * 3, none⟩) hl).trans h1
        have d2 := (HBW.out.cell (p := ⟨b, o + i * 3 + 1, none⟩) hl).trans h2
        have d3 := (HBW.out.cell (p := ⟨b, o + i * 3 + 2, none⟩) hl).trans h3
        have f1 := (HBW.out.cell (p := ⟨b', o' + i * 3, none⟩) hl').trans h1'
        have f2 := (HBW.out.cell (p := ⟨b', o' + i * 3 + 1, none⟩) hl').trans h2'
        have f3 := (HBW.out.cell (p := ⟨b', o' + i * 3 + 2, none⟩) hl').trans h3'
        have TK := Lib.hid (take_eq ns ms i NO.out lf lm)
        have EQ := Lib.hid (eqNd_iff ns[i] ms[i])
        have RN := Lib.hid (show ns = ms → ns[i] = ms[i] from fun e => by subst e; rfl)
        clear h1 h2 h3 h1' h2' h3'
        generalize ns[i] = x at *
        generalize ms[i] = y at *
        obtain ⟨p, f, md⟩ := x
        obtain ⟨q, g, k⟩ := y
        have hE := fun W => neq_node p q f g md k W
        have hG := fun x y W => guard_node .neq x y #[St p, .int .i64 f, .int .i64 md] #[St q, .int .i64 g, .int .i64 k] W
        have EQ2 : Hid (eqNd p q f g md k = decide ((⟨p, f, md⟩ : Nd) = ⟨q, g, k⟩)) := EQ
        generalize eqNd p q f g md k = s at hE EQ2
        go_wp2
        go_quiet (fail)
        go_wp2
        · rename_i hd
          have hs : s = false := by simpa using hd
          go_ret
          have hr : r = false := by
            rw [RE.out]
            refine decide_eq_false (fun e => ?_)
            have h1 := EQ2.out
            rw [hs, decide_eq_true (RN.out e)] at h1
            cases h1
          rw [hr]
          exact ⟨rfl, below_drewN HBW.out _⟩
        · rename_i hd
          have hs : s = true := by simpa using hd
          have hxy : (⟨p, f, md⟩ : Nd) = ⟨q, g, k⟩ := of_decide_eq_true (by rw [← EQ2.out]; exact hs)
          exact ⟨⟨i + 1, by omega, by go_num, TK.out.2 hxy, below_drewN HBW.out _⟩, by first | (simp [intOf]; done) | (simp [intOf]; omega)⟩
      · have li : ¬ (i : Int) < (n : Int) := by omega
        have hr : r = true := by
          rw [RE.out]
          have h1 := NO.out
          rw [List.take_of_length_le (by have := NE.out; omega), List.take_of_length_le (by have := ME.out; omega)] at h1
          exact decide_eq_true h1
        have HR := Lib.hid hr
        clear hr
        go_wp2
        go_ret
        rw [HR.out]
        exact ⟨rfl, HBW.out⟩
  · have hr : decide (ns = ms) = false := decide_eq_false (fun e => hnm (by rw [NE.out, ME.out, e]))
    have hnm2 : ¬ (n : Int) = (m : Int) := by omega
    rw [hr]
    clear hr
    go_enter Try.func35, Try.ntmps35
    go_wp2
    go_ret
    exact ⟨rfl, Below.refl _ _⟩
end Go.Proofs.Ytdnagkgblmcojaa
