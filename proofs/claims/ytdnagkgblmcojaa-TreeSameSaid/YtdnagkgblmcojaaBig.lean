/-
What is proved here: the law's look whether a tree is too much to be played, by a contract.
-/
import Derived.Test.YtdnagkgblmcojaaRft
set_option linter.unusedSimpArgs false
namespace Go.Proofs.Ytdnagkgblmcojaa
open Go.Pth Go.Tre Go.RowKit Go.Word Go.Shelf

theorem len_stg (ty : TypeId) (l : Bt) (w : World) : (Builtin.len_ #[9] ty #[St l]).run Try.prog w = .ok (.int .i64 (l.length : Int)) w := by
  unfold St
  rw [run_len_string w 9 ty _ Try.underlying9, size_st]
  rfl
/-- what a tree that is not too much keeps to -/
def Small (ns : List Nd) (fs : List Fl) : Prop := ns.length ≤ 300 ∧ fs.length ≤ 300 ∧ (∀ x ∈ ns, x.path.length ≤ 40000) ∧ ∀ x ∈ fs, x.data.length ≤ 40000
theorem wrap_big (z : Int) (h : -9223372036854775808 ≤ z ∧ z ≤ 9223372036854775807) : wrap64 z = z := by unfold wrap64; omega
/-- how the look ends -/
def BigE (ns : List Nd) (fs : List Fl) (e : Ending) : Prop := ∃ b, e = .returned (.bool b) ∧ (b = false → Small ns fs)
set_option maxRecDepth 100000 in
set_option maxHeartbeats 4000000 in
theorem big_any (NA FA : Option Addr) (nc fc : Nat) (ns : List Nd) (fs : List Fl) (w : World) (hN : NodesAt w NA ns) (hF : FilesAt w FA fs)
    (h1 : ns.length ≤ 140737488355328) (h2 : fs.length ≤ 140737488355328) (h3 : ∀ x ∈ ns, x.path.length ≤ 140737488355328) (h4 : ∀ x ∈ fs, x.data.length ≤ 140737488355328) :
    Calls Try.prog 9 #[.agg #[.slice NA ns.length nc, .slice FA fs.length fc]] w fun e w' => BigE ns fs e ∧ Below w.heap.size w w' := by
  obtain ⟨n, hne⟩ : ∃ n, n = ns.length := ⟨_, rfl⟩
  obtain ⟨m, hme⟩ : ∃ m, m = fs.length := ⟨_, rfl⟩
  rw [← hne] at h1 ⊢
  rw [← hme] at h2 ⊢
  have NE := Lib.hid hne
  have ME := Lib.hid hme
  have H3 := Lib.hid h3
  have H4 := Lib.hid h4
  clear hne hme h3 h4
  have L := lies_new w 25 #[.slice NA n nc, .slice FA m fc]
  have hB : Below w.heap.size w (w.alloc (.cells #[.slice NA n nc, .slice FA m fc] 25)) := (Below.refl _ _).alloc (Nat.le_refl _) _
  have HN := Lib.hid (nodesAt_below hN hB)
  have HF := Lib.hid (filesAt_below hF hB)
  have c0 : (w.alloc (.cells #[.slice NA n nc, .slice FA m fc] 25)).cell? ⟨w.heap.size, 0, none⟩ = some (.slice NA n nc) := lies_cell L 0
  have c1 : (w.alloc (.cells #[.slice NA n nc, .slice FA m fc] 25)).cell? ⟨w.heap.size, 1, none⟩ = some (.slice FA m fc) := lies_cell L 1
  have HB := Lib.hid hB
  have lst := fun ty l w => len_stg ty l w
  clear L hB hN hF
  go_enter Try.func9, Try.ntmps9
  go_wp2
  generalize w.alloc (.cells #[.slice NA n nc, .slice FA m fc] 25) = X at *
  go_loopw [3, 4] (fun v3 v4 wr => ∃ (i : Nat) (N : Int), i ≤ n ∧ v4 = .int .i64 (i : Int) ∧ v3 = .int .i64 N ∧ 0 ≤ N ∧ N ≤ 140737488400000 ∧ (∀ x ∈ ns.take i, (x.path.length : Int) ≤ N) ∧ wr = X) (fun _ v4 _ => n - (intOf v4).toNat)
  case atStart => exact ⟨0, 0, Nat.zero_le _, rfl, rfl, by omega, by omega, by simp, rfl⟩
  case round =>
    obtain ⟨i, N, hi, rfl, rfl, hN0, hN1, hno, rfl⟩ := hrel
    have NO := Lib.hid hno
    clear hno
    by_cases hlt : i < n
    · have li : (i : Int) < (n : Int) := by omega
      by_cases hN4 : N ≤ 40000
      · have lf : i < ns.length := by have := NE.out; omega
        obtain ⟨b, o, eA, hl, d1, d2, d3⟩ := HN.out i lf
        subst eA
        have hpl := H3.out ns[i] (List.getElem_mem _)
        have TK := Lib.hid (fun (M : Int) (hM : N ≤ M) (hq : (ns[i].path.length : Int) ≤ M) => (show ∀ x ∈ ns.take (i + 1), (x.path.length : Int) ≤ M by
          rw [List.take_succ_eq_append_getElem lf]
          intro x hx
          rcases List.mem_append.1 hx with h | h
          · have := NO.out x h; omega
          · rw [List.mem_singleton] at h; subst h; exact hq))
        clear d2 d3
        generalize ns[i].path = q at *
        have wa : wrap64 (N + 1 + (q.length : Int)) = N + 1 + (q.length : Int) := wrap_big _ (by omega)
        go_wp2
        go_roundw
        case rel => exact ⟨i + 1, N + 1 + (q.length : Int), by omega, by go_num, rfl, by omega, by omega, TK.out _ (by omega) (by omega), trivial⟩
        case measure => first | (simp [intOf]; done) | (simp [intOf]; omega)
      · have NF := Lib.hid (show N ≤ 40000 → ∀ x ∈ ns, (x.path.length : Int) ≤ N from fun h => absurd h hN4)
        go_wp2
        go_loopw [3, 5] (fun v3 v5 wr' => ∃ (j : Nat) (M : Int), j ≤ m ∧ v5 = .int .i64 (j : Int) ∧ v3 = .int .i64 M ∧ N ≤ M ∧ M ≤ 140737488400000 ∧ (∀ x ∈ fs.take j, (x.data.length : Int) ≤ M) ∧ wr' = wr) (fun _ v5 _ => m - (intOf v5).toNat)
        case atStart => exact ⟨0, N, Nat.zero_le _, rfl, rfl, by omega, by omega, by simp, rfl⟩
        case round =>
          obtain ⟨j, M, hj, rfl, rfl, hM0, hM1, hno, rfl⟩ := hrel
          have NO2 := Lib.hid hno
          clear hno
          by_cases hM4 : M ≤ 40000
          · exact absurd hM4 (by omega)
          · have hM5 : 40000 < M := by omega
            by_cases hlt2 : j < m
            · have li2 : (j : Int) < (m : Int) := by omega
              go_wp2
              go_ret
              exact ⟨⟨true, rfl, fun h => by cases h⟩, HB.out⟩
            · have li2 : ¬ (j : Int) < (m : Int) := by omega
              go_wp2
              go_ret
              exact ⟨⟨true, rfl, fun h => by cases h⟩, HB.out⟩
    · have li : ¬ (i : Int) < (n : Int) := by omega
      have NF := Lib.hid (show N ≤ 40000 → ∀ x ∈ ns, (x.path.length : Int) ≤ N from fun _ => by
        have := NO.out
        rw [List.take_of_length_le (by have := NE.out; omega)] at this
        exact this)
      go_wp2
      go_loopw [3, 5] (fun v3 v5 wr' => ∃ (j : Nat) (M : Int), j ≤ m ∧ v5 = .int .i64 (j : Int) ∧ v3 = .int .i64 M ∧ N ≤ M ∧ M ≤ 140737488400000 ∧ (∀ x ∈ fs.take j, (x.data.length : Int) ≤ M) ∧ wr' = wr) (fun _ v5 _ => m - (intOf v5).toNat)
      case atStart => exact ⟨0, N, Nat.zero_le _, rfl, rfl, by omega, by omega, by simp, rfl⟩
      case round =>
        obtain ⟨j, M, hj, rfl, rfl, hM0, hM1, hno, rfl⟩ := hrel
        have NO2 := Lib.hid hno
        clear hno
        by_cases hM4 : M ≤ 40000
        · by_cases hlt2 : j < m
          · have li2 : (j : Int) < (m : Int) := by omega
            have lf : j < fs.length := by have := ME.out; omega
            obtain ⟨b, o, DA, dc, eA, hl, d1, d2, d3⟩ := HF.out j lf
            subst eA
            have hpl := H4.out fs[j] (List.getElem_mem _)
            have TK := Lib.hid (fun (M' : Int) (hM : M ≤ M') (hq : (fs[j].data.length : Int) ≤ M') => (show ∀ x ∈ fs.take (j + 1), (x.data.length : Int) ≤ M' by
              rw [List.take_succ_eq_append_getElem lf]
              intro x hx
              rcases List.mem_append.1 hx with h | h
              · have := NO2.out x h; omega
              · rw [List.mem_singleton] at h; subst h; exact hq))
            clear d1 d3
            generalize fs[j].data.length = q at *
            have wa : wrap64 (M + 1 + (q : Int)) = M + 1 + (q : Int) := wrap_big _ (by omega)
            go_wp2
            go_roundw
            case rel => exact ⟨j + 1, M + 1 + (q : Int), by omega, by go_num, rfl, by omega, by omega, TK.out _ (by omega) (by omega), trivial⟩
            case measure => first | (simp [intOf]; done) | (simp [intOf]; omega)
          · have li2 : ¬ (j : Int) < (m : Int) := by omega
            have hM5 : ¬ 40000 < M := by omega
            have AF := Lib.hid (show ∀ x ∈ fs, (x.data.length : Int) ≤ M by
              have := NO2.out
              rw [List.take_of_length_le (by have := ME.out; omega)] at this
              exact this)
            by_cases k1 : 300 < n
            · have k1' : (300 : Int) < (n : Int) := by omega
              go_wp2
              go_ret
              exact ⟨⟨true, rfl, fun h => by cases h⟩, HB.out⟩
            · have k1' : ¬ (300 : Int) < (n : Int) := by omega
              by_cases k2 : 300 < m
              · have k2' : (300 : Int) < (m : Int) := by omega
                go_wp2
                go_ret
                exact ⟨⟨true, rfl, fun h => by cases h⟩, HB.out⟩
              · have k2' : ¬ (300 : Int) < (m : Int) := by omega
                go_wp2
                go_ret
                exact ⟨⟨false, rfl, fun _ => ⟨by have := NE.out; omega, by have := ME.out; omega, fun x hx => by have := NF.out (by omega) x hx; omega, fun x hx => by have := AF.out x hx; omega⟩⟩, HB.out⟩
        · have hM5 : 40000 < M := by omega
          by_cases hlt2 : j < m
          · have li2 : (j : Int) < (m : Int) := by omega
            go_wp2
            go_ret
            exact ⟨⟨true, rfl, fun h => by cases h⟩, HB.out⟩
          · have li2 : ¬ (j : Int) < (m : Int) := by omega
            go_wp2
            go_ret
            exact ⟨⟨true, rfl, fun h => by cases h⟩, HB.out⟩
end Go.Proofs.Ytdnagkgblmcojaa
