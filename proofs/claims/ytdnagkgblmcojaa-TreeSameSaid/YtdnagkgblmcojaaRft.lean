/-
What is proved here: the document's own mode, Big and Find, by contracts.
-/
import Derived.Test.YtdnagkgblmcojaaSeg
set_option linter.unusedSimpArgs false
namespace Go.Proofs.Ytdnagkgblmcojaa
open Go.Pth Go.Tre Go.RowKit Go.Word Go.Shelf
attribute [local go_sem] guard_eq st_eql

theorem mode_ref (m : Int) (w : World) : Calls Try.prog 52 #[.int .i64 m] w fun e w' => e = .returned (.bool (okMode m)) ∧ w = w' := by
  by_cases h1 : 0 ≤ m
  · by_cases h2 : m ≤ 511
    · have hr : okMode m = true := decide_eq_true ⟨h1, h2⟩
      rw [hr]
      clear hr
      go_enter Try.func52, Try.ntmps52
      go_wp2
      go_ret
      exact ⟨rfl, rfl⟩
    · have hr : okMode m = false := decide_eq_false (by omega)
      rw [hr]
      clear hr
      go_enter Try.func52, Try.ntmps52
      go_wp2
      go_ret
      exact ⟨rfl, rfl⟩
  · have hr : okMode m = false := decide_eq_false (by omega)
    rw [hr]
    clear hr
    go_enter Try.func52, Try.ntmps52
    go_wp2
    go_ret
    exact ⟨rfl, rfl⟩
/-- the place of a path, -1 if there is none -/
def findI (ns : List Nd) (p : Bt) : Int := if ns.findIdx (fun x => same x.path p) < ns.length then (ns.findIdx (fun x => same x.path p) : Int) else -1
theorem findI_at (ns : List Nd) (p : Bt) (i : Nat) (h : i < ns.length) (h1 : same ns[i].path p = true) (h2 : ∀ j (hj : j < i), same (ns[j]'(by omega)).path p = false) : findI ns p = i := by
  have e : ns.findIdx (fun x => same x.path p) = i := (List.findIdx_eq h).2 ⟨h1, fun j hj => by rw [h2 j hj]⟩
  unfold findI
  rw [e, if_pos h]
theorem findI_no (ns : List Nd) (p : Bt) (h2 : ∀ j (hj : j < ns.length), same ns[j].path p = false) : findI ns p = -1 := by
  unfold findI
  rw [if_neg]
  intro h
  have := List.findIdx_getElem (w := h)
  rw [h2 _ h] at this
  cases this
set_option maxRecDepth 100000 in
set_option maxHeartbeats 4000000 in
theorem find_ref (NA FA : Option Addr) (nc fc : Nat) (ns : List Nd) (k : Nat) (p : Bt) (w : World) (hn : ns.length ≤ 1000000) (hN : NodesAt w NA ns) :
    Calls Try.prog 16 #[.agg #[.slice NA ns.length nc, .slice FA k fc], St p] w fun e w' => e = .returned (.int .i64 (findI ns p)) ∧ Below w.heap.size w w' := by
  obtain ⟨n, hne⟩ : ∃ n, n = ns.length := ⟨_, rfl⟩
  rw [← hne] at hn ⊢
  have NE := Lib.hid hne
  obtain ⟨r, hr⟩ : ∃ r, r = findI ns p := ⟨_, rfl⟩
  rw [← hr]
  have RE := Lib.hid hr
  clear hne hr
  have L := lies_new w 25 #[.slice NA n nc, .slice FA k fc]
  have hB : Below w.heap.size w (w.alloc (.cells #[.slice NA n nc, .slice FA k fc] 25)) := (Below.refl _ _).alloc (Nat.le_refl _) _
  have HN := Lib.hid (nodesAt_below hN hB)
  have c0 : (w.alloc (.cells #[.slice NA n nc, .slice FA k fc] 25)).cell? ⟨w.heap.size, 0, none⟩ = some (.slice NA n nc) := lies_cell L 0
  have HB := Lib.hid hB
  clear L hB hN
  go_enter Try.func16, Try.ntmps16
  go_wp2
  generalize w.alloc (.cells #[.slice NA n nc, .slice FA k fc] 25) = X at *
  go_loopw [5] (fun v5 wr => ∃ i : Nat, i ≤ n ∧ v5 = .int .i64 (i : Int) ∧ (∀ j (hj : j < i) (hl : j < ns.length), same ns[j].path p = false) ∧ wr = X) (fun v5 _ => n - (intOf v5).toNat)
  case atStart => exact ⟨0, Nat.zero_le _, rfl, fun j hj => by omega, rfl⟩
  case round =>
    obtain ⟨i, hi, rfl, hno, rfl⟩ := hrel
    have NO := Lib.hid hno
    clear hno
    by_cases hlt : i < n
    · have li : (i : Int) < (n : Int) := by omega
      have lf : i < ns.length := by have := NE.out; omega
      obtain ⟨b, o, eA, hl, h1, h2, h3⟩ := HN.out i lf
      subst eA
      have FA1 := Lib.hid (fun h => findI_at ns p i lf h (fun j hj => NO.out j hj (by omega)))
      have ST := Lib.hid (show same ns[i].path p = false → ∀ j (hj : j < i + 1) (hl : j < ns.length), same ns[j].path p = false from fun h j hj hl => by
        rcases Nat.lt_or_ge j i with hji | hji
        · exact NO.out j hji hl
        · obtain rfl : j = i := by omega
          exact h)
      clear h2 h3
      obtain ⟨q, hq⟩ : ∃ q, q = ns[i].path := ⟨_, rfl⟩
      rw [← hq] at h1
      have FA2 : Hid (same q p = true → findI ns p = (i : Int)) := by rw [hq]; exact FA1
      have ST2 : Hid (same q p = false → ∀ j (hj : j < i + 1) (hl : j < ns.length), same ns[j].path p = false) := by rw [hq]; exact ST
      clear hq FA1 ST
      go_wp2
      · rename_i hd
        go_ret
        rw [RE.out, FA2.out hd]
        exact ⟨rfl, HB.out⟩
      · rename_i hd
        exact ⟨⟨i + 1, by omega, by go_num, ST2.out (by simpa using hd), trivial⟩, by first | (simp [intOf]; done) | (simp [intOf]; omega)⟩
    · have li : ¬ (i : Int) < (n : Int) := by omega
      have hr : r = -1 := by rw [RE.out]; exact findI_no ns p (fun j hj => NO.out j (by have := NE.out; omega) hj)
      have HR := Lib.hid hr
      clear hr
      go_wp2
      go_ret
      rw [HR.out]
      exact ⟨rfl, HB.out⟩
set_option maxRecDepth 100000 in
set_option maxHeartbeats 4000000 in
theorem big_ref (NA FA : Option Addr) (nc fc : Nat) (n : Nat) (fs : List Fl) (w : World) (hF : FilesAt w FA fs) :
    Calls Try.prog 30 #[.agg #[.slice NA n nc, .slice FA fs.length fc]] w fun e w' => e = .returned (.bool (tooB n fs)) ∧ Below w.heap.size w w' := by
  obtain ⟨m, hme⟩ : ∃ m, m = fs.length := ⟨_, rfl⟩
  rw [← hme]
  have ME := Lib.hid hme
  obtain ⟨r, hr⟩ : ∃ r, r = tooB n fs := ⟨_, rfl⟩
  rw [← hr]
  have RE := Lib.hid hr
  clear hme hr
  have L := lies_new w 25 #[.slice NA n nc, .slice FA m fc]
  have hB : Below w.heap.size w (w.alloc (.cells #[.slice NA n nc, .slice FA m fc] 25)) := (Below.refl _ _).alloc (Nat.le_refl _) _
  have HF := Lib.hid (filesAt_below hF hB)
  have c0 : (w.alloc (.cells #[.slice NA n nc, .slice FA m fc] 25)).cell? ⟨w.heap.size, 0, none⟩ = some (.slice NA n nc) := lies_cell L 0
  have c1 : (w.alloc (.cells #[.slice NA n nc, .slice FA m fc] 25)).cell? ⟨w.heap.size, 1, none⟩ = some (.slice FA m fc) := lies_cell L 1
  have HB := Lib.hid hB
  clear L hB hF
  by_cases h1 : 256 < n
  · have l1 : (256 : Int) < (n : Int) := by omega
    have HR := Lib.hid (show r = true by rw [RE.out]; simp [tooB, h1])
    go_enter Try.func30, Try.ntmps30
    go_wp2
    go_ret
    rw [HR.out]
    exact ⟨rfl, HB.out⟩
  · have l1 : ¬ (256 : Int) < (n : Int) := by omega
    by_cases h2 : 256 < m
    · have l2 : (256 : Int) < (m : Int) := by omega
      have HR := Lib.hid (show r = true by have := ME.out; rw [RE.out]; simp [tooB, ← this, h2])
      go_enter Try.func30, Try.ntmps30
      go_wp2
      go_ret
      rw [HR.out]
      exact ⟨rfl, HB.out⟩
    · have l2 : ¬ (256 : Int) < (m : Int) := by omega
      have HR := Lib.hid (show r = anyGreat fs by have := ME.out; rw [RE.out]; simp [tooB, ← this, h1, h2])
      go_enter Try.func30, Try.ntmps30
      go_wp2
      generalize w.alloc (.cells #[.slice NA n nc, .slice FA m fc] 25) = X at *
      go_loopw [3] (fun v3 wr => ∃ i : Nat, i ≤ m ∧ v3 = .int .i64 (i : Int) ∧ (fs.take i).any (fun x => decide (8192 < x.data.length)) = false ∧ wr = X) (fun v3 _ => m - (intOf v3).toNat)
      case atStart => exact ⟨0, Nat.zero_le _, rfl, by simp, rfl⟩
      case round =>
        obtain ⟨i, hi, rfl, hno, rfl⟩ := hrel
        have NO := Lib.hid hno
        clear hno
        by_cases hlt : i < m
        · have li : (i : Int) < (m : Int) := by omega
          have lf : i < fs.length := by have := ME.out; omega
          obtain ⟨b, o, DA, dc, eA, hl, d1, d2, d3⟩ := HF.out i lf
          subst eA
          have HT := Lib.hid (show (fs.take (i + 1)).any (fun x => decide (8192 < x.data.length)) = decide (8192 < fs[i].data.length) by
            rw [List.take_succ_eq_append_getElem lf, List.any_append, NO.out]; simp)
          have HA := Lib.hid (show 8192 < fs[i].data.length → anyGreat fs = true from fun h => List.any_eq_true.2 ⟨_, List.getElem_mem _, by simpa using h⟩)
          clear d1 d3
          generalize fs[i].data.length = k at *
          by_cases hk : 8192 < k
          · have lk : (8192 : Int) < (k : Int) := by omega
            go_wp2
            go_ret
            rw [HR.out, HA.out hk]
            exact ⟨rfl, HB.out⟩
          · have lk : ¬ (8192 : Int) < (k : Int) := by omega
            go_wp2
            go_roundw
            case rel => exact ⟨i + 1, by omega, by go_num, HT.out.trans (decide_eq_false hk), trivial⟩
            case measure => first | (simp [intOf]; done) | (simp [intOf]; omega)
        · have li : ¬ (i : Int) < (m : Int) := by omega
          have HZ := Lib.hid (show anyGreat fs = false by
            have := NO.out
            rw [List.take_of_length_le (by have := ME.out; omega)] at this
            exact this)
          go_wp2
          go_ret
          rw [HR.out, HZ.out]
          exact ⟨rfl, HB.out⟩
end Go.Proofs.Ytdnagkgblmcojaa
