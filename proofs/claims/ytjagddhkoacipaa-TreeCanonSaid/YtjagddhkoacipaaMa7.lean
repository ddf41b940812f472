/-
What is proved here: several texts in one (Nds, Eqb, Seq, Seg, Rft, Fnd, Cls, RefN, RefS, RefV, RefK): each says what it is about.
-/
import Derived.Test.YtjagddhkoacipaaMa6
import Derived.Test.YtjagddhkoacipaaMa4
import Derived.Laws.BytesString
import Derived.Deep.QuietTactic
import Derived.BigQuiet
import Derived.Test.YtjagddhkoacipaaMa3
import Derived.Test.YtjagddhkoacipaaMa1
/-
What is proved here: the function value that goes over a loose tree's nodes, for every loop body that keeps what lay below but one block, and the maps.
-/
set_option linter.unusedSimpArgs false
namespace Go.Tre
open Go.Pth
abbrev NdK := { x : Nat × Nd // x.1 ≤ 256 ∧ x.2.path.length ≤ 100000 }
def ndK (i : Nat) (x : Nd) : NdK := ⟨(min i 256, ⟨x.path.take 100000, x.file, x.mode⟩), by show min i 256 ≤ 256; omega, List.length_take_le _ _⟩
def nodesTo (ns : List Nd) (i : Nat) : List NdK := (List.range i).map fun j => ndK j (ns.getD j ⟨[], 0, 0⟩)
def nodesL (ns : List Nd) : List NdK := nodesTo ns ns.length
def seqL (ns : List Nd) (fs : List Fl) : List NdK := if looseE ns fs = 0 then nodesL ns else []
theorem nodesTo_succ (ns : List Nd) (i : Nat) (h : i < ns.length) : nodesTo ns (i + 1) = nodesTo ns i ++ [ndK i ns[i]] := by
  unfold nodesTo
  rw [List.range_succ, List.map_append]
  simp [List.getD_eq_getElem?_getD, List.getElem?_eq_getElem h]
theorem nodesTo_pre (ns : List Nd) (i : Nat) (h : i ≤ ns.length) : nodesTo ns i <+: nodesL ns := by
  unfold nodesL nodesTo
  refine ⟨(List.range' i (ns.length - i)).map fun j => ndK j (ns.getD j ⟨[], 0, 0⟩), ?_⟩
  rw [← List.map_append]
  congr 1
  rw [List.range_eq_range', List.range_eq_range']
  have := @List.range'_append 0 i (ns.length - i) 1
  simpa [show i + (ns.length - i) = ns.length by omega] using this
theorem nodesTo_len (ns : List Nd) (i : Nat) : (nodesTo ns i).length = i := by simp [nodesTo]
theorem ndK_val (i : Nat) (x : Nd) (h1 : i ≤ 256) (h2 : x.path.length ≤ 100000) : (ndK i x).1 = (i, x) := by
  unfold ndK
  show (min i 256, (⟨x.path.take 100000, x.file, x.mode⟩ : Nd)) = (i, x)
  rw [List.take_of_length_le h2, Nat.min_eq_left h1]
end Go.Tre
namespace Go.Proofs.Ytjagddhkoacipaa
open Go.Pth Go.Tre Go.RowKit Go.Word Go.Shelf
attribute [local go_sem] Oper.semAt_some

def encN (k : NdK) : Array Value := #[.int .i64 (k.1.1 : Int), .agg #[St k.1.2.path, .int .i64 k.1.2.file, .int .i64 k.1.2.mode]]
end Go.Proofs.Ytjagddhkoacipaa

/-
What is proved here: bytes.Equal and sameFile, by contracts.
-/
set_option linter.unusedSimpArgs false
namespace Go.Proofs.Ytjagddhkoacipaa
open Go.Pth Go.Tre Go.RowKit Go.Word Go.Shelf
attribute [local go_sem] guard_eq guard_ne st_eql st_neq

theorem push_all (l : Bt) : ∀ s : ByteArray, (l.map fun x => (x.toNat : Int)).foldl (fun r n => r.push (UInt8.ofNat n.toNat)) s = ⟨s.data ++ l.toArray⟩ := by
  induction l with
  | nil => intro s; simp
  | cons x r ih =>
    intro s
    rw [List.map_cons, List.foldl_cons, ih]
    have e : UInt8.ofNat ((x.toNat : Int)).toNat = x := by simp
    rw [e]
    show (⟨(s.data.push x) ++ r.toArray⟩ : ByteArray) = _
    simp
theorem run_text48 (A : Option Addr) (l : Bt) (c : Nat) (w : World) (h : BytesAt w A l) : (convert 37 9 (.slice A l.length c)).run Try.prog w = .ok (St l) w := by
  rw [run_convert_bytes_string w 37 9 5 _ _ c Try.underlying37 Try.underlying5 (by kernel_rfl)]
  have e0 : (l.map fun x => (x.toNat : Int)).foldl (fun r n => r.push (UInt8.ofNat n.toNat)) ByteArray.empty = ⟨l.toArray⟩ := by
    rw [push_all]
    simp [ByteArray.empty, ByteArray.emptyWithCapacity]
    try rfl
  cases A with
  | none =>
    have e : l = [] := by
      rcases l with _ | ⟨x, r⟩
      · rfl
      · obtain ⟨b, o, e, _⟩ := h 0 (by simp)
        cases e
    subst e
    simp [Conv.bytesToString]
    rfl
  | some ad =>
    have hk := run_loadCells_list (P := Try.prog) w ad (l.map fun x => Value.int .u8 (x.toNat : Int)) (fun j v hj => by
      rcases Nat.lt_or_ge j l.length with hl | hl
      · obtain ⟨b, o, e, _, hc⟩ := h j hl
        injection e with e
        subst e
        rw [Addr.add_mid, hc, ← hj]
        simp [hl]
      · rw [List.getElem?_eq_none (by simpa using hl)] at hj; cases hj)
    rw [List.length_map] at hk
    have := run_bytesToString w ad l.length c (l.map fun x => (x.toNat : Int)) (by rw [hk, List.map_map]; rfl)
    rw [this, e0]
    rfl
def sameFl (x y : Fl) : Bool := x.mode == y.mode && same x.data y.data
end Go.Proofs.Ytjagddhkoacipaa

/-
What is proved here: slices.Equal of nodes, by a contract.
-/
set_option linter.unusedSimpArgs false
namespace Go.Proofs.Ytjagddhkoacipaa
open Go.Pth Go.Tre Go.RowKit Go.Word Go.Shelf

set_option maxRecDepth 100000 in
theorem neq_node (p q : Bt) (f g m k : Int) (w : World) : (binOp .neq 54 (.agg #[St p, .int .i64 f, .int .i64 m]) (.agg #[St q, .int .i64 g, .int .i64 k])).run Try.prog w = .ok (.bool (!eqNd p q f g m k)) w := by
  have h := eql_node p q f g m k w
  rw [run_eql_struct] at h
  rw [run_neq_struct]
  cases hE : (Op.equalIn 10000 54 (.agg #[St p, .int .i64 f, .int .i64 m]) (.agg #[St q, .int .i64 g, .int .i64 k])).run Try.prog w with
  | ok b w' =>
    rw [hE] at h
    simp only [Result.andThen] at h ⊢
    injection h with h1 h2
    injection h1 with h1
    rw [h1, h2]
  | _ => rw [hE] at h; simp [Result.andThen] at h
theorem eqNd_iff (x y : Nd) : eqNd x.path y.path x.file y.file x.mode y.mode = decide (x = y) := by
  obtain ⟨p, f, m⟩ := x
  obtain ⟨q, g, k⟩ := y
  unfold eqNd same
  by_cases h1 : p = q <;> by_cases h2 : f = g <;> by_cases h3 : m = k <;> simp [h1, h2, h3]
theorem take_eq {α : Type} (a b : List α) (i : Nat) (h : a.take i = b.take i) (ha : i < a.length) (hb : i < b.length) : (a.take (i + 1) = b.take (i + 1) ↔ a[i] = b[i]) := by
  rw [List.take_succ_eq_append_getElem ha, List.take_succ_eq_append_getElem hb, h, List.append_right_inj]
  exact ⟨fun e => by injection e, fun e => by rw [e]⟩

end Go.Proofs.Ytjagddhkoacipaa

/-
What is proved here: slices.EqualFunc of files, by a contract; tree's Same.
-/
set_option linter.unusedSimpArgs false
namespace Go.Proofs.Ytjagddhkoacipaa
open Go.Pth Go.Tre Go.RowKit Go.Word Go.Shelf

theorem file_range {w : World} {b o : Nat} {m : Int} {v : Value} (d1 : w.cell? ⟨b, o, none⟩ = some (.int .i64 m)) (d2 : w.cell? ⟨b, o + 1, none⟩ = some v) : w.rangeAt b o [.int .i64 m, v] := fun j u hj => by
  match j, hj with
  | 0, hj => injection hj with hj; subst hj; exact d1
  | 1, hj => injection hj with hj; subst hj; exact d2
  | j + 2, hj => simp at hj
theorem sameFl_iff (x y : Fl) : sameFl x y = decide (x = y) := by
  obtain ⟨m, a⟩ := x
  obtain ⟨k, b⟩ := y
  unfold sameFl same
  by_cases h1 : m = k <;> by_cases h2 : a = b <;> simp [h1, h2]
/-- are two trees one, and loose -/
def sameT (ns : List Nd) (fs : List Fl) (ms : List Nd) (gs : List Fl) : Bool := decide (looseE ns fs = 0) && (decide (ns = ms) && decide (fs = gs))
end Go.Proofs.Ytjagddhkoacipaa

/-
What is proved here: the document's own mode, Big and Find, by contracts.
-/
set_option linter.unusedSimpArgs false
namespace Go.Proofs.Ytjagddhkoacipaa
open Go.Pth Go.Tre Go.RowKit Go.Word Go.Shelf
attribute [local go_sem] guard_eq st_eql

theorem mode_ref (m : Int) (w : World) : Calls Try.prog 74 #[.int .i64 m] w fun e w' => e = .returned (.bool (okMode m)) ∧ w = w' := by
  by_cases h1 : 0 ≤ m
  · by_cases h2 : m ≤ 511
    · have hr : okMode m = true := decide_eq_true ⟨h1, h2⟩
      rw [hr]
      clear hr
      go_enter Try.func74, Try.ntmps74
      go_wp2
      go_ret
      exact ⟨rfl, rfl⟩
    · have hr : okMode m = false := decide_eq_false (by omega)
      rw [hr]
      clear hr
      go_enter Try.func74, Try.ntmps74
      go_wp2
      go_ret
      exact ⟨rfl, rfl⟩
  · have hr : okMode m = false := decide_eq_false (by omega)
    rw [hr]
    clear hr
    go_enter Try.func74, Try.ntmps74
    go_wp2
    go_ret
    exact ⟨rfl, rfl⟩
/-- the place of a path, -1 if there is none -/
def findI (ns : List Nd) (p : Bt) : Int := if ns.findIdx (fun x => same x.path p) < ns.length then (ns.findIdx (fun x => same x.path p) : Int) else -1
theorem findI_at (ns : List Nd) (p : Bt) (i : Nat) (h : i < ns.length) (h1 : same ns[i].path p = true) (h2 : ∀ j (hj : j < i), same (ns[j]'(by omega)).path p = false) : findI ns p = i := by
  have e : ns.findIdx (fun x => same x.path p) = i := (List.findIdx_eq h).2 ⟨h1, fun j hj => by rw [h2 j hj]⟩
  unfold findI
  rw [e, if_pos h]
theorem findI_no (ns : List Nd) (p : Bt) (h2 : ∀ j (hj : j < ns.length), same ns[j].path p = false) : findI ns p = -1 := by
  unfold findI
  rw [if_neg]
  intro h
  have := List.findIdx_getElem (w := h)
  rw [h2 _ h] at this
  cases this
set_option maxRecDepth 100000 in
set_option maxHeartbeats 4000000 in
theorem find_ref (NA FA : Option Addr) (nc fc : Nat) (ns : List Nd) (k : Nat) (p : Bt) (w : World) (hn : ns.length ≤ 1000000) (hN : NodesAt w NA ns) :
    Calls Try.prog 29 #[.agg #[.slice NA ns.length nc, .slice FA k fc], St p] w fun e w' => e = .returned (.int .i64 (findI ns p)) ∧ Below w.heap.size w w' := by
  obtain ⟨n, hne⟩ : ∃ n, n = ns.length := ⟨_, rfl⟩
  rw [← hne] at hn ⊢
  have NE := Lib.hid hne
  obtain ⟨r, hr⟩ : ∃ r, r = findI ns p := ⟨_, rfl⟩
  rw [← hr]
  have RE := Lib.hid hr
  clear hne hr
  have L := lies_new w 25 #[.slice NA n nc, .slice FA k fc]
  have hB : Below w.heap.size w (w.alloc (.cells #[.slice NA n nc, .slice FA k fc] 25)) := (Below.refl _ _).alloc (Nat.le_refl _) _
  have HN := Lib.hid (nodesAt_below hN hB)
  have c0 : (w.alloc (.cells #[.slice NA n nc, .slice FA k fc] 25)).cell? ⟨w.heap.size, 0, none⟩ = some (.slice NA n nc) := lies_cell L 0
  have HB := Lib.hid hB
  clear L hB hN
  go_enter Try.func29, Try.ntmps29
  go_wp2
  generalize w.alloc (.cells #[.slice NA n nc, .slice FA k fc] 25) = X at *
  go_loopw [5] (fun v5 wr => ∃ i : Nat, i ≤ n ∧ v5 = .int .i64 (i : Int) ∧ (∀ j (hj : j < i) (hl : j < ns.length), same ns[j].path p = false) ∧ wr = X) (fun v5 _ => n - (intOf v5).toNat)
  case atStart => exact ⟨0, Nat.zero_le _, rfl, fun j hj => by omega, rfl⟩
  case round =>
    obtain ⟨i, hi, rfl, hno, rfl⟩ := hrel
    have NO := Lib.hid hno
    clear hno
    by_cases hlt : i < n
    · have li : (i : Int) < (n : Int) := by omega
      have lf : i < ns.length := by have := NE.out; omega
      obtain ⟨b, o, eA, hl, h1, h2, h3⟩ := HN.out i lf
      subst eA
      have FA1 := Lib.hid (fun h => findI_at ns p i lf h (fun j hj => NO.out j hj (by omega)))
      have ST := Lib.hid (show same ns[i].path p = false → ∀ j (hj : j < i + 1) (hl : j < ns.length), same ns[j].path p = false from fun h j hj hl => by
        rcases Nat.lt_or_ge j i with hji | hji
        · exact NO.out j hji hl
        · obtain rfl : j = i := by omega
          exact h)
      clear h2 h3
      obtain ⟨q, hq⟩ : ∃ q, q = ns[i].path := ⟨_, rfl⟩
      rw [← hq] at h1
      have FA2 : Hid (same q p = true → findI ns p = (i : Int)) := by rw [hq]; exact FA1
      have ST2 : Hid (same q p = false → ∀ j (hj : j < i + 1) (hl : j < ns.length), same ns[j].path p = false) := by rw [hq]; exact ST
      clear hq FA1 ST
      go_wp2
      · rename_i hd
        go_ret
        rw [RE.out, FA2.out hd]
        exact ⟨rfl, HB.out⟩
      · rename_i hd
        exact ⟨⟨i + 1, by omega, by go_num, ST2.out (by simpa using hd), trivial⟩, by first | (simp [intOf]; done) | (simp [intOf]; omega)⟩
    · have li : ¬ (i : Int) < (n : Int) := by omega
      have hr : r = -1 := by rw [RE.out]; exact findI_no ns p (fun j hj => NO.out j (by have := NE.out; omega) hj)
      have HR := Lib.hid hr
      clear hr
      go_wp2
      go_ret
      rw [HR.out]
      exact ⟨rfl, HB.out⟩
set_option maxRecDepth 100000 in
set_option maxHeartbeats 4000000 in
theorem big_ref (NA FA : Option Addr) (nc fc : Nat) (n : Nat) (fs : List Fl) (w : World) (hF : FilesAt w FA fs) :
    Calls Try.prog 44 #[.agg #[.slice NA n nc, .slice FA fs.length fc]] w fun e w' => e = .returned (.bool (tooB n fs)) ∧ Below w.heap.size w w' := by
  obtain ⟨m, hme⟩ : ∃ m, m = fs.length := ⟨_, rfl⟩
  rw [← hme]
  have ME := Lib.hid hme
  obtain ⟨r, hr⟩ : ∃ r, r = tooB n fs := ⟨_, rfl⟩
  rw [← hr]
  have RE := Lib.hid hr
  clear hme hr
  have L := lies_new w 25 #[.slice NA n nc, .slice FA m fc]
  have hB : Below w.heap.size w (w.alloc (.cells #[.slice NA n nc, .slice FA m fc] 25)) := (Below.refl _ _).alloc (Nat.le_refl _) _
  have HF := Lib.hid (filesAt_below hF hB)
  have c0 : (w.alloc (.cells #[.slice NA n nc, .slice FA m fc] 25)).cell? ⟨w.heap.size, 0, none⟩ = some (.slice NA n nc) := lies_cell L 0
  have c1 : (w.alloc (.cells #[.slice NA n nc, .slice FA m fc] 25)).cell? ⟨w.heap.size, 1, none⟩ = some (.slice FA m fc) := lies_cell L 1
  have HB := Lib.hid hB
  clear L hB hF
  by_cases h1 : 256 < n
  · have l1 : (256 : Int) < (n : Int) := by omega
    have HR := Lib.hid (show r = true by rw [RE.out]; simp [tooB, h1])
    go_enter Try.func44, Try.ntmps44
    go_wp2
    go_ret
    rw [HR.out]
    exact ⟨rfl, HB.out⟩
  · have l1 : ¬ (256 : Int) < (n : Int) := by omega
    by_cases h2 : 256 < m
    · have l2 : (256 : Int) < (m : Int) := by omega
      have HR := Lib.hid (show r = true by have := ME.out; rw [RE.out]; simp [tooB, ← this, h2])
      go_enter Try.func44, Try.ntmps44
      go_wp2
      go_ret
      rw [HR.out]
      exact ⟨rfl, HB.out⟩
    · have l2 : ¬ (256 : Int) < (m : Int) := by omega
      have HR := Lib.hid (show r = anyGreat fs by have := ME.out; rw [RE.out]; simp [tooB, ← this, h1, h2])
      go_enter Try.func44, Try.ntmps44
      go_wp2
      generalize w.alloc (.cells #[.slice NA n nc, .slice FA m fc] 25) = X at *
      go_loopw [3] (fun v3 wr => ∃ i : Nat, i ≤ m ∧ v3 = .int .i64 (i : Int) ∧ (fs.take i).any (fun x => decide (8192 < x.data.length)) = false ∧ wr = X) (fun v3 _ => m - (intOf v3).toNat)
      case atStart => exact ⟨0, Nat.zero_le _, rfl, by simp, rfl⟩
      case round =>
        obtain ⟨i, hi, rfl, hno, rfl⟩ := hrel
        have NO := Lib.hid hno
        clear hno
        by_cases hlt : i < m
        · have li : (i : Int) < (m : Int) := by omega
          have lf : i < fs.length := by have := ME.out; omega
          obtain ⟨b, o, DA, dc, eA, hl, d1, d2, d3⟩ := HF.out i lf
          subst eA
          have HT := Lib.hid (show (fs.take (i + 1)).any (fun x => decide (8192 < x.data.length)) = decide (8192 < fs[i].data.length) by
            rw [List.take_succ_eq_append_getElem lf, List.any_append, NO.out]; simp)
          have HA := Lib.hid (show 8192 < fs[i].data.length → anyGreat fs = true from fun h => List.any_eq_true.2 ⟨_, List.getElem_mem _, by simpa using h⟩)
          clear d1 d3
          generalize fs[i].data.length = k at *
          by_cases hk : 8192 < k
          · have lk : (8192 : Int) < (k : Int) := by omega
            go_wp2
            go_ret
            rw [HR.out, HA.out hk]
            exact ⟨rfl, HB.out⟩
          · have lk : ¬ (8192 : Int) < (k : Int) := by omega
            go_wp2
            go_roundw
            case rel => exact ⟨i + 1, by omega, by go_num, HT.out.trans (decide_eq_false hk), trivial⟩
            case measure => first | (simp [intOf]; done) | (simp [intOf]; omega)
        · have li : ¬ (i : Int) < (m : Int) := by omega
          have HZ := Lib.hid (show anyGreat fs = false by
            have := NO.out
            rw [List.take_of_length_le (by have := ME.out; omega)] at this
            exact this)
          go_wp2
          go_ret
          rw [HR.out, HZ.out]
          exact ⟨rfl, HB.out⟩
end Go.Proofs.Ytjagddhkoacipaa

/-
What is proved here: tree.Find, by a contract.
-/
set_option linter.unusedSimpArgs false
namespace Go.Tre
open Go.Pth Go.Proofs.Ytjagddhkoacipaa
/-- what Find tells -/
def lookI (ns : List Nd) (fs : List Fl) (p : Bt) : Int := if looseE ns fs = 0 then findI ns p else -1
theorem nodesL_get (ns : List Nd) (j : Nat) (h : j < ns.length) : (nodesL ns)[j]? = some (ndK j ns[j]) := by
  unfold nodesL nodesTo
  simp [h, List.getD_eq_getElem?_getD]
theorem seq_no (ns : List Nd) (fs : List Fl) (p : Bt) (hp : ∀ x ∈ ns, x.path.length ≤ 100000) (h : ∀ x ∈ seqL ns fs, same x.1.2.path p = false) : lookI ns fs p = -1 := by
  unfold lookI
  by_cases hz : looseE ns fs = 0
  · rw [if_pos hz]
    refine findI_no ns p (fun j hj => ?_)
    have h1 := h (ndK j ns[j]) (by
      unfold seqL
      rw [if_pos hz]
      exact List.mem_of_getElem? (nodesL_get ns j hj))
    rw [ndK_val j ns[j] (by have := (loose_small hz).1; omega) (hp _ (List.getElem_mem hj))] at h1
    exact h1
  · rw [if_neg hz]
theorem seq_at (ns : List Nd) (fs : List Fl) (p : Bt) (pre : List NdK) (x : NdK) (hp : ∀ x ∈ ns, x.path.length ≤ 100000) (hpre : pre ++ [x] <+: seqL ns fs) (h : ∀ y ∈ pre, same y.1.2.path p = false) (h2 : same x.1.2.path p = true) : lookI ns fs p = (x.1.1 : Int) := by
  unfold lookI
  obtain ⟨t, ht⟩ := hpre
  by_cases hz : looseE ns fs = 0
  · rw [if_pos hz]
    unfold seqL at ht
    rw [if_pos hz] at ht
    have hn := (loose_small hz).1
    have hl : (nodesL ns).length = ns.length := nodesTo_len _ _
    have hlen : pre.length < ns.length := by rw [← hl, ← ht]; simp
    have at_ : ∀ j (hj : j < ns.length), (ndK j ns[j]).1 = (j, ns[j]) := fun j hj => ndK_val j ns[j] (by omega) (hp _ (List.getElem_mem hj))
    have hx : x = ndK pre.length ns[pre.length] := by
      have := nodesL_get ns pre.length hlen
      rw [← ht, List.append_assoc, List.getElem?_append_right (Nat.le_refl _)] at this
      simpa using this
    rw [hx, at_ _ hlen] at h2
    rw [hx, at_ _ hlen]
    refine findI_at ns p pre.length hlen h2 (fun j hj => ?_)
    have hj2 : j < ns.length := by omega
    have hy : pre[j]'hj = ndK j ns[j] := by
      have := nodesL_get ns j hj2
      rw [← ht, List.append_assoc, List.getElem?_append_left hj, List.getElem?_eq_getElem hj] at this
      simpa using this
    have := h _ (List.getElem_mem hj)
    rw [hy, at_ _ hj2] at this
    exact this
  · unfold seqL at ht
    rw [if_neg hz] at ht
    simp at ht
end Go.Tre
namespace Go.Proofs.Ytjagddhkoacipaa
open Go.Pth Go.Tre Go.RowKit Go.Word Go.Shelf
attribute [local go_sem] Oper.semAt_some guard_eq guard_ne st_eql

/-- no node of these has the path -/
def NoneOf (p : Bt) (pre : List NdK) : Prop := ∀ x ∈ pre, same x.1.2.path p = false
/-- the last of these has the path, and its place lies in the block -/
def Hit (p : Bt) (B : Nat) (pre : List NdK) (W : World) : Prop := ∃ pr x, pre = pr ++ [x] ∧ NoneOf p pr ∧ same x.1.2.path p = true ∧ Boxed W B 3 (.int .i64 (x.1.1 : Int))
theorem lies_own (B : Nat) (t : TypeId) (cs : Array Value) {X Y : World} {row : Option Nat} (h : Lies X B t cs) (hg : X.grownBy Y row) (hr : ∀ r, row = some r → ∃ o : Obj, X.heap[r]? = some o ∧ o.isCells = false) : Lies Y B t cs :=
  (hg.block B (lies_lt h) (fun e => by
    obtain ⟨o, ho, hc⟩ := hr B e.symm
    unfold Lies at h
    rw [h] at ho
    injection ho with ho
    subst ho
    cases hc)).trans h
end Go.Proofs.Ytjagddhkoacipaa

/-
What is proved here: the two things that a path of a tree is asked for, by contracts.
-/
set_option linter.unusedSimpArgs false
namespace Go.Proofs.Ytjagddhkoacipaa
open Go.Pth Go.Tre Go.RowKit Go.Word Go.Shelf
attribute [local go_sem] guard_eq guard_ne st_eql

end Go.Proofs.Ytjagddhkoacipaa

/-
What is proved here: the document's own look at one name, by a contract.
-/
set_option linter.unusedSimpArgs false
namespace Go.Proofs.Ytjagddhkoacipaa
open Go.Pth Go.RowKit Go.Word

theorem eql_st (t : TypeId) (a b : Bt) (v : ByteArray) (hv : v = ⟨b.toArray⟩) : binOp .eql t (St a) (.string v) = pure (.bool (same a b)) := by
  subst hv; exact st_eql t a b
theorem len_st (ty : TypeId) (l : Bt) (w : World) : (Builtin.len_ #[9] ty #[St l]).run Try.prog w = .ok (.int .i64 (l.length : Int)) w := by
  unfold St
  rw [run_len_string w 9 ty _ Try.underlying9, size_st]
  rfl
theorem index_st (l : Bt) (i : Nat) (h : i < l.length) (w : World) : (Instr.index 9 (St l) (.int .i64 i)).run Try.prog w = .ok (.int .u8 (l[i].toNat : Int)) w := by
  unfold St
  rw [run_index_string w 9 _ .i64 i Try.underlying9]
  have h1 : 0 ≤ (i : Int) ∧ (i : Int) < ((ByteArray.mk l.toArray).size : Int) := by rw [size_st]; omega
  rw [dif_pos h1]
  have := get_st l i h
  simp only [Int.toNat_natCast]
  rw [this]
theorem eql_dot (t : TypeId) (a : Bt) : binOp .eql t (St a) (.string { data := #[46] }) = pure (.bool (same a [46])) := st_eql t a [46]
theorem eql_dots (t : TypeId) (a : Bt) : binOp .eql t (St a) (.string { data := #[46, 46] }) = pure (.bool (same a [46, 46])) := st_eql t a [46, 46]
attribute [local go_sem] guard_eq eql_dot eql_dots len_st

theorem okb_iff (c : UInt8) : okb c = true ↔ (97 ≤ (c.toNat : Int) ∧ (c.toNat : Int) ≤ 122 ∨ 48 ≤ (c.toNat : Int) ∧ (c.toNat : Int) ≤ 57 ∨ (c.toNat : Int) = 46 ∨ (c.toNat : Int) = 95 ∨ (c.toNat : Int) = 45) := by
  unfold okb
  rw [decide_eq_true_eq]
  omega

set_option maxHeartbeats 2000000 in
theorem name_any (l : Bt) (w : World) (hl : l.length ≤ 100000) : Calls Try.prog 76 #[St l] w fun e w' => e = .returned (.bool (isName l)) ∧ w = w' := by
  by_cases h1 : l.length < 1
  · have hn : isName l = false := by
      have : l = [] := List.eq_nil_of_length_eq_zero (by omega)
      subst this; decide
    rw [hn]
    have h1' : (l.length : Int) < 1 := by omega
    clear hn h1 hl
    go_enter Try.func76, Try.ntmps76
    go_wp2
    go_ret
    exact ⟨rfl, rfl⟩
  have h1' : ¬ (l.length : Int) < 1 := by omega
  by_cases h2 : 14 < l.length
  · have hn : isName l = false := by
      have : ¬ l.length ≤ 14 := by omega
      simp [isName, this]
    rw [hn]
    have h2' : 14 < (l.length : Int) := by omega
    clear hn h1 h2 hl
    go_enter Try.func76, Try.ntmps76
    go_wp2
    go_ret
    exact ⟨rfl, rfl⟩
  have h2' : ¬ 14 < (l.length : Int) := by omega
  by_cases h3 : l = [46]
  · have hn : isName l = false := by subst h3; decide
    rw [hn]
    have h3' : same l [46] = true := decide_eq_true h3
    clear hn h1 h2 h3 hl
    go_enter Try.func76, Try.ntmps76
    go_wp2
    go_ret
    exact ⟨rfl, rfl⟩
  have h3' : same l [46] = false := decide_eq_false h3
  by_cases h4 : l = [46, 46]
  · have hn : isName l = false := by subst h4; decide
    rw [hn]
    have h4' : same l [46, 46] = true := decide_eq_true h4
    clear hn h1 h2 h3 h4 hl
    go_enter Try.func76, Try.ntmps76
    go_wp2
    go_ret
    exact ⟨rfl, rfl⟩
  have h4' : same l [46, 46] = false := decide_eq_false h4
  have hi : isName l = l.all okb := by
    have e1 : l ≠ [] := fun e => h1 (by rw [e]; decide)
    have e2 : l.length ≤ 14 := by omega
    simp [isName, stands, e1, e2, h3, h4]
  rw [hi]
  clear hi h1 h3 h4 hl
  go_enter Try.func76, Try.ntmps76
  go_wp2
  go_loopw [3] (fun x wr => ∃ i : Nat, i ≤ l.length ∧ x = .int .i64 i ∧ w = wr ∧ (l.take i).all okb = true) (fun x _ => l.length - (intOf x).toNat)
  case atStart => exact ⟨0, by omega, rfl, by trivial, rfl⟩
  case round =>
    obtain ⟨i, hil, rfl, rfl, hall⟩ := hrel
    by_cases hi : i < l.length
    · have hix := index_st l i hi
      have li : (i : Int) < (l.length : Int) := by omega
      have hok := okb_iff l[i]
      have hnx : (l.take (i + 1)).all okb = ((l.take i).all okb && okb l[i]) := by
        rw [List.take_succ_eq_append_getElem hi, List.all_append]; simp
      have hbad : okb l[i] = false → l.all okb = false := fun h => by
        rw [List.all_eq_false]
        exact ⟨l[i], List.getElem_mem hi, by rw [h]; decide⟩
      generalize l[i] = c at *
      cases hc : okb c with
      | true =>
        have hcc := hok.1 hc
        rw [hall, hc] at hnx
        have HX := Lib.hid hnx
        have q2 : i + 1 ≤ l.length := hi
        have q3 : l.length - (i + 1) < l.length - i := by omega
        clear hok hbad hc hnx
        generalize (c.toNat : Int) = b at *
        go_wp2
        all_goals first | (exfalso; omega) | (exfalso; rename_i h; simp at h; omega) | (exfalso; rename_i h _; simp at h; omega) | (exfalso; rename_i h _ _; simp at h; omega) | skip
        all_goals go_roundw
        all_goals first
          | exact ⟨i + 1, q2, by go_num, by trivial, HX.out⟩
          | (simp [intOf]; done)
          | (simp [intOf]; omega)
      | false =>
        have hcc : ¬ _ := fun h => by have := hok.2 h; rw [hc] at this; cases this
        have HB := Lib.hid (hbad hc)
        clear hok hbad hc hnx
        generalize (c.toNat : Int) = b at *
        go_wp2
        all_goals first | (exfalso; omega) | (exfalso; rename_i h; simp at h; omega) | (exfalso; rename_i h _; simp at h; omega) | (exfalso; rename_i h _ _; simp at h; omega) | skip
        all_goals go_ret
        all_goals exact ⟨by rw [HB.out]; rfl, rfl⟩
    · have li : ¬ (i : Int) < (l.length : Int) := by omega
      have e : l.all okb = true := by rw [List.take_of_length_le (by omega)] at hall; exact hall
      have HE := Lib.hid e
      clear e
      go_wp2
      go_ret
      exact ⟨by rw [HE.out]; rfl, rfl⟩
end Go.Proofs.Ytjagddhkoacipaa

/-
What is proved here: the document's own split of a text at its slashes, by a contract.
-/
set_option linter.unusedSimpArgs false
namespace Go.Proofs.Ytjagddhkoacipaa
open Go.Pth Go.RowKit Go.Word
attribute [local go_sem] guard_eq eql_dot eql_dots len_st

theorem str_info : (Try.prog.info? 9).map (fun i => (i.zero, i.size, i.bytes)) = some (some (.string ⟨#[]⟩), 1, 16) := by kernel_rfl
theorem cut_count (l : Bt) : (cutAt l).2.length ≤ l.length := by
  induction l with
  | nil => simp [cutAt]
  | cons c r ih =>
    by_cases h : c = 47
    · subst h; simp only [cutAt, if_true, List.length_cons]; omega
    · simp only [cutAt, h, if_false, List.length_cons]; omega
theorem parts_count (l : Bt) : (parts l).length ≤ l.length + 1 := by
  have := cut_count l
  simp [parts]; omega

theorem append_below {w wr w1 : World} {v : Value} {k : Nat} {xs : List Value} {tmp : Obj} (hrow : wr.ownsRow w.heap.size 9 1 v k xs) (hB : Below w.heap.size w wr) (hg : (wr.alloc tmp).grownBy w1 v.ownBlock) : Below w.heap.size w w1 :=
  (hB.alloc hB.size tmp).grown hg (by have := hB.size; simp; omega) (fun j ej => (World.ownsRow.lt hrow j ej).1)

set_option maxRecDepth 100000 in
set_option maxHeartbeats 4000000 in
theorem split_ref (l : Bt) (w : World) (hl : l.length ≤ 100000) : Calls Try.prog 52 #[St l] w fun e w' => ∃ v, e = .returned v ∧ w'.ownsRow w.heap.size 9 1 v (parts l).length ((parts l).map St) ∧ Below w.heap.size w w' := by
  obtain ⟨i0, hi, hz0, hz1, hz2⟩ := info_parts str_info
  have hcnt := parts_count l
  go_enter Try.func52, Try.ntmps52
  go_wp2
  go_loopw [3, 4, 5] (fun v x y wr => ∃ (i f : Nat) (done : List Bt), y = .int .i64 i ∧ x = .int .i64 f ∧ f ≤ i ∧ i ≤ l.length ∧ (∀ c ∈ (l.drop f).take (i - f), c ≠ 47) ∧ parts l = done ++ parts (l.drop f) ∧ wr.ownsRow w.heap.size 9 1 v done.length (done.map St) ∧ Below w.heap.size w wr) (fun _ _ y _ => l.length - (intOf y).toNat)
  case atStart => exact ⟨0, 0, [], rfl, rfl, by omega, by omega, fun c hc => by simp at hc, rfl, World.ownsRow_nil _ _ _ _, Below.refl _ _⟩
  case round =>
    obtain ⟨i, f, done, rfl, rfl, hfi, hil, hno, hpl, hrow, hB⟩ := hrel
    have hdl : done.length ≤ 100000 := by
      have := parts_pos (l.drop f)
      rw [hpl, List.length_append] at hcnt
      omega
    have HB := Lib.hid hB
    by_cases hlt : i < l.length
    · have hix := index_st l i hlt
      have li : (i : Int) < (l.length : Int) := by omega
      have q1 : f ≤ i + 1 := by omega
      have q2 : i + 1 ≤ l.length := hlt
      have q3 : l.length - (i + 1) < l.length - i := by omega
      have wi : wrap64 ((i : Int) + 1) = ((i + 1 : Nat) : Int) := by rw [wrap_in _ (by omega) (by omega)]; omega
      have hsl := run_sub l f i hfi hil
      have hnx : (l.drop f).take (i + 1 - f) = (l.drop f).take (i - f) ++ [l[i]] := by
        rw [show i + 1 - f = i - f + 1 by omega, List.take_succ_eq_append_getElem (by simp; omega)]
        simp only [List.getElem_drop, show f + (i - f) = i by omega]
      have hdr : l.drop f = (l.drop f).take (i - f) ++ l[i] :: l.drop (i + 1) := by
        conv => lhs; rw [← List.take_append_drop (i - f) (l.drop f)]
        rw [List.drop_drop, show f + (i - f) = i by omega, List.drop_eq_getElem_cons hlt]
      have HX := Lib.hid hnx
      have HD := Lib.hid hdr
      clear hnx hdr hB
      by_cases h47 : l[i] = 47
      · have h47n : (l[i].toNat : Int) = 47 := by rw [h47]; decide
        rw [h47n] at hix
        have hpp : parts (l.drop f) = (l.drop f).take (i - f) :: parts (l.drop (i + 1)) := by
          conv => lhs; rw [HD.out, h47]
          rw [parts_app, parts_none _ hno]
          rfl
        have hnl : parts l = done ++ [(l.drop f).take (i - f)] ++ parts (l.drop (i + 1)) := by rw [hpl, hpp]; simp
        generalize (l.drop f).take (i - f) = cur at *
        have HP := Lib.hid hnl
        clear hnl hpp hpl HD HX hno h47 h47n hcnt
        go_wp2_with (refine wpList_append_own _ rfl _ _ 58 rfl w.heap.size 9 i0 (.string ⟨#[]⟩) 1 16 Try.underlying58 hi hz0 hz1 hz2 rfl (by decide) _ _ _ rfl (hrow.alloc _) ⟨wr.heap.size, 0, none⟩ 1 1 [St cur] rfl rfl (cell_one_new _ _ _) (fun y hy => by rw [List.mem_singleton] at hy; subst hy; rfl) (by unfold maxLen; omega) (by omega) (by have := HB.out.size; simp; omega) ?_; intro v' w1 hown' hgrow _; have HB1 := Lib.hid (append_below hrow HB.out hgrow); have HO := Lib.hid hown'; clear hgrow hown')
        · rename_i h
          rcases h with h | h
          · exact absurd h (by simp [St])
          · exact absurd h (by simp [St])
        · go_roundw
          case rel => exact ⟨i + 1, i + 1, done ++ [cur], by go_num, by go_num, Nat.le_refl _, q2, fun c hc => by simp at hc, HP.out, by simpa using HO.out, HB1.out⟩
          case measure => first | (simp [intOf]; done) | (simp [intOf]; omega)
      · have h47n : (l[i].toNat : Int) ≠ 47 := fun e => h47 (UInt8.toNat_inj.1 (by show l[i].toNat = 47; omega))
        have hno2 : ∀ c ∈ (l.drop f).take (i + 1 - f), c ≠ 47 := fun c hc => by
          rw [HX.out] at hc
          rcases List.mem_append.1 hc with hc | hc
          · exact hno c hc
          · rw [List.mem_singleton] at hc
            rw [hc]; exact h47
        have HN := Lib.hid hno2
        have HP := Lib.hid hpl
        have HR := Lib.hid hrow
        clear hno2 hno HX HD h47 hpl hcnt hrow
        generalize l[i].toNat = c at *
        go_wp2
        go_roundw
        case rel => exact ⟨i + 1, f, done, by go_num, rfl, q1, q2, HN.out, HP.out, HR.out, HB.out⟩
        case measure => first | (simp [intOf]; done) | (simp [intOf]; omega)
    · obtain rfl : i = l.length := by omega
      have li : ¬ (l.length : Int) < (l.length : Int) := by omega
      have hsl := run_from l f (by omega)
      have e1 : (l.drop f).take (l.length - f) = l.drop f := List.take_of_length_le (by simp)
      rw [e1] at hno
      rw [parts_none _ hno] at hpl
      generalize l.drop f = cur at *
      have HP := Lib.hid hpl
      clear e1 hno hpl hcnt hB
      go_wp2_with (refine wpList_append_own _ rfl _ _ 58 rfl w.heap.size 9 i0 (.string ⟨#[]⟩) 1 16 Try.underlying58 hi hz0 hz1 hz2 rfl (by decide) _ _ _ rfl (hrow.alloc _) ⟨wr.heap.size, 0, none⟩ 1 1 [St cur] rfl rfl (cell_one_new _ _ _) (fun y hy => by rw [List.mem_singleton] at hy; subst hy; rfl) (by unfold maxLen; omega) (by omega) (by have := HB.out.size; simp; omega) ?_; intro v' w1 hown' hgrow _; have HB1 := Lib.hid (append_below hrow HB.out hgrow); have HO := Lib.hid hown'; clear hgrow hown')
      · rename_i h
        rcases h with h | h
        · exact absurd h (by simp [St])
        · exact absurd h (by simp [St])
      · go_ret
        refine ⟨_, rfl, ?_, HB1.out⟩
        rw [HP.out]
        simpa using HO.out
end Go.Proofs.Ytjagddhkoacipaa

/-
What is proved here: the document's own Valid, Names, Parent, Base and Kept, by contracts.
-/
set_option linter.unusedSimpArgs false
namespace Go.Proofs.Ytjagddhkoacipaa
open Go.Pth Go.RowKit Go.Word
theorem eql_ts (t : TypeId) (a : Bt) : binOp .eql t (St a) (.string { data := #[46, 116, 115] }) = pure (.bool (same a [46, 116, 115])) := st_eql t a [46, 116, 115]
attribute [local go_sem] guard_eq eql_dot eql_dots len_st eql_ts

/-- a list of texts lies at A, from block b on -/
def Tx (w : World) (b : Nat) (A : Option Addr) (ns : List Bt) : Prop := ∀ j, j < ns.length → ∃ g, A = some ⟨g, 0, none⟩ ∧ b ≤ g ∧ w.cell? ⟨g, j, none⟩ = some (St (ns.getD j []))
theorem tx_nil (w : World) (b : Nat) (A : Option Addr) : Tx w b A [] := fun j hj => by simp at hj
theorem tx_below {w w' : World} {b : Nat} {A : Option Addr} {ns : List Bt} (h : Tx w b A ns) (hb : Below w.heap.size w w') : Tx w' b A ns := fun j hj => by
  obtain ⟨g, e, hg, hc⟩ := h j hj
  refine ⟨g, e, hg, ?_⟩
  rw [hb.cell (p := ⟨g, j, none⟩) (block_lt_of_cell hc)]
  exact hc
theorem tx_mono {w : World} {b b' : Nat} {A : Option Addr} {ns : List Bt} (h : Tx w b A ns) (hb : b' ≤ b) : Tx w b' A ns := fun j hj => by
  obtain ⟨g, e, hg, hc⟩ := h j hj
  exact ⟨g, e, Nat.le_trans hb hg, hc⟩
theorem tx_own {w : World} {base : Nat} {v : Value} {ns : List Bt} (h : w.ownsRow base 9 1 v ns.length (ns.map St)) : ∃ A C, v = .slice A ns.length C ∧ Tx w base A ns := by
  rcases h.2 with ⟨e1, e2⟩ | ⟨g, cap, cur, e1, hbg, _⟩
  · refine ⟨none, 0, by rw [e2]; exact e1, fun j hj => by omega⟩
  · subst e1
    refine ⟨_, _, rfl, fun j hj => ⟨g, rfl, hbg, ?_⟩⟩
    rw [World.ownsRow.cellAt h j (by omega)]
    simp [List.getD_eq_getElem?_getD, hj]

theorem parts_sum (l : Bt) : l.length + 1 = ((parts l).map fun p => p.length + 1).sum := by
  induction l with
  | nil => simp [parts, cutAt]
  | cons c r ih =>
    by_cases h47 : c = 47
    · subst h47
      have e : parts (47 :: r) = [] :: parts r := by simp [parts, cutAt]
      rw [e, List.map_cons, List.sum_cons, ← ih]
      simp; omega
    · have e : parts (c :: r) = (c :: (cutAt r).1) :: (cutAt r).2 := by simp [parts, cutAt, h47]
      have e2 : parts r = (cutAt r).1 :: (cutAt r).2 := rfl
      rw [e2, List.map_cons, List.sum_cons] at ih
      rw [e, List.map_cons, List.sum_cons, List.length_cons, List.length_cons]
      omega
theorem sum_most (L : List Nat) (k : Nat) (h : ∀ x ∈ L, x ≤ k) : L.sum ≤ k * L.length := by
  induction L with
  | nil => simp
  | cons x r ih =>
    rw [List.sum_cons, List.length_cons, Nat.mul_succ]
    have := ih (fun y hy => h y (by simp [hy]))
    have := h x (by simp)
    omega
theorem path_len (l : Bt) (h : isPath l = true) : l.length ≤ 100 := by
  unfold isPath at h
  rw [Bool.and_eq_true, decide_eq_true_eq] at h
  have h1 := parts_sum l
  have h2 := sum_most ((parts l).map fun p => p.length + 1) 15 (fun x hx => by
    obtain ⟨p, hp, rfl⟩ := List.mem_map.1 hx
    have := List.all_eq_true.1 h.2 p hp
    unfold isName at this
    rw [Bool.and_eq_true, Bool.and_eq_true, decide_eq_true_eq] at this
    omega)
  rw [List.length_map] at h2
  omega

theorem split_tx (l : Bt) (w : World) (hl : l.length ≤ 100000) : Calls Try.prog 52 #[St l] w fun e w' => ∃ A C, e = .returned (.slice A (parts l).length C) ∧ Tx w' w.heap.size A (parts l) ∧ Below w.heap.size w w' :=
  (split_ref l w hl).mono fun e w' ⟨v, he, ho, hb⟩ => by
    obtain ⟨A, C, rfl, ht⟩ := tx_own ho
    exact ⟨A, C, he, ht, hb⟩

set_option maxRecDepth 100000 in
set_option maxHeartbeats 4000000 in
theorem valid_ref (l : Bt) (w : World) (hl : l.length ≤ 100000) : Calls Try.prog 51 #[St l] w fun e w' => e = .returned (.bool (isPath l)) ∧ Below w.heap.size w w' := by
  by_cases h1 : 100 < l.length
  · have hn : isPath l = false := by
      cases h : isPath l with
      | false => rfl
      | true => have := path_len l h; omega
    rw [hn]
    have h1' : 100 < (l.length : Int) := by omega
    clear hn h1 hl
    go_enter Try.func51, Try.ntmps51
    go_wp2
    go_ret
    exact ⟨rfl, Below.refl _ _⟩
  have h1' : ¬ 100 < (l.length : Int) := by omega
  have S := Lib.hid (split_tx l w hl)
  have hlen : ∀ p ∈ parts l, p.length ≤ 100000 := fun p hp => by have := cut_len l p hp; omega
  by_cases h6 : 6 < (parts l).length
  · have hn : isPath l = false := by
      unfold isPath
      rw [decide_eq_false (by omega)]
      rfl
    rw [hn]
    have h6' : 6 < ((parts l).length : Int) := by omega
    generalize parts l = ns at *
    clear hn h1 hl h6 hlen
    go_enter Try.func51, Try.ntmps51
    go_wp2_with (go_at_call 52; (with_reducible refine S.out.mono ?_); rintro e w1 ⟨A, C, rfl, ht, hb⟩; have H1 := Lib.hid hb; clear hb ht)
    go_ret
    exact ⟨rfl, H1.out⟩
  have h6' : ¬ 6 < ((parts l).length : Int) := by omega
  have hi : isPath l = (parts l).all isName := by
    unfold isPath
    rw [decide_eq_true (by omega)]
    rfl
  rw [hi]
  generalize parts l = ns at *
  clear hi h1 hl
  go_enter Try.func51, Try.ntmps51
  go_wp2_with (go_at_call 52; (with_reducible refine S.out.mono ?_); rintro e w1 ⟨A, C, rfl, ht, hb⟩; have H1 := Lib.hid hb; have HT := Lib.hid ht; clear hb ht)
  go_loopw [4] (fun x wr => ∃ i : Nat, i ≤ ns.length ∧ x = .int .i64 i ∧ w1 = wr ∧ (ns.take i).all isName = true) (fun x _ => ns.length - (intOf x).toNat)
  case atStart => exact ⟨0, by omega, rfl, by trivial, rfl⟩
  case round =>
    obtain ⟨i, hil, rfl, rfl, hall⟩ := hrel
    by_cases hlt : i < ns.length
    · obtain ⟨g, rfl, _, hc⟩ := HT.out i hlt
      have e0 : ns.getD i [] = ns[i] := by simp [List.getD_eq_getElem?_getD, hlt]
      rw [e0] at hc
      have li : (i : Int) < (ns.length : Int) := by omega
      have N := Lib.hid (name_any ns[i] w1 (hlen _ (List.getElem_mem hlt)))
      have hnx : (ns.take (i + 1)).all isName = ((ns.take i).all isName && isName ns[i]) := by
        rw [List.take_succ_eq_append_getElem hlt, List.all_append]; simp
      have hbad : isName ns[i] = false → ns.all isName = false := fun h => by
        rw [List.all_eq_false]
        exact ⟨ns[i], List.getElem_mem hlt, by rw [h]; decide⟩
      have q2 : i + 1 ≤ ns.length := hlt
      generalize ns[i] = c at *
      cases hx : isName c with
      | false =>
        have HB := Lib.hid (hbad hx)
        rw [hx] at N
        clear hnx hbad hall hx e0 hlen
        go_wp2_with (go_at_call 76; (with_reducible refine N.out.mono ?_); rintro e w2 ⟨rfl, rfl⟩)
        go_ret
        exact ⟨by rw [HB.out]; rfl, H1.out⟩
      | true =>
        rw [hall, hx] at hnx
        have HX := Lib.hid hnx
        rw [hx] at N
        clear hnx hbad hall hx e0 hlen
        go_wp2_with (go_at_call 76; (with_reducible refine N.out.mono ?_); rintro e w2 ⟨rfl, rfl⟩)
        go_roundw
        case rel => exact ⟨i + 1, q2, by go_num, by trivial, HX.out⟩
        case measure => first | (simp [intOf]; done) | (simp [intOf]; omega)
    · have li : ¬ (i : Int) < (ns.length : Int) := by omega
      have HE := Lib.hid (show ns.all isName = true by rw [List.take_of_length_le (by omega)] at hall; exact hall)
      clear hall hlen
      go_wp2
      go_ret
      exact ⟨by rw [HE.out]; rfl, H1.out⟩

theorem names_ref (l : Bt) (w : World) (hl : l.length ≤ 100000) : Calls Try.prog 30 #[St l] w fun e w' => ∃ A C, e = .returned (.slice A (namesP l).length C) ∧ Tx w' w.heap.size A (namesP l) ∧ Below w.heap.size w w' := by
  have V := Lib.hid (valid_ref l w hl)
  cases hp : isPath l with
  | false =>
    have hn : namesP l = [] := by simp [namesP, hp]
    rw [hp] at V
    rw [hn]
    clear hn hp hl
    go_enter Try.func30, Try.ntmps30
    go_wp2_with (go_at_call 51; (with_reducible refine V.out.mono ?_); rintro e w1 ⟨rfl, hb⟩; have H1 := Lib.hid hb; clear hb)
    go_ret
    exact ⟨none, 0, rfl, tx_nil _ _ _, H1.out⟩
  | true =>
    have hn : namesP l = parts l := by simp [namesP, hp]
    rw [hp] at V
    rw [hn]
    have S := fun w => Lib.hid (split_tx l w hl)
    generalize parts l = ns at *
    clear hn hp hl
    go_enter Try.func30, Try.ntmps30
    go_wp2_with (first
      | (go_at_call 51; (with_reducible refine V.out.mono ?_); rintro e w1 ⟨rfl, hb⟩; have H1 := Lib.hid hb; clear hb)
      | (go_at_call 52; (with_reducible refine (S _).out.mono ?_); rintro e w2 ⟨A, C, rfl, ht, hb⟩; have H2 := Lib.hid (H1.out.trans (hb.mono H1.out.size)); have HT := Lib.hid (tx_mono ht H1.out.size); clear hb ht))
    go_ret
    exact ⟨A, C, rfl, HT.out, H2.out⟩
end Go.Proofs.Ytjagddhkoacipaa

/-
What is proved here: the document's own Parent, by a contract.
-/
set_option linter.unusedSimpArgs false
namespace Go.Proofs.Ytjagddhkoacipaa
open Go.Pth Go.RowKit Go.Word
attribute [local go_sem] guard_eq eql_dot eql_dots len_st eql_ts

set_option maxHeartbeats 1000000 in
theorem parent_ref (l : Bt) (w : World) (hl : l.length ≤ 100000) : Calls Try.prog 73 #[St l] w fun e w' => e = .returned (St (upP l)) ∧ Below w.heap.size w w' := by
  have S := Lib.hid (names_ref l w hl)
  by_cases h2 : (namesP l).length < 2
  · have hu : upP l = [] := by
      cases hp : isPath l with
      | false => simp [upP, hp]
      | true =>
        have hn : namesP l = parts l := by simp [namesP, hp]
        rw [hn] at h2
        rcases up_base l with ⟨e1, _, _⟩ | ⟨x, y, _, _, _, e4, _⟩
        · simp [upP, hp, e1]
        · rw [e4, List.length_append] at h2
          have := parts_pos x
          simp at h2
          omega
    rw [hu]
    have h2' : ((namesP l).length : Int) < 2 := by omega
    generalize namesP l = ns at *
    clear hu hl h2
    go_enter Try.func73, Try.ntmps73
    go_wp2_with (go_at_call 30; (with_reducible refine S.out.mono ?_); rintro e w1 ⟨A, C, rfl, ht, hb⟩; have H1 := Lib.hid hb; clear hb ht)
    go_ret
    exact ⟨rfl, H1.out⟩
  · have hp : isPath l = true := by
      cases hp : isPath l with
      | true => rfl
      | false => exact absurd (by simp [namesP, hp]) h2
    have hn : namesP l = parts l := by simp [namesP, hp]
    obtain ⟨x, y, e1, e2, _, e4, _⟩ : ∃ x y, l = x ++ 47 :: y ∧ up l = x ∧ base l = y ∧ parts l = parts x ++ [y] ∧ ∀ c ∈ y, c ≠ 47 := by
      rcases up_base l with ⟨_, _, e3⟩ | h
      · rw [hn, e3] at h2; simp at h2
      · exact h
    have hu : upP l = x := by simp [upP, hp, e2]
    rw [hu]
    have h2' : ¬ ((namesP l).length : Int) < 2 := by omega
    obtain ⟨m, hm⟩ : ∃ m, (namesP l).length = m + 1 := ⟨(namesP l).length - 1, by omega⟩
    have hy : (namesP l).getD m [] = y := by
      rw [hn, e4] at hm ⊢
      rw [List.length_append] at hm
      simp at hm
      simp [List.getD_eq_getElem?_getD, hm]
    have hm100 : m ≤ 6 := by have := names_six l; omega
    have hyl : y.length + x.length + 1 = l.length := by rw [e1]; simp; omega
    have sl : ∀ w, (Instr.slice 9 (St l) none (some (.int .i64 (x.length : Int))) none).run Try.prog w = .ok (St x) w := fun w => by
      rw [run_to l x.length (by omega), e1]
      simp
    have d1 : wrap64 (((namesP l).length : Int) - 1) = (m : Int) := by rw [wrap_in _ (by omega) (by omega)]; omega
    have d2 : wrap64 ((l.length : Int) - (y.length : Int)) = ((x.length + 1 : Nat) : Int) := by rw [wrap_in _ (by omega) (by omega)]; omega
    have d3 : wrap64 (((x.length + 1 : Nat) : Int) - 1) = (x.length : Int) := by rw [wrap_in _ (by omega) (by omega)]; omega
    have li : (m : Int) < ((namesP l).length : Int) := by omega
    have hmn : m < (namesP l).length := by omega
    have HY := Lib.hid hy
    generalize namesP l = ns at *
    generalize x.length + 1 = x1 at *
    clear hu hn hp hl h2 e1 e2 e4 hy
    go_enter Try.func73, Try.ntmps73
    go_wp2_with (go_at_call 30; (with_reducible refine S.out.mono ?_); rintro e w1 ⟨A, C, rfl, ht, hb⟩; have H1 := Lib.hid hb; obtain ⟨g, rfl, _, hc⟩ := ht m hmn; rw [HY.out] at hc; clear hb ht)
    go_ret
    exact ⟨rfl, H1.out⟩
end Go.Proofs.Ytjagddhkoacipaa
