/-
What is proved here: bytes.Equal and sameFile, by contracts.
-/
import Derived.Test.YtdnagkgblmcojaaChk
import Derived.Laws.BytesString
set_option linter.unusedSimpArgs false
namespace Go.Proofs.Ytdnagkgblmcojaa
open Go.Pth Go.Tre Go.RowKit Go.Word Go.Shelf
attribute [local go_sem] guard_eq guard_ne st_eql st_neq

theorem push_all (l : Bt) : ∀ s : ByteArray, (l.map fun x => (x.toNat : Int)).foldl (fun r n => r.push (UInt8.ofNat n.toNat)) s = ⟨s.data ++ l.toArray⟩ := by
  induction l with
  | nil => intro s; simp
  | cons x r ih =>
    intro s
    rw [List.map_cons, List.foldl_cons, ih]
    have e : UInt8.ofNat ((x.toNat : Int)).toNat = x := by simp
    rw [e]
    show (⟨(s.data.push x) ++ r.toArray⟩ : ByteArray) = _
    simp
theorem run_text48 (A : Option Addr) (l : Bt) (c : Nat) (w : World) (h : BytesAt w A l) : (convert 42 9 (.slice A l.length c)).run Try.prog w = .ok (St l) w := by
  rw [run_convert_bytes_string w 42 9 5 _ _ c Try.underlying42 Try.underlying5 (by kernel_rfl)]
  have e0 : (l.map fun x => (x.toNat : Int)).foldl (fun r n => r.push (UInt8.ofNat n.toNat)) ByteArray.empty = ⟨l.toArray⟩ := by
    rw [push_all]
    simp [ByteArray.empty, ByteArray.emptyWithCapacity]
    try rfl
  cases A with
  | none =>
    have e : l = [] := by
      rcases l with _ | ⟨x, r⟩
      · rfl
      · obtain ⟨b, o, e, _⟩ := h 0 (by simp)
        cases e
    subst e
    simp [Conv.bytesToString]
    rfl
  | some ad =>
    have hk := run_loadCells_list (P := Try.prog) w ad (l.map fun x => Value.int .u8 (x.toNat : Int)) (fun j v hj => by
      rcases Nat.lt_or_ge j l.length with hl | hl
      · obtain ⟨b, o, e, _, hc⟩ := h j hl
        injection e with e
        subst e
        rw [Addr.add_mid, hc, ← hj]
        simp [hl]
      · rw [List.getElem?_eq_none (by simpa using hl)] at hj; cases hj)
    rw [List.length_map] at hk
    have := run_bytesToString w ad l.length c (l.map fun x => (x.toNat : Int)) (by rw [hk, List.map_map]; rfl)
    rw [this, e0]
    rfl
theorem bytesEqual_any (A B : Option Addr) (c d : Nat) (a b : Bt) (w : World) (ha : BytesAt w A a) (hb : BytesAt w B b) :
    Calls Try.prog 54 #[.slice A a.length c, .slice B b.length d] w fun e w' => e = .returned (.bool (same a b)) ∧ w = w' := by
  have t1 := run_text48 A a c w ha
  have t2 := run_text48 B b d w hb
  clear ha hb
  generalize a.length = k at *
  generalize b.length = m at *
  go_enter Try.func54, Try.ntmps54
  go_wp2
  go_ret
  exact ⟨rfl, rfl⟩
def sameFl (x y : Fl) : Bool := x.mode == y.mode && same x.data y.data
set_option maxRecDepth 100000 in
theorem sameFile_any (A B : Option Addr) (c d : Nat) (x y : Fl) (w : World) (ha : BytesAt w A x.data) (hb : BytesAt w B y.data) :
    Calls Try.prog 37 #[.agg #[.int .i64 x.mode, .slice A x.data.length c], .agg #[.int .i64 y.mode, .slice B y.data.length d]] w fun e w' => e = .returned (.bool (sameFl x y)) ∧ Below w.heap.size w w' := by
  obtain ⟨m, a⟩ := x
  obtain ⟨k, b⟩ := y
  show Calls Try.prog 37 #[.agg #[.int .i64 m, .slice A a.length c], .agg #[.int .i64 k, .slice B b.length d]] w fun e w' => e = .returned (.bool (m == k && same a b)) ∧ Below w.heap.size w w'
  have L1 := lies_new w 49 #[.int .i64 m, .slice A a.length c]
  have B1 : Below w.heap.size w (w.alloc (.cells #[.int .i64 m, .slice A a.length c] 49)) := (Below.refl _ _).alloc (Nat.le_refl _) _
  have B2 : Below w.heap.size w ((w.alloc (.cells #[.int .i64 m, .slice A a.length c] 49)).alloc (.cells #[.int .i64 k, .slice B b.length d] 49)) := B1.alloc (by simp) _
  have K := Lib.hid (bytesEqual_any A B c d a b _ (bytesAt_below ha B2) (bytesAt_below hb B2))
  have L2 := lies_new (w.alloc (.cells #[.int .i64 m, .slice A a.length c] 49)) 49 #[.int .i64 k, .slice B b.length d]
  have L1' := lies_alloc L1 (.cells #[.int .i64 k, .slice B b.length d] 49)
  rw [World.size_alloc] at L2
  have c0 := lies_cell L1' 0
  have c1 := lies_cell L1' 1
  have d0 := lies_cell L2 0
  have d1 := lies_cell L2 1
  have HB := Lib.hid B2
  clear L1 L2 L1' B1 B2 ha hb
  generalize same a b = s at *
  generalize a.length = na at *
  generalize b.length = nb at *
  simp only [List.getElem?_toArray, List.getElem?_cons_zero, List.getElem?_cons_succ] at c0 c1 d0 d1
  by_cases h : m = k
  · subst h
    have e : (m == m && s) = s := by simp
    rw [e]
    clear e
    go_enter Try.func37, Try.ntmps37
    go_wp2_with (go_at_call 54; (with_reducible refine K.out.mono ?_); rintro e w1 ⟨rfl, rfl⟩)
    go_ret
    exact ⟨rfl, HB.out⟩
  · have e : (m == k && s) = false := by simp [h]
    rw [e]
    clear e
    go_enter Try.func37, Try.ntmps37
    go_wp2
    go_ret
    exact ⟨rfl, HB.out⟩
end Go.Proofs.Ytdnagkgblmcojaa
