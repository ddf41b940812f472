/-
What is proved here: bytes.Clone, cut and Get, by contracts.
-/
import Derived.Test.YtlnmaejpchncoaaAlv
set_option linter.unusedSimpArgs false
set_option linter.unusedVariables false
namespace Go.Proofs.Ytlnmaejpchncoaa
open Go.Stk Go.RowKit Go.Word
attribute [local go_sem] guard_eq guard_ne st_eql st_neq
set_option maxRecDepth 100000 in
theorem bclone_any (DA : Option Addr) (dc : Nat) (d : Bt) (w : World) (hd : BytesAt w DA d) (hb : d.length ≤ 100000000) (hz : DA = none → dc = 0) :
    Calls Try.prog 21 #[.slice DA d.length dc] w fun e w' => (∃ v, e = .returned v ∧ OwnB w' w.heap.size v d ∧ (v = .slice none 0 0 ↔ DA = none)) ∧ Below w.heap.size w w' := by
  have he := fun (W : World) => Go.Lib.run_eql_slice_nil (P := Try.prog) W 31 5 DA d.length dc 0 0 Try.underlying31
  cases DA with
  | none =>
    obtain rfl := bytesAt_none hd
    obtain rfl := hz rfl
    clear he hz
    have he := fun (W : World) => Go.Lib.run_eql_slice_nil (P := Try.prog) W 31 5 none 0 0 0 0 Try.underlying31
    go_enter Try.func21, Try.ntmps21
    go_wp2
    all_goals go_ret
    all_goals exact ⟨⟨_, rfl, ownB_nil _ _, by simp⟩, Below.refl _ _⟩
  | some ad =>
    have o0 : OwnB (w.alloc (.cells #[] 5)) w.heap.size (.slice (some ⟨w.heap.size, 0, none⟩) 0 0) [] := World.ownsRow_lit (base := w.heap.size) (size := 1) w #[] 0 (Nat.le_refl _) (by decide) rfl
    have b0 : Below w.heap.size w (w.alloc (.cells #[] 5)) := (Below.refl _ _).alloc (Nat.le_refl _) _
    obtain ⟨i0, hi, hz0, hz1, hz2⟩ := info_parts byte_info
    have hd1 := bytesAt_below hd b0
    obtain ⟨v', w', h1, h2, h3, h4, _⟩ := run_append_own_at (P := Try.prog) (w.alloc (.cells #[] 5)) w.heap.size 31 31 5 i0 (.int .u8 0) 1 1 Try.underlying31 hi hz0 hz1 hz2 rfl (by decide) (.slice (some ⟨w.heap.size, 0, none⟩) 0 0) 0 [] o0 ad d.length dc (d.map yB) (by simp) (fun j u hj => by
      have hjl : j < d.length := by
        have := (List.getElem?_eq_some_iff.1 hj).1
        simpa using this
      obtain ⟨b, o, e, _, hc⟩ := hd1 j hjl
      injection e with e
      subst e
      rw [Addr.add_mid, hc]
      rw [List.getElem?_map, List.getElem?_eq_getElem hjl] at hj
      simpa [yB] using hj) (fun u hu => by obtain ⟨c, _, rfl⟩ := List.mem_map.1 hu; rfl) (by unfold maxLen; omega) (by omega) (by simp)
    have HR := Lib.hid h1
    have HO : Hid (OwnB w' w.heap.size v' d) := Lib.hid (by unfold OwnB; simpa using h2)
    have HG : Hid (Below w.heap.size w w') := Lib.hid (b0.grown h3 (by simp) (fun k e => Nat.le_of_eq (show w.heap.size = k by simpa [Value.ownBlock] using e)))
    have HN : Hid (v' = .slice none 0 0 ↔ some ad = none) := Lib.hid (by rw [h4]; simp)
    clear hd hd1 h1 h2 h3 h4 o0 b0
    generalize d.length = k at *
    go_enter Try.func21, Try.ntmps21
    go_wp2_with (refine wpList_app_run rfl _ _ rfl rfl rfl HR.out ?_)
    go_ret
    exact ⟨⟨_, rfl, HO.out, HN.out⟩, HG.out⟩
/-- where the bytes of the content i lie -/
def cutA (A : Option Addr) (cs : List Bt) (i : Nat) : Option Addr := if endN cs i = (cs.take i).flatten.length then A else A.map (·.add (cs.take i).flatten.length)
theorem cut_bytes {w : World} {A : Option Addr} {cs : List Bt} (h : BytesAt w A cs.flatten) (i : Nat) (hi : i < cs.length) : BytesAt w (cutA A cs i) cs[i] := fun j hj => by
  obtain ⟨h1, h2, h3⟩ := flat_at cs i hi
  obtain ⟨b, o, e, hl, hc⟩ := h ((cs.take i).flatten.length + j) (by omega)
  unfold cutA
  rw [if_neg (by omega), e]
  refine ⟨b, o + (cs.take i).flatten.length, by rw [Option.map_some, Addr.add_mid], hl, ?_⟩
  rw [show o + (cs.take i).flatten.length + j = o + ((cs.take i).flatten.length + j) by omega, hc]
  have h4 : (cs.flatten)[(cs.take i).flatten.length + j]? = (cs[i])[j]? := by
    conv => rhs; rw [← h1]
    rw [List.getElem?_take, if_pos hj, List.getElem?_drop]
  rw [List.getElem?_eq_getElem (by omega), List.getElem?_eq_getElem hj] at h4
  injection h4 with h4
  rw [h4]
/-- what cut reads of a stock in block g -/
structure Cut (w : World) (g : Nat) (cs : List Bt) (A : Option Addr) (c : Nat) (E : Option Addr) (d : Nat) : Prop where
  b1 : w.cell? ⟨g, 1, none⟩ = some (.slice A cs.flatten.length c)
  hc : cs.flatten.length ≤ c
  b2 : w.cell? ⟨g, 2, none⟩ = some (.slice E cs.length d)
  en : ∀ j, j < cs.length → ∃ b, E = some ⟨b, 0, none⟩ ∧ w.cell? ⟨b, j, none⟩ = some (.int .i64 (endN cs j : Nat))
theorem cut3 (A : Option Addr) (n c lo hi : Nat) (h : lo ≤ hi) (hh : hi ≤ c) (W : World) : (Instr.slice 31 (.slice A n c) (some (.int .i64 (lo : Int))) (some (.int .i64 (hi : Int))) (some (.int .i64 (hi : Int)))).run Try.prog W = .ok (.slice (if hi = lo then A else A.map (·.add lo)) (hi - lo) (hi - lo)) W := by
  have := run_slice_lhm (P := Try.prog) W 31 A n c Try.underlying31 .i64 .i64 .i64 (lo : Int) (hi : Int) (hi : Int) (by omega) (by omega) (by omega) (by omega)
  rw [this]
  have hz : (sizeOf (Try.prog.elem 31)).run Try.prog W = .ok 1 W := by kernel_rfl
  rw [hz]
  cases A <;> simp [sliced, Result.andThen, Addr.add]
set_option maxRecDepth 100000 in
set_option maxHeartbeats 4000000 in
theorem cut_any (g : Nat) (cs : List Bt) (A : Option Addr) (c : Nat) (E : Option Addr) (d i : Nat) (w : World) (h : Cut w g cs A c E d) (hi : i < cs.length) (hL : cs.length ≤ 1000000) :
    Calls Try.prog 22 #[.pointer (some ⟨g, 0, none⟩), .int .i64 (i : Int)] w fun e w' => e = .returned (.slice (cutA A cs i) cs[i].length cs[i].length) ∧ ∃ k, w' = w.drewN k := by
  obtain ⟨b1, hc, b2, en⟩ := h
  obtain ⟨f1, f2, f3⟩ := flat_at cs i hi
  obtain ⟨eb, rfl, e1⟩ := en i hi
  have li : (i : Int) < (cs.length : Int) := by omega
  cases i with
  | zero =>
    have hzc : endN cs 0 ≤ c := by omega
    have ec : cutA A cs 0 = A := by
      unfold cutA
      split
      · rfl
      · cases A <;> rfl
    have el : cs[0].length = endN cs 0 := by simp at f2; omega
    rw [ec, el]
    clear f1 f2 f3 en ec el
    generalize cs.flatten.length = n at *
    generalize cs.length = L at *
    generalize endN cs 0 = z at *
    go_enter Try.func22, Try.ntmps22
    go_upto_region 1 with (fail)
    go_quiet (fail)
    go_wp2
    all_goals go_ret
    all_goals exact ⟨rfl, _, rfl⟩
  | succ j =>
    obtain ⟨eb2, eE, e2⟩ := en j (by omega)
    injection eE with eE
    injection eE with eE
    subst eE
    have hzc : endN cs (j + 1) ≤ c := by omega
    have hyz : endN cs j ≤ endN cs (j + 1) := by
      have : (cs.take (j + 1)).flatten.length = endN cs j := rfl
      omega
    have ec : cutA A cs (j + 1) = if endN cs (j + 1) = endN cs j then A else A.map (·.add (endN cs j)) := rfl
    have el : cs[j + 1].length = endN cs (j + 1) - endN cs j := by
      have : (cs.take (j + 1)).flatten.length = endN cs j := rfl
      omega
    rw [ec, el]
    clear f1 f2 f3 en ec el
    have lj : (j : Int) < (cs.length : Int) := by omega
    have wj : wrap64 (j : Int) = (j : Int) := by unfold wrap64; omega
    generalize cs.flatten.length = n at *
    generalize cs.length = L at *
    generalize endN cs (j + 1) = z at *
    generalize endN cs j = y at *
    go_enter Try.func22, Try.ntmps22
    go_upto_region 1 with (fail)
    go_quiet (fail)
    go_wp2
    all_goals go_ret
    all_goals exact ⟨by simp_all, _, rfl⟩
section
variable {P : Nat → Prop} {g : Nat} {lim : Int} {cs : List Bt} {vB vE vM : Value}
theorem cut_of_stk {w : World} (h : Stk w P g lim cs vB vE vM) : ∃ A c E d, vB = .slice A cs.flatten.length c ∧ vE = .slice E cs.length d ∧ Cut w g cs A c E d ∧ BytesAt w A cs.flatten := by
  obtain ⟨⟨A, c, rfl, hc, hb, _⟩, E, d, rfl⟩ := stk_rows h
  obtain ⟨_, c1, c2, _⟩ := stk_cells h
  refine ⟨A, c, E, d, rfl, rfl, ⟨c1, hc, c2, fun j hj => ?_⟩, hb⟩
  have he := h.ends
  rcases he.2 with ⟨e, e0⟩ | ⟨b, cap, cur, e, _⟩
  · omega
  · injection e with e1 e2 e3
    subst e1
    refine ⟨b, rfl, ?_⟩
    rw [he.cellAt _ (by omega)]
    exact endsV_at cs j hj
theorem get_no (i : Int) (w : World) (h : Stk w P g lim cs vB vE vM) (hi : i < 0 ∨ (cs.length : Int) ≤ i) :
    Calls Try.prog 12 #[.pointer (some ⟨g, 0, none⟩), .int .i64 i] w fun e w' => e = .returned (.tuple #[.slice none 0 0, .int .i64 32]) ∧ w = w' := by
  have LZ := Lib.hid (len_any w h)
  by_cases h0 : i < 0
  · clear hi
    go_enter Try.func12, Try.ntmps12
    go_wp2
    go_ret2
    exact ⟨rfl, rfl⟩
  have h1 : (cs.length : Int) ≤ i := by omega
  clear hi h
  generalize cs.length = L at *
  go_enter Try.func12, Try.ntmps12
  go_wp2_with (go_at_call 17; (with_reducible refine LZ.out.mono ?_); rintro e w1 ⟨rfl, rfl⟩)
  go_ret2
  exact ⟨rfl, rfl⟩
set_option maxRecDepth 100000 in
set_option maxHeartbeats 4000000 in
theorem get_any (i : Nat) (w : World) (h : Stk w P g lim cs vB vE vM) (hi : i < cs.length) (hL : cs.length ≤ 1000000) (hf : cs.flatten.length ≤ 10000000) :
    Calls Try.prog 12 #[.pointer (some ⟨g, 0, none⟩), .int .i64 (i : Int)] w fun e w' => (∃ v, e = .returned (.tuple #[v, .int .i64 0]) ∧ OwnB w' w.heap.size v cs[i]) ∧ Below w.heap.size w w' := by
  have LZ := Lib.hid (len_any w h)
  obtain ⟨A, c, E, d, rfl, rfl, hcut, hb⟩ := cut_of_stk h
  have CU := Lib.hid (cut_any g cs A c E d i w hcut hi hL)
  have hci := cut_bytes hb i hi
  have hlen : cs[i].length ≤ 100000000 := by
    have := flat_at cs i hi
    omega
  have CL : ∀ k, Hid (Calls Try.prog 21 #[.slice (cutA A cs i) cs[i].length cs[i].length] (w.drewN k) fun e w' => (∃ v, e = .returned v ∧ OwnB w' w.heap.size v cs[i]) ∧ Below w.heap.size w w') := fun k =>
    Lib.hid ((bclone_any (cutA A cs i) cs[i].length cs[i] (w.drewN k) hci hlen (fun e => by rw [e] at hci; rw [bytesAt_none hci]; rfl)).mono (fun e w' ⟨⟨v, h1, h2, _⟩, h3⟩ => ⟨⟨v, h1, h2⟩, (below_drewN (Below.refl _ _) k).trans h3⟩))
  have li : ¬ ((cs.length : Int) ≤ (i : Int)) := by omega
  generalize hx : cs[i] = x at *
  generalize cutA A cs i = DA at *
  clear h hcut hb hci hx hi hL hf hlen
  generalize x.length = n at *
  generalize cs.length = L at *
  go_enter Try.func12, Try.ntmps12
  go_wp2_with (first
    | (go_at_call 17; (with_reducible refine LZ.out.mono ?_); rintro e w1 ⟨rfl, rfl⟩)
    | (go_at_call 22; (with_reducible refine CU.out.mono ?_); rintro e w2 ⟨rfl, k2, rfl⟩)
    | (go_at_call 21; (with_reducible refine (CL _).out.mono ?_); rintro e w3 ⟨⟨v, rfl, ho⟩, hb⟩; have HO := Lib.hid ho; have HB := Lib.hid hb; clear ho hb))
  go_ret2
  exact ⟨⟨_, rfl, HO.out⟩, HB.out⟩
end
end Go.Proofs.Ytlnmaejpchncoaa
