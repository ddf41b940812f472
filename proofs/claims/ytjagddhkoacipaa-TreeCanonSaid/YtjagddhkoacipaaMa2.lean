/-
What is proved here: several texts in one (Jumps, Val, Pure2, Shelf, Spl, Pure3, Nms): each says what it is about.
-/
import Derived.Scope
import Derived.WalkKit
import Derived.WalkMore
import Derived.Test.YtjagddhkoacipaaMa1
import Derived.LoopTactic
import Derived.Laws.RangeString
import Derived.Laws.RangeAny
import Derived.Lib.LastIndexByte
import Derived.Test.YtjagddhkoacipaaRows
import Derived.Shelf.Strings.LastIndex
import Derived.Shelf.Strings.Prefix
import Derived.Deep.QuietTactic
import Derived.BigQuiet
import Derived.Deep.Cut
import Derived.RangeFuncNested
import Derived.RangeFuncBox
import Derived.RangeFuncLeaves
import Derived.RangeFuncBound
import Derived.RangeFuncCalls
import Derived.Shelf.Abstract
import Derived.OwnWalkIn
import Derived.TacticsInMore
import Derived.LoopNIn
import Derived.LoopIn
import Derived.Maps.AppendAt
/-
What is proved here: a scope in which the run jumps to several labels: what holds at each jump, and a measure that each jump lowers. Of whatever program.
-/
namespace Go.Word

/-- As Q; by a goto to label l: J l. -/
def Exit.jumps (J : Nat → Act → World → Prop) (Q : Exit → Act → World → Prop) : Exit → Act → World → Prop
  | .goto l, a, w => J l a w
  | e, a, w => Q e a w

section
variable {P : Program} {a : Act} {w : World} {Q : Exit → Act → World → Prop}
theorem jumps_mono {J J' : Nat → Act → World → Prop} (h : ∀ l a w, J l a w → J' l a w) {c : Code} (hc : c.wp P (Exit.jumps J Q) a w) : c.wp P (Exit.jumps J' Q) a w := by
  intro b k cs
  obtain ⟨e, a₁, w₁, hq, harr⟩ := hc b k cs
  refine ⟨e, a₁, w₁, ?_, harr⟩
  cases e with
  | goto l => exact h _ _ _ hq
  | _ => exact hq

theorem wp_scope_labels {c : Code} (J : Nat → Act → World → Prop) (μ : Nat → Act → World → Nat)
    (pass : ∀ l a w, J l a w → ∃ rest, findLabel c l = some (.seq .skip rest) ∧ rest.wp P (Exit.jumps (fun l' a' w' => J l' a' w' ∧ μ l' a' w' < μ l a w) Q) a w)
    (first : (∀ l rest a w, findLabel c l = some (.seq .skip rest) → J l a w → rest.wp P (Exit.jumps J Q) a w) → c.wp P (Exit.jumps J Q) a w) : (Code.scope c).wp P Q a w := by
  intro b k cs
  have key : ∀ n l a w rest, findLabel c l = some rest → μ l a w = n → J l a w → ∃ e a' w', Q e a' w' ∧ Arrives P (lone (b.at a (.code rest :: .inScope c :: k)) cs w) b k cs e a' w' := by
    intro n
    induction n using Nat.strongRecOn with
    | _ n ih =>
      intro l a w rest hf hn hJ
      obtain ⟨rest', hf', hp⟩ := pass l a w hJ
      obtain rfl : rest = .seq .skip rest' := Option.some.inj (hf.symm.trans hf')
      obtain ⟨e, a₁, w₁, hq, harr⟩ := (wp_seq (wp_skip (Q := Exit.then _ _) hp)) b (.inScope c :: k) cs
      cases e with
      | normal => exact ⟨.normal, a₁, w₁, hq, Steps.trans harr (.one step_inScope)⟩
      | exit id => exact ⟨.exit id, a₁, w₁, hq, fun k' hk => harr k' (by simp [exitTo, hk])⟩
      | goto l' =>
        obtain ⟨hJ', hlt⟩ := hq
        obtain ⟨rest₂, hf₂, _⟩ := pass l' a₁ w₁ hJ'
        obtain ⟨e₂, a₂, w₂, hq₂, harr₂⟩ := ih _ (by omega) l' a₁ w₁ _ hf₂ rfl hJ'
        have hg : gotoIn l' (.inScope c :: k) = some (.code (.seq .skip rest₂) :: .inScope c :: k) := by simp [gotoIn, hf₂]
        exact ⟨e₂, a₂, w₂, hq₂, .of_steps (harr _ hg) harr₂⟩
      | ret => exact ⟨_, a₁, w₁, hq, harr⟩
      | panic ch => exact ⟨_, a₁, w₁, hq, harr⟩
      | outgrown => exact ⟨_, a₁, w₁, hq, harr⟩
  obtain ⟨e, a₁, w₁, hq, harr⟩ := first (fun l rest a w hf hJ => by
    obtain ⟨rest', hf', hp⟩ := pass l a w hJ
    obtain rfl : rest = rest' := by
      have := Option.some.inj (hf.symm.trans hf')
      injection this
    exact jumps_mono (fun _ _ _ h => h.1) hp) b (.inScope c :: k) cs
  cases e with
  | normal => exact ⟨.normal, a₁, w₁, hq, .head step_scope (Steps.trans harr (.one step_inScope))⟩
  | exit id => exact ⟨.exit id, a₁, w₁, hq, fun k' hk => .head step_scope (harr k' (by simp [exitTo, hk]))⟩
  | goto l' =>
    obtain ⟨rest₂, hf₂, _⟩ := pass l' a₁ w₁ hq
    obtain ⟨e₂, a₂, w₂, hq₂, harr₂⟩ := key _ l' a₁ w₁ _ hf₂ rfl hq
    have hg : gotoIn l' (.inScope c :: k) = some (.code (.seq .skip rest₂) :: .inScope c :: k) := by simp [gotoIn, hf₂]
    exact ⟨e₂, a₂, w₂, hq₂, .of_steps (.head step_scope (harr _ hg)) harr₂⟩
  | ret => exact ⟨_, a₁, w₁, hq, .of_steps (.one step_scope) harr⟩
  | panic ch => exact ⟨_, a₁, w₁, hq, .of_steps (.one step_scope) harr⟩
  | outgrown => exact ⟨_, a₁, w₁, hq, .of_steps (.one step_scope) harr⟩
end
end Go.Word

/-
What is proved here: path.Valid, by a contract: it answers whether a text is a path.
-/
namespace Go.Proofs.Ytjagddhkoacipaa
open Go.Pth Go.RowKit Go.Word

theorem size_st (l : Bt) : (ByteArray.mk l.toArray).size = l.length := by simp [ByteArray.size]
theorem get_st (l : Bt) (i : Nat) (h : i < l.length) : (ByteArray.mk l.toArray)[i]'(by rw [size_st]; exact h) = l[i] := by
  show l.toArray[i]'_ = _
  simp
theorem run_sub (l : Bt) (i j : Nat) (h1 : i ≤ j) (h2 : j ≤ l.length) (w : World) : (Instr.slice 9 (St l) (some (.int .i64 i)) (some (.int .i64 j)) none).run Try.prog w = .ok (St ((l.drop i).take (j - i))) w := by
  unfold St
  rw [run_slice_string w 9 _ .i64 .i64 i j Try.underlying9 (by omega) (by omega) (by rw [size_st]; omega), Int.toNat_natCast, Int.toNat_natCast, ByteArray.extract_mk]
theorem run_from (l : Bt) (i : Nat) (h1 : i ≤ l.length) (w : World) : (Instr.slice 9 (St l) (some (.int .i64 i)) none none).run Try.prog w = .ok (St (l.drop i)) w := by
  unfold St
  rw [run_slice_string_from_if w 9 _ .i64 i Try.underlying9, if_pos (by rw [size_st]; omega), Int.toNat_natCast, size_st, ByteArray.extract_mk]
  congr 4
  rw [List.take_of_length_le (by simp)]
theorem run_to (l : Bt) (i : Nat) (h1 : i ≤ l.length) (w : World) : (Instr.slice 9 (St l) none (some (.int .i64 i)) none).run Try.prog w = .ok (St (l.take i)) w := by
  unfold St
  rw [run_slice_string_to_if w 9 _ .i64 i Try.underlying9, if_pos (by rw [size_st]; omega), Int.toNat_natCast, ByteArray.extract_mk]
  simp
theorem run_range_st (l : Bt) (w : World) : (Instr.range 9 (St l)).run Try.prog w = .ok (.pointer (some ⟨w.heap.size, 0, none⟩)) (w.iter ⟨l.toArray⟩ 0) := run_range_string w 9 _ Try.underlying9
attribute [local go_sem] run_range_st
theorem next_low (w : World) (l : Bt) (i : Nat) (h : i < l.length) (ha : l[i].toNat < 128) (ty : TypeId) :
    (Instr.next (.pointer (some ⟨w.heap.size, 0, none⟩)) true ty).run Try.prog (w.iter ⟨l.toArray⟩ i) = .ok (.tuple #[.bool true, .int .i64 i, .int .i32 l[i].toNat]) (w.iter ⟨l.toArray⟩ (i + 1)) := by
  have := run_next_ascii (P := Try.prog) w ⟨l.toArray⟩ i ty (by rw [size_st]; exact h) (by rw [get_st l i h]; exact ha)
  rw [this, get_st l i h]
/-- a byte that begins no ASCII: some rune from 128 on -/
theorem next_high (w : World) (l : Bt) (i : Nat) (h : i < l.length) (ha : 128 ≤ l[i].toNat) :
    ∃ r k : Nat, 128 ≤ r ∧ r ≤ 2147483647 ∧ 1 ≤ k ∧ ∀ ty, (Instr.next (.pointer (some ⟨w.heap.size, 0, none⟩)) true ty).run Try.prog (w.iter ⟨l.toArray⟩ i) = .ok (.tuple #[.bool true, .int .i64 i, .int .i32 r]) (w.iter ⟨l.toArray⟩ (i + k)) := by
  have hd := decode_high ⟨l.toArray⟩ i (by rw [size_st]; exact h) (by rw [get_st l i h]; exact ha)
  exact ⟨_, _, hd.1, decode_le _ _, hd.2, fun ty => run_next_any (P := Try.prog) w ⟨l.toArray⟩ i ty (by rw [size_st]; exact h)⟩
theorem next_end (w : World) (l : Bt) (i : Nat) (h : ¬ i < l.length) (ty : TypeId) :
    (Instr.next (.pointer (some ⟨w.heap.size, 0, none⟩)) true ty).run Try.prog (w.iter ⟨l.toArray⟩ i) = .ok (.tuple #[.bool false]) (w.iter ⟨l.toArray⟩ i) :=
  run_next_end (P := Try.prog) w ⟨l.toArray⟩ i ty (by rw [size_st]; exact h)
theorem below_iter (w : World) (s : ByteArray) (i : Nat) : Below w.heap.size w (w.iter s i) := (Below.refl _ _).alloc (Nat.le_refl _) _

/-- what holds at the label: it is no path -/
def No (w : World) (l : Bt) (k : Nat) (a : Act) (w' : World) : Prop := k = 0 ∧ isPath l = false ∧ Below w.heap.size w w' ∧ ∃ u : Nat → Value, a = { tmps := List.toArray (u 0 :: u 1 :: u 2 :: u 3 :: u 4 :: u 5 :: u 6 :: u 7 :: u 8 :: u 9 :: u 10 :: u 11 :: u 12 :: u 13 :: u 14 :: u 15 :: u 16 :: u 17 :: u 18 :: u 19 :: u 20 :: u 21 :: u 22 :: u 23 :: u 24 :: u 25 :: u 26 :: u 27 :: u 28 :: u 29 :: u 30 :: u 31 :: u 32 :: u 33 :: u 34 :: u 35 :: u 36 :: u 37 :: u 38 :: u 39 :: u 40 :: u 41 :: u 42 :: u 43 :: []), defers := [] }
theorem no_mk {w : World} {l : Bt} {w' : World} (a : Act) (h1 : isPath l = false) (h2 : Below w.heap.size w w') (h : a = { tmps := List.toArray (a.tmps.getD 0 undef :: a.tmps.getD 1 undef :: a.tmps.getD 2 undef :: a.tmps.getD 3 undef :: a.tmps.getD 4 undef :: a.tmps.getD 5 undef :: a.tmps.getD 6 undef :: a.tmps.getD 7 undef :: a.tmps.getD 8 undef :: a.tmps.getD 9 undef :: a.tmps.getD 10 undef :: a.tmps.getD 11 undef :: a.tmps.getD 12 undef :: a.tmps.getD 13 undef :: a.tmps.getD 14 undef :: a.tmps.getD 15 undef :: a.tmps.getD 16 undef :: a.tmps.getD 17 undef :: a.tmps.getD 18 undef :: a.tmps.getD 19 undef :: a.tmps.getD 20 undef :: a.tmps.getD 21 undef :: a.tmps.getD 22 undef :: a.tmps.getD 23 undef :: a.tmps.getD 24 undef :: a.tmps.getD 25 undef :: a.tmps.getD 26 undef :: a.tmps.getD 27 undef :: a.tmps.getD 28 undef :: a.tmps.getD 29 undef :: a.tmps.getD 30 undef :: a.tmps.getD 31 undef :: a.tmps.getD 32 undef :: a.tmps.getD 33 undef :: a.tmps.getD 34 undef :: a.tmps.getD 35 undef :: a.tmps.getD 36 undef :: a.tmps.getD 37 undef :: a.tmps.getD 38 undef :: a.tmps.getD 39 undef :: a.tmps.getD 40 undef :: a.tmps.getD 41 undef :: a.tmps.getD 42 undef :: a.tmps.getD 43 undef :: []), defers := [] }) : No w l 0 a w' := ⟨rfl, h1, h2, fun n => a.tmps.getD n undef, h⟩

theorem wrap_in (z : Int) (h0 : 0 ≤ z) (h1 : z ≤ 1000000) : wrap64 z = z := by unfold wrap64; omega

set_option maxHeartbeats 2000000 in
theorem valid_any (l : Bt) (w : World) (hl : l.length ≤ 100000) : Calls Try.prog 68 #[St l] w fun e w' => e = .returned (.bool (isPath l)) ∧ Below w.heap.size w w' := by
  go_enter Try.func68, Try.ntmps68
  go_wp2
  refine wp_scope_labels (No w l) (fun _ _ _ => 0) ?_ ?_
  · rintro k a wr ⟨rfl, h1, h2, u, rfl⟩
    refine ⟨_, rfl, ?_⟩
    go_wp2
    change bodyPost Try.prog Try.f68 (fun e w' => e = .returned (.bool (isPath l)) ∧ Below w.heap.size w w') .ret _ _
    go_ret
    exact ⟨by rw [h1]; rfl, h2⟩
  · intro h
    clear h
    go_wp2
    go_loopw [3, 4] (fun x y w' => ∃ (i f d : Nat), w' = w.iter ⟨l.toArray⟩ i ∧ x = .int .i64 d ∧ y = .int .i64 f ∧ f ≤ i ∧ i ≤ l.length ∧ 1 ≤ d ∧ d ≤ 6 ∧ scan d ((l.drop f).take (i - f)) (l.drop i) = isPath l) (fun _ _ w' => l.length - w'.iterPos w.heap.size)
    case atStart => exact ⟨0, 0, 1, rfl, rfl, rfl, by omega, by omega, by omega, by omega, scan_path l⟩
    case round =>
      obtain ⟨i, f, d, rfl, rfl, rfl, hfi, hil, hd1, hd6, hs⟩ := hrel
      have hB := fun j => Lib.hid (below_iter w ⟨l.toArray⟩ j)
      by_cases hi : i < l.length
      · have hcl : ((l.drop f).take (i - f)).length = i - f := by simp; omega
        have hsl := run_sub l f i hfi hil
        rw [List.drop_eq_getElem_cons hi] at hs
        have hnx : (l.drop f).take (i + 1 - f) = (l.drop f).take (i - f) ++ [l[i]] := by
          rw [show i + 1 - f = i - f + 1 by omega, List.take_succ_eq_append_getElem (by simp; omega)]
          simp only [List.getElem_drop, show f + (i - f) = i by omega]
        have HX := Lib.hid hnx
        clear hnx
        by_cases ha : l[i].toNat < 128
        · have hn := next_low w l i hi ha
          generalize l[i] = c at *
          have ho := okr_byte c
          have hw : wrap64 ((i : Int) - f) = ((i - f : Nat) : Int) := by rw [wrap_in _ (by omega) (by omega)]; omega
          generalize (l.drop f).take (i - f) = cur at *
          generalize hk : i - f = k at *
          have wi : wrap64 ((i : Int) + 1) = ((i + 1 : Nat) : Int) := by rw [wrap_in _ (by omega) (by omega)]; omega
          have wd : wrap64 ((d : Int) + 1) = ((d + 1 : Nat) : Int) := by rw [wrap_in _ (by omega) (by omega)]; omega
          by_cases h47 : c = 47
          · subst h47
            simp only [scan, if_true] at hs
            have h47 : ((47 : UInt8).toNat : Int) = 47 := by decide
            rw [h47] at hn
            by_cases h6 : d = 6
            · rw [if_pos (Or.inl h6)] at hs
              subst h6
              have HS := Lib.hid hs
              clear hs ha hw ho wi wd
              go_wp2
              go_step3
              exact no_mk _ HS.out.symm (hB _).out rfl
            · cases hst : stands cur with
              | false =>
                rw [if_pos (Or.inr hst)] at hs
                have HS := Lib.hid hs
                clear hs ha hw ho wi wd
                go_wp2_with (go_at_call 85; (with_reducible refine (stands_any _ _).mono ?_); rintro e w1 ⟨rfl, rfl⟩)
                go_step3
                exact no_mk _ HS.out.symm (hB _).out rfl
              | true =>
                rw [if_neg (by rw [hst]; simp [h6])] at hs
                have HS := Lib.hid hs
                clear hs ha hw ho
                go_wp2_with (go_at_call 85; (with_reducible refine (stands_any _ _).mono ?_); rintro e w1 ⟨rfl, rfl⟩)
                go_roundw
                case rel => exact ⟨i + 1, i + 1, d + 1, rfl, rfl, rfl, by omega, by omega, by omega, by omega, by rw [Nat.sub_self]; exact HS.out⟩
                case measure => simp; omega
          · simp only [scan, h47, if_false] at hs
            have h47' : (c.toNat : Int) ≠ 47 := fun e => h47 (UInt8.toNat_inj.1 (by show c.toNat = 47; omega))
            by_cases h14 : k = 14
            · rw [if_pos (Or.inl (hcl.trans h14))] at hs
              subst h14
              have HS := Lib.hid hs
              clear hs ha ho wi wd
              go_wp2
              go_step3
              exact no_mk _ HS.out.symm (hB _).out rfl
            · have h14' : ((k : Nat) : Int) ≠ 14 := by omega
              cases hst : okb c with
              | false =>
                rw [if_pos (Or.inr hst)] at hs
                rw [hst] at ho
                have HS := Lib.hid hs
                clear hs ha wi wd
                go_wp2_with (go_at_call 86; (with_reducible refine (allowed_any _ _).mono ?_); rintro e w1 ⟨rfl, rfl⟩)
                go_step3
                exact no_mk _ HS.out.symm (hB _).out rfl
              | true =>
                rw [if_neg (by rw [hst, hcl]; simp [h14])] at hs
                rw [hst] at ho
                have HS := Lib.hid hs
                clear hs ha
                go_wp2_with (go_at_call 86; (with_reducible refine (allowed_any _ _).mono ?_); rintro e w1 ⟨rfl, rfl⟩)
                go_roundw
                case rel =>
                  refine ⟨i + 1, f, d, rfl, rfl, rfl, by omega, by omega, hd1, hd6, ?_⟩
                  rw [HX.out]
                  exact HS.out
                case measure => simp; omega
        · obtain ⟨r, n, hr, hr2, hn1, hn⟩ := next_high w l i hi (by omega)
          have ho := okr_high r (by omega)
          have hc47 : l[i] ≠ 47 := fun e => ha (by rw [e]; decide)
          have hco : okb l[i] = false := by
            unfold okb
            exact decide_eq_false (by omega)
          simp only [scan, hc47, if_false, hco, or_true, if_true] at hs
          have hr47 : ((r : Int) == 47) = false := by
            rw [beq_eq_false_iff_ne]; omega
          have HS := Lib.hid hs
          clear hs ha hc47 hco
          have hw : wrap64 ((i : Int) - f) = ((i - f : Nat) : Int) := by rw [wrap_in _ (by omega) (by omega)]; omega
          generalize (l.drop f).take (i - f) = cur at *
          generalize hk : i - f = k at *
          by_cases h14 : k = 14
          · subst h14
            clear hw ho
            go_wp2
            go_step3
            exact no_mk _ HS.out.symm (hB _).out rfl
          · have h14' : ((k : Nat) : Int) ≠ 14 := by omega
            go_wp2_with (go_at_call 86; (with_reducible refine (allowed_any _ _).mono ?_); rintro e w1 ⟨rfl, rfl⟩)
            go_step3
            exact no_mk _ HS.out.symm (hB _).out rfl
      · have hn := next_end w l i hi
        have hf := run_from l f (by omega)
        have e0 : l.drop i = [] := List.drop_eq_nil_of_le (by omega)
        have e1 : (l.drop f).take (i - f) = l.drop f := List.take_of_length_le (by simp; omega)
        rw [e0, e1] at hs
        simp only [scan] at hs
        have HS := Lib.hid hs
        clear hs e0 e1
        go_wp2_with (go_at_call 85; (with_reducible refine (stands_any _ _).mono ?_); rintro e w1 ⟨rfl, rfl⟩)
        change bodyPost Try.prog Try.f68 (fun e w' => e = .returned (.bool (isPath l)) ∧ Below w.heap.size w w') .ret _ _
        go_ret
        exact ⟨by rw [HS.out]; rfl, (hB _).out⟩
end Go.Proofs.Ytjagddhkoacipaa

/-
What is proved here: a path's last slash, what stands ahead of it and behind it, by its parts.
-/
namespace Go.Pth

theorem cut_app (x y : Bt) : cutAt (x ++ 47 :: y) = ((cutAt x).1, (cutAt x).2 ++ parts y) := by
  induction x with
  | nil => simp [cutAt, parts]
  | cons c r ih =>
    by_cases h : c = 47
    · subst h; simp [cutAt, ih]
    · simp [cutAt, h, ih]
theorem parts_app (x y : Bt) : parts (x ++ 47 :: y) = parts x ++ parts y := by
  unfold parts
  rw [cut_app]
  simp [parts]
theorem cut_none (y : Bt) (h : ∀ c ∈ y, c ≠ 47) : cutAt y = (y, []) := by
  induction y with
  | nil => rfl
  | cons c r ih =>
    have h1 := h c (by simp)
    have h2 := ih (fun d hd => h d (by simp [hd]))
    simp [cutAt, h1, h2]
theorem parts_none (y : Bt) (h : ∀ c ∈ y, c ≠ 47) : parts y = [y] := by unfold parts; rw [cut_none y h]

/-- the place of the last slash, or -1 -/
def lastAt (l : Bt) : Int := Lib.lastIndexByte ⟨l.toArray⟩ 47
theorem data_at (l : Bt) (j : Nat) (h : j < l.length) : (ByteArray.mk l.toArray).data[j]! = l[j] := by
  simp [h]
theorem num_slash (c : UInt8) : ((c.toNat : Int) = 47) ↔ c = 47 := by
  constructor
  · intro h
    exact UInt8.toNat_inj.1 (by show c.toNat = 47; omega)
  · rintro rfl; decide
theorem last_cases (l : Bt) : (lastAt l = -1 ∧ parts l = [l]) ∨ ∃ x y, l = x ++ 47 :: y ∧ lastAt l = (x.length : Int) ∧ parts l = parts x ++ [y] ∧ ∀ c ∈ y, c ≠ 47 := by
  have hs : (ByteArray.mk l.toArray).size = l.length := by simp [ByteArray.size]
  rcases Lib.lastIndexByte_spec ⟨l.toArray⟩ 47 with ⟨h1, h2⟩ | ⟨i, hi, h1, h2, h3⟩
  · refine Or.inl ⟨h1, parts_none l fun c hc => ?_⟩
    obtain ⟨j, hj, rfl⟩ := List.getElem_of_mem hc
    have := h2 j (by rw [hs]; exact hj)
    rw [data_at l j hj] at this
    exact fun e => this ((num_slash _).2 e)
  · rw [hs] at hi
    rw [data_at l i hi] at h2
    have h4 : ∀ c ∈ l.drop (i + 1), c ≠ 47 := fun c hc => by
      obtain ⟨j, hj, rfl⟩ := List.getElem_of_mem hc
      rw [List.length_drop] at hj
      have := h3 (i + 1 + j) (by omega) (by rw [hs]; omega)
      rw [data_at l _ (by omega)] at this
      rw [List.getElem_drop]
      exact fun e => this ((num_slash _).2 e)
    have e : l = l.take i ++ 47 :: l.drop (i + 1) := by
      have h5 : l[i] = 47 := (num_slash _).1 h2
      rw [← h5, ← List.drop_eq_getElem_cons hi, List.take_append_drop]
    refine Or.inr ⟨l.take i, l.drop (i + 1), e, ?_, ?_, h4⟩
    · rw [List.length_take_of_le (by omega)]; exact h1
    · conv => lhs; rw [e]
      rw [parts_app, parts_none _ h4]

/-- a path without its last name; its last name -/
def up (l : Bt) : Bt := if lastAt l < 0 then [] else l.take (lastAt l).toNat
def base (l : Bt) : Bt := l.drop (lastAt l + 1).toNat
def upP (l : Bt) : Bt := if isPath l then up l else []
def baseP (l : Bt) : Bt := if isPath l then base l else []
theorem up_base (l : Bt) : (up l = [] ∧ base l = l ∧ parts l = [l]) ∨ ∃ x y, l = x ++ 47 :: y ∧ up l = x ∧ base l = y ∧ parts l = parts x ++ [y] ∧ ∀ c ∈ y, c ≠ 47 := by
  rcases last_cases l with ⟨h1, h2⟩ | ⟨x, y, h1, h2, h3, h4⟩
  · refine Or.inl ⟨?_, ?_, h2⟩
    · unfold up; rw [h1]; rfl
    · unfold base; rw [h1]; rfl
  · refine Or.inr ⟨x, y, h1, ?_, ?_, h3, h4⟩
    · unfold up
      rw [h2, if_neg (by omega), Int.toNat_natCast, h1]
      simp
    · unfold base
      rw [h2, show ((x.length : Int) + 1).toNat = x.length + 1 by omega, h1]
      simp
end Go.Pth

/-
What is proved here: two functions of Go's library, strings.LastIndexByte and strings.HasPrefix, by the kit's contracts, over this seat's numbers.
-/
namespace Go.Proofs.Ytjagddhkoacipaa
def lays149_ren : Go.Shelf.Ren := ⟨fun | 149 => 104 | 222 => 127 | n => n, fun | 9 => 9 | 5 => 5 | 3 => 3 | 4 => 4 | n => n, fun | n => n⟩
theorem lays149 : Go.Proofs.Lays.n149 Try.prog lays149_ren := {
  mixed := by kernel_rfl
  f149 := Try.func104.trans (congrArg some (by kernel_rfl))
  f222 := Try.func127.trans (congrArg some (by kernel_rfl))
  t3 := Try.underlying3
  a3 := Try.isAgg3
  z3 := Try.sizeOf3
  v3 := Try.zeroValue3
  t4 := Try.underlying4
  a4 := Try.isAgg4
  z4 := Try.sizeOf4
  v4 := Try.zeroValue4
  t5 := Try.underlying5
  a5 := Try.isAgg5
  z5 := Try.sizeOf5
  v5 := Try.zeroValue5
  t9 := Try.underlying9
  a9 := Try.isAgg9
  z9 := Try.sizeOf9
  v9 := Try.zeroValue9 }
theorem strings_LastIndexByte (s : ByteArray) (c : Int) (hs : s.size < 4611686018427387904) (w : World) :
    Calls Try.prog 104 #[.string s, .int .u8 c] w fun e w' => e = .returned (.int .i64 (Lib.lastIndexByte s c)) ∧ w' = w := Any.strings_LastIndexByte lays149 s c hs w
def lays99_ren : Go.Shelf.Ren := ⟨fun | 99 => 78 | 206 => 93 | n => n, fun | 9 => 9 | 4 => 4 | 3 => 3 | n => n, fun | n => n⟩
theorem lays99 : Go.Proofs.Lays.n99 Try.prog lays99_ren := {
  mixed := by kernel_rfl
  f99 := Try.func78.trans (congrArg some (by kernel_rfl))
  f206 := Try.func93.trans (congrArg some (by kernel_rfl))
  t3 := Try.underlying3
  a3 := Try.isAgg3
  z3 := Try.sizeOf3
  v3 := Try.zeroValue3
  t4 := Try.underlying4
  a4 := Try.isAgg4
  z4 := Try.sizeOf4
  v4 := Try.zeroValue4
  t9 := Try.underlying9
  a9 := Try.isAgg9
  z9 := Try.sizeOf9
  v9 := Try.zeroValue9 }
theorem strings_HasPrefix (s p : ByteArray) (w : World) :
    Calls Try.prog 78 #[.string s, .string p] w fun e w' => e = .returned (.bool (Lib.hasPrefix s.data.toList p.data.toList)) ∧ w' = w := Any.strings_HasPrefix lays99 s p w
end Go.Proofs.Ytjagddhkoacipaa

/-
What is proved here: package path's split, Parent, Base and Temp, and the law's own look at what the document fixes, by contracts.
-/
set_option linter.unusedSimpArgs false
namespace Go.Proofs.Ytjagddhkoacipaa
open Go.Pth Go.RowKit Go.Word

theorem below_drewN {B : Nat} {a w : World} (h : Below B a w) (n : Nat) : Below B a (w.drewN n) := ⟨h.os, h.tape, h.output, h.size, h.block⟩
theorem last_any (l : Bt) (w : World) (hl : l.length ≤ 100000) : Calls Try.prog 104 #[St l, .int .u8 47] w fun e w' => e = .returned (.int .i64 (lastAt l)) ∧ w = w' :=
  (strings_LastIndexByte ⟨l.toArray⟩ 47 (by rw [size_st]; omega) w).mono fun _ _ h => ⟨h.1, h.2.symm⟩

set_option maxHeartbeats 1000000 in
theorem split_any (l : Bt) (w : World) (hl : l.length ≤ 100000) : Calls Try.prog 87 #[St l] w fun e w' => e = .returned (.tuple #[St (upP l), St (baseP l)]) ∧ Below w.heap.size w w' := by
  have V := Lib.hid (valid_any l w hl)
  cases hp : isPath l with
  | false =>
    have h1 : upP l = [] := by simp [upP, hp]
    have h2 : baseP l = [] := by simp [baseP, hp]
    rw [h1, h2]
    rw [hp] at V
    clear h1 h2
    go_enter Try.func87, Try.ntmps87
    go_wp2_with (go_at_call 68; (with_reducible refine V.out.mono ?_); rintro e w1 ⟨rfl, hb⟩; have H1 := Lib.hid hb; clear hb)
    go_ret2
    exact ⟨rfl, H1.out⟩
  | true =>
    have h1 : upP l = up l := by simp [upP, hp]
    have h2 : baseP l = base l := by simp [baseP, hp]
    rw [h1, h2]
    rw [hp] at V
    clear h1 h2
    have K := fun w => Lib.hid (last_any l w hl)
    rcases last_cases l with ⟨h1, h2⟩ | ⟨x, y, h1, h2, h3, h4⟩
    · have e1 : up l = [] := by unfold up; rw [h1]; rfl
      have e2 : base l = l := by unfold base; rw [h1]; rfl
      rw [e1, e2]
      rw [h1] at K
      have s1 : ∀ w, (Instr.slice 9 (St l) none (some (.int .i64 0)) none).run Try.prog w = .ok (St []) w := run_to l 0 (by omega)
      have s2 : ∀ w, (Instr.slice 9 (St l) (some (.int .i64 0)) none none).run Try.prog w = .ok (St l) w := run_from l 0 (by omega)
      have m1 : max (-1 : Int) 0 = 0 := by decide
      clear e1 e2 h1 h2
      go_enter Try.func87, Try.ntmps87
      go_upto_region 4 with (first
        | (go_at_call 68; (with_reducible refine V.out.mono ?_); rintro e w1 ⟨rfl, hb⟩; have H1 := Lib.hid hb; clear hb)
        | (go_at_call 104; (with_reducible refine (K _).out.mono ?_); rintro e w2 ⟨rfl, rfl⟩))
      go_quiet (fail)
      go_wp2
      go_ret2
      exact ⟨rfl, below_drewN H1.out _⟩
    · have e1 : up l = x := by
        unfold up
        rw [h2, if_neg (by omega), Int.toNat_natCast, h1]
        simp
      have e2 : base l = y := by
        unfold base
        rw [h2, show ((x.length : Int) + 1).toNat = x.length + 1 by omega, h1]
        simp
      have hx : x.length < l.length := by rw [h1]; simp
      have s1 : ∀ w, (Instr.slice 9 (St l) none (some (.int .i64 (x.length : Int))) none).run Try.prog w = .ok (St x) w := fun w => by
        rw [run_to l x.length (by omega), h1]
        simp
      have s2 : ∀ w, (Instr.slice 9 (St l) (some (.int .i64 ((x.length + 1 : Nat) : Int))) none none).run Try.prog w = .ok (St y) w := fun w => by
        rw [run_from l (x.length + 1) (by omega), h1]
        simp
      have w1 : IntKind.i64.wrap ((x.length : Int) + 1) = ((x.length + 1 : Nat) : Int) := by
        rw [IntKind.wrap_i64]; omega
      have m1 : max (x.length : Int) 0 = (x.length : Int) := by omega
      rw [e1, e2]
      rw [h2] at K
      generalize x.length = k at *
      generalize hk1 : k + 1 = k1 at *
      clear e1 e2 h1 h2 h3 h4
      go_enter Try.func87, Try.ntmps87
      go_upto_region 4 with (first
        | (go_at_call 68; (with_reducible refine V.out.mono ?_); rintro e w1 ⟨rfl, hb⟩; have H1 := Lib.hid hb; clear hb)
        | (go_at_call 104; (with_reducible refine (K _).out.mono ?_); rintro e w2 ⟨rfl, rfl⟩))
      go_quiet (fail)
      go_wp2
      go_ret2
      exact ⟨rfl, below_drewN H1.out _⟩
theorem parent_any (l : Bt) (w : World) (hl : l.length ≤ 100000) : Calls Try.prog 69 #[St l] w fun e w' => e = .returned (St (upP l)) ∧ Below w.heap.size w w' := by
  have V := Lib.hid (split_any l w hl)
  clear hl
  generalize upP l = u at *
  generalize baseP l = b at *
  go_enter Try.func69, Try.ntmps69
  go_wp2_with (go_at_call 87; (with_reducible refine V.out.mono ?_); rintro e w1 ⟨rfl, hb⟩; have H1 := Lib.hid hb; clear hb)
  go_ret
  exact ⟨rfl, H1.out⟩
end Go.Proofs.Ytjagddhkoacipaa

/-
What is proved here: a path's bytes are ASCII; its parts one by one.
-/
namespace Go.Pth

def namesP (l : Bt) : List Bt := if isPath l then parts l else []
theorem mem_cut (l : Bt) (c : UInt8) (h : c ∈ l) : c = 47 ∨ c ∈ (cutAt l).1 ∨ ∃ p ∈ (cutAt l).2, c ∈ p := by
  induction l with
  | nil => cases h
  | cons d r ih =>
    by_cases h47 : d = 47
    · subst h47
      simp only [cutAt, if_true]
      rcases List.mem_cons.1 h with rfl | h
      · exact Or.inl rfl
      · rcases ih h with h1 | h1 | ⟨p, hp, h1⟩
        · exact Or.inl h1
        · exact Or.inr (Or.inr ⟨_, by simp, h1⟩)
        · exact Or.inr (Or.inr ⟨p, by simp [hp], h1⟩)
    · simp only [cutAt, h47, if_false]
      rcases List.mem_cons.1 h with rfl | h
      · exact Or.inr (Or.inl (by simp))
      · rcases ih h with h1 | h1 | ⟨p, hp, h1⟩
        · exact Or.inl h1
        · exact Or.inr (Or.inl (by simp [h1]))
        · exact Or.inr (Or.inr ⟨p, hp, h1⟩)
theorem okb_low (c : UInt8) (h : okb c = true) : c.toNat < 128 := by
  unfold okb at h
  have := of_decide_eq_true h
  omega
theorem path_low (l : Bt) (h : isPath l = true) : ∀ c ∈ l, c.toNat < 128 := fun c hc => by
  unfold isPath at h
  rw [Bool.and_eq_true] at h
  have ha := List.all_eq_true.1 h.2
  have hn : ∀ p ∈ parts l, c ∈ p → c.toNat < 128 := fun p hp hcp => by
    have := ha p hp
    unfold isName at this
    rw [Bool.and_eq_true] at this
    exact okb_low c (List.all_eq_true.1 this.2 c hcp)
  rcases mem_cut l c hc with rfl | h1 | ⟨p, hp, h1⟩
  · decide
  · exact hn _ (by simp [parts]) h1
  · exact hn p (by simp [parts, hp]) h1
theorem parts_pos (l : Bt) : 1 ≤ (parts l).length := by simp [parts]
theorem names_six (l : Bt) : (namesP l).length ≤ 6 := by
  unfold namesP
  split
  · rename_i h
    unfold isPath at h
    rw [Bool.and_eq_true] at h
    exact of_decide_eq_true h.1
  · simp
theorem cut_len (l : Bt) : ∀ p, p ∈ parts l → p.length ≤ l.length := by
  induction l with
  | nil => intro p hp; simp [parts, cutAt] at hp; subst hp; simp
  | cons c r ih =>
    intro p hp
    unfold parts at hp
    by_cases h : c = 47
    · subst h
      simp only [cutAt, if_true, List.mem_cons] at hp
      rcases hp with rfl | hp
      · simp
      · have := ih p (by unfold parts; exact List.mem_cons.2 hp)
        simp; omega
    · simp only [cutAt, h, if_false, List.mem_cons] at hp
      rcases hp with rfl | hp
      · have := ih (cutAt r).1 (by simp [parts])
        simp; omega
      · have := ih p (by simp [parts, hp])
        simp; omega
end Go.Pth

/-
What is proved here: the function value that goes over a path's names: its contract for every loop body that keeps what lay below and the walks over texts.
-/
set_option linter.unusedSimpArgs false
namespace Go.Proofs.Ytjagddhkoacipaa
open Go.Pth Go.RowKit Go.Word Go.Shelf
attribute [local go_sem] Oper.semAt_some run_range_st

def encS (x : Bt) : Array Value := #[St x]
/-- what a round keeps -/
def KS (Bs : Nat) (A B : World) : Prop := B.heap[Bs]? = A.heap[Bs]? ∧ KeepsWalks A B
theorem ks_t {Bs : Nat} {A B C : World} (h : KS Bs A B) (k : KS Bs B C) : KS Bs A C := ⟨k.1.trans h.1, h.2.trans k.2⟩
theorem ks_b {Bs : Nat} {w : World} (hB : Bs < w.heap.size) (W : World) (l : Nat) (o o' : Obj) (hl : w.heap.size ≤ l) (h : W.heap[l]? = some o) (_ : o.isCells = false) (hw : o.isWalk = false) : KS Bs W (W.putObj l o') :=
  ⟨World.putObj_heap_other (by omega), KeepsWalks.putObj _ h hw⟩
theorem next_at (w : World) (it : Nat) (l : Bt) (i : Nat) (h : w.heap[it]? = some (.stringIter ⟨l.toArray⟩ i)) (hi : i < l.length) (ha : l[i].toNat < 128) (ty : TypeId) :
    (Instr.next (.pointer (some ⟨it, 0, none⟩)) true ty).run Try.prog w = .ok (.tuple #[.bool true, .int .i64 i, .int .i32 l[i].toNat]) (w.putObj it (.stringIter ⟨l.toArray⟩ (i + 1))) := by
  have h1 : i < (ByteArray.mk l.toArray).size := by rw [size_st]; exact hi
  have h2 : ((ByteArray.mk l.toArray)[i]'h1).toNat < 128 := by rw [get_st l i hi]; exact ha
  simp only [Instr.next, getObj, setObj, Sem.run_bind, Sem.run, h, Result.andThen, h1, if_true, decode_ascii _ i h1 h2]
  simp [goInt, Sem.run, h, World.putObj, get_st l i hi]
theorem end_at (w : World) (it : Nat) (l : Bt) (i : Nat) (h : w.heap[it]? = some (.stringIter ⟨l.toArray⟩ i)) (hi : ¬ i < l.length) (ty : TypeId) :
    (Instr.next (.pointer (some ⟨it, 0, none⟩)) true ty).run Try.prog w = .ok (.tuple #[.bool false]) w := by
  have h1 : ¬ i < (ByteArray.mk l.toArray).size := by rw [size_st]; exact hi
  simp [Instr.next, getObj, Sem.run, h, h1]
theorem pos_at (w : World) (it : Nat) (s : ByteArray) (i : Nat) (h : w.heap[it]? = some (.stringIter s i)) : w.iterPos it = i := by simp [World.iterPos, h]
theorem grown_of_below {w w' : World} (h : Below w.heap.size w w') : w.grownBy w' none := ⟨h.os, h.tape, h.output, h.size, fun k hk _ => h.block k hk⟩

set_option maxRecDepth 100000 in
set_option maxHeartbeats 4000000 in
theorem names_stops (n : Nat) (hn : 1 ≤ n) (l : Bt) (hl : l.length ≤ 100000) (Bs : Nat) (w : World) (hBs : Bs < w.heap.size) (hb : w.cell? ⟨Bs, 0, none⟩ = some (St l)) :
    SeqStopsK .wide n Try.prog 92 #[.pointer (some ⟨Bs, 0, none⟩)] encS (KS Bs) (fun ys => ys = namesP l) (fun pre => pre <+: namesP l) (namesP l).length w := fun lp J Jx W hW hJ _ hY h0 => by
  have V := Lib.hid (valid_any l W hl)
  have cB0 := (hW.cell (p := ⟨Bs, 0, none⟩) (by show Bs < _; omega)).trans hb
  have hnW : Bs < W.heap.size := Nat.lt_of_lt_of_le hBs hW.size
  refine callsIn_of_wp Try.func92 rfl trivial ?_ rfl
  simp only [Try.ntmps92, List.size_toArray, List.length_cons, List.length_nil, Nat.reduceAdd, Nat.reduceSub, Array.replicate_succ, Array.replicate_zero, List.push_toArray, List.append_toArray, List.nil_append, List.cons_append]
  cases hp : isPath l with
  | false =>
    have hN : namesP l = [] := by simp [namesP, hp]
    rw [hp] at V
    rw [hN]
    gi_wp2_with (refine ⟨trivial, ?_⟩; gi_at_call 68; refine (callsIn_wide.2 V.out).mono ?_; rintro e w1 ⟨rfl, hb1⟩; have H1 := Lib.hid hb1; clear hb1)
    refine bodyPost_ret (results_none rfl _ _ _) rfl ?_
    exact ⟨⟨_, rfl⟩, .inl ⟨_, rfl, hJ _ _ _ none h0 (grown_of_below H1.out) (fun _ e => by cases e)⟩⟩
  | true =>
    have hN : namesP l = parts l := by simp [namesP, hp]
    rw [hp] at V
    have hlow := path_low l hp
    rw [hN] at hY ⊢
    gi_wp2_with (refine ⟨trivial, ?_⟩; gi_at_call 68; refine (callsIn_wide.2 V.out).mono ?_; rintro e w1 ⟨rfl, hb1⟩; have H1 := Lib.hid hb1; have cB1 := (hb1.cell (p := ⟨Bs, 0, none⟩) (by show Bs < _; omega)).trans cB0; clear hb1)
    obtain ⟨it, hit⟩ : ∃ it, w1.heap.size = it := ⟨_, rfl⟩
    have hWit : W.heap.size ≤ it := by rw [← hit]; exact H1.out.size
    have s1 : (w1.iter ⟨l.toArray⟩ 0).heap[it]? = some (.stringIter ⟨l.toArray⟩ 0) := by rw [← hit]; exact World.iter_heap w1 _ 0
    have s2 : (w1.iter ⟨l.toArray⟩ 0).cell? ⟨Bs, 0, none⟩ = some (St l) := ((below_iter w1 _ 0).cell (p := ⟨Bs, 0, none⟩) (by show Bs < _; omega)).trans cB1
    have s3 : J [] (w1.iter ⟨l.toArray⟩ 0) := hJ _ _ _ none h0 (grown_of_below (H1.out.trans ((below_iter w1 _ 0).mono H1.out.size))) (fun _ e => by cases e)
    rw [hit]
    generalize w1.iter ⟨l.toArray⟩ 0 = w2 at *
    clear H1 cB0 cB1 V hit h0 hb hW
    gi_loopw [3] (fun x wr => ∃ (i f : Nat) (done : List Bt), x = .int .i64 f ∧ f ≤ i ∧ i ≤ l.length ∧ (∀ c ∈ (l.drop f).take (i - f), c ≠ 47) ∧ parts l = done ++ parts (l.drop f) ∧ J done wr ∧ wr.heap[it]? = some (.stringIter ⟨l.toArray⟩ i) ∧ wr.cell? ⟨Bs, 0, none⟩ = some (St l)) (fun _ wr => l.length - wr.iterPos it)
    case atStart => exact ⟨0, 0, [], rfl, by omega, by omega, fun c hc => by simp at hc, rfl, s3, s1, s2⟩
    case round =>
      obtain ⟨i, f, done, rfl, hfi, hil, hno, hpl, hJr, hit, hcb⟩ := hrel
      have hm := pos_at wr it _ _ hit
      by_cases hi : i < l.length
      · have ha := hlow l[i] (List.getElem_mem hi)
        have hn := next_at wr it l i hit hi ha
        have hw3 := hJ _ _ _ (some it) hJr (grownBy_putObj' wr it (.stringIter ⟨l.toArray⟩ (i + 1))) (fun r e => by cases e; exact ⟨hWit, _, hit, rfl⟩)
        have hit3 : (wr.putObj it (.stringIter ⟨l.toArray⟩ (i + 1))).heap[it]? = some (.stringIter ⟨l.toArray⟩ (i + 1)) := World.putObj_heap_same (Array.getElem?_eq_some_iff.1 hit).1
        have hcb3 : (wr.putObj it (.stringIter ⟨l.toArray⟩ (i + 1))).cell? ⟨Bs, 0, none⟩ = some (St l) := by
          rw [← hcb]
          exact World.cell?_of_block (World.putObj_heap_other (by show Bs ≠ it; omega))
        generalize wr.putObj it (.stringIter ⟨l.toArray⟩ (i + 1)) = w3 at *
        have hsl := run_sub l f i hfi hil
        have hnx : (l.drop f).take (i + 1 - f) = (l.drop f).take (i - f) ++ [l[i]] := by
          rw [show i + 1 - f = i - f + 1 by omega, List.take_succ_eq_append_getElem (by simp; omega)]
          simp only [List.getElem_drop, show f + (i - f) = i by omega]
        have hdr : l.drop f = (l.drop f).take (i - f) ++ l[i] :: l.drop (i + 1) := by
          conv => lhs; rw [← List.take_append_drop (i - f) (l.drop f)]
          rw [List.drop_drop, show f + (i - f) = i by omega, List.drop_eq_getElem_cons hi]
        have q1 : f ≤ i + 1 := by omega
        have q2 : i + 1 ≤ l.length := hi
        have q3 : l.length - (i + 1) < l.length - i := by omega
        have HX := Lib.hid hnx
        have HD := Lib.hid hdr
        have wi : wrap64 ((i : Int) + 1) = ((i + 1 : Nat) : Int) := by rw [wrap_in _ (by omega) (by omega)]; omega
        clear hnx hdr
        by_cases h47 : l[i] = 47
        · have h47n : (l[i].toNat : Int) = 47 := by rw [h47]; decide
          rw [h47n] at hn
          have hpp : parts (l.drop f) = (l.drop f).take (i - f) :: parts (l.drop (i + 1)) := by
            conv => lhs; rw [HD.out, h47]
            rw [parts_app, parts_none _ hno]
            rfl
          have hlen : done.length < (parts l).length := by rw [hpl, hpp]; simp
          obtain ⟨fn, tmps, assign, body, hy, hR⟩ := hY done ((l.drop f).take (i - f)) w3 hw3 hlen
          dsimp only [encS] at hy
          have hnl : parts l = done ++ [(l.drop f).take (i - f)] ++ parts (l.drop (i + 1)) := by rw [hpl, hpp]; simp
          generalize (l.drop f).take (i - f) = cur at *
          have HP := Lib.hid hnl
          clear hnl hpp hpl HD HX hno h47 h47n hlow
          gi_wp2
          refine hR.mono ?_
          rintro e W3 (⟨rfl, hJ3, hk3⟩ | ⟨rfl, hJx3⟩)
          · gi_wp2
            go_roundw
            case rel => exact ⟨i + 1, i + 1, _, congrArg (Value.int .i64) wi, Nat.le_refl _, q2, fun c hc => by simp at hc, HP.out, hJ3, hk3.2.same _ _ hit3 rfl, (World.cell?_of_block hk3.1).trans hcb3⟩
            case measure =>
              rw [pos_at _ it _ _ (hk3.2.same _ _ hit3 rfl), hm]
              exact q3
          · gi_wp2
            refine bodyPost_ret (results_none rfl _ _ _) rfl ?_
            exact ⟨⟨_, rfl⟩, .inr ⟨_, ⟨_, HP.out.symm⟩, hJx3⟩⟩
        · have h47n : (l[i].toNat : Int) ≠ 47 := fun e => h47 (UInt8.toNat_inj.1 (by show l[i].toNat = 47; omega))
          have hno2 : ∀ c ∈ (l.drop f).take (i + 1 - f), c ≠ 47 := fun c hc => by
            rw [HX.out] at hc
            rcases List.mem_append.1 hc with hc | hc
            · exact hno c hc
            · rw [List.mem_singleton] at hc
              rw [hc]; exact h47
          have HN := Lib.hid hno2
          clear hno2 hno HX HD hlow h47
          generalize l[i].toNat = c at *
          gi_wp2
          go_roundw
          case rel => exact ⟨i + 1, f, done, rfl, q1, q2, HN.out, hpl, hw3, hit3, hcb3⟩
          case measure =>
            rw [pos_at _ it _ _ hit3, hm]
            exact q3
      · obtain rfl : i = l.length := by omega
        have hn := end_at wr it l l.length hit (by omega)
        have hsl := run_from l f (by omega)
        have e1 : (l.drop f).take (l.length - f) = l.drop f := List.take_of_length_le (by simp)
        rw [e1] at hno
        rw [parts_none _ hno] at hpl
        obtain ⟨fn, tmps, assign, body, hy, hR⟩ := hY done (l.drop f) wr hJr (by rw [hpl]; simp)
        dsimp only [encS] at hy
        generalize l.drop f = cur at *
        have HP := Lib.hid hpl
        clear e1 hno hpl hlow
        gi_wp2
        refine hR.mono ?_
        rintro e W3 (⟨rfl, hJ3, hk3⟩ | ⟨rfl, hJx3⟩)
        · gi_wp2
          go_end0
          exact ⟨⟨_, rfl⟩, .inl ⟨_, HP.out.symm, hJ3⟩⟩
        · gi_wp2
          go_end0
          exact ⟨⟨_, rfl⟩, .inr ⟨_, ⟨[], by rw [List.append_nil]; exact HP.out.symm⟩, hJx3⟩⟩
end Go.Proofs.Ytjagddhkoacipaa
