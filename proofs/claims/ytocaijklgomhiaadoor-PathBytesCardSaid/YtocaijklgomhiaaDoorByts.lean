/-
What is proved here: the law PathBytes's walk.
-/
import Derived.Test.YtocaijklgomhiaaDoorAlv
import Derived.Laws.IdiomStrings
import Derived.Deep.MidRow
set_option linter.unusedSimpArgs false
namespace Go.Proofs.YtocaijklgomhiaaDoor
open Go.Pth Go.RowKit Go.Word

theorem path_one (c : UInt8) : isPath [c] = (okb c && decide (c ≠ 46)) := by
  by_cases h : c = 47
  · subst h; decide
  · unfold isPath parts
    simp only [cutAt, h, if_false, List.length_cons, List.length_nil, List.all_cons, List.all_nil, isName, stands]
    by_cases h46 : c = 46
    · subst h46; decide
    · simp [h46]
theorem path_two (c : UInt8) (hc : c ≠ 47) : isPath [97, c] = okb c := by
  unfold isPath parts
  have h97 : ¬ ((97 : UInt8) = 47) := by decide
  simp only [cutAt, hc, h97, if_false, List.length_cons, List.length_nil, List.all_cons, List.all_nil, isName, stands]
  have : okb 97 = true := by decide
  simp [this]
theorem path_slash : isPath [97, 47] = false := by decide
theorem a_add (x : Bt) (hx : x.length ≤ 100000) (w : World) : (binOp .add 9 (.string { data := #[97] }) (St x)).run Tryd.prog w = .ok (St (97 :: x)) w := by
  have h := run_string_add_lists (P := Tryd.prog) (w := w) [97] x (by simp) (by omega)
  unfold St
  rw [binOp_string_add]
  exact h
theorem one_byte (c : UInt8) (w : World) (k : Nat × Nat) : (convert 34 9 (.slice (some ⟨w.heap.size, 0, none⟩) 1 1)).run Tryd.prog (w.alloc (.cells #[.int .u8 (c.toNat : Int)] 5 k)) = .ok (St [c]) (w.alloc (.cells #[.int .u8 (c.toNat : Int)] 5 k)) := by
  refine run_convert_bytes_back (P := Tryd.prog) _ 34 9 5 ⟨w.heap.size, 0, none⟩ 1 [c] Tryd.underlying34 Tryd.underlying5 Tryd.underlying9 fun j hj => ?_
  have : j = 0 := by simpa using hj
  subst this
  rw [Addr.add_mid, World.cell?_alloc_mark]
  rfl

set_option maxHeartbeats 2000000 in
theorem bytes_case (z b : Int) (c : UInt8) (hc : (c.toNat : Int) = b) (hz : (IntKind.u8.wrap z) = b) (w : World) :
    Calls Tryd.prog 9 #[.int .i64 z] w fun e w' => e = .returned (.bool true) ∧ Below w.heap.size w w' := by
  have V1 := fun w => Lib.hid (valid_any [c] w (by simp))
  have V2 := fun w => Lib.hid (valid_any [97, c] w (by simp))
  have O := fun w k => one_byte c w k
  have A := a_add [c] (by simp)
  rw [hc] at O
  have hb0 : 0 ≤ b := by omega
  have hb1 : b ≤ 255 := by have := c.toNat_lt; omega
  have hok : okb c = decide (97 ≤ b ∧ b ≤ 122 ∨ 48 ≤ b ∧ b ≤ 57 ∨ b = 46 ∨ b = 95 ∨ b = 45) := by
    unfold okb; congr 1; apply propext; omega
  have h46 : c = 46 ↔ b = 46 := by
    constructor
    · rintro rfl; rw [← hc]; decide
    · intro h; exact UInt8.toNat_inj.1 (by show c.toNat = 46; omega)
  have h47 : c = 47 ↔ b = 47 := by
    constructor
    · rintro rfl; rw [← hc]; decide
    · intro h; exact UInt8.toNat_inj.1 (by show c.toNat = 47; omega)
  have e1 : isPath [c] = true ↔ (97 ≤ b ∧ b ≤ 122 ∨ 48 ≤ b ∧ b ≤ 57 ∨ b = 95 ∨ b = 45) := by
    rw [path_one, hok, Bool.and_eq_true, decide_eq_true_eq, decide_eq_true_eq, ne_eq, h46]; omega
  have e2 : isPath [97, c] = true ↔ (97 ≤ b ∧ b ≤ 122 ∨ 48 ≤ b ∧ b ≤ 57 ∨ b = 46 ∨ b = 95 ∨ b = 45) := by
    by_cases h : c = 47
    · have := h47.1 h
      subst h
      rw [path_slash]
      constructor
      · intro h; cases h
      · intro h; omega
    · rw [path_two c h, hok, decide_eq_true_eq]
  clear hok h46 h47 hc
  generalize isPath [c] = W1 at *
  generalize isPath [97, c] = W2 at *
  have w1 : (97 ≤ b ∧ b ≤ 122 ∨ 48 ≤ b ∧ b ≤ 57 ∨ b = 95 ∨ b = 45) ∧ W1 = true ∨ ¬(97 ≤ b ∧ b ≤ 122 ∨ 48 ≤ b ∧ b ≤ 57 ∨ b = 95 ∨ b = 45) ∧ W1 = false := by
    cases W1 with
    | true => exact Or.inl ⟨e1.1 rfl, rfl⟩
    | false => exact Or.inr ⟨fun h => (by cases e1.2 h), rfl⟩
  have w2 : (97 ≤ b ∧ b ≤ 122 ∨ 48 ≤ b ∧ b ≤ 57 ∨ b = 46 ∨ b = 95 ∨ b = 45) ∧ W2 = true ∨ ¬(97 ≤ b ∧ b ≤ 122 ∨ 48 ≤ b ∧ b ≤ 57 ∨ b = 46 ∨ b = 95 ∨ b = 45) ∧ W2 = false := by
    cases W2 with
    | true => exact Or.inl ⟨e2.1 rfl, rfl⟩
    | false => exact Or.inr ⟨fun h => (by cases e2.2 h), rfl⟩
  clear e1 e2
  by_cases b45 : b = 45
  · subst b45
    rcases w1 with ⟨h1, rfl⟩ | ⟨h1, rfl⟩
    · rcases w2 with ⟨h2, rfl⟩ | ⟨h2, rfl⟩
      · clear h1 h2
        go_enter Tryd.func9, Tryd.ntmps9
        go_wp2_with (first
          | (go_at_call 10; (with_reducible refine (alive_any _).mono ?_); rintro e w1 ⟨rfl, hb⟩; have H1 := Lib.hid hb; clear hb)
          | (go_at_call 13; (with_reducible refine (V1 _).out.mono ?_); rintro e w2 ⟨rfl, hb⟩; have H2 := Lib.hid hb; clear hb)
          | (go_at_call 13; (with_reducible refine (V2 _).out.mono ?_); rintro e w3 ⟨rfl, hb⟩; have H3 := Lib.hid hb; clear hb))
        go_ret
        refine ⟨by first | rfl | (congr 1; show Value.bool _ = Value.bool true; congr 1; simp; omega), ?_⟩
        have z1 := H1.out.size
        have z2 := H2.out.size
        have z3 := H3.out.size
        simp at z2 z3
        exact ((H1.out.alloc z1 _).trans (H2.out.mono (by simp; omega))).trans (((Below.refl w.heap.size w2).alloc (by omega) _).trans (H3.out.mono (by simp; omega)))
      · omega
    · omega
  by_cases b46 : b = 46
  · subst b46
    rcases w1 with ⟨h1, rfl⟩ | ⟨h1, rfl⟩
    · omega
    · rcases w2 with ⟨h2, rfl⟩ | ⟨h2, rfl⟩
      · clear h1 h2
        go_enter Tryd.func9, Tryd.ntmps9
        go_wp2_with (first
          | (go_at_call 10; (with_reducible refine (alive_any _).mono ?_); rintro e w1 ⟨rfl, hb⟩; have H1 := Lib.hid hb; clear hb)
          | (go_at_call 13; (with_reducible refine (V1 _).out.mono ?_); rintro e w2 ⟨rfl, hb⟩; have H2 := Lib.hid hb; clear hb)
          | (go_at_call 13; (with_reducible refine (V2 _).out.mono ?_); rintro e w3 ⟨rfl, hb⟩; have H3 := Lib.hid hb; clear hb))
        go_ret
        refine ⟨by first | rfl | (congr 1; show Value.bool _ = Value.bool true; congr 1; simp; omega), ?_⟩
        have z1 := H1.out.size
        have z2 := H2.out.size
        have z3 := H3.out.size
        simp at z2 z3
        exact ((H1.out.alloc z1 _).trans (H2.out.mono (by simp; omega))).trans (((Below.refl w.heap.size w2).alloc (by omega) _).trans (H3.out.mono (by simp; omega)))
      · omega
  by_cases b95 : b = 95
  · subst b95
    rcases w1 with ⟨h1, rfl⟩ | ⟨h1, rfl⟩
    · rcases w2 with ⟨h2, rfl⟩ | ⟨h2, rfl⟩
      · clear h1 h2
        go_enter Tryd.func9, Tryd.ntmps9
        go_wp2_with (first
          | (go_at_call 10; (with_reducible refine (alive_any _).mono ?_); rintro e w1 ⟨rfl, hb⟩; have H1 := Lib.hid hb; clear hb)
          | (go_at_call 13; (with_reducible refine (V1 _).out.mono ?_); rintro e w2 ⟨rfl, hb⟩; have H2 := Lib.hid hb; clear hb)
          | (go_at_call 13; (with_reducible refine (V2 _).out.mono ?_); rintro e w3 ⟨rfl, hb⟩; have H3 := Lib.hid hb; clear hb))
        go_ret
        refine ⟨by first | rfl | (congr 1; show Value.bool _ = Value.bool true; congr 1; simp; omega), ?_⟩
        have z1 := H1.out.size
        have z2 := H2.out.size
        have z3 := H3.out.size
        simp at z2 z3
        exact ((H1.out.alloc z1 _).trans (H2.out.mono (by simp; omega))).trans (((Below.refl w.heap.size w2).alloc (by omega) _).trans (H3.out.mono (by simp; omega)))
      · omega
    · omega
  have n45 : (b == 45) = false := beq_eq_false_iff_ne.2 b45
  have n46 : (b == 46) = false := beq_eq_false_iff_ne.2 b46
  have n95 : (b == 95) = false := beq_eq_false_iff_ne.2 b95
  have cs : (48 ≤ b ∧ b ≤ 57) ∨ (97 ≤ b ∧ b ≤ 122) ∨ (b < 48) ∨ (58 ≤ b ∧ b < 97) ∨ (122 < b) := by omega
  rcases cs with ⟨h0, h1⟩ | ⟨h0, h1⟩ | h0 | ⟨h0, h1⟩ | h0
  · rcases w1 with ⟨h3, rfl⟩ | ⟨h3, rfl⟩
    · rcases w2 with ⟨h2, rfl⟩ | ⟨h2, rfl⟩
      · clear h3 h2
        go_enter Tryd.func9, Tryd.ntmps9
        go_wp2_with (first
          | (go_at_call 10; (with_reducible refine (alive_any _).mono ?_); rintro e w1 ⟨rfl, hb⟩; have H1 := Lib.hid hb; clear hb)
          | (go_at_call 13; (with_reducible refine (V1 _).out.mono ?_); rintro e w2 ⟨rfl, hb⟩; have H2 := Lib.hid hb; clear hb)
          | (go_at_call 13; (with_reducible refine (V2 _).out.mono ?_); rintro e w3 ⟨rfl, hb⟩; have H3 := Lib.hid hb; clear hb))
        go_ret
        refine ⟨by first | rfl | (congr 1; show Value.bool _ = Value.bool true; congr 1; simp; omega), ?_⟩
        have z1 := H1.out.size
        have z2 := H2.out.size
        have z3 := H3.out.size
        simp at z2 z3
        exact ((H1.out.alloc z1 _).trans (H2.out.mono (by simp; omega))).trans (((Below.refl w.heap.size w2).alloc (by omega) _).trans (H3.out.mono (by simp; omega)))
      · omega
    · omega
  · rcases w1 with ⟨h3, rfl⟩ | ⟨h3, rfl⟩
    · rcases w2 with ⟨h2, rfl⟩ | ⟨h2, rfl⟩
      · clear h3 h2
        go_enter Tryd.func9, Tryd.ntmps9
        go_wp2_with (first
          | (go_at_call 10; (with_reducible refine (alive_any _).mono ?_); rintro e w1 ⟨rfl, hb⟩; have H1 := Lib.hid hb; clear hb)
          | (go_at_call 13; (with_reducible refine (V1 _).out.mono ?_); rintro e w2 ⟨rfl, hb⟩; have H2 := Lib.hid hb; clear hb)
          | (go_at_call 13; (with_reducible refine (V2 _).out.mono ?_); rintro e w3 ⟨rfl, hb⟩; have H3 := Lib.hid hb; clear hb))
        go_ret
        refine ⟨by first | rfl | (congr 1; show Value.bool _ = Value.bool true; congr 1; simp; omega), ?_⟩
        have z1 := H1.out.size
        have z2 := H2.out.size
        have z3 := H3.out.size
        simp at z2 z3
        exact ((H1.out.alloc z1 _).trans (H2.out.mono (by simp; omega))).trans (((Below.refl w.heap.size w2).alloc (by omega) _).trans (H3.out.mono (by simp; omega)))
      · omega
    · omega
  all_goals
    rcases w1 with ⟨h3, rfl⟩ | ⟨h3, rfl⟩
    · omega
    · rcases w2 with ⟨h2, rfl⟩ | ⟨h2, rfl⟩
      · omega
      · clear h3 h2
        go_enter Tryd.func9, Tryd.ntmps9
        go_wp2_with (first
          | (go_at_call 10; (with_reducible refine (alive_any _).mono ?_); rintro e w1 ⟨rfl, hb⟩; have H1 := Lib.hid hb; clear hb)
          | (go_at_call 13; (with_reducible refine (V1 _).out.mono ?_); rintro e w2 ⟨rfl, hb⟩; have H2 := Lib.hid hb; clear hb)
          | (go_at_call 13; (with_reducible refine (V2 _).out.mono ?_); rintro e w3 ⟨rfl, hb⟩; have H3 := Lib.hid hb; clear hb))
        go_ret
        refine ⟨by first | rfl | (congr 1; show Value.bool _ = Value.bool true; congr 1; simp; omega), ?_⟩
        have z1 := H1.out.size
        have z2 := H2.out.size
        have z3 := H3.out.size
        simp at z2 z3
        exact ((H1.out.alloc z1 _).trans (H2.out.mono (by simp; omega))).trans (((Below.refl w.heap.size w2).alloc (by omega) _).trans (H3.out.mono (by simp; omega)))
theorem bytes_any (z : Int) (w : World) : Calls Tryd.prog 9 #[.int .i64 z] w fun e w' => e = .returned (.bool true) ∧ Below w.heap.size w w' := by
  have hw : IntKind.u8.wrap z = z % 256 := by simp [IntKind.wrap, IntKind.bits, IntKind.signed]
  have hr : 0 ≤ z % 256 ∧ z % 256 < 256 := by omega
  refine bytes_case z (z % 256) (UInt8.ofNat (z % 256).toNat) ?_ hw w
  rw [UInt8.toNat_ofNat']
  omega
end Go.Proofs.YtocaijklgomhiaaDoor
