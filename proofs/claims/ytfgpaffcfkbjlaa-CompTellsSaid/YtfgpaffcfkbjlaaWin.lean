/-
What is proved here: a number put into a window of a row of one's own, by a contract; and the look for its place.
-/
import Derived.Test.YtfgpaffcfkbjlaaApl
import Derived.Test.YtfgpaffcfkbjlaaShl
import Derived.Shelf.Slices.Empties
set_option linter.unusedSimpArgs false
set_option linter.unusedVariables false
namespace Go.Proofs.Ytfgpaffcfkbjlaa
open Go.Cmp Go.RowKit Go.Shelf
theorem lies_drew {w : World} {g : Nat} {t : TypeId} {cs : Array Value} (h : Lies w g t cs) : Lies w.drew g t cs := h
theorem lies_shape {w : World} {g : Nat} {t : TypeId} {cs : Array Value} (h : Lies w g t cs) : w.shape? g = some (t, cs.size) := by
  unfold Lies at h
  simp [World.shape?, h]
def wblk : Value → Option Nat
  | .slice (some a) _ _ => some a.block
  | _ => none
/-- numbers in a window of a row, room behind them -/
def Win (w : World) (B : Nat) (v : Value) (l : List Int) : Prop := (v = .slice none 0 0 ∧ l = []) ∨
  ∃ (g o c : Nat) (cur : Array Value), v = .slice (some ⟨g, o, none⟩) l.length c ∧ B ≤ g ∧ Lies w g 3 cur ∧ l.length ≤ c ∧ c ≤ maxLen ∧ o + c ≤ cur.size ∧ ∀ j, j < l.length → cur[o + j]? = (l.map iV)[j]?
theorem win_block {w : World} {B : Nat} {v : Value} {l : List Int} (h : Win w B v l) : ∀ k, wblk v = some k → B ≤ k ∧ k < w.heap.size := by
  rcases h with ⟨rfl, _⟩ | ⟨g, o, c, cur, rfl, hB, hL, _⟩
  · intro k hk; cases hk
  · intro k hk
    injection hk with hk
    subst hk
    exact ⟨hB, lies_lt hL⟩
theorem win_but {P : Nat → Prop} {w w' : World} {B : Nat} {v : Value} {l : List Int} (h : Win w B v l) (hb : But P w w') (hn : ∀ k, wblk v = some k → ¬ P k) : Win w' B v l := by
  rcases h with ⟨rfl, e⟩ | ⟨g, o, c, cur, rfl, hB, hL, h2⟩
  · exact .inl ⟨rfl, e⟩
  · exact .inr ⟨g, o, c, cur, rfl, hB, hb.lies hL (hn g rfl), h2⟩
def insAt (l : List Int) (i : Nat) (g : Int) : List Int := l.take i ++ g :: l.drop i
theorem insAt_len (l : List Int) (i : Nat) (g : Int) (h : i ≤ l.length) : (insAt l i g).length = l.length + 1 := by simp [insAt]; omega
theorem insAt_get (l : List Int) (i : Nat) (g : Int) (h : i ≤ l.length) (j : Nat) : ((insAt l i g).map iV)[j]? = if j < i then (l.map iV)[j]? else if j = i then some (iV g) else (l.map iV)[j - 1]? := by
  unfold insAt
  rw [List.map_append, List.map_cons, List.getElem?_append]
  by_cases h1 : j < i
  · rw [if_pos h1, if_pos (by simp; omega), List.map_take, List.getElem?_take_of_lt h1]
  · rw [if_neg h1, if_neg (by simp; omega)]
    by_cases h2 : j = i
    · subst h2
      rw [if_pos rfl, show j - (List.map iV (l.take j)).length = 0 by simp; omega]
      rfl
    · rw [if_neg h2, show j - (List.map iV (l.take i)).length = (j - 1 - i) + 1 by simp; omega, List.getElem?_cons_succ, List.map_drop, List.getElem?_drop, show i + (j - 1 - i) = j - 1 by omega]
theorem win_first {w : World} {B : Nat} {v : Value} {l : List Int} (h : Win w B v l) (h0 : 0 < l.length) : ∃ (g o c : Nat) (cur : Array Value), v = .slice (some ⟨g, o, none⟩) l.length c ∧ B ≤ g ∧ Lies w g 3 cur ∧ l.length ≤ c ∧ c ≤ maxLen ∧ o + c ≤ cur.size ∧ ∀ j, j < l.length → cur[o + j]? = (l.map iV)[j]? := by
  rcases h with ⟨rfl, rfl⟩ | h
  · cases h0
  · exact h
/-- what the insertion tells -/
def InsE (w : World) (B : Nat) (v : Value) (l' : List Int) (e : Ending) (w' : World) : Prop :=
  ∃ G o n c, e = .returned (.slice (some ⟨G, o, none⟩) n c) ∧ Win w' B (.slice (some ⟨G, o, none⟩) n c) l' ∧ But (fun k => some k = wblk v) w w' ∧ (wblk v = some G ∨ w.heap.size ≤ G)
theorem maxLen_eq : maxLen = 9223372036854775807 := by decide
theorem one_cell (z : Int) : ∀ v ∈ [iV z], v.oneCell' = true := fun v hv => by
  obtain rfl := List.mem_singleton.1 hv; rfl
theorem cells_one (l : List Int) : ∀ v ∈ l.map iV, v.oneCell' = true := fun v hv => by
  obtain ⟨z, _, rfl⟩ := List.mem_map.1 hv; rfl
theorem one_at {w : World} {vb : Nat} {g : Int} (hv : Lies w vb 3 #[iV g]) : ∀ j v, [iV g][j]? = some v → w.cell? ⟨vb, 0 + j, none⟩ = some v := fun j v hj => by
  match j, hj with
  | 0, hj => rw [lies_cell hv]; exact hj
  | j + 1, hj => simp at hj
theorem insert_any (B : Nat) (v : Value) (l : List Int) (i vb : Nat) (g : Int) (w : World) (h : Win w B v l) (hi : i ≤ l.length) (hl : l.length ≤ 100000) (hv : Lies w vb 3 #[iV g]) (hne : wblk v ≠ some vb) (hB : B ≤ w.heap.size) :
    Calls Try.prog 36 #[v, .int .i64 (i : Int), .slice (some ⟨vb, 0, none⟩) 1 1] w (InsE w B v (insAt l i g)) := by
  rcases Nat.lt_or_ge i l.length with h1 | h1
  · obtain ⟨b, o, c, cur, rfl, hBb, hL, hlc, hcm, hoc, hcells⟩ := win_first h (by omega)
    have hcs : ∀ j u, (l.map iV)[j]? = some u → w.cell? ⟨b, o + j, none⟩ = some u := fun j u hj => by
      have hjl : j < l.length := by have := (List.getElem?_eq_some_iff.1 hj).1; simpa using this
      rw [lies_cell hL, hcells j hjl]
      exact hj
    rcases Nat.lt_or_ge c (l.length + 1) with h2 | h2
    · have hcon := Any2.slices_Insert_int_grow insertI b o l.length c i vb 0 1 1 (l.map iV) [iV g] w h1 (by omega) hlc h2 (by omega) (by simp) rfl hcs (one_at hv) (cells_one l) (one_cell g)
      refine (show Calls Try.prog 36 _ _ _ from hcon).mono ?_
      rintro e w' ⟨rfl, rfl⟩
      have hcap := grownCap_ge w (l.length + 1) c 3
      have hcm2 := grownCap_le_maxLen w (l.length + 1) c 3 (by unfold maxLen; omega)
      obtain ⟨C, hC⟩ : ∃ C, C = grownCap w (l.length + 1) c 3 := ⟨_, rfl⟩
      rw [show grownCap w (l.length + 1) c (insertI_ren.t 3) = C from hC.symm]
      rw [← hC] at hcap hcm2
      have hz : (Value.int .i64 0).cells = #[.int .i64 0] := rfl
      have hzc : ∀ n, (Builtin.zeroCells #[Value.int .i64 0] n).size = n := fun n => by simp [Builtin.zeroCells]
      have L0 := lies_new w 3 (((l.map iV).take i).toArray ++ Builtin.zeroCells (Value.int .i64 0).cells (l.length + 1 - i) ++ Builtin.zeroCells (Value.int .i64 0).cells (C - (l.length + 1)))
      obtain ⟨c1, L1, s1, g1⟩ := lies_setCells w.heap.size 3 [iV g] i _ _ (lies_drew L0) (by simp [hz, hzc]; omega)
      obtain ⟨c2, L2, s2, g2⟩ := lies_setCells w.heap.size 3 ((l.map iV).drop i) (i + 1) _ _ (lies_drew L1) (by rw [s1]; simp [hz, hzc]; omega)
      refine ⟨_, _, _, _, rfl, .inr ⟨w.heap.size, 0, C, c2, by rw [insAt_len _ _ _ hi], hB, L2, by rw [insAt_len _ _ _ hi]; exact hcap, hcm2, by rw [s2, s1]; simp [hz, hzc]; omega, fun j hj => ?_⟩, ?_, .inr (Nat.le_refl _)⟩
      · rw [insAt_len _ _ _ hi] at hj
        rw [insAt_get _ _ _ hi, Nat.zero_add, g2 j]
        by_cases e1 : j < i
        · rw [if_neg (by omega), g1 j, if_neg (by omega), if_pos e1]
          rw [Array.getElem?_append_left (by simp [hz, hzc]; omega), Array.getElem?_append_left (by simp; omega)]
          rw [List.getElem?_toArray, List.getElem?_take_of_lt e1]
        · by_cases e2 : j = i
          · subst e2
            rw [if_neg (by omega), g1 j, if_pos (by simp), if_neg e1, if_pos rfl, Nat.sub_self]
            rfl
          · rw [if_pos (by simp; omega), if_neg e1, if_neg e2, List.getElem?_drop, show i + (j - (i + 1)) = j - 1 by omega]
      · have b1 := ((But.refl (fun k => some k = wblk (.slice (some ⟨b, o, none⟩) l.length c)) w).alloc (.cells (((l.map iV).take i).toArray ++ Builtin.zeroCells (Value.int .i64 0).cells (l.length + 1 - i) ++ Builtin.zeroCells (Value.int .i64 0).cells (C - (l.length + 1))) 3)).drew
        exact b1.step ((((but_setCells w.heap.size [iV g] i _)).drew).trans (but_setCells w.heap.size _ _ _)) (fun k hk e => by omega)
    · have hcon := Any2.slices_Insert_int_shift insertI b o l.length c i vb 0 1 1 (l.map iV) [iV g] w h1 (by omega) h2 (by rw [← maxLen_eq]; exact hcm) (fun e => hne (by rw [e]; rfl)) (by simp) rfl hcs (fun j hj => by rw [lies_cell hL, Array.getElem?_eq_getElem (by omega)]; rfl) (fun j _ => lies_free hL _) (one_at hv) (cells_one l) (one_cell g) 3 3 1 cur.size (lies_shape hv) (lies_shape hL) (by omega) (lies_free hv _) (lies_free hv _)
      refine (show Calls Try.prog 36 _ _ _ from hcon).mono ?_
      rintro e w' ⟨rfl, rfl⟩
      obtain ⟨c1, L1, s1, g1⟩ := lies_setCells b 3 ((l.map iV).drop i) (o + (i + 1)) _ _ (lies_drew hL) (by simp; omega)
      obtain ⟨c2, L2, s2, g2⟩ := lies_setCells b 3 [iV g] (o + i) _ _ L1 (by rw [s1]; simp; omega)
      refine ⟨_, _, _, _, rfl, .inr ⟨b, o, c, c2, by rw [insAt_len _ _ _ hi], hBb, L2, by rw [insAt_len _ _ _ hi]; exact h2, hcm, by rw [s2, s1]; exact hoc, fun j hj => ?_⟩, ?_, .inl rfl⟩
      · rw [insAt_len _ _ _ hi] at hj
        rw [insAt_get _ _ _ hi, g2 (o + j)]
        by_cases e1 : j < i
        · rw [if_neg (by omega), g1 (o + j), if_neg (by omega), if_pos e1]
          exact hcells j (by omega)
        · by_cases e2 : j = i
          · subst e2
            rw [if_pos (by simp), if_neg e1, if_pos rfl, Nat.sub_self]
            rfl
          · rw [if_neg (by simp; omega), g1 (o + j), if_pos (by simp; omega), if_neg e1, if_neg e2, List.getElem?_drop, show i + (o + j - (o + (i + 1))) = j - 1 by omega]
      · exact (((But.refl (· = b) w).drew.trans (but_setCells b _ _ _)).trans (but_setCells b _ _ _)).mono (fun k _ hk => by subst hk; rfl)
  · obtain rfl : i = l.length := by omega
    have e0 : insAt l l.length g = l ++ [g] := by simp [insAt]
    by_cases hroom : ∃ (b o c : Nat) (cur : Array Value), v = .slice (some ⟨b, o, none⟩) l.length c ∧ B ≤ b ∧ Lies w b 3 cur ∧ l.length + 1 ≤ c ∧ c ≤ maxLen ∧ o + c ≤ cur.size ∧ ∀ j, j < l.length → cur[o + j]? = (l.map iV)[j]?
    · obtain ⟨b, o, c, cur, rfl, hBb, hL, hlc, hcm, hoc, hcells⟩ := hroom
      have hcon := Any2.slices_Insert_int_end_room insertI b o l.length c vb 0 1 1 [iV g] w (by omega) hlc (by rw [← maxLen_eq]; exact hcm) rfl (fun j hj => by rw [lies_cell hL, Array.getElem?_eq_getElem (by omega)]; rfl) (fun j _ => lies_free hL _) (one_at hv) (one_cell g)
      refine (show Calls Try.prog 36 _ _ _ from hcon).mono ?_
      rintro e w' ⟨rfl, rfl⟩
      obtain ⟨c1, L1, s1, g1⟩ := lies_setCells b 3 [iV g] (o + l.length) _ _ hL (by simp; omega)
      refine ⟨_, _, _, _, rfl, .inr ⟨b, o, c, c1, by rw [insAt_len _ _ _ hi], hBb, L1, by rw [insAt_len _ _ _ hi]; exact hlc, hcm, by rw [s1]; exact hoc, fun j hj => ?_⟩, ?_, .inl rfl⟩
      · rw [insAt_len _ _ _ hi] at hj
        rw [insAt_get _ _ _ hi, g1 (o + j)]
        by_cases e1 : j < l.length
        · rw [if_neg (by omega), if_pos e1]
          exact hcells j e1
        · obtain rfl : j = l.length := by omega
          rw [if_pos (by simp), if_neg e1, if_pos rfl, Nat.sub_self]
          rfl
      · exact (but_setCells b _ _ _).mono (fun k _ hk => by subst hk; rfl)
    · obtain ⟨base, c, rfl, hlc, hc1, hnil, hcs⟩ : ∃ (base : Option Addr) (c : Nat), v = .slice base l.length c ∧ l.length ≤ c ∧ c < l.length + 1 ∧ (base = none → l.length = 0) ∧ ∀ a, base = some a → ∀ j u, (l.map iV)[j]? = some u → w.cell? (a.add j) = some u := by
        rcases h with ⟨rfl, rfl⟩ | ⟨b, o, c, cur, rfl, hBb, hL, hlc, hcm, hoc, hcells⟩
        · exact ⟨none, 0, rfl, Nat.le_refl _, by simp, fun _ => rfl, fun a ha => by cases ha⟩
        · refine ⟨_, c, rfl, hlc, ?_, (fun h => by cases h), fun a ha j u hj => ?_⟩
          · rcases Nat.lt_or_ge c (l.length + 1) with h2 | h2
            · exact h2
            · exact absurd ⟨b, o, c, cur, rfl, hBb, hL, h2, hcm, hoc, hcells⟩ hroom
          · injection ha with ha
            subst ha
            have hjl : j < l.length := by have := (List.getElem?_eq_some_iff.1 hj).1; simpa using this
            rw [Addr.add_mid, lies_cell hL, hcells j hjl]
            exact hj
      have hcon := Any2.slices_Insert_int_end_grow insertI base l.length c vb 0 1 1 (l.map iV) [iV g] w (by omega) hlc hc1 (by omega) (by simp) rfl hnil hcs (one_at hv) (one_cell g)
      refine (show Calls Try.prog 36 _ _ _ from hcon).mono ?_
      rintro e w' ⟨rfl, rfl⟩
      have hcap := grownCap_ge w (l.length + 1) c 3
      have hcm2 := grownCap_le_maxLen w (l.length + 1) c 3 (by unfold maxLen; omega)
      obtain ⟨C, hC⟩ : ∃ C, C = grownCap w (l.length + 1) c 3 := ⟨_, rfl⟩
      rw [show grownCap w (l.length + 1) c (insertI_ren.t 3) = C from hC.symm]
      rw [← hC] at hcap hcm2
      have hz : (Value.int .i64 0).cells = #[.int .i64 0] := rfl
      have hzc : ∀ n, (Builtin.zeroCells #[Value.int .i64 0] n).size = n := fun n => by simp [Builtin.zeroCells]
      refine ⟨_, _, _, _, rfl, .inr ⟨w.heap.size, 0, C, _, by rw [insAt_len _ _ _ hi], hB, lies_new w.drew 3 _, by rw [insAt_len _ _ _ hi]; exact hcap, hcm2, by simp [hz, hzc]; omega, fun j hj => ?_⟩, (But.refl _ w).drew.alloc _, .inr (Nat.le_refl _)⟩
      rw [insAt_len _ _ _ hi] at hj
      rw [e0, Nat.zero_add, Array.getElem?_append_left (by simp; omega), List.getElem?_toArray, List.map_append]
      rfl
end Go.Proofs.Ytfgpaffcfkbjlaa
