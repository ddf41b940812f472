/-
What is proved here: a scope in which the run jumps to several labels: what holds at each jump, and a measure that each jump lowers. Of whatever program.
-/
import Derived.Scope
import Derived.WalkKit
import Derived.WalkMore
namespace Go.Word

/-- As Q; by a goto to label l: J l. -/
def Exit.jumps (J : Nat → Act → World → Prop) (Q : Exit → Act → World → Prop) : Exit → Act → World → Prop
  | .goto l, a, w => J l a w
  | e, a, w => Q e a w

section
variable {P : Program} {a : Act} {w : World} {Q : Exit → Act → World → Prop}
theorem jumps_mono {J J' : Nat → Act → World → Prop} (h : ∀ l a w, J l a w → J' l a w) {c : Code} (hc : c.wp P (Exit.jumps J Q) a w) : c.wp P (Exit.jumps J' Q) a w := by
  intro b k cs
  obtain ⟨e, a₁, w₁, hq, harr⟩ := hc b k cs
  refine ⟨e, a₁, w₁, ?_, harr⟩
  cases e with
  | goto l => exact h _ _ _ hq
  | _ => exact hq

theorem wp_scope_meas {c : Code} (J : Nat → Nat → Act → World → Prop)
    (pass : ∀ n l a w, J n l a w → ∃ rest, findLabel c l = some (.seq .skip rest) ∧ rest.wp P (Exit.jumps (fun l' a' w' => ∃ n', n' < n ∧ J n' l' a' w') Q) a w)
    (first : (∀ n l rest a w, findLabel c l = some (.seq .skip rest) → J n l a w → rest.wp P (Exit.jumps (fun l' a' w' => ∃ n', J n' l' a' w') Q) a w) → c.wp P (Exit.jumps (fun l' a' w' => ∃ n', J n' l' a' w') Q) a w) : (Code.scope c).wp P Q a w := by
  intro b k cs
  have key : ∀ n l a w rest, findLabel c l = some rest → J n l a w → ∃ e a' w', Q e a' w' ∧ Arrives P (lone (b.at a (.code rest :: .inScope c :: k)) cs w) b k cs e a' w' := by
    intro n
    induction n using Nat.strongRecOn with
    | _ n ih =>
      intro l a w rest hf hJ
      obtain ⟨rest', hf', hp⟩ := pass n l a w hJ
      obtain rfl : rest = .seq .skip rest' := Option.some.inj (hf.symm.trans hf')
      obtain ⟨e, a₁, w₁, hq, harr⟩ := (wp_seq (wp_skip (Q := Exit.then _ _) hp)) b (.inScope c :: k) cs
      cases e with
      | normal => exact ⟨.normal, a₁, w₁, hq, Steps.trans harr (.one step_inScope)⟩
      | exit id => exact ⟨.exit id, a₁, w₁, hq, fun k' hk => harr k' (by simp [exitTo, hk])⟩
      | goto l' =>
        obtain ⟨n', hlt, hJ'⟩ := hq
        obtain ⟨rest₂, hf₂, _⟩ := pass n' l' a₁ w₁ hJ'
        obtain ⟨e₂, a₂, w₂, hq₂, harr₂⟩ := ih _ hlt l' a₁ w₁ _ hf₂ hJ'
        have hg : gotoIn l' (.inScope c :: k) = some (.code (.seq .skip rest₂) :: .inScope c :: k) := by simp [gotoIn, hf₂]
        exact ⟨e₂, a₂, w₂, hq₂, .of_steps (harr _ hg) harr₂⟩
      | ret => exact ⟨_, a₁, w₁, hq, harr⟩
      | panic ch => exact ⟨_, a₁, w₁, hq, harr⟩
      | outgrown => exact ⟨_, a₁, w₁, hq, harr⟩
  obtain ⟨e, a₁, w₁, hq, harr⟩ := first (fun n l rest a w hf hJ => by
    obtain ⟨rest', hf', hp⟩ := pass n l a w hJ
    obtain rfl : rest = rest' := by
      have := Option.some.inj (hf.symm.trans hf')
      injection this
    exact jumps_mono (fun _ _ _ ⟨n', _, h⟩ => ⟨n', h⟩) hp) b (.inScope c :: k) cs
  cases e with
  | normal => exact ⟨.normal, a₁, w₁, hq, .head step_scope (Steps.trans harr (.one step_inScope))⟩
  | exit id => exact ⟨.exit id, a₁, w₁, hq, fun k' hk => .head step_scope (harr k' (by simp [exitTo, hk]))⟩
  | goto l' =>
    obtain ⟨n', hJ'⟩ := hq
    obtain ⟨rest₂, hf₂, _⟩ := pass n' l' a₁ w₁ hJ'
    obtain ⟨e₂, a₂, w₂, hq₂, harr₂⟩ := key n' l' a₁ w₁ _ hf₂ hJ'
    have hg : gotoIn l' (.inScope c :: k) = some (.code (.seq .skip rest₂) :: .inScope c :: k) := by simp [gotoIn, hf₂]
    exact ⟨e₂, a₂, w₂, hq₂, .of_steps (.head step_scope (harr _ hg)) harr₂⟩
  | ret => exact ⟨_, a₁, w₁, hq, .of_steps (.one step_scope) harr⟩
  | panic ch => exact ⟨_, a₁, w₁, hq, .of_steps (.one step_scope) harr⟩
  | outgrown => exact ⟨_, a₁, w₁, hq, .of_steps (.one step_scope) harr⟩
theorem wp_scope_meas2 {c : Code} (J : Nat → Nat → Act → World → Prop)
    (pass : ∀ n, (∀ n' l rest a w, n' < n → findLabel c l = some (.seq .skip rest) → J n' l a w → rest.wp P (Exit.jumps (fun l' a' w' => ∃ n'', n'' < n ∧ J n'' l' a' w') Q) a w) → ∀ l a w, J n l a w → ∃ rest, findLabel c l = some (.seq .skip rest) ∧ rest.wp P (Exit.jumps (fun l' a' w' => ∃ n', n' < n ∧ J n' l' a' w') Q) a w)
    (first : (∀ n l rest a w, findLabel c l = some (.seq .skip rest) → J n l a w → rest.wp P (Exit.jumps (fun l' a' w' => ∃ n', J n' l' a' w') Q) a w) → c.wp P (Exit.jumps (fun l' a' w' => ∃ n', J n' l' a' w') Q) a w) : (Code.scope c).wp P Q a w := by
  refine wp_scope_meas J (fun n => ?_) first
  induction n using Nat.strongRecOn with
  | _ n ih =>
    refine pass n (fun n' l rest a w hlt hf hJ => ?_)
    obtain ⟨rest', hf', hp⟩ := ih n' hlt l a w hJ
    obtain rfl : rest = rest' := by
      have := Option.some.inj (hf.symm.trans hf')
      injection this
    exact jumps_mono (fun _ _ _ ⟨n'', h, h2⟩ => ⟨n'', Nat.lt_trans h hlt, h2⟩) hp
end
end Go.Word
