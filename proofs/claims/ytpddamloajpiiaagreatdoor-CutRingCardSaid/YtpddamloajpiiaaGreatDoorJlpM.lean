/-
What is proved here: a scope in which the run jumps to several labels, with one measure of all that is in hand. Of whatever program.
-/
import Derived.Test.YtpddamloajpiiaaGreatDoorMa2
set_option linter.unusedVariables false
namespace Go.Word
section
variable {P : Program} {Q : Exit → Act → World → Prop} {a : Act} {w : World}
theorem wp_scope_labels {c : Code} (J : Nat → Act → World → Prop) (μ : Nat → Act → World → Nat)
    (pass : ∀ l a w, J l a w → ∃ rest, findLabel c l = some (.seq .skip rest) ∧ rest.wp P (Exit.jumps (fun l' a' w' => J l' a' w' ∧ μ l' a' w' < μ l a w) Q) a w)
    (first : (∀ l rest a w, findLabel c l = some (.seq .skip rest) → J l a w → rest.wp P (Exit.jumps J Q) a w) → c.wp P (Exit.jumps J Q) a w) : (Code.scope c).wp P Q a w :=
  wp_scope_meas (fun n l a w => J l a w ∧ μ l a w = n) (fun n l a w ⟨h, e⟩ => by
    obtain ⟨rest, hr, hp⟩ := pass l a w h
    exact ⟨rest, hr, jumps_mono (fun l' a' w' h' => ⟨_, by rw [← e]; exact h'.2, h'.1, rfl⟩) hp⟩)
    (fun hf => jumps_mono (fun l' a' w' h' => ⟨_, h', rfl⟩) (first fun l rest a w hf' hJ => jumps_mono (fun l' a' w' ⟨_, h', _⟩ => h') (hf _ l rest a w hf' ⟨hJ, rfl⟩)))
end
end Go.Word
