/- A scope with several labels: the run may jump to a label that stands ahead or behind. At a jump either what holds at that label is shown, with a measure that has gone down since the last such label, or the code from the label on is walked in place. Plain lemmas; no conditions but those that each names. -/
import Derived.Scope
import Derived.WalkMore
set_option linter.unusedVariables false
set_option linter.unusedSimpArgs false
namespace Go.Proofs.YtdnbcgdpaoclkaaDoor
open Go

/-- As Q; by a goto: what holds at that label, or the code from the label on does it, in at most n such jumps. -/
def hops (P : Program) (c : Code) (J : Nat → Act → World → Prop) (Q : Exit → Act → World → Prop) : Nat → Exit → Act → World → Prop
  | n, .goto l, a, w => J l a w ∨ (match n with | 0 => False | m + 1 => ∃ rest, findLabel c l = some rest ∧ rest.wp P (hops P c J Q m) a w)
  | _, e, a, w => Q e a w

section
variable {P : Program} {c : Code} {J : Nat → Act → World → Prop} {Q : Exit → Act → World → Prop} {a : Act} {w : World}
@[go_sem] theorem hops_normal (n : Nat) : hops P c J Q n .normal a w = Q .normal a w := by cases n <;> rfl
@[go_sem] theorem hops_exit (n id : Nat) : hops P c J Q n (.exit id) a w = Q (.exit id) a w := by cases n <;> rfl
@[go_sem] theorem hops_ret (n : Nat) : hops P c J Q n .ret a w = Q .ret a w := by cases n <;> rfl
@[go_sem] theorem hops_panic (n : Nat) (ch : List PanicEntry) : hops P c J Q n (.panic ch) a w = Q (.panic ch) a w := by cases n <;> rfl
theorem hop_to {n l : Nat} {rest : Code} (hf : findLabel c l = some rest) (h : rest.wp P (hops P c J Q n) a w) : hops P c J Q (n + 1) (.goto l) a w := Or.inr ⟨rest, hf, h⟩
theorem hop_at {n l : Nat} (h : J l a w) : hops P c J Q n (.goto l) a w := by cases n <;> exact Or.inl h

theorem wp_scope_hops (n : Nat) (J : Nat → Act → World → Prop) (μ : Act → World → Nat)
    (first : c.wp P (hops P c J Q n) a w)
    (pass : ∀ l a w, J l a w → ∃ rest, findLabel c l = some rest ∧ rest.wp P (hops P c (fun l' a' w' => J l' a' w' ∧ μ a' w' < μ a w) Q n) a w) : (Code.scope c).wp P Q a w := by
  intro b k cs
  have gt : ∀ l rest, findLabel c l = some rest → gotoIn l (.inScope c :: k) = some (.code rest :: .inScope c :: k) := fun l rest hf => by simp [gotoIn, hf]
  -- from a run that has come out of a piece of the scope, by an exit that 'hops' allows, on to the scope's end
  have out : ∀ (K : Nat → Act → World → Prop), (∀ l a w, K l a w → ∃ e a' w' rest, findLabel c l = some rest ∧ Q e a' w' ∧ Arrives P (lone (b.at a (.code rest :: .inScope c :: k)) cs w) b k cs e a' w') →
      ∀ m e a₁ w₁ s, hops P c K Q m e a₁ w₁ → Arrives P s b (.inScope c :: k) cs e a₁ w₁ → ∃ e a' w', Q e a' w' ∧ Arrives P s b k cs e a' w' := by
    intro K hK m
    induction m with
    | zero =>
      intro e a₁ w₁ s hq harr
      cases e with
      | normal => exact ⟨.normal, a₁, w₁, hq, Steps.trans harr (.one step_inScope)⟩
      | exit id => exact ⟨.exit id, a₁, w₁, hq, fun k' hk => harr k' (by simp [exitTo, hk])⟩
      | goto l =>
        rcases hq with hJ | hF
        · obtain ⟨e₂, a₂, w₂, rest, hf, hq₂, harr₂⟩ := hK l a₁ w₁ hJ
          exact ⟨e₂, a₂, w₂, hq₂, .of_steps (harr _ (gt l rest hf)) harr₂⟩
        · exact hF.elim
      | ret => exact ⟨_, a₁, w₁, hq, harr⟩
      | panic ch => exact ⟨_, a₁, w₁, hq, harr⟩
      | outgrown => exact ⟨_, a₁, w₁, hq, harr⟩
    | succ m ih =>
      intro e a₁ w₁ s hq harr
      cases e with
      | normal => exact ⟨.normal, a₁, w₁, hq, Steps.trans harr (.one step_inScope)⟩
      | exit id => exact ⟨.exit id, a₁, w₁, hq, fun k' hk => harr k' (by simp [exitTo, hk])⟩
      | goto l =>
        rcases hq with hJ | ⟨rest, hf, hw⟩
        · obtain ⟨e₂, a₂, w₂, rest, hf, hq₂, harr₂⟩ := hK l a₁ w₁ hJ
          exact ⟨e₂, a₂, w₂, hq₂, .of_steps (harr _ (gt l rest hf)) harr₂⟩
        · obtain ⟨e₂, a₂, w₂, hq₂, harr₂⟩ := hw b (.inScope c :: k) cs
          obtain ⟨e₃, a₃, w₃, hq₃, harr₃⟩ := ih e₂ a₂ w₂ _ hq₂ harr₂
          exact ⟨e₃, a₃, w₃, hq₃, .of_steps (harr _ (gt l rest hf)) harr₃⟩
      | ret => exact ⟨_, a₁, w₁, hq, harr⟩
      | panic ch => exact ⟨_, a₁, w₁, hq, harr⟩
      | outgrown => exact ⟨_, a₁, w₁, hq, harr⟩
  have key : ∀ x l a w, μ a w = x → J l a w → ∃ e a' w' rest, findLabel c l = some rest ∧ Q e a' w' ∧ Arrives P (lone (b.at a (.code rest :: .inScope c :: k)) cs w) b k cs e a' w' := by
    intro x
    induction x using Nat.strongRecOn with
    | _ x ih =>
      intro l a w hx hJ
      obtain ⟨rest, hf, hw⟩ := pass l a w hJ
      obtain ⟨e₁, a₁, w₁, hq, harr⟩ := hw b (.inScope c :: k) cs
      obtain ⟨e₂, a₂, w₂, hq₂, harr₂⟩ := out _ (fun l' a' w' ⟨hJ', hlt⟩ => ih _ (by omega) l' a' w' rfl hJ') n e₁ a₁ w₁ _ hq harr
      exact ⟨e₂, a₂, w₂, rest, hf, hq₂, harr₂⟩
  obtain ⟨e₁, a₁, w₁, hq, harr⟩ := first b (.inScope c :: k) cs
  obtain ⟨e₂, a₂, w₂, hq₂, harr₂⟩ := out J (fun l a w hJ => key _ l a w rfl hJ) n e₁ a₁ w₁ _ hq harr
  exact ⟨e₂, a₂, w₂, hq₂, .of_steps (.one step_scope) harr₂⟩

/-- Jumps ahead alone. -/
theorem wp_scope_ahead (n : Nat) (h : c.wp P (hops P c (fun _ _ _ => False) Q n) a w) : (Code.scope c).wp P Q a w :=
  wp_scope_hops n _ (fun _ _ => 0) h fun _ _ _ hF => hF.elim
end
end Go.Proofs.YtdnbcgdpaoclkaaDoor
