/- What icmp answers, as a contract. No conditions but those that each names. -/
import Derived.Test.YtgdkgllhblfiiaaIcmpH
set_option linter.unusedVariables false
set_option linter.unusedSimpArgs false
namespace Go.Proofs.Ytgdkgllhblfiiaa.Ex
open Go Go.RowKit
theorem answer_ok {ε : Nat → Option Value} {base : Base} {S : Abs} (O : AbsOk S) (hR : ∀ L, Byt L → 0 ≤ S.rest L ∧ S.rest L < 4294967296) (E : Env Try.prog ε base [(10, ireadW S), (8, ibuildW S)]) : EntOk Try.prog ε base 16 (answerW S) := by
  intro j args h n r p e hp
  cases j with
  | zero => exact answer_good O hR E args h n r p e hp
  | succ j => exact answer_bad E args h n r p e hp
theorem ranswer_ok {ε : Nat → Option Value} {base : Base} {S : Abs} (O : AbsOk S) (hR : ∀ L, Byt L → 0 ≤ S.rest L ∧ S.rest L < 4294967296) (E : Env Try.prog ε base [(12, ireadW S), (9, ibuildW S)]) : EntOk Try.prog ε base 17 (answerW S) := by
  intro j args h n r p e hp
  cases j with
  | zero => exact ranswer_good O hR E args h n r p e hp
  | succ j => exact ranswer_bad E args h n r p e hp
theorem answer_det (S : Abs) : EntDet (answerW S) := fun args h n j j' r r' p p' e hp e' hp' => by
  unfold answerW at e e'
  split at e
  case h_2 => cases e
  rename_i me id at' life kind whole more frm to' x
  split at e
  case h_2 => cases e
  rename_i len L q tl hw ht
  simp only [hw, ht] at e'
  rcases j with _ | j <;> rcases j' with _ | j' <;> simp only [Option.some.injEq, Prod.mk.injEq] at e e' <;> obtain ⟨rfl, rfl⟩ := e <;> obtain ⟨rfl, rfl⟩ := e'
  · rfl
  · exact absurd hp.2.2.2 hp'.2.2.2.2
  · exact absurd hp'.2.2.2 hp.2.2.2.2
  · rfl
theorem rest_range {L : List Value} (h : Byt L) : 0 ≤ S0.rest L ∧ S0.rest L < 4294967296 := by
  have h4 := h.rangeAt 4
  have h5 := h.rangeAt 5
  have h6 := h.rangeAt 6
  have h7 := h.rangeAt 7
  show 0 ≤ restOf L ∧ restOf L < 4294967296
  unfold restOf
  omega
end Go.Proofs.Ytgdkgllhblfiiaa.Ex
