/- The chapter's example, for the reckoner. Conditions: the table of digits lies there at first. -/
import Derived.Test.YtdnbcgdpaoclkaaDoorEthLaw
import Derived.Test.YtdnbcgdpaoclkaaDoorCon
set_option linter.unusedVariables false
set_option linter.unusedSimpArgs false
set_option maxRecDepth 100000
namespace Go.Proofs.YtdnbcgdpaoclkaaDoor.Ex
open Go Go.RowKit
/-- The digits lie there from the first. -/
def DigB (base : Base) : Prop := 0 < base.n ∧ ∀ w : World, w.heap[0]? = base.old 0 → Digs w
theorem digs_of {w : World} (h : ∃ el fr, w.heap[0]? = some (.cells #[.int .u8 48, .int .u8 49, .int .u8 50, .int .u8 51, .int .u8 52, .int .u8 53, .int .u8 54, .int .u8 55, .int .u8 56, .int .u8 57, .int .u8 97, .int .u8 98, .int .u8 99, .int .u8 100, .int .u8 101, .int .u8 102] el fr)) : Digs w := by
  obtain ⟨el, fr, h⟩ := h
  constructor <;> simp only [World.cell?, h] <;> rfl
theorem eworks_ok {ε : Nat → Option Value} {base : Base} (hD : DigB base) : EntOk Tryd.prog ε base 12 worksV := by
  intro j args h n r p e hp
  unfold worksV at e
  split at e
  · cases e
    intro ρ w ARGS ha hm hf hb
    cases ARGS with
    | cons _ _ => exact ha.elim
    | nil => exact (works_any w (hD.2 w (hm.old 0 hD.1))).mono fun e w' ⟨he, hbl⟩ => ⟨_, he, ρ, Step.below hb hm hbl, Rl_closed (show closed DC (Value.bool true) = true from rfl)⟩
  · cases e
end Go.Proofs.YtdnbcgdpaoclkaaDoor.Ex
