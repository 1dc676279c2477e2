/- seg's example works. Conditions: the letters are there at first. -/
import Derived.Test.YtefnfbidphmgoaaDoorSegG
set_option linter.unusedVariables false
set_option linter.unusedSimpArgs false
set_option maxRecDepth 100000
set_option maxHeartbeats 4000000
namespace Go.Proofs.YtefnfbidphmgoaaDoor.Ex
open Go Go.RowKit
theorem works_ok {ε : Nat → Option Value} {base : Base} (hε : ∀ i V, ε i = some V → one V = true) (hB : LetB base) : EntOk Tryd.prog ε base 13 worksV := by
  intro j args h n r p e hp
  unfold worksV at e
  split at e
  case h_2 => cases e
  cases e
  have E : Env Tryd.prog ε base [(33, flagsV)] := ⟨hε, noCount_of hN, hmix, specs1 (flags_ok hε hB) specs0, dets1 flags_det dets0⟩
  have b1 : Tryd.prog.funcs[13]? = some Tryd.f13 := by kernel_rfl
  have b2 : Tryd.f13.body = some (bodyOf 13) := by kernel_rfl
  have b3 : 0 ≤ Tryd.f13.ntmps := of_decide_eq_true (by kernel_rfl)
  refine callOk_none (args0 := []) b1 b2 b3 ⟨3, rfl⟩ (Nat.le_refl n) (fun _ h => by cases h) (fun _ _ => rfl) ?_
  refine leads_end E 40 100000 [] (p := [(((plainP (some 0) 0)) ∧ ((roomP (some 0) 0 0)) ∧ ((fitP 0 0 0)) ∧ ((NoIds (rep (cellsOf (Value.int IntKind.u8 0)) 0))) ∧ ([] : List (Value × Value × Nat)) = ([])) ∧ (2 : Int) = (2)]) (by kernel_rfl) (by kernel_rfl) ⟨⟨⟨?_, ⟨?_, ⟨?_, ⟨?_, ?_⟩⟩⟩⟩, ?_⟩, trivial⟩ (Fin.val (vs := [Value.bool true]) (by kernel_rfl) (.inl rfl) ⟨2, rfl⟩) <;> (first | trivial | rfl | (simp only [roomP]; done) | (unfold fitP; right; simp; done) | exact .nil | exact .all rfl | (unfold fitP; left; rfl))
end Go.Proofs.YtefnfbidphmgoaaDoor.Ex
