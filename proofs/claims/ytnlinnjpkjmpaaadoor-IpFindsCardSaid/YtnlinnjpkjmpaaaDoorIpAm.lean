/- base.Among of 19. No conditions but those that each names. -/
import Derived.Test.YtnlinnjpkjmpaaaDoorCon
set_option linter.unusedVariables false
set_option linter.unusedSimpArgs false
set_option maxRecDepth 100000
namespace Go.Proofs.YtnlinnjpkjmpaaaDoor.Ex
open Go Go.RowKit
noncomputable def amongW (T : Int → Int) : Ent := fun _ args h n => match args with
  | [.int .i64 x, .int .i64 y] => some (⟨.int .i64 (T x), h, n, []⟩, y = 19 ∧ -9223372036854775808 ≤ x ∧ x ≤ 9223372036854775807)
  | _ => none
theorem among_det (T : Int → Int) : EntDet (amongW T) := det_of fun _ _ _ _ _ => rfl
def among19 (x : Int) : Int := IntKind.wrap .i64 (Int.tmod (IntKind.wrap .u64 x) 19)
theorem among19_range {x : Int} : 0 ≤ among19 x ∧ among19 x ≤ 18 := by
  unfold among19
  have h0 : 0 ≤ IntKind.wrap .u64 x := by simp [IntKind.wrap, IntKind.signed, IntKind.bits]; omega
  simp only [IntKind.wrap_i64]
  rw [Int.tmod_eq_emod_of_nonneg (by omega)]
  omega
theorem among_ok {ε : Nat → Option Value} {base : Base} (hε : ∀ i V, ε i = some V → one V = true) : EntOk Tryd.prog ε base 27 (amongW among19) := by
  intro j args h n r p e hp
  unfold amongW at e
  split at e
  case h_2 => cases e
  rename_i x y
  cases e
  obtain ⟨rfl, hx⟩ := hp
  have E : Env Tryd.prog ε base [] := env0 hε
  have b1 : Tryd.prog.funcs[27]? = some Tryd.f27 := by kernel_rfl
  have b2 : Tryd.f27.body = some (bodyOf 27) := by kernel_rfl
  have b3 : 2 ≤ Tryd.f27.ntmps := of_decide_eq_true (by kernel_rfl)
  refine callOk_none (args0 := [.int .i64 x, .int .i64 19]) b1 b2 b3 ⟨2, rfl⟩ (Nat.le_refl n) (fun _ h => by cases h) (fun _ _ => rfl) ?_
  exact leads_end E 40 100000 [] (p := []) (by kernel_rfl) (by kernel_rfl) trivial (Fin.val (vs := [Value.int IntKind.i64 (IntKind.wrap IntKind.i64 (Int.tmod (IntKind.wrap IntKind.u64 x) 19))]) (by kernel_rfl) (.inl rfl) ⟨2, by rfl⟩)
end Go.Proofs.YtnlinnjpkjmpaaaDoor.Ex
