/- base.Among of a number; here of 13. No conditions but those that each names. -/
import Derived.Test.YtnnnoomokbiobaaCon
set_option linter.unusedVariables false
set_option linter.unusedSimpArgs false
set_option maxRecDepth 100000
namespace Go.Proofs.Ytnnnoomokbiobaa.Ex
open Go Go.RowKit
theorem bool_cases (b : Bool) : b = false ∨ b = true := by cases b <;> simp
noncomputable def amongW (n : Int) (T : Int → Int) : Ent := fun _ args h nx => match args with
  | [.int .i64 x, .int .i64 y] => some (⟨.int .i64 (T x), h, nx, []⟩, y = n ∧ -9223372036854775808 ≤ x ∧ x ≤ 9223372036854775807)
  | _ => none
theorem among_det (n : Int) (T : Int → Int) : EntDet (amongW n T) := det_of fun _ _ _ _ _ => rfl
def amongN (n x : Int) : Int := IntKind.wrap .i64 (Int.tmod (IntKind.wrap .u64 x) n)
theorem among_ok13 {ε : Nat → Option Value} {base : Base} (hε : ∀ i V, ε i = some V → one V = true) : EntOk Try.prog ε base 20 (amongW 13 (amongN 13)) := by
  intro j args h n r p e hp
  unfold amongW at e
  split at e
  case h_2 => cases e
  rename_i x y
  cases e
  obtain ⟨rfl, hx⟩ := hp
  have E : Env Try.prog ε base [] := env0 hε
  have b1 : Try.prog.funcs[20]? = some Try.f20 := by kernel_rfl
  have b2 : Try.f20.body = some (bodyOf 20) := by kernel_rfl
  have b3 : 2 ≤ Try.f20.ntmps := of_decide_eq_true (by kernel_rfl)
  refine callOk_none (args0 := [.int .i64 x, .int .i64 13]) b1 b2 b3 ⟨2, rfl⟩ (Nat.le_refl n) (fun _ h => by cases h) (fun _ _ => rfl) ?_
  exact leads_end E 40 100000 [] (p := []) (by kernel_rfl) (by kernel_rfl) trivial (Fin.val (vs := [Value.int IntKind.i64 (IntKind.wrap IntKind.i64 (Int.tmod (IntKind.wrap IntKind.u64 x) 13))]) (by kernel_rfl) (.inl rfl) ⟨2, by rfl⟩)
end Go.Proofs.Ytnnnoomokbiobaa.Ex
