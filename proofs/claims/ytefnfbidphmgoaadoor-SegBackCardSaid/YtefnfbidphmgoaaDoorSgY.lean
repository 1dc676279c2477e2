/- What is built, by how it lies. No conditions but those that each names. -/
import Derived.Test.YtefnfbidphmgoaaDoorSgX
set_option linter.unusedVariables false
set_option linter.unusedSimpArgs false
set_option maxRecDepth 100000
set_option maxHeartbeats 2000000
namespace Go.Proofs.YtefnfbidphmgoaaDoor.Ex
open Go Go.RowKit
noncomputable def sbuildY (GA GC : Int → Int → Int → Int → Int → Int → Int → Int → Int → Int → Nat → List Value → List Value) : Ent := fun j args h n => match args with
  | [.int .u32 frm, .int .u32 to, .agg ⟨[.int .i64 f, .int .i64 t, .int .u32 sq, .int .u32 ak, .int .i64 fl, .int .i64 wi, .int .i64 u, .int .i64 gr, x]⟩] => match winS x h with
    | some (len, L, p) => match j with
      | 0 => some (⟨.tuple #[.slice (some ⟨n, 0, none⟩) (20 + len) (len + 24), .int .i64 0], tput h n (some (rowO (GA frm to f t sq ak fl wi u gr len L ++ [.int .u8 0, .int .u8 0, .int .u8 0, .int .u8 0]) 5 false)), n + 1, [n]⟩, p ∧ Byt L ∧ okU frm to sq ak ∧ okS f t fl wi u gr ∧ gr = 0 ∧ len ≤ 65495)
      | 1 => some (⟨.tuple #[.slice (some ⟨n, 0, none⟩) (24 + len) (len + 24), .int .i64 0], tput h n (some (rowO (GC frm to f t sq ak fl wi u gr len L) 5 false)), n + 1, [n]⟩, p ∧ Byt L ∧ okU frm to sq ak ∧ okS f t fl wi u gr ∧ gr ≠ 0 ∧ len ≤ 65495 ∧ len ≠ 0)
      | 2 => some (⟨.tuple #[.slice (some ⟨n, 0, some 0⟩) 24 0, .int .i64 0], tput h n (some (rowO (GC frm to f t sq ak fl wi u gr 0 L) 5 true)), n + 1, [n]⟩, p ∧ Byt L ∧ okU frm to sq ak ∧ okS f t fl wi u gr ∧ gr ≠ 0 ∧ len = 0)
      | 3 => some (⟨.tuple #[.slice none 0 0, .int .i64 2], h, n, []⟩, p ∧ ¬ okS f t fl wi u gr)
      | _ => some (⟨.tuple #[.slice none 0 0, .int .i64 3], h, n, []⟩, p ∧ okS f t fl wi u gr ∧ 65495 < len)
    | none => none
  | _ => none
theorem sbuildy_det (GA GC : Int → Int → Int → Int → Int → Int → Int → Int → Int → Int → Nat → List Value → List Value) : EntDet (sbuildY GA GC) := fun args h n j j' r r' p p' e hp e' hp' => by
  unfold sbuildY at e e'
  split at e
  case h_2 => cases e
  rename_i x
  split at e
  case h_2 => cases e
  rename_i len L q hw
  simp only [hw] at e'
  rcases j with _ | _ | _ | _ | j <;> rcases j' with _ | _ | _ | _ | j' <;> simp only [Option.some.injEq, Prod.mk.injEq] at e e' <;> obtain ⟨rfl, rfl⟩ := e <;> obtain ⟨rfl, rfl⟩ := e' <;> first
    | rfl
    | exact absurd hp.2.2.2.2.1 hp'.2.2.2.2.1
    | exact absurd hp'.2.2.2.2.1 hp.2.2.2.2.1
    | exact absurd hp.2.2.2.2.2 hp'.2.2.2.2.2.2
    | exact absurd hp'.2.2.2.2.2 hp.2.2.2.2.2.2
    | exact absurd hp.2.2.2.1 hp'.2
    | exact absurd hp'.2.2.2.1 hp.2
    | exact absurd hp.2.1 hp'.2
    | exact absurd hp'.2.1 hp.2
    | (exfalso; have := hp.2.2.2.2.2; have := hp'.2.2; omega)
    | (exfalso; have := hp'.2.2.2.2.2; have := hp.2.2; omega)
theorem sbuildy_of {ε : Nat → Option Value} {base : Base} {f : Nat} {GA GC : Int → Int → Int → Int → Int → Int → Int → Int → Int → Int → Nat → List Value → List Value} (h0 : EntOk Tryd.prog ε base f (sbuildX GA GC C1 C2)) : EntOk Tryd.prog ε base f (sbuildY GA GC) := by
  intro j args h n r p e hp
  unfold sbuildY at e
  split at e
  case h_2 => cases e
  rename_i frm to f t sq ak fl wi u gr x
  split at e
  case h_2 => cases e
  rename_i len L q hw
  rcases j with _ | _ | _ | _ | j <;> cases e
  · exact h0 0 _ _ _ _ _ (by simp only [sbuildX, hw]; rfl) hp
  · refine h0 1 _ _ _ _ (q ∧ Byt L ∧ okU frm to sq ak ∧ okS f t fl wi u gr ∧ gr ≠ 0 ∧ len ≤ 65495) ?_ ⟨hp.1, hp.2.1, hp.2.2.1, hp.2.2.2.1, hp.2.2.2.2.1, hp.2.2.2.2.2.1⟩
    simp only [sbuildX, hw, C2, if_neg hp.2.2.2.2.2.2]
  · obtain ⟨h1, h2, h3, h4, h5, rfl⟩ := hp
    refine h0 1 _ _ _ _ (q ∧ Byt L ∧ okU frm to sq ak ∧ okS f t fl wi u gr ∧ gr ≠ 0 ∧ 0 ≤ 65495) ?_ ⟨h1, h2, h3, h4, h5, by omega⟩
    simp only [sbuildX, hw, C2, if_true]
  · exact h0 2 _ _ _ _ _ (by simp only [sbuildX, hw]) hp
  · exact h0 3 _ _ _ _ _ (by simp only [sbuildX, hw]) hp
end Go.Proofs.YtefnfbidphmgoaaDoor.Ex
