/- What came in, opened: arrays of integers in structs, by value. No conditions but those that each names. -/
import Derived.Test.YtdnbcgdpaoclkaaDoorOpen
set_option linter.unusedVariables false
set_option linter.unusedSimpArgs false
namespace Go.Proofs.YtdnbcgdpaoclkaaDoor
open Go Go.ChangeShapes Go.WideShapes Go.ChangeAt Go.RowKit Go.Deep
theorem list_ints {k : IntKind} : ∀ (l : List Value), (∀ v ∈ l, ∃ z, v = .int k z) → ∃ zs : List Int, l = zs.map (Value.int k)
  | [], _ => ⟨[], rfl⟩
  | v :: l, h => by
    obtain ⟨z, rfl⟩ := h v (by simp)
    obtain ⟨zs, rfl⟩ := list_ints l fun u hu => h u (by simp [hu])
    exact ⟨z :: zs, rfl⟩
theorem ints_of_array {H : Type} {enc : TypeId × Value → H} {P : Program} {w : World} {base fuel n : Nat} {spare : Nat → Bool} {held : Bool} {t e : TypeId} {k : IntKind} {cs : List Value} {y : DataW H × List MemPlace} (ht : P.underlying t = some (.array n e)) (he : P.underlying e = some (.int k)) (hc : P.cellsOf e = 1) (hct : P.cellsOf t = n) (hlen : cs.length = n)
    (h : DataW.trod enc P w base spare held fuel t cs = some y) : ∃ zs : List Int, zs.length = n ∧ cs = zs.map (Value.int k) := by
  obtain ⟨xs, m, _, ex, hl, hxl, hel⟩ := DataW.trod_array ht h
  have hall : ∀ v ∈ cs, ∃ z, v = .int k z := by
    intro v hv
    obtain ⟨i, hi, rfl⟩ := List.mem_iff_getElem.1 hv
    have h1 := hel i (by omega)
    rw [hc, Nat.mul_one] at h1
    have h2 : xs[i]? = some (xs[i]'(by omega)) := List.getElem?_eq_getElem (by omega)
    rw [h2] at h1
    obtain ⟨z, e1, _⟩ := DataW.trod_int he h1
    refine ⟨z, ?_⟩
    have h3 : ((cs.drop i).take 1) = [cs[i]] := by rw [List.drop_eq_getElem_cons hi]; rfl
    rw [h3] at e1
    simpa using e1
  obtain ⟨zs, rfl⟩ := list_ints cs hall
  exact ⟨zs, by simpa using hlen, rfl⟩
theorem array13 {α : Type} {cs : Array α} (h : cs.size = 13) : ∃ c0 c1 c2 c3 c4 c5 c6 c7 c8 c9 c10 c11 c12, cs = #[c0, c1, c2, c3, c4, c5, c6, c7, c8, c9, c10, c11, c12] := by
  obtain ⟨l⟩ := cs
  match l, h with
  | [c0, c1, c2, c3, c4, c5, c6, c7, c8, c9, c10, c11, c12], _ => exact ⟨c0, c1, c2, c3, c4, c5, c6, c7, c8, c9, c10, c11, c12, rfl⟩
theorem array14 {α : Type} {cs : Array α} (h : cs.size = 14) : ∃ c0 c1 c2 c3 c4 c5 c6 c7 c8 c9 c10 c11 c12 c13, cs = #[c0, c1, c2, c3, c4, c5, c6, c7, c8, c9, c10, c11, c12, c13] := by
  obtain ⟨l⟩ := cs
  match l, h with
  | [c0, c1, c2, c3, c4, c5, c6, c7, c8, c9, c10, c11, c12, c13], _ => exact ⟨c0, c1, c2, c3, c4, c5, c6, c7, c8, c9, c10, c11, c12, c13, rfl⟩
theorem array15 {α : Type} {cs : Array α} (h : cs.size = 15) : ∃ c0 c1 c2 c3 c4 c5 c6 c7 c8 c9 c10 c11 c12 c13 c14, cs = #[c0, c1, c2, c3, c4, c5, c6, c7, c8, c9, c10, c11, c12, c13, c14] := by
  obtain ⟨l⟩ := cs
  match l, h with
  | [c0, c1, c2, c3, c4, c5, c6, c7, c8, c9, c10, c11, c12, c13, c14], _ => exact ⟨c0, c1, c2, c3, c4, c5, c6, c7, c8, c9, c10, c11, c12, c13, c14, rfl⟩
theorem array16 {α : Type} {cs : Array α} (h : cs.size = 16) : ∃ c0 c1 c2 c3 c4 c5 c6 c7 c8 c9 c10 c11 c12 c13 c14 c15, cs = #[c0, c1, c2, c3, c4, c5, c6, c7, c8, c9, c10, c11, c12, c13, c14, c15] := by
  obtain ⟨l⟩ := cs
  match l, h with
  | [c0, c1, c2, c3, c4, c5, c6, c7, c8, c9, c10, c11, c12, c13, c14, c15], _ => exact ⟨c0, c1, c2, c3, c4, c5, c6, c7, c8, c9, c10, c11, c12, c13, c14, c15, rfl⟩
/-- Six integers. -/
theorem six_ints {k : IntKind} {c0 c1 c2 c3 c4 c5 : Value} (h : ∃ zs : List Int, zs.length = 6 ∧ [c0, c1, c2, c3, c4, c5] = zs.map (Value.int k)) : ∃ z0 z1 z2 z3 z4 z5, c0 = .int k z0 ∧ c1 = .int k z1 ∧ c2 = .int k z2 ∧ c3 = .int k z3 ∧ c4 = .int k z4 ∧ c5 = .int k z5 := by
  obtain ⟨zs, hl, he⟩ := h
  match zs, hl with
  | [a, b, c, d, e, f], _ =>
    simp at he
    exact ⟨a, b, c, d, e, f, he⟩
end Go.Proofs.YtdnbcgdpaoclkaaDoor
