/- What came in, opened: arrays of bytes in structs, by value, with their ranges. No conditions but those that each names. -/
import Derived.Test.YtdnbcgdpaoclkaaDoorOpenA
import Derived.Test.YtdnbcgdpaoclkaaDoorEthBr
set_option linter.unusedVariables false
set_option linter.unusedSimpArgs false
namespace Go.Proofs.YtdnbcgdpaoclkaaDoor
open Go Go.ChangeShapes Go.WideShapes Go.ChangeAt Go.RowKit Go.Deep
theorem list_ints2 : ∀ (l : List Value), (∀ v ∈ l, ∃ z, v = .int .u8 z ∧ (Lit.int .u8 z).wf = true) → ∃ zs : List Int, l = zs.map (Value.int .u8) ∧ ∀ z ∈ zs, (Lit.int .u8 z).wf = true
  | [], _ => ⟨[], rfl, fun _ h => by cases h⟩
  | v :: l, h => by
    obtain ⟨z, rfl, hz⟩ := h v (by simp)
    obtain ⟨zs, rfl, hs⟩ := list_ints2 l fun u hu => h u (by simp [hu])
    exact ⟨z :: zs, rfl, fun y hy => by rcases List.mem_cons.1 hy with rfl | hy; exact hz; exact hs y hy⟩
theorem ints_of_array2 {H : Type} {enc : TypeId × Value → H} {P : Program} {w : World} {base fuel n : Nat} {spare : Nat → Bool} {held : Bool} {t e : TypeId} {cs : List Value} {y : DataW H × List MemPlace} (ht : P.underlying t = some (.array n e)) (he : P.underlying e = some (.int .u8)) (hc : P.cellsOf e = 1) (hct : P.cellsOf t = n) (hlen : cs.length = n)
    (h : DataW.trod enc P w base spare held fuel t cs = some y) : ∃ zs : List Int, zs.length = n ∧ cs = zs.map (Value.int .u8) ∧ ∀ z ∈ zs, (Lit.int .u8 z).wf = true := by
  obtain ⟨xs, m, _, ex, hl, hxl, hel⟩ := DataW.trod_array ht h
  have hall : ∀ v ∈ cs, ∃ z, v = .int .u8 z ∧ (Lit.int .u8 z).wf = true := by
    intro v hv
    obtain ⟨i, hi, rfl⟩ := List.mem_iff_getElem.1 hv
    have h1 := hel i (by omega)
    rw [hc, Nat.mul_one] at h1
    have h2 : xs[i]? = some (xs[i]'(by omega)) := List.getElem?_eq_getElem (by omega)
    rw [h2] at h1
    obtain ⟨z, e1, _, hw⟩ := DataW.trod_int he h1
    have h3 : ((cs.drop i).take 1) = [cs[i]] := by rw [List.drop_eq_getElem_cons hi]; rfl
    rw [h3] at e1
    exact ⟨z, by simpa using e1, hw⟩
  obtain ⟨zs, rfl, hz⟩ := list_ints2 cs hall
  exact ⟨zs, by simpa using hlen, rfl, hz⟩
/-- Six bytes. -/
theorem six_ints2 {c0 c1 c2 c3 c4 c5 : Value} (h : ∃ zs : List Int, zs.length = 6 ∧ [c0, c1, c2, c3, c4, c5] = zs.map (Value.int .u8) ∧ ∀ z ∈ zs, (Lit.int .u8 z).wf = true) : ∃ z0 z1 z2 z3 z4 z5, c0 = .int .u8 z0 ∧ c1 = .int .u8 z1 ∧ c2 = .int .u8 z2 ∧ c3 = .int .u8 z3 ∧ c4 = .int .u8 z4 ∧ c5 = .int .u8 z5 ∧ Ex.sixB z0 z1 z2 z3 z4 z5 := by
  obtain ⟨zs, hl, he, hz⟩ := h
  match zs, hl with
  | [a, b, c, d, e, f], _ =>
    simp at he
    exact ⟨a, b, c, d, e, f, he.1, he.2.1, he.2.2.1, he.2.2.2.1, he.2.2.2.2.1, he.2.2.2.2.2, u8_range (hz a (by simp)), u8_range (hz b (by simp)), u8_range (hz c (by simp)), u8_range (hz d (by simp)), u8_range (hz e (by simp)), u8_range (hz f (by simp))⟩
theorem u16_range {n : Int} (h : (Lit.int .u16 n).wf = true) : 0 ≤ n ∧ n ≤ 65535 := by
  simp [Lit.wf, IntKind.min, IntKind.max, IntKind.signed, IntKind.bits] at h
  omega
end Go.Proofs.YtdnbcgdpaoclkaaDoor
