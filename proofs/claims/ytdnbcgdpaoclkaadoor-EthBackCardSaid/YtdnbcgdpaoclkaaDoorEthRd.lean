/- What eth reads. No conditions but those that each names. -/
import Derived.Test.YtdnbcgdpaoclkaaDoorOctW
set_option linter.unusedVariables false
set_option linter.unusedSimpArgs false
set_option maxRecDepth 100000
namespace Go.Proofs.YtdnbcgdpaoclkaaDoor.Ex
open Go Go.RowKit
/-- What is read, of the bytes. -/
structure ERd where
  num : List Value → Nat → Int
  kind : List Value → Int
  ok : Nat → Prop
def okI (R : ERd) (len : Nat) : Prop := R.ok len
noncomputable def ereadW (R : ERd) : Ent := fun j args h n => match args with
  | [x] => match winS x h with
    | some (len, L, p) => match j with
      | 0 => some (⟨.tuple #[.agg #[.int .u8 (R.num L 0), .int .u8 (R.num L 1), .int .u8 (R.num L 2), .int .u8 (R.num L 3), .int .u8 (R.num L 4), .int .u8 (R.num L 5), .int .u8 (R.num L 6), .int .u8 (R.num L 7), .int .u8 (R.num L 8), .int .u8 (R.num L 9), .int .u8 (R.num L 10), .int .u8 (R.num L 11), .int .u16 (R.kind L), .slice (some ⟨n, 0, some 0⟩) (len - 14) 0], .int .i64 0], tput h n (some (rowO (L.drop 14) 5 true)), n + 1, [n]⟩, p ∧ Byt L ∧ len ≤ 100000 ∧ okI R len)
      | _ => some (⟨.tuple #[.agg #[.int .u8 0, .int .u8 0, .int .u8 0, .int .u8 0, .int .u8 0, .int .u8 0, .int .u8 0, .int .u8 0, .int .u8 0, .int .u8 0, .int .u8 0, .int .u8 0, .int .u16 0, .slice none 0 0], .int .i64 50], h, n, []⟩, p ∧ Byt L ∧ len ≤ 100000 ∧ ¬ okI R len)
    | none => none
  | _ => none
theorem eread_det (R : ERd) : EntDet (ereadW R) := fun args h n j j' r r' p p' e hp e' hp' => by
  unfold ereadW at e e'
  split at e
  case h_2 => cases e
  rename_i x
  split at e
  case h_2 => cases e
  rename_i len L q hw
  simp only [hw] at e'
  rcases j with _ | j <;> rcases j' with _ | j' <;> simp only [Option.some.injEq, Prod.mk.injEq] at e e' <;> obtain ⟨rfl, rfl⟩ := e <;> obtain ⟨rfl, rfl⟩ := e' <;> first | rfl | exact (hp'.2.2.2 hp.2.2.2).elim | exact (hp.2.2.2 hp'.2.2.2).elim
def E0 : ERd where
  num := numAt
  kind L := 256 * numAt L 12 + numAt L 13
  ok len := 60 ≤ len ∧ len ≤ 1514
theorem part14 {t : TypeId} {cs : List Value} {off : Nat} (h1 : isAggA Tryd.prog t = some true) (h2 : sizeA Tryd.prog t = some 14) (h : ∀ i, i < 14 → cs[off + i]? = some (.int .u8 (numAt cs (off + i)))) :
    partA Tryd.prog t cs off = some (.agg #[.int .u8 (numAt cs (off + 0)), .int .u8 (numAt cs (off + 1)), .int .u8 (numAt cs (off + 2)), .int .u8 (numAt cs (off + 3)), .int .u8 (numAt cs (off + 4)), .int .u8 (numAt cs (off + 5)), .int .u8 (numAt cs (off + 6)), .int .u8 (numAt cs (off + 7)), .int .u8 (numAt cs (off + 8)), .int .u8 (numAt cs (off + 9)), .int .u8 (numAt cs (off + 10)), .int .u8 (numAt cs (off + 11)), .int .u8 (numAt cs (off + 12)), .int .u8 (numAt cs (off + 13))]) := by
  have hl : off + 14 ≤ cs.length := by
    have := (List.getElem?_eq_some_iff.1 (h 13 (by omega))).1
    omega
  have e : (cs.drop off).take 14 = [.int .u8 (numAt cs (off + 0)), .int .u8 (numAt cs (off + 1)), .int .u8 (numAt cs (off + 2)), .int .u8 (numAt cs (off + 3)), .int .u8 (numAt cs (off + 4)), .int .u8 (numAt cs (off + 5)), .int .u8 (numAt cs (off + 6)), .int .u8 (numAt cs (off + 7)), .int .u8 (numAt cs (off + 8)), .int .u8 (numAt cs (off + 9)), .int .u8 (numAt cs (off + 10)), .int .u8 (numAt cs (off + 11)), .int .u8 (numAt cs (off + 12)), .int .u8 (numAt cs (off + 13))] := by
    refine List.ext_getElem? fun i => ?_
    rw [List.getElem?_take]
    split
    · rename_i hi
      rw [List.getElem?_drop, h i hi]
      have : i = 0 ∨ i = 1 ∨ i = 2 ∨ i = 3 ∨ i = 4 ∨ i = 5 ∨ i = 6 ∨ i = 7 ∨ i = 8 ∨ i = 9 ∨ i = 10 ∨ i = 11 ∨ i = 12 ∨ i = 13 := by omega
      rcases this with rfl | rfl | rfl | rfl | rfl | rfl | rfl | rfl | rfl | rfl | rfl | rfl | rfl | rfl <;> rfl
    · rename_i hi
      symm
      exact List.getElem?_eq_none (by simp; omega)
  unfold partA
  rw [h1]
  simp only [h2, getMany_of hl, e]
theorem bifN {a c x y : Nat} (h : a ≠ c) : (bif Nat.beq a c then x else y) = y := by rw [show Nat.beq a c = false from by cases hb : Nat.beq a c with | false => rfl | true => exact absurd (Nat.eq_of_beq_eq_true hb) h]; rfl
theorem ren_same {σ : Nat → Option Nat} {L : List Value} {t : TypeId} {o1 : HO} (hB : Byt L) (e : o1 = rowO L t true) : renO σ o1 (rowO L t true) := by
  rw [e]
  exact renO_row rfl rfl hB.noIds
theorem kind_ref {a b : Int} (ha : 0 ≤ a ∧ a ≤ 255) (hb : 0 ≤ b ∧ b ≤ 255) : IntKind.wrap IntKind.u16 (IntKind.wrap IntKind.u16 (256 * IntKind.wrap IntKind.u16 a) + IntKind.wrap IntKind.u16 b) = 256 * a + b := by
  simp [IntKind.wrap, IntKind.signed, IntKind.bits]; omega
theorem kind_code {a b : Int} (ha : 0 ≤ a ∧ a ≤ 255) (hb : 0 ≤ b ∧ b ≤ 255) : IntKind.wrap IntKind.u16 (256 * a + b) = 256 * a + b := by
  simp [IntKind.wrap, IntKind.signed, IntKind.bits]; omega
theorem bytes14 {a0 a1 a2 a3 a4 a5 a6 a7 a8 a9 a10 a11 a12 a13 : Int} (r : ∀ x ∈ [a0, a1, a2, a3, a4, a5, a6, a7, a8, a9, a10, a11, a12, a13], 0 ≤ x ∧ x ≤ 255) : Byt [.int .u8 a0, .int .u8 a1, .int .u8 a2, .int .u8 a3, .int .u8 a4, .int .u8 a5, .int .u8 a6, .int .u8 a7, .int .u8 a8, .int .u8 a9, .int .u8 a10, .int .u8 a11, .int .u8 a12, .int .u8 a13] := by
  have : ([.int .u8 a0, .int .u8 a1, .int .u8 a2, .int .u8 a3, .int .u8 a4, .int .u8 a5, .int .u8 a6, .int .u8 a7, .int .u8 a8, .int .u8 a9, .int .u8 a10, .int .u8 a11, .int .u8 a12, .int .u8 a13] : List Value) = [a0, a1, a2, a3, a4, a5, a6, a7, a8, a9, a10, a11, a12, a13].map (Value.int .u8) := rfl
  intro v hv
  rw [this] at hv
  obtain ⟨x, hx, rfl⟩ := List.mem_map.1 hv
  exact ⟨x, rfl, (r x hx).1, (r x hx).2⟩
end Go.Proofs.YtdnbcgdpaoclkaaDoor.Ex
