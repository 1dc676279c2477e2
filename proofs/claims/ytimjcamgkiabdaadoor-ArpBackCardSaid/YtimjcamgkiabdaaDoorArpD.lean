/- What arp reads. No conditions but those that each names. -/
import Derived.Test.YtimjcamgkiabdaaDoorOctRw
import Derived.Test.YtimjcamgkiabdaaDoorArpW
set_option linter.unusedVariables false
set_option linter.unusedSimpArgs false
set_option maxRecDepth 100000
namespace Go.Proofs.YtimjcamgkiabdaaDoor.Ex
open Go Go.RowKit
/-- What is read, of the bytes. -/
structure ARd where
  num : List Value → Nat → Int
  lg : List Value → Int → Int
  ok : Nat → List Value → Prop
def okI (R : ARd) (len : Nat) (L : List Value) : Prop := R.ok len L
noncomputable def areadW (R : ARd) : Ent := fun j args h n => match args with
  | [x] => match winS x h with
    | some (len, L, p) => match j with
      | 0 => some (⟨.tuple #[.agg #[.int .i64 (R.num L 7), .int .u8 (R.num L 8), .int .u8 (R.num L 9), .int .u8 (R.num L 10), .int .u8 (R.num L 11), .int .u8 (R.num L 12), .int .u8 (R.num L 13), .int .u32 (R.lg L 14), .int .u8 (R.num L 18), .int .u8 (R.num L 19), .int .u8 (R.num L 20), .int .u8 (R.num L 21), .int .u8 (R.num L 22), .int .u8 (R.num L 23), .int .u32 (R.lg L 24)], .int .i64 0], h, n, []⟩, p ∧ Byt L ∧ len ≤ 100000 ∧ okI R len L)
      | _ => some (⟨.tuple #[.agg #[.int .i64 0, .int .u8 0, .int .u8 0, .int .u8 0, .int .u8 0, .int .u8 0, .int .u8 0, .int .u32 0, .int .u8 0, .int .u8 0, .int .u8 0, .int .u8 0, .int .u8 0, .int .u8 0, .int .u32 0], .int .i64 60], h, n, []⟩, p ∧ Byt L ∧ len ≤ 100000 ∧ ¬ okI R len L)
    | none => none
  | _ => none
theorem aread_det (R : ARd) : EntDet (areadW R) := fun args h n j j' r r' p p' e hp e' hp' => by
  unfold areadW at e e'
  split at e
  case h_2 => cases e
  rename_i x
  split at e
  case h_2 => cases e
  rename_i len L q hw
  simp only [hw] at e'
  rcases j with _ | j <;> rcases j' with _ | j' <;> simp only [Option.some.injEq, Prod.mk.injEq] at e e' <;> obtain ⟨rfl, rfl⟩ := e <;> obtain ⟨rfl, rfl⟩ := e' <;> first | rfl | exact (hp'.2.2.2 hp.2.2.2).elim | exact (hp.2.2.2 hp'.2.2.2).elim
def begA (L : List Value) : Prop := numAt L 0 = 0 ∧ numAt L 1 = 1 ∧ numAt L 2 = 8 ∧ numAt L 3 = 0 ∧ numAt L 4 = 6 ∧ numAt L 5 = 4
def A0 : ARd where
  num := numAt
  lg := lg0
  ok len L := 28 ≤ len ∧ begA L ∧ numAt L 6 = 0 ∧ (numAt L 7 = 1 ∨ numAt L 7 = 2)
theorem part6 {t : TypeId} {cs : List Value} {off : Nat} (h1 : isAggA Tryd.prog t = some true) (h2 : sizeA Tryd.prog t = some 6) (h : ∀ i, i < 6 → cs[off + i]? = some (.int .u8 (numAt cs (off + i)))) :
    partA Tryd.prog t cs off = some (.agg #[.int .u8 (numAt cs (off + 0)), .int .u8 (numAt cs (off + 1)), .int .u8 (numAt cs (off + 2)), .int .u8 (numAt cs (off + 3)), .int .u8 (numAt cs (off + 4)), .int .u8 (numAt cs (off + 5))]) := by
  have hl : off + 6 ≤ cs.length := by
    have := (List.getElem?_eq_some_iff.1 (h 5 (by omega))).1
    omega
  have e : (cs.drop off).take 6 = [.int .u8 (numAt cs (off + 0)), .int .u8 (numAt cs (off + 1)), .int .u8 (numAt cs (off + 2)), .int .u8 (numAt cs (off + 3)), .int .u8 (numAt cs (off + 4)), .int .u8 (numAt cs (off + 5))] := by
    refine List.ext_getElem? fun i => ?_
    rw [List.getElem?_take]
    split
    · rename_i hi
      rw [List.getElem?_drop, h i hi]
      have : i = 0 ∨ i = 1 ∨ i = 2 ∨ i = 3 ∨ i = 4 ∨ i = 5 := by omega
      rcases this with rfl | rfl | rfl | rfl | rfl | rfl <;> rfl
    · rename_i hi
      symm
      exact List.getElem?_eq_none (by simp; omega)
  unfold partA
  rw [h1]
  simp only [h2, getMany_of hl, e]
theorem bifN {a c x y : Nat} (h : a ≠ c) : (bif Nat.beq a c then x else y) = y := by rw [show Nat.beq a c = false from by cases hb : Nat.beq a c with | false => rfl | true => exact absurd (Nat.eq_of_beq_eq_true hb) h]; rfl
theorem addr_val {a b c d : Int} (ha : 0 ≤ a ∧ a ≤ 255) (hb : 0 ≤ b ∧ b ≤ 255) (hc : 0 ≤ c ∧ c ≤ 255) (hd : 0 ≤ d ∧ d ≤ 255) : IntKind.wrap IntKind.u32 (IntKind.wrap IntKind.u32 (IntKind.wrap IntKind.u32 (IntKind.wrap IntKind.u32 (16777216 * IntKind.wrap IntKind.u32 a) + IntKind.wrap IntKind.u32 (65536 * IntKind.wrap IntKind.u32 b)) + IntKind.wrap IntKind.u32 (256 * IntKind.wrap IntKind.u32 c)) + IntKind.wrap IntKind.u32 d) = 65536 * (256 * a + b) + (256 * c + d) := by
  simp only [IntKind.wrap_u32]; omega
theorem beg_beq {L : List Value} : ([numAt L 0, numAt L 1, numAt L 2, numAt L 3, numAt L 4, numAt L 5] == [0, 1, 8, 0, 6, 4]) = true ↔ begA L := by
  unfold begA
  simp [List.cons_beq_cons]
theorem beg_no {L : List Value} (h : ¬ begA L) : ([numAt L 0, numAt L 1, numAt L 2, numAt L 3, numAt L 4, numAt L 5] == [0, 1, 8, 0, 6, 4]) = false := by
  cases hx : ([numAt L 0, numAt L 1, numAt L 2, numAt L 3, numAt L 4, numAt L 5] == [0, 1, 8, 0, 6, 4])
  · rfl
  · exact absurd (beg_beq.1 hx) h
end Go.Proofs.YtimjcamgkiabdaaDoor.Ex
