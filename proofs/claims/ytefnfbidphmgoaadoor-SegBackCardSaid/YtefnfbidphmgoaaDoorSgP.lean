/- Numbers as bytes, as code and reference put them. No conditions. -/
import Derived.Test.YtefnfbidphmgoaaDoorConSum
set_option linter.unusedVariables false
set_option linter.unusedSimpArgs false
set_option maxRecDepth 100000
set_option maxHeartbeats 2000000
namespace Go.Proofs.YtefnfbidphmgoaaDoor.Ex
open Go Go.RowKit
theorem raw_four {s : Int} (h : 0 ≤ s ∧ s < 4294967296) : IntKind.wrap IntKind.u8 (Int.fdiv s 16777216) = s / 16777216 ∧ IntKind.wrap IntKind.u8 (Int.fdiv s 65536) = s / 65536 % 256 ∧ IntKind.wrap IntKind.u8 (Int.fdiv s 256) = s / 256 % 256 ∧ IntKind.wrap IntKind.u8 s = s % 256 := by
  rw [Int.fdiv_eq_ediv_of_nonneg _ (by omega), Int.fdiv_eq_ediv_of_nonneg _ (by omega), Int.fdiv_eq_ediv_of_nonneg _ (by omega)]
  refine ⟨?_, ?_, ?_, ?_⟩ <;> simp only [IntKind.wrap_u8] <;> omega
theorem raw_word {n : Int} (h : 0 ≤ n ∧ n ≤ 65535) : IntKind.wrap IntKind.u8 (Int.fdiv n 256) = n / 256 ∧ IntKind.wrap IntKind.u8 n = n % 256 ∧ IntKind.wrap IntKind.i64 n = n := by
  rw [Int.fdiv_eq_ediv_of_nonneg _ (by omega)]
  refine ⟨?_, ?_, ?_⟩ <;> simp only [IntKind.wrap_u8, IntKind.wrap_i64] <;> omega
theorem ref_word {n : Int} (h : 0 ≤ n ∧ n ≤ 65535) : IntKind.wrap IntKind.u8 (Int.tmod (IntKind.wrap IntKind.i64 (Int.tdiv n 256)) 256) = n / 256 ∧ IntKind.wrap IntKind.u8 (Int.tmod n 256) = n % 256 ∧ IntKind.wrap IntKind.i64 n = n := by
  rw [Int.tdiv_eq_ediv_of_nonneg h.1, Int.tmod_eq_emod_of_nonneg h.1, show IntKind.wrap IntKind.i64 (n / 256) = n / 256 by simp only [IntKind.wrap_i64]; omega, Int.tmod_eq_emod_of_nonneg (by omega)]
  refine ⟨?_, ?_, ?_⟩ <;> simp only [IntKind.wrap_u8, IntKind.wrap_i64] <;> omega
theorem ref_four {s : Int} (h : 0 ≤ s ∧ s < 4294967296) : IntKind.wrap IntKind.u8 (Int.tmod (IntKind.wrap IntKind.i64 (Int.tdiv (IntKind.wrap IntKind.i64 (IntKind.wrap IntKind.u32 (Int.tdiv s 65536))) 256)) 256) = s / 16777216 ∧ IntKind.wrap IntKind.u8 (Int.tmod (IntKind.wrap IntKind.i64 (IntKind.wrap IntKind.u32 (Int.tdiv s 65536))) 256) = s / 65536 % 256 ∧
    IntKind.wrap IntKind.u8 (Int.tmod (IntKind.wrap IntKind.i64 (Int.tdiv (IntKind.wrap IntKind.i64 (Int.tmod s 65536)) 256)) 256) = s / 256 % 256 ∧ IntKind.wrap IntKind.u8 (Int.tmod (IntKind.wrap IntKind.i64 (Int.tmod s 65536)) 256) = s % 256 := by
  rw [Int.tdiv_eq_ediv_of_nonneg h.1, Int.tmod_eq_emod_of_nonneg (a := s) h.1]
  rw [show IntKind.wrap IntKind.u32 (s / 65536) = s / 65536 by simp [IntKind.wrap, IntKind.signed, IntKind.bits]; omega]
  obtain ⟨a1, a2, a3⟩ := ref_word (n := s / 65536) (by omega)
  obtain ⟨b1, b2, b3⟩ := ref_word (n := s % 65536) (by omega)
  rw [a3, a1, a2, b3, b1, b2]
  refine ⟨?_, ?_, ?_, ?_⟩ <;> omega
/-! ### The sum ahead of a segment -/
noncomputable def addW (AD : Int → List Value → Int) : Ent := fun _ args h n => match args with
  | [.int .u32 q, x] => match winS x h with
    | some (len, L, p) => some (⟨.int .u32 (AD q L), h, n, []⟩, p ∧ Byt L ∧ len ≤ 100000 ∧ 0 ≤ q ∧ q < 4294967296)
    | none => none
  | _ => none
noncomputable def foldW (FO : Int → Int) : Ent := fun _ args h n => match args with
  | [.int .u32 q] => some (⟨.int .u16 (FO q), h, n, []⟩, 0 ≤ q ∧ q < 4294967296)
  | _ => none
noncomputable def pseudoW (PS : Int → Int → Int → Int) : Ent := fun _ args h n => match args with
  | [.int .u32 a, .int .u32 b, .int .u8 6, .int .i64 m] => some (⟨.int .u32 (PS a b m), h, n, []⟩, (0 ≤ a ∧ a < 4294967296) ∧ (0 ≤ b ∧ b < 4294967296) ∧ (0 ≤ m ∧ m ≤ 65535))
  | _ => none
theorem add_det (AD : Int → List Value → Int) : EntDet (addW AD) := det_of fun _ _ _ _ _ => rfl
theorem foldW_det (FO : Int → Int) : EntDet (foldW FO) := det_of fun _ _ _ _ _ => rfl
theorem pseudo_det (PS : Int → Int → Int → Int) : EntDet (pseudoW PS) := det_of fun _ _ _ _ _ => rfl
def ad0 (q : Int) (L : List Value) : Int := Plain.canon (q + Plain.words (numsOf L))
def fo0 (q : Int) : Int := 65535 - Plain.canon q
def ps0 (a b m : Int) : Int := Plain.canon (0 + Plain.words [a / 16777216, a / 65536 % 256, a / 256 % 256, a % 256, b / 16777216, b / 65536 % 256, b / 256 % 256, b % 256, 0, 6, m / 256, m % 256])
theorem numsOf_ints : ∀ (l : List Int), numsOf (l.map (Value.int .u8)) = l
  | [] => rfl
  | x :: l => by simp only [numsOf, List.map_cons, numOf]; exact congrArg (x :: ·) (numsOf_ints l)
section
variable {ε : Nat → Option Value} {base : Base}
theorem add_ok : EntOk Tryd.prog ε base 24 (addW ad0) := sumAdd_ok
theorem refadd_ok : EntOk Tryd.prog ε base 30 (addW ad0) := refAdd_ok
theorem fold_ok : EntOk Tryd.prog ε base 23 (foldW fo0) := sumFold_ok
theorem reffold_ok : EntOk Tryd.prog ε base 29 (foldW fo0) := refFold_ok
theorem ps_eq {a b m : Int} {L : List Value} (h : L = [a / 16777216, a / 65536 % 256, a / 256 % 256, a % 256, b / 16777216, b / 65536 % 256, b / 256 % 256, b % 256, 0, 6, m / 256, m % 256].map (Value.int .u8)) : ad0 0 L = ps0 a b m := by
  unfold ad0 ps0
  rw [h, numsOf_ints]
theorem wrap32 {s : Int} (h : 0 ≤ s ∧ s < 4294967296) : IntKind.wrap IntKind.u32 s = s := by simp [IntKind.wrap, IntKind.signed, IntKind.bits]; omega
theorem ref_wide {s : Int} (h : 0 ≤ s ∧ s < 4294967296) : IntKind.wrap IntKind.u8 (IntKind.wrap IntKind.u32 (Int.tdiv s 16777216)) = s / 16777216 ∧ IntKind.wrap IntKind.u8 (Int.tmod (IntKind.wrap IntKind.u32 (Int.tdiv s 65536)) 256) = s / 65536 % 256 ∧ IntKind.wrap IntKind.u8 (Int.tmod (IntKind.wrap IntKind.u32 (Int.tdiv s 256)) 256) = s / 256 % 256 ∧ IntKind.wrap IntKind.u8 (Int.tmod s 256) = s % 256 := by
  rw [Int.tdiv_eq_ediv_of_nonneg h.1, Int.tdiv_eq_ediv_of_nonneg h.1, Int.tdiv_eq_ediv_of_nonneg h.1, Int.tmod_eq_emod_of_nonneg h.1, wrap32 (by omega), wrap32 (by omega), wrap32 (by omega), Int.tmod_eq_emod_of_nonneg (by omega), Int.tmod_eq_emod_of_nonneg (by omega)]
  refine ⟨?_, ?_, ?_, ?_⟩ <;> simp only [IntKind.wrap_u8] <;> omega
theorem ref_len {m : Int} (h : 0 ≤ m ∧ m ≤ 65535) : IntKind.wrap IntKind.u8 (IntKind.wrap IntKind.u32 (Int.tdiv (IntKind.wrap IntKind.u32 (Int.tmod (IntKind.wrap IntKind.u64 m) 65536)) 256)) = m / 256 ∧ IntKind.wrap IntKind.u8 (Int.tmod (IntKind.wrap IntKind.u32 (Int.tmod (IntKind.wrap IntKind.u64 m) 65536)) 256) = m % 256 := by
  have e : IntKind.wrap IntKind.u64 m = m := by rw [IntKind.wrap_u64]; omega
  rw [e, Int.tmod_eq_emod_of_nonneg h.1, show m % 65536 = m by omega, wrap32 (s := m) (by omega), Int.tdiv_eq_ediv_of_nonneg h.1, Int.tmod_eq_emod_of_nonneg h.1, wrap32 (s := m / 256) (by omega)]
  constructor <;> simp only [IntKind.wrap_u8] <;> omega
end
end Go.Proofs.YtefnfbidphmgoaaDoor.Ex
