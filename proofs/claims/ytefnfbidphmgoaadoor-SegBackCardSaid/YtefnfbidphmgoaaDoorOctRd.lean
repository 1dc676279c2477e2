/- Words of bytes that are read. No conditions but those that each names. -/
import Derived.Test.YtefnfbidphmgoaaDoorCon
set_option linter.unusedVariables false
set_option linter.unusedSimpArgs false
set_option maxRecDepth 100000
namespace Go.Proofs.YtefnfbidphmgoaaDoor.Ex
open Go Go.RowKit
/-- Two bytes, as a variable. -/
noncomputable def wordW (wd : List Value → Int → Int) : Ent := fun _ args h n => match args with
  | [x, .int .i64 i] => match winS x h with
    | some (len, L, p) => some (⟨.int .i64 (wd L i), h, n, []⟩, p ∧ Byt L ∧ len ≤ 100000 ∧ 0 ≤ i ∧ i + 1 < len)
    | none => none
  | _ => none
def wd0 (L : List Value) (i : Int) : Int := 256 * numAt L i.toNat + numAt L (i.toNat + 1)
theorem word_det (wd : List Value → Int → Int) : EntDet (wordW wd) := det_of fun _ _ _ _ _ => rfl
theorem or_8 {a b : Int} (ha : 0 ≤ a ∧ a ≤ 255) (hb : 0 ≤ b ∧ b ≤ 255) : IntKind.wrap IntKind.i64 ((BitVec.toNat (BitVec.ofInt 64 (IntKind.wrap IntKind.i64 (IntKind.wrap IntKind.i64 a * 256)) ||| BitVec.ofInt 64 (IntKind.wrap IntKind.i64 b)) : Nat) : Int) = 256 * a + b := by
  obtain ⟨a, rfl⟩ := Int.eq_ofNat_of_zero_le ha.1
  obtain ⟨b, rfl⟩ := Int.eq_ofNat_of_zero_le hb.1
  simp only [IntKind.wrap_i64]
  have e1 : (((b : Int) + 9223372036854775808) % 18446744073709551616 - 9223372036854775808) = (b : Int) := by omega
  have e2 : (((((a : Int) + 9223372036854775808) % 18446744073709551616 - 9223372036854775808) * 256 + 9223372036854775808) % 18446744073709551616 - 9223372036854775808) = ((a * 256 : Nat) : Int) := by omega
  rw [e1, e2, BitVec.toNat_or, BitVec.toNat_ofInt, BitVec.toNat_ofInt]
  have h1 : ((((a * 256 : Nat) : Int)) % ((2 ^ 64 : Nat) : Int)).toNat = a * 256 := by omega
  have h2 : ((b : Int) % ((2 ^ 64 : Nat) : Int)).toNat = b := by omega
  rw [h1, h2]
  have h3 := Nat.shiftLeft_add_eq_or_of_lt (i := 8) (show b < 2 ^ 8 by omega) a
  rw [Nat.shiftLeft_eq] at h3
  have h4 : (a * 256 ||| b) = a * 256 + b := by rw [← show a * 2 ^ 8 = a * 256 by omega]; exact h3.symm
  rw [h4]
  omega
theorem word_val {oc : List Value} {off len k : Nat} (hB : Byt (List.take len (List.drop off oc))) (hk : k + 1 < len) : renV (nameL [0]) 2 (Value.int IntKind.i64 (IntKind.wrap IntKind.i64 ((BitVec.toNat (BitVec.ofInt 64 (IntKind.wrap IntKind.i64 (IntKind.wrap IntKind.i64 (numAt oc (off + k)) * 256)) ||| BitVec.ofInt 64 (IntKind.wrap IntKind.i64 (numAt oc (off + (k + 1)))) ) : Nat) : Int))) = some (Value.int IntKind.i64 (wd0 (List.take len (List.drop off oc)) (k : Int))) := by
  have r0 := hB.rangeAt k
  have r1 := hB.rangeAt (k + 1)
  rw [numAt_win (by omega)] at r0 r1
  rw [or_8 r0 r1]
  unfold wd0
  rw [Int.toNat_natCast, numAt_win (by omega), numAt_win (by omega)]
  rfl
/-- Four bytes, as a variable. -/
noncomputable def longW (lg : List Value → Int → Int) : Ent := fun _ args h n => match args with
  | [x, .int .i64 i] => match winS x h with
    | some (len, L, p) => some (⟨.int .u32 (lg L i), h, n, []⟩, p ∧ Byt L ∧ len ≤ 100000 ∧ 0 ≤ i ∧ i + 3 < len)
    | none => none
  | _ => none
def lg0 (L : List Value) (i : Int) : Int := 65536 * wd0 L i + wd0 L (i + 2)
theorem long_det (lg : List Value → Int → Int) : EntDet (longW lg) := det_of fun _ _ _ _ _ => rfl
theorem wd0_range {L : List Value} (h : Byt L) (i : Int) : 0 ≤ wd0 L i ∧ wd0 L i ≤ 65535 := by
  have r0 := h.rangeAt i.toNat
  have r1 := h.rangeAt (i.toNat + 1)
  unfold wd0
  omega
theorem lg0_range {L : List Value} (h : Byt L) (i : Int) : 0 ≤ lg0 L i ∧ lg0 L i < 4294967296 := by
  have r0 := wd0_range h i
  have r1 := wd0_range h (i + 2)
  unfold lg0
  omega
theorem or_16 {a b : Int} (ha : 0 ≤ a ∧ a ≤ 65535) (hb : 0 ≤ b ∧ b ≤ 65535) : IntKind.wrap IntKind.u32 ((BitVec.toNat (BitVec.ofInt 32 (IntKind.wrap IntKind.u32 (IntKind.wrap IntKind.u32 a * 65536)) ||| BitVec.ofInt 32 (IntKind.wrap IntKind.u32 b)) : Nat) : Int) = 65536 * a + b := by
  obtain ⟨a, rfl⟩ := Int.eq_ofNat_of_zero_le ha.1
  obtain ⟨b, rfl⟩ := Int.eq_ofNat_of_zero_le hb.1
  simp only [IntKind.wrap_u32]
  have e1 : ((b : Int) % 4294967296) = (b : Int) := by omega
  have e2 : (((a : Int) % 4294967296) * 65536) % 4294967296 = ((a * 65536 : Nat) : Int) := by omega
  rw [e1, e2, BitVec.toNat_or, BitVec.toNat_ofInt, BitVec.toNat_ofInt]
  have h1 : ((((a * 65536 : Nat) : Int)) % ((2 ^ 32 : Nat) : Int)).toNat = a * 65536 := by omega
  have h2 : ((b : Int) % ((2 ^ 32 : Nat) : Int)).toNat = b := by omega
  rw [h1, h2]
  have h3 := Nat.shiftLeft_add_eq_or_of_lt (i := 16) (show b < 2 ^ 16 by omega) a
  rw [Nat.shiftLeft_eq] at h3
  have h5 : (2 : Nat) ^ 16 = 65536 := by decide
  rw [h5] at h3
  have h4 : (a * 65536 ||| b) = a * 65536 + b := h3.symm
  rw [h4]
  omega
theorem long_val {oc : List Value} {off len : Nat} {i j : Int} (hB : Byt (List.take len (List.drop off oc))) (hj : j = i + 2) : renV (nameL [0]) 2 (Value.int IntKind.u32 (IntKind.wrap IntKind.u32 ((BitVec.toNat (BitVec.ofInt 32 (IntKind.wrap IntKind.u32 (IntKind.wrap IntKind.u32 (wd0 (List.take len (List.drop off oc)) i) * 65536)) ||| BitVec.ofInt 32 (IntKind.wrap IntKind.u32 (wd0 (List.take len (List.drop off oc)) j))) : Nat) : Int))) = some (Value.int IntKind.u32 (lg0 (List.take len (List.drop off oc)) i)) := by
  subst hj
  rw [or_16 (wd0_range hB _) (wd0_range hB _)]
  rfl
end Go.Proofs.YtefnfbidphmgoaaDoor.Ex
