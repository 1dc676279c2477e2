/- Four bytes of a number, as they are written. No conditions but those that each names. -/
import Derived.Test.YtimjcamgkiabdaaDoorCon
import Derived.Laws.BitsLemmas
import Derived.Laws.BitsAllLaws
import Derived.Laws.Bits64
set_option linter.unusedVariables false
set_option linter.unusedSimpArgs false
set_option maxRecDepth 100000
namespace Go.Proofs.YtimjcamgkiabdaaDoor.Ex
open Go Go.RowKit
theorem lfdiv {a b : Int} (h : 0 ≤ b) : Int.fdiv a b = a / b := Int.fdiv_eq_ediv_of_nonneg a h
theorem land_low (f : Int) (h0 : 0 ≤ f) (h1 : f < 4294967296) : ((BitVec.toNat (BitVec.ofInt 32 f &&& BitVec.ofInt 32 65535) : Nat) : Int) = f % 65536 := by
  obtain ⟨n, rfl⟩ := Int.eq_ofNat_of_zero_le h0
  rw [BitVec.toNat_and, BitVec.toNat_ofInt, BitVec.toNat_ofInt]
  have h2 : ((n : Int) % ((2 ^ 32 : Nat) : Int)).toNat = n := by
    rw [← Int.natCast_emod, Int.toNat_natCast, Nat.mod_eq_of_lt (by omega)]
  have h3 : ((65535 : Int) % ((2 ^ 32 : Nat) : Int)).toNat = 2 ^ 16 - 1 := by decide
  rw [h2, h3, Nat.and_two_pow_sub_one_eq_mod]
  omega
/-- As octet.PutLong writes them. -/
theorem lputw {f : Int} (h0 : 0 ≤ f) (h1 : f < 4294967296) :
    IntKind.wrap IntKind.u8 (Int.fdiv (IntKind.wrap IntKind.i64 (Int.fdiv f 65536)) 256) = f / 16777216 ∧ IntKind.wrap IntKind.u8 (IntKind.wrap IntKind.i64 (Int.fdiv f 65536)) = f / 65536 % 256 ∧
    IntKind.wrap IntKind.u8 (Int.fdiv (IntKind.wrap IntKind.i64 (IntKind.wrap IntKind.u32 ((BitVec.toNat (BitVec.ofInt 32 f &&& BitVec.ofInt 32 65535) : Nat) : Int))) 256) = f / 256 % 256 ∧ IntKind.wrap IntKind.u8 (IntKind.wrap IntKind.i64 (IntKind.wrap IntKind.u32 ((BitVec.toNat (BitVec.ofInt 32 f &&& BitVec.ofInt 32 65535) : Nat) : Int))) = f % 256 := by
  rw [land_low f h0 h1, lfdiv (by omega), lfdiv (by omega), lfdiv (by omega)]
  simp only [IntKind.wrap_u8, IntKind.wrap_i64, IntKind.wrap_u32]
  omega
/-- As the references write them. -/
theorem lrefw {f : Int} (h0 : 0 ≤ f) (h1 : f < 4294967296) :
    IntKind.wrap IntKind.u8 (IntKind.wrap IntKind.u32 (Int.tdiv f 16777216)) = f / 16777216 ∧ IntKind.wrap IntKind.u8 (Int.tmod (IntKind.wrap IntKind.u32 (Int.tdiv f 65536)) 256) = f / 65536 % 256 ∧ IntKind.wrap IntKind.u8 (Int.tmod (IntKind.wrap IntKind.u32 (Int.tdiv f 256)) 256) = f / 256 % 256 ∧ IntKind.wrap IntKind.u8 (Int.tmod f 256) = f % 256 := by
  rw [Int.tdiv_eq_ediv_of_nonneg h0, Int.tdiv_eq_ediv_of_nonneg h0, Int.tdiv_eq_ediv_of_nonneg h0, Int.tmod_eq_emod_of_nonneg h0]
  simp only [IntKind.wrap_u8, IntKind.wrap_u32]
  rw [Int.tmod_eq_emod_of_nonneg (by omega), Int.tmod_eq_emod_of_nonneg (by omega)]
  omega
end Go.Proofs.YtimjcamgkiabdaaDoor.Ex
