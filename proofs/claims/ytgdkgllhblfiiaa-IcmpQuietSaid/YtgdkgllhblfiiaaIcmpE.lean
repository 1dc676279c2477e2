/- What icmp reads: the words. No conditions but those that each names. -/
import Derived.Test.YtgdkgllhblfiiaaIcmp
set_option linter.unusedVariables false
set_option linter.unusedSimpArgs false
set_option maxRecDepth 100000
namespace Go.Proofs.Ytgdkgllhblfiiaa.Ex
open Go Go.RowKit

theorem or_bits (w x y k : Nat) (hy : y < 2 ^ k) (hx : x * 2 ^ k + y < 2 ^ w) : BitVec.toNat (BitVec.ofInt w ((x * 2 ^ k : Nat) : Int) ||| BitVec.ofInt w (y : Int)) = x * 2 ^ k + y := by
  rw [BitVec.toNat_or, BitVec.toNat_ofInt, BitVec.toNat_ofInt]
  have h1 : ((((x * 2 ^ k : Nat) : Int)) % ((2 ^ w : Nat) : Int)).toNat = x * 2 ^ k := by
    rw [← Int.natCast_emod, Int.toNat_natCast, Nat.mod_eq_of_lt (by omega)]
  have h2 : ((y : Int) % ((2 ^ w : Nat) : Int)).toNat = y := by
    rw [← Int.natCast_emod, Int.toNat_natCast, Nat.mod_eq_of_lt (by omega)]
  rw [h1, h2, ← Nat.shiftLeft_eq, ← Nat.shiftLeft_add_eq_or_of_lt hy]
/-- Four bytes as a number. -/
def restOf (L : List Value) : Int := 16777216 * numAt L 4 + 65536 * numAt L 5 + 256 * numAt L 6 + numAt L 7
theorem long_code {a b c d : Int} (ha : 0 ≤ a ∧ a ≤ 255) (hb : 0 ≤ b ∧ b ≤ 255) (hc : 0 ≤ c ∧ c ≤ 255) (hd : 0 ≤ d ∧ d ≤ 255) :
    IntKind.wrap IntKind.u32 (↑(BitVec.toNat (BitVec.ofInt 32 (IntKind.wrap IntKind.u32 (IntKind.wrap IntKind.u32 (IntKind.wrap IntKind.i64 (↑(BitVec.toNat (BitVec.ofInt 64 (IntKind.wrap IntKind.i64 (IntKind.wrap IntKind.i64 a * 256)) ||| BitVec.ofInt 64 (IntKind.wrap IntKind.i64 b))) : Int)) * 65536)) ||| BitVec.ofInt 32 (IntKind.wrap IntKind.u32 (IntKind.wrap IntKind.i64 (↑(BitVec.toNat (BitVec.ofInt 64 (IntKind.wrap IntKind.i64 (IntKind.wrap IntKind.i64 c * 256)) ||| BitVec.ofInt 64 (IntKind.wrap IntKind.i64 d))) : Int))))) : Int) = 16777216 * a + 65536 * b + 256 * c + d := by
  obtain ⟨a, rfl⟩ := Int.eq_ofNat_of_zero_le ha.1
  obtain ⟨b, rfl⟩ := Int.eq_ofNat_of_zero_le hb.1
  obtain ⟨c, rfl⟩ := Int.eq_ofNat_of_zero_le hc.1
  obtain ⟨d, rfl⟩ := Int.eq_ofNat_of_zero_le hd.1
  simp only [IntKind.wrap_i64, IntKind.wrap_u32]
  have e1 : ∀ x : Nat, (x : Int) ≤ 255 → (((x : Int) + 9223372036854775808) % 18446744073709551616 - 9223372036854775808) = (x : Int) := fun x h => by omega
  have e2 : ∀ x : Nat, (x : Int) ≤ 255 → (((x : Int) * 256 + 9223372036854775808) % 18446744073709551616 - 9223372036854775808) = ((x * 2 ^ 8 : Nat) : Int) := fun x h => by omega
  rw [e1 a ha.2, e1 b hb.2, e1 c hc.2, e1 d hd.2, e2 a ha.2, e2 c hc.2, or_bits 64 a b 8 (by omega) (by omega), or_bits 64 c d 8 (by omega) (by omega)]
  have e3 : ((((((a * 2 ^ 8 + b : Nat) : Int) + 9223372036854775808) % 18446744073709551616 - 9223372036854775808) % 4294967296 * 65536) % 4294967296) = (((a * 256 + b) * 2 ^ 16 : Nat) : Int) := by omega
  have e4 : (((((c * 2 ^ 8 + d : Nat) : Int) + 9223372036854775808) % 18446744073709551616 - 9223372036854775808) % 4294967296) = ((c * 256 + d : Nat) : Int) := by omega
  rw [e3, e4, or_bits 32 (a * 256 + b) (c * 256 + d) 16 (by omega) (by omega)]
  omega
theorem long_ref {a b c d : Int} (ha : 0 ≤ a ∧ a ≤ 255) (hb : 0 ≤ b ∧ b ≤ 255) (hc : 0 ≤ c ∧ c ≤ 255) (hd : 0 ≤ d ∧ d ≤ 255) :
    IntKind.wrap IntKind.u32 (IntKind.wrap IntKind.u32 (IntKind.wrap IntKind.u32 (IntKind.wrap IntKind.u32 (16777216 * IntKind.wrap IntKind.u32 a) + IntKind.wrap IntKind.u32 (65536 * IntKind.wrap IntKind.u32 b)) + IntKind.wrap IntKind.u32 (256 * IntKind.wrap IntKind.u32 c)) + IntKind.wrap IntKind.u32 d) = 16777216 * a + 65536 * b + 256 * c + d := by
  simp only [IntKind.wrap_u32]; omega
/-- Nothing lies behind, in a row of one's own. -/
def tailQ (sp : Option Nat) (off len n : Nat) : Prop := match sp with
  | none => True
  | some _ => n ≤ off + len
noncomputable def tailS (x : Value) (h : T HO) : Option Prop := match x with
  | .slice (some ⟨id, off, sp⟩) len _ => (match tget h id with | some o => some (tailQ sp off len o.cells.length) | none => none)
  | _ => some True
noncomputable def ireadV : Ent := fun j args h n => match args with
  | [x] => match winS x h, tailS x h with
    | some (len, L, p), some tl => match j with
      | 0 => some (⟨.tuple #[.agg #[.int .i64 (numAt L 0), .int .i64 (numAt L 1), .int .u32 (restOf L), .slice (some ⟨n, 0, some 0⟩) (len - 8) 0], .int .i64 0], tput h n (some (rowO (L.drop 8) 5 true)), n + 1, [n]⟩, p ∧ Byt L ∧ len ≤ 100000 ∧ 8 ≤ len ∧ sumL L = 65535 ∧ tl)
      | _ => some (⟨.tuple #[.agg #[.int .i64 0, .int .i64 0, .int .u32 0, .slice none 0 0], .int .i64 90], h, n, []⟩, p ∧ Byt L ∧ len ≤ 100000 ∧ (len < 8 ∨ sumL L ≠ 65535))
    | _, _ => none
  | _ => none
theorem iread_det : EntDet ireadV := fun args h n j j' r r' p p' e hp e' hp' => by
  unfold ireadV at e e'
  split at e
  case h_2 => cases e
  rename_i x
  split at e
  case h_2 => cases e
  rename_i len L q tl hw ht
  simp only [hw, ht] at e'
  rcases j with _ | j <;> rcases j' with _ | j' <;> simp only [Option.some.injEq, Prod.mk.injEq] at e e' <;> obtain ⟨rfl, rfl⟩ := e <;> obtain ⟨rfl, rfl⟩ := e' <;> first | rfl | (exfalso; omega)
theorem sumL_zero (L : List Value) : Plain.canon (0 + Plain.words (numsOf L)) = sumL L := by rw [Int.zero_add]; rfl
theorem renV_tup {σ : Nat → Option Nat} {k n m m' : Nat} {x y r x' y' r' : Int} {e : Int} (hk : σ k = some n) (h1 : x = x') (h2 : y = y') (h3 : r = r') (h4 : m = m') :
    renV σ 3 (.tuple #[.agg #[.int .i64 x, .int .i64 y, .int .u32 r, .slice (some ⟨k, 0, some 0⟩) m 0], .int .i64 e]) = some (.tuple #[.agg #[.int .i64 x', .int .i64 y', .int .u32 r', .slice (some ⟨n, 0, some 0⟩) m' 0], .int .i64 e]) := by
  subst h1 h2 h3 h4
  simp [renV, optL_cons, optL_nil, hk]
end Go.Proofs.Ytgdkgllhblfiiaa.Ex
