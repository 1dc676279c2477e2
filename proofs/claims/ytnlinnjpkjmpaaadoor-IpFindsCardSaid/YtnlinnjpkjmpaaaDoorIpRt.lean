/- What ip reads: the numbers. No conditions but those that each names. -/
import Derived.Test.YtnlinnjpkjmpaaaDoorIpRq
set_option linter.unusedVariables false
set_option linter.unusedSimpArgs false
set_option maxRecDepth 100000
namespace Go.Proofs.YtnlinnjpkjmpaaaDoor.Ex
open Go Go.RowKit
theorem and_lit (a m w : Nat) (ha : a < 2 ^ w) (hm : m < 2 ^ w) : BitVec.toNat (BitVec.ofInt w (a : Int) &&& BitVec.ofInt w (m : Int)) = a &&& m := by
  rw [BitVec.toNat_and, BitVec.toNat_ofInt, BitVec.toNat_ofInt, ← Int.natCast_emod, Int.toNat_natCast, ← Int.natCast_emod, Int.toNat_natCast, Nat.mod_eq_of_lt ha, Nat.mod_eq_of_lt hm]
theorem and_bit (a i : Nat) : a &&& 2 ^ i = (a / 2 ^ i % 2) * 2 ^ i := by
  refine Nat.eq_of_testBit_eq fun j => ?_
  have hb : a.testBit i = decide (a / 2 ^ i % 2 = 1) := Nat.testBit_eq_decide_div_mod_eq
  rw [Nat.testBit_and, Nat.testBit_two_pow]
  rcases Nat.mod_two_eq_zero_or_one (a / 2 ^ i) with h | h
  · rw [h, Nat.zero_mul, Nat.zero_testBit]
    by_cases hj : i = j
    · subst hj; rw [hb, h]; rfl
    · rw [decide_eq_false hj, Bool.and_false]
  · rw [h, Nat.one_mul, Nat.testBit_two_pow]
    by_cases hj : i = j
    · subst hj; rw [hb, h]; rfl
    · rw [decide_eq_false hj, Bool.and_false]
theorem words4 {b : Int} (h : 0 ≤ b ∧ b ≤ 255) : IntKind.wrap IntKind.i64 (IntKind.wrap IntKind.i64 (IntKind.wrap IntKind.u8 (↑(BitVec.toNat (BitVec.ofInt 8 b &&& BitVec.ofInt 8 15)) : Int)) * 4) = b % 16 * 4 := by
  obtain ⟨b, rfl⟩ := Int.eq_ofNat_of_zero_le h.1
  have e := and_lit b 15 8 (by omega) (by omega)
  have e2 := Nat.and_two_pow_sub_one_eq_mod b 4
  have e3 : ((2 : Nat) ^ 4 - 1) = 15 := by decide
  rw [e3] at e2
  have e' : BitVec.toNat (BitVec.ofInt 8 (b : Int) &&& BitVec.ofInt 8 15) = b % 16 := by rw [show (15 : Int) = ((15 : Nat) : Int) from rfl, e, e2]
  rw [e']
  simp only [IntKind.wrap_i64, IntKind.wrap_u8]
  omega
theorem rwords4 {b : Int} (h : 0 ≤ b ∧ b ≤ 255) : IntKind.wrap IntKind.i64 (4 * IntKind.wrap IntKind.i64 (Int.tmod b 16)) = b % 16 * 4 := by
  rw [Int.tmod_eq_emod_of_nonneg h.1]; simp only [IntKind.wrap_i64]; omega
theorem and64 {x : Int} (m : Nat) (h : 0 ≤ x ∧ x ≤ 65535) (hm : m < 65536) : ∃ n : Nat, x = n ∧ IntKind.wrap IntKind.i64 (↑(BitVec.toNat (BitVec.ofInt 64 x &&& BitVec.ofInt 64 (m : Int))) : Int) = ((n &&& m : Nat) : Int) := by
  obtain ⟨n, rfl⟩ := Int.eq_ofNat_of_zero_le h.1
  refine ⟨n, rfl, ?_⟩
  have e := and_lit n m 64 (by omega) (by omega)
  rw [e]
  have : (n &&& m) ≤ n := Nat.and_le_left
  simp only [IntKind.wrap_i64]
  omega
theorem place_low {x : Int} (h : 0 ≤ x ∧ x ≤ 65535) : IntKind.wrap IntKind.i64 (↑(BitVec.toNat (BitVec.ofInt 64 x &&& BitVec.ofInt 64 8191)) : Int) = x % 8192 := by
  obtain ⟨n, rfl, e⟩ := and64 8191 h (by omega)
  have e2 := Nat.and_two_pow_sub_one_eq_mod n 13
  have e3 : ((2 : Nat) ^ 13 - 1) = 8191 := by decide
  rw [e3] at e2
  refine e.trans ?_
  rw [e2]; omega
theorem place_high {x : Int} (h : 0 ≤ x ∧ x ≤ 65535) : (IntKind.wrap IntKind.i64 (↑(BitVec.toNat (BitVec.ofInt 64 x &&& BitVec.ofInt 64 32768)) : Int) != 0) = decide (32768 ≤ x) := by
  obtain ⟨n, rfl, e⟩ := and64 32768 h (by omega)
  have e2 := and_bit n 15
  have e3 : ((2 : Nat) ^ 15) = 32768 := by decide
  rw [e3] at e2
  replace e : IntKind.wrap IntKind.i64 (↑(BitVec.toNat (BitVec.ofInt 64 (n : Int) &&& BitVec.ofInt 64 32768)) : Int) = ((n &&& 32768 : Nat) : Int) := e
  rw [e, e2]
  by_cases hb : 32768 ≤ (n : Int)
  · rw [decide_eq_true hb]; simp only [bne_iff_ne, ne_eq]; omega
  · rw [decide_eq_false hb]; simp only [bne_eq_false_iff_eq]; omega
theorem place_whole {x : Int} (h : 0 ≤ x ∧ x ≤ 65535) : (IntKind.wrap IntKind.i64 (↑(BitVec.toNat (BitVec.ofInt 64 x &&& BitVec.ofInt 64 16384)) : Int) != 0) = decide (16384 ≤ x % 32768) := by
  obtain ⟨n, rfl, e⟩ := and64 16384 h (by omega)
  have e2 := and_bit n 14
  have e3 : ((2 : Nat) ^ 14) = 16384 := by decide
  rw [e3] at e2
  replace e : IntKind.wrap IntKind.i64 (↑(BitVec.toNat (BitVec.ofInt 64 (n : Int) &&& BitVec.ofInt 64 16384)) : Int) = ((n &&& 16384 : Nat) : Int) := e
  rw [e, e2]
  by_cases hb : 16384 ≤ (n : Int) % 32768
  · rw [decide_eq_true hb]; simp only [bne_iff_ne, ne_eq]; omega
  · rw [decide_eq_false hb]; simp only [bne_eq_false_iff_eq]; omega
theorem place_more {x : Int} (h : 0 ≤ x ∧ x ≤ 65535) : (IntKind.wrap IntKind.i64 (↑(BitVec.toNat (BitVec.ofInt 64 x &&& BitVec.ofInt 64 8192)) : Int) != 0) = decide (8192 ≤ x % 16384) := by
  obtain ⟨n, rfl, e⟩ := and64 8192 h (by omega)
  have e2 := and_bit n 13
  have e3 : ((2 : Nat) ^ 13) = 8192 := by decide
  rw [e3] at e2
  replace e : IntKind.wrap IntKind.i64 (↑(BitVec.toNat (BitVec.ofInt 64 (n : Int) &&& BitVec.ofInt 64 8192)) : Int) = ((n &&& 8192 : Nat) : Int) := e
  rw [e, e2]
  by_cases hb : 8192 ≤ (n : Int) % 16384
  · rw [decide_eq_true hb]; simp only [bne_iff_ne, ne_eq]; omega
  · rw [decide_eq_false hb]; simp only [bne_eq_false_iff_eq]; omega
theorem ref_whole {x : Int} (h : 0 ≤ x ∧ x ≤ 65535) : (Int.tmod (IntKind.wrap IntKind.i64 (Int.tdiv x 16384)) 2 == 1) = decide (16384 ≤ x % 32768) := by
  rw [Int.tdiv_eq_ediv_of_nonneg h.1]
  have e : IntKind.wrap IntKind.i64 (x / 16384) = x / 16384 := by simp only [IntKind.wrap_i64]; omega
  rw [e, Int.tmod_eq_emod_of_nonneg (by omega)]
  by_cases hb : 16384 ≤ x % 32768
  · rw [decide_eq_true hb]; simp only [beq_iff_eq]; omega
  · rw [decide_eq_false hb]; simp only [beq_eq_false_iff_ne, ne_eq]; omega
theorem ref_more {x : Int} (h : 0 ≤ x ∧ x ≤ 65535) : (Int.tmod (IntKind.wrap IntKind.i64 (Int.tdiv x 8192)) 2 == 1) = decide (8192 ≤ x % 16384) := by
  rw [Int.tdiv_eq_ediv_of_nonneg h.1]
  have e : IntKind.wrap IntKind.i64 (x / 8192) = x / 8192 := by simp only [IntKind.wrap_i64]; omega
  rw [e, Int.tmod_eq_emod_of_nonneg (by omega)]
  by_cases hb : 8192 ≤ x % 16384
  · rw [decide_eq_true hb]; simp only [beq_iff_eq]; omega
  · rw [decide_eq_false hb]; simp only [beq_eq_false_iff_ne, ne_eq]; omega
theorem wd0_win {oc : List Value} {off len k : Nat} (hk : k + 2 ≤ len) : wd0 (List.take 2 (List.drop (off + k) oc)) 0 = wd0 (List.take len (List.drop off oc)) (k : Int) := by
  unfold wd0
  have z : (0 : Int).toNat = 0 := rfl
  rw [Int.toNat_natCast, z, numAt_win (by omega), numAt_win (by omega), numAt_win (by omega), numAt_win (by omega)]
  rfl
/-- Way 2: where all tests are passed, it is none. -/
theorem high_of {W : List Value} {len : Nat} {b e : Int} (hB : Byt W) (hb : numAt W 0 = b) (he : e = (hl W : Int)) (hbad : ¬ R0.ok len W) (hb0 : decide ((len : Int) < 20) = false) (hb1 : (Int.fdiv b 16 != 4) = false) (hb2 : decide (e < 20) = false) (hb3 : decide (e > (len : Int)) = false) (hb4 : decide (wd0 W 2 < e) = false) (hb5 : decide (wd0 W 2 > (len : Int)) = false) : 32768 ≤ wd0 W 6 := by
  have hr := hB.rangeAt 0
  simp only [decide_eq_false_iff_not, bne_eq_false_iff_eq] at hb0 hb1 hb2 hb3 hb4 hb5
  rw [fdivp (by omega)] at hb1
  subst he
  refine Decidable.byContradiction fun h => hbad ⟨by omega, by omega, by omega, by omega, by omega, by omega, by omega, by omega⟩
theorem byte64 {x : Int} (h : 0 ≤ x ∧ x ≤ 255) : IntKind.wrap IntKind.i64 x = x := by simp only [IntKind.wrap_i64]; omega
theorem bif_no {a c x y : Nat} (h : a ≠ c) : (bif Nat.beq a c then x else y) = y := by rw [beq_no h]; rfl
theorem renV_pk {σ : Nat → Option Nat} {k n m m' : Nat} {a b c d f g a' b' c' d' f' g' e : Int} {w x w' x' : Bool} (hk : σ k = some n) (h1 : a = a') (h2 : b = b') (h3 : c = c') (h4 : d = d') (h5 : w = w') (h6 : x = x') (h7 : f = f') (h8 : g = g') (h9 : m = m') :
    renV σ 3 (.tuple #[.agg #[.int .i64 a, .int .i64 b, .int .i64 c, .int .i64 d, .bool w, .bool x, .int .u32 f, .int .u32 g, .slice (some ⟨k, 0, some 0⟩) m 0], .int .i64 e]) = some (.tuple #[.agg #[.int .i64 a', .int .i64 b', .int .i64 c', .int .i64 d', .bool w', .bool x', .int .u32 f', .int .u32 g', .slice (some ⟨n, 0, some 0⟩) m' 0], .int .i64 e]) := by
  subst h1 h2 h3 h4 h5 h6 h7 h8 h9
  simp [renV, optL_cons, optL_nil, hk]
theorem ren_same {σ : Nat → Option Nat} {L : List Value} {t : TypeId} {o1 : HO} (hB : Byt L) (e : o1 = rowO L t true) : renO σ o1 (rowO L t true) := by
  rw [e]
  exact renO_row rfl rfl hB.noIds
end Go.Proofs.YtnlinnjpkjmpaaaDoor.Ex
