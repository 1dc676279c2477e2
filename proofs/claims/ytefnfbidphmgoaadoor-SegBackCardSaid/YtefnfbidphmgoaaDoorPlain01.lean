/- Plain facts on sums that go round: the number that a sum comes to, and that it hangs on the sum modulo 65535 alone. No conditions but that sums are not negative. -/
import Derived.Laws.BitsAllLaws
set_option linter.unusedVariables false
set_option linter.unusedSimpArgs false
namespace Go.Proofs.YtefnfbidphmgoaaDoor.Plain

/-- What a sum comes to. -/
def canon (t : Int) : Int := if t = 0 then 0 else (t - 1) % 65535 + 1

theorem canon_range (t : Int) : 0 ≤ canon t ∧ canon t ≤ 65535 := by unfold canon; split <;> omega
theorem canon_small (t : Int) (h0 : 0 ≤ t) (h : t < 65536) : canon t = t := by unfold canon; split <;> omega
theorem canon_step (t : Int) (h0 : 0 ≤ t) : canon (t / 65536 + t % 65536) = canon t := by unfold canon; split <;> split <;> omega
theorem canon_step' (t : Int) (h0 : 0 ≤ t) : canon (t % 65536 + t / 65536) = canon t := by rw [Int.add_comm]; exact canon_step t h0
theorem canon_zero (t : Int) (h0 : 0 ≤ t) : canon t = 0 ↔ t = 0 := by unfold canon; split <;> omega
theorem canon_add (a b : Int) (ha : 0 ≤ a) (hb : 0 ≤ b) : canon (canon a + b) = canon (a + b) := by
  unfold canon; split <;> split <;> split <;> omega
theorem canon_add' (a b : Int) (ha : 0 ≤ a) (hb : 0 ≤ b) : canon (a + canon b) = canon (a + b) := by
  rw [Int.add_comm, canon_add b a hb ha, Int.add_comm]

theorem u16_quo (s : Int) (h0 : 0 ≤ s) (h1 : s ≤ 65535) : IntKind.u16.wrap (s.tdiv 256) = s / 256 := by
  rw [Int.tdiv_eq_ediv_of_nonneg h0]
  simp [IntKind.wrap, IntKind.bits, IntKind.signed]
  omega
theorem and_low (t : Int) (h0 : 0 ≤ t) (h1 : t < 18446744073709551616) : bits .and .u64 t 65535 = t % 65536 := by
  rw [u64_and t 65535 h0 h1 (by omega) (by omega)]
  have h : t.toNat &&& (65535 : Int).toNat = t.toNat % 65536 := Nat.and_two_pow_sub_one_eq_mod t.toNat 16
  rw [h]; omega

theorem or_low (a b : Int) (ha : 0 ≤ a) (ha' : a < 256) (hb : 0 ≤ b) (hb' : b < 256) : bits .or .u32 (a * 256) b = a * 256 + b := by
  rw [u32_or (a * 256) b (by omega) (by omega) (by omega) (by omega)]
  have h : (a * 256).toNat ||| b.toNat = (a * 256).toNat + b.toNat := by
    have e : (a * 256).toNat = 2 ^ 8 * a.toNat := by omega
    rw [e, Nat.two_pow_add_eq_or_of_lt (by omega : b.toNat < 2 ^ 8)]
  rw [h]; omega

theorem xor_all (n : Int) (h0 : 0 ≤ n) (h1 : n ≤ 65535) : bits .xor .u16 IntKind.u16.max n = 65535 - n := by
  rw [show IntKind.u16.max = 65535 from by decide, u16_xor 65535 n (by omega) (by omega) h0 (by omega)]
  have h : (65535 : Int).toNat ^^^ n.toNat = 65535 - n.toNat := by
    have hn : n.toNat < 65536 := by omega
    generalize n.toNat = m at hn
    have e : (BitVec.allOnes 16 ^^^ BitVec.ofNat 16 m) = ~~~(BitVec.ofNat 16 m) := BitVec.allOnes_xor
    have e2 := congrArg BitVec.toNat e
    rw [BitVec.toNat_xor, BitVec.toNat_not, BitVec.toNat_allOnes, BitVec.toNat_ofNat, Nat.mod_eq_of_lt (by omega)] at e2
    exact e2
  rw [h]; omega

/-- The sum of the words of some bytes. -/
def words : List Int → Int
  | [] => 0
  | [a] => 256 * a
  | a :: b :: r => 256 * a + b + words r

theorem words_nonneg : ∀ l : List Int, (∀ x ∈ l, 0 ≤ x) → 0 ≤ words l
  | [], _ => by simp [words]
  | [a], h => by have := h a (by simp); simp [words]; omega
  | a :: b :: r, h => by
    have h1 := h a (by simp); have h2 := h b (by simp)
    have := words_nonneg r (fun x hx => h x (by simp [hx]))
    simp [words]; omega
theorem words_le : ∀ l : List Int, (∀ x ∈ l, x ≤ 255) → words l ≤ 65535 * l.length
  | [], _ => by simp [words]
  | [a], h => by have := h a (by simp); simp [words]; omega
  | a :: b :: r, h => by
    have h1 := h a (by simp); have h2 := h b (by simp)
    have := words_le r (fun x hx => h x (by simp [hx]))
    simp only [words, List.length_cons]; omega

/-- The word at an even place. -/
def wordOf (l : List Int) (i : Nat) : Int := 256 * l.getD i 0 + l.getD (i + 1) 0

theorem words_take_succ : ∀ (l : List Int) (k : Nat), 2 * k < l.length → words (l.take (2 * k + 2)) = words (l.take (2 * k)) + wordOf l (2 * k)
  | [], k, h => by simp at h
  | [a], 0, _ => by simp [words, wordOf]
  | [a], k + 1, h => by simp at h
  | a :: b :: r, 0, _ => by simp [words, wordOf]
  | a :: b :: r, k + 1, h => by
    have ih := words_take_succ r k (by simp at h; omega)
    have e1 : 2 * (k + 1) + 2 = (2 * k + 2) + 2 := by omega
    have e2 : 2 * (k + 1) = 2 * k + 2 := by omega
    rw [e1, e2]
    simp only [List.take_succ_cons, words, ih, wordOf, List.getD_cons_succ]
    omega
theorem words_take_all (l : List Int) (n : Nat) (h : l.length ≤ n) : words (l.take n) = words l := by rw [List.take_of_length_le h]
theorem words_append : ∀ (k : Nat) (a b : List Int), a.length = 2 * k → words (a ++ b) = words a + words b
  | 0, [], b, _ => by simp [words]
  | 0, _ :: _, b, h => by simp at h
  | k + 1, [], b, h => by simp at h
  | k + 1, [_], b, h => by simp at h; omega
  | k + 1, x :: y :: r, b, h => by
    have ih := words_append k r b (by simp at h; omega)
    simp only [List.cons_append, words, ih]; omega
/-- Two bytes of a word are set. -/
theorem words_set2 : ∀ (k : Nat) (l : List Int) (x y : Int), 2 * k + 1 < l.length → words ((l.set (2 * k) x).set (2 * k + 1) y) = words l - wordOf l (2 * k) + (256 * x + y)
  | _, [], _, _, h => by simp at h
  | 0, [_], _, _, h => by simp at h
  | k + 1, [_], _, _, h => by simp at h
  | 0, a :: b :: r, x, y, _ => by simp [words, wordOf]; omega
  | k + 1, a :: b :: r, x, y, h => by
    have ih := words_set2 k r x y (by simp at h; omega)
    have e : 2 * (k + 1) = 2 * k + 1 + 1 := by omega
    simp only [e, List.set_cons_succ, words, ih, wordOf, List.getD_cons_succ]
    omega
theorem words_zero : ∀ l : List Int, (∀ x ∈ l, 0 ≤ x) → words l = 0 → ∀ x ∈ l, x = 0
  | [], _, _ => by simp
  | [a], h, e => by have := h a (by simp); simp [words] at e ⊢; omega
  | a :: b :: r, h, e => by
    have h1 := h a (by simp); have h2 := h b (by simp)
    have h3 := words_nonneg r (fun x hx => h x (by simp [hx]))
    simp only [words] at e
    have ih := words_zero r (fun x hx => h x (by simp [hx])) (by omega)
    intro x hx
    simp only [List.mem_cons] at hx
    rcases hx with rfl | rfl | hx
    · omega
    · omega
    · exact ih x hx
theorem wordOf_le_words (k : Nat) (l : List Int) (h : ∀ x ∈ l, 0 ≤ x) (hk : 2 * k + 1 < l.length) : wordOf l (2 * k) ≤ words l := by
  have e := words_set2 k l 0 0 hk
  have : 0 ≤ words ((l.set (2 * k) 0).set (2 * k + 1) 0) := words_nonneg _ fun x hx => by
    rcases List.mem_or_eq_of_mem_set hx with hx | rfl
    · rcases List.mem_or_eq_of_mem_set hx with hx | rfl
      · exact h x hx
      · omega
    · omega
  omega
theorem canon_right (t : Int) (h0 : 0 ≤ t) : canon (t + (65535 - canon t)) = 65535 := by unfold canon; split <;> split <;> omega
theorem canon_turn (t was now : Int) (h0 : 0 ≤ t) (hw0 : 0 ≤ was) (hw : was ≤ t) (hw1 : was ≤ 65535) (hn0 : 0 ≤ now) :
    (0 < t - was + now → canon (canon t + (65535 - was) + now) = canon (t - was + now)) ∧ (t - was + now = 0 → canon (canon t + (65535 - was) + now) = 65535) := by
  unfold canon; split <;> split <;> split <;> omega
end Go.Proofs.YtefnfbidphmgoaaDoor.Plain
