/- A byte turned is found. No conditions but those that each names. -/
import Derived.Test.YtnlinnjpkjmpaaaDoorIpBd
set_option linter.unusedVariables false
set_option linter.unusedSimpArgs false
set_option maxRecDepth 100000
namespace Go.Proofs.YtnlinnjpkjmpaaaDoor.Ex
open Go Go.RowKit
/-- A byte that is not the first one is turned: it is no packet, or its sum is wrong. -/
structure FindOk (R : RdF) (pk : PkF) : Prop where
  bad : ∀ id a life kind whole more frm to len L k v n, okP id a life kind frm to → len ≤ 65515 → L.length = len → 1 ≤ k → k ≤ 19 → 0 ≤ v → v ≤ 255 → v ≠ numAt (pk id a life kind whole more frm to len L) k → R.ok n ((pk id a life kind whole more frm to len L).set k (.int .u8 v)) → R.right ((pk id a life kind whole more frm to len L).set k (.int .u8 v)) = false
theorem canon_other {t d : Int} (h0 : 0 ≤ t) (h1 : 0 ≤ t + d) (hd : d ≠ 0) (hl : -65535 < d) (hu : d < 65535) (h : Plain.canon t = 65535) : Plain.canon (t + d) ≠ 65535 := by
  unfold Plain.canon at h ⊢
  split at h <;> split <;> omega
theorem hdT_turn (n pl id life kind frm to s v : Int) {k : Nat} (h1 : 1 ≤ k) (h2 : k ≤ 19) : ∃ c : Int, (c = v - numAt (hdT n pl id life kind frm to s []) k ∨ c = 256 * (v - numAt (hdT n pl id life kind frm to s []) k)) ∧ Plain.words (numsOf ((hdT n pl id life kind frm to s []).set k (.int .u8 v))) = Plain.words (numsOf (hdT n pl id life kind frm to s [])) + c := by
  have hk : k = 1 ∨ k = 2 ∨ k = 3 ∨ k = 4 ∨ k = 5 ∨ k = 6 ∨ k = 7 ∨ k = 8 ∨ k = 9 ∨ k = 10 ∨ k = 11 ∨ k = 12 ∨ k = 13 ∨ k = 14 ∨ k = 15 ∨ k = 16 ∨ k = 17 ∨ k = 18 ∨ k = 19 := by omega
  rcases hk with rfl | rfl | rfl | rfl | rfl | rfl | rfl | rfl | rfl | rfl | rfl | rfl | rfl | rfl | rfl | rfl | rfl | rfl | rfl
  all_goals first
    | (refine ⟨_, .inl rfl, ?_⟩; simp only [hdT, numsOf, List.set_cons_zero, List.set_cons_succ, List.map_cons, List.map_nil, numOf, Plain.words, numAt, List.getD_cons_zero, List.getD_cons_succ]; omega)
    | (refine ⟨_, .inr rfl, ?_⟩; simp only [hdT, numsOf, List.set_cons_zero, List.set_cons_succ, List.map_cons, List.map_nil, numOf, Plain.words, numAt, List.getD_cons_zero, List.getD_cons_succ]; omega)
theorem byt_set {L : List Value} (h : Byt L) {k : Nat} {v : Int} (v0 : 0 ≤ v) (v1 : v ≤ 255) : Byt (L.set k (.int .u8 v)) := fun x hx => by
  rcases List.mem_or_eq_of_mem_set hx with hx | rfl
  · exact h x hx
  · exact ⟨v, rfl, v0, v1⟩
theorem set_take20 (n pl id life kind frm to s : Int) (T : List Value) (x : Value) {k : Nat} (h2 : k ≤ 19) : ((hdT n pl id life kind frm to s T).set k x).take 20 = (hdT n pl id life kind frm to s []).set k x := by
  rw [List.take_set]
  rfl
theorem set_hl (n pl id life kind frm to s : Int) (T : List Value) (x : Value) {k : Nat} (h1 : 1 ≤ k) : hl ((hdT n pl id life kind frm to s T).set k x) = 20 := by
  obtain ⟨k, rfl⟩ : ∃ j, k = j + 1 := ⟨k - 1, by omega⟩
  rfl
theorem numAt_hd (n pl id life kind frm to s : Int) (T : List Value) {k : Nat} (h2 : k ≤ 19) : numAt (hdT n pl id life kind frm to s T) k = numAt (hdT n pl id life kind frm to s []) k := by
  have e : hdT n pl id life kind frm to s T = hdT n pl id life kind frm to s [] ++ T := (hdT_app _ _ _ _ _ _ _ _ [] T).symm
  have h : k < (hdT n pl id life kind frm to s []).length := by rw [hdT_len]; simp; omega
  rw [e]
  unfold numAt
  rw [List.getD_eq_getElem?_getD, List.getD_eq_getElem?_getD, List.getElem?_append_left h]
theorem findOk : FindOk R0 (pkOf sumL) where
  bad id a life kind whole more frm to len L k v n h hl' hL hk1 hk2 v0 v1 hv hok := by
    obtain ⟨g1, g2, g3, g4, g5, g6, g7, g8, g9, g10, g11, g12⟩ := h
    have hp := plc_range (w := whole) (m := more) g3 g4
    unfold pkOf at hv ⊢
    show (sumL (List.take (hl _) _) == 65535) = false
    rw [set_hl _ _ _ _ _ _ _ _ _ _ hk1, set_take20 _ _ _ _ _ _ _ _ _ _ hk2]
    rw [numAt_hd _ _ _ _ _ _ _ _ _ hk2] at hv
    have hs := sumL_range (hdT (20 + (len : Int)) (plc a whole more) id life kind frm to 0 [])
    have hb0 : Byt (hdT (20 + (len : Int)) (plc a whole more) id life kind frm to 0 []) := hdT_byt (by omega) (by omega) ⟨g1, g2⟩ ⟨g5, g6⟩ ⟨g7, g8⟩ ⟨g9, g10⟩ ⟨g11, g12⟩ (by omega) .nil
    have hz := hdT_sum (n := 20 + (len : Int)) (pl := plc a whole more) (id := id) (life := life) (kind := kind) (frm := frm) (to := to) (Plain.words_nonneg _ fun x hx => (hb0.range x hx).1)
    have hs2 : 0 ≤ 65535 - sumL (hdT (20 + (len : Int)) (plc a whole more) id life kind frm to 0 []) ∧ 65535 - sumL (hdT (20 + (len : Int)) (plc a whole more) id life kind frm to 0 []) ≤ 65535 := by omega
    clear hs
    revert hz hv hs2
    generalize 65535 - sumL (hdT (20 + (len : Int)) (plc a whole more) id life kind frm to 0 []) = s
    intro hv hz hs2
    have hb : Byt (hdT (20 + (len : Int)) (plc a whole more) id life kind frm to s []) := hdT_byt (by omega) (by omega) ⟨g1, g2⟩ ⟨g5, g6⟩ ⟨g7, g8⟩ ⟨g9, g10⟩ ⟨g11, g12⟩ hs2 .nil
    have ho := hb.rangeAt k
    have ht0 := Plain.words_nonneg _ fun x hx => (hb.range x hx).1
    have ht1 := Plain.words_nonneg _ fun x hx => ((byt_set hb (k := k) v0 v1).range x hx).1
    obtain ⟨c, hc, e⟩ := hdT_turn (20 + (len : Int)) (plc a whole more) id life kind frm to s v hk1 hk2
    refine beq_eq_false_iff_ne.2 ?_
    unfold sumL at hz ⊢
    rw [e] at ht1 ⊢
    exact canon_other ht0 ht1 (by omega) (by omega) (by omega) hz
/-! ### The byte that is turned -/
theorem byt_at {L : List Value} (h : Byt L) {k : Nat} (hk : k < L.length) : L[k]? = some (.int .u8 (numAt L k)) := by
  obtain ⟨n, e, _, _⟩ := h L[k] (List.getElem_mem hk)
  have : numAt L k = n := by unfold numAt; rw [List.getD_eq_getElem?_getD, List.getElem?_eq_getElem hk, e]; rfl
  rw [List.getElem?_eq_getElem hk, this, e]
theorem set_nth {α : Type} : ∀ {L : List α} {k : Nat} {x : α}, k < L.length → setNth L k x = some (L.set k x)
  | [], _, _, h => absurd h (by simp)
  | y :: r, 0, x, _ => rfl
  | y :: r, k + 1, x, h => by rw [setNth_succ, set_nth (by simpa using h)]; rfl
theorem set_many_one {L : List Value} {k : Nat} {x : Value} (h : k < L.length) : setMany L k [x] = some (L.set k x) := by
  have e : setNth L k x = some (L.set k x) := set_nth h
  simp only [setMany, e]

theorem xor_other {a b : Int} (ha : 0 ≤ a ∧ a ≤ 255) (hb : 0 ≤ b ∧ b ≤ 255) (h0 : b ≠ 0) : 0 ≤ IntKind.wrap IntKind.u8 (↑(BitVec.toNat (BitVec.ofInt 8 a ^^^ BitVec.ofInt 8 b)) : Int) ∧ IntKind.wrap IntKind.u8 (↑(BitVec.toNat (BitVec.ofInt 8 a ^^^ BitVec.ofInt 8 b)) : Int) ≤ 255 ∧ IntKind.wrap IntKind.u8 (↑(BitVec.toNat (BitVec.ofInt 8 a ^^^ BitVec.ofInt 8 b)) : Int) ≠ a := by
  obtain ⟨a, rfl⟩ := Int.eq_ofNat_of_zero_le ha.1
  obtain ⟨b, rfl⟩ := Int.eq_ofNat_of_zero_le hb.1
  have e : BitVec.toNat (BitVec.ofInt 8 (a : Int) ^^^ BitVec.ofInt 8 (b : Int)) = a ^^^ b := by
    rw [BitVec.toNat_xor, BitVec.toNat_ofInt, BitVec.toNat_ofInt, ← Int.natCast_emod, Int.toNat_natCast, ← Int.natCast_emod, Int.toNat_natCast, Nat.mod_eq_of_lt (by omega), Nat.mod_eq_of_lt (by omega)]
  rw [e]
  have hlt : a ^^^ b < 2 ^ 8 := Nat.xor_lt_two_pow (by omega) (by omega)
  have hne : a ^^^ b ≠ a := fun h => by
    have h2 : a ^^^ (a ^^^ b) = b := by rw [← Nat.xor_assoc, Nat.xor_self, Nat.zero_xor]
    rw [h, Nat.xor_self] at h2
    omega
  simp only [IntKind.wrap_u8]
  omega
end Go.Proofs.YtnlinnjpkjmpaaaDoor.Ex
