/- What seg builds. No conditions but those that each names. -/
import Derived.Test.YtefnfbidphmgoaaDoorSgF
set_option linter.unusedVariables false
set_option linter.unusedSimpArgs false
set_option maxRecDepth 100000
set_option maxHeartbeats 2000000
namespace Go.Proofs.YtefnfbidphmgoaaDoor.Ex
open Go Go.RowKit
theorem set_nth {α : Type} : ∀ {L : List α} {k : Nat} {x : α}, k < L.length → setNth L k x = some (L.set k x)
  | [], _, _, h => absurd h (by simp)
  | y :: r, 0, x, _ => rfl
  | y :: r, k + 1, x, h => by rw [setNth_succ, set_nth (by simpa using h)]; rfl
theorem set_many_at {α : Type} : ∀ (D A Z : List α), D.length ≤ Z.length → setMany (A ++ Z) A.length D = some (A ++ D ++ Z.drop D.length)
  | [], A, Z, _ => by simp [setMany]
  | d :: D, A, [], h => by simp at h
  | d :: D, A, z :: Z, h => by
    have e : setNth (A ++ z :: Z) A.length d = some ((A ++ [d]) ++ Z) := by
      rw [set_nth (by simp)]
      simp
    simp only [setMany, e]
    have := set_many_at D (A ++ [d]) Z (by simpa using h)
    rw [List.length_append, List.length_singleton] at this
    rw [this]
    simp
theorem rep_one (z : Value) : ∀ n, rep [z] n = List.replicate n z
  | 0 => rfl
  | n + 1 => by rw [List.replicate_succ, ← rep_one z n]; rfl
theorem set_A {f t sq ak fl wi u : Int} {len : Nat} {D : List Value} (hD : D.length = len) : setMany (shL f t sq ak 80 fl wi 0 u (.int .u8 0 :: .int .u8 0 :: .int .u8 0 :: .int .u8 0 :: rep (cellsOf (Value.int IntKind.u8 0)) len)) 20 D = some (shL f t sq ak 80 fl wi 0 u (D ++ [.int .u8 0, .int .u8 0, .int .u8 0, .int .u8 0])) := by
  have e : (.int .u8 0 :: .int .u8 0 :: .int .u8 0 :: .int .u8 0 :: rep (cellsOf (Value.int IntKind.u8 0)) len : List Value) = List.replicate (len + 4) (.int .u8 0) := by
    rw [show cellsOf (Value.int IntKind.u8 0) = [Value.int IntKind.u8 0] from rfl, rep_one]; simp only [List.replicate_succ]
  rw [e]
  have := set_many_at D (shL f t sq ak 80 fl wi 0 u []) (List.replicate (len + 4) (.int .u8 0)) (by rw [List.length_replicate]; omega)
  rw [hD, List.drop_replicate, show len + 4 - len = 4 by omega] at this
  exact this
theorem set_C {f t sq ak fl wi u gr : Int} {len : Nat} {D : List Value} (hD : D.length = len) : setMany (shL f t sq ak 96 fl wi 0 u (opG gr (rep (cellsOf (Value.int IntKind.u8 0)) len))) 24 D = some (shL f t sq ak 96 fl wi 0 u (opG gr D)) := by
  rw [show cellsOf (Value.int IntKind.u8 0) = [Value.int IntKind.u8 0] from rfl, rep_one]
  have := set_many_at D (shL f t sq ak 96 fl wi 0 u (opG gr [])) (List.replicate len (.int .u8 0)) (by rw [List.length_replicate]; omega)
  rw [hD, List.drop_replicate, show len - len = 0 by omega] at this
  rw [show some (shL f t sq ak 96 fl wi 0 u (opG gr D)) = some (shL f t sq ak 96 fl wi 0 u (opG gr []) ++ D ++ List.replicate 0 (Value.int .u8 0)) by rw [List.replicate_zero, List.append_nil]; rfl]
  exact this
theorem and_16 {s : Int} (h : 0 ≤ s ∧ s < 4294967296) : ((BitVec.toNat (BitVec.ofInt 32 s &&& BitVec.ofInt 32 65535) : Nat) : Int) = s % 65536 := by
  obtain ⟨a, rfl⟩ := Int.eq_ofNat_of_zero_le h.1
  have h2 : ((a : Nat) : Int) < 4294967296 := h.2
  have h1 : (((a : Nat) : Int) % ((2 ^ 32 : Nat) : Int)).toNat = a := by omega
  rw [BitVec.toNat_and, BitVec.toNat_ofInt, BitVec.toNat_ofInt, h1]
  rw [show ((65535 : Int) % ((2 ^ 32 : Nat) : Int)).toNat = 2 ^ 16 - 1 from rfl, Nat.and_two_pow_sub_one_eq_mod]
  omega
theorem raw_long {s : Int} (h : 0 ≤ s ∧ s < 4294967296) : IntKind.wrap IntKind.u8 (Int.fdiv (IntKind.wrap IntKind.i64 (Int.fdiv s 65536)) 256) = s / 16777216 ∧ IntKind.wrap IntKind.u8 (IntKind.wrap IntKind.i64 (Int.fdiv s 65536)) = s / 65536 % 256 ∧ IntKind.wrap IntKind.u8 (Int.fdiv (IntKind.wrap IntKind.i64 (IntKind.wrap IntKind.u32 ((BitVec.toNat (BitVec.ofInt 32 s &&& BitVec.ofInt 32 65535) : Nat) : Int))) 256) = s / 256 % 256 ∧ IntKind.wrap IntKind.u8 (IntKind.wrap IntKind.i64 (IntKind.wrap IntKind.u32 ((BitVec.toNat (BitVec.ofInt 32 s &&& BitVec.ofInt 32 65535) : Nat) : Int))) = s % 256 := by
  rw [and_16 h, wrap32 (s := s % 65536) (by omega), Int.fdiv_eq_ediv_of_nonneg (b := 65536) _ (by omega)]
  obtain ⟨a1, a2, a3⟩ := raw_word (n := s / 65536) (by omega)
  obtain ⟨b1, b2, b3⟩ := raw_word (n := s % 65536) (by omega)
  rw [a3, a1, a2, b3, b1, b2]
  refine ⟨?_, ?_, ?_, ?_⟩ <;> omega
theorem raw_flag {n : Int} (h : 0 ≤ n ∧ n ≤ 63) : IntKind.wrap IntKind.u8 n = n := by simp only [IntKind.wrap_u8]; omega
theorem raw_sum {n : Int} (h : 0 ≤ n ∧ n ≤ 65535) : IntKind.wrap IntKind.u8 (Int.fdiv (IntKind.wrap IntKind.i64 n) 256) = n / 256 ∧ IntKind.wrap IntKind.u8 (IntKind.wrap IntKind.i64 n) = n % 256 := by
  obtain ⟨a1, a2, a3⟩ := raw_word h
  rw [a3]; exact ⟨a1, a2⟩
theorem ren_rowS {σ : Nat → Option Nat} {L : List Value} {t : TypeId} {ow : Bool} {o1 : HO} (hB : Byt L) (e : o1 = rowO L t ow) : renO σ o1 (rowO L t ow) := by
  rw [e]
  exact renO_row rfl rfl hB.noIds
theorem opG_byt {gr : Int} {L : List Value} (h : w16 gr) (hL : Byt L) : Byt (opG gr L) := by
  obtain ⟨_, _⟩ := h
  unfold opG
  repeat' (first | exact hL | refine .cons (by omega) (by omega) ?_)
theorem sgA_byt {S : Sgs} (K : SgsOk S) {frm to f t sq ak fl wi u gr : Int} (h : okS f t fl wi u gr) (h2 : okU frm to sq ak) (len : Nat) {L : List Value} (hL : Byt L) : Byt (sgA S frm to f t sq ak fl wi u gr len L) := shL_byt h h2 (by omega) (K.fo0 _) hL
theorem sgC_byt {S : Sgs} (K : SgsOk S) {frm to f t sq ak fl wi u gr : Int} (h : okS f t fl wi u gr) (h2 : okU frm to sq ak) (len : Nat) {L : List Value} (hL : Byt L) : Byt (sgC S frm to f t sq ak fl wi u gr len L) := shL_byt h h2 (by omega) (K.fo0 _) (opG_byt h.2.2.2.2.2 hL)
noncomputable def C1 : SBl := ⟨fun _ => none, fun n => n + 24, fun _ => false, [.int .u8 0, .int .u8 0, .int .u8 0, .int .u8 0]⟩
noncomputable def C2 : SBl := ⟨fun n => if n = 0 then some 0 else none, fun n => if n = 0 then 0 else n + 24, fun n => if n = 0 then true else false, []⟩
end Go.Proofs.YtefnfbidphmgoaaDoor.Ex
