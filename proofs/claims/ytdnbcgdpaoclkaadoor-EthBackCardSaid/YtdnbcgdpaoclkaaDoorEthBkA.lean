/- EthBack: what was built is read, with noughts behind it. Conditions: the table of digits lies there at first. -/
import Derived.Test.YtdnbcgdpaoclkaaDoorEthRx
import Derived.Test.YtdnbcgdpaoclkaaDoorEthFew
import Derived.Test.YtdnbcgdpaoclkaaDoorEthWk
import Derived.Test.YtdnbcgdpaoclkaaDoorLoop
set_option linter.unusedVariables false
set_option linter.unusedSimpArgs false
set_option maxRecDepth 100000
set_option maxHeartbeats 2000000
namespace Go.Proofs.YtdnbcgdpaoclkaaDoor.Ex
open Go Go.RowKit
/-- What is to do at the loop's head. -/
noncomputable def ebkT : List Item := todoOf (itemsS Tryd.prog (runCallS Tryd.prog [(8, eclipV), (9, ebuildW Ecode), (13, ereadW E0), (11, sameV), (12, worksV)] 40) [([20, 9], .val (.bool false)), ([20, 16], .val (.bool false)), ([20, 23], .val (.bool false)), ([20, 33], .val (.bool false)), ([20, 39], .sl0 0)] Tryd.f6.ntmps 28 0 [.code (bodyOf 6)] ⟨⟨putArgs [] 0 [.agg #[.int .u8 0, .int .u8 0, .int .u8 0, .int .u8 0, .int .u8 0, .int .u8 0, .int .u8 0, .int .u8 0, .int .u8 0, .int .u8 0, .int .u8 0, .int .u8 0, .int .u16 0, .slice none 0 0]], [], 0, []⟩, []⟩)
/-- What is known there. -/
noncomputable abbrev ebkG (g0 g1 g2 g3 g4 g5 g6 g7 g8 g9 g10 g11 g12 : Value) (n : Nat) : HO := ⟨0, [g0, g1, g2, g3, g4, g5, g6, g7, g8, g9, g10, g11, g12, .slice (some ⟨4, 0, some 0⟩) n 0], 27, false, false, false, [], 0, []⟩
noncomputable abbrev ebkS (g0 g1 g2 g3 g4 g5 g6 g7 g8 g9 g10 g11 g12 : Value) (R : List Value) (n i nx : Nat) : St := ⟨tabOf [(5, .pointer (some ⟨5, 0, none⟩)), (7, .int .i64 i)], tabOf [(4, rowO R 5 true), (5, ebkG g0 g1 g2 g3 g4 g5 g6 g7 g8 g9 g10 g11 g12 n)], nx, []⟩
theorem drop14 (m0 m1 m2 m3 m4 m5 n0 n1 n2 n3 n4 n5 kd : Int) (T : List Value) : List.drop 14 (frL m0 m1 m2 m3 m4 m5 n0 n1 n2 n3 n4 n5 kd T) = T := rfl
theorem ebk_step {ε : Nat → Option Value} {base : Base} (E : Env Tryd.prog ε base []) (g0 g1 g2 g3 g4 g5 g6 g7 g8 g9 g10 g11 g12 : Value) {R : List Value} {n i : Nat} {Q : St → Prop} (hi : i < n) (h : R[i]? = some (.int .u8 0)) (hn : n ≤ 100000)
    (k : Leads Tryd.prog ε base Tryd.f6.ntmps ebkT (ebkS g0 g1 g2 g3 g4 g5 g6 g7 g8 g9 g10 g11 g12 R n (i + 1) 6) Q) : Leads Tryd.prog ε base Tryd.f6.ntmps ebkT (ebkS g0 g1 g2 g3 g4 g5 g6 g7 g8 g9 g10 g11 g12 R n i 6) Q := by
  have hw : IntKind.wrap IntKind.i64 ((i : Int) + 1) = ((i + 1 : Nat) : Int) := by simp only [IntKind.wrap_i64]; omega
  refine leads_seg E 40 14 [([2, 4], Ch.val (Value.bool true)), ([8, 3], Ch.idx i), ([8, 4], Ch.ld (Value.int IntKind.u8 0))] (t := ebkT) (p := [(R[0 + i * 1]? : Option Value) = (some (Value.int IntKind.u8 0)), (((↑i : Int) : Int) = ((↑i : Int))) ∧ ((i : Nat) < n) ∧ (plainP (some 0) 0), (Value.bool (decide ((↑i : Int) < (↑n : Int))) : Value) = (Value.bool true)]) (by kernel_rfl) (by kernel_rfl) ⟨(by first | trivial | exact congrArg Value.bool (decide_eq_true (by omega)) | omega | (rw [Nat.zero_add, Nat.mul_one]; exact h) | rfl), ⟨(by first | trivial | exact congrArg Value.bool (decide_eq_true (by omega)) | omega | (rw [Nat.zero_add, Nat.mul_one]; exact h) | rfl), ⟨(by first | trivial | exact congrArg Value.bool (decide_eq_true (by omega)) | omega | (rw [Nat.zero_add, Nat.mul_one]; exact h) | rfl), (by first | trivial | exact congrArg Value.bool (decide_eq_true (by omega)) | omega | (rw [Nat.zero_add, Nat.mul_one]; exact h) | rfl)⟩⟩, (by first | trivial | exact congrArg Value.bool (decide_eq_true (by omega)) | omega | (rw [Nat.zero_add, Nat.mul_one]; exact h) | rfl), trivial⟩ (by kernel_rfl) rfl ?_
  refine Leads.forget [(5, .pointer (some ⟨5, 0, none⟩)), (7, .int .i64 (IntKind.wrap IntKind.i64 ((i : Int) + 1)))] [(4, rowO R 5 true), (5, ebkG g0 g1 g2 g3 g4 g5 g6 g7 g8 g9 g10 g11 g12 n)] 6 ⟨by show _ = _; kernel_rfl, by show _ = _; kernel_rfl, trivial⟩ ⟨by show _ = _; kernel_rfl, by show _ = _; kernel_rfl, trivial⟩ (by kernel_rfl) ?_
  rw [hw]; exact k
theorem ebk_all {ε : Nat → Option Value} {base : Base} (E : Env Tryd.prog ε base []) (g0 g1 g2 g3 g4 g5 g6 g7 g8 g9 g10 g11 g12 : Value) {R : List Value} {n lo : Nat} (hR : ∀ j, lo ≤ j → j < n → R[j]? = some (.int .u8 0)) (hn : n ≤ 100000) : ∀ (k i : Nat), i + k = n → lo ≤ i →
    Leads Tryd.prog ε base Tryd.f6.ntmps ebkT (ebkS g0 g1 g2 g3 g4 g5 g6 g7 g8 g9 g10 g11 g12 R n i 6) (fun s => optL (resA Tryd.prog s.tmps s.heap) Tryd.f6.results.toList = some [.bool true])
  | 0, i, hk, _ => by
    obtain rfl : i = n := by omega
    refine leads_end E 40 100000 [([2, 4], Ch.val (Value.bool false))] (p := [(Value.bool (decide ((↑i : Int) < (↑i : Int))) : Value) = (Value.bool false)]) (by kernel_rfl) (by kernel_rfl) ⟨?_, trivial⟩ (by kernel_rfl) <;> (first | trivial | exact congrArg Value.bool (decide_eq_false (by omega)) | rfl)
  | k + 1, i, hk, hlo => ebk_step E g0 g1 g2 g3 g4 g5 g6 g7 g8 g9 g10 g11 g12 (by omega) (hR i (by assumption) (by omega)) hn (ebk_all E g0 g1 g2 g3 g4 g5 g6 g7 g8 g9 g10 g11 g12 hR hn k (i + 1) (by omega) (by omega))
end Go.Proofs.YtdnbcgdpaoclkaaDoor.Ex
