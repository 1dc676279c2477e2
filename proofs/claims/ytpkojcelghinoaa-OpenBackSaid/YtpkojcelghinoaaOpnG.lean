/- OpenBack: what was built is read back. No conditions but those that each names. -/
import Derived.Test.YtpkojcelghinoaaOpnE
import Derived.Test.YtpkojcelghinoaaOctRd
set_option linter.unusedVariables false
set_option linter.unusedSimpArgs false
set_option maxRecDepth 100000
set_option maxHeartbeats 2000000
namespace Go.Proofs.Ytpkojcelghinoaa.Ex
open Go Go.RowKit
noncomputable def obuildK (RB : Int → Int → Int → Bool → Bool → Int → Bool → Bool → Bool) (SW : Int → Int) : Ent := fun j args h n => match args with
  | [.agg ⟨[.int .u32 sy, .int .i64 hold, .int .u32 id, .bool multi, .bool four, .bool refresh, .bool graceful, .int .i64 time, .bool restarts, .bool keeps]⟩] => match j with
    | 0 => some (⟨.tuple #[.slice (some ⟨n, 0, some 0⟩) (12 + capsN multi refresh graceful four) 0, .int .i64 0], tput h n (some (rowO (opL (SW sy) hold id (.int .u8 (2 + capsN multi refresh graceful four) :: .int .u8 2 :: .int .u8 (capsN multi refresh graceful four) :: capsL multi refresh graceful time restarts keeps four sy)) 5 true)), n + 1, [n]⟩, okO sy id time ∧ (0 ≤ hold ∧ hold ≤ 65535) ∧ okRB (RB sy hold id four graceful time restarts keeps) ∧ okC multi refresh graceful four)
    | 1 => some (⟨.tuple #[.slice (some ⟨n, 0, some 0⟩) 10 0, .int .i64 0], tput h n (some (rowO (opL (SW sy) hold id [.int .u8 0]) 5 true)), n + 1, [n]⟩, okO sy id time ∧ (0 ≤ hold ∧ hold ≤ 65535) ∧ okRB (RB sy hold id four graceful time restarts keeps) ∧ ¬ okC multi refresh graceful four)
    | _ => some (⟨.tuple #[.slice none 0 0, .int .i64 2], h, n, []⟩, ¬ okRB (RB sy hold id four graceful time restarts keeps))
  | _ => none
theorem obuildK_det (RB : Int → Int → Int → Bool → Bool → Int → Bool → Bool → Bool) (SW : Int → Int) : EntDet (obuildK RB SW) := fun args h n j j' r r' p p' e hp e' hp' => by
  unfold obuildK at e e'
  split at e
  case h_2 => cases e
  rename_i x
  rcases j with _ | _ | j <;> rcases j' with _ | _ | j' <;> simp only [Option.some.injEq, Prod.mk.injEq] at e e' <;> obtain ⟨rfl, rfl⟩ := e <;> obtain ⟨rfl, rfl⟩ := e' <;> first | rfl | exact (hp'.2.2.2 hp.2.2.2).elim | exact (hp.2.2.2 hp'.2.2.2).elim | exact (hp hp'.2.2.1).elim | exact (hp' hp.2.2.1).elim
/-- Two bytes put together again. -/
def r8 (a b : Int) : Int := IntKind.wrap IntKind.i64 ((BitVec.toNat (BitVec.ofInt 64 (IntKind.wrap IntKind.i64 (IntKind.wrap IntKind.i64 a * 256)) ||| BitVec.ofInt 64 (IntKind.wrap IntKind.i64 b)) : Nat) : Int)
def r32 (s : Int) : Int := IntKind.wrap IntKind.u32 ((BitVec.toNat (BitVec.ofInt 32 (IntKind.wrap IntKind.u32 (IntKind.wrap IntKind.u32 (r8 (s / 16777216) (s / 65536 % 256)) * 65536)) ||| BitVec.ofInt 32 (IntKind.wrap IntKind.u32 (r8 (s / 256 % 256) (s % 256)))) : Nat) : Int)
theorem r8_is {a b : Int} (ha : 0 ≤ a ∧ a ≤ 255) (hb : 0 ≤ b ∧ b ≤ 255) : r8 a b = 256 * a + b := or_8 ha hb
theorem r8_word {n : Int} (h : 0 ≤ n ∧ n ≤ 65535) : r8 (n / 256) (n % 256) = n := by rw [r8_is (by omega) (by omega)]; omega
theorem r32_is {s : Int} (h : 0 ≤ s ∧ s < 4294967296) : r32 s = s := by
  unfold r32
  rw [r8_is (by omega) (by omega), r8_is (by omega) (by omega), or_16 (by omega) (by omega)]
  omega
theorem and_low {w : Int} (h : 0 ≤ w ∧ w ≤ 65535) : IntKind.wrap IntKind.i64 ((BitVec.toNat (BitVec.ofInt 64 w &&& BitVec.ofInt 64 4095) : Nat) : Int) = w % 4096 := by
  obtain ⟨a, rfl⟩ := Int.eq_ofNat_of_zero_le h.1
  have h2 : ((a : Nat) : Int) ≤ 65535 := h.2
  have h1 : (((a : Nat) : Int) % ((2 ^ 64 : Nat) : Int)).toNat = a := by omega
  rw [BitVec.toNat_and, BitVec.toNat_ofInt, BitVec.toNat_ofInt, h1]
  rw [show ((4095 : Int) % ((2 ^ 64 : Nat) : Int)).toNat = 2 ^ 12 - 1 from rfl, Nat.and_two_pow_sub_one_eq_mod]
  simp only [IntKind.wrap_i64]; omega
theorem back_time {t c : Int} (h : 0 ≤ t ∧ t ≤ 4095) (hc : c = 32768 ∨ c = 0) : r8 ((t + c) / 256) (t % 256) = t + c ∧ Int.fdiv (t + c) 32768 = c / 32768 ∧ IntKind.wrap IntKind.i64 ((BitVec.toNat (BitVec.ofInt 64 (t + c) &&& BitVec.ofInt 64 4095) : Nat) : Int) = t := by
  refine ⟨?_, ?_, ?_⟩
  · rw [r8_is (by omega) (by omega)]; omega
  · rw [Int.fdiv_eq_ediv_of_nonneg _ (by omega)]; omega
  · rw [and_low (by omega)]; omega
theorem u32_same {s : Int} (h : 0 ≤ s ∧ s ≤ 65535) : IntKind.wrap IntKind.u32 s = s := by simp [IntKind.wrap, IntKind.signed, IntKind.bits]; omega
theorem openbackE {ε : Nat → Option Value} {base : Base} (hε : ∀ i V, ε i = some V → one V = true) : ∃ (RB : Int → Int → Int → Bool → Bool → Int → Bool → Bool → Bool) (SW : Int → Int), (∀ sy hold id four graceful time restarts keeps, RB sy hold id four graceful time restarts keeps = true → rightP sy hold id four graceful time restarts keeps) ∧ (∀ sy, sy ≤ 65535 → SW sy = sy) ∧ (∀ sy, 0 ≤ sy → 0 ≤ SW sy ∧ SW sy ≤ 65535) ∧ Env Try.prog ε base [(6, obuildK RB SW), (9, worksV)] :=
  ⟨rightB, sysW, fun _ _ _ _ _ _ _ _ h => of_decide_eq_true h, fun _ h => sysW_low h, fun _ h => sysW_range h, ⟨hε, noCount_of hN, hmix, specs1 (show EntOk Try.prog ε base 6 (obuildK rightB sysW) from obuild_ok hε clOk (right_ok hε) (caps_ok hε)) (specs1 (works_of hε (d := 40) (by kernel_rfl)) specs0), dets1 (obuildK_det _ _) (dets1 works_det dets0)⟩⟩
end Go.Proofs.Ytpkojcelghinoaa.Ex
