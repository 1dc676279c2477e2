/- What OPEN is built. No conditions but those that each names. -/
-- bool_cases
import Derived.Test.YtpkojcelghinoaaOpnC
set_option linter.unusedVariables false
set_option linter.unusedSimpArgs false
set_option maxRecDepth 100000
set_option maxHeartbeats 2000000
namespace Go.Proofs.Ytpkojcelghinoaa.Ex
open Go Go.RowKit
/-- The bytes of an OPEN. -/
def opL (sw hold id : Int) (L : List Value) : List Value := .int .u8 4 :: .int .u8 (sw / 256) :: .int .u8 (sw % 256) :: .int .u8 (hold / 256) :: .int .u8 (hold % 256) :: .int .u8 (id / 16777216) :: .int .u8 (id / 65536 % 256) :: .int .u8 (id / 256 % 256) :: .int .u8 (id % 256) :: L
def sysW (sy : Int) : Int := if 65535 < sy then 23456 else sy
def okRB (b : Bool) : Prop := b = true
noncomputable def obuildW (RB : Int → Int → Int → Bool → Bool → Int → Bool → Bool → Bool) (CL : Bool → Bool → Bool → Int → Bool → Bool → Bool → Int → List Value) (CN : Bool → Bool → Bool → Bool → Nat) : Ent := fun j args h n => match args with
  | [.agg ⟨[.int .u32 sy, .int .i64 hold, .int .u32 id, .bool multi, .bool four, .bool refresh, .bool graceful, .int .i64 time, .bool restarts, .bool keeps]⟩] => match j with
    | 0 => some (⟨.tuple #[.slice (some ⟨n, 0, some 0⟩) (12 + CN multi refresh graceful four) 0, .int .i64 0], tput h n (some (rowO (opL (sysW sy) hold id (.int .u8 (2 + CN multi refresh graceful four) :: .int .u8 2 :: .int .u8 (CN multi refresh graceful four) :: CL multi refresh graceful time restarts keeps four sy)) 5 true)), n + 1, [n]⟩, okO sy id time ∧ (0 ≤ hold ∧ hold ≤ 65535) ∧ okRB (RB sy hold id four graceful time restarts keeps) ∧ okC multi refresh graceful four)
    | 1 => some (⟨.tuple #[.slice (some ⟨n, 0, some 0⟩) 10 0, .int .i64 0], tput h n (some (rowO (opL (sysW sy) hold id [.int .u8 0]) 5 true)), n + 1, [n]⟩, okO sy id time ∧ (0 ≤ hold ∧ hold ≤ 65535) ∧ okRB (RB sy hold id four graceful time restarts keeps) ∧ ¬ okC multi refresh graceful four)
    | _ => some (⟨.tuple #[.slice none 0 0, .int .i64 2], h, n, []⟩, ¬ okRB (RB sy hold id four graceful time restarts keeps))
  | _ => none
theorem obuild_det (RB : Int → Int → Int → Bool → Bool → Int → Bool → Bool → Bool) (CL : Bool → Bool → Bool → Int → Bool → Bool → Bool → Int → List Value) (CN : Bool → Bool → Bool → Bool → Nat) : EntDet (obuildW RB CL CN) := fun args h n j j' r r' p p' e hp e' hp' => by
  unfold obuildW at e e'
  split at e
  case h_2 => cases e
  rename_i x
  rcases j with _ | _ | j <;> rcases j' with _ | _ | j' <;> simp only [Option.some.injEq, Prod.mk.injEq] at e e' <;> obtain ⟨rfl, rfl⟩ := e <;> obtain ⟨rfl, rfl⟩ := e' <;> first | rfl | exact (hp'.2.2.2 hp.2.2.2).elim | exact (hp.2.2.2 hp'.2.2.2).elim | exact (hp hp'.2.2.1).elim | exact (hp' hp.2.2.1).elim
theorem raw_word {n : Int} (h : 0 ≤ n ∧ n ≤ 65535) : IntKind.wrap IntKind.u8 (Int.fdiv n 256) = n / 256 ∧ IntKind.wrap IntKind.u8 n = n % 256 ∧ IntKind.wrap IntKind.i64 n = n := by
  rw [Int.fdiv_eq_ediv_of_nonneg _ (by omega)]
  refine ⟨?_, ?_, ?_⟩ <;> simp only [IntKind.wrap_u8, IntKind.wrap_i64] <;> omega
theorem ref_word {n : Int} (h : 0 ≤ n ∧ n ≤ 65535) : IntKind.wrap IntKind.u8 (Int.tmod (IntKind.wrap IntKind.i64 (Int.tdiv n 256)) 256) = n / 256 ∧ IntKind.wrap IntKind.u8 (Int.tmod n 256) = n % 256 ∧ IntKind.wrap IntKind.i64 n = n := by
  rw [Int.tdiv_eq_ediv_of_nonneg h.1, Int.tmod_eq_emod_of_nonneg h.1, show IntKind.wrap IntKind.i64 (n / 256) = n / 256 by simp only [IntKind.wrap_i64]; omega, Int.tmod_eq_emod_of_nonneg (by omega)]
  refine ⟨?_, ?_, ?_⟩ <;> simp only [IntKind.wrap_u8, IntKind.wrap_i64] <;> omega
theorem ref_four {s : Int} (h : 0 ≤ s ∧ s < 4294967296) : IntKind.wrap IntKind.u8 (Int.tmod (IntKind.wrap IntKind.i64 (Int.tdiv (IntKind.wrap IntKind.i64 (IntKind.wrap IntKind.u32 (Int.tdiv s 65536))) 256)) 256) = s / 16777216 ∧ IntKind.wrap IntKind.u8 (Int.tmod (IntKind.wrap IntKind.i64 (IntKind.wrap IntKind.u32 (Int.tdiv s 65536))) 256) = s / 65536 % 256 ∧
    IntKind.wrap IntKind.u8 (Int.tmod (IntKind.wrap IntKind.i64 (Int.tdiv (IntKind.wrap IntKind.i64 (Int.tmod s 65536)) 256)) 256) = s / 256 % 256 ∧ IntKind.wrap IntKind.u8 (Int.tmod (IntKind.wrap IntKind.i64 (Int.tmod s 65536)) 256) = s % 256 := by
  rw [Int.tdiv_eq_ediv_of_nonneg h.1, Int.tmod_eq_emod_of_nonneg (a := s) h.1]
  rw [show IntKind.wrap IntKind.u32 (s / 65536) = s / 65536 by simp [IntKind.wrap, IntKind.signed, IntKind.bits]; omega]
  obtain ⟨a1, a2, a3⟩ := ref_word (n := s / 65536) (by omega)
  obtain ⟨b1, b2, b3⟩ := ref_word (n := s % 65536) (by omega)
  rw [a3, a1, a2, b3, b1, b2]
  refine ⟨?_, ?_, ?_, ?_⟩ <;> omega
theorem opL_byt {sw hold id : Int} {L : List Value} (h1 : 0 ≤ sw ∧ sw ≤ 65535) (h2 : 0 ≤ hold ∧ hold ≤ 65535) (h3 : 0 ≤ id ∧ id < 4294967296) (hL : Byt L) : Byt (opL sw hold id L) := by
  unfold opL
  repeat' (first | exact hL | refine .cons (by omega) (by omega) ?_)
theorem sysW_range {sy : Int} (h : 0 ≤ sy) : 0 ≤ sysW sy ∧ sysW sy ≤ 65535 := by unfold sysW; split <;> omega
theorem sysW_low {sy : Int} (h : sy ≤ 65535) : sysW sy = sy := if_neg (by omega)
theorem sysW_high {sy : Int} (h : 65535 < sy) : sysW sy = 23456 := if_pos h
theorem raw_sys {sy : Int} (h0 : 0 ≤ sy) (h : decide (sy > 65535) = false) : IntKind.wrap IntKind.u8 (Int.fdiv (IntKind.wrap IntKind.i64 sy) 256) = sysW sy / 256 ∧ IntKind.wrap IntKind.u8 (IntKind.wrap IntKind.i64 sy) = sysW sy % 256 := by
  have h : sy ≤ 65535 := by simpa using h
  obtain ⟨a, b, c⟩ := raw_word ⟨h0, h⟩
  rw [sysW_low h, c, a, b]
  exact ⟨rfl, rfl⟩
theorem ref_sys {sy : Int} (h0 : 0 ≤ sy) (h : decide (sy ≤ 65535) = true) : IntKind.wrap IntKind.u8 (Int.tmod (IntKind.wrap IntKind.i64 (Int.tdiv (IntKind.wrap IntKind.i64 sy) 256)) 256) = sysW sy / 256 ∧ IntKind.wrap IntKind.u8 (Int.tmod (IntKind.wrap IntKind.i64 sy) 256) = sysW sy % 256 := by
  have h : sy ≤ 65535 := by simpa using h
  obtain ⟨a, b, c⟩ := ref_word ⟨h0, h⟩
  rw [sysW_low h, c, a, b]
  exact ⟨rfl, rfl⟩
theorem sys_high {sy : Int} (h : decide (sy > 65535) = true) : sysW sy = 23456 := sysW_high (by simpa using h)
theorem sys_high' {sy : Int} (h : decide (sy ≤ 65535) = false) : sysW sy = 23456 := sysW_high (by simp at h; omega)
theorem w_cn {c : Nat} (h : c ≤ 22) : IntKind.wrap IntKind.u8 (IntKind.wrap IntKind.i64 ((c : Int) + 2)) = 2 + (c : Int) ∧ IntKind.wrap IntKind.u8 (c : Int) = (c : Int) := by
  constructor <;> simp only [IntKind.wrap_u8, IntKind.wrap_i64] <;> omega
theorem opL_app (sw hold id : Int) (L M : List Value) : opL sw hold id L ++ M = opL sw hold id (L ++ M) := rfl
/-- What is known of what is said. -/
structure ClOk (CL : Bool → Bool → Bool → Int → Bool → Bool → Bool → Int → List Value) (CN : Bool → Bool → Bool → Bool → Nat) : Prop where
  len : ∀ multi refresh graceful time restarts keeps four sy, (CL multi refresh graceful time restarts keeps four sy).length = CN multi refresh graceful four
  pos : ∀ multi refresh graceful four, okC multi refresh graceful four → 0 < CN multi refresh graceful four
  le : ∀ multi refresh graceful four, CN multi refresh graceful four ≤ 22
  byt : ∀ sy id time, okO sy id time → ∀ multi refresh graceful restarts keeps four, Byt (CL multi refresh graceful time restarts keeps four sy)
theorem clOk : ClOk capsL capsN where
  len := capsL_len
  pos multi refresh graceful four h := by revert h; unfold okC capsN; cases multi <;> cases refresh <;> cases graceful <;> cases four <;> simp
  le multi refresh graceful four := by unfold capsN; cases multi <;> cases refresh <;> cases graceful <;> cases four <;> simp
  byt sy id time h := capsL_byt h
end Go.Proofs.Ytpkojcelghinoaa.Ex
