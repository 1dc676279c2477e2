/- What ip does: the words. No conditions but those that each names. -/
import Derived.Test.YtnlinnjpkjmpaaaDoorConSum
import Derived.Laws.BitsLemmas
import Derived.Laws.BitsAllLaws
import Derived.Laws.Bits64
set_option linter.unusedVariables false
set_option linter.unusedSimpArgs false
set_option maxRecDepth 100000
namespace Go.Proofs.YtnlinnjpkjmpaaaDoor.Ex
open Go Go.RowKit
/-- A folded sum, as a variable. -/
noncomputable def ofW (sm : List Value → Int) : Ent := fun _ args h n => match args with
  | [x] => match winS x h with
    | some (len, L, p) => some (⟨.int .u16 (65535 - sm L), h, n, []⟩, p ∧ Byt L ∧ len ≤ 100000)
    | none => none
  | _ => none
theorem ofW_eq : ofW sumL = ofV := rfl
theorem ofW_det (sm : List Value → Int) : EntDet (ofW sm) := det_of fun _ _ _ _ _ => rfl
/-! ### Numbers as the code writes them -/
theorem fdivp {a b : Int} (h : 0 ≤ b) : Int.fdiv a b = a / b := Int.fdiv_eq_ediv_of_nonneg a h
theorem word_code {n : Int} (h0 : 0 ≤ n) (h1 : n ≤ 65535) : IntKind.wrap IntKind.u8 (Int.fdiv (IntKind.wrap IntKind.i64 n) 256) = n / 256 ∧ IntKind.wrap IntKind.u8 (IntKind.wrap IntKind.i64 n) = n % 256 := by
  rw [fdivp (by omega)]; simp only [IntKind.wrap_u8, IntKind.wrap_i64]; omega
theorem word_code' {n : Int} (h0 : 0 ≤ n) (h1 : n ≤ 65535) : IntKind.wrap IntKind.u8 (Int.fdiv n 256) = n / 256 ∧ IntKind.wrap IntKind.u8 n = n % 256 := by
  rw [fdivp (by omega)]; simp only [IntKind.wrap_u8]; exact ⟨by omega, trivial⟩
theorem word_ref {n : Int} (h0 : 0 ≤ n) (h1 : n ≤ 65535) : IntKind.wrap IntKind.u8 (Int.tmod (IntKind.wrap IntKind.i64 (Int.tdiv (IntKind.wrap IntKind.i64 n) 256)) 256) = n / 256 ∧ IntKind.wrap IntKind.u8 (Int.tmod (IntKind.wrap IntKind.i64 n) 256) = n % 256 := by
  have e : IntKind.wrap IntKind.i64 n = n := by simp only [IntKind.wrap_i64]; omega
  rw [e, Int.tdiv_eq_ediv_of_nonneg h0, Int.tmod_eq_emod_of_nonneg h0]
  have e2 : IntKind.wrap IntKind.i64 (n / 256) = n / 256 := by simp only [IntKind.wrap_i64]; omega
  rw [e2, Int.tmod_eq_emod_of_nonneg (by omega)]
  simp only [IntKind.wrap_u8]; omega
theorem word_ref' {n : Int} (h0 : 0 ≤ n) (h1 : n ≤ 65535) : IntKind.wrap IntKind.u8 (Int.tmod (IntKind.wrap IntKind.i64 (Int.tdiv n 256)) 256) = n / 256 ∧ IntKind.wrap IntKind.u8 (Int.tmod n 256) = n % 256 := by
  have := word_ref h0 h1
  have e : IntKind.wrap IntKind.i64 n = n := by simp only [IntKind.wrap_i64]; omega
  rwa [e] at this
theorem byte_code {n : Int} (h0 : 0 ≤ n) (h1 : n ≤ 255) : IntKind.wrap IntKind.u8 n = n := by simp only [IntKind.wrap_u8]; omega
theorem and_low (f : Int) (h0 : 0 ≤ f) (h1 : f < 4294967296) : ((BitVec.toNat (BitVec.ofInt 32 f &&& BitVec.ofInt 32 65535) : Nat) : Int) = f % 65536 := by
  obtain ⟨n, rfl⟩ := Int.eq_ofNat_of_zero_le h0
  rw [BitVec.toNat_and, BitVec.toNat_ofInt, BitVec.toNat_ofInt]
  have h2 : ((n : Int) % ((2 ^ 32 : Nat) : Int)).toNat = n := by
    rw [← Int.natCast_emod, Int.toNat_natCast, Nat.mod_eq_of_lt (by omega)]
  have h3 : ((65535 : Int) % ((2 ^ 32 : Nat) : Int)).toNat = 2 ^ 16 - 1 := by decide
  rw [h2, h3, Nat.and_two_pow_sub_one_eq_mod]
  omega
theorem long_put {f : Int} (h0 : 0 ≤ f) (h1 : f < 4294967296) :
    IntKind.wrap IntKind.u8 (Int.fdiv (IntKind.wrap IntKind.i64 (Int.fdiv f 65536)) 256) = f / 16777216 ∧ IntKind.wrap IntKind.u8 (IntKind.wrap IntKind.i64 (Int.fdiv f 65536)) = f / 65536 % 256 ∧
    IntKind.wrap IntKind.u8 (Int.fdiv (IntKind.wrap IntKind.i64 (IntKind.wrap IntKind.u32 ((BitVec.toNat (BitVec.ofInt 32 f &&& BitVec.ofInt 32 65535) : Nat) : Int))) 256) = f / 256 % 256 ∧ IntKind.wrap IntKind.u8 (IntKind.wrap IntKind.i64 (IntKind.wrap IntKind.u32 ((BitVec.toNat (BitVec.ofInt 32 f &&& BitVec.ofInt 32 65535) : Nat) : Int))) = f % 256 := by
  rw [and_low f h0 h1, fdivp (by omega), fdivp (by omega), fdivp (by omega)]
  simp only [IntKind.wrap_u8, IntKind.wrap_i64, IntKind.wrap_u32]
  omega
theorem long_refp {f : Int} (h0 : 0 ≤ f) (h1 : f < 4294967296) :
    IntKind.wrap IntKind.u8 (Int.tmod (IntKind.wrap IntKind.i64 (Int.tdiv (IntKind.wrap IntKind.i64 (IntKind.wrap IntKind.u32 (Int.tdiv f 65536))) 256)) 256) = f / 16777216 ∧ IntKind.wrap IntKind.u8 (Int.tmod (IntKind.wrap IntKind.i64 (IntKind.wrap IntKind.u32 (Int.tdiv f 65536))) 256) = f / 65536 % 256 ∧
    IntKind.wrap IntKind.u8 (Int.tmod (IntKind.wrap IntKind.i64 (Int.tdiv (IntKind.wrap IntKind.i64 (Int.tmod f 65536)) 256)) 256) = f / 256 % 256 ∧ IntKind.wrap IntKind.u8 (Int.tmod (IntKind.wrap IntKind.i64 (Int.tmod f 65536)) 256) = f % 256 := by
  rw [Int.tdiv_eq_ediv_of_nonneg h0, Int.tmod_eq_emod_of_nonneg h0]
  have e : IntKind.wrap IntKind.u32 (f / 65536) = f / 65536 := by simp only [IntKind.wrap_u32]; omega
  rw [e]
  have h2 := word_ref (n := f / 65536) (by omega) (by omega)
  have h3 := word_ref (n := f % 65536) (by omega) (by omega)
  rw [h2.1, h2.2, h3.1, h3.2]
  omega
theorem or_bit (a k : Nat) (h : a < 2 ^ k) (hk : k < 63) : ((BitVec.toNat (BitVec.ofInt 64 (a : Int) ||| BitVec.ofInt 64 ((2 ^ k : Nat) : Int)) : Nat) : Int) = a + 2 ^ k := by
  have hp : 2 ^ k < 2 ^ 63 := Nat.pow_lt_pow_right (by omega) hk
  rw [BitVec.toNat_or, BitVec.toNat_ofInt, BitVec.toNat_ofInt]
  have h1 : ((a : Int) % ((2 ^ 64 : Nat) : Int)).toNat = a := by
    rw [← Int.natCast_emod, Int.toNat_natCast, Nat.mod_eq_of_lt (by omega)]
  have h2 : ((((2 ^ k : Nat) : Int)) % ((2 ^ 64 : Nat) : Int)).toNat = 2 ^ k := by
    rw [← Int.natCast_emod, Int.toNat_natCast, Nat.mod_eq_of_lt (by omega)]
  rw [h1, h2, Nat.or_comm]
  have h3 := Nat.shiftLeft_add_eq_or_of_lt h 1
  rw [Nat.shiftLeft_eq, Nat.one_mul] at h3
  rw [← h3]
  push_cast
  omega
theorem or_14 {a : Int} (h0 : 0 ≤ a) (h1 : a ≤ 8191) : IntKind.wrap IntKind.i64 ((BitVec.toNat (BitVec.ofInt 64 a ||| BitVec.ofInt 64 16384) : Nat) : Int) = a + 16384 := by
  obtain ⟨n, rfl⟩ := Int.eq_ofNat_of_zero_le h0
  have := or_bit n 14 (by omega) (by omega)
  have e : ((2 ^ 14 : Nat) : Int) = 16384 := by decide
  rw [e] at this
  rw [this]; simp only [IntKind.wrap_i64]; omega
theorem or_13 {a : Int} (h0 : 0 ≤ a) (h1 : a ≤ 8191) : IntKind.wrap IntKind.i64 ((BitVec.toNat (BitVec.ofInt 64 a ||| BitVec.ofInt 64 8192) : Nat) : Int) = a + 8192 := by
  obtain ⟨n, rfl⟩ := Int.eq_ofNat_of_zero_le h0
  have := or_bit n 13 (by omega) (by omega)
  have e : ((2 ^ 13 : Nat) : Int) = 8192 := by decide
  rw [e] at this
  rw [this]; simp only [IntKind.wrap_i64]; omega
theorem or_both {a : Int} (h0 : 0 ≤ a) (h1 : a ≤ 8191) : IntKind.wrap IntKind.i64 ((BitVec.toNat (BitVec.ofInt 64 (IntKind.wrap IntKind.i64 ((BitVec.toNat (BitVec.ofInt 64 a ||| BitVec.ofInt 64 16384) : Nat) : Int)) ||| BitVec.ofInt 64 8192) : Nat) : Int) = a + 16384 + 8192 := by
  rw [or_14 h0 h1]
  obtain ⟨n, rfl⟩ := Int.eq_ofNat_of_zero_le h0
  rw [BitVec.toNat_or, BitVec.toNat_ofInt, BitVec.toNat_ofInt]
  have h2 : (((n : Int) + 16384) % ((2 ^ 64 : Nat) : Int)).toNat = n + 16384 := by omega
  have h3 : ((8192 : Int) % ((2 ^ 64 : Nat) : Int)).toNat = 8192 := by decide
  rw [h2, h3]
  have hn : n < 8192 := by omega
  have : (n + 16384) ||| 8192 = n + 16384 + 8192 := by
    have a1 := Nat.shiftLeft_add_eq_or_of_lt (i := 13) hn 3
    have a2 := Nat.shiftLeft_add_eq_or_of_lt (i := 13) hn 2
    have a3 : (2 : Nat) <<< 13 = 16384 := by decide
    have a4 : (3 : Nat) <<< 13 = 24576 := by decide
    rw [a3] at a2
    rw [a4] at a1
    rw [show n + 16384 = 16384 + n by omega, a2, Nat.or_assoc, Nat.or_comm n 8192, ← Nat.or_assoc, show (16384 ||| 8192 : Nat) = 24576 by decide, ← a1]
    omega
  rw [this]; simp only [IntKind.wrap_i64]; omega
/-! ### A head -/
def plc (a : Int) (whole more : Bool) : Int := a + (if whole then 16384 else 0) + (if more then 8192 else 0)
/-- A head's bytes, ahead of what follows. -/
def hdT (n pl id life kind frm to s : Int) (T : List Value) : List Value :=
  .int .u8 69 :: .int .u8 0 :: .int .u8 (n / 256) :: .int .u8 (n % 256) :: .int .u8 (id / 256) :: .int .u8 (id % 256) :: .int .u8 (pl / 256) :: .int .u8 (pl % 256) :: .int .u8 life :: .int .u8 kind :: .int .u8 (s / 256) :: .int .u8 (s % 256) ::
  .int .u8 (frm / 16777216) :: .int .u8 (frm / 65536 % 256) :: .int .u8 (frm / 256 % 256) :: .int .u8 (frm % 256) :: .int .u8 (to / 16777216) :: .int .u8 (to / 65536 % 256) :: .int .u8 (to / 256 % 256) :: .int .u8 (to % 256) :: T
def okP (id a life kind frm to : Int) : Prop := 0 ≤ id ∧ id ≤ 65535 ∧ 0 ≤ a ∧ a ≤ 8191 ∧ 0 ≤ life ∧ life ≤ 255 ∧ 0 ≤ kind ∧ kind ≤ 255 ∧ 0 ≤ frm ∧ frm < 4294967296 ∧ 0 ≤ to ∧ to < 4294967296
theorem hdT_len (n pl id life kind frm to s : Int) (T : List Value) : (hdT n pl id life kind frm to s T).length = 20 + T.length := by simp [hdT]; omega
theorem hdT_byt {n pl id life kind frm to s : Int} {T : List Value} (h1 : 0 ≤ n ∧ n ≤ 65535) (h2 : 0 ≤ pl ∧ pl ≤ 65535) (h3 : 0 ≤ id ∧ id ≤ 65535) (h4 : 0 ≤ life ∧ life ≤ 255) (h5 : 0 ≤ kind ∧ kind ≤ 255) (h6 : 0 ≤ frm ∧ frm < 4294967296) (h7 : 0 ≤ to ∧ to < 4294967296) (h8 : 0 ≤ s ∧ s ≤ 65535) (hT : Byt T) : Byt (hdT n pl id life kind frm to s T) := by
  unfold hdT
  repeat' (first | exact hT | refine .cons (by omega) (by omega) ?_)
theorem plc_range {a : Int} {w m : Bool} (h0 : 0 ≤ a) (h1 : a ≤ 8191) : 0 ≤ plc a w m ∧ plc a w m ≤ 32767 := by unfold plc; cases w <;> cases m <;> simp <;> omega
theorem hd_code {n1 n2 p1 p2 s1 s2 n pl id life kind frm to s : Int} (T : List Value) (h3 : 0 ≤ id ∧ id ≤ 65535) (h4 : 0 ≤ life ∧ life ≤ 255) (h5 : 0 ≤ kind ∧ kind ≤ 255) (h6 : 0 ≤ frm ∧ frm < 4294967296) (h7 : 0 ≤ to ∧ to < 4294967296) (e1 : n1 = n / 256) (e2 : n2 = n % 256) (e3 : p1 = pl / 256) (e4 : p2 = pl % 256) (e5 : s1 = s / 256) (e6 : s2 = s % 256) :
    (Value.int IntKind.u8 69 :: Value.int IntKind.u8 0 :: Value.int IntKind.u8 n1 :: Value.int IntKind.u8 n2 :: Value.int IntKind.u8 (IntKind.wrap IntKind.u8 (Int.fdiv id 256)) :: Value.int IntKind.u8 (IntKind.wrap IntKind.u8 id) :: Value.int IntKind.u8 p1 :: Value.int IntKind.u8 p2 :: Value.int IntKind.u8 (IntKind.wrap IntKind.u8 life) :: Value.int IntKind.u8 (IntKind.wrap IntKind.u8 kind) :: Value.int IntKind.u8 s1 :: Value.int IntKind.u8 s2 ::
      Value.int IntKind.u8 (IntKind.wrap IntKind.u8 (Int.fdiv (IntKind.wrap IntKind.i64 (Int.fdiv frm 65536)) 256)) :: Value.int IntKind.u8 (IntKind.wrap IntKind.u8 (IntKind.wrap IntKind.i64 (Int.fdiv frm 65536))) :: Value.int IntKind.u8 (IntKind.wrap IntKind.u8 (Int.fdiv (IntKind.wrap IntKind.i64 (IntKind.wrap IntKind.u32 ((BitVec.toNat (BitVec.ofInt 32 frm &&& BitVec.ofInt 32 65535) : Nat) : Int))) 256)) :: Value.int IntKind.u8 (IntKind.wrap IntKind.u8 (IntKind.wrap IntKind.i64 (IntKind.wrap IntKind.u32 ((BitVec.toNat (BitVec.ofInt 32 frm &&& BitVec.ofInt 32 65535) : Nat) : Int)))) ::
      Value.int IntKind.u8 (IntKind.wrap IntKind.u8 (Int.fdiv (IntKind.wrap IntKind.i64 (Int.fdiv to 65536)) 256)) :: Value.int IntKind.u8 (IntKind.wrap IntKind.u8 (IntKind.wrap IntKind.i64 (Int.fdiv to 65536))) :: Value.int IntKind.u8 (IntKind.wrap IntKind.u8 (Int.fdiv (IntKind.wrap IntKind.i64 (IntKind.wrap IntKind.u32 ((BitVec.toNat (BitVec.ofInt 32 to &&& BitVec.ofInt 32 65535) : Nat) : Int))) 256)) :: Value.int IntKind.u8 (IntKind.wrap IntKind.u8 (IntKind.wrap IntKind.i64 (IntKind.wrap IntKind.u32 ((BitVec.toNat (BitVec.ofInt 32 to &&& BitVec.ofInt 32 65535) : Nat) : Int)))) :: T) = hdT n pl id life kind frm to s T := by
  have a := long_put h6.1 h6.2
  have b := long_put h7.1 h7.2
  have c := word_code' h3.1 h3.2
  rw [a.1, a.2.1, a.2.2.1, a.2.2.2, b.1, b.2.1, b.2.2.1, b.2.2.2, c.1, c.2, byte_code h4.1 h4.2, byte_code h5.1 h5.2, e1, e2, e3, e4, e5, e6]
  rfl
theorem hd_ref {n1 n2 p1 p2 s1 s2 n pl id life kind frm to s : Int} (T : List Value) (h3 : 0 ≤ id ∧ id ≤ 65535) (h4 : 0 ≤ life ∧ life ≤ 255) (h5 : 0 ≤ kind ∧ kind ≤ 255) (h6 : 0 ≤ frm ∧ frm < 4294967296) (h7 : 0 ≤ to ∧ to < 4294967296) (e1 : n1 = n / 256) (e2 : n2 = n % 256) (e3 : p1 = pl / 256) (e4 : p2 = pl % 256) (e5 : s1 = s / 256) (e6 : s2 = s % 256) :
    (Value.int IntKind.u8 69 :: Value.int IntKind.u8 0 :: Value.int IntKind.u8 n1 :: Value.int IntKind.u8 n2 :: Value.int IntKind.u8 (IntKind.wrap IntKind.u8 (Int.tmod (IntKind.wrap IntKind.i64 (Int.tdiv id 256)) 256)) :: Value.int IntKind.u8 (IntKind.wrap IntKind.u8 (Int.tmod id 256)) :: Value.int IntKind.u8 p1 :: Value.int IntKind.u8 p2 :: Value.int IntKind.u8 (IntKind.wrap IntKind.u8 life) :: Value.int IntKind.u8 (IntKind.wrap IntKind.u8 kind) :: Value.int IntKind.u8 s1 :: Value.int IntKind.u8 s2 ::
      Value.int IntKind.u8 (IntKind.wrap IntKind.u8 (Int.tmod (IntKind.wrap IntKind.i64 (Int.tdiv (IntKind.wrap IntKind.i64 (IntKind.wrap IntKind.u32 (Int.tdiv frm 65536))) 256)) 256)) :: Value.int IntKind.u8 (IntKind.wrap IntKind.u8 (Int.tmod (IntKind.wrap IntKind.i64 (IntKind.wrap IntKind.u32 (Int.tdiv frm 65536))) 256)) :: Value.int IntKind.u8 (IntKind.wrap IntKind.u8 (Int.tmod (IntKind.wrap IntKind.i64 (Int.tdiv (IntKind.wrap IntKind.i64 (Int.tmod frm 65536)) 256)) 256)) :: Value.int IntKind.u8 (IntKind.wrap IntKind.u8 (Int.tmod (IntKind.wrap IntKind.i64 (Int.tmod frm 65536)) 256)) ::
      Value.int IntKind.u8 (IntKind.wrap IntKind.u8 (Int.tmod (IntKind.wrap IntKind.i64 (Int.tdiv (IntKind.wrap IntKind.i64 (IntKind.wrap IntKind.u32 (Int.tdiv to 65536))) 256)) 256)) :: Value.int IntKind.u8 (IntKind.wrap IntKind.u8 (Int.tmod (IntKind.wrap IntKind.i64 (IntKind.wrap IntKind.u32 (Int.tdiv to 65536))) 256)) :: Value.int IntKind.u8 (IntKind.wrap IntKind.u8 (Int.tmod (IntKind.wrap IntKind.i64 (Int.tdiv (IntKind.wrap IntKind.i64 (Int.tmod to 65536)) 256)) 256)) :: Value.int IntKind.u8 (IntKind.wrap IntKind.u8 (Int.tmod (IntKind.wrap IntKind.i64 (Int.tmod to 65536)) 256)) :: T) = hdT n pl id life kind frm to s T := by
  have a := long_refp h6.1 h6.2
  have b := long_refp h7.1 h7.2
  have c := word_ref' h3.1 h3.2
  rw [a.1, a.2.1, a.2.2.1, a.2.2.2, b.1, b.2.1, b.2.2.1, b.2.2.2, c.1, c.2, byte_code h4.1 h4.2, byte_code h5.1 h5.2, e1, e2, e3, e4, e5, e6]
  rfl
/-! ### What is built -/
/-- How what was built lies there. -/
structure Bld where
  sp : Nat → Option Nat
  cap : Nat → Nat
  el : Nat → Nat
  own : Nat → Bool
noncomputable def ipbuildW (B : Bld) (sm : List Value → Int) : Ent := fun j args h n => match args with
  | [.agg ⟨[.int .i64 id, .int .i64 a, .int .i64 life, .int .i64 kind, .bool whole, .bool more, .int .u32 frm, .int .u32 to, x]⟩] => match winS x h with
    | some (len, L, p) => match j with
      | 0 => some (⟨.tuple #[.slice (some ⟨n, 0, B.sp len⟩) (20 + len) (B.cap len), .int .i64 0], tput h n (some (rowO (hdT (20 + (len : Int)) (plc a whole more) id life kind frm to (65535 - sm (hdT (20 + (len : Int)) (plc a whole more) id life kind frm to 0 [])) L) (B.el len) (B.own len))), n + 1, [n]⟩, p ∧ Byt L ∧ okP id a life kind frm to ∧ len ≤ 65515)
      | 1 => some (⟨.tuple #[.slice none 0 0, .int .i64 2], h, n, []⟩, p ∧ ¬ (0 ≤ id ∧ id ≤ 65535 ∧ 0 ≤ a ∧ a ≤ 8191 ∧ 0 ≤ life ∧ life ≤ 255 ∧ 0 ≤ kind ∧ kind ≤ 255))
      | _ => some (⟨.tuple #[.slice none 0 0, .int .i64 3], h, n, []⟩, p ∧ (0 ≤ id ∧ id ≤ 65535 ∧ 0 ≤ a ∧ a ≤ 8191 ∧ 0 ≤ life ∧ life ≤ 255 ∧ 0 ≤ kind ∧ kind ≤ 255) ∧ 65515 < len)
    | none => none
  | _ => none
theorem ipbuild_det (B : Bld) (sm : List Value → Int) : EntDet (ipbuildW B sm) := fun args h n j j' r r' p p' e hp e' hp' => by
  unfold ipbuildW at e e'
  split at e
  case h_2 => cases e
  rename_i id a life kind whole more frm to x
  split at e
  case h_2 => cases e
  rename_i len L q hw
  simp only [hw] at e'
  rcases j with _ | _ | j <;> rcases j' with _ | _ | j' <;> simp only [Option.some.injEq, Prod.mk.injEq] at e e' <;> obtain ⟨rfl, rfl⟩ := e <;> obtain ⟨rfl, rfl⟩ := e' <;> first | rfl | (exfalso; (try simp only [okP] at hp); (try simp only [okP] at hp'); omega)
/-- As the code leaves it: an array's slice where nothing was appended. -/
noncomputable def Bcode : Bld := ⟨fun n => if n = 0 then none else some 0, fun n => if n = 0 then 20 else 0, fun n => if n = 0 then 59 else 5, fun n => if n = 0 then false else true⟩
noncomputable def Bref : Bld := ⟨fun _ => some 0, fun _ => 0, fun _ => 5, fun _ => true⟩
theorem take20 (a0 a1 a2 a3 a4 a5 a6 a7 a8 a9 a10 a11 a12 a13 a14 a15 a16 a17 a18 a19 : Value) : List.take 20 (List.drop 0 [a0, a1, a2, a3, a4, a5, a6, a7, a8, a9, a10, a11, a12, a13, a14, a15, a16, a17, a18, a19]) = [a0, a1, a2, a3, a4, a5, a6, a7, a8, a9, a10, a11, a12, a13, a14, a15, a16, a17, a18, a19] := rfl
theorem take20' (a0 a1 a2 a3 a4 a5 a6 a7 a8 a9 a10 a11 a12 a13 a14 a15 a16 a17 a18 a19 : Value) : List.take 20 [a0, a1, a2, a3, a4, a5, a6, a7, a8, a9, a10, a11, a12, a13, a14, a15, a16, a17, a18, a19] = [a0, a1, a2, a3, a4, a5, a6, a7, a8, a9, a10, a11, a12, a13, a14, a15, a16, a17, a18, a19] := rfl
theorem bool_two (b : Bool) : b = false ∨ b = true := by cases b <;> simp
theorem ren_row {σ : Nat → Option Nat} {L : List Value} {el : Nat} {ow : Bool} {o1 : HO} (hB : Byt L) (e : o1 = rowO L el ow) : renO σ o1 (rowO L el ow) := by
  rw [e]
  exact renO_row rfl rfl hB.noIds
end Go.Proofs.YtnlinnjpkjmpaaaDoor.Ex
