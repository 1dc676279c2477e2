/- What icmp does: the words. No conditions but those that each names. -/
import Derived.Test.YtgdkgllhblfiiaaConSum
import Derived.Laws.BitsLemmas
import Derived.Laws.BitsAllLaws
import Derived.Laws.Bits64
set_option linter.unusedVariables false
set_option linter.unusedSimpArgs false
set_option maxRecDepth 100000
namespace Go.Proofs.Ytgdkgllhblfiiaa.Ex
open Go Go.RowKit

/-- The rest's four bytes, ahead of what follows. -/
def restL (r : Int) (T : List Value) : List Value := .int .u8 (r / 16777216) :: .int .u8 (r / 65536 % 256) :: .int .u8 (r / 256 % 256) :: .int .u8 (r % 256) :: T
/-- A message without its sum. -/
def preL (k c r : Int) (L : List Value) : List Value := .int .u8 k :: .int .u8 c :: .int .u8 0 :: .int .u8 0 :: restL r L
/-- A message's bytes. -/
def msgL (k c r : Int) (L : List Value) : List Value := .int .u8 k :: .int .u8 c :: .int .u8 ((65535 - sumL (preL k c r L)) / 256) :: .int .u8 ((65535 - sumL (preL k c r L)) % 256) :: restL r L
def okM (k c r : Int) : Prop := 0 ≤ k ∧ k ≤ 255 ∧ 0 ≤ c ∧ c ≤ 255 ∧ 0 ≤ r ∧ r < 4294967296
theorem restL_byt {r : Int} {L : List Value} (h0 : 0 ≤ r) (h1 : r < 4294967296) (h : Byt L) : Byt (restL r L) := .cons (by omega) (by omega) (.cons (by omega) (by omega) (.cons (by omega) (by omega) (.cons (by omega) (by omega) h)))
theorem preL_byt {k c r : Int} {L : List Value} (h : okM k c r) (hL : Byt L) : Byt (preL k c r L) := .cons h.1 h.2.1 (.cons h.2.2.1 h.2.2.2.1 (.cons (by omega) (by omega) (.cons (by omega) (by omega) (restL_byt h.2.2.2.2.1 h.2.2.2.2.2 hL))))
theorem msgL_byt {k c r : Int} {L : List Value} (h : okM k c r) (hL : Byt L) : Byt (msgL k c r L) := by
  have := sumL_range (preL k c r L)
  exact .cons h.1 h.2.1 (.cons h.2.2.1 h.2.2.2.1 (.cons (by omega) (by omega) (.cons (by omega) (by omega) (restL_byt h.2.2.2.2.1 h.2.2.2.2.2 hL))))
theorem restL_len (r : Int) (L : List Value) : (restL r L).length = 4 + L.length := by simp [restL]; omega
theorem preL_len (k c r : Int) (L : List Value) : (preL k c r L).length = 8 + L.length := by simp [preL, restL]; omega
theorem msgL_len (k c r : Int) (L : List Value) : (msgL k c r L).length = 8 + L.length := by simp [msgL, restL]; omega
theorem fdiv_pos {a b : Int} (h : 0 ≤ b) : Int.fdiv a b = a / b := Int.fdiv_eq_ediv_of_nonneg a h
/-- As the code writes them. -/
theorem pre_code {k c r : Int} {L : List Value} (h : okM k c r) :
    (Value.int IntKind.u8 (IntKind.wrap IntKind.u8 k) :: Value.int IntKind.u8 (IntKind.wrap IntKind.u8 c) :: Value.int IntKind.u8 0 :: Value.int IntKind.u8 0 :: Value.int IntKind.u8 (IntKind.wrap IntKind.u8 (Int.fdiv r 16777216)) :: Value.int IntKind.u8 (IntKind.wrap IntKind.u8 (Int.fdiv r 65536)) :: Value.int IntKind.u8 (IntKind.wrap IntKind.u8 (Int.fdiv r 256)) :: Value.int IntKind.u8 (IntKind.wrap IntKind.u8 r) :: L) = preL k c r L := by
  obtain ⟨h1, h2, h3, h4, h5, h6⟩ := h
  rw [fdiv_pos (by omega), fdiv_pos (by omega), fdiv_pos (by omega)]
  simp only [IntKind.wrap_u8]
  unfold preL restL
  rw [show k % 256 = k by omega, show c % 256 = c by omega, show r / 16777216 % 256 = r / 16777216 by omega]
/-- As the reference writes them. -/
theorem pre_ref {k c r : Int} {L : List Value} (h : okM k c r) :
    (Value.int IntKind.u8 (IntKind.wrap IntKind.u8 k) :: Value.int IntKind.u8 (IntKind.wrap IntKind.u8 c) :: Value.int IntKind.u8 0 :: Value.int IntKind.u8 0 :: Value.int IntKind.u8 (IntKind.wrap IntKind.u8 (IntKind.wrap IntKind.u32 (Int.tdiv r 16777216))) :: Value.int IntKind.u8 (IntKind.wrap IntKind.u8 (Int.tmod (IntKind.wrap IntKind.u32 (Int.tdiv r 65536)) 256)) :: Value.int IntKind.u8 (IntKind.wrap IntKind.u8 (Int.tmod (IntKind.wrap IntKind.u32 (Int.tdiv r 256)) 256)) :: Value.int IntKind.u8 (IntKind.wrap IntKind.u8 (Int.tmod r 256)) :: L) = preL k c r L := by
  obtain ⟨h1, h2, h3, h4, h5, h6⟩ := h
  rw [Int.tdiv_eq_ediv_of_nonneg h5, Int.tdiv_eq_ediv_of_nonneg h5, Int.tdiv_eq_ediv_of_nonneg h5, Int.tmod_eq_emod_of_nonneg h5]
  simp only [IntKind.wrap_u8, IntKind.wrap_u32]
  rw [Int.tmod_eq_emod_of_nonneg (by omega), Int.tmod_eq_emod_of_nonneg (by omega)]
  unfold preL restL
  rw [show k % 256 = k by omega, show c % 256 = c by omega, show r / 16777216 % 4294967296 % 256 = r / 16777216 by omega, show r / 65536 % 4294967296 % 256 % 256 = r / 65536 % 256 by omega, show r / 256 % 4294967296 % 256 % 256 = r / 256 % 256 by omega, show r % 256 % 256 = r % 256 by omega]
theorem sum_code {s : Int} (h : 0 ≤ s ∧ s ≤ 65535) : IntKind.wrap IntKind.u8 (Int.fdiv (IntKind.wrap IntKind.i64 (65535 - s)) 256) = (65535 - s) / 256 ∧ IntKind.wrap IntKind.u8 (IntKind.wrap IntKind.i64 (65535 - s)) = (65535 - s) % 256 := by
  rw [fdiv_pos (by omega)]
  simp only [IntKind.wrap_u8, IntKind.wrap_i64]
  omega
theorem sum_ref {s : Int} (h : 0 ≤ s ∧ s ≤ 65535) : IntKind.wrap IntKind.u8 (IntKind.wrap IntKind.u16 (Int.tdiv (65535 - s) 256)) = (65535 - s) / 256 ∧ IntKind.wrap IntKind.u8 (Int.tmod (65535 - s) 256) = (65535 - s) % 256 := by
  rw [Int.tdiv_eq_ediv_of_nonneg (by omega), Int.tmod_eq_emod_of_nonneg (by omega)]
  simp only [IntKind.wrap_u8, IntKind.wrap_u16]
  omega
theorem all_code {k c r : Int} {L : List Value} {m : Nat} (h : okM k c r) (hm : m = 8 + L.length) :
    (Value.int IntKind.u8 (IntKind.wrap IntKind.u8 k) :: Value.int IntKind.u8 (IntKind.wrap IntKind.u8 c) :: Value.int IntKind.u8 (IntKind.wrap IntKind.u8 (Int.fdiv (IntKind.wrap IntKind.i64 (65535 - sumL (List.take m (List.drop 0 (preL k c r L))))) 256)) :: Value.int IntKind.u8 (IntKind.wrap IntKind.u8 (IntKind.wrap IntKind.i64 (65535 - sumL (List.take m (List.drop 0 (preL k c r L)))))) :: Value.int IntKind.u8 (IntKind.wrap IntKind.u8 (Int.fdiv r 16777216)) :: Value.int IntKind.u8 (IntKind.wrap IntKind.u8 (Int.fdiv r 65536)) :: Value.int IntKind.u8 (IntKind.wrap IntKind.u8 (Int.fdiv r 256)) :: Value.int IntKind.u8 (IntKind.wrap IntKind.u8 r) :: L) = msgL k c r L := by
  have h1 := pre_code (L := L) h
  have h2 := sum_code (sumL_range (preL k c r L))
  rw [List.drop_zero, List.take_of_length_le (by rw [preL_len]; omega), h2.1, h2.2]
  simp only [preL, List.cons.injEq, true_and] at h1
  unfold msgL
  rw [h1.1, h1.2.1, h1.2.2]
theorem all_ref {k c r : Int} {L : List Value} {m : Nat} (h : okM k c r) (hm : m = 8 + L.length) :
    (Value.int IntKind.u8 (IntKind.wrap IntKind.u8 k) :: Value.int IntKind.u8 (IntKind.wrap IntKind.u8 c) :: Value.int IntKind.u8 (IntKind.wrap IntKind.u8 (IntKind.wrap IntKind.u16 (Int.tdiv (65535 - sumL (List.take m (List.drop 0 (preL k c r L)))) 256))) :: Value.int IntKind.u8 (IntKind.wrap IntKind.u8 (Int.tmod (65535 - sumL (List.take m (List.drop 0 (preL k c r L)))) 256)) :: Value.int IntKind.u8 (IntKind.wrap IntKind.u8 (IntKind.wrap IntKind.u32 (Int.tdiv r 16777216))) :: Value.int IntKind.u8 (IntKind.wrap IntKind.u8 (Int.tmod (IntKind.wrap IntKind.u32 (Int.tdiv r 65536)) 256)) :: Value.int IntKind.u8 (IntKind.wrap IntKind.u8 (Int.tmod (IntKind.wrap IntKind.u32 (Int.tdiv r 256)) 256)) :: Value.int IntKind.u8 (IntKind.wrap IntKind.u8 (Int.tmod r 256)) :: L) = msgL k c r L := by
  have h1 := pre_ref (L := L) h
  have h2 := sum_ref (sumL_range (preL k c r L))
  rw [List.drop_zero, List.take_of_length_le (by rw [preL_len]; omega), h2.1, h2.2]
  simp only [preL, List.cons.injEq, true_and] at h1
  unfold msgL
  rw [h1.1, h1.2.1, h1.2.2]
noncomputable def ibuildV : Ent := fun j args h n => match args with
  | [.agg ⟨[.int .i64 k, .int .i64 c, .int .u32 r, x]⟩] => match winS x h with
    | some (len, L, p) => match j with
      | 0 => some (⟨.tuple #[.slice (some ⟨n, 0, some 0⟩) (8 + len) 0, .int .i64 0], tput h n (some (rowO (msgL k c r L) 5 true)), n + 1, [n]⟩, p ∧ Byt L ∧ okM k c r ∧ len ≤ 1472)
      | 1 => some (⟨.tuple #[.slice none 0 0, .int .i64 2], h, n, []⟩, p ∧ (k < 0 ∨ 255 < k ∨ c < 0 ∨ 255 < c))
      | _ => some (⟨.tuple #[.slice none 0 0, .int .i64 3], h, n, []⟩, p ∧ okM k c r ∧ 1472 < len)
    | none => none
  | _ => none
theorem ibuild_det : EntDet ibuildV := fun args h n j j' r r' p p' e hp e' hp' => by
  unfold ibuildV at e e'
  split at e
  case h_2 => cases e
  rename_i k c r0 x
  split at e
  case h_2 => cases e
  rename_i len L q hw
  simp only [hw] at e'
  rcases j with _ | _ | j <;> rcases j' with _ | _ | j' <;> simp only [Option.some.injEq, Prod.mk.injEq] at e e' <;> obtain ⟨rfl, rfl⟩ := e <;> obtain ⟨rfl, rfl⟩ := e' <;> first | rfl | (exfalso; unfold okM at *; omega)
end Go.Proofs.Ytgdkgllhblfiiaa.Ex
