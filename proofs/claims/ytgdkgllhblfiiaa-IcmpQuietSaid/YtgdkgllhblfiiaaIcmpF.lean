/- The law's words of icmp. No conditions but those that each names. -/
import Derived.Test.YtgdkgllhblfiiaaIcmpS
import Derived.Test.YtgdkgllhblfiiaaExY
set_option linter.unusedVariables false
set_option linter.unusedSimpArgs false
set_option maxRecDepth 100000
namespace Go.Proofs.Ytgdkgllhblfiiaa.Ex
open Go Go.RowKit

/-! ### few, as one way -/

def fSp (n : Nat) : Option Nat := if n ≤ 1472 then some 0 else none
def fLen (n : Nat) : Nat := if n ≤ 1472 then min n 300 else 1473
def fCap (n : Nat) : Nat := if n ≤ 1472 then 0 else 1473
def fOwn (n : Nat) : Bool := if n ≤ 1472 then true else false
noncomputable def fRow (n : Nat) (L : List Value) : List Value := if n ≤ 1472 then L.take (min n 300) else zerosL 1473
noncomputable def fewV : Ent := fun _ args h n => match args with
  | [x] => match winS x h with
    | some (len, L, p) => some (⟨.slice (some ⟨n, 0, fSp len⟩) (fLen len) (fCap len), tput h n (some (rowO (fRow len L) 5 (fOwn len))), n + 1, [n]⟩, p ∧ L.all one = true)
    | none => none
  | _ => none
theorem fewV_det : EntDet fewV := det_of fun _ _ _ _ _ => rfl
theorem fewV_ok {ε : Nat → Option Value} {base : Base} (hε : ∀ i V, ε i = some V → one V = true) : EntOk Try.prog ε base 7 fewV := by
  intro j args h n r p e hp
  unfold fewV at e
  split at e
  case h_2 => cases e
  rename_i x
  split at e
  case h_2 => cases e
  rename_i len L q hw
  cases e
  by_cases hl : len ≤ 1472
  · refine few_ok hε 0 [x] h n _ (q ∧ len ≤ 1472 ∧ L.all one = true) ?_ ⟨hp.1, hl, hp.2⟩
    simp only [clipV, hw, fSp, fLen, fCap, fOwn, fRow, if_pos hl]
  · refine few_ok hε 1 [x] h n _ (q ∧ 1472 < len) ?_ ⟨hp.1, by omega⟩
    simp only [clipV, hw, fSp, fLen, fCap, fOwn, fRow, if_neg hl]
theorem f_plain (n : Nat) : plainP (fSp n) 0 := by unfold fSp; split <;> first | rfl | trivial
theorem f_room (n : Nat) : roomP (fSp n) (fLen n) (fCap n) := by
  unfold fSp fLen fCap
  by_cases h : n ≤ 1472
  · rw [if_pos h, if_pos h, if_pos h]; simp only [roomP]
  · rw [if_neg h, if_neg h, if_neg h]; simp only [roomP]; omega
theorem f_len (n : Nat) : fLen n ≤ 300 ∨ fLen n = 1473 := by unfold fLen; split <;> omega
theorem f_row {n : Nat} {L : List Value} (h : L.length = n) : (fRow n L).length = fLen n := by
  unfold fRow fLen
  split
  · rw [List.length_take]; omega
  · exact zerosL_len _
theorem f_byt {n : Nat} {L : List Value} (h : Byt L) : Byt (fRow n L) := by
  unfold fRow
  split
  · exact h.take _
  · exact zerosL_byt _
theorem f_all {n : Nat} {L : List Value} (h : L.length = n) : List.take (fLen n) (List.drop 0 (fRow n L)) = fRow n L := by
  rw [List.drop_zero, List.take_of_length_le (by rw [f_row h]; exact Nat.le_refl _)]
theorem f_fit {n : Nat} {L : List Value} (h : L.length = n) : fitP 0 (fLen n) (fRow n L).length := .inr (by rw [f_row h]; omega)

/-! ### What was built is read back -/

theorem sumL_msg {k c r : Int} {L : List Value} (h : okM k c r) (hL : Byt L) : sumL (msgL k c r L) = 65535 := by
  have hw : Plain.words (numsOf (msgL k c r L)) = Plain.words (numsOf (preL k c r L)) + (65535 - sumL (preL k c r L)) := by
    have hr := sumL_range (preL k c r L)
    simp only [msgL, preL, numsOf, List.map_cons, numOf, Plain.words]
    simp only [preL, numsOf, List.map_cons, numOf] at hr
    omega
  have h0 : 0 ≤ Plain.words (numsOf (preL k c r L)) := Plain.words_nonneg _ fun x hx => ((preL_byt h hL).range x hx).1
  show Plain.canon _ = _
  rw [hw]
  exact Plain.canon_right _ h0
theorem msg_kind (k c r : Int) (L : List Value) : numAt (msgL k c r L) 0 = k := rfl
theorem msg_code (k c r : Int) (L : List Value) : numAt (msgL k c r L) 1 = c := rfl
theorem msg_rest {k c r : Int} (h : okM k c r) (L : List Value) : restOf (msgL k c r L) = r := by
  unfold okM at h
  show 16777216 * (r / 16777216) + 65536 * (r / 65536 % 256) + 256 * (r / 256 % 256) + r % 256 = r
  omega
theorem msg_drop (k c r : Int) (L : List Value) : (msgL k c r L).drop 8 = L := rfl
theorem msg_all (k c r : Int) {L : List Value} {m : Nat} (h : L.length = m) : List.take (8 + m) (List.drop 0 (msgL k c r L)) = msgL k c r L := by
  rw [List.drop_zero, List.take_of_length_le (by rw [msgL_len]; omega)]

/-! ### The words, as variables -/

structure Abs where
  sp : Nat → Option Nat
  len : Nat → Nat
  cap : Nat → Nat
  own : Nat → Bool
  row : Nat → List Value → List Value
  msg : Int → Int → Int → List Value → List Value
  sum : List Value → Int
  num : List Value → Nat → Int
  rest : List Value → Int
noncomputable def fewW (S : Abs) : Ent := fun _ args h n => match args with
  | [x] => match winS x h with
    | some (len, L, p) => some (⟨.slice (some ⟨n, 0, S.sp len⟩) (S.len len) (S.cap len), tput h n (some (rowO (S.row len L) 5 (S.own len))), n + 1, [n]⟩, p ∧ L.all one = true)
    | none => none
  | _ => none
noncomputable def ibuildW (S : Abs) : Ent := fun j args h n => match args with
  | [.agg ⟨[.int .i64 k, .int .i64 c, .int .u32 r, x]⟩] => match winS x h with
    | some (len, L, p) => match j with
      | 0 => some (⟨.tuple #[.slice (some ⟨n, 0, some 0⟩) (8 + len) 0, .int .i64 0], tput h n (some (rowO (S.msg k c r L) 5 true)), n + 1, [n]⟩, p ∧ Byt L ∧ okM k c r ∧ len ≤ 1472)
      | 1 => some (⟨.tuple #[.slice none 0 0, .int .i64 2], h, n, []⟩, p ∧ (k < 0 ∨ 255 < k ∨ c < 0 ∨ 255 < c))
      | _ => some (⟨.tuple #[.slice none 0 0, .int .i64 3], h, n, []⟩, p ∧ okM k c r ∧ 1472 < len)
    | none => none
  | _ => none
noncomputable def ireadW (S : Abs) : Ent := fun j args h n => match args with
  | [x] => match winS x h, tailS x h with
    | some (len, L, p), some tl => match j with
      | 0 => some (⟨.tuple #[.agg #[.int .i64 (S.num L 0), .int .i64 (S.num L 1), .int .u32 (S.rest L), .slice (some ⟨n, 0, some 0⟩) (len - 8) 0], .int .i64 0], tput h n (some (rowO (L.drop 8) 5 true)), n + 1, [n]⟩, p ∧ Byt L ∧ len ≤ 100000 ∧ 8 ≤ len ∧ S.sum L = 65535 ∧ tl)
      | _ => some (⟨.tuple #[.agg #[.int .i64 0, .int .i64 0, .int .u32 0, .slice none 0 0], .int .i64 90], h, n, []⟩, p ∧ Byt L ∧ len ≤ 100000 ∧ (len < 8 ∨ S.sum L ≠ 65535))
    | _, _ => none
  | _ => none
noncomputable def S0 : Abs := ⟨fSp, fLen, fCap, fOwn, fRow, msgL, sumL, numAt, restOf⟩
theorem fewW_eq : fewW S0 = fewV := rfl
theorem ibuildW_eq : ibuildW S0 = ibuildV := rfl
theorem ireadW_eq : ireadW S0 = ireadV := rfl
end Go.Proofs.Ytgdkgllhblfiiaa.Ex
