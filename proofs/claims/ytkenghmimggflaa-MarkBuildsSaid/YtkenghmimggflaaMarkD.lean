/- What mark does: the words. No conditions but those that each names. -/
import Derived.Test.YtkenghmimggflaaCon
import Derived.Laws.BitsLemmas
import Derived.Laws.Bits64
set_option linter.unusedVariables false
set_option linter.unusedSimpArgs false
set_option maxRecDepth 100000
namespace Go.Proofs.Ytkenghmimggflaa.Ex
open Go Go.RowKit

def kindB (k : Int) : Bool := decide (1 ≤ k ∧ k ≤ 5)
def lastsB (k n : Int) : Bool := if k = 1 then decide (29 ≤ n) else if k = 2 then decide (23 ≤ n) else if k = 3 then decide (21 ≤ n) else if k = 4 then decide (n = 19) else decide (n = 23)
def rightB (k n : Int) : Bool := decide (19 ≤ n ∧ n ≤ 4096) && kindB k && lastsB k n

noncomputable def kindV : Ent := fun _ args h n => match args with
  | [.int .i64 k] => some (⟨.bool (kindB k), h, n, []⟩, True)
  | _ => none
noncomputable def lastsV : Ent := fun _ args h n => match args with
  | [.int .i64 k, .int .i64 m] => some (⟨.bool (lastsB k m), h, n, []⟩, True)
  | _ => none
noncomputable def rightV : Ent := fun _ args h n => match args with
  | [.int .i64 k, .int .i64 m] => some (⟨.bool (rightB k m), h, n, []⟩, True)
  | _ => none
/-- A head's cells. -/
def headL (k : Int) (len : Nat) : List Value := List.replicate 16 (.int .u8 255) ++ [.int .u8 (((19 + len) / 256 : Nat) : Int), .int .u8 (((19 + len) % 256 : Nat) : Int), .int .u8 (IntKind.u8.wrap k)]
theorem headL_all (k : Int) (len : Nat) : (headL k len).all selfish = true := rfl
noncomputable def buildV : Ent := fun j args h n => match args with
  | [.int .i64 k, x] => match winS x h with
    | some (len, L, p) => match j with
      | 0 => some (⟨.tuple #[.slice (some ⟨n, 0, some 0⟩) (19 + len) 0, .int .i64 0], tput h n (some (rowO (headL k len ++ L) 5 true)), n + 1, [n]⟩, p ∧ rightB k (19 + len) = true ∧ L.all one = true)
      | _ => some (⟨.tuple #[.slice none 0 0, .int .i64 2], h, n, []⟩, p ∧ rightB k (19 + len) = false ∧ len ≤ 100000000)
    | none => none
  | _ => none
theorem build_det : EntDet buildV := fun args h n j j' r r' p p' e hp e' hp' => by
  unfold buildV at e e'
  split at e
  case h_2 => cases e
  rename_i k x
  split at e
  case h_2 => cases e
  rename_i len L q hw
  simp only [hw] at e'
  cases j <;> cases j' <;> simp only [Option.some.injEq, Prod.mk.injEq] at e e' <;> obtain ⟨rfl, rfl⟩ := e <;> obtain ⟨rfl, rfl⟩ := e'
  · rfl
  · have := hp.2.1; rw [hp'.2.1] at this; cases this
  · have := hp.2.1; rw [hp'.2.1] at this; cases this
  · rfl
theorem right_parts {k : Int} {len : Nat} (h : rightB k (19 + len) = true) : len ≤ 4077 ∧ kindB k = true ∧ lastsB k (19 + len) = true := by
  simp [rightB] at h
  exact ⟨by omega, h.1.2, h.2⟩
theorem wrap_len {len : Nat} (h : len ≤ 140737488351232) : IntKind.i64.wrap (19 + (len : Int)) = 19 + len := by rw [IntKind.wrap_i64]; omega
theorem ren_head {σ : Nat → Option Nat} {o1 : HO} {k : Int} {len : Nat} {L : List Value} (hL : NoIds L) (h : o1 = rowO (headL k len ++ L) 5 true) : renO σ o1 (rowO (headL k len ++ L) 5 true) := by
  rw [h]
  exact renO_row rfl rfl ((NoIds.all (headL_all k len)).append hL)
theorem head_code {k : Int} {len : Nat} {L : List Value} (h : len ≤ 4077) : (rowO (Value.int IntKind.u8 255 :: Value.int IntKind.u8 255 :: Value.int IntKind.u8 255 :: Value.int IntKind.u8 255 :: Value.int IntKind.u8 255 :: Value.int IntKind.u8 255 :: Value.int IntKind.u8 255 :: Value.int IntKind.u8 255 :: Value.int IntKind.u8 255 :: Value.int IntKind.u8 255 :: Value.int IntKind.u8 255 :: Value.int IntKind.u8 255 :: Value.int IntKind.u8 255 :: Value.int IntKind.u8 255 :: Value.int IntKind.u8 255 :: Value.int IntKind.u8 255 :: Value.int IntKind.u8 (IntKind.wrap IntKind.u8 (Int.fdiv (IntKind.wrap IntKind.i64 (19 + (↑len : Int))) 256)) :: Value.int IntKind.u8 (IntKind.wrap IntKind.u8 (IntKind.wrap IntKind.i64 (19 + (↑len : Int)))) :: Value.int IntKind.u8 (IntKind.wrap IntKind.u8 k) :: L) 5 true) = rowO (headL k len ++ L) 5 true := by
  have e1 : IntKind.u8.wrap (Int.fdiv (IntKind.i64.wrap (19 + (len : Int))) 256) = (((19 + len) / 256 : Nat) : Int) := by
    rw [wrap_len (by omega), Int.fdiv_eq_ediv_of_nonneg _ (by omega), IntKind.wrap_u8]; omega
  have e2 : IntKind.u8.wrap (IntKind.i64.wrap (19 + (len : Int))) = (((19 + len) % 256 : Nat) : Int) := by
    rw [wrap_len (by omega), IntKind.wrap_u8]; omega
  rw [e1, e2]; rfl
theorem head_ref {k : Int} {len : Nat} {L : List Value} (h : len ≤ 4077) : (rowO (Value.int IntKind.u8 255 :: Value.int IntKind.u8 255 :: Value.int IntKind.u8 255 :: Value.int IntKind.u8 255 :: Value.int IntKind.u8 255 :: Value.int IntKind.u8 255 :: Value.int IntKind.u8 255 :: Value.int IntKind.u8 255 :: Value.int IntKind.u8 255 :: Value.int IntKind.u8 255 :: Value.int IntKind.u8 255 :: Value.int IntKind.u8 255 :: Value.int IntKind.u8 255 :: Value.int IntKind.u8 255 :: Value.int IntKind.u8 255 :: Value.int IntKind.u8 255 :: Value.int IntKind.u8 (IntKind.wrap IntKind.u8 (IntKind.wrap IntKind.i64 (Int.tdiv (IntKind.wrap IntKind.i64 (19 + (↑len : Int))) 256))) :: Value.int IntKind.u8 (IntKind.wrap IntKind.u8 (Int.tmod (IntKind.wrap IntKind.i64 (19 + (↑len : Int))) 256)) :: Value.int IntKind.u8 (IntKind.wrap IntKind.u8 k) :: L) 5 true) = rowO (headL k len ++ L) 5 true := by
  have e1 : IntKind.u8.wrap (IntKind.i64.wrap (Int.tdiv (IntKind.i64.wrap (19 + (len : Int))) 256)) = (((19 + len) / 256 : Nat) : Int) := by
    rw [wrap_len (by omega), Int.tdiv_eq_ediv_of_nonneg (by omega), IntKind.wrap_i64, IntKind.wrap_u8]; omega
  have e2 : IntKind.u8.wrap (Int.tmod (IntKind.i64.wrap (19 + (len : Int))) 256) = (((19 + len) % 256 : Nat) : Int) := by
    rw [wrap_len (by omega), Int.tmod_eq_emod_of_nonneg (by omega), IntKind.wrap_u8]; omega
  rw [e1, e2]; rfl
noncomputable def zerosL (n : Nat) : List Value := rep [.int .u8 0] n
theorem zerosL_eq (n : Nat) : zerosL n = List.replicate n (.int .u8 0) := by
  unfold zerosL
  induction n with
  | zero => rfl
  | succ n ih => simp [rep, ih, List.replicate_succ]
theorem zerosL_all (n : Nat) : (zerosL n).all selfish = true := by rw [zerosL_eq]; simp [selfish]
noncomputable def bodyV : Ent := fun j args h n => match args with
  | [x] => match winS x h with
    | some (len, L, p) => match j with
      | 0 => some (⟨.slice (some ⟨n, 0, some 0⟩) (min len 300) 0, tput h n (some (rowO (L.take (min len 300)) 5 true)), n + 1, [n]⟩, p ∧ len ≤ 4077 ∧ L.all one = true)
      | _ => some (⟨.slice (some ⟨n, 0, none⟩) 4078 4078, tput h n (some (rowO (zerosL 4078) 5 false)), n + 1, [n]⟩, p ∧ 4077 < len)
    | none => none
  | _ => none
theorem body_det : EntDet bodyV := fun args h n j j' r r' p p' e hp e' hp' => by
  unfold bodyV at e e'
  split at e
  case h_2 => cases e
  rename_i x
  split at e
  case h_2 => cases e
  rename_i len L q hw
  simp only [hw] at e'
  cases j <;> cases j' <;> simp only [Option.some.injEq, Prod.mk.injEq] at e e' <;> obtain ⟨rfl, rfl⟩ := e <;> obtain ⟨rfl, rfl⟩ := e'
  · rfl
  · have := hp.2.1; have := hp'.2; omega
  · have := hp.2; have := hp'.2.1; omega
  · rfl
theorem headL_byt (k : Int) (len : Nat) : Byt (headL k len) := by
  intro v hv
  simp only [headL, List.mem_append, List.mem_cons, List.not_mem_nil, or_false, List.mem_replicate] at hv
  rcases hv with ⟨_, rfl⟩ | rfl | rfl | rfl <;> exact ⟨_, rfl⟩
theorem headL_len (k : Int) (len : Nat) : (headL k len).length = 19 := rfl
theorem zerosL_len (n : Nat) : (zerosL n).length = n := by rw [zerosL_eq]; simp
end Go.Proofs.Ytkenghmimggflaa.Ex
