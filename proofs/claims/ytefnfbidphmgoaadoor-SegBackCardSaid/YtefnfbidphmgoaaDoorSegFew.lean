/- few of layer 11: a segment with at most so many bytes. No conditions but those that each names. -/
import Derived.Test.YtefnfbidphmgoaaDoorCon
set_option linter.unusedVariables false
set_option linter.unusedSimpArgs false
set_option maxRecDepth 100000
namespace Go.Proofs.YtefnfbidphmgoaaDoor.Ex
open Go Go.RowKit

theorem cond_sameS {α : Type} (b : Bool) (x : α) : (bif b then x else x) = x := by cases b <;> rfl
theorem take_allS {L : List Value} {n m : Nat} (h : (L.take n).all one = true) (hm : m ≤ n) : (L.take m).all one = true := by
  rw [List.all_eq_true] at h ⊢
  intro v hv
  exact h v (List.take_subset_take_left L hm hv)
noncomputable def sclipV (k : Nat) : Ent := fun j args h n => match args with
  | [.agg ⟨[.int .i64 f, .int .i64 t, .int .u32 sq, .int .u32 ak, .int .i64 fl, .int .i64 wi, .int .i64 u, .int .i64 gr, x]⟩] => match winS x h with
    | some (len, L, p) => match j with
      | 0 => some (⟨.agg #[.int .i64 f, .int .i64 t, .int .u32 sq, .int .u32 ak, .int .i64 fl, .int .i64 wi, .int .i64 u, .int .i64 gr, .slice (some ⟨n, 0, some 0⟩) (min len k) 0], tput h n (some (rowO (L.take (min len k)) 5 true)), n + 1, [n]⟩, p ∧ len ≤ 65495 ∧ L.all one = true)
      | _ => some (⟨.agg #[.int .i64 f, .int .i64 t, .int .u32 sq, .int .u32 ak, .int .i64 fl, .int .i64 wi, .int .i64 u, .int .i64 gr, .slice (some ⟨n, 0, none⟩) 65496 65496], tput h n (some (rowO (zerosL 65496) 5 false)), n + 1, [n]⟩, p ∧ 65495 < len)
    | none => none
  | _ => none
/-! ### As one way -/
def sSp (n : Nat) : Option Nat := if n ≤ 65495 then some 0 else none
def sLen (k n : Nat) : Nat := if n ≤ 65495 then min n k else 65496
def sCap (n : Nat) : Nat := if n ≤ 65495 then 0 else 65496
def sOwn (n : Nat) : Bool := if n ≤ 65495 then true else false
noncomputable def sRow (k n : Nat) (L : List Value) : List Value := if n ≤ 65495 then L.take (min n k) else zerosL 65496
/-- How few leaves a packet's bytes: as a variable. -/
structure Sw where
  sp : Nat → Option Nat
  len : Nat → Nat
  cap : Nat → Nat
  own : Nat → Bool
  row : Nat → List Value → List Value
noncomputable def sfewW (k : Nat) (Z : Sw) : Ent := fun j args h n => match args with
  | [.agg ⟨[.int .i64 f, .int .i64 t, .int .u32 sq, .int .u32 ak, .int .i64 fl, .int .i64 wi, .int .i64 u, .int .i64 gr, x]⟩] => match winS x h with
    | some (len, L, p) => some (⟨.agg #[.int .i64 f, .int .i64 t, .int .u32 sq, .int .u32 ak, .int .i64 fl, .int .i64 wi, .int .i64 u, .int .i64 gr, .slice (some ⟨n, 0, Z.sp len⟩) (Z.len len) (Z.cap len)], tput h n (some (rowO (Z.row len L) 5 (Z.own len))), n + 1, [n]⟩, p ∧ L.all one = true)
    | none => none
  | _ => none
noncomputable def Yof (k : Nat) : Sw := ⟨sSp, sLen k, sCap, sOwn, sRow k⟩
theorem sfew_det (k : Nat) (Z : Sw) : EntDet (sfewW k Z) := det_of fun _ _ _ _ _ => rfl
theorem sfew_of {ε : Nat → Option Value} {base : Base} {f k : Nat} (h0 : EntOk Tryd.prog ε base f (sclipV k)) : EntOk Tryd.prog ε base f (sfewW k (Yof k)) := by
  intro j args h n r p e hp
  unfold sfewW at e
  split at e
  case h_2 => cases e
  rename_i f t sq ak fl wi u gr x
  split at e
  case h_2 => cases e
  rename_i len L q hw
  cases e
  obtain ⟨h1, h3⟩ := hp
  by_cases hl : len ≤ 65495
  · refine h0 0 _ _ _ _ (q ∧ len ≤ 65495 ∧ L.all one = true) ?_ ⟨h1, hl, h3⟩
    simp only [sclipV, hw, Yof, sSp, sLen, sCap, sOwn, sRow, if_pos hl]
  · refine h0 1 _ _ _ _ (q ∧ 65495 < len) ?_ ⟨h1, by omega⟩
    simp only [sclipV, hw, Yof, sSp, sLen, sCap, sOwn, sRow, if_neg hl]
/-- What is known of it. -/
structure SwOk (Z : Sw) (k : Nat) : Prop where
  pl : ∀ n, plainP (Z.sp n) 0
  rm : ∀ n, roomP (Z.sp n) (Z.len n) (Z.cap n)
  le : ∀ n, Z.len n ≤ k ∨ Z.len n = 65496
  row : ∀ n L, L.length = n → (Z.row n L).length = Z.len n
  byt : ∀ n L, Byt L → Byt (Z.row n L)
  len2 : ∀ n, Z.len (Z.len n) = Z.len n
  row2 : ∀ n L, L.length = n → Z.row (Z.len n) (Z.row n L) = Z.row n L
theorem swOk (k : Nat) (hk : k ≤ 65495) : SwOk (Yof k) k where
  pl n := by show plainP (sSp n) 0; unfold sSp; split <;> first | rfl | trivial
  rm n := by
    show roomP (sSp n) (sLen k n) (sCap n)
    unfold sSp sLen sCap
    by_cases h : n ≤ 65495
    · rw [if_pos h, if_pos h, if_pos h]; simp only [roomP]
    · rw [if_neg h, if_neg h, if_neg h]; simp only [roomP]; omega
  le n := by show sLen k n ≤ k ∨ sLen k n = 65496; unfold sLen; split <;> omega
  row n L h := by
    show (sRow k n L).length = sLen k n
    unfold sRow sLen
    split
    · rw [List.length_take]; omega
    · exact zerosL_len _
  byt n L h := by
    show Byt (sRow k n L)
    unfold sRow
    split
    · exact h.take _
    · exact zerosL_byt _
  len2 n := by
    show sLen k (sLen k n) = sLen k n
    unfold sLen
    by_cases h : n ≤ 65495
    · rw [if_pos h, if_pos (by omega)]; omega
    · rw [if_neg h]; rfl
  row2 n L h := by
    show sRow k (sLen k n) (sRow k n L) = sRow k n L
    unfold sRow sLen
    by_cases hn : n ≤ 65495
    · rw [if_pos hn, if_pos hn, if_pos (by omega), List.take_take]; congr 1; omega
    · rw [if_neg hn, if_neg hn, if_neg (by omega)]
section
variable {ε : Nat → Option Value} {base : Base} (hε : ∀ i V, ε i = some V → one V = true)
include hε
theorem sclip300_ok : EntOk Tryd.prog ε base 8 (sclipV 300) := by
  intro j args h n r p e hp
  unfold sclipV at e
  split at e
  case h_2 => cases e
  rename_i f t sq ak fl wi u gr x
  split at e
  case h_2 => cases e
  rename_i len L q hw
  have E : Env Tryd.prog ε base [(15, bytesV)] := ⟨hε, noCount_of hN, hmix, specs1 (bytes_ok hε) specs0, dets1 bytes_det dets0⟩
  have b1 : Tryd.prog.funcs[8]? = some Tryd.f8 := by kernel_rfl
  have b2 : Tryd.f8.body = some (bodyOf 8) := by kernel_rfl
  have b3 : 1 ≤ Tryd.f8.ntmps := of_decide_eq_true (by kernel_rfl)
  have hkeep : ∀ (o : HO) (id : Nat), id ∉ [n] → tget (tput h n (some o)) id = tget h id := fun o id hid => by rw [tget_tput, if_neg (by simpa using hid)]
  cases j with
  | zero =>
    cases e
    obtain ⟨hq, hlen, hone⟩ := hp
    rcases winS_some hw hq with ⟨rfl, rfl, rfl⟩ | ⟨i, off, sp, c, oc, oe, oo, orr, om, ock, on, rfl, ho, a1, a5, a2, a3, a4⟩
    · refine callOk_none (args0 := [.agg #[.int .i64 f, .int .i64 t, .int .u32 sq, .int .u32 ak, .int .i64 fl, .int .i64 wi, .int .i64 u, .int .i64 gr, .slice none 0 0]]) b1 b2 b3 ⟨3, rfl⟩ (Nat.le_succ n) (fun id hid => by simp at hid; subst hid; exact ⟨Nat.le_refl _, Nat.lt_succ_self _⟩) (hkeep _) ?_
      refine leads_end E 40 100000 [] (p := [(((0 : Nat) = (0)) ∧ (0 : Nat) = (0)) ∧ ((true : Bool) = (true)) ∧ (growP 0 1)]) (by kernel_rfl) (by kernel_rfl) ⟨⟨⟨?_, ?_⟩, ⟨?_, ?_⟩⟩, trivial⟩ (Fin.new (k := 2) (vs := [Value.agg { toList := [Value.int IntKind.i64 f, Value.int IntKind.i64 t, Value.int IntKind.u32 sq, Value.int IntKind.u32 ak, Value.int IntKind.i64 fl, Value.int IntKind.i64 wi, Value.int IntKind.i64 u, Value.int IntKind.i64 gr, Value.slice (some { block := 2, off := 0, spot := some 0 }) 0 0] }]) (o1 := { kind := 0, cells := [], elem := 5, opn := true, ro := false, mkd := false, entries := [], clock := 0, nats := [] }) (by kernel_rfl) (.inl rfl) (by simp) ⟨3, rfl⟩ (by kernel_rfl) rfl (renO_row rfl rfl .nil)) <;> (first | exact ⟨rfl, rfl⟩ | simp [growP])
    · subst a4
      have hm : min 300 len = min len 300 := Nat.min_comm _ _
      have ht : ((oc.drop off).take len).take (min len 300) = (oc.drop off).take (min len 300) := by rw [List.take_take]; congr 1; omega
      rw [ht]
      cases sp with
      | some alt =>
        refine callOk_one (args0 := [.agg #[.int .i64 f, .int .i64 t, .int .u32 sq, .int .u32 ak, .int .i64 fl, .int .i64 wi, .int .i64 u, .int .i64 gr, .slice (some ⟨0, off, some alt⟩) len c]]) b1 b2 b3 ⟨3, rfl⟩ ho rfl rfl a3 (Nat.le_succ n) (fun id hid => by simp at hid; subst hid; exact ⟨Nat.le_refl _, Nat.lt_succ_self _⟩) (hkeep _) ?_
        refine leads_end E 40 100000 [([4, 3], Ch.val (Value.bool false)), ([6, 6], Ch.sl0 (min 300 len))] (p := [(((plainP (some alt) off)) ∧ ((roomP (some alt) (min 300 len) c)) ∧ ((fitP off (min 300 len) (List.length oc))) ∧ ((NoIds oc)) ∧ ([] : List (Value × Value × Nat)) = ([])) ∧ ((List.all (List.take (min 300 len) (List.drop off oc)) one : Bool) = (true)) ∧ (growP (min 300 len) 1), ((0 : Nat) = (0)) ∧ ((if 300 < (↑len : Int) then 300 else (↑len : Int) : Int) = ((↑(min 300 len) : Int))) ∧ (min 300 len : Nat) ≤ len, (Value.bool (decide ((↑len : Int) > 65495)) : Value) = (Value.bool false)]) (by kernel_rfl) (by kernel_rfl) ⟨⟨⟨?_, ⟨?_, ⟨?_, ⟨?_, ?_⟩⟩⟩⟩, ⟨?_, ?_⟩⟩, ⟨?_, ⟨?_, ?_⟩⟩, (congrArg Value.bool (by first | (simp only [decide_eq_false_iff_not]; omega) | (simp only [decide_eq_true_eq]; omega))), trivial⟩ (Fin.new (k := 3) (vs := [Value.agg { toList := [Value.int IntKind.i64 f, Value.int IntKind.i64 t, Value.int IntKind.u32 sq, Value.int IntKind.u32 ak, Value.int IntKind.i64 fl, Value.int IntKind.i64 wi, Value.int IntKind.i64 u, Value.int IntKind.i64 gr, Value.slice (some { block := 3, off := 0, spot := some 0 }) (min 300 len) 0] }]) (by kernel_rfl) (.inl rfl) (by simp) ⟨3, by first | rfl | (rw [← hm]; rfl)⟩ (o1 := { kind := 0, cells := List.take (min 300 len) (List.drop off oc), elem := 5, opn := true, ro := false, mkd := false, entries := [], clock := 0, nats := [] }) (by kernel_rfl) rfl (by first | exact renO_row rfl rfl ((a3.drop _).take _) | (rw [← hm]; exact renO_row rfl rfl ((a3.drop _).take _)))) <;> (first | exact a1 | (simp only [roomP]; omega) | (unfold fitP at *; omega) | exact a5 | exact trivial | exact a3 | rfl | trivial | omega | (split <;> omega) | (simp only [growP]; omega) | (exact take_allS hone (by omega)) | (simp only [Nat.add_zero, cond_sameS]; done) | (cases Nat.beq 0 c <;> rfl))
      | none =>
        replace a5 : len ≤ c := a5
        refine callOk_one (args0 := [.agg #[.int .i64 f, .int .i64 t, .int .u32 sq, .int .u32 ak, .int .i64 fl, .int .i64 wi, .int .i64 u, .int .i64 gr, .slice (some ⟨0, off, none⟩) len c]]) b1 b2 b3 ⟨3, rfl⟩ ho rfl rfl a3 (Nat.le_succ n) (fun id hid => by simp at hid; subst hid; exact ⟨Nat.le_refl _, Nat.lt_succ_self _⟩) (hkeep _) ?_
        refine leads_end E 40 100000 [([4, 3], Ch.val (Value.bool false)), ([6, 6], Ch.sl 0 (min 300 len) off)] (p := [(((plainP none off)) ∧ ((roomP none (min 300 len - 0) (c - 0))) ∧ ((fitP off (min 300 len - 0) (List.length oc))) ∧ ((NoIds oc)) ∧ ([] : List (Value × Value × Nat)) = ([])) ∧ ((List.all (List.take (min 300 len - 0) (List.drop off oc)) one : Bool) = (true)) ∧ (growP (min 300 len - 0) 1), ((0 : Nat) = (0)) ∧ ((if 300 < (↑len : Int) then 300 else (↑len : Int) : Int) = ((↑(min 300 len) : Int))) ∧ ((0 : Nat) ≤ min 300 len) ∧ ((min 300 len : Nat) ≤ c) ∧ (bif Nat.beq 0 c then off else off + 0 : Nat) = (off), (Value.bool (decide ((↑len : Int) > 65495)) : Value) = (Value.bool false)]) (by kernel_rfl) (by kernel_rfl) ⟨⟨⟨?_, ⟨?_, ⟨?_, ⟨?_, ?_⟩⟩⟩⟩, ⟨?_, ?_⟩⟩, ⟨?_, ⟨?_, ⟨?_, ⟨?_, ?_⟩⟩⟩⟩, (congrArg Value.bool (by first | (simp only [decide_eq_false_iff_not]; omega) | (simp only [decide_eq_true_eq]; omega))), trivial⟩ (Fin.new (k := 3) (vs := [Value.agg { toList := [Value.int IntKind.i64 f, Value.int IntKind.i64 t, Value.int IntKind.u32 sq, Value.int IntKind.u32 ak, Value.int IntKind.i64 fl, Value.int IntKind.i64 wi, Value.int IntKind.i64 u, Value.int IntKind.i64 gr, Value.slice (some { block := 3, off := 0, spot := some 0 }) (min 300 len - 0) 0] }]) (by kernel_rfl) (.inl rfl) (by simp) ⟨3, by first | rfl | (rw [← hm]; rfl)⟩ (o1 := { kind := 0, cells := List.take (min 300 len - 0) (List.drop off oc), elem := 5, opn := true, ro := false, mkd := false, entries := [], clock := 0, nats := [] }) (by kernel_rfl) rfl (by first | exact renO_row rfl rfl ((a3.drop _).take _) | (rw [← hm]; exact renO_row rfl rfl ((a3.drop _).take _)))) <;> (first | exact a1 | (simp only [roomP]; omega) | (unfold fitP at *; omega) | exact a5 | exact trivial | exact a3 | rfl | trivial | omega | (split <;> omega) | (simp only [growP]; omega) | (exact take_allS hone (by omega)) | (simp only [Nat.add_zero, cond_sameS]; done) | (cases Nat.beq 0 c <;> rfl))
  | succ j =>
    cases e
    obtain ⟨hq, hlen⟩ := hp
    rcases winS_some hw hq with ⟨rfl, rfl, rfl⟩ | ⟨i, off, sp, c, oc, oe, oo, orr, om, ock, on, rfl, ho, a1, a5, a2, a3, a4⟩
    · omega
    · refine callOk_one (args0 := [.agg #[.int .i64 f, .int .i64 t, .int .u32 sq, .int .u32 ak, .int .i64 fl, .int .i64 wi, .int .i64 u, .int .i64 gr, .slice (some ⟨0, off, sp⟩) len c]]) b1 b2 b3 ⟨3, rfl⟩ ho rfl rfl a3 (Nat.le_succ n) (fun id hid => by simp at hid; subst hid; exact ⟨Nat.le_refl _, Nat.lt_succ_self _⟩) (hkeep _) ?_
      exact leads_end E 40 100000 [([4, 3], Ch.val (Value.bool true))] (p := [(Value.bool (decide ((↑len : Int) > 65495)) : Value) = (Value.bool true)]) (by kernel_rfl) (by kernel_rfl) ⟨(congrArg Value.bool (by first | (simp only [decide_eq_false_iff_not]; omega) | (simp only [decide_eq_true_eq]; omega))), trivial⟩ (Fin.new (k := 3) (vs := [Value.agg { toList := [Value.int IntKind.i64 f, Value.int IntKind.i64 t, Value.int IntKind.u32 sq, Value.int IntKind.u32 ak, Value.int IntKind.i64 fl, Value.int IntKind.i64 wi, Value.int IntKind.i64 u, Value.int IntKind.i64 gr, Value.slice (some { block := 3, off := 0 }) 65496 65496] }]) (by kernel_rfl) (.inl rfl) (by simp) ⟨3, rfl⟩ (o1 := rowO (zerosL 65496) 5 false) (by kernel_rfl) rfl (renO_row rfl rfl (.all (zerosL_all _))))
end
end Go.Proofs.YtefnfbidphmgoaaDoor.Ex
