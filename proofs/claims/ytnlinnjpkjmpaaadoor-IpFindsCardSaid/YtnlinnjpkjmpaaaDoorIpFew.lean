/- few of layer 7: a packet with at most so many bytes. No conditions but those that each names. -/
import Derived.Test.YtnlinnjpkjmpaaaDoorIpD
set_option linter.unusedVariables false
set_option linter.unusedSimpArgs false
set_option maxRecDepth 100000
namespace Go.Proofs.YtnlinnjpkjmpaaaDoor.Ex
open Go Go.RowKit

theorem cond_sameP {α : Type} (b : Bool) (x : α) : (bif b then x else x) = x := by cases b <;> rfl
theorem take_allP {L : List Value} {n m : Nat} (h : (L.take n).all one = true) (hm : m ≤ n) : (L.take m).all one = true := by
  rw [List.all_eq_true] at h ⊢
  intro v hv
  exact h v (List.take_subset_take_left L hm hv)
noncomputable def pclipV (k : Nat) : Ent := fun j args h n => match args with
  | [.agg ⟨[.int .i64 id, .int .i64 a, .int .i64 life, .int .i64 kind, .bool whole, .bool more, .int .u32 frm, .int .u32 to, x]⟩, .int .i64 y] => match winS x h with
    | some (len, L, p) => match j with
      | 0 => some (⟨.agg #[.int .i64 id, .int .i64 a, .int .i64 life, .int .i64 kind, .bool whole, .bool more, .int .u32 frm, .int .u32 to, .slice (some ⟨n, 0, some 0⟩) (min len k) 0], tput h n (some (rowO (L.take (min len k)) 5 true)), n + 1, [n]⟩, p ∧ y = (k : Int) ∧ len ≤ 65515 ∧ L.all one = true)
      | _ => some (⟨.agg #[.int .i64 id, .int .i64 a, .int .i64 life, .int .i64 kind, .bool whole, .bool more, .int .u32 frm, .int .u32 to, .slice (some ⟨n, 0, none⟩) 65516 65516], tput h n (some (rowO (zerosL 65516) 5 false)), n + 1, [n]⟩, p ∧ y = (k : Int) ∧ 65515 < len)
    | none => none
  | _ => none
/-! ### As one way -/
def pSp (n : Nat) : Option Nat := if n ≤ 65515 then some 0 else none
def pLen (k n : Nat) : Nat := if n ≤ 65515 then min n k else 65516
def pCap (n : Nat) : Nat := if n ≤ 65515 then 0 else 65516
def pOwn (n : Nat) : Bool := if n ≤ 65515 then true else false
noncomputable def pRow (k n : Nat) (L : List Value) : List Value := if n ≤ 65515 then L.take (min n k) else zerosL 65516
/-- How few leaves a packet's bytes: as a variable. -/
structure Fw where
  sp : Nat → Option Nat
  len : Nat → Nat
  cap : Nat → Nat
  own : Nat → Bool
  row : Nat → List Value → List Value
noncomputable def pfewW (k : Nat) (Z : Fw) : Ent := fun j args h n => match args with
  | [.agg ⟨[.int .i64 id, .int .i64 a, .int .i64 life, .int .i64 kind, .bool whole, .bool more, .int .u32 frm, .int .u32 to, x]⟩, .int .i64 y] => match winS x h with
    | some (len, L, p) => some (⟨.agg #[.int .i64 id, .int .i64 a, .int .i64 life, .int .i64 kind, .bool whole, .bool more, .int .u32 frm, .int .u32 to, .slice (some ⟨n, 0, Z.sp len⟩) (Z.len len) (Z.cap len)], tput h n (some (rowO (Z.row len L) 5 (Z.own len))), n + 1, [n]⟩, p ∧ y = (k : Int) ∧ L.all one = true)
    | none => none
  | _ => none
noncomputable def Zof (k : Nat) : Fw := ⟨pSp, pLen k, pCap, pOwn, pRow k⟩
theorem pfew_det (k : Nat) (Z : Fw) : EntDet (pfewW k Z) := det_of fun _ _ _ _ _ => rfl
theorem pfew_of {ε : Nat → Option Value} {base : Base} {f k : Nat} (h0 : EntOk Tryd.prog ε base f (pclipV k)) : EntOk Tryd.prog ε base f (pfewW k (Zof k)) := by
  intro j args h n r p e hp
  unfold pfewW at e
  split at e
  case h_2 => cases e
  rename_i id a life kind whole more frm to x y
  split at e
  case h_2 => cases e
  rename_i len L q hw
  cases e
  obtain ⟨h1, h2, h3⟩ := hp
  by_cases hl : len ≤ 65515
  · refine h0 0 _ _ _ _ (q ∧ y = (k : Int) ∧ len ≤ 65515 ∧ L.all one = true) ?_ ⟨h1, h2, hl, h3⟩
    simp only [pclipV, hw, Zof, pSp, pLen, pCap, pOwn, pRow, if_pos hl]
  · refine h0 1 _ _ _ _ (q ∧ y = (k : Int) ∧ 65515 < len) ?_ ⟨h1, h2, by omega⟩
    simp only [pclipV, hw, Zof, pSp, pLen, pCap, pOwn, pRow, if_neg hl]
/-- What is known of it. -/
structure FwOk (Z : Fw) (k : Nat) : Prop where
  pl : ∀ n, plainP (Z.sp n) 0
  rm : ∀ n, roomP (Z.sp n) (Z.len n) (Z.cap n)
  le : ∀ n, Z.len n ≤ k ∨ Z.len n = 65516
  row : ∀ n L, L.length = n → (Z.row n L).length = Z.len n
  byt : ∀ n L, Byt L → Byt (Z.row n L)
  len2 : ∀ n, Z.len (Z.len n) = Z.len n
  row2 : ∀ n L, L.length = n → Z.row (Z.len n) (Z.row n L) = Z.row n L
theorem fwOk (k : Nat) (hk : k ≤ 65515) : FwOk (Zof k) k where
  pl n := by show plainP (pSp n) 0; unfold pSp; split <;> first | rfl | trivial
  rm n := by
    show roomP (pSp n) (pLen k n) (pCap n)
    unfold pSp pLen pCap
    by_cases h : n ≤ 65515
    · rw [if_pos h, if_pos h, if_pos h]; simp only [roomP]
    · rw [if_neg h, if_neg h, if_neg h]; simp only [roomP]; omega
  le n := by show pLen k n ≤ k ∨ pLen k n = 65516; unfold pLen; split <;> omega
  row n L h := by
    show (pRow k n L).length = pLen k n
    unfold pRow pLen
    split
    · rw [List.length_take]; omega
    · exact zerosL_len _
  byt n L h := by
    show Byt (pRow k n L)
    unfold pRow
    split
    · exact h.take _
    · exact zerosL_byt _
  len2 n := by
    show pLen k (pLen k n) = pLen k n
    unfold pLen
    by_cases h : n ≤ 65515
    · rw [if_pos h, if_pos (by omega)]; omega
    · rw [if_neg h]; rfl
  row2 n L h := by
    show pRow k (pLen k n) (pRow k n L) = pRow k n L
    unfold pRow pLen
    by_cases hn : n ≤ 65515
    · rw [if_pos hn, if_pos hn, if_pos (by omega), List.take_take]; congr 1; omega
    · rw [if_neg hn, if_neg hn, if_neg (by omega)]
section
variable {ε : Nat → Option Value} {base : Base} (hε : ∀ i V, ε i = some V → one V = true)
include hε
theorem pclip2000_ok : EntOk Tryd.prog ε base 9 (pclipV 2000) := by
  intro j args h n r p e hp
  unfold pclipV at e
  split at e
  case h_2 => cases e
  rename_i id a life kind whole more frm to x y
  split at e
  case h_2 => cases e
  rename_i len L q hw
  have E : Env Tryd.prog ε base [(16, bytesV)] := ⟨hε, noCount_of hN, hmix, specs1 (bytes_ok hε) specs0, dets1 bytes_det dets0⟩
  have b1 : Tryd.prog.funcs[9]? = some Tryd.f9 := by kernel_rfl
  have b2 : Tryd.f9.body = some (bodyOf 9) := by kernel_rfl
  have b3 : 2 ≤ Tryd.f9.ntmps := of_decide_eq_true (by kernel_rfl)
  have hkeep : ∀ (o : HO) (id : Nat), id ∉ [n] → tget (tput h n (some o)) id = tget h id := fun o id hid => by rw [tget_tput, if_neg (by simpa using hid)]
  cases j with
  | zero =>
    cases e
    obtain ⟨hq, rfl, hlen, hone⟩ := hp
    rcases winS_some hw hq with ⟨rfl, rfl, rfl⟩ | ⟨i, off, sp, c, oc, oe, oo, orr, om, ock, on, rfl, ho, a1, a5, a2, a3, a4⟩
    · refine callOk_none (args0 := [.agg #[.int .i64 id, .int .i64 a, .int .i64 life, .int .i64 kind, .bool whole, .bool more, .int .u32 frm, .int .u32 to, .slice none 0 0], .int .i64 2000]) b1 b2 b3 ⟨3, rfl⟩ (Nat.le_succ n) (fun id hid => by simp at hid; subst hid; exact ⟨Nat.le_refl _, Nat.lt_succ_self _⟩) (hkeep _) ?_
      refine leads_end E 40 100000 [] (p := [(((0 : Nat) = (0)) ∧ (0 : Nat) = (0)) ∧ ((true : Bool) = (true)) ∧ (growP 0 1)]) (by kernel_rfl) (by kernel_rfl) ⟨⟨⟨?_, ?_⟩, ⟨?_, ?_⟩⟩, trivial⟩ (Fin.new (k := 2) (vs := [Value.agg { toList := [Value.int IntKind.i64 id, Value.int IntKind.i64 a, Value.int IntKind.i64 life, Value.int IntKind.i64 kind, Value.bool whole, Value.bool more, Value.int IntKind.u32 frm, Value.int IntKind.u32 to, Value.slice (some { block := 2, off := 0, spot := some 0 }) 0 0] }]) (o1 := { kind := 0, cells := [], elem := 5, opn := true, ro := false, mkd := false, entries := [], clock := 0, nats := [] }) (by kernel_rfl) (.inl rfl) (by simp) ⟨3, rfl⟩ (by kernel_rfl) rfl (renO_row rfl rfl .nil)) <;> (first | exact ⟨rfl, rfl⟩ | simp [growP])
    · subst a4
      have hm : min 2000 len = min len 2000 := Nat.min_comm _ _
      have ht : ((oc.drop off).take len).take (min len 2000) = (oc.drop off).take (min len 2000) := by rw [List.take_take]; congr 1; omega
      rw [ht]
      cases sp with
      | some alt =>
        refine callOk_one (args0 := [.agg #[.int .i64 id, .int .i64 a, .int .i64 life, .int .i64 kind, .bool whole, .bool more, .int .u32 frm, .int .u32 to, .slice (some ⟨0, off, some alt⟩) len c], .int .i64 2000]) b1 b2 b3 ⟨3, rfl⟩ ho rfl rfl a3 (Nat.le_succ n) (fun id hid => by simp at hid; subst hid; exact ⟨Nat.le_refl _, Nat.lt_succ_self _⟩) (hkeep _) ?_
        refine leads_end E 40 100000 [([4, 3], Ch.val (Value.bool false)), ([6, 7], Ch.sl0 (min 2000 len))] (p := [(((plainP (some alt) off)) ∧ ((roomP (some alt) (min 2000 len) c)) ∧ ((fitP off (min 2000 len) (List.length oc))) ∧ ((NoIds oc)) ∧ ([] : List (Value × Value × Nat)) = ([])) ∧ ((List.all (List.take (min 2000 len) (List.drop off oc)) one : Bool) = (true)) ∧ (growP (min 2000 len) 1), ((0 : Nat) = (0)) ∧ ((if 2000 < (↑len : Int) then 2000 else (↑len : Int) : Int) = ((↑(min 2000 len) : Int))) ∧ (min 2000 len : Nat) ≤ len, (Value.bool (decide ((↑len : Int) > 65515)) : Value) = (Value.bool false)]) (by kernel_rfl) (by kernel_rfl) ⟨⟨⟨?_, ⟨?_, ⟨?_, ⟨?_, ?_⟩⟩⟩⟩, ⟨?_, ?_⟩⟩, ⟨?_, ⟨?_, ?_⟩⟩, (congrArg Value.bool (by first | (simp only [decide_eq_false_iff_not]; omega) | (simp only [decide_eq_true_eq]; omega))), trivial⟩ (Fin.new (k := 3) (vs := [Value.agg { toList := [Value.int IntKind.i64 id, Value.int IntKind.i64 a, Value.int IntKind.i64 life, Value.int IntKind.i64 kind, Value.bool whole, Value.bool more, Value.int IntKind.u32 frm, Value.int IntKind.u32 to, Value.slice (some { block := 3, off := 0, spot := some 0 }) (min 2000 len) 0] }]) (by kernel_rfl) (.inl rfl) (by simp) ⟨3, by first | rfl | (rw [← hm]; rfl)⟩ (o1 := { kind := 0, cells := List.take (min 2000 len) (List.drop off oc), elem := 5, opn := true, ro := false, mkd := false, entries := [], clock := 0, nats := [] }) (by kernel_rfl) rfl (by first | exact renO_row rfl rfl ((a3.drop _).take _) | (rw [← hm]; exact renO_row rfl rfl ((a3.drop _).take _)))) <;> (first | exact a1 | (simp only [roomP]; omega) | (unfold fitP at *; omega) | exact a5 | exact trivial | exact a3 | rfl | trivial | omega | (split <;> omega) | (simp only [growP]; omega) | (exact take_allP hone (by omega)) | (simp only [Nat.add_zero, cond_sameP]; done) | (cases Nat.beq 0 c <;> rfl))
      | none =>
        replace a5 : len ≤ c := a5
        refine callOk_one (args0 := [.agg #[.int .i64 id, .int .i64 a, .int .i64 life, .int .i64 kind, .bool whole, .bool more, .int .u32 frm, .int .u32 to, .slice (some ⟨0, off, none⟩) len c], .int .i64 2000]) b1 b2 b3 ⟨3, rfl⟩ ho rfl rfl a3 (Nat.le_succ n) (fun id hid => by simp at hid; subst hid; exact ⟨Nat.le_refl _, Nat.lt_succ_self _⟩) (hkeep _) ?_
        refine leads_end E 40 100000 [([4, 3], Ch.val (Value.bool false)), ([6, 7], Ch.sl 0 (min 2000 len) off)] (p := [(((plainP none off)) ∧ ((roomP none (min 2000 len - 0) (c - 0))) ∧ ((fitP off (min 2000 len - 0) (List.length oc))) ∧ ((NoIds oc)) ∧ ([] : List (Value × Value × Nat)) = ([])) ∧ ((List.all (List.take (min 2000 len - 0) (List.drop off oc)) one : Bool) = (true)) ∧ (growP (min 2000 len - 0) 1), ((0 : Nat) = (0)) ∧ ((if 2000 < (↑len : Int) then 2000 else (↑len : Int) : Int) = ((↑(min 2000 len) : Int))) ∧ ((0 : Nat) ≤ min 2000 len) ∧ ((min 2000 len : Nat) ≤ c) ∧ (bif Nat.beq 0 c then off else off + 0 : Nat) = (off), (Value.bool (decide ((↑len : Int) > 65515)) : Value) = (Value.bool false)]) (by kernel_rfl) (by kernel_rfl) ⟨⟨⟨?_, ⟨?_, ⟨?_, ⟨?_, ?_⟩⟩⟩⟩, ⟨?_, ?_⟩⟩, ⟨?_, ⟨?_, ⟨?_, ⟨?_, ?_⟩⟩⟩⟩, (congrArg Value.bool (by first | (simp only [decide_eq_false_iff_not]; omega) | (simp only [decide_eq_true_eq]; omega))), trivial⟩ (Fin.new (k := 3) (vs := [Value.agg { toList := [Value.int IntKind.i64 id, Value.int IntKind.i64 a, Value.int IntKind.i64 life, Value.int IntKind.i64 kind, Value.bool whole, Value.bool more, Value.int IntKind.u32 frm, Value.int IntKind.u32 to, Value.slice (some { block := 3, off := 0, spot := some 0 }) (min 2000 len - 0) 0] }]) (by kernel_rfl) (.inl rfl) (by simp) ⟨3, by first | rfl | (rw [← hm]; rfl)⟩ (o1 := { kind := 0, cells := List.take (min 2000 len - 0) (List.drop off oc), elem := 5, opn := true, ro := false, mkd := false, entries := [], clock := 0, nats := [] }) (by kernel_rfl) rfl (by first | exact renO_row rfl rfl ((a3.drop _).take _) | (rw [← hm]; exact renO_row rfl rfl ((a3.drop _).take _)))) <;> (first | exact a1 | (simp only [roomP]; omega) | (unfold fitP at *; omega) | exact a5 | exact trivial | exact a3 | rfl | trivial | omega | (split <;> omega) | (simp only [growP]; omega) | (exact take_allP hone (by omega)) | (simp only [Nat.add_zero, cond_sameP]; done) | (cases Nat.beq 0 c <;> rfl))
  | succ j =>
    cases e
    obtain ⟨hq, rfl, hlen⟩ := hp
    rcases winS_some hw hq with ⟨rfl, rfl, rfl⟩ | ⟨i, off, sp, c, oc, oe, oo, orr, om, ock, on, rfl, ho, a1, a5, a2, a3, a4⟩
    · omega
    · refine callOk_one (args0 := [.agg #[.int .i64 id, .int .i64 a, .int .i64 life, .int .i64 kind, .bool whole, .bool more, .int .u32 frm, .int .u32 to, .slice (some ⟨0, off, sp⟩) len c], .int .i64 2000]) b1 b2 b3 ⟨3, rfl⟩ ho rfl rfl a3 (Nat.le_succ n) (fun id hid => by simp at hid; subst hid; exact ⟨Nat.le_refl _, Nat.lt_succ_self _⟩) (hkeep _) ?_
      exact leads_end E 40 100000 [([4, 3], Ch.val (Value.bool true))] (p := [(Value.bool (decide ((↑len : Int) > 65515)) : Value) = (Value.bool true)]) (by kernel_rfl) (by kernel_rfl) ⟨(congrArg Value.bool (by first | (simp only [decide_eq_false_iff_not]; omega) | (simp only [decide_eq_true_eq]; omega))), trivial⟩ (Fin.new (k := 3) (vs := [Value.agg { toList := [Value.int IntKind.i64 id, Value.int IntKind.i64 a, Value.int IntKind.i64 life, Value.int IntKind.i64 kind, Value.bool whole, Value.bool more, Value.int IntKind.u32 frm, Value.int IntKind.u32 to, Value.slice (some { block := 3, off := 0 }) 65516 65516] }]) (by kernel_rfl) (.inl rfl) (by simp) ⟨3, rfl⟩ (o1 := rowO (zerosL 65516) 5 false) (by kernel_rfl) rfl (renO_row rfl rfl (.all (zerosL_all _))))
theorem pclip100_ok : EntOk Tryd.prog ε base 9 (pclipV 100) := by
  intro j args h n r p e hp
  unfold pclipV at e
  split at e
  case h_2 => cases e
  rename_i id a life kind whole more frm to x y
  split at e
  case h_2 => cases e
  rename_i len L q hw
  have E : Env Tryd.prog ε base [(16, bytesV)] := ⟨hε, noCount_of hN, hmix, specs1 (bytes_ok hε) specs0, dets1 bytes_det dets0⟩
  have b1 : Tryd.prog.funcs[9]? = some Tryd.f9 := by kernel_rfl
  have b2 : Tryd.f9.body = some (bodyOf 9) := by kernel_rfl
  have b3 : 2 ≤ Tryd.f9.ntmps := of_decide_eq_true (by kernel_rfl)
  have hkeep : ∀ (o : HO) (id : Nat), id ∉ [n] → tget (tput h n (some o)) id = tget h id := fun o id hid => by rw [tget_tput, if_neg (by simpa using hid)]
  cases j with
  | zero =>
    cases e
    obtain ⟨hq, rfl, hlen, hone⟩ := hp
    rcases winS_some hw hq with ⟨rfl, rfl, rfl⟩ | ⟨i, off, sp, c, oc, oe, oo, orr, om, ock, on, rfl, ho, a1, a5, a2, a3, a4⟩
    · refine callOk_none (args0 := [.agg #[.int .i64 id, .int .i64 a, .int .i64 life, .int .i64 kind, .bool whole, .bool more, .int .u32 frm, .int .u32 to, .slice none 0 0], .int .i64 100]) b1 b2 b3 ⟨3, rfl⟩ (Nat.le_succ n) (fun id hid => by simp at hid; subst hid; exact ⟨Nat.le_refl _, Nat.lt_succ_self _⟩) (hkeep _) ?_
      refine leads_end E 40 100000 [] (p := [(((0 : Nat) = (0)) ∧ (0 : Nat) = (0)) ∧ ((true : Bool) = (true)) ∧ (growP 0 1)]) (by kernel_rfl) (by kernel_rfl) ⟨⟨⟨?_, ?_⟩, ⟨?_, ?_⟩⟩, trivial⟩ (Fin.new (k := 2) (vs := [Value.agg { toList := [Value.int IntKind.i64 id, Value.int IntKind.i64 a, Value.int IntKind.i64 life, Value.int IntKind.i64 kind, Value.bool whole, Value.bool more, Value.int IntKind.u32 frm, Value.int IntKind.u32 to, Value.slice (some { block := 2, off := 0, spot := some 0 }) 0 0] }]) (o1 := { kind := 0, cells := [], elem := 5, opn := true, ro := false, mkd := false, entries := [], clock := 0, nats := [] }) (by kernel_rfl) (.inl rfl) (by simp) ⟨3, rfl⟩ (by kernel_rfl) rfl (renO_row rfl rfl .nil)) <;> (first | exact ⟨rfl, rfl⟩ | simp [growP])
    · subst a4
      have hm : min 100 len = min len 100 := Nat.min_comm _ _
      have ht : ((oc.drop off).take len).take (min len 100) = (oc.drop off).take (min len 100) := by rw [List.take_take]; congr 1; omega
      rw [ht]
      cases sp with
      | some alt =>
        refine callOk_one (args0 := [.agg #[.int .i64 id, .int .i64 a, .int .i64 life, .int .i64 kind, .bool whole, .bool more, .int .u32 frm, .int .u32 to, .slice (some ⟨0, off, some alt⟩) len c], .int .i64 100]) b1 b2 b3 ⟨3, rfl⟩ ho rfl rfl a3 (Nat.le_succ n) (fun id hid => by simp at hid; subst hid; exact ⟨Nat.le_refl _, Nat.lt_succ_self _⟩) (hkeep _) ?_
        refine leads_end E 40 100000 [([4, 3], Ch.val (Value.bool false)), ([6, 7], Ch.sl0 (min 100 len))] (p := [(((plainP (some alt) off)) ∧ ((roomP (some alt) (min 100 len) c)) ∧ ((fitP off (min 100 len) (List.length oc))) ∧ ((NoIds oc)) ∧ ([] : List (Value × Value × Nat)) = ([])) ∧ ((List.all (List.take (min 100 len) (List.drop off oc)) one : Bool) = (true)) ∧ (growP (min 100 len) 1), ((0 : Nat) = (0)) ∧ ((if 100 < (↑len : Int) then 100 else (↑len : Int) : Int) = ((↑(min 100 len) : Int))) ∧ (min 100 len : Nat) ≤ len, (Value.bool (decide ((↑len : Int) > 65515)) : Value) = (Value.bool false)]) (by kernel_rfl) (by kernel_rfl) ⟨⟨⟨?_, ⟨?_, ⟨?_, ⟨?_, ?_⟩⟩⟩⟩, ⟨?_, ?_⟩⟩, ⟨?_, ⟨?_, ?_⟩⟩, (congrArg Value.bool (by first | (simp only [decide_eq_false_iff_not]; omega) | (simp only [decide_eq_true_eq]; omega))), trivial⟩ (Fin.new (k := 3) (vs := [Value.agg { toList := [Value.int IntKind.i64 id, Value.int IntKind.i64 a, Value.int IntKind.i64 life, Value.int IntKind.i64 kind, Value.bool whole, Value.bool more, Value.int IntKind.u32 frm, Value.int IntKind.u32 to, Value.slice (some { block := 3, off := 0, spot := some 0 }) (min 100 len) 0] }]) (by kernel_rfl) (.inl rfl) (by simp) ⟨3, by first | rfl | (rw [← hm]; rfl)⟩ (o1 := { kind := 0, cells := List.take (min 100 len) (List.drop off oc), elem := 5, opn := true, ro := false, mkd := false, entries := [], clock := 0, nats := [] }) (by kernel_rfl) rfl (by first | exact renO_row rfl rfl ((a3.drop _).take _) | (rw [← hm]; exact renO_row rfl rfl ((a3.drop _).take _)))) <;> (first | exact a1 | (simp only [roomP]; omega) | (unfold fitP at *; omega) | exact a5 | exact trivial | exact a3 | rfl | trivial | omega | (split <;> omega) | (simp only [growP]; omega) | (exact take_allP hone (by omega)) | (simp only [Nat.add_zero, cond_sameP]; done) | (cases Nat.beq 0 c <;> rfl))
      | none =>
        replace a5 : len ≤ c := a5
        refine callOk_one (args0 := [.agg #[.int .i64 id, .int .i64 a, .int .i64 life, .int .i64 kind, .bool whole, .bool more, .int .u32 frm, .int .u32 to, .slice (some ⟨0, off, none⟩) len c], .int .i64 100]) b1 b2 b3 ⟨3, rfl⟩ ho rfl rfl a3 (Nat.le_succ n) (fun id hid => by simp at hid; subst hid; exact ⟨Nat.le_refl _, Nat.lt_succ_self _⟩) (hkeep _) ?_
        refine leads_end E 40 100000 [([4, 3], Ch.val (Value.bool false)), ([6, 7], Ch.sl 0 (min 100 len) off)] (p := [(((plainP none off)) ∧ ((roomP none (min 100 len - 0) (c - 0))) ∧ ((fitP off (min 100 len - 0) (List.length oc))) ∧ ((NoIds oc)) ∧ ([] : List (Value × Value × Nat)) = ([])) ∧ ((List.all (List.take (min 100 len - 0) (List.drop off oc)) one : Bool) = (true)) ∧ (growP (min 100 len - 0) 1), ((0 : Nat) = (0)) ∧ ((if 100 < (↑len : Int) then 100 else (↑len : Int) : Int) = ((↑(min 100 len) : Int))) ∧ ((0 : Nat) ≤ min 100 len) ∧ ((min 100 len : Nat) ≤ c) ∧ (bif Nat.beq 0 c then off else off + 0 : Nat) = (off), (Value.bool (decide ((↑len : Int) > 65515)) : Value) = (Value.bool false)]) (by kernel_rfl) (by kernel_rfl) ⟨⟨⟨?_, ⟨?_, ⟨?_, ⟨?_, ?_⟩⟩⟩⟩, ⟨?_, ?_⟩⟩, ⟨?_, ⟨?_, ⟨?_, ⟨?_, ?_⟩⟩⟩⟩, (congrArg Value.bool (by first | (simp only [decide_eq_false_iff_not]; omega) | (simp only [decide_eq_true_eq]; omega))), trivial⟩ (Fin.new (k := 3) (vs := [Value.agg { toList := [Value.int IntKind.i64 id, Value.int IntKind.i64 a, Value.int IntKind.i64 life, Value.int IntKind.i64 kind, Value.bool whole, Value.bool more, Value.int IntKind.u32 frm, Value.int IntKind.u32 to, Value.slice (some { block := 3, off := 0, spot := some 0 }) (min 100 len - 0) 0] }]) (by kernel_rfl) (.inl rfl) (by simp) ⟨3, by first | rfl | (rw [← hm]; rfl)⟩ (o1 := { kind := 0, cells := List.take (min 100 len - 0) (List.drop off oc), elem := 5, opn := true, ro := false, mkd := false, entries := [], clock := 0, nats := [] }) (by kernel_rfl) rfl (by first | exact renO_row rfl rfl ((a3.drop _).take _) | (rw [← hm]; exact renO_row rfl rfl ((a3.drop _).take _)))) <;> (first | exact a1 | (simp only [roomP]; omega) | (unfold fitP at *; omega) | exact a5 | exact trivial | exact a3 | rfl | trivial | omega | (split <;> omega) | (simp only [growP]; omega) | (exact take_allP hone (by omega)) | (simp only [Nat.add_zero, cond_sameP]; done) | (cases Nat.beq 0 c <;> rfl))
  | succ j =>
    cases e
    obtain ⟨hq, rfl, hlen⟩ := hp
    rcases winS_some hw hq with ⟨rfl, rfl, rfl⟩ | ⟨i, off, sp, c, oc, oe, oo, orr, om, ock, on, rfl, ho, a1, a5, a2, a3, a4⟩
    · omega
    · refine callOk_one (args0 := [.agg #[.int .i64 id, .int .i64 a, .int .i64 life, .int .i64 kind, .bool whole, .bool more, .int .u32 frm, .int .u32 to, .slice (some ⟨0, off, sp⟩) len c], .int .i64 100]) b1 b2 b3 ⟨3, rfl⟩ ho rfl rfl a3 (Nat.le_succ n) (fun id hid => by simp at hid; subst hid; exact ⟨Nat.le_refl _, Nat.lt_succ_self _⟩) (hkeep _) ?_
      exact leads_end E 40 100000 [([4, 3], Ch.val (Value.bool true))] (p := [(Value.bool (decide ((↑len : Int) > 65515)) : Value) = (Value.bool true)]) (by kernel_rfl) (by kernel_rfl) ⟨(congrArg Value.bool (by first | (simp only [decide_eq_false_iff_not]; omega) | (simp only [decide_eq_true_eq]; omega))), trivial⟩ (Fin.new (k := 3) (vs := [Value.agg { toList := [Value.int IntKind.i64 id, Value.int IntKind.i64 a, Value.int IntKind.i64 life, Value.int IntKind.i64 kind, Value.bool whole, Value.bool more, Value.int IntKind.u32 frm, Value.int IntKind.u32 to, Value.slice (some { block := 3, off := 0 }) 65516 65516] }]) (by kernel_rfl) (.inl rfl) (by simp) ⟨3, rfl⟩ (o1 := rowO (zerosL 65516) 5 false) (by kernel_rfl) rfl (renO_row rfl rfl (.all (zerosL_all _))))
theorem pclip3000_ok : EntOk Tryd.prog ε base 9 (pclipV 3000) := by
  intro j args h n r p e hp
  unfold pclipV at e
  split at e
  case h_2 => cases e
  rename_i id a life kind whole more frm to x y
  split at e
  case h_2 => cases e
  rename_i len L q hw
  have E : Env Tryd.prog ε base [(16, bytesV)] := ⟨hε, noCount_of hN, hmix, specs1 (bytes_ok hε) specs0, dets1 bytes_det dets0⟩
  have b1 : Tryd.prog.funcs[9]? = some Tryd.f9 := by kernel_rfl
  have b2 : Tryd.f9.body = some (bodyOf 9) := by kernel_rfl
  have b3 : 2 ≤ Tryd.f9.ntmps := of_decide_eq_true (by kernel_rfl)
  have hkeep : ∀ (o : HO) (id : Nat), id ∉ [n] → tget (tput h n (some o)) id = tget h id := fun o id hid => by rw [tget_tput, if_neg (by simpa using hid)]
  cases j with
  | zero =>
    cases e
    obtain ⟨hq, rfl, hlen, hone⟩ := hp
    rcases winS_some hw hq with ⟨rfl, rfl, rfl⟩ | ⟨i, off, sp, c, oc, oe, oo, orr, om, ock, on, rfl, ho, a1, a5, a2, a3, a4⟩
    · refine callOk_none (args0 := [.agg #[.int .i64 id, .int .i64 a, .int .i64 life, .int .i64 kind, .bool whole, .bool more, .int .u32 frm, .int .u32 to, .slice none 0 0], .int .i64 3000]) b1 b2 b3 ⟨3, rfl⟩ (Nat.le_succ n) (fun id hid => by simp at hid; subst hid; exact ⟨Nat.le_refl _, Nat.lt_succ_self _⟩) (hkeep _) ?_
      refine leads_end E 40 100000 [] (p := [(((0 : Nat) = (0)) ∧ (0 : Nat) = (0)) ∧ ((true : Bool) = (true)) ∧ (growP 0 1)]) (by kernel_rfl) (by kernel_rfl) ⟨⟨⟨?_, ?_⟩, ⟨?_, ?_⟩⟩, trivial⟩ (Fin.new (k := 2) (vs := [Value.agg { toList := [Value.int IntKind.i64 id, Value.int IntKind.i64 a, Value.int IntKind.i64 life, Value.int IntKind.i64 kind, Value.bool whole, Value.bool more, Value.int IntKind.u32 frm, Value.int IntKind.u32 to, Value.slice (some { block := 2, off := 0, spot := some 0 }) 0 0] }]) (o1 := { kind := 0, cells := [], elem := 5, opn := true, ro := false, mkd := false, entries := [], clock := 0, nats := [] }) (by kernel_rfl) (.inl rfl) (by simp) ⟨3, rfl⟩ (by kernel_rfl) rfl (renO_row rfl rfl .nil)) <;> (first | exact ⟨rfl, rfl⟩ | simp [growP])
    · subst a4
      have hm : min 3000 len = min len 3000 := Nat.min_comm _ _
      have ht : ((oc.drop off).take len).take (min len 3000) = (oc.drop off).take (min len 3000) := by rw [List.take_take]; congr 1; omega
      rw [ht]
      cases sp with
      | some alt =>
        refine callOk_one (args0 := [.agg #[.int .i64 id, .int .i64 a, .int .i64 life, .int .i64 kind, .bool whole, .bool more, .int .u32 frm, .int .u32 to, .slice (some ⟨0, off, some alt⟩) len c], .int .i64 3000]) b1 b2 b3 ⟨3, rfl⟩ ho rfl rfl a3 (Nat.le_succ n) (fun id hid => by simp at hid; subst hid; exact ⟨Nat.le_refl _, Nat.lt_succ_self _⟩) (hkeep _) ?_
        refine leads_end E 40 100000 [([4, 3], Ch.val (Value.bool false)), ([6, 7], Ch.sl0 (min 3000 len))] (p := [(((plainP (some alt) off)) ∧ ((roomP (some alt) (min 3000 len) c)) ∧ ((fitP off (min 3000 len) (List.length oc))) ∧ ((NoIds oc)) ∧ ([] : List (Value × Value × Nat)) = ([])) ∧ ((List.all (List.take (min 3000 len) (List.drop off oc)) one : Bool) = (true)) ∧ (growP (min 3000 len) 1), ((0 : Nat) = (0)) ∧ ((if 3000 < (↑len : Int) then 3000 else (↑len : Int) : Int) = ((↑(min 3000 len) : Int))) ∧ (min 3000 len : Nat) ≤ len, (Value.bool (decide ((↑len : Int) > 65515)) : Value) = (Value.bool false)]) (by kernel_rfl) (by kernel_rfl) ⟨⟨⟨?_, ⟨?_, ⟨?_, ⟨?_, ?_⟩⟩⟩⟩, ⟨?_, ?_⟩⟩, ⟨?_, ⟨?_, ?_⟩⟩, (congrArg Value.bool (by first | (simp only [decide_eq_false_iff_not]; omega) | (simp only [decide_eq_true_eq]; omega))), trivial⟩ (Fin.new (k := 3) (vs := [Value.agg { toList := [Value.int IntKind.i64 id, Value.int IntKind.i64 a, Value.int IntKind.i64 life, Value.int IntKind.i64 kind, Value.bool whole, Value.bool more, Value.int IntKind.u32 frm, Value.int IntKind.u32 to, Value.slice (some { block := 3, off := 0, spot := some 0 }) (min 3000 len) 0] }]) (by kernel_rfl) (.inl rfl) (by simp) ⟨3, by first | rfl | (rw [← hm]; rfl)⟩ (o1 := { kind := 0, cells := List.take (min 3000 len) (List.drop off oc), elem := 5, opn := true, ro := false, mkd := false, entries := [], clock := 0, nats := [] }) (by kernel_rfl) rfl (by first | exact renO_row rfl rfl ((a3.drop _).take _) | (rw [← hm]; exact renO_row rfl rfl ((a3.drop _).take _)))) <;> (first | exact a1 | (simp only [roomP]; omega) | (unfold fitP at *; omega) | exact a5 | exact trivial | exact a3 | rfl | trivial | omega | (split <;> omega) | (simp only [growP]; omega) | (exact take_allP hone (by omega)) | (simp only [Nat.add_zero, cond_sameP]; done) | (cases Nat.beq 0 c <;> rfl))
      | none =>
        replace a5 : len ≤ c := a5
        refine callOk_one (args0 := [.agg #[.int .i64 id, .int .i64 a, .int .i64 life, .int .i64 kind, .bool whole, .bool more, .int .u32 frm, .int .u32 to, .slice (some ⟨0, off, none⟩) len c], .int .i64 3000]) b1 b2 b3 ⟨3, rfl⟩ ho rfl rfl a3 (Nat.le_succ n) (fun id hid => by simp at hid; subst hid; exact ⟨Nat.le_refl _, Nat.lt_succ_self _⟩) (hkeep _) ?_
        refine leads_end E 40 100000 [([4, 3], Ch.val (Value.bool false)), ([6, 7], Ch.sl 0 (min 3000 len) off)] (p := [(((plainP none off)) ∧ ((roomP none (min 3000 len - 0) (c - 0))) ∧ ((fitP off (min 3000 len - 0) (List.length oc))) ∧ ((NoIds oc)) ∧ ([] : List (Value × Value × Nat)) = ([])) ∧ ((List.all (List.take (min 3000 len - 0) (List.drop off oc)) one : Bool) = (true)) ∧ (growP (min 3000 len - 0) 1), ((0 : Nat) = (0)) ∧ ((if 3000 < (↑len : Int) then 3000 else (↑len : Int) : Int) = ((↑(min 3000 len) : Int))) ∧ ((0 : Nat) ≤ min 3000 len) ∧ ((min 3000 len : Nat) ≤ c) ∧ (bif Nat.beq 0 c then off else off + 0 : Nat) = (off), (Value.bool (decide ((↑len : Int) > 65515)) : Value) = (Value.bool false)]) (by kernel_rfl) (by kernel_rfl) ⟨⟨⟨?_, ⟨?_, ⟨?_, ⟨?_, ?_⟩⟩⟩⟩, ⟨?_, ?_⟩⟩, ⟨?_, ⟨?_, ⟨?_, ⟨?_, ?_⟩⟩⟩⟩, (congrArg Value.bool (by first | (simp only [decide_eq_false_iff_not]; omega) | (simp only [decide_eq_true_eq]; omega))), trivial⟩ (Fin.new (k := 3) (vs := [Value.agg { toList := [Value.int IntKind.i64 id, Value.int IntKind.i64 a, Value.int IntKind.i64 life, Value.int IntKind.i64 kind, Value.bool whole, Value.bool more, Value.int IntKind.u32 frm, Value.int IntKind.u32 to, Value.slice (some { block := 3, off := 0, spot := some 0 }) (min 3000 len - 0) 0] }]) (by kernel_rfl) (.inl rfl) (by simp) ⟨3, by first | rfl | (rw [← hm]; rfl)⟩ (o1 := { kind := 0, cells := List.take (min 3000 len - 0) (List.drop off oc), elem := 5, opn := true, ro := false, mkd := false, entries := [], clock := 0, nats := [] }) (by kernel_rfl) rfl (by first | exact renO_row rfl rfl ((a3.drop _).take _) | (rw [← hm]; exact renO_row rfl rfl ((a3.drop _).take _)))) <;> (first | exact a1 | (simp only [roomP]; omega) | (unfold fitP at *; omega) | exact a5 | exact trivial | exact a3 | rfl | trivial | omega | (split <;> omega) | (simp only [growP]; omega) | (exact take_allP hone (by omega)) | (simp only [Nat.add_zero, cond_sameP]; done) | (cases Nat.beq 0 c <;> rfl))
  | succ j =>
    cases e
    obtain ⟨hq, rfl, hlen⟩ := hp
    rcases winS_some hw hq with ⟨rfl, rfl, rfl⟩ | ⟨i, off, sp, c, oc, oe, oo, orr, om, ock, on, rfl, ho, a1, a5, a2, a3, a4⟩
    · omega
    · refine callOk_one (args0 := [.agg #[.int .i64 id, .int .i64 a, .int .i64 life, .int .i64 kind, .bool whole, .bool more, .int .u32 frm, .int .u32 to, .slice (some ⟨0, off, sp⟩) len c], .int .i64 3000]) b1 b2 b3 ⟨3, rfl⟩ ho rfl rfl a3 (Nat.le_succ n) (fun id hid => by simp at hid; subst hid; exact ⟨Nat.le_refl _, Nat.lt_succ_self _⟩) (hkeep _) ?_
      exact leads_end E 40 100000 [([4, 3], Ch.val (Value.bool true))] (p := [(Value.bool (decide ((↑len : Int) > 65515)) : Value) = (Value.bool true)]) (by kernel_rfl) (by kernel_rfl) ⟨(congrArg Value.bool (by first | (simp only [decide_eq_false_iff_not]; omega) | (simp only [decide_eq_true_eq]; omega))), trivial⟩ (Fin.new (k := 3) (vs := [Value.agg { toList := [Value.int IntKind.i64 id, Value.int IntKind.i64 a, Value.int IntKind.i64 life, Value.int IntKind.i64 kind, Value.bool whole, Value.bool more, Value.int IntKind.u32 frm, Value.int IntKind.u32 to, Value.slice (some { block := 3, off := 0 }) 65516 65516] }]) (by kernel_rfl) (.inl rfl) (by simp) ⟨3, rfl⟩ (o1 := rowO (zerosL 65516) 5 false) (by kernel_rfl) rfl (renO_row rfl rfl (.all (zerosL_all _))))
end
end Go.Proofs.YtnlinnjpkjmpaaaDoor.Ex
