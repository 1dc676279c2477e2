/- What icmp answers. No conditions but those that each names. -/
import Derived.Test.YtgdkgllhblfiiaaIcmpK
set_option linter.unusedVariables false
set_option linter.unusedSimpArgs false
set_option maxRecDepth 100000
namespace Go.Proofs.Ytgdkgllhblfiiaa.Ex
open Go Go.RowKit

noncomputable def answerW (S : Abs) : Ent := fun j args h n => match args with
  | [.int .u32 me, .agg ⟨[.int .i64 id, .int .i64 at', .int .i64 life, .int .i64 kind, .bool whole, .bool more, .int .u32 frm, .int .u32 to', x]⟩] => match winS x h, tailS x h with
    | some (len, L, p), some tl => match j with
      | 0 => some (⟨.tuple #[.agg #[.int .i64 id, .int .i64 0, .int .i64 64, .int .i64 1, .bool false, .bool false, .int .u32 me, .int .u32 frm, .slice (some ⟨n, 0, some 0⟩) (8 + (len - 8)) 0], .int .i64 0], tput h n (some (rowO (S.msg 0 0 (S.rest L) (L.drop 8)) 5 true)), n + 1, [n]⟩, p ∧ Byt L ∧ tl ∧ (8 ≤ len ∧ len ≤ 1480 ∧ S.sum L = 65535 ∧ S.num L 0 = 8 ∧ S.num L 1 = 0 ∧ kind = 1 ∧ to' = me ∧ at' = 0 ∧ more = false))
      | _ => some (⟨.tuple #[.agg #[.int .i64 0, .int .i64 0, .int .i64 0, .int .i64 0, .bool false, .bool false, .int .u32 0, .int .u32 0, .slice none 0 0], .int .i64 5], h, n, []⟩, p ∧ Byt L ∧ tl ∧ len ≤ 1480 ∧ ¬ (8 ≤ len ∧ len ≤ 1480 ∧ S.sum L = 65535 ∧ S.num L 0 = 8 ∧ S.num L 1 = 0 ∧ kind = 1 ∧ to' = me ∧ at' = 0 ∧ more = false))
    | _, _ => none
  | _ => none
theorem answer_good {ε : Nat → Option Value} {base : Base} {S : Abs} (O : AbsOk S) (hR : ∀ L, Byt L → 0 ≤ S.rest L ∧ S.rest L < 4294967296) (E : Env Try.prog ε base [(10, ireadW S), (8, ibuildW S)]) : ∀ (args : List Value) (h : T HO) (n : Nat) (r : Out) (p : Prop), answerW S 0 args h n = some (r, p) → p → CallOk Try.prog ε base 16 args h n r := by
  intro args h n r p e hp
  unfold answerW at e
  split at e
  case h_2 => cases e
  rename_i me id at' life kind whole more frm to' x
  split at e
  case h_2 => cases e
  rename_i len L q tl hw ht
  have b1 : Try.prog.funcs[16]? = some Try.f16 := by kernel_rfl
  have b2 : Try.f16.body = some (bodyOf 16) := by kernel_rfl
  have b3 : 2 ≤ Try.f16.ntmps := of_decide_eq_true (by kernel_rfl)
  have hkeep : ∀ (o : HO) (id : Nat), id ∉ [n] → tget (tput h n (some o)) id = tget h id := fun o id hid => by rw [tget_tput, if_neg (by simpa using hid)]
  cases e
  obtain ⟨hq, hB, htl, hlen, hmost, hs, hk, hc, rfl, hto, rfl, rfl⟩ := hp
  replace hto := hto.symm
  subst hto
  have hL := winS_len hw hq
  rcases winS_some hw hq with ⟨rfl, rfl, rfl⟩ | ⟨i, off, sp, c, oc, oe, oo, orr, om, ock, on, rfl, ho, a1, a5, a2, a3, a4⟩
  · omega
  · subst a4
    replace htl : tailQ sp off len oc.length := by simp only [tailS, ho, Option.some.injEq] at ht; rw [← ht] at htl; exact htl
    have hok : okM 0 (S.num (List.take len (List.drop off oc)) 1) (S.rest (List.take len (List.drop off oc))) := by rw [hc]; exact ⟨by omega, by omega, by omega, by omega, (hR _ hB).1, (hR _ hB).2⟩
    have hrd : Byt (List.take (len - 8) (List.drop 8 (List.take len (List.drop off oc)))) := (hB.drop 8).take _
    have hnoids : NoIds (List.drop 8 (List.take len (List.drop off oc))) := (hB.drop 8).noIds
    have hl8 : List.take (len - 8) (List.drop 8 (List.take len (List.drop off oc))) = List.drop 8 (List.take len (List.drop off oc)) := List.take_of_length_le (by rw [List.length_drop, hL]; omega)
    have hBy : Byt (S.msg 0 0 (S.rest (List.take len (List.drop off oc))) (List.drop 8 (List.take len (List.drop off oc)))) := O.msgByt _ _ _ _ (by rw [hc] at hok; exact hok) (hB.drop 8)
    refine callOk_one (args0 := [.int .u32 me, .agg #[.int .i64 id, .int .i64 0, .int .i64 life, .int .i64 1, .bool whole, .bool false, .int .u32 frm, .int .u32 me, .slice (some ⟨0, off, sp⟩) len c]]) b1 b2 b3 ⟨4, rfl⟩ ho rfl rfl a3 (Nat.le_succ n) (fun id hid => by simp at hid; subst hid; exact ⟨Nat.le_refl _, Nat.lt_succ_self _⟩) (hkeep _) ?_
    refine leads_end E 40 100000 [([11, 9], Ch.val (Value.bool false)), ([18, 7], Ch.val (Value.bool false)), ([18, 11], Ch.val (Value.bool false))] (p := [(((plainP (some 0) 0)) ∧ ((roomP (some 0) (len - 8) 0)) ∧ ((fitP 0 (len - 8) (List.length (List.drop 8 (List.take len (List.drop off oc)))))) ∧ ((NoIds (List.drop 8 (List.take len (List.drop off oc))))) ∧ ([] : List (Value × Value × Nat)) = ([])) ∧ ((Byt (List.take (len - 8) (List.drop 8 (List.take len (List.drop off oc)))))) ∧ ((okM 0 (Abs.num S (List.take len (List.drop off oc)) 1) (Abs.rest S (List.take len (List.drop off oc))))) ∧ (len - 8 : Nat) ≤ 1472, (Value.bool (Abs.num S (List.take len (List.drop off oc)) 1 != 0) : Value) = (Value.bool false), (Value.bool (Abs.num S (List.take len (List.drop off oc)) 0 != 8) : Value) = (Value.bool false), (((plainP sp off)) ∧ ((roomP sp len c)) ∧ ((fitP off len (List.length oc))) ∧ ((NoIds oc)) ∧ ([] : List (Value × Value × Nat)) = ([])) ∧ ((Byt (List.take len (List.drop off oc)))) ∧ ((len : Nat) ≤ 100000) ∧ ((8 : Nat) ≤ len) ∧ ((Abs.sum S (List.take len (List.drop off oc)) : Int) = (65535)) ∧ (tailQ sp off len (List.length oc)), (Value.bool (me != me) : Value) = (Value.bool false)]) (by kernel_rfl) (by kernel_rfl) ⟨⟨⟨?_, ⟨?_, ⟨?_, ⟨?_, ?_⟩⟩⟩⟩, ⟨?_, ⟨?_, ?_⟩⟩⟩, (congrArg Value.bool (by first | (simp only [hkind]; rfl) | (simp only [hto]; rfl) | (simp only [hat]; rfl) | (simp only [hk]; rfl) | (simp only [hc]; rfl) | (simp; done))), (congrArg Value.bool (by first | (simp only [hkind]; rfl) | (simp only [hto]; rfl) | (simp only [hat]; rfl) | (simp only [hk]; rfl) | (simp only [hc]; rfl) | (simp; done))), ⟨⟨?_, ⟨?_, ⟨?_, ⟨?_, ?_⟩⟩⟩⟩, ⟨?_, ⟨?_, ⟨?_, ⟨?_, ?_⟩⟩⟩⟩⟩, (congrArg Value.bool (by first | (simp only [hkind]; rfl) | (simp only [hto]; rfl) | (simp only [hat]; rfl) | (simp only [hk]; rfl) | (simp only [hc]; rfl) | (simp; done))), trivial⟩ (Fin.new (k := 5) (vs := [Value.agg { toList := [Value.int IntKind.i64 id, Value.int IntKind.i64 0, Value.int IntKind.i64 64, Value.int IntKind.i64 1, Value.bool false, Value.bool false, Value.int IntKind.u32 me, Value.int IntKind.u32 frm, Value.slice (some { block := 5, off := 0, spot := some 0 }) (8 + (len - 8)) 0] }, Value.int IntKind.i64 0]) (by kernel_rfl) (.inr ⟨by simp, rfl⟩) (by simp) (o1 := { kind := 0, cells := Abs.msg S 0 (Abs.num S (List.take len (List.drop off oc)) 1) (Abs.rest S (List.take len (List.drop off oc))) (List.take (len - 8) (List.drop 0 (List.drop 8 (List.take len (List.drop off oc))))), elem := 5, opn := true, ro := false, mkd := false, entries := [], clock := 0, nats := [] }) ⟨4, rfl⟩ (by kernel_rfl) rfl (ren_same hBy (by rw [hc, List.drop_zero, hl8]; rfl))) <;> (first | trivial | rfl | exact a1 | exact a2 | exact a3 | exact a5 | exact hB | exact hs | exact htl | exact hok | exact hrd | omega | exact hones | exact hnoids | (simp only [roomP]; omega) | (unfold fitP; right; simp only [List.length_drop, hL]; omega) | (simp only [bne_self_eq_false]; done))
theorem ranswer_good {ε : Nat → Option Value} {base : Base} {S : Abs} (O : AbsOk S) (hR : ∀ L, Byt L → 0 ≤ S.rest L ∧ S.rest L < 4294967296) (E : Env Try.prog ε base [(12, ireadW S), (9, ibuildW S)]) : ∀ (args : List Value) (h : T HO) (n : Nat) (r : Out) (p : Prop), answerW S 0 args h n = some (r, p) → p → CallOk Try.prog ε base 17 args h n r := by
  intro args h n r p e hp
  unfold answerW at e
  split at e
  case h_2 => cases e
  rename_i me id at' life kind whole more frm to' x
  split at e
  case h_2 => cases e
  rename_i len L q tl hw ht
  have b1 : Try.prog.funcs[17]? = some Try.f17 := by kernel_rfl
  have b2 : Try.f17.body = some (bodyOf 17) := by kernel_rfl
  have b3 : 2 ≤ Try.f17.ntmps := of_decide_eq_true (by kernel_rfl)
  have hkeep : ∀ (o : HO) (id : Nat), id ∉ [n] → tget (tput h n (some o)) id = tget h id := fun o id hid => by rw [tget_tput, if_neg (by simpa using hid)]
  cases e
  obtain ⟨hq, hB, htl, hlen, hmost, hs, hk, hc, rfl, hto, rfl, rfl⟩ := hp
  replace hto := hto.symm
  subst hto
  have hL := winS_len hw hq
  rcases winS_some hw hq with ⟨rfl, rfl, rfl⟩ | ⟨i, off, sp, c, oc, oe, oo, orr, om, ock, on, rfl, ho, a1, a5, a2, a3, a4⟩
  · omega
  · subst a4
    replace htl : tailQ sp off len oc.length := by simp only [tailS, ho, Option.some.injEq] at ht; rw [← ht] at htl; exact htl
    have hok : okM 0 (S.num (List.take len (List.drop off oc)) 1) (S.rest (List.take len (List.drop off oc))) := by rw [hc]; exact ⟨by omega, by omega, by omega, by omega, (hR _ hB).1, (hR _ hB).2⟩
    have hrd : Byt (List.take (len - 8) (List.drop 8 (List.take len (List.drop off oc)))) := (hB.drop 8).take _
    have hnoids : NoIds (List.drop 8 (List.take len (List.drop off oc))) := (hB.drop 8).noIds
    have hl8 : List.take (len - 8) (List.drop 8 (List.take len (List.drop off oc))) = List.drop 8 (List.take len (List.drop off oc)) := List.take_of_length_le (by rw [List.length_drop, hL]; omega)
    have hBy : Byt (S.msg 0 0 (S.rest (List.take len (List.drop off oc))) (List.drop 8 (List.take len (List.drop off oc)))) := O.msgByt _ _ _ _ (by rw [hc] at hok; exact hok) (hB.drop 8)
    refine callOk_one (args0 := [.int .u32 me, .agg #[.int .i64 id, .int .i64 0, .int .i64 life, .int .i64 1, .bool whole, .bool false, .int .u32 frm, .int .u32 me, .slice (some ⟨0, off, sp⟩) len c]]) b1 b2 b3 ⟨4, rfl⟩ ho rfl rfl a3 (Nat.le_succ n) (fun id hid => by simp at hid; subst hid; exact ⟨Nat.le_refl _, Nat.lt_succ_self _⟩) (hkeep _) ?_
    refine leads_end E 40 100000 [([6, 9], Ch.val (Value.bool false)), ([6, 27], Ch.val (Value.bool false)), ([6, 31], Ch.val (Value.bool false))] (p := [(((plainP (some 0) 0)) ∧ ((roomP (some 0) (len - 8) 0)) ∧ ((fitP 0 (len - 8) (List.length (List.drop 8 (List.take len (List.drop off oc)))))) ∧ ((NoIds (List.drop 8 (List.take len (List.drop off oc))))) ∧ ([] : List (Value × Value × Nat)) = ([])) ∧ ((Byt (List.take (len - 8) (List.drop 8 (List.take len (List.drop off oc)))))) ∧ ((okM 0 (Abs.num S (List.take len (List.drop off oc)) 1) (Abs.rest S (List.take len (List.drop off oc))))) ∧ (len - 8 : Nat) ≤ 1472, (Value.bool (Abs.num S (List.take len (List.drop off oc)) 1 != 0) : Value) = (Value.bool false), (Value.bool (Abs.num S (List.take len (List.drop off oc)) 0 != 8) : Value) = (Value.bool false), (Value.bool (me != me) : Value) = (Value.bool false), (((plainP sp off)) ∧ ((roomP sp len c)) ∧ ((fitP off len (List.length oc))) ∧ ((NoIds oc)) ∧ ([] : List (Value × Value × Nat)) = ([])) ∧ ((Byt (List.take len (List.drop off oc)))) ∧ ((len : Nat) ≤ 100000) ∧ ((8 : Nat) ≤ len) ∧ ((Abs.sum S (List.take len (List.drop off oc)) : Int) = (65535)) ∧ (tailQ sp off len (List.length oc))]) (by kernel_rfl) (by kernel_rfl) ⟨⟨⟨?_, ⟨?_, ⟨?_, ⟨?_, ?_⟩⟩⟩⟩, ⟨?_, ⟨?_, ?_⟩⟩⟩, (congrArg Value.bool (by first | (simp only [hkind]; rfl) | (simp only [hto]; rfl) | (simp only [hat]; rfl) | (simp only [hk]; rfl) | (simp only [hc]; rfl) | (simp; done))), (congrArg Value.bool (by first | (simp only [hkind]; rfl) | (simp only [hto]; rfl) | (simp only [hat]; rfl) | (simp only [hk]; rfl) | (simp only [hc]; rfl) | (simp; done))), (congrArg Value.bool (by first | (simp only [hkind]; rfl) | (simp only [hto]; rfl) | (simp only [hat]; rfl) | (simp only [hk]; rfl) | (simp only [hc]; rfl) | (simp; done))), ⟨⟨?_, ⟨?_, ⟨?_, ⟨?_, ?_⟩⟩⟩⟩, ⟨?_, ⟨?_, ⟨?_, ⟨?_, ?_⟩⟩⟩⟩⟩, trivial⟩ (Fin.new (k := 5) (vs := [Value.agg { toList := [Value.int IntKind.i64 id, Value.int IntKind.i64 0, Value.int IntKind.i64 64, Value.int IntKind.i64 1, Value.bool false, Value.bool false, Value.int IntKind.u32 me, Value.int IntKind.u32 frm, Value.slice (some { block := 5, off := 0, spot := some 0 }) (8 + (len - 8)) 0] }, Value.int IntKind.i64 0]) (by kernel_rfl) (.inr ⟨by simp, rfl⟩) (by simp) (o1 := { kind := 0, cells := Abs.msg S 0 (Abs.num S (List.take len (List.drop off oc)) 1) (Abs.rest S (List.take len (List.drop off oc))) (List.take (len - 8) (List.drop 0 (List.drop 8 (List.take len (List.drop off oc))))), elem := 5, opn := true, ro := false, mkd := false, entries := [], clock := 0, nats := [] }) ⟨4, rfl⟩ (by kernel_rfl) rfl (ren_same hBy (by rw [hc, List.drop_zero, hl8]; rfl))) <;> (first | trivial | rfl | exact a1 | exact a2 | exact a3 | exact a5 | exact hB | exact hs | exact htl | exact hok | exact hrd | omega | exact hones | exact hnoids | (simp only [roomP]; omega) | (unfold fitP; right; simp only [List.length_drop, hL]; omega) | (simp only [bne_self_eq_false]; done))
end Go.Proofs.Ytgdkgllhblfiiaa.Ex
