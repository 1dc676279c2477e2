/- few of layer 5: a frame with at most so many bytes. No conditions but those that each names. -/
import Derived.Test.YtdnbcgdpaoclkaaDoorEthBx
set_option linter.unusedVariables false
set_option linter.unusedSimpArgs false
set_option maxRecDepth 100000
set_option maxHeartbeats 2000000
namespace Go.Proofs.YtdnbcgdpaoclkaaDoor.Ex
open Go Go.RowKit

noncomputable def zeros5 : List Value := rep (cellsOf (Value.int IntKind.u8 0)) 1501
theorem zeros5_len : zeros5.length = 1501 := by unfold zeros5; rw [show cellsOf (Value.int IntKind.u8 0) = [Value.int IntKind.u8 0] from rfl, rep_one, List.length_replicate]
theorem zeros5_byt : Byt zeros5 := by
  unfold zeros5
  rw [show cellsOf (Value.int IntKind.u8 0) = [Value.int IntKind.u8 0] from rfl, rep_one]
  exact fun v hv => ⟨0, List.eq_of_mem_replicate hv, by omega, by omega⟩
noncomputable def eclipV : Ent := fun j args h n => match args with
  | [.agg ⟨[.int .u8 m0, .int .u8 m1, .int .u8 m2, .int .u8 m3, .int .u8 m4, .int .u8 m5, .int .u8 n0, .int .u8 n1, .int .u8 n2, .int .u8 n3, .int .u8 n4, .int .u8 n5, .int .u16 kd, x]⟩] => match winS x h with
    | some (len, L, p) => match j with
      | 0 => some (⟨.agg #[.int .u8 m0, .int .u8 m1, .int .u8 m2, .int .u8 m3, .int .u8 m4, .int .u8 m5, .int .u8 n0, .int .u8 n1, .int .u8 n2, .int .u8 n3, .int .u8 n4, .int .u8 n5, .int .u16 kd, .slice (some ⟨n, 0, some 0⟩) len 0], tput h n (some (rowO L 5 true)), n + 1, [n]⟩, p ∧ len ≤ 1500 ∧ L.all one = true)
      | _ => some (⟨.agg #[.int .u8 m0, .int .u8 m1, .int .u8 m2, .int .u8 m3, .int .u8 m4, .int .u8 m5, .int .u8 n0, .int .u8 n1, .int .u8 n2, .int .u8 n3, .int .u8 n4, .int .u8 n5, .int .u16 kd, .slice (some ⟨n, 0, none⟩) 1501 1501], tput h n (some (rowO zeros5 5 false)), n + 1, [n]⟩, p ∧ 1500 < len)
    | none => none
  | _ => none
theorem eclip_det : EntDet eclipV := fun args h n j j' r r' p p' e hp e' hp' => by
  unfold eclipV at e e'
  split at e
  case h_2 => cases e
  rename_i m0 m1 m2 m3 m4 m5 n0 n1 n2 n3 n4 n5 kd x
  split at e
  case h_2 => cases e
  rename_i len L q hw
  simp only [hw] at e'
  rcases j with _ | j <;> rcases j' with _ | j' <;> simp only [Option.some.injEq, Prod.mk.injEq] at e e' <;> obtain ⟨rfl, rfl⟩ := e <;> obtain ⟨rfl, rfl⟩ := e' <;> first | rfl | (exfalso; omega)
theorem eclip_ok {ε : Nat → Option Value} {base : Base} (hε : ∀ i V, ε i = some V → one V = true) : EntOk Tryd.prog ε base 8 eclipV := by
  intro j args h n r p e hp
  unfold eclipV at e
  split at e
  case h_2 => cases e
  rename_i m0 m1 m2 m3 m4 m5 n0 n1 n2 n3 n4 n5 kd x
  split at e
  case h_2 => cases e
  rename_i len L q hw
  have E : Env Tryd.prog ε base [(14, bytesV)] := ⟨hε, noCount_of hN, hmix, specs1 (bytes_ok hε) specs0, dets1 bytes_det dets0⟩
  have b1 : Tryd.prog.funcs[8]? = some Tryd.f8 := by kernel_rfl
  have b2 : Tryd.f8.body = some (bodyOf 8) := by kernel_rfl
  have b3 : 1 ≤ Tryd.f8.ntmps := of_decide_eq_true (by kernel_rfl)
  have hkeep : ∀ (o : HO) (id : Nat), id ∉ [n] → tget (tput h n (some o)) id = tget h id := fun o id hid => by rw [tget_tput, if_neg (by simpa using hid)]
  rcases j with _ | j
  · cases e
    obtain ⟨hq, hlen, hone⟩ := hp
    rcases winS_some hw hq with ⟨rfl, rfl, rfl⟩ | ⟨id, off, sp, c, oc, oe, oo, orr, om, ock, on, rfl, ho, a1, a5, a2, a3, a4⟩
    · refine callOk_none (args0 := [.agg #[.int .u8 m0, .int .u8 m1, .int .u8 m2, .int .u8 m3, .int .u8 m4, .int .u8 m5, .int .u8 n0, .int .u8 n1, .int .u8 n2, .int .u8 n3, .int .u8 n4, .int .u8 n5, .int .u16 kd, .slice none 0 0]]) b1 b2 b3 ⟨3, rfl⟩ (Nat.le_succ n) (fun id hid => by simp at hid; subst hid; exact ⟨Nat.le_refl _, Nat.lt_succ_self _⟩) (hkeep _) ?_
      refine leads_end E 40 100000 [] (p := [(((0 : Nat) = (0)) ∧ (0 : Nat) = (0)) ∧ ((true : Bool) = (true)) ∧ (growP 0 1)]) (by kernel_rfl) (by kernel_rfl) ⟨⟨⟨?_, ?_⟩, ⟨?_, ?_⟩⟩, trivial⟩ (Fin.new (k := 2) (vs := [Value.agg { toList := [Value.int IntKind.u8 m0, Value.int IntKind.u8 m1, Value.int IntKind.u8 m2, Value.int IntKind.u8 m3, Value.int IntKind.u8 m4, Value.int IntKind.u8 m5, Value.int IntKind.u8 n0, Value.int IntKind.u8 n1, Value.int IntKind.u8 n2, Value.int IntKind.u8 n3, Value.int IntKind.u8 n4, Value.int IntKind.u8 n5, Value.int IntKind.u16 kd, Value.slice (some { block := 2, off := 0, spot := some 0 }) 0 0] }]) (by kernel_rfl) (.inl rfl) (by simp) (o1 := { kind := 0, cells := [], elem := 5, opn := true, ro := false, mkd := false, entries := [], clock := 0, nats := [] }) ⟨3, rfl⟩ (by kernel_rfl) rfl (renO_row rfl rfl .nil)) <;> (first | exact a1 | trivial | rfl | exact a2 | exact a5 | exact a3 | omega | exact hone | (simp only [roomP]; omega) | (unfold fitP at *; omega) | (simp only [growP]; omega))
    · subst a4
      refine callOk_one (args0 := [.agg #[.int .u8 m0, .int .u8 m1, .int .u8 m2, .int .u8 m3, .int .u8 m4, .int .u8 m5, .int .u8 n0, .int .u8 n1, .int .u8 n2, .int .u8 n3, .int .u8 n4, .int .u8 n5, .int .u16 kd, .slice (some ⟨0, off, sp⟩) len c]]) b1 b2 b3 ⟨3, rfl⟩ ho rfl rfl a3 (Nat.le_succ n) (fun id hid => by simp at hid; subst hid; exact ⟨Nat.le_refl _, Nat.lt_succ_self _⟩) (hkeep _) ?_
      refine leads_end E 40 100000 [([4, 3], Ch.val (Value.bool false))] (p := [(((plainP sp off)) ∧ ((roomP sp len c)) ∧ ((fitP off len (List.length oc))) ∧ ((NoIds oc)) ∧ ([] : List (Value × Value × Nat)) = ([])) ∧ ((List.all (List.take len (List.drop off oc)) one : Bool) = (true)) ∧ (growP len 1), (Value.bool (decide ((↑len : Int) > 1500)) : Value) = (Value.bool false)]) (by kernel_rfl) (by kernel_rfl) ⟨⟨⟨?_, ⟨?_, ⟨?_, ⟨?_, ?_⟩⟩⟩⟩, ⟨?_, ?_⟩⟩, (congrArg Value.bool (by first | (simp only [decide_eq_false_iff_not]; omega) | (simp only [decide_eq_true_eq]; omega))), trivial⟩ (Fin.new (k := 3) (vs := [Value.agg { toList := [Value.int IntKind.u8 m0, Value.int IntKind.u8 m1, Value.int IntKind.u8 m2, Value.int IntKind.u8 m3, Value.int IntKind.u8 m4, Value.int IntKind.u8 m5, Value.int IntKind.u8 n0, Value.int IntKind.u8 n1, Value.int IntKind.u8 n2, Value.int IntKind.u8 n3, Value.int IntKind.u8 n4, Value.int IntKind.u8 n5, Value.int IntKind.u16 kd, Value.slice (some { block := 3, off := 0, spot := some 0 }) len 0] }]) (by kernel_rfl) (.inl rfl) (by simp) (o1 := { kind := 0, cells := List.take len (List.drop off oc), elem := 5, opn := true, ro := false, mkd := false, entries := [], clock := 0, nats := [] }) ⟨3, rfl⟩ (by kernel_rfl) rfl (renO_row rfl rfl ((a3.drop _).take _))) <;> (first | exact a1 | trivial | rfl | exact a2 | exact a5 | exact a3 | omega | exact hone | (simp only [roomP]; omega) | (unfold fitP at *; omega) | (simp only [growP]; omega))
  · cases e
    obtain ⟨hq, hlen⟩ := hp
    rcases winS_some hw hq with ⟨rfl, rfl, rfl⟩ | ⟨id, off, sp, c, oc, oe, oo, orr, om, ock, on, rfl, ho, a1, a5, a2, a3, a4⟩
    · omega
    · have hd : decide ((len : Int) > 1500) = true := decide_eq_true (by omega)
      refine callOk_one (args0 := [.agg #[.int .u8 m0, .int .u8 m1, .int .u8 m2, .int .u8 m3, .int .u8 m4, .int .u8 m5, .int .u8 n0, .int .u8 n1, .int .u8 n2, .int .u8 n3, .int .u8 n4, .int .u8 n5, .int .u16 kd, .slice (some ⟨0, off, sp⟩) len c]]) b1 b2 b3 ⟨3, rfl⟩ ho rfl rfl a3 (Nat.le_succ n) (fun id hid => by simp at hid; subst hid; exact ⟨Nat.le_refl _, Nat.lt_succ_self _⟩) (hkeep _) ?_
      exact leads_end E 40 100000 [([4, 3], .val (.bool true))] (p := [Value.bool (decide ((len : Int) > 1500)) = .bool true]) (by kernel_rfl) (by kernel_rfl) ⟨congrArg Value.bool hd, trivial⟩ (Fin.new (k := 3) (vs := [.agg #[.int .u8 m0, .int .u8 m1, .int .u8 m2, .int .u8 m3, .int .u8 m4, .int .u8 m5, .int .u8 n0, .int .u8 n1, .int .u8 n2, .int .u8 n3, .int .u8 n4, .int .u8 n5, .int .u16 kd, .slice (some ⟨3, 0, none⟩) 1501 1501]]) (by kernel_rfl) (.inl rfl) (by simp) (o1 := rowO zeros5 5 false) ⟨3, rfl⟩ (by kernel_rfl) rfl (renO_row rfl rfl zeros5_byt.noIds))
end Go.Proofs.YtdnbcgdpaoclkaaDoor.Ex
