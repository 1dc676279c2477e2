/- Right sums, told as a variable. No conditions but those that each names. -/
import Derived.Test.YtnlinnjpkjmpaaaDoorIpRw
set_option linter.unusedVariables false
set_option linter.unusedSimpArgs false
set_option maxRecDepth 100000
namespace Go.Proofs.YtnlinnjpkjmpaaaDoor.Ex
open Go Go.RowKit
theorem sumL_zero' (L : List Value) : Plain.canon (0 + Plain.words (numsOf L)) = sumL L := by rw [Int.zero_add]; rfl
theorem right_ok {ε : Nat → Option Value} {base : Base} (hε : ∀ i V, ε i = some V → one V = true) : EntOk Tryd.prog ε base 37 (rightW sumL) := by
  intro j args h n r p e hp
  unfold rightW at e
  split at e
  case h_2 => cases e
  rename_i x
  split at e
  case h_2 => cases e
  rename_i len L q hw
  cases e
  obtain ⟨hq, hB, hm⟩ := hp
  have E : Env Tryd.prog ε base [(48, sumAddV)] := ⟨hε, noCount_of hN, hmix, specs1 sumAdd_ok specs0, dets1 sumAdd_det dets0⟩
  have b1 : Tryd.prog.funcs[37]? = some Tryd.f37 := by kernel_rfl
  have b2 : Tryd.f37.body = some (bodyOf 37) := by kernel_rfl
  have b3 : 1 ≤ Tryd.f37.ntmps := of_decide_eq_true (by kernel_rfl)
  rcases winS_some hw hq with ⟨rfl, rfl, rfl⟩ | ⟨i, off, sp, c, oc, oe, oo, orr, om, ock, on, rfl, ho, a1, a5, a2, a3, a4⟩
  · refine callOk_none (args0 := [.slice none 0 0]) b1 b2 b3 ⟨3, rfl⟩ (Nat.le_refl n) (fun _ h => by cases h) (fun _ _ => rfl) ?_
    refine leads_end E 40 100000 [] (p := [(((0 : Nat) = (0)) ∧ (0 : Nat) = (0)) ∧ ((Byt [])) ∧ ((0 : Nat) ≤ 100000) ∧ ((0 : Int) ≤ 0) ∧ (0 : Int) < 4294967296]) (by kernel_rfl) (by kernel_rfl) ⟨⟨⟨?_, ?_⟩, ⟨?_, ⟨?_, ⟨?_, ?_⟩⟩⟩⟩, trivial⟩ (Fin.val (vs := [Value.bool false]) (by kernel_rfl) (.inl rfl) ⟨2, by first | rfl | (rw [← sumL_zero']; rfl)⟩) <;> (first | trivial | rfl | exact .nil | omega)
  · subst a4
    refine callOk_one (args0 := [.slice (some ⟨0, off, sp⟩) len c]) b1 b2 b3 ⟨3, rfl⟩ ho rfl rfl a3 (Nat.le_refl n) (fun _ h => by cases h) (fun _ _ => rfl) ?_
    refine leads_end E 40 100000 [] (p := [(((plainP sp off)) ∧ ((roomP sp len c)) ∧ ((fitP off len (List.length oc))) ∧ ((NoIds oc)) ∧ ([] : List (Value × Value × Nat)) = ([])) ∧ ((Byt (List.take len (List.drop off oc)))) ∧ ((len : Nat) ≤ 100000) ∧ ((0 : Int) ≤ 0) ∧ (0 : Int) < 4294967296]) (by kernel_rfl) (by kernel_rfl) ⟨⟨⟨?_, ⟨?_, ⟨?_, ⟨?_, ?_⟩⟩⟩⟩, ⟨?_, ⟨?_, ⟨?_, ?_⟩⟩⟩⟩, trivial⟩ (Fin.val (vs := [Value.bool (Plain.canon (0 + Plain.words (numsOf (List.take len (List.drop off oc)))) == 65535)]) (by kernel_rfl) (.inl rfl) ⟨2, by simp only [sumL_zero']; rfl⟩) <;> (first | trivial | rfl | exact a1 | exact a2 | exact a3 | exact a5 | exact hB | omega)
theorem rright_ok {ε : Nat → Option Value} {base : Base} (hε : ∀ i V, ε i = some V → one V = true) : EntOk Tryd.prog ε base 41 (rightW sumL) := by
  intro j args h n r p e hp
  unfold rightW at e
  split at e
  case h_2 => cases e
  rename_i x
  split at e
  case h_2 => cases e
  rename_i len L q hw
  cases e
  obtain ⟨hq, hB, hm⟩ := hp
  have E : Env Tryd.prog ε base [(51, sumAddV)] := ⟨hε, noCount_of hN, hmix, specs1 refAdd_ok specs0, dets1 sumAdd_det dets0⟩
  have b1 : Tryd.prog.funcs[41]? = some Tryd.f41 := by kernel_rfl
  have b2 : Tryd.f41.body = some (bodyOf 41) := by kernel_rfl
  have b3 : 1 ≤ Tryd.f41.ntmps := of_decide_eq_true (by kernel_rfl)
  rcases winS_some hw hq with ⟨rfl, rfl, rfl⟩ | ⟨i, off, sp, c, oc, oe, oo, orr, om, ock, on, rfl, ho, a1, a5, a2, a3, a4⟩
  · refine callOk_none (args0 := [.slice none 0 0]) b1 b2 b3 ⟨3, rfl⟩ (Nat.le_refl n) (fun _ h => by cases h) (fun _ _ => rfl) ?_
    refine leads_end E 40 100000 [] (p := [(((0 : Nat) = (0)) ∧ (0 : Nat) = (0)) ∧ ((Byt [])) ∧ ((0 : Nat) ≤ 100000) ∧ ((0 : Int) ≤ 0) ∧ (0 : Int) < 4294967296]) (by kernel_rfl) (by kernel_rfl) ⟨⟨⟨?_, ?_⟩, ⟨?_, ⟨?_, ⟨?_, ?_⟩⟩⟩⟩, trivial⟩ (Fin.val (vs := [Value.bool false]) (by kernel_rfl) (.inl rfl) ⟨2, by first | rfl | (rw [← sumL_zero']; rfl)⟩) <;> (first | trivial | rfl | exact .nil | omega)
  · subst a4
    refine callOk_one (args0 := [.slice (some ⟨0, off, sp⟩) len c]) b1 b2 b3 ⟨3, rfl⟩ ho rfl rfl a3 (Nat.le_refl n) (fun _ h => by cases h) (fun _ _ => rfl) ?_
    refine leads_end E 40 100000 [] (p := [(((plainP sp off)) ∧ ((roomP sp len c)) ∧ ((fitP off len (List.length oc))) ∧ ((NoIds oc)) ∧ ([] : List (Value × Value × Nat)) = ([])) ∧ ((Byt (List.take len (List.drop off oc)))) ∧ ((len : Nat) ≤ 100000) ∧ ((0 : Int) ≤ 0) ∧ (0 : Int) < 4294967296]) (by kernel_rfl) (by kernel_rfl) ⟨⟨⟨?_, ⟨?_, ⟨?_, ⟨?_, ?_⟩⟩⟩⟩, ⟨?_, ⟨?_, ⟨?_, ?_⟩⟩⟩⟩, trivial⟩ (Fin.val (vs := [Value.bool (Plain.canon (0 + Plain.words (numsOf (List.take len (List.drop off oc)))) == 65535)]) (by kernel_rfl) (.inl rfl) ⟨2, by simp only [sumL_zero']; rfl⟩) <;> (first | trivial | rfl | exact a1 | exact a2 | exact a3 | exact a5 | exact hB | omega)
end Go.Proofs.YtnlinnjpkjmpaaaDoor.Ex
