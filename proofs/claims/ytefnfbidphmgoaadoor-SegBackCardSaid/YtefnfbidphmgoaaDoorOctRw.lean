/- octet's words. No conditions but those that each names. -/
import Derived.Test.YtefnfbidphmgoaaDoorOctRd
set_option linter.unusedVariables false
set_option linter.unusedSimpArgs false
set_option maxRecDepth 100000
namespace Go.Proofs.YtefnfbidphmgoaaDoor.Ex
open Go Go.RowKit

theorem word_ok {ε : Nat → Option Value} {base : Base} (hε : ∀ i V, ε i = some V → one V = true) : EntOk Tryd.prog ε base 35 (wordW wd0) := by
  intro j args h n r p e hp
  unfold wordW at e
  split at e
  case h_2 => cases e
  rename_i x y
  split at e
  case h_2 => cases e
  rename_i len L q hw
  cases e
  obtain ⟨hq, hB, hm, h0, h1⟩ := hp
  obtain ⟨k, rfl⟩ := Int.eq_ofNat_of_zero_le h0
  have E : Env Tryd.prog ε base [] := env0 hε
  have b1 : Tryd.prog.funcs[35]? = some Tryd.f35 := by kernel_rfl
  have b2 : Tryd.f35.body = some (bodyOf 35) := by kernel_rfl
  have b3 : 2 ≤ Tryd.f35.ntmps := of_decide_eq_true (by kernel_rfl)
  rcases winS_some hw hq with ⟨rfl, rfl, rfl⟩ | ⟨i, off, sp, c, oc, oe, oo, orr, om, ock, on, rfl, ho, a1, a5, a2, a3, a4⟩
  · omega
  · subst a4
    have hb0 := hB.in_ (k := k) a2 (by omega)
    have hb1 := hB.in_ (k := k + 1) a2 (by omega)
    refine callOk_one (args0 := [.slice (some ⟨0, off, sp⟩) len c, .int .i64 (k : Int)]) b1 b2 b3 ⟨3, rfl⟩ ho rfl rfl a3 (Nat.le_refl n) (fun _ h => by cases h) (fun _ _ => rfl) ?_
    refine leads_end E 40 100000 [([3, 2], Ch.idx k), ([3, 3], Ch.ld (Value.int IntKind.u8 (numAt oc (off + k * 1)))), ([3, 9], Ch.idx (k + 1)), ([3, 10], Ch.ld (Value.int IntKind.u8 (numAt oc (off + (k + 1) * 1))))] (p := [(oc[off + (k + 1) * 1]? : Option Value) = (some (Value.int IntKind.u8 (numAt oc (off + (k + 1) * 1)))), ((IntKind.wrap IntKind.i64 ((↑k : Int) + 1) : Int) = ((↑(k + 1) : Int))) ∧ ((k + 1 : Nat) < len) ∧ (plainP sp off), (oc[off + k * 1]? : Option Value) = (some (Value.int IntKind.u8 (numAt oc (off + k * 1)))), (((↑k : Int) : Int) = ((↑k : Int))) ∧ ((k : Nat) < len) ∧ (plainP sp off)]) (by kernel_rfl) (by kernel_rfl) ⟨?_, ⟨?_, ⟨?_, ?_⟩⟩, ?_, ⟨?_, ⟨?_, ?_⟩⟩, trivial⟩ (Fin.val (vs := [Value.int IntKind.i64 (IntKind.wrap IntKind.i64 (↑(BitVec.toNat (BitVec.ofInt 64 (IntKind.wrap IntKind.i64 (IntKind.wrap IntKind.i64 (numAt oc (off + k * 1)) * 256)) ||| BitVec.ofInt 64 (IntKind.wrap IntKind.i64 (numAt oc (off + (k + 1) * 1))))) : Int))]) (by kernel_rfl) (.inl rfl) ⟨2, by simp only [Nat.mul_one]; exact word_val (k := k) hB (by omega)⟩) <;> (first | trivial | rfl | exact a1 | exact a2 | exact a3 | exact a5 | omega | (simp only [Nat.mul_one, IntKind.wrap_i64]; omega) | (simp only [Nat.mul_one]; rw [hb0]) | (simp only [Nat.mul_one]; rw [hb1]) | (simp only [Nat.mul_one]; exact hb0) | (simp only [Nat.mul_one]; exact hb1))
theorem long_ok {ε : Nat → Option Value} {base : Base} (hε : ∀ i V, ε i = some V → one V = true) : EntOk Tryd.prog ε base 36 (longW lg0) := by
  intro j args h n r p e hp
  unfold longW at e
  split at e
  case h_2 => cases e
  rename_i x y
  split at e
  case h_2 => cases e
  rename_i len L q hw
  cases e
  obtain ⟨hq, hB, hm, h0, h1⟩ := hp
  have E : Env Tryd.prog ε base [(35, wordW wd0)] := ⟨hε, noCount_of hN, hmix, specs1 (word_ok hε) specs0, dets1 (word_det _) dets0⟩
  have b1 : Tryd.prog.funcs[36]? = some Tryd.f36 := by kernel_rfl
  have b2 : Tryd.f36.body = some (bodyOf 36) := by kernel_rfl
  have b3 : 2 ≤ Tryd.f36.ntmps := of_decide_eq_true (by kernel_rfl)
  rcases winS_some hw hq with ⟨rfl, rfl, rfl⟩ | ⟨i, off, sp, c, oc, oe, oo, orr, om, ock, on, rfl, ho, a1, a5, a2, a3, a4⟩
  · omega
  · subst a4
    refine callOk_one (args0 := [.slice (some ⟨0, off, sp⟩) len c, .int .i64 y]) b1 b2 b3 ⟨3, rfl⟩ ho rfl rfl a3 (Nat.le_refl n) (fun _ h => by cases h) (fun _ _ => rfl) ?_
    refine leads_end E 40 100000 [] (p := [(((plainP sp off)) ∧ ((roomP sp len c)) ∧ ((fitP off len (List.length oc))) ∧ ((NoIds oc)) ∧ ([] : List (Value × Value × Nat)) = ([])) ∧ ((Byt (List.take len (List.drop off oc)))) ∧ ((len : Nat) ≤ 100000) ∧ ((0 : Int) ≤ IntKind.wrap IntKind.i64 (y + 2)) ∧ (IntKind.wrap IntKind.i64 (y + 2) + 1 : Int) < (↑len : Int), (((plainP sp off)) ∧ ((roomP sp len c)) ∧ ((fitP off len (List.length oc))) ∧ ((NoIds oc)) ∧ ([] : List (Value × Value × Nat)) = ([])) ∧ ((Byt (List.take len (List.drop off oc)))) ∧ ((len : Nat) ≤ 100000) ∧ ((0 : Int) ≤ y) ∧ (y + 1 : Int) < (↑len : Int)]) (by kernel_rfl) (by kernel_rfl) ⟨⟨⟨?_, ⟨?_, ⟨?_, ⟨?_, ?_⟩⟩⟩⟩, ⟨?_, ⟨?_, ⟨?_, ?_⟩⟩⟩⟩, ⟨⟨?_, ⟨?_, ⟨?_, ⟨?_, ?_⟩⟩⟩⟩, ⟨?_, ⟨?_, ⟨?_, ?_⟩⟩⟩⟩, trivial⟩ (Fin.val (vs := [Value.int IntKind.u32 (IntKind.wrap IntKind.u32 (↑(BitVec.toNat (BitVec.ofInt 32 (IntKind.wrap IntKind.u32 (IntKind.wrap IntKind.u32 (wd0 (List.take len (List.drop off oc)) y) * 65536)) ||| BitVec.ofInt 32 (IntKind.wrap IntKind.u32 (wd0 (List.take len (List.drop off oc)) (IntKind.wrap IntKind.i64 (y + 2)))))) : Int))]) (by kernel_rfl) (.inl rfl) ⟨2, long_val hB (by simp only [IntKind.wrap_i64]; omega)⟩) <;> (first | trivial | rfl | exact a1 | exact a2 | exact a3 | exact a5 | exact hB | omega | (simp only [IntKind.wrap_i64]; omega))
end Go.Proofs.YtefnfbidphmgoaaDoor.Ex
