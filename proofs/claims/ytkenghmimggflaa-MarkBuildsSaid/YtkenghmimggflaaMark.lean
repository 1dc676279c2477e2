/- What mark does. No conditions but those that each names. -/
import Derived.Test.YtkenghmimggflaaMarkD
import Derived.Laws.BitsLemmas
import Derived.Laws.Bits64
set_option linter.unusedVariables false
set_option linter.unusedSimpArgs false
set_option maxRecDepth 100000
namespace Go.Proofs.Ytkenghmimggflaa.Ex
open Go Go.RowKit

section
variable {ε : Nat → Option Value} {base : Nat} (hε : ∀ i V, ε i = some V → one V = true)
include hε
theorem kind_ok : EntOk Try.prog ε base 21 kindV := by
  intro j args h n r p e hp
  unfold kindV at e
  split at e
  case h_2 => cases e
  rename_i kind
  cases e
  have E := env0 (base := base) hε
  refine callOk_none (c := bodyOf 21) (fn := Try.f21) (by kernel_rfl) (by kernel_rfl) (of_decide_eq_true (by kernel_rfl)) ⟨1, rfl⟩ (Nat.le_refl n) (fun _ h => by cases h) (fun _ _ => rfl) ?_
  cases hb0 : (decide (kind ≥ 1) : Bool)
  · exact leads_end E 40 100000 [([3, 2], Ch.val (Value.bool false))] (p := [(Value.bool (decide (kind ≥ 1)) : Value) = (Value.bool false)]) (by kernel_rfl) (by kernel_rfl) ⟨(congrArg Value.bool hb0), trivial⟩ (Fin.val (vs := [Value.bool false]) (by kernel_rfl) (.inl rfl) ⟨1, by simp only [renV, kindB, lastsB, rightB, Option.some.injEq, Value.bool.injEq]; rw [Bool.eq_iff_iff]; simp_all <;> omega⟩)
  · exact leads_end E 40 100000 [([3, 2], Ch.val (Value.bool true))] (p := [(Value.bool (decide (kind ≥ 1)) : Value) = (Value.bool true)]) (by kernel_rfl) (by kernel_rfl) ⟨(congrArg Value.bool hb0), trivial⟩ (Fin.val (vs := [Value.bool (decide (kind ≤ 5))]) (by kernel_rfl) (.inl rfl) ⟨1, by simp only [renV, kindB, lastsB, rightB, Option.some.injEq, Value.bool.injEq]; rw [Bool.eq_iff_iff]; simp_all <;> omega⟩)
theorem lasts_ok : EntOk Try.prog ε base 22 lastsV := by
  intro j args h n r p e hp
  unfold lastsV at e
  split at e
  case h_2 => cases e
  rename_i kind len
  cases e
  have E := env0 (base := base) hε
  refine callOk_none (c := bodyOf 22) (fn := Try.f22) (by kernel_rfl) (by kernel_rfl) (of_decide_eq_true (by kernel_rfl)) ⟨1, rfl⟩ (Nat.le_refl n) (fun _ h => by cases h) (fun _ _ => rfl) ?_
  cases hb0 : (kind == 1 : Bool)
  · cases hb1 : (kind == 2 : Bool)
    · cases hb2 : (kind == 3 : Bool)
      · cases hb3 : (kind == 4 : Bool)
        · exact leads_end E 40 100000 [([7, 1], Ch.val (Value.bool false)), ([10, 1], Ch.val (Value.bool false)), ([13, 1], Ch.val (Value.bool false)), ([16, 1], Ch.val (Value.bool false))] (p := [(Value.bool (kind == 4) : Value) = (Value.bool false), (Value.bool (kind == 3) : Value) = (Value.bool false), (Value.bool (kind == 2) : Value) = (Value.bool false), (Value.bool (kind == 1) : Value) = (Value.bool false)]) (by kernel_rfl) (by kernel_rfl) ⟨(congrArg Value.bool hb3), (congrArg Value.bool hb2), (congrArg Value.bool hb1), (congrArg Value.bool hb0), trivial⟩ (Fin.val (vs := [Value.bool (len == 23)]) (by kernel_rfl) (.inl rfl) ⟨1, by simp only [renV, kindB, lastsB, rightB, Option.some.injEq, Value.bool.injEq]; rw [Bool.eq_iff_iff]; simp_all <;> omega⟩)
        · exact leads_end E 40 100000 [([7, 1], Ch.val (Value.bool false)), ([10, 1], Ch.val (Value.bool false)), ([13, 1], Ch.val (Value.bool false)), ([16, 1], Ch.val (Value.bool true))] (p := [(Value.bool (kind == 4) : Value) = (Value.bool true), (Value.bool (kind == 3) : Value) = (Value.bool false), (Value.bool (kind == 2) : Value) = (Value.bool false), (Value.bool (kind == 1) : Value) = (Value.bool false)]) (by kernel_rfl) (by kernel_rfl) ⟨(congrArg Value.bool hb3), (congrArg Value.bool hb2), (congrArg Value.bool hb1), (congrArg Value.bool hb0), trivial⟩ (Fin.val (vs := [Value.bool (len == 19)]) (by kernel_rfl) (.inl rfl) ⟨1, by simp only [renV, kindB, lastsB, rightB, Option.some.injEq, Value.bool.injEq]; rw [Bool.eq_iff_iff]; simp_all <;> omega⟩)
      · exact leads_end E 40 100000 [([7, 1], Ch.val (Value.bool false)), ([10, 1], Ch.val (Value.bool false)), ([13, 1], Ch.val (Value.bool true))] (p := [(Value.bool (kind == 3) : Value) = (Value.bool true), (Value.bool (kind == 2) : Value) = (Value.bool false), (Value.bool (kind == 1) : Value) = (Value.bool false)]) (by kernel_rfl) (by kernel_rfl) ⟨(congrArg Value.bool hb2), (congrArg Value.bool hb1), (congrArg Value.bool hb0), trivial⟩ (Fin.val (vs := [Value.bool (decide (len ≥ 21))]) (by kernel_rfl) (.inl rfl) ⟨1, by simp only [renV, kindB, lastsB, rightB, Option.some.injEq, Value.bool.injEq]; rw [Bool.eq_iff_iff]; simp_all <;> omega⟩)
    · exact leads_end E 40 100000 [([7, 1], Ch.val (Value.bool false)), ([10, 1], Ch.val (Value.bool true))] (p := [(Value.bool (kind == 2) : Value) = (Value.bool true), (Value.bool (kind == 1) : Value) = (Value.bool false)]) (by kernel_rfl) (by kernel_rfl) ⟨(congrArg Value.bool hb1), (congrArg Value.bool hb0), trivial⟩ (Fin.val (vs := [Value.bool (decide (len ≥ 23))]) (by kernel_rfl) (.inl rfl) ⟨1, by simp only [renV, kindB, lastsB, rightB, Option.some.injEq, Value.bool.injEq]; rw [Bool.eq_iff_iff]; simp_all <;> omega⟩)
  · exact leads_end E 40 100000 [([7, 1], Ch.val (Value.bool true))] (p := [(Value.bool (kind == 1) : Value) = (Value.bool true)]) (by kernel_rfl) (by kernel_rfl) ⟨(congrArg Value.bool hb0), trivial⟩ (Fin.val (vs := [Value.bool (decide (len ≥ 29))]) (by kernel_rfl) (.inl rfl) ⟨1, by simp only [renV, kindB, lastsB, rightB, Option.some.injEq, Value.bool.injEq]; rw [Bool.eq_iff_iff]; simp_all <;> omega⟩)
theorem right_ok : EntOk Try.prog ε base 25 rightV := by
  intro j args h n r p e hp
  unfold rightV at e
  split at e
  case h_2 => cases e
  rename_i kind len
  cases e
  have E := env0 (base := base) hε
  refine callOk_none (c := bodyOf 25) (fn := Try.f25) (by kernel_rfl) (by kernel_rfl) (of_decide_eq_true (by kernel_rfl)) ⟨1, rfl⟩ (Nat.le_refl n) (fun _ h => by cases h) (fun _ _ => rfl) ?_
  cases hb0 : (decide (len < 19) : Bool)
  · cases hb1 : (decide (len > 4096) : Bool)
    · cases hb2 : (kind == 1 : Bool)
      · cases hb3 : (kind == 2 : Bool)
        · cases hb4 : (kind == 3 : Bool)
          · cases hb5 : (kind == 4 : Bool)
            · cases hb6 : (kind == 5 : Bool)
              · exact leads_end E 40 100000 [([4, 2], Ch.val (Value.bool false)), ([4, 5], Ch.val (Value.bool false)), ([11, 1], Ch.val (Value.bool false)), ([14, 1], Ch.val (Value.bool false)), ([17, 1], Ch.val (Value.bool false)), ([20, 1], Ch.val (Value.bool false)), ([23, 1], Ch.val (Value.bool false))] (p := [(Value.bool (kind == 5) : Value) = (Value.bool false), (Value.bool (kind == 4) : Value) = (Value.bool false), (Value.bool (kind == 3) : Value) = (Value.bool false), (Value.bool (kind == 2) : Value) = (Value.bool false), (Value.bool (kind == 1) : Value) = (Value.bool false), (Value.bool (decide (len > 4096)) : Value) = (Value.bool false), (Value.bool (decide (len < 19)) : Value) = (Value.bool false)]) (by kernel_rfl) (by kernel_rfl) ⟨(congrArg Value.bool hb6), (congrArg Value.bool hb5), (congrArg Value.bool hb4), (congrArg Value.bool hb3), (congrArg Value.bool hb2), (congrArg Value.bool hb1), (congrArg Value.bool hb0), trivial⟩ (Fin.val (vs := [Value.bool false]) (by kernel_rfl) (.inl rfl) ⟨1, by simp only [renV, kindB, lastsB, rightB, Option.some.injEq, Value.bool.injEq]; rw [Bool.eq_iff_iff]; simp_all <;> omega⟩)
              · exact leads_end E 40 100000 [([4, 2], Ch.val (Value.bool false)), ([4, 5], Ch.val (Value.bool false)), ([11, 1], Ch.val (Value.bool false)), ([14, 1], Ch.val (Value.bool false)), ([17, 1], Ch.val (Value.bool false)), ([20, 1], Ch.val (Value.bool false)), ([23, 1], Ch.val (Value.bool true))] (p := [(Value.bool (kind == 5) : Value) = (Value.bool true), (Value.bool (kind == 4) : Value) = (Value.bool false), (Value.bool (kind == 3) : Value) = (Value.bool false), (Value.bool (kind == 2) : Value) = (Value.bool false), (Value.bool (kind == 1) : Value) = (Value.bool false), (Value.bool (decide (len > 4096)) : Value) = (Value.bool false), (Value.bool (decide (len < 19)) : Value) = (Value.bool false)]) (by kernel_rfl) (by kernel_rfl) ⟨(congrArg Value.bool hb6), (congrArg Value.bool hb5), (congrArg Value.bool hb4), (congrArg Value.bool hb3), (congrArg Value.bool hb2), (congrArg Value.bool hb1), (congrArg Value.bool hb0), trivial⟩ (Fin.val (vs := [Value.bool (len == 23)]) (by kernel_rfl) (.inl rfl) ⟨1, by simp only [renV, kindB, lastsB, rightB, Option.some.injEq, Value.bool.injEq]; rw [Bool.eq_iff_iff]; simp_all <;> omega⟩)
            · exact leads_end E 40 100000 [([4, 2], Ch.val (Value.bool false)), ([4, 5], Ch.val (Value.bool false)), ([11, 1], Ch.val (Value.bool false)), ([14, 1], Ch.val (Value.bool false)), ([17, 1], Ch.val (Value.bool false)), ([20, 1], Ch.val (Value.bool true))] (p := [(Value.bool (kind == 4) : Value) = (Value.bool true), (Value.bool (kind == 3) : Value) = (Value.bool false), (Value.bool (kind == 2) : Value) = (Value.bool false), (Value.bool (kind == 1) : Value) = (Value.bool false), (Value.bool (decide (len > 4096)) : Value) = (Value.bool false), (Value.bool (decide (len < 19)) : Value) = (Value.bool false)]) (by kernel_rfl) (by kernel_rfl) ⟨(congrArg Value.bool hb5), (congrArg Value.bool hb4), (congrArg Value.bool hb3), (congrArg Value.bool hb2), (congrArg Value.bool hb1), (congrArg Value.bool hb0), trivial⟩ (Fin.val (vs := [Value.bool (len == 19)]) (by kernel_rfl) (.inl rfl) ⟨1, by simp only [renV, kindB, lastsB, rightB, Option.some.injEq, Value.bool.injEq]; rw [Bool.eq_iff_iff]; simp_all <;> omega⟩)
          · exact leads_end E 40 100000 [([4, 2], Ch.val (Value.bool false)), ([4, 5], Ch.val (Value.bool false)), ([11, 1], Ch.val (Value.bool false)), ([14, 1], Ch.val (Value.bool false)), ([17, 1], Ch.val (Value.bool true))] (p := [(Value.bool (kind == 3) : Value) = (Value.bool true), (Value.bool (kind == 2) : Value) = (Value.bool false), (Value.bool (kind == 1) : Value) = (Value.bool false), (Value.bool (decide (len > 4096)) : Value) = (Value.bool false), (Value.bool (decide (len < 19)) : Value) = (Value.bool false)]) (by kernel_rfl) (by kernel_rfl) ⟨(congrArg Value.bool hb4), (congrArg Value.bool hb3), (congrArg Value.bool hb2), (congrArg Value.bool hb1), (congrArg Value.bool hb0), trivial⟩ (Fin.val (vs := [Value.bool (decide (len ≥ 21))]) (by kernel_rfl) (.inl rfl) ⟨1, by simp only [renV, kindB, lastsB, rightB, Option.some.injEq, Value.bool.injEq]; rw [Bool.eq_iff_iff]; simp_all <;> omega⟩)
        · exact leads_end E 40 100000 [([4, 2], Ch.val (Value.bool false)), ([4, 5], Ch.val (Value.bool false)), ([11, 1], Ch.val (Value.bool false)), ([14, 1], Ch.val (Value.bool true))] (p := [(Value.bool (kind == 2) : Value) = (Value.bool true), (Value.bool (kind == 1) : Value) = (Value.bool false), (Value.bool (decide (len > 4096)) : Value) = (Value.bool false), (Value.bool (decide (len < 19)) : Value) = (Value.bool false)]) (by kernel_rfl) (by kernel_rfl) ⟨(congrArg Value.bool hb3), (congrArg Value.bool hb2), (congrArg Value.bool hb1), (congrArg Value.bool hb0), trivial⟩ (Fin.val (vs := [Value.bool (decide (len ≥ 23))]) (by kernel_rfl) (.inl rfl) ⟨1, by simp only [renV, kindB, lastsB, rightB, Option.some.injEq, Value.bool.injEq]; rw [Bool.eq_iff_iff]; simp_all <;> omega⟩)
      · exact leads_end E 40 100000 [([4, 2], Ch.val (Value.bool false)), ([4, 5], Ch.val (Value.bool false)), ([11, 1], Ch.val (Value.bool true))] (p := [(Value.bool (kind == 1) : Value) = (Value.bool true), (Value.bool (decide (len > 4096)) : Value) = (Value.bool false), (Value.bool (decide (len < 19)) : Value) = (Value.bool false)]) (by kernel_rfl) (by kernel_rfl) ⟨(congrArg Value.bool hb2), (congrArg Value.bool hb1), (congrArg Value.bool hb0), trivial⟩ (Fin.val (vs := [Value.bool (decide (len ≥ 29))]) (by kernel_rfl) (.inl rfl) ⟨1, by simp only [renV, kindB, lastsB, rightB, Option.some.injEq, Value.bool.injEq]; rw [Bool.eq_iff_iff]; simp_all <;> omega⟩)
    · exact leads_end E 40 100000 [([4, 2], Ch.val (Value.bool false)), ([4, 5], Ch.val (Value.bool true))] (p := [(Value.bool (decide (len > 4096)) : Value) = (Value.bool true), (Value.bool (decide (len < 19)) : Value) = (Value.bool false)]) (by kernel_rfl) (by kernel_rfl) ⟨(congrArg Value.bool hb1), (congrArg Value.bool hb0), trivial⟩ (Fin.val (vs := [Value.bool false]) (by kernel_rfl) (.inl rfl) ⟨1, by simp only [renV, kindB, lastsB, rightB, Option.some.injEq, Value.bool.injEq]; rw [Bool.eq_iff_iff]; simp_all <;> omega⟩)
  · exact leads_end E 40 100000 [([4, 2], Ch.val (Value.bool true))] (p := [(Value.bool (decide (len < 19)) : Value) = (Value.bool true)]) (by kernel_rfl) (by kernel_rfl) ⟨(congrArg Value.bool hb0), trivial⟩ (Fin.val (vs := [Value.bool false]) (by kernel_rfl) (.inl rfl) ⟨1, by simp only [renV, kindB, lastsB, rightB, Option.some.injEq, Value.bool.injEq]; rw [Bool.eq_iff_iff]; simp_all <;> omega⟩)
theorem mbuild_ok : EntOk Try.prog ε base 9 buildV := by
  intro j args h n r p e hp
  unfold buildV at e
  split at e
  case h_2 => cases e
  rename_i kind x
  split at e
  case h_2 => cases e
  rename_i len L q hw
  have E : Env Try.prog ε base [(21, kindV), (22, lastsV)] := ⟨hε, noCount_of hN, hmix, specs1 (kind_ok hε) (specs1 (lasts_ok hε) specs0), dets1 (det_of fun _ _ _ _ _ => rfl) (dets1 (det_of fun _ _ _ _ _ => rfl) dets0)⟩
  have b1 : Try.prog.funcs[9]? = some Try.f9 := by kernel_rfl
  have b2 : Try.f9.body = some (bodyOf 9) := by kernel_rfl
  have b3 : 2 ≤ Try.f9.ntmps := of_decide_eq_true (by kernel_rfl)
  have hkeep : ∀ (o : HO) (id : Nat), id ∉ [n] → tget (tput h n (some o)) id = tget h id := fun o id hid => by rw [tget_tput, if_neg (by simpa using hid)]
  cases j with
  | zero =>
    cases e
    obtain ⟨hq, hr, hone⟩ := hp
    obtain ⟨g1, g2, g3⟩ := right_parts hr
    have w1 := wrap_len (len := len) (by omega)
    rcases winS_some hw hq with ⟨rfl, rfl, rfl⟩ | ⟨id, off, sp, c, oc, oe, oo, orr, om, ock, on, rfl, ho, a1, a5, a2, a3, a4⟩
    · replace g3 : lastsB kind 19 = true := g3
      refine callOk_none b1 b2 b3 ⟨1, rfl⟩ (Nat.le_succ n) (fun id hid => by simp at hid; subst hid; exact ⟨Nat.le_refl _, Nat.lt_succ_self _⟩) (hkeep _) ?_
      exact leads_end E 40 100000 [([6, 3], Ch.val (Value.bool false)), ([6, 12], Ch.val (Value.bool false))] (p := [(Value.bool !lastsB kind 19 : Value) = (Value.bool false), True, (Value.bool !kindB kind : Value) = (Value.bool false), True]) (by kernel_rfl) (by kernel_rfl) ⟨(congrArg Value.bool (by (simp only [g2, g3, Bool.not_true, Bool.not_false]; done))), trivial, (congrArg Value.bool (by (simp only [g2, g3, Bool.not_true, Bool.not_false]; done))), trivial, trivial⟩ (Fin.new (k := 6) (vs := [Value.slice (some { block := 6, off := 0, spot := some 0 }) 19 0, Value.int IntKind.i64 0]) (by kernel_rfl) (.inr ⟨by simp, rfl⟩) (by simp) ⟨3, rfl⟩ (by kernel_rfl) rfl (ren_head .nil rfl))
    · subst a4
      refine callOk_one (args0 := [.int .i64 kind, .slice (some ⟨0, off, sp⟩) len c]) b1 b2 b3 ⟨2, rfl⟩ ho rfl rfl a3 (Nat.le_succ n) (fun id hid => by simp at hid; subst hid; exact ⟨Nat.le_refl _, Nat.lt_succ_self _⟩) (hkeep _) ?_
      exact leads_end E 40 100000 [([6, 3], Ch.val (Value.bool false)), ([6, 7], Ch.val (Value.bool false)), ([6, 12], Ch.val (Value.bool false)), ([14, 2], Ch.appO len (List.take len (List.drop off oc)))] (p := [((plainP sp off) ∧ (fitP off (len * 1) (List.length oc)) ∧ (List.take (len * 1) (List.drop off oc) : List Value) = (List.take len (List.drop off oc))) ∧ ((len : Nat) = (len)) ∧ ((List.all (List.take len (List.drop off oc)) one : Bool) = (true)) ∧ (growP (19 + len) 1) ∧ (19 : Nat) = (19), (Value.bool !lastsB kind (IntKind.wrap IntKind.i64 (19 + (↑len : Int))) : Value) = (Value.bool false), True, (Value.bool (decide (IntKind.wrap IntKind.i64 (19 + (↑len : Int)) > 4096)) : Value) = (Value.bool false), (Value.bool !kindB kind : Value) = (Value.bool false), True]) (by kernel_rfl) (by kernel_rfl) ⟨⟨⟨(by first | exact a1 | exact hone | (simp only [Nat.mul_one]; exact a2) | rfl | (simp only [Nat.mul_one]; done) | (simp only [growP]; omega) | omega), ⟨(by first | exact a1 | exact hone | (simp only [Nat.mul_one]; exact a2) | rfl | (simp only [Nat.mul_one]; done) | (simp only [growP]; omega) | omega), (by first | exact a1 | exact hone | (simp only [Nat.mul_one]; exact a2) | rfl | (simp only [Nat.mul_one]; done) | (simp only [growP]; omega) | omega)⟩⟩, ⟨(by first | exact a1 | exact hone | (simp only [Nat.mul_one]; exact a2) | rfl | (simp only [Nat.mul_one]; done) | (simp only [growP]; omega) | omega), ⟨(by first | exact a1 | exact hone | (simp only [Nat.mul_one]; exact a2) | rfl | (simp only [Nat.mul_one]; done) | (simp only [growP]; omega) | omega), ⟨(by first | exact a1 | exact hone | (simp only [Nat.mul_one]; exact a2) | rfl | (simp only [Nat.mul_one]; done) | (simp only [growP]; omega) | omega), (by first | exact a1 | exact hone | (simp only [Nat.mul_one]; exact a2) | rfl | (simp only [Nat.mul_one]; done) | (simp only [growP]; omega) | omega)⟩⟩⟩⟩, (congrArg Value.bool (by first | (simp only [g2, g3, w1, Bool.not_true, Bool.not_false]; done) | (simp only [w1, decide_eq_false_iff_not]; omega))), trivial, (congrArg Value.bool (by first | (simp only [g2, g3, w1, Bool.not_true, Bool.not_false]; done) | (simp only [w1, decide_eq_false_iff_not]; omega))), (congrArg Value.bool (by first | (simp only [g2, g3, w1, Bool.not_true, Bool.not_false]; done) | (simp only [w1, decide_eq_false_iff_not]; omega))), trivial, trivial⟩ (Fin.new (k := 7) (vs := [Value.slice (some { block := 7, off := 0, spot := some 0 }) (19 + len) 0, Value.int IntKind.i64 0]) (by kernel_rfl) (.inr ⟨by simp, rfl⟩) (by simp) ⟨3, rfl⟩ (o1 := { kind := 0, cells := [Value.int IntKind.u8 255, Value.int IntKind.u8 255, Value.int IntKind.u8 255, Value.int IntKind.u8 255, Value.int IntKind.u8 255, Value.int IntKind.u8 255, Value.int IntKind.u8 255, Value.int IntKind.u8 255, Value.int IntKind.u8 255, Value.int IntKind.u8 255, Value.int IntKind.u8 255, Value.int IntKind.u8 255, Value.int IntKind.u8 255, Value.int IntKind.u8 255, Value.int IntKind.u8 255, Value.int IntKind.u8 255] ++ [Value.int IntKind.u8 (IntKind.wrap IntKind.u8 (Int.fdiv (IntKind.wrap IntKind.i64 (19 + (↑len : Int))) 256)), Value.int IntKind.u8 (IntKind.wrap IntKind.u8 (IntKind.wrap IntKind.i64 (19 + (↑len : Int))))] ++ [Value.int IntKind.u8 (IntKind.wrap IntKind.u8 kind)] ++ List.take len (List.drop off oc), elem := 5, opn := true, ro := false, mkd := false, entries := [], clock := 0, nats := [] }) (by kernel_rfl) rfl (ren_head ((a3.drop _).take _) (head_code g1)))
  | succ j =>
    cases e
    obtain ⟨hq, hr, hlen⟩ := hp
    have w1 := wrap_len (len := len) (by omega)
    rcases winS_some hw hq with ⟨rfl, rfl, rfl⟩ | ⟨id, off, sp, c, oc, oe, oo, orr, om, ock, on, rfl, ho, a1, a5, a2, a3, a4⟩
    · refine callOk_none b1 b2 b3 ⟨1, rfl⟩ (Nat.le_refl n) (fun _ h => by cases h) (fun _ _ => rfl) ?_
      cases hb0 : (!kindB kind : Bool)
      · cases hb1 : (!lastsB kind 19 : Bool)
        · exact absurd hr (by simp_all [rightB]; try omega)
        · exact leads_end E 40 100000 [([6, 3], Ch.val (Value.bool false)), ([6, 12], Ch.val (Value.bool true))] (p := [(Value.bool !lastsB kind 19 : Value) = (Value.bool true), True, (Value.bool !kindB kind : Value) = (Value.bool false), True]) (by kernel_rfl) (by kernel_rfl) ⟨(congrArg Value.bool hb1), trivial, (congrArg Value.bool hb0), trivial, trivial⟩ (Fin.val (vs := [.slice none 0 0, .int .i64 2]) (by kernel_rfl) (.inr ⟨by simp, rfl⟩) ⟨3, rfl⟩)
      · exact leads_end E 40 100000 [([6, 3], Ch.val (Value.bool true))] (p := [(Value.bool !kindB kind : Value) = (Value.bool true), True]) (by kernel_rfl) (by kernel_rfl) ⟨(congrArg Value.bool hb0), trivial, trivial⟩ (Fin.val (vs := [.slice none 0 0, .int .i64 2]) (by kernel_rfl) (.inr ⟨by simp, rfl⟩) ⟨3, rfl⟩)
    · refine callOk_one (args0 := [.int .i64 kind, .slice (some ⟨0, off, sp⟩) len c]) b1 b2 b3 ⟨2, rfl⟩ ho rfl rfl a3 (Nat.le_refl n) (fun _ h => by cases h) (fun _ _ => rfl) ?_
      cases hb0 : (!kindB kind : Bool)
      · cases hb1 : (decide (IntKind.wrap IntKind.i64 (19 + (↑len : Int)) > 4096) : Bool)
        · cases hb2 : (!lastsB kind (IntKind.wrap IntKind.i64 (19 + (↑len : Int))) : Bool)
          · exact absurd hr (by simp_all [rightB]; try omega)
          · exact leads_end E 40 100000 [([6, 3], Ch.val (Value.bool false)), ([6, 7], Ch.val (Value.bool false)), ([6, 12], Ch.val (Value.bool true))] (p := [(Value.bool !lastsB kind (IntKind.wrap IntKind.i64 (19 + (↑len : Int))) : Value) = (Value.bool true), True, (Value.bool (decide (IntKind.wrap IntKind.i64 (19 + (↑len : Int)) > 4096)) : Value) = (Value.bool false), (Value.bool !kindB kind : Value) = (Value.bool false), True]) (by kernel_rfl) (by kernel_rfl) ⟨(congrArg Value.bool hb2), trivial, (congrArg Value.bool hb1), (congrArg Value.bool hb0), trivial, trivial⟩ (Fin.val (vs := [.slice none 0 0, .int .i64 2]) (by kernel_rfl) (.inr ⟨by simp, rfl⟩) ⟨3, rfl⟩)
        · exact leads_end E 40 100000 [([6, 3], Ch.val (Value.bool false)), ([6, 7], Ch.val (Value.bool true))] (p := [(Value.bool (decide (IntKind.wrap IntKind.i64 (19 + (↑len : Int)) > 4096)) : Value) = (Value.bool true), (Value.bool !kindB kind : Value) = (Value.bool false), True]) (by kernel_rfl) (by kernel_rfl) ⟨(congrArg Value.bool hb1), (congrArg Value.bool hb0), trivial, trivial⟩ (Fin.val (vs := [.slice none 0 0, .int .i64 2]) (by kernel_rfl) (.inr ⟨by simp, rfl⟩) ⟨3, rfl⟩)
      · exact leads_end E 40 100000 [([6, 3], Ch.val (Value.bool true))] (p := [(Value.bool !kindB kind : Value) = (Value.bool true), True]) (by kernel_rfl) (by kernel_rfl) ⟨(congrArg Value.bool hb0), trivial, trivial⟩ (Fin.val (vs := [.slice none 0 0, .int .i64 2]) (by kernel_rfl) (.inr ⟨by simp, rfl⟩) ⟨3, rfl⟩)
theorem rbuild_ok : EntOk Try.prog ε base 10 buildV := by
  intro j args h n r p e hp
  unfold buildV at e
  split at e
  case h_2 => cases e
  rename_i kind x
  split at e
  case h_2 => cases e
  rename_i len L q hw
  have E : Env Try.prog ε base [(25, rightV)] := ⟨hε, noCount_of hN, hmix, specs1 (right_ok hε) specs0, dets1 (det_of fun _ _ _ _ _ => rfl) dets0⟩
  have b1 : Try.prog.funcs[10]? = some Try.f10 := by kernel_rfl
  have b2 : Try.f10.body = some (bodyOf 10) := by kernel_rfl
  have b3 : 2 ≤ Try.f10.ntmps := of_decide_eq_true (by kernel_rfl)
  have hkeep : ∀ (o : HO) (id : Nat), id ∉ [n] → tget (tput h n (some o)) id = tget h id := fun o id hid => by rw [tget_tput, if_neg (by simpa using hid)]
  cases j with
  | zero =>
    cases e
    obtain ⟨hq, hr, hone⟩ := hp
    obtain ⟨g1, g2, g3⟩ := right_parts hr
    have w1 := wrap_len (len := len) (by omega)
    rcases winS_some hw hq with ⟨rfl, rfl, rfl⟩ | ⟨id, off, sp, c, oc, oe, oo, orr, om, ock, on, rfl, ho, a1, a5, a2, a3, a4⟩
    · replace g3 : rightB kind 19 = true := hr
      refine callOk_none b1 b2 b3 ⟨1, rfl⟩ (Nat.le_succ n) (fun id hid => by simp at hid; subst hid; exact ⟨Nat.le_refl _, Nat.lt_succ_self _⟩) (hkeep _) ?_
      exact leads_end E 40 100000 [([4, 10], Ch.val (Value.bool false))] (p := [(Value.bool !rightB kind 19 : Value) = (Value.bool false), True]) (by kernel_rfl) (by kernel_rfl) ⟨(congrArg Value.bool (by (simp only [g3, Bool.not_true, Bool.not_false]; done))), trivial, trivial⟩ (Fin.new (k := 35) (vs := [Value.slice (some { block := 35, off := 0, spot := some 0 }) 19 0, Value.int IntKind.i64 0]) (by kernel_rfl) (.inr ⟨by simp, rfl⟩) (by simp) ⟨3, rfl⟩ (by kernel_rfl) rfl (ren_head .nil rfl))
    · subst a4
      refine callOk_one (args0 := [.int .i64 kind, .slice (some ⟨0, off, sp⟩) len c]) b1 b2 b3 ⟨2, rfl⟩ ho rfl rfl a3 (Nat.le_succ n) (fun id hid => by simp at hid; subst hid; exact ⟨Nat.le_refl _, Nat.lt_succ_self _⟩) (hkeep _) ?_
      exact leads_end E 40 100000 [([4, 3], Ch.val (Value.bool false)), ([4, 10], Ch.val (Value.bool false)), ([198, 12], Ch.appO len (List.take len (List.drop off oc)))] (p := [((plainP sp off) ∧ (fitP off (len * 1) (List.length oc)) ∧ (List.take (len * 1) (List.drop off oc) : List Value) = (List.take len (List.drop off oc))) ∧ ((len : Nat) = (len)) ∧ ((List.all (List.take len (List.drop off oc)) one : Bool) = (true)) ∧ (growP (19 + len) 1) ∧ (19 : Nat) = (19), (Value.bool !rightB kind (IntKind.wrap IntKind.i64 (19 + (↑len : Int))) : Value) = (Value.bool false), True, (Value.bool (decide ((↑len : Int) > 4096)) : Value) = (Value.bool false)]) (by kernel_rfl) (by kernel_rfl) ⟨⟨⟨(by first | exact a1 | exact hone | (simp only [Nat.mul_one]; exact a2) | rfl | (simp only [Nat.mul_one]; done) | (simp only [growP]; omega) | omega), ⟨(by first | exact a1 | exact hone | (simp only [Nat.mul_one]; exact a2) | rfl | (simp only [Nat.mul_one]; done) | (simp only [growP]; omega) | omega), (by first | exact a1 | exact hone | (simp only [Nat.mul_one]; exact a2) | rfl | (simp only [Nat.mul_one]; done) | (simp only [growP]; omega) | omega)⟩⟩, ⟨(by first | exact a1 | exact hone | (simp only [Nat.mul_one]; exact a2) | rfl | (simp only [Nat.mul_one]; done) | (simp only [growP]; omega) | omega), ⟨(by first | exact a1 | exact hone | (simp only [Nat.mul_one]; exact a2) | rfl | (simp only [Nat.mul_one]; done) | (simp only [growP]; omega) | omega), ⟨(by first | exact a1 | exact hone | (simp only [Nat.mul_one]; exact a2) | rfl | (simp only [Nat.mul_one]; done) | (simp only [growP]; omega) | omega), (by first | exact a1 | exact hone | (simp only [Nat.mul_one]; exact a2) | rfl | (simp only [Nat.mul_one]; done) | (simp only [growP]; omega) | omega)⟩⟩⟩⟩, (congrArg Value.bool (by first | (simp only [hr, w1, Bool.not_true, Bool.not_false]; done) | (simp only [decide_eq_false_iff_not]; omega))), trivial, (congrArg Value.bool (by first | (simp only [hr, w1, Bool.not_true, Bool.not_false]; done) | (simp only [decide_eq_false_iff_not]; omega))), trivial⟩ (Fin.new (k := 36) (vs := [Value.slice (some { block := 36, off := 0, spot := some 0 }) (19 + len) 0, Value.int IntKind.i64 0]) (by kernel_rfl) (.inr ⟨by simp, rfl⟩) (by simp) ⟨3, rfl⟩ (o1 := { kind := 0, cells := rep (cellsOf (Value.int IntKind.u8 0)) 0 ++ [Value.int IntKind.u8 255] ++ [Value.int IntKind.u8 255] ++ [Value.int IntKind.u8 255] ++ [Value.int IntKind.u8 255] ++ [Value.int IntKind.u8 255] ++ [Value.int IntKind.u8 255] ++ [Value.int IntKind.u8 255] ++ [Value.int IntKind.u8 255] ++ [Value.int IntKind.u8 255] ++ [Value.int IntKind.u8 255] ++ [Value.int IntKind.u8 255] ++ [Value.int IntKind.u8 255] ++ [Value.int IntKind.u8 255] ++ [Value.int IntKind.u8 255] ++ [Value.int IntKind.u8 255] ++ [Value.int IntKind.u8 255] ++ [Value.int IntKind.u8 (IntKind.wrap IntKind.u8 (IntKind.wrap IntKind.i64 (Int.tdiv (IntKind.wrap IntKind.i64 (19 + (↑len : Int))) 256))), Value.int IntKind.u8 (IntKind.wrap IntKind.u8 (Int.tmod (IntKind.wrap IntKind.i64 (19 + (↑len : Int))) 256)), Value.int IntKind.u8 (IntKind.wrap IntKind.u8 kind)] ++ List.take len (List.drop off oc), elem := 5, opn := true, ro := false, mkd := false, entries := [], clock := 0, nats := [] }) (by kernel_rfl) rfl (ren_head ((a3.drop _).take _) (head_ref g1)))
  | succ j =>
    cases e
    obtain ⟨hq, hr, hlen⟩ := hp
    have w1 := wrap_len (len := len) (by omega)
    rcases winS_some hw hq with ⟨rfl, rfl, rfl⟩ | ⟨id, off, sp, c, oc, oe, oo, orr, om, ock, on, rfl, ho, a1, a5, a2, a3, a4⟩
    · refine callOk_none b1 b2 b3 ⟨1, rfl⟩ (Nat.le_refl n) (fun _ h => by cases h) (fun _ _ => rfl) ?_
      cases hb0 : (!rightB kind 19 : Bool)
      · exact absurd hr (by simp_all [rightB]; try omega)
      · exact leads_end E 40 100000 [([4, 10], Ch.val (Value.bool true))] (p := [(Value.bool !rightB kind 19 : Value) = (Value.bool true), True]) (by kernel_rfl) (by kernel_rfl) ⟨(congrArg Value.bool hb0), trivial, trivial⟩ (Fin.val (vs := [.slice none 0 0, .int .i64 2]) (by kernel_rfl) (.inr ⟨by simp, rfl⟩) ⟨3, rfl⟩)
    · refine callOk_one (args0 := [.int .i64 kind, .slice (some ⟨0, off, sp⟩) len c]) b1 b2 b3 ⟨2, rfl⟩ ho rfl rfl a3 (Nat.le_refl n) (fun _ h => by cases h) (fun _ _ => rfl) ?_
      cases hb0 : (decide ((↑len : Int) > 4096) : Bool)
      · cases hb1 : (!rightB kind (IntKind.wrap IntKind.i64 (19 + (↑len : Int))) : Bool)
        · exact absurd hr (by simp_all [rightB]; try omega)
        · exact leads_end E 40 100000 [([4, 3], Ch.val (Value.bool false)), ([4, 10], Ch.val (Value.bool true))] (p := [(Value.bool !rightB kind (IntKind.wrap IntKind.i64 (19 + (↑len : Int))) : Value) = (Value.bool true), True, (Value.bool (decide ((↑len : Int) > 4096)) : Value) = (Value.bool false)]) (by kernel_rfl) (by kernel_rfl) ⟨(congrArg Value.bool hb1), trivial, (congrArg Value.bool hb0), trivial⟩ (Fin.val (vs := [.slice none 0 0, .int .i64 2]) (by kernel_rfl) (.inr ⟨by simp, rfl⟩) ⟨3, rfl⟩)
      · exact leads_end E 40 100000 [([4, 3], Ch.val (Value.bool true))] (p := [(Value.bool (decide ((↑len : Int) > 4096)) : Value) = (Value.bool true)]) (by kernel_rfl) (by kernel_rfl) ⟨(congrArg Value.bool hb0), trivial⟩ (Fin.val (vs := [.slice none 0 0, .int .i64 2]) (by kernel_rfl) (.inr ⟨by simp, rfl⟩) ⟨3, rfl⟩)
end
end Go.Proofs.Ytkenghmimggflaa.Ex
