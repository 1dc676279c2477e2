/- SegBack: what was built is read back: what is known. No conditions but those that each names. -/
import Derived.Test.YtefnfbidphmgoaaDoorSgY
import Derived.Test.YtefnfbidphmgoaaDoorOctRw
set_option linter.unusedVariables false
set_option linter.unusedSimpArgs false
set_option maxRecDepth 100000
set_option maxHeartbeats 2000000
namespace Go.Proofs.YtefnfbidphmgoaaDoor.Ex
open Go Go.RowKit
theorem and_8 {s : Int} (h : 0 ≤ s ∧ s ≤ 63) : IntKind.wrap IntKind.i64 (IntKind.wrap IntKind.u8 ((BitVec.toNat (BitVec.ofInt 8 s &&& BitVec.ofInt 8 63) : Nat) : Int)) = s := by
  obtain ⟨a, rfl⟩ := Int.eq_ofNat_of_zero_le h.1
  have h2 : ((a : Nat) : Int) ≤ 63 := h.2
  have h1 : (((a : Nat) : Int) % ((2 ^ 8 : Nat) : Int)).toNat = a := by omega
  rw [BitVec.toNat_and, BitVec.toNat_ofInt, BitVec.toNat_ofInt, h1]
  rw [show ((63 : Int) % ((2 ^ 8 : Nat) : Int)).toNat = 2 ^ 6 - 1 from rfl, Nat.and_two_pow_sub_one_eq_mod]
  simp only [IntKind.wrap_u8, IntKind.wrap_i64]; omega
/-- What is read of what was built. -/
structure SBk (SA SC : Int → Int → Int → Int → Int → Int → Int → Int → Int → Int → Nat → List Value → Int) (wd lg : List Value → Int → Int) (AD : Int → List Value → Int) (PS : Int → Int → Int → Int) : Prop where
  sa : ∀ frm to f t sq ak fl wi u gr m D, 0 ≤ SA frm to f t sq ak fl wi u gr m D ∧ SA frm to f t sq ak fl wi u gr m D ≤ 65535
  sc : ∀ frm to f t sq ak fl wi u gr m D, 0 ≤ SC frm to f t sq ak fl wi u gr m D ∧ SC frm to f t sq ak fl wi u gr m D ≤ 65535
  ps : ∀ a b m, 0 ≤ PS a b m ∧ PS a b m ≤ 65535
  q0 : ∀ f t sq ak wo fl wi sm u T, wd (shL f t sq ak wo fl wi sm u T) 0 = f
  q2 : ∀ f t sq ak wo fl wi sm u T, wd (shL f t sq ak wo fl wi sm u T) 2 = t
  q4 : ∀ f t sq ak wo fl wi sm u T, (0 ≤ sq ∧ sq < 4294967296) → lg (shL f t sq ak wo fl wi sm u T) 4 = sq
  q8 : ∀ f t sq ak wo fl wi sm u T, (0 ≤ ak ∧ ak < 4294967296) → lg (shL f t sq ak wo fl wi sm u T) 8 = ak
  q14 : ∀ f t sq ak wo fl wi sm u T, wd (shL f t sq ak wo fl wi sm u T) 14 = wi
  q18 : ∀ f t sq ak wo fl wi sm u T, wd (shL f t sq ak wo fl wi sm u T) 18 = u
  og : ∀ gr, wd (opG gr []) 2 = gr
  ra : ∀ frm to f t sq ak fl wi u gr m D, okS f t fl wi u gr → okU frm to sq ak → Byt D → AD (PS frm to ((20 + m : Nat) : Int)) (shL f t sq ak 80 fl wi (SA frm to f t sq ak fl wi u gr m D) u D) = 65535
  rc : ∀ frm to f t sq ak fl wi u gr m D, okS f t fl wi u gr → okU frm to sq ak → Byt D → AD (PS frm to ((24 + m : Nat) : Int)) (shL f t sq ak 96 fl wi (SC frm to f t sq ak fl wi u gr m D) u (opG gr D)) = 65535
theorem words_sum (f t sq ak wo fl wi sm u : Int) (T : List Value) : Plain.words (numsOf (shL f t sq ak wo fl wi sm u T)) = Plain.words (numsOf (shL f t sq ak wo fl wi 0 u T)) + sm := by
  simp only [shL, numsOf, List.map_cons, numOf, Plain.words]; omega
theorem sum_right {q : Int} {f t sq ak wo fl wi u : Int} {T : List Value} (hq : 0 ≤ q) (h : 0 ≤ Plain.words (numsOf (shL f t sq ak wo fl wi 0 u T))) : ad0 q (shL f t sq ak wo fl wi (fo0 (ad0 q (shL f t sq ak wo fl wi 0 u T))) u T) = 65535 := by
  unfold ad0
  rw [words_sum]
  unfold fo0
  have h1 := Plain.canon_range (q + Plain.words (numsOf (shL f t sq ak wo fl wi 0 u T)))
  rw [Plain.canon_small (Plain.canon (q + Plain.words (numsOf (shL f t sq ak wo fl wi 0 u T)))) h1.1 (by omega), ← Int.add_assoc]
  exact Plain.canon_right _ (by omega)
theorem sbk : SBk (fun frm to f t sq ak fl wi u gr len L => fo0 (ad0 (ps0 frm to ((20 + len : Nat) : Int)) (shL f t sq ak 80 fl wi 0 u L))) (fun frm to f t sq ak fl wi u gr len L => fo0 (ad0 (ps0 frm to ((24 + len : Nat) : Int)) (shL f t sq ak 96 fl wi 0 u (opG gr L)))) wd0 lg0 ad0 ps0 where
  sa _ _ _ _ _ _ _ _ _ _ _ _ := sgs0_ok.fo0 _
  sc _ _ _ _ _ _ _ _ _ _ _ _ := sgs0_ok.fo0 _
  ps a b m := Plain.canon_range _
  q0 f t sq ak wo fl wi sm u T := by show 256 * (f / 256) + f % 256 = f; omega
  q2 f t sq ak wo fl wi sm u T := by show 256 * (t / 256) + t % 256 = t; omega
  q4 f t sq ak wo fl wi sm u T h := by show 65536 * (256 * (sq / 16777216) + sq / 65536 % 256) + (256 * (sq / 256 % 256) + sq % 256) = sq; omega
  q8 f t sq ak wo fl wi sm u T h := by show 65536 * (256 * (ak / 16777216) + ak / 65536 % 256) + (256 * (ak / 256 % 256) + ak % 256) = ak; omega
  q14 f t sq ak wo fl wi sm u T := by show 256 * (wi / 256) + wi % 256 = wi; omega
  q18 f t sq ak wo fl wi sm u T := by show 256 * (u / 256) + u % 256 = u; omega
  og gr := by show 256 * (gr / 256) + gr % 256 = gr; omega
  ra frm to f t sq ak fl wi u gr m D h h2 hD := sum_right (Plain.canon_range _).1 (Plain.words_nonneg _ fun x hx => ((shL_byt h h2 (by omega) ⟨by omega, by omega⟩ hD).range x hx).1)
  rc frm to f t sq ak fl wi u gr m D h h2 hD := sum_right (Plain.canon_range _).1 (Plain.words_nonneg _ fun x hx => ((shL_byt h h2 (by omega) ⟨by omega, by omega⟩ (opG_byt h.2.2.2.2.2 hD)).range x hx).1)
theorem sclip_det (k : Nat) : EntDet (sclipV k) := fun args h n j j' r r' p p' e hp e' hp' => by
  unfold sclipV at e e'
  split at e
  case h_2 => cases e
  rename_i x
  split at e
  case h_2 => cases e
  rename_i len L q hw
  simp only [hw] at e'
  rcases j with _ | j <;> rcases j' with _ | j' <;> simp only [Option.some.injEq, Prod.mk.injEq] at e e' <;> obtain ⟨rfl, rfl⟩ := e <;> obtain ⟨rfl, rfl⟩ := e' <;> first | rfl | (exfalso; have := hp.2; have := hp'.2; omega)
theorem sbackE {ε : Nat → Option Value} {base : Base} (hG : LetB base) (hε : ∀ i V, ε i = some V → one V = true) : ∃ (Z : Sw) (SA SC : Int → Int → Int → Int → Int → Int → Int → Int → Int → Int → Nat → List Value → Int) (wd lg : List Value → Int → Int) (AD : Int → List Value → Int) (PS : Int → Int → Int → Int), SwOk Z 300 ∧ (∀ n, 0 < n → 0 < Z.len n) ∧ (∀ n, n ≤ 65495 → Z.len n ≤ 65495) ∧ (∀ n, 65495 < n → 65495 < Z.len n) ∧ SBk SA SC wd lg AD PS ∧ Env Tryd.prog ε base [(8, sfewW 300 Z), (9, sbuildY (fun frm to f t sq ak fl wi u gr len L => shL f t sq ak 80 fl wi (SA frm to f t sq ak fl wi u gr len L) u L) (fun frm to f t sq ak fl wi u gr len L => shL f t sq ak 96 fl wi (SC frm to f t sq ak fl wi u gr len L) u (opG gr L))), (35, wordW wd), (36, longW lg), (24, addW AD), (25, pseudoW PS), (12, sameV), (13, worksV)] ∧ Env Tryd.prog ε base [(8, sclipV 300), (9, sbuildY (fun frm to f t sq ak fl wi u gr len L => shL f t sq ak 80 fl wi (SA frm to f t sq ak fl wi u gr len L) u L) (fun frm to f t sq ak fl wi u gr len L => shL f t sq ak 96 fl wi (SC frm to f t sq ak fl wi u gr len L) u (opG gr L))), (35, wordW wd), (36, longW lg), (24, addW AD), (25, pseudoW PS), (12, sameV), (13, worksV)] := by
  have hb : EntOk Tryd.prog ε base 9 (sbuildY (sgA sgs0) (sgC sgs0)) := sbuildy_of (seg_one hε)
  refine ⟨Yof 300, _, _, wd0, lg0, ad0, ps0, swOk 300 (by omega), fun n h => ?_, fun n h => ?_, fun n h => ?_, sbk, ⟨hε, noCount_of hN, hmix, specs1 (sfew_of (sclip300_ok hε)) (specs1 hb (specs1 (word_ok hε) (specs1 (long_ok hε) (specs1 add_ok (specs1 (pseudo_ok hε) (specs1 (same_ok hε) (specs1 (works_ok hε hG) specs0))))))), dets1 (sfew_det _ _) (dets1 (sbuildy_det _ _) (dets1 (word_det _) (dets1 (long_det _) (dets1 (add_det _) (dets1 (pseudo_det _) (dets1 same_det (dets1 works_det dets0)))))))⟩, ⟨hε, noCount_of hN, hmix, specs1 (sclip300_ok hε) (specs1 hb (specs1 (word_ok hε) (specs1 (long_ok hε) (specs1 add_ok (specs1 (pseudo_ok hε) (specs1 (same_ok hε) (specs1 (works_ok hε hG) specs0))))))), dets1 (sclip_det 300) (dets1 (sbuildy_det _ _) (dets1 (word_det _) (dets1 (long_det _) (dets1 (add_det _) (dets1 (pseudo_det _) (dets1 same_det (dets1 works_det dets0)))))))⟩⟩
  · show 0 < sLen 300 n; unfold sLen; split <;> omega
  · show sLen 300 n ≤ 65495; unfold sLen; split <;> omega
  · show 65495 < sLen 300 n; unfold sLen; split <;> omega
end Go.Proofs.YtefnfbidphmgoaaDoor.Ex
