/- What is built, as a variable. No conditions but those that each names. -/
import Derived.Test.YtefnfbidphmgoaaDoorSgC
import Derived.Test.YtefnfbidphmgoaaDoorSgR
import Derived.Test.YtefnfbidphmgoaaDoorSgQ
import Derived.Test.YtefnfbidphmgoaaDoorSegW
import Derived.Test.YtefnfbidphmgoaaDoorSegFew
set_option linter.unusedVariables false
set_option linter.unusedSimpArgs false
set_option maxRecDepth 100000
set_option maxHeartbeats 2000000
namespace Go.Proofs.YtefnfbidphmgoaaDoor.Ex
open Go Go.RowKit
noncomputable def sbuildX (GA GC : Int → Int → Int → Int → Int → Int → Int → Int → Int → Int → Nat → List Value → List Value) (B1 B2 : SBl) : Ent := fun j args h n => match args with
  | [.int .u32 frm, .int .u32 to, .agg ⟨[.int .i64 f, .int .i64 t, .int .u32 sq, .int .u32 ak, .int .i64 fl, .int .i64 wi, .int .i64 u, .int .i64 gr, x]⟩] => match winS x h with
    | some (len, L, p) => match j with
      | 0 => some (⟨.tuple #[.slice (some ⟨n, 0, B1.sp len⟩) (20 + len) (B1.cap len), .int .i64 0], tput h n (some (rowO (GA frm to f t sq ak fl wi u gr len L ++ B1.tl) 5 (B1.own len))), n + 1, [n]⟩, p ∧ Byt L ∧ okU frm to sq ak ∧ okS f t fl wi u gr ∧ gr = 0 ∧ len ≤ 65495)
      | 1 => some (⟨.tuple #[.slice (some ⟨n, 0, B2.sp len⟩) (24 + len) (B2.cap len), .int .i64 0], tput h n (some (rowO (GC frm to f t sq ak fl wi u gr len L) 5 (B2.own len))), n + 1, [n]⟩, p ∧ Byt L ∧ okU frm to sq ak ∧ okS f t fl wi u gr ∧ gr ≠ 0 ∧ len ≤ 65495)
      | 2 => some (⟨.tuple #[.slice none 0 0, .int .i64 2], h, n, []⟩, p ∧ ¬ okS f t fl wi u gr)
      | _ => some (⟨.tuple #[.slice none 0 0, .int .i64 3], h, n, []⟩, p ∧ okS f t fl wi u gr ∧ 65495 < len)
    | none => none
  | _ => none
theorem sbuildx_det (GA GC : Int → Int → Int → Int → Int → Int → Int → Int → Int → Int → Nat → List Value → List Value) (B1 B2 : SBl) : EntDet (sbuildX GA GC B1 B2) := fun args h n j j' r r' p p' e hp e' hp' => by
  unfold sbuildX at e e'
  split at e
  case h_2 => cases e
  rename_i x
  split at e
  case h_2 => cases e
  rename_i len L q hw
  simp only [hw] at e'
  rcases j with _ | _ | _ | j <;> rcases j' with _ | _ | _ | j' <;> simp only [Option.some.injEq, Prod.mk.injEq] at e e' <;> obtain ⟨rfl, rfl⟩ := e <;> obtain ⟨rfl, rfl⟩ := e' <;> first
    | rfl
    | exact absurd hp.2.2.2.2.1 hp'.2.2.2.2.1
    | exact absurd hp'.2.2.2.2.1 hp.2.2.2.2.1
    | exact absurd hp.2.2.2.1 hp'.2
    | exact absurd hp'.2.2.2.1 hp.2
    | exact absurd hp.2.1 hp'.2
    | exact absurd hp'.2.1 hp.2
    | (exfalso; have := hp.2.2.2.2.2; have := hp'.2.2; omega)
    | (exfalso; have := hp'.2.2.2.2.2; have := hp.2.2; omega)
/-- What is known of what is built. -/
structure GOk (GA GC : Int → Int → Int → Int → Int → Int → Int → Int → Int → Int → Nat → List Value → List Value) : Prop where
  la : ∀ frm to f t sq ak fl wi u gr len L, L.length = len → (GA frm to f t sq ak fl wi u gr len L).length = 20 + len
  lc : ∀ frm to f t sq ak fl wi u gr len L, L.length = len → (GC frm to f t sq ak fl wi u gr len L).length = 24 + len
  ba : ∀ frm to f t sq ak fl wi u gr len L, okS f t fl wi u gr → okU frm to sq ak → Byt L → Byt (GA frm to f t sq ak fl wi u gr len L)
  bc : ∀ frm to f t sq ak fl wi u gr len L, okS f t fl wi u gr → okU frm to sq ak → Byt L → Byt (GC frm to f t sq ak fl wi u gr len L)
structure BOk (k : Nat) (B : SBl) : Prop where
  pl : ∀ n, plainP (B.sp n) 0
  rm : ∀ n, roomP (B.sp n) (k + n) (B.cap n)
  tl : Byt B.tl
theorem gOk {S : Sgs} (K : SgsOk S) : GOk (sgA S) (sgC S) where
  la _ _ _ _ _ _ _ _ _ _ len L h := by unfold sgA; rw [shL_len, h]
  lc _ _ _ _ _ _ _ _ _ _ len L h := by unfold sgC; rw [shL_len]; simp [opG, h]; omega
  ba _ _ _ _ _ _ _ _ _ _ len L h h2 hL := sgA_byt K h h2 len hL
  bc _ _ _ _ _ _ _ _ _ _ len L h h2 hL := sgC_byt K h h2 len hL
theorem c1Ok : BOk 20 C1 where
  pl n := trivial
  rm n := by show 20 + n ≤ n + 24; omega
  tl := .cons (by omega) (by omega) (.cons (by omega) (by omega) (.cons (by omega) (by omega) (.cons (by omega) (by omega) .nil)))
theorem c2Ok : BOk 24 C2 where
  pl n := by show plainP (if n = 0 then some 0 else none) 0; split <;> first | rfl | trivial
  rm n := by
    show roomP (if n = 0 then some 0 else none) (24 + n) (if n = 0 then 0 else n + 24)
    split <;> first | trivial | (show 24 + n ≤ n + 24; omega)
  tl := .nil
theorem r1Ok (k : Nat) : BOk k R1 where
  pl n := rfl
  rm n := trivial
  tl := .nil
theorem seg_one {ε : Nat → Option Value} {base : Base} (hε : ∀ i V, ε i = some V → one V = true) : EntOk Tryd.prog ε base 9 (sbuildX (sgA sgs0) (sgC sgs0) C1 C2) :=
  show EntOk Tryd.prog ε base 9 (sbuildW sgs0 C1 C2) from sbuild_ok sgs0_ok (FB := fits0) (fun _ _ _ _ _ _ => (decide_eq_true_iff).symm) ⟨hε, noCount_of hN, hmix, specs1 (fits_ok hε) (specs1 add_ok (specs1 fold_ok (specs1 (pseudo_ok hε) specs0))), dets1 (fits_det _) (dets1 (add_det _) (dets1 (foldW_det _) (dets1 (pseudo_det _) dets0)))⟩
theorem seg_two {ε : Nat → Option Value} {base : Base} (hε : ∀ i V, ε i = some V → one V = true) : EntOk Tryd.prog ε base 10 (sbuildX (sgA sgs0) (sgC sgs0) R1 R1) :=
  show EntOk Tryd.prog ε base 10 (sbuildW sgs0 R1 R1) from srefbuild_ok sgs0_ok ⟨hε, noCount_of hN, hmix, specs1 refadd_ok (specs1 reffold_ok (specs1 (refpseudo_ok hε) specs0)), dets1 (add_det _) (dets1 (foldW_det _) (dets1 (pseudo_det _) dets0))⟩
end Go.Proofs.YtefnfbidphmgoaaDoor.Ex
