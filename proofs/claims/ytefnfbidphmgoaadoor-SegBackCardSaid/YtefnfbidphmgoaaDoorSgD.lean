/- What seg builds: contracts. No conditions. -/
import Derived.Test.YtefnfbidphmgoaaDoorSgP
set_option linter.unusedVariables false
set_option linter.unusedSimpArgs false
set_option maxRecDepth 100000
set_option maxHeartbeats 2000000
namespace Go.Proofs.YtefnfbidphmgoaaDoor.Ex
open Go Go.RowKit
/-- A segment's head, and what stands behind. -/
def shL (f t sq ak wo fl wi sm u : Int) (T : List Value) : List Value := .int .u8 (f / 256) :: .int .u8 (f % 256) :: .int .u8 (t / 256) :: .int .u8 (t % 256) :: .int .u8 (sq / 16777216) :: .int .u8 (sq / 65536 % 256) :: .int .u8 (sq / 256 % 256) :: .int .u8 (sq % 256) :: .int .u8 (ak / 16777216) :: .int .u8 (ak / 65536 % 256) :: .int .u8 (ak / 256 % 256) :: .int .u8 (ak % 256) :: .int .u8 wo :: .int .u8 fl :: .int .u8 (wi / 256) :: .int .u8 (wi % 256) :: .int .u8 (sm / 256) :: .int .u8 (sm % 256) :: .int .u8 (u / 256) :: .int .u8 (u % 256) :: T
def w16 (n : Int) : Prop := 0 ≤ n ∧ n ≤ 65535
def okS (f t fl wi u gr : Int) : Prop := w16 f ∧ w16 t ∧ (0 ≤ fl ∧ fl ≤ 63) ∧ w16 wi ∧ w16 u ∧ w16 gr
def okU (frm to sq ak : Int) : Prop := (0 ≤ frm ∧ frm < 4294967296) ∧ (0 ≤ to ∧ to < 4294967296) ∧ (0 ≤ sq ∧ sq < 4294967296) ∧ (0 ≤ ak ∧ ak < 4294967296)
theorem shL_len (f t sq ak wo fl wi sm u : Int) (T : List Value) : (shL f t sq ak wo fl wi sm u T).length = 20 + T.length := by simp [shL]; omega
theorem shL_app (f t sq ak wo fl wi sm u : Int) (T M : List Value) : shL f t sq ak wo fl wi sm u T ++ M = shL f t sq ak wo fl wi sm u (T ++ M) := rfl
theorem shL_byt {frm to f t sq ak fl wi u gr wo sm : Int} {T : List Value} (h : okS f t fl wi u gr) (h2 : okU frm to sq ak) (hw : 0 ≤ wo ∧ wo ≤ 255) (hs : w16 sm) (hT : Byt T) : Byt (shL f t sq ak wo fl wi sm u T) := by
  obtain ⟨⟨_, _⟩, ⟨_, _⟩, ⟨_, _⟩, ⟨_, _⟩, ⟨_, _⟩, _, _⟩ := h
  obtain ⟨_, _, ⟨_, _⟩, _, _⟩ := h2
  obtain ⟨_, _⟩ := hs
  obtain ⟨_, _⟩ := hw
  unfold shL
  repeat' (first | exact hT | refine .cons (by omega) (by omega) ?_)
/-- The sums, as variables. -/
structure Sgs where
  ad : Int → List Value → Int
  fo : Int → Int
  ps : Int → Int → Int → Int
structure SgsOk (S : Sgs) : Prop where
  ad0 : ∀ q L, 0 ≤ S.ad q L ∧ S.ad q L ≤ 65535
  fo0 : ∀ q, 0 ≤ S.fo q ∧ S.fo q ≤ 65535
  ps0 : ∀ a b m, 0 ≤ S.ps a b m ∧ S.ps a b m ≤ 65535
def sgs0 : Sgs := ⟨ad0, fo0, ps0⟩
theorem sgs0_ok : SgsOk sgs0 where
  ad0 q L := Plain.canon_range _
  fo0 q := by have := Plain.canon_range q; show 0 ≤ 65535 - Plain.canon q ∧ 65535 - Plain.canon q ≤ 65535; omega
  ps0 a b m := Plain.canon_range _
/-- What is said of the greatest segment. -/
def opG (gr : Int) (L : List Value) : List Value := .int .u8 2 :: .int .u8 4 :: .int .u8 (gr / 256) :: .int .u8 (gr % 256) :: L
def sgA (S : Sgs) (frm to f t sq ak fl wi u gr : Int) (len : Nat) (L : List Value) : List Value := shL f t sq ak 80 fl wi (S.fo (S.ad (S.ps frm to ((20 + len : Nat) : Int)) (shL f t sq ak 80 fl wi 0 u L))) u L
def sgC (S : Sgs) (frm to f t sq ak fl wi u gr : Int) (len : Nat) (L : List Value) : List Value := shL f t sq ak 96 fl wi (S.fo (S.ad (S.ps frm to ((24 + len : Nat) : Int)) (shL f t sq ak 96 fl wi 0 u (opG gr L)))) u (opG gr L)
/-- How it lies. -/
structure SBl where
  sp : Nat → Option Nat
  cap : Nat → Nat
  own : Nat → Bool
  tl : List Value
noncomputable def sbuildW (S : Sgs) (B1 B2 : SBl) : Ent := fun j args h n => match args with
  | [.int .u32 frm, .int .u32 to, .agg ⟨[.int .i64 f, .int .i64 t, .int .u32 sq, .int .u32 ak, .int .i64 fl, .int .i64 wi, .int .i64 u, .int .i64 gr, x]⟩] => match winS x h with
    | some (len, L, p) => match j with
      | 0 => some (⟨.tuple #[.slice (some ⟨n, 0, B1.sp len⟩) (20 + len) (B1.cap len), .int .i64 0], tput h n (some (rowO (sgA S frm to f t sq ak fl wi u gr len L ++ B1.tl) 5 (B1.own len))), n + 1, [n]⟩, p ∧ Byt L ∧ okU frm to sq ak ∧ okS f t fl wi u gr ∧ gr = 0 ∧ len ≤ 65495)
      | 1 => some (⟨.tuple #[.slice (some ⟨n, 0, B2.sp len⟩) (24 + len) (B2.cap len), .int .i64 0], tput h n (some (rowO (sgC S frm to f t sq ak fl wi u gr len L) 5 (B2.own len))), n + 1, [n]⟩, p ∧ Byt L ∧ okU frm to sq ak ∧ okS f t fl wi u gr ∧ gr ≠ 0 ∧ len ≤ 65495)
      | 2 => some (⟨.tuple #[.slice none 0 0, .int .i64 2], h, n, []⟩, p ∧ ¬ okS f t fl wi u gr)
      | _ => some (⟨.tuple #[.slice none 0 0, .int .i64 3], h, n, []⟩, p ∧ okS f t fl wi u gr ∧ 65495 < len)
    | none => none
  | _ => none
theorem sbuild_det (S : Sgs) (B1 B2 : SBl) : EntDet (sbuildW S B1 B2) := fun args h n j j' r r' p p' e hp e' hp' => by
  unfold sbuildW at e e'
  split at e
  case h_2 => cases e
  rename_i x
  split at e
  case h_2 => cases e
  rename_i len L q hw
  simp only [hw] at e'
  rcases j with _ | _ | _ | j <;> rcases j' with _ | _ | _ | j' <;> simp only [Option.some.injEq, Prod.mk.injEq] at e e' <;> obtain ⟨rfl, rfl⟩ := e <;> obtain ⟨rfl, rfl⟩ := e' <;> first
    | rfl
    | exact absurd hp.2.2.2.2.1 hp'.2.2.2.2.1
    | exact absurd hp'.2.2.2.2.1 hp.2.2.2.2.1
    | exact absurd hp.2.2.2.1 hp'.2
    | exact absurd hp'.2.2.2.1 hp.2
    | exact absurd hp.2.1 hp'.2
    | exact absurd hp'.2.1 hp.2
    | (exfalso; have := hp.2.2.2.2.2; have := hp'.2.2; omega)
    | (exfalso; have := hp'.2.2.2.2.2; have := hp.2.2; omega)
end Go.Proofs.YtefnfbidphmgoaaDoor.Ex
