/- What ip reads, as variables. No conditions but those that each names. -/
import Derived.Test.YtnlinnjpkjmpaaaDoorIpRs
import Derived.Test.YtnlinnjpkjmpaaaDoorIpE
set_option linter.unusedVariables false
set_option linter.unusedSimpArgs false
set_option maxRecDepth 100000
namespace Go.Proofs.YtnlinnjpkjmpaaaDoor.Ex
open Go Go.RowKit
/-- What is read, of the bytes. -/
structure RdF where
  id : List Value → Int
  place : List Value → Int
  life : List Value → Int
  kind : List Value → Int
  whole : List Value → Bool
  more : List Value → Bool
  frm : List Value → Int
  to : List Value → Int
  right : List Value → Bool
  lo : List Value → Nat
  hi : List Value → Nat
  ok : Nat → List Value → Prop
def okI (R : RdF) (len : Nat) (L : List Value) : Prop := R.ok len L
/-- What is known of it. -/
structure RdOk (R : RdF) : Prop where
  hi : ∀ len L, R.ok len L → R.hi L ≤ len
  nil : ∀ L, ¬ R.ok 0 L
/-- Nothing lies behind, in a row of one's own. -/
def tailQ (sp : Option Nat) (off len n : Nat) : Prop := match sp with
  | none => True
  | some _ => n ≤ off + len
noncomputable def tailS (x : Value) (h : T HO) : Option Prop := match x with
  | .slice (some ⟨id, off, sp⟩) len _ => (match tget h id with | some o => some (tailQ sp off len o.cells.length) | none => none)
  | _ => some True
noncomputable def pzero : Value := .agg #[.int .i64 0, .int .i64 0, .int .i64 0, .int .i64 0, .bool false, .bool false, .int .u32 0, .int .u32 0, .slice none 0 0]
noncomputable def ipreadW (R : RdF) : Ent := fun j args h n => match args with
  | [x] => match winS x h, tailS x h with
    | some (len, L, p), some tl => match j with
      | 0 => some (⟨.tuple #[.agg #[.int .i64 (R.id L), .int .i64 (R.place L), .int .i64 (R.life L), .int .i64 (R.kind L), .bool (R.whole L), .bool (R.more L), .int .u32 (R.frm L), .int .u32 (R.to L), .slice (some ⟨n, 0, some 0⟩) (R.hi L - R.lo L) 0], .int .i64 0], tput h n (some (rowO ((L.take (R.hi L)).drop (R.lo L)) 5 true)), n + 1, [n]⟩, p ∧ Byt L ∧ len ≤ 100000 ∧ okI R len L ∧ R.right L = true ∧ tl)
      | 1 => some (⟨.tuple #[.agg #[.int .i64 0, .int .i64 0, .int .i64 0, .int .i64 0, .bool false, .bool false, .int .u32 0, .int .u32 0, .slice none 0 0], .int .i64 71], h, n, []⟩, p ∧ Byt L ∧ len ≤ 100000 ∧ okI R len L ∧ R.right L = false)
      | _ => some (⟨.tuple #[.agg #[.int .i64 0, .int .i64 0, .int .i64 0, .int .i64 0, .bool false, .bool false, .int .u32 0, .int .u32 0, .slice none 0 0], .int .i64 70], h, n, []⟩, p ∧ Byt L ∧ len ≤ 100000 ∧ ¬ okI R len L)
    | _, _ => none
  | _ => none
theorem ipread_det (R : RdF) : EntDet (ipreadW R) := fun args h n j j' r r' p p' e hp e' hp' => by
  unfold ipreadW at e e'
  split at e
  case h_2 => cases e
  rename_i x
  split at e
  case h_2 => cases e
  rename_i len L q tl hw ht
  simp only [hw, ht] at e'
  rcases j with _ | _ | j <;> rcases j' with _ | _ | j' <;> simp only [Option.some.injEq, Prod.mk.injEq] at e e' <;> obtain ⟨rfl, rfl⟩ := e <;> obtain ⟨rfl, rfl⟩ := e' <;> first | rfl | exact (hp'.2.2.2 hp.2.2.2.1).elim | exact (hp.2.2.2 hp'.2.2.2.1).elim | exact (Bool.noConfusion (hp.2.2.2.2.symm.trans hp'.2.2.2.2.1)) | exact (Bool.noConfusion (hp.2.2.2.2.1.symm.trans hp'.2.2.2.2))
/-! ### As the document says it -/
def hl (L : List Value) : Nat := ((numAt L 0 % 16) * 4).toNat
noncomputable def R0 : RdF where
  id L := wd0 L 4
  place L := wd0 L 6 % 8192
  life L := numAt L 8
  kind L := numAt L 9
  whole L := decide (16384 ≤ wd0 L 6 % 32768)
  more L := decide (8192 ≤ wd0 L 6 % 16384)
  frm L := lg0 L 12
  to L := lg0 L 16
  right L := sumL (L.take (hl L)) == 65535
  lo L := hl L
  hi L := (wd0 L 2).toNat
  ok len L := 20 ≤ len ∧ 64 ≤ numAt L 0 ∧ numAt L 0 ≤ 79 ∧ 20 ≤ hl L ∧ hl L ≤ len ∧ (hl L : Int) ≤ wd0 L 2 ∧ wd0 L 2 ≤ len ∧ wd0 L 6 < 32768
theorem rdOk : RdOk R0 := ⟨fun len L h => by obtain ⟨_, _, _, _, _, _, h1, _⟩ := h; show (wd0 L 2).toNat ≤ len; omega, fun L h => absurd h.1 (by omega)⟩
end Go.Proofs.YtnlinnjpkjmpaaaDoor.Ex
