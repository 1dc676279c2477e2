/- What icmp complains about: the words. No conditions but those that each names. -/
import Derived.Test.YtgdkgllhblfiiaaIcmpK
import Derived.Test.YtgdkgllhblfiiaaIpE
set_option linter.unusedVariables false
set_option linter.unusedSimpArgs false
set_option maxRecDepth 100000
set_option maxHeartbeats 4000000
namespace Go.Proofs.Ytgdkgllhblfiiaa.Ex
open Go Go.RowKit

def okX (me a kind frm to : Int) (len : Nat) (s k : Int) : Prop := a = 0 ∧ to = me ∧ frm ≠ 0 ∧ frm ≠ 4294967295 ∧ (kind = 1 → (8 ≤ len ∧ s = 65535 ∧ k = 8))
def okR (code id a life kind : Int) : Prop := (0 ≤ code ∧ code ≤ 15) ∧ 0 ≤ id ∧ id ≤ 65535 ∧ 0 ≤ a ∧ a ≤ 8191 ∧ 0 ≤ life ∧ life ≤ 255 ∧ 0 ≤ kind ∧ kind ≤ 255
def okU (frm to : Int) (len : Nat) : Prop := 0 ≤ frm ∧ frm < 4294967296 ∧ 0 ≤ to ∧ to < 4294967296 ∧ len ≤ 1480
noncomputable def complainW (S : Abs) (pk : PkF) : Ent := fun j args h n => match args with
  | [.int .u32 me, .int .i64 code, .agg ⟨[.int .i64 id, .int .i64 a, .int .i64 life, .int .i64 kind, .bool whole, .bool more, .int .u32 frm, .int .u32 to, x]⟩] => match winS x h, tailS x h with
    | some (len, L, p), some tl => match j with
      | 0 => some (⟨.tuple #[.agg #[.int .i64 id, .int .i64 0, .int .i64 64, .int .i64 1, .bool false, .bool false, .int .u32 me, .int .u32 frm, .slice (some ⟨n, 0, some 0⟩) (8 + min 28 (20 + len)) 0], .int .i64 0], tput h n (some (rowO (S.msg 3 code 0 ((pk id a life kind whole more frm to len L).take (min 28 (20 + len)))) 5 true)), n + 1, [n]⟩, p ∧ Byt L ∧ tl ∧ okU frm to len ∧ okR code id a life kind ∧ okX me a kind frm to len (S.sum L) (S.num L 0))
      | 1 => some (⟨.tuple #[.agg #[.int .i64 0, .int .i64 0, .int .i64 0, .int .i64 0, .bool false, .bool false, .int .u32 0, .int .u32 0, .slice none 0 0], .int .i64 2], h, n, []⟩, p ∧ Byt L ∧ tl ∧ okU frm to len ∧ ¬ okR code id a life kind)
      | _ => some (⟨.tuple #[.agg #[.int .i64 0, .int .i64 0, .int .i64 0, .int .i64 0, .bool false, .bool false, .int .u32 0, .int .u32 0, .slice none 0 0], .int .i64 5], h, n, []⟩, p ∧ Byt L ∧ tl ∧ okU frm to len ∧ okR code id a life kind ∧ ¬ okX me a kind frm to len (S.sum L) (S.num L 0))
    | _, _ => none
  | _ => none
theorem complain_det (S : Abs) (pk : PkF) : EntDet (complainW S pk) := fun args h n j j' r r' p p' e hp e' hp' => by
  unfold complainW at e e'
  split at e
  case h_2 => cases e
  rename_i me code id a life kind whole more frm to x
  split at e
  case h_2 => cases e
  rename_i len L q tl hw ht
  simp only [hw, ht] at e'
  rcases j with _ | _ | j <;> rcases j' with _ | _ | j' <;> simp only [Option.some.injEq, Prod.mk.injEq] at e e' <;> obtain ⟨rfl, rfl⟩ := e <;> obtain ⟨rfl, rfl⟩ := e' <;> first | rfl | exact absurd hp.2.2.2.2.1 hp'.2.2.2.2 | exact absurd hp'.2.2.2.2.1 hp.2.2.2.2 | exact absurd hp.2.2.2.2.2 hp'.2.2.2.2.2 | exact absurd hp'.2.2.2.2.2 hp.2.2.2.2.2
/-- What is known of a packet's bytes. -/
structure PkOk (pk : PkF) : Prop where
  len : ∀ id a life kind whole more frm to len L, (pk id a life kind whole more frm to len L).length = 20 + L.length
  byt : ∀ id a life kind whole more frm to len L, okP id a life kind frm to → len ≤ 65515 → Byt L → Byt (pk id a life kind whole more frm to len L)
theorem pkOk : PkOk (pkOf sumL) := ⟨fun _ _ _ _ _ _ _ _ _ _ => pk_len .., fun _ _ _ _ _ _ _ _ _ _ h hl hL => pk_byt sumL_range h hl hL⟩
theorem boolc (b : Bool) : b = false ∨ b = true := by cases b <;> simp
end Go.Proofs.Ytgdkgllhblfiiaa.Ex
