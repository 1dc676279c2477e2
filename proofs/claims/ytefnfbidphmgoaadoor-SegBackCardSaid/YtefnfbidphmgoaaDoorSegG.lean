/- seg's letters, and what hangs on them. Conditions: the letters are there at first. -/
import Derived.Test.YtefnfbidphmgoaaDoorCon
import Derived.Test.YtefnfbidphmgoaaDoorExZ
import Derived.Deep.MidRow
set_option linter.unusedVariables false
set_option linter.unusedSimpArgs false
set_option maxRecDepth 100000
set_option maxHeartbeats 4000000
namespace Go.Proofs.YtefnfbidphmgoaaDoor.Ex
open Go Go.RowKit Go
/-- The letters lie there from the first. -/
def LetB (base : Base) : Prop := 0 < base.n ∧ ∃ el fr, base.old 0 = some (.cells #[.int .u8 70, .int .u8 83, .int .u8 82, .int .u8 80, .int .u8 65, .int .u8 85] el fr)
theorem LetB.load {base : Base} (h : LetB base) (w : World) (hw : w.heap[0]? = base.old 0) : (Instr.loadAt 73 (.pointer (some ⟨0, 0, none⟩))).run Tryd.prog w = .ok (.agg #[.int .u8 70, .int .u8 83, .int .u8 82, .int .u8 80, .int .u8 65, .int .u8 85]) w := by
  obtain ⟨_, el, fr, ho⟩ := h
  rw [ho] at hw
  refine run_loadAt_mid w 0 0 73 [.int .u8 70, .int .u8 83, .int .u8 82, .int .u8 80, .int .u8 65, .int .u8 85] _ ?_ Tryd.underlying73 rfl (by kernel_rfl)
  intro j v hj
  rw [Nat.zero_add]
  simp only [World.cell?, hw]
  rw [← hj]
  simp
noncomputable def flagsV : Ent := fun _ args h n => match args with
  | [.agg ⟨[.int .i64 f, .int .i64 t, .int .u32 sq, .int .u32 ak, .int .i64 fl, .int .i64 wi, .int .i64 u, .int .i64 gr, x]⟩] => match winS x h with
    | some (len, L, p) => some (⟨.string ⟨#[83]⟩, h, n, []⟩, p ∧ fl = 2)
    | none => none
  | _ => none
theorem flags_det : EntDet flagsV := det_of fun _ _ _ _ _ => rfl
theorem flags_ok {ε : Nat → Option Value} {base : Base} (hε : ∀ i V, ε i = some V → one V = true) (hB : LetB base) : EntOk Tryd.prog ε base 33 flagsV := by
  intro j args h n r p e hp
  unfold flagsV at e
  split at e
  case h_2 => cases e
  rename_i f t sq ak fl wi u gr x
  split at e
  case h_2 => cases e
  rename_i len L q hw
  cases e
  obtain ⟨hq, rfl⟩ := hp
  have E : Env Tryd.prog ε base [] := env0 hε
  have b1 : Tryd.prog.funcs[33]? = some Tryd.f33 := by kernel_rfl
  have b2 : Tryd.f33.body = some (bodyOf 33) := by kernel_rfl
  have b3 : 1 ≤ Tryd.f33.ntmps := of_decide_eq_true (by kernel_rfl)
  rcases winS_some hw hq with ⟨rfl, rfl, rfl⟩ | ⟨i, off, sp, c, oc, oe, oo, orr, om, ock, on, rfl, ho, a1, a5, a2, a3, a4⟩
  · refine callOk_none (args0 := [.agg #[.int .i64 f, .int .i64 t, .int .u32 sq, .int .u32 ak, .int .i64 2, .int .i64 wi, .int .i64 u, .int .i64 gr, .slice none 0 0]]) b1 b2 b3 ⟨3, rfl⟩ (Nat.le_refl n) (fun _ h => by cases h) (fun _ _ => rfl) ?_
    refine leads_to_gload E 40 6 [] (t := 73) (g := 0) (d := 6) { dst := some 6, op := .load 73 (.global 0), type := 73, pos := "seg.go:119", after := #[], guard := none } (.agg #[.int .u8 70, .int .u8 83, .int .u8 82, .int .u8 80, .int .u8 65, .int .u8 85]) (p := []) (by kernel_rfl) (by kernel_rfl) trivial (by kernel_rfl) rfl rfl rfl (by kernel_rfl) (by kernel_rfl) hB.1 hB.load (by kernel_rfl) ?_
    exact leads_end E 40 100000 [] (p := []) (by kernel_rfl) (by kernel_rfl) trivial (Fin.val (vs := [.string ⟨#[83]⟩]) (by kernel_rfl) (.inl rfl) ⟨2, rfl⟩)
  · refine callOk_one (args0 := [.agg #[.int .i64 f, .int .i64 t, .int .u32 sq, .int .u32 ak, .int .i64 2, .int .i64 wi, .int .i64 u, .int .i64 gr, .slice (some ⟨0, off, sp⟩) len c]]) b1 b2 b3 ⟨3, rfl⟩ ho rfl rfl a3 (Nat.le_refl n) (fun _ h => by cases h) (fun _ _ => rfl) ?_
    refine leads_to_gload E 40 6 [] (t := 73) (g := 0) (d := 6) { dst := some 6, op := .load 73 (.global 0), type := 73, pos := "seg.go:119", after := #[], guard := none } (.agg #[.int .u8 70, .int .u8 83, .int .u8 82, .int .u8 80, .int .u8 65, .int .u8 85]) (p := []) (by kernel_rfl) (by kernel_rfl) trivial (by kernel_rfl) rfl rfl rfl (by kernel_rfl) (by kernel_rfl) hB.1 hB.load (by kernel_rfl) ?_
    exact leads_end E 40 100000 [] (p := []) (by kernel_rfl) (by kernel_rfl) trivial (Fin.val (vs := [.string ⟨#[83]⟩]) (by kernel_rfl) (.inl rfl) ⟨2, rfl⟩)
end Go.Proofs.YtefnfbidphmgoaaDoor.Ex
