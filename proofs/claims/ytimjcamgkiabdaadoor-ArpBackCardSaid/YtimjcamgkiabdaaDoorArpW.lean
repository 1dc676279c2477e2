/- arp's messages: the words. Conditions: what begins them lies there at first. -/
import Derived.Test.YtimjcamgkiabdaaDoorLongs
import Derived.Test.YtimjcamgkiabdaaDoorExZ
import Derived.Deep.MidRow
set_option linter.unusedVariables false
set_option linter.unusedSimpArgs false
set_option maxRecDepth 100000
set_option maxHeartbeats 4000000
namespace Go.Proofs.YtimjcamgkiabdaaDoor.Ex
open Go Go.RowKit
/-- What begins a message lies there from the first. -/
def BegB (base : Base) : Prop := 0 < base.n ∧ ∃ el fr, base.old 0 = some (.cells #[.int .u8 0, .int .u8 1, .int .u8 8, .int .u8 0, .int .u8 6, .int .u8 4] el fr)
theorem BegB.load {base : Base} (h : BegB base) (w : World) (hw : w.heap[0]? = base.old 0) : (Instr.loadAt 22 (.pointer (some ⟨0, 0, none⟩))).run Tryd.prog w = .ok (.agg #[.int .u8 0, .int .u8 1, .int .u8 8, .int .u8 0, .int .u8 6, .int .u8 4]) w := by
  obtain ⟨_, el, fr, ho⟩ := h
  rw [ho] at hw
  refine run_loadAt_mid w 0 0 22 [.int .u8 0, .int .u8 1, .int .u8 8, .int .u8 0, .int .u8 6, .int .u8 4] _ ?_ Tryd.underlying22 rfl (by kernel_rfl)
  intro j v hj
  rw [Nat.zero_add]
  simp only [World.cell?, hw]
  rw [← hj]
  simp
def arpL (k f t m0 m1 m2 m3 m4 m5 n0 n1 n2 n3 n4 n5 : Int) : List Value := [.int .u8 0, .int .u8 1, .int .u8 8, .int .u8 0, .int .u8 6, .int .u8 4, .int .u8 0, .int .u8 k, .int .u8 m0, .int .u8 m1, .int .u8 m2, .int .u8 m3, .int .u8 m4, .int .u8 m5, .int .u8 (f / 16777216), .int .u8 (f / 65536 % 256), .int .u8 (f / 256 % 256), .int .u8 (f % 256), .int .u8 n0, .int .u8 n1, .int .u8 n2, .int .u8 n3, .int .u8 n4, .int .u8 n5, .int .u8 (t / 16777216), .int .u8 (t / 65536 % 256), .int .u8 (t / 256 % 256), .int .u8 (t % 256)]
noncomputable def arpBuildV : Ent := fun j args h n => match args with
  | [.agg ⟨[.int .i64 k, .int .u8 m0, .int .u8 m1, .int .u8 m2, .int .u8 m3, .int .u8 m4, .int .u8 m5, .int .u32 f, .int .u8 n0, .int .u8 n1, .int .u8 n2, .int .u8 n3, .int .u8 n4, .int .u8 n5, .int .u32 t]⟩] => match j with
    | 0 => some (⟨.tuple #[.slice (some ⟨n, 0, none⟩) 28 28, .int .i64 0], tput h n (some (rowO (arpL k f t m0 m1 m2 m3 m4 m5 n0 n1 n2 n3 n4 n5) 45 false)), n + 1, [n]⟩, (k = 1 ∨ k = 2) ∧ 0 ≤ f ∧ f < 4294967296 ∧ 0 ≤ t ∧ t < 4294967296)
    | _ => some (⟨.tuple #[.slice none 0 0, .int .i64 60], h, n, []⟩, ¬ (k = 1 ∨ k = 2))
  | _ => none
theorem arpBuild_det : EntDet arpBuildV := fun args h n j j' r r' p p' e hp e' hp' => by
  unfold arpBuildV at e e'
  split at e
  case h_2 => cases e
  rcases j with _ | j <;> rcases j' with _ | j' <;> simp only [Option.some.injEq, Prod.mk.injEq] at e e' <;> obtain ⟨rfl, rfl⟩ := e <;> obtain ⟨rfl, rfl⟩ := e'
  · rfl
  · exact absurd hp.1 hp'
  · exact absurd hp'.1 hp
  · rfl
/-- Behind the load. -/
noncomputable abbrev arpX (k f t m0 m1 m2 m3 m4 m5 n0 n1 n2 n3 n4 n5 : Int) := itemsS Tryd.prog (runCallS Tryd.prog [] 40) [] Tryd.f6.ntmps 11 0 [.code (bodyOf 6)] ⟨⟨putArgs [] 0 [.agg #[.int .i64 k, .int .u8 m0, .int .u8 m1, .int .u8 m2, .int .u8 m3, .int .u8 m4, .int .u8 m5, .int .u32 f, .int .u8 n0, .int .u8 n1, .int .u8 n2, .int .u8 n3, .int .u8 n4, .int .u8 n5, .int .u32 t]], [], 0, []⟩, []⟩
noncomputable abbrev arpO : Oper := { dst := some 15, op := .load 22 (.global 0), type := 22, pos := "arp.go:58", after := #[], guard := none }
noncomputable abbrev arpY (k f t m0 m1 m2 m3 m4 m5 n0 n1 n2 n3 n4 n5 : Int) := runOps Tryd.prog (runCallC Tryd.prog [] 40) Tryd.f6.ntmps (arpO :: tailO (opsOf (todoOf (arpX k f t m0 m1 m2 m3 m4 m5 n0 n1 n2 n3 n4 n5)))) (tailO (opsOf (todoOf (arpX k f t m0 m1 m2 m3 m4 m5 n0 n1 n2 n3 n4 n5)))) { (segS (arpX k f t m0 m1 m2 m3 m4 m5 n0 n1 n2 n3 n4 n5)).st with tmps := putDst (segS (arpX k f t m0 m1 m2 m3 m4 m5 n0 n1 n2 n3 n4 n5)).st.tmps (some 15) (.agg #[.int .u8 0, .int .u8 1, .int .u8 8, .int .u8 0, .int .u8 6, .int .u8 4]) }
end Go.Proofs.YtimjcamgkiabdaaDoor.Ex
