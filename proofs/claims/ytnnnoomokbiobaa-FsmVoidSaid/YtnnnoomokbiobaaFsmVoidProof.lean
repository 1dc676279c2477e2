/- Proved: for every event FsmVoid returns true. No conditions. -/
import Derived.Test.YtnnnoomokbiobaaRows
import Derived.WalkKit
import Derived.ProofKit
import Derived.OpenShut
import Derived.ShutString
import Derived.ChangeOld
import Derived.Below
import Derived.Test.YtnnnoomokbiobaaExW
namespace Go.Proofs.Ytnnnoomokbiobaa.fsmVoid
open Go.ChangeShapes Go.WideShapes Go.ChangeAt Go.RowKit
open Go.ChangeMaps (open_string shut_string)
set_option linter.unusedVariables false
set_option linter.unusedSimpArgs false

theorem own : ownKnob Try.prog.godebug = none := by kernel_rfl
theorem laidOut : laidOutB Try.prog = true := by kernel_rfl

theorem works_ok (w : World) : Calls Try.prog 6 #[] w fun e w' => e = .returned (.bool true) ∧ Below w.heap.size w w' :=
  Ex.run_atoms (by kernel_rfl) (by kernel_rfl) 40 (args := []) (by kernel_rfl) [] rfl (ARGS := []) trivial w
theorem all13 : Ex.allBelow 13 (fun r => Ex.yes (Ex.runCallO Try.prog [(6, none, .bool true), (20, some (0, 13), .int .i64 (r : Nat))] 40 5 [.agg (Ex.atoms 0 9).toArray] [] 0)) = true := by kernel_rfl

set_option maxRecDepth 100000 in
theorem walk {H : Type} {enc : TypeId × Value → H} {base : Nat} (v0 : Value) (d0 : DataW H) (p0 : List MemPlace) (w : World) (ok0 : Value.okWide Try.prog w .any base 36 v0) (h0 : DataW.Trod enc Try.prog w 0 (fun _ => true) true 36 v0 d0 p0) :
    Calls Try.prog 5 #[v0] w fun e w' => e = .returned (.bool true) ∧ Below w.heap.size w w' := by
  obtain ⟨cs, rfl, n0, o0⟩ := Ex.open_cells ok0 (by kernel_rfl) (n := 9) (by kernel_rfl)
  obtain ⟨x, hx, _⟩ := Ex.int_at (j := 0) ok0 (by kernel_rfl) (by kernel_rfl) Try.underlying3 (by omega)
  exact Ex.run_atomsO (by kernel_rfl) (by kernel_rfl) 40 (Ex.allBelow_get all13 (among_lt x (n := 13) (by omega))) (cs ++ []) (Ex.orc_works works_ok (Ex.orc_among (i := 0) (n := 13) (by simpa using hx) (by omega) (by omega) Ex.orc_nil)) (by simp [o0]) (ARGS := [.agg cs.toArray]) ⟨Ex.Rl_cells (pre := []) (post := []) (by simp) n0, trivial⟩ w

set_option maxRecDepth 100000 in
theorem lifted (os : Os) (started : os.Started) (H : Type) (enc : TypeId × Value → H) :
    ReturnsInHanded {} Try.checked os 5 .any (Rows.fsmVoidSpec.pre6 enc Try.prog Try.f5 Rows.fsmVoidRow.domain false) (Rows.fsmVoidSpec.post enc Try.prog Try.f5 false true false false) := by
  refine returnsInHanded_of_change (C := Try.checked) own started (by kernel_rfl) Try.func5
    (ChangeSpec.witness6 (enc := enc) (C := Try.checked) false ⟨#[], #[.agg #[.int .i64 0, .int .i64 0, .int .i64 0, .int .i64 0, .int .i64 0, .slice none 0 0, .int .i64 0, .int .i64 0, .slice none 0 0]], []⟩ 8 (by kernel_rfl) (by kernel_rfl) (by kernel_rfl) (by kernel_rfl)) ?_
  intro W base args ds gs before hval0 hW hcnd _
  have hval : ∀ (j : Nat) t v, Try.f5.params[j]? = some t → args[j]? = some v → Value.okWide Try.prog W .any base t v := hval0
  have hW' := hW
  obtain ⟨p, q, hA0, hV, rfl, hfz, hnd⟩ := hW
  have hA : DataW.TrodAll enc Try.prog W 0 (fun _ => true) true Try.f5.params.toList args.toList ds p := hA0
  rw [Try.params5] at hA hval
  obtain ⟨v0, vs0, d0, ds0, p0, q0, hargs, rfl, rfl, h0, r0⟩ := trodAll_cons hA
  obtain ⟨rfl, rfl, rfl⟩ := trodAll_nil r0
  obtain rfl : args = #[v0] := by cases args; simp_all
  obtain ⟨rfl, rfl⟩ := trodVars_none hV
  have k0 := h0
  have lt0 : ∀ x ∈ p0, x.block < W.heap.size := by obtain ⟨m, hm⟩ := k0; exact DataW.trod_lt m _ _ _ hm
  clear hA0 hval0
  refine (walk v0 _ _ W (hval 0 36 v0 rfl rfl) h0).mono fun e W' ⟨he, bel⟩ => ?_
  subst he
  exact ⟨_, rfl, _, _, _, [], _, [], hW', trodAll_mk1 (shut_bool Try.underlying4 _), (trodAll_cons_mk (Below.trod laidOut (by kernel_rfl) (of_decide_eq_true (by kernel_rfl)) k0 bel lt0) trodAll_mk0), rfl, bel.frame _, fun h => by cases h⟩

theorem over : Rows.fsmVoidRow.holds Try.pinned (OpenSpec.ofChange Rows.fsmVoidSpec) :=
  OpenClaim.holds_of_wide 5 Try.f5 rfl rfl rfl rfl rfl rfl rfl ⟨rfl, rfl, rfl, rfl, rfl⟩ rfl rfl rfl rfl rfl (by kernel_rfl) Try.func5 (by kernel_rfl)
    (of_decide_eq_true (by kernel_rfl)) (by unfold Func.isWrapper; first | (rw [if_pos (by decide +kernel)]; kernel_rfl) | (rw [if_neg (by decide +kernel)]; exact ⟨rfl, rfl⟩))
    (fun os started H enc _ => lifted os started H enc)

/-- The statement. -/
theorem proved : Rows.FsmVoidSaid := over
#print axioms proved
end Go.Proofs.Ytnnnoomokbiobaa.fsmVoid
