/- Proved: for every OPEN OpenBack returns true. No conditions. -/
import Derived.Test.YtpkojcelghinoaaRows
import Derived.WalkKit
import Derived.ProofKit
import Derived.OpenShut
import Derived.ShutString
import Derived.ChangeOld
import Derived.Below
import Derived.Test.YtpkojcelghinoaaOpenBack
import Derived.Test.YtpkojcelghinoaaOpen
namespace Go.Proofs.Ytpkojcelghinoaa.openBack
open Go.ChangeShapes Go.WideShapes Go.ChangeAt Go.RowKit
open Go.ChangeMaps (open_string shut_string)
set_option linter.unusedVariables false
set_option linter.unusedSimpArgs false

theorem own : ownKnob Try.prog.godebug = none := by kernel_rfl
theorem laidOut : laidOutB Try.prog = true := by kernel_rfl

set_option maxRecDepth 100000 in
theorem walk {H : Type} {enc : TypeId × Value → H} {base : Nat} (v0 : Value) (d0 : DataW H) (p0 : List MemPlace) (w : World) (ok0 : Value.okWide Try.prog w .any base 25 v0) (h0 : DataW.Trod enc Try.prog w 0 (fun _ => true) true 25 v0 d0 p0) :
    Calls Try.prog 4 #[v0] w fun e w' => e = .returned (.bool true) ∧ Below w.heap.size w w' := by
  obtain ⟨fs0, fn0, rfl, fz0, ff0⟩ := open_fields Try.underlying25 (by kernel_rfl) ok0 h0
  obtain ⟨c0_0, c0_1, c0_2, c0_3, c0_4, c0_5, c0_6, c0_7, c0_8, c0_9, rfl⟩ := array10 (fz0.trans (by kernel_rfl))
  obtain ⟨y0_0, t0_0⟩ := ff0 0 _ _ rfl rfl
  obtain ⟨x0_0, e0_0, _, u0_0⟩ := DataW.trod_int Try.underlying22 t0_0
  simp at e0_0
  subst e0_0
  obtain ⟨y0_1, t0_1⟩ := ff0 1 _ _ rfl rfl
  obtain ⟨x0_1, e0_1, _, u0_1⟩ := DataW.trod_int Try.underlying3 t0_1
  simp at e0_1
  subst e0_1
  obtain ⟨y0_2, t0_2⟩ := ff0 2 _ _ rfl rfl
  obtain ⟨x0_2, e0_2, _, u0_2⟩ := DataW.trod_int Try.underlying23 t0_2
  simp at e0_2
  subst e0_2
  obtain ⟨y0_3, t0_3⟩ := ff0 3 _ _ rfl rfl
  obtain ⟨x0_3, e0_3, _⟩ := DataW.trod_bool Try.underlying4 t0_3
  simp at e0_3
  subst e0_3
  obtain ⟨y0_4, t0_4⟩ := ff0 4 _ _ rfl rfl
  obtain ⟨x0_4, e0_4, _⟩ := DataW.trod_bool Try.underlying4 t0_4
  simp at e0_4
  subst e0_4
  obtain ⟨y0_5, t0_5⟩ := ff0 5 _ _ rfl rfl
  obtain ⟨x0_5, e0_5, _⟩ := DataW.trod_bool Try.underlying4 t0_5
  simp at e0_5
  subst e0_5
  obtain ⟨y0_6, t0_6⟩ := ff0 6 _ _ rfl rfl
  obtain ⟨x0_6, e0_6, _⟩ := DataW.trod_bool Try.underlying4 t0_6
  simp at e0_6
  subst e0_6
  obtain ⟨y0_7, t0_7⟩ := ff0 7 _ _ rfl rfl
  obtain ⟨x0_7, e0_7, _, u0_7⟩ := DataW.trod_int Try.underlying3 t0_7
  simp at e0_7
  subst e0_7
  obtain ⟨y0_8, t0_8⟩ := ff0 8 _ _ rfl rfl
  obtain ⟨x0_8, e0_8, _⟩ := DataW.trod_bool Try.underlying4 t0_8
  simp at e0_8
  subst e0_8
  obtain ⟨y0_9, t0_9⟩ := ff0 9 _ _ rfl rfl
  obtain ⟨x0_9, e0_9, _⟩ := DataW.trod_bool Try.underlying4 t0_9
  simp at e0_9
  subst e0_9
  exact Ex.law_of_leads (ε := fun _ => none) (ρ := fun _ => none) (h := []) (m := 0) (fn := Try.f4) (c := Ex.bodyOf 4) (by kernel_rfl) (by kernel_rfl) (args := [.agg #[.int .u32 x0_0, .int .i64 x0_1, .int .u32 x0_2, .bool x0_3, .bool x0_4, .bool x0_5, .bool x0_6, .int .i64 x0_7, .bool x0_8, .bool x0_9]]) (ARGS := [.agg #[.int .u32 x0_0, .int .i64 x0_1, .int .u32 x0_2, .bool x0_3, .bool x0_4, .bool x0_5, .bool x0_6, .int .i64 x0_7, .bool x0_8, .bool x0_9]]) ⟨Ex.Rl_agg.2 ⟨[.int .u32 x0_0, .int .i64 x0_1, .int .u32 x0_2, .bool x0_3, .bool x0_4, .bool x0_5, .bool x0_6, .int .i64 x0_7, .bool x0_8, .bool x0_9], rfl, ⟨Ex.Rl_int.2 rfl, Ex.Rl_int.2 rfl, Ex.Rl_int.2 rfl, Ex.Rl_bool.2 rfl, Ex.Rl_bool.2 rfl, Ex.Rl_bool.2 rfl, Ex.Rl_bool.2 rfl, Ex.Rl_int.2 rfl, Ex.Rl_bool.2 rfl, Ex.Rl_bool.2 rfl, trivial⟩⟩, trivial⟩ (of_decide_eq_true (by kernel_rfl)) Ex.mod_nil (fun id o e => by rw [Ex.tget_nil] at e; cases e) (fun _ _ => rfl) (Ex.openback (fun _ _ h => by cases h) x0_0 x0_1 x0_2 x0_3 x0_4 x0_5 x0_6 x0_7 x0_8 x0_9  (u32_range u0_0).1 (u32_range u0_0).2 (u32_range u0_2).1 (u32_range u0_2).2 )

set_option maxRecDepth 100000 in
theorem lifted (os : Os) (started : os.Started) (H : Type) (enc : TypeId × Value → H) :
    ReturnsInHanded {} Try.checked os 4 .any (Rows.openBackSpec.pre6 enc Try.prog Try.f4 Rows.openBackRow.domain false) (Rows.openBackSpec.post enc Try.prog Try.f4 false true false false) := by
  refine returnsInHanded_of_change (C := Try.checked) own started (by kernel_rfl) Try.func4
    (ChangeSpec.witness6 (enc := enc) (C := Try.checked) false ⟨#[], #[.agg #[.int .u32 0, .int .i64 0, .int .u32 0, .bool false, .bool false, .bool false, .bool false, .int .i64 0, .bool false, .bool false]], []⟩ 8 (by kernel_rfl) (by kernel_rfl) (by kernel_rfl) (by kernel_rfl)) ?_
  intro W base args ds gs before hval0 hW hcnd _
  have hval : ∀ (j : Nat) t v, Try.f4.params[j]? = some t → args[j]? = some v → Value.okWide Try.prog W .any base t v := hval0
  have hW' := hW
  obtain ⟨p, q, hA0, hV, rfl, hfz, hnd⟩ := hW
  have hA : DataW.TrodAll enc Try.prog W 0 (fun _ => true) true Try.f4.params.toList args.toList ds p := hA0
  rw [Try.params4] at hA hval
  obtain ⟨v0, vs0, d0, ds0, p0, q0, hargs, rfl, rfl, h0, r0⟩ := trodAll_cons hA
  obtain ⟨rfl, rfl, rfl⟩ := trodAll_nil r0
  obtain rfl : args = #[v0] := by cases args; simp_all
  obtain ⟨rfl, rfl⟩ := trodVars_none hV
  have k0 := h0
  have lt0 : ∀ x ∈ p0, x.block < W.heap.size := by obtain ⟨m, hm⟩ := k0; exact DataW.trod_lt m _ _ _ hm
  clear hA0 hval0
  refine (walk v0 _ _ W (hval 0 25 v0 rfl rfl) h0).mono fun e W' ⟨he, bel⟩ => ?_
  subst he
  exact ⟨_, rfl, _, _, _, [], _, [], hW', trodAll_mk1 (shut_bool Try.underlying4 _), (trodAll_cons_mk (Below.trod laidOut (by kernel_rfl) (of_decide_eq_true (by kernel_rfl)) k0 bel lt0) trodAll_mk0), rfl, bel.frame _, fun h => by cases h⟩

theorem over : Rows.openBackRow.holds Try.pinned (OpenSpec.ofChange Rows.openBackSpec) :=
  OpenClaim.holds_of_wide 4 Try.f4 rfl rfl rfl rfl rfl rfl rfl ⟨rfl, rfl, rfl, rfl, rfl⟩ rfl rfl rfl rfl rfl (by kernel_rfl) Try.func4 (by kernel_rfl)
    (of_decide_eq_true (by kernel_rfl)) (by unfold Func.isWrapper; first | (rw [if_pos (by decide +kernel)]; kernel_rfl) | (rw [if_neg (by decide +kernel)]; exact ⟨rfl, rfl⟩))
    (fun os started H enc _ => lifted os started H enc)

/-- The statement. -/
theorem proved : Rows.OpenBackSaid := over
#print axioms proved
end Go.Proofs.Ytpkojcelghinoaa.openBack
