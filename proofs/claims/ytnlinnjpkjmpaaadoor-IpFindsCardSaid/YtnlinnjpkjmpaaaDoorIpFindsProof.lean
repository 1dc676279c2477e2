/- Proved: for every packet, place and byte IpFinds returns true, and the packet's bytes are read afterwards as before. No conditions. -/
import Derived.Test.YtnlinnjpkjmpaaaDoorRows
import Derived.WalkKit
import Derived.ProofKit
import Derived.OpenShut
import Derived.ShutString
import Derived.ChangeOld
import Derived.Below
import Derived.LaidMore
import Derived.Stop.Joined
import Derived.SevenTiedAt
import Derived.Test.YtnlinnjpkjmpaaaDoorTie
import Derived.Test.YtnlinnjpkjmpaaaDoorCards
import Derived.Test.YtnlinnjpkjmpaaaDoorIpFinds
import Derived.Test.YtnlinnjpkjmpaaaDoorOpen
namespace Go.Proofs.YtnlinnjpkjmpaaaDoor.ipFinds
open Go.ChangeShapes Go.WideShapes Go.ChangeAt Go.RowKit
open Go.ChangeMaps (open_string shut_string)
set_option linter.unusedVariables false
set_option linter.unusedSimpArgs false

theorem own : ownKnob Tryd.prog.godebug = none := by kernel_rfl
/-- What the listed variables hold. -/
def laidL {H : Type} : List (String × DataW H) := [("math/bits.deBruijn32tab", Rows.laid_math_bits_deBruijn32tab), ("math/bits.deBruijn64tab", Rows.laid_math_bits_deBruijn64tab), ("internal/strconv.uint64pow10", Rows.laid_internal_strconv_uint64pow10)]
theorem laidOut : laidOutB Tryd.prog = true := by kernel_rfl

set_option maxRecDepth 100000 in
theorem walk {H : Type} {enc : TypeId × Value → H} {base : Nat} (v0 : Value) (d0 : DataW H) (p0 : List MemPlace) (a1 : Int) (a2 : Int) (w : World) (ok0 : Value.okWide Tryd.prog w .any base 26 v0) (h0 : DataW.Trod enc Tryd.prog w 0 (fun _ => true) true 26 v0 d0 p0) (w1 : (Lit.int .i64 a1).wf = true) (w2 : (Lit.int .u8 a2).wf = true) (hL : laidMetH Tryd.prog laidL w) :
    Calls Tryd.prog 8 #[v0, .int .i64 a1, .int .u8 a2] w fun e w' => e = .returned (.bool true) ∧ Below w.heap.size w w' := by
  obtain ⟨fs0, fn0, rfl, fz0, ff0⟩ := open_fields Tryd.underlying26 (by kernel_rfl) ok0 h0
  obtain ⟨c0_0, c0_1, c0_2, c0_3, c0_4, c0_5, c0_6, c0_7, c0_8, rfl⟩ := array9 (fz0.trans (by kernel_rfl))
  obtain ⟨y0_0, t0_0⟩ := ff0 0 _ _ rfl rfl
  obtain ⟨x0_0, e0_0, _, u0_0⟩ := DataW.trod_int Tryd.underlying3 t0_0
  simp at e0_0
  subst e0_0
  obtain ⟨y0_1, t0_1⟩ := ff0 1 _ _ rfl rfl
  obtain ⟨x0_1, e0_1, _, u0_1⟩ := DataW.trod_int Tryd.underlying3 t0_1
  simp at e0_1
  subst e0_1
  obtain ⟨y0_2, t0_2⟩ := ff0 2 _ _ rfl rfl
  obtain ⟨x0_2, e0_2, _, u0_2⟩ := DataW.trod_int Tryd.underlying3 t0_2
  simp at e0_2
  subst e0_2
  obtain ⟨y0_3, t0_3⟩ := ff0 3 _ _ rfl rfl
  obtain ⟨x0_3, e0_3, _, u0_3⟩ := DataW.trod_int Tryd.underlying3 t0_3
  simp at e0_3
  subst e0_3
  obtain ⟨y0_4, t0_4⟩ := ff0 4 _ _ rfl rfl
  obtain ⟨x0_4, e0_4, _⟩ := DataW.trod_bool Tryd.underlying4 t0_4
  simp at e0_4
  subst e0_4
  obtain ⟨y0_5, t0_5⟩ := ff0 5 _ _ rfl rfl
  obtain ⟨x0_5, e0_5, _⟩ := DataW.trod_bool Tryd.underlying4 t0_5
  simp at e0_5
  subst e0_5
  obtain ⟨y0_6, t0_6⟩ := ff0 6 _ _ rfl rfl
  obtain ⟨x0_6, e0_6, _, u0_6⟩ := DataW.trod_int Tryd.underlying23 t0_6
  simp at e0_6
  subst e0_6
  obtain ⟨y0_7, t0_7⟩ := ff0 7 _ _ rfl rfl
  obtain ⟨x0_7, e0_7, _, u0_7⟩ := DataW.trod_int Tryd.underlying23 t0_7
  simp at e0_7
  subst e0_7
  obtain ⟨y0_8, t0_8⟩ := ff0 8 _ _ rfl rfl
  have k0_8 := field_ok Tryd.underlying26 ok0 (ts := [3, 3, 3, 3, 4, 4, 23, 23, 24]) (by kernel_rfl) 8 _ rfl rfl Tryd.underlying24
  obtain ⟨a0_8, l0_8, m0_8, z0_8, rfl, w0_8⟩ := row_of Tryd.underlying24 Tryd.underlying5 (by kernel_rfl) t0_8
  rcases w0_8 with ⟨rfl, rfl, rfl, rfl⟩ | ⟨q0, rfl, hl0, hm0, hz0, hc0, hw0⟩
  · exact Ex.law_of_leads (ε := fun _ => none) (ρ := fun _ => none) (h := []) (m := 0) (fn := Tryd.f8) (c := Ex.bodyOf 8) (by kernel_rfl) (by kernel_rfl) (args := [.agg #[.int .i64 x0_0, .int .i64 x0_1, .int .i64 x0_2, .int .i64 x0_3, .bool x0_4, .bool x0_5, .int .u32 x0_6, .int .u32 x0_7, .slice none 0 0], .int .i64 a1, .int .u8 a2]) (ARGS := [.agg #[.int .i64 x0_0, .int .i64 x0_1, .int .i64 x0_2, .int .i64 x0_3, .bool x0_4, .bool x0_5, .int .u32 x0_6, .int .u32 x0_7, .slice none 0 0], .int .i64 a1, .int .u8 a2]) ⟨Ex.Rl_agg.2 ⟨[.int .i64 x0_0, .int .i64 x0_1, .int .i64 x0_2, .int .i64 x0_3, .bool x0_4, .bool x0_5, .int .u32 x0_6, .int .u32 x0_7, .slice none 0 0], rfl, ⟨Ex.Rl_int.2 rfl, Ex.Rl_int.2 rfl, Ex.Rl_int.2 rfl, Ex.Rl_int.2 rfl, Ex.Rl_bool.2 rfl, Ex.Rl_bool.2 rfl, Ex.Rl_int.2 rfl, Ex.Rl_int.2 rfl, (Ex.Rl_self rfl).2 rfl, trivial⟩⟩, Ex.Rl_int.2 rfl, Ex.Rl_int.2 rfl, trivial⟩ (of_decide_eq_true (by kernel_rfl)) Ex.mod_nil (fun id o e => by rw [Ex.tget_nil] at e; cases e) (fun _ _ => rfl) (Ex.ipfinds_0 (fun _ _ h => by cases h) x0_0 x0_1 x0_2 x0_3 x0_4 x0_5 x0_6 x0_7 a1 a2  (u32_range u0_6).1 (u32_range u0_6).2 (u32_range u0_7).1 (u32_range u0_7).2 (i64_range w1).1 (i64_range w1).2 (u8_range w2).1 (u8_range w2).2 )
  · obtain ⟨cs0, A0, b0, off0, rfl, g1_0, g2_0, g3_0, g4_0, g6_0, g7_0⟩ := Ex.rowS [] rfl k0_8 Tryd.underlying24 hl0 hz0 hc0
    exact Ex.law_of_leads (ε := fun i => ([] ++ A0)[i]?) (ρ := Ex.rho1 b0) (h := Ex.tput [] 0 (some (Ex.roRow cs0))) (m := 1) (fn := Tryd.f8) (c := Ex.bodyOf 8) (by kernel_rfl) (by kernel_rfl) (args := [.agg #[.int .i64 x0_0, .int .i64 x0_1, .int .i64 x0_2, .int .i64 x0_3, .bool x0_4, .bool x0_5, .int .u32 x0_6, .int .u32 x0_7, .slice (some ⟨0, off0, none⟩) l0_8 m0_8], .int .i64 a1, .int .u8 a2]) (ARGS := [.agg #[.int .i64 x0_0, .int .i64 x0_1, .int .i64 x0_2, .int .i64 x0_3, .bool x0_4, .bool x0_5, .int .u32 x0_6, .int .u32 x0_7, .slice (some ⟨b0, off0, none⟩) l0_8 m0_8], .int .i64 a1, .int .u8 a2]) ⟨Ex.Rl_agg.2 ⟨[.int .i64 x0_0, .int .i64 x0_1, .int .i64 x0_2, .int .i64 x0_3, .bool x0_4, .bool x0_5, .int .u32 x0_6, .int .u32 x0_7, .slice (some ⟨b0, off0, none⟩) l0_8 m0_8], rfl, ⟨Ex.Rl_int.2 rfl, Ex.Rl_int.2 rfl, Ex.Rl_int.2 rfl, Ex.Rl_int.2 rfl, Ex.Rl_bool.2 rfl, Ex.Rl_bool.2 rfl, Ex.Rl_int.2 rfl, Ex.Rl_int.2 rfl, Ex.Rl_slice.2 ⟨(b0, 0), rfl, rfl⟩, trivial⟩⟩, Ex.Rl_int.2 rfl, Ex.Rl_int.2 rfl, trivial⟩ (of_decide_eq_true (by kernel_rfl)) (Ex.mod_one g6_0 fun ρ => g7_0 ρ _ fun _ _ h => h) Ex.ro_one (fun id hid => if_neg (by omega)) (Ex.ipfinds_1 (fun i V h => List.all_eq_true.1 g1_0 V (List.mem_of_getElem? h)) x0_0 x0_1 x0_2 x0_3 x0_4 x0_5 x0_6 x0_7 a1 a2 cs0 off0 l0_8 m0_8 (u32_range u0_6).1 (u32_range u0_6).2 (u32_range u0_7).1 (u32_range u0_7).2 (i64_range w1).1 (i64_range w1).2 (u8_range w2).1 (u8_range w2).2 hl0 g3_0 g4_0 (by rw [g2_0]; exact Ex.Byt.vals fun x hx => hw0 x (List.mem_of_mem_take hx)))

/-- The door's own heap meets the condition. -/
theorem door_met (os : Os) (args : Array Value) : laidMetH Tryd.prog laidL ((World.doorLaid Tryd.prog 400 os).forCall (fun _ _ => 0) ⟨#[], args, []⟩).memory :=
  laidMetH_of_parts3 (fuel := 8) (laidMet_of_run' 8 (by kernel_rfl) (by kernel_rfl)) (by kernel_rfl) (by kernel_rfl)

set_option maxRecDepth 100000 in
theorem lifted (os : Os) (started : os.Started) (H : Type) (enc : TypeId × Value → H) :
    ReturnsInHanded {} Tryd.checked os 8 .any (fun w args => (Rows.ipFindsSpec.pre enc Tryd.prog Tryd.f8 [] false w args ∧ laidMetH Tryd.prog laidL w) ∧ sizedMet enc Tryd.prog Tryd.f8 (OpenSpec.ofChange Rows.ipFindsSpec) false w args) (Rows.ipFindsSpec.post enc Tryd.prog Tryd.f8 false true false false) := by
  refine returnsInHanded_of_change_and (C := Tryd.checked) (X := fun w _ => laidMetH Tryd.prog laidL w) (fun _ _ _ hh h => h.of_heap hh) own started (by kernel_rfl) Tryd.func8
    (ChangeSpec.witness_shaped (enc := enc) (C := Tryd.checked) (os := os) (X := fun w _ => laidMetH Tryd.prog laidL w) false (World.doorLaid Tryd.prog 400 os) #[.agg #[.int .i64 0, .int .i64 0, .int .i64 0, .int .i64 0, .bool false, .bool false, .int .u32 0, .int .u32 0, .slice none 0 0], .int .i64 0, .int .u8 0] 8 rfl (World.shaped_of_RefB (by kernel_rfl) (by kernel_rfl)) (by kernel_rfl) (by kernel_rfl) (by kernel_rfl) (door_met os _)) ?_
  intro W base args ds gs before hval0 hW _ _ hL _
  have hval : ∀ (j : Nat) t v, Tryd.f8.params[j]? = some t → args[j]? = some v → Value.okWide Tryd.prog W .any base t v := hval0
  have hW' := hW
  obtain ⟨p, q, hA0, hV, rfl, hfz, hnd⟩ := hW
  have hA : DataW.TrodAll enc Tryd.prog W 0 (fun _ => true) true Tryd.f8.params.toList args.toList ds p := hA0
  rw [Tryd.params8] at hA hval
  obtain ⟨v0, vs0, d0, ds0, p0, q0, hargs, rfl, rfl, h0, r0⟩ := trodAll_cons hA
  obtain ⟨v1, vs1, d1, ds1, p1, q1, rfl, rfl, rfl, h1, r1⟩ := trodAll_cons r0
  obtain ⟨v2, vs2, d2, ds2, p2, q2, rfl, rfl, rfl, h2, r2⟩ := trodAll_cons r1
  obtain ⟨rfl, rfl, rfl⟩ := trodAll_nil r2
  obtain rfl : args = #[v0, v1, v2] := by cases args; simp_all
  obtain ⟨rfl, rfl⟩ := trodVars_none hV
  have k0 := h0
  have lt0 : ∀ x ∈ p0, x.block < W.heap.size := by obtain ⟨m, hm⟩ := k0; exact DataW.trod_lt m _ _ _ hm
  obtain ⟨a1, rfl, rfl, rfl, w1⟩ := open_int Tryd.underlying3 (hval 1 3 v1 rfl rfl) h1
  obtain ⟨a2, rfl, rfl, rfl, w2⟩ := open_int Tryd.underlying5 (hval 2 5 v2 rfl rfl) h2
  clear hA0 hval0
  refine (walk v0 _ _ a1 a2 W (hval 0 26 v0 rfl rfl) h0 w1 w2 hL).mono fun e W' ⟨he, bel⟩ => ?_
  subst he
  exact ⟨_, rfl, _, _, _, [], _, [], hW', trodAll_mk1 (shut_bool Tryd.underlying4 _), (trodAll_cons_mk (Below.trod laidOut (by kernel_rfl) (of_decide_eq_true (by kernel_rfl)) k0 bel lt0) (trodAll_cons_mk (shut_int Tryd.underlying3 w1) (trodAll_cons_mk (shut_int Tryd.underlying5 w2) trodAll_mk0))), rfl, bel.frame _, fun h => by cases h⟩

theorem over : Rows.ipFindsRow.holds Tryd.pinned (OpenSpec.ofChange Rows.ipFindsSpec) :=
  OpenClaim.holds_of_wide 8 Tryd.f8 rfl rfl rfl rfl rfl rfl rfl ⟨rfl, rfl, rfl, rfl, rfl⟩ rfl rfl rfl rfl rfl (by kernel_rfl) Tryd.func8 (by kernel_rfl)
    (of_decide_eq_true (by kernel_rfl)) (by unfold Func.isWrapper; first | (rw [if_pos (by decide +kernel)]; kernel_rfl) | (rw [if_neg (by decide +kernel)]; exact ⟨rfl, rfl⟩))
    (fun os started H enc _ => lifted os started H enc)

/-- The statement: the card. -/
theorem proved : Rows.IpFindsCardSaid :=
  Claim7.holds_tied_plain_at .later [] [.data, .data, .data] true (true, "70a9e2552e6d8e5221739d492f45cf2943486b5dfdd2ca2245d9d1a49c557071") false
    over (fun _ h => by cases h) (by kernel_rfl) (fun _ h => by cases h) ipFinds_row_tie rfl ⟨rfl, rfl⟩ (by kernel_rfl) rfl
    (fun f fn hf hfn => by
      obtain rfl : f = 8 := Option.some.inj ((show Tryd.prog.funcNamed Tryd.f8.name = some 8 by kernel_rfl).symm.trans hf) |>.symm
      obtain rfl : fn = Tryd.f8 := (Option.some.inj (Tryd.func8.symm.trans hfn)).symm
      exact ⟨by kernel_rfl, fun j t ht => by
        rw [Tryd.params8] at ht
        have hm : t ∈ ([3, 5, 26] : List Nat) := by have := Array.mem_of_getElem? ht; simp at this ⊢; first | omega | (rcases this with h | h | h | h <;> simp [h]) | (rcases this with h | h | h <;> simp [h]) | (rcases this with h | h <;> simp [h]) | simp [this]
        have hall : (([3, 5, 26] : List Nat).all fun u => !Tryd.prog.wantsStandIn u) = true := by kernel_rfl
        exact (show Tryd.prog.wantsStandIn t = false by simpa using List.all_eq_true.1 hall t hm)⟩)
    (by kernel_rfl)
#print axioms proved
end Go.Proofs.YtnlinnjpkjmpaaaDoor.ipFinds
