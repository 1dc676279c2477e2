/- Proved: for every segment and any two addresses SegBack returns true, and its bytes are read afterwards as before. No conditions but that the listed variable holds what its initialiser lays. -/
import Derived.Test.YtefnfbidphmgoaaDoorRows
import Derived.WalkKit
import Derived.ProofKit
import Derived.OpenShut
import Derived.ShutString
import Derived.ChangeOld
import Derived.Below
import Derived.LaidMore
import Derived.Stop.Joined
import Derived.SevenTiedAt
import Derived.Test.YtefnfbidphmgoaaDoorTie
import Derived.Test.YtefnfbidphmgoaaDoorCards
import Derived.Test.YtefnfbidphmgoaaDoorSegBack
import Derived.Test.YtefnfbidphmgoaaDoorOpen
namespace Go.Proofs.YtefnfbidphmgoaaDoor.segBack
open Go.ChangeShapes Go.WideShapes Go.ChangeAt Go.RowKit
open Go.ChangeMaps (open_string shut_string)
set_option linter.unusedVariables false
set_option linter.unusedSimpArgs false

theorem own : ownKnob Tryd.prog.godebug = none := by kernel_rfl
/-- What the listed variables hold. -/
def laidL {H : Type} : List (String × DataW H) := [("pointsman/seg.letters", Rows.laid_pointsman_seg_letters)]
theorem laidOut : laidOutB Tryd.prog = true := by kernel_rfl

theorem letB {w : World} (h : laidMetH Tryd.prog laidL w) : Ex.LetB (Ex.baseOf w) := by
  rw [MakeChecks.laidMetH_plain _ _ _ (by kernel_rfl)] at h
  obtain ⟨ps, ⟨g0, t0, cs0, f0, p0, q0, hg0, ht0, hv0, hd0, _, _⟩, _, _⟩ := h
  obtain rfl := Option.some.inj ((show Tryd.prog.globalNamed "pointsman/seg.letters" = some 0 by kernel_rfl).symm.trans hg0)
  obtain rfl := Option.some.inj ((show (Tryd.prog.globals[0]?).map (·.type) = some 73 by kernel_rfl).symm.trans ht0)
  have hcs := Lib.cells_of_tab (zs := [70, 83, 82, 80, 65, 85]) Tryd.underlying73 Tryd.underlying5 (by kernel_rfl) (by kernel_rfl) hd0
  have hc : cs0 = #[.int .u8 70, .int .u8 83, .int .u8 82, .int .u8 80, .int .u8 65, .int .u8 85] := by
    apply Array.ext'
    rw [hcs]; rfl
  have hv : w.var? Tryd.prog "pointsman/seg.letters" = some cs0 := hv0
  unfold World.var? at hv
  rw [show Tryd.prog.globalNamed "pointsman/seg.letters" = some 0 by kernel_rfl] at hv
  simp only [Option.bind_some] at hv
  split at hv
  · rename_i cs el fr hh
    cases hv
    exact ⟨(Array.getElem?_eq_some_iff.1 hh).1, el, fr, by rw [← hc]; exact hh⟩
  · cases hv

set_option maxRecDepth 100000 in
theorem walk {H : Type} {enc : TypeId × Value → H} {base : Nat} (a0 : Int) (a1 : Int) (v2 : Value) (d2 : DataW H) (p2 : List MemPlace) (w : World) (w0 : (Lit.int .u32 a0).wf = true) (w1 : (Lit.int .u32 a1).wf = true) (ok2 : Value.okWide Tryd.prog w .any base 26 v2) (h2 : DataW.Trod enc Tryd.prog w 0 (fun _ => true) true 26 v2 d2 p2) (hL : laidMetH Tryd.prog laidL w) :
    Calls Tryd.prog 5 #[.int .u32 a0, .int .u32 a1, v2] w fun e w' => e = .returned (.bool true) ∧ Below w.heap.size w w' := by
  obtain ⟨fs2, fn2, rfl, fz2, ff2⟩ := open_fields Tryd.underlying26 (by kernel_rfl) ok2 h2
  obtain ⟨c2_0, c2_1, c2_2, c2_3, c2_4, c2_5, c2_6, c2_7, c2_8, rfl⟩ := array9 (fz2.trans (by kernel_rfl))
  obtain ⟨y2_0, t2_0⟩ := ff2 0 _ _ rfl rfl
  obtain ⟨x2_0, e2_0, _, u2_0⟩ := DataW.trod_int Tryd.underlying3 t2_0
  simp at e2_0
  subst e2_0
  obtain ⟨y2_1, t2_1⟩ := ff2 1 _ _ rfl rfl
  obtain ⟨x2_1, e2_1, _, u2_1⟩ := DataW.trod_int Tryd.underlying3 t2_1
  simp at e2_1
  subst e2_1
  obtain ⟨y2_2, t2_2⟩ := ff2 2 _ _ rfl rfl
  obtain ⟨x2_2, e2_2, _, u2_2⟩ := DataW.trod_int Tryd.underlying22 t2_2
  simp at e2_2
  subst e2_2
  obtain ⟨y2_3, t2_3⟩ := ff2 3 _ _ rfl rfl
  obtain ⟨x2_3, e2_3, _, u2_3⟩ := DataW.trod_int Tryd.underlying22 t2_3
  simp at e2_3
  subst e2_3
  obtain ⟨y2_4, t2_4⟩ := ff2 4 _ _ rfl rfl
  obtain ⟨x2_4, e2_4, _, u2_4⟩ := DataW.trod_int Tryd.underlying3 t2_4
  simp at e2_4
  subst e2_4
  obtain ⟨y2_5, t2_5⟩ := ff2 5 _ _ rfl rfl
  obtain ⟨x2_5, e2_5, _, u2_5⟩ := DataW.trod_int Tryd.underlying3 t2_5
  simp at e2_5
  subst e2_5
  obtain ⟨y2_6, t2_6⟩ := ff2 6 _ _ rfl rfl
  obtain ⟨x2_6, e2_6, _, u2_6⟩ := DataW.trod_int Tryd.underlying3 t2_6
  simp at e2_6
  subst e2_6
  obtain ⟨y2_7, t2_7⟩ := ff2 7 _ _ rfl rfl
  obtain ⟨x2_7, e2_7, _, u2_7⟩ := DataW.trod_int Tryd.underlying3 t2_7
  simp at e2_7
  subst e2_7
  obtain ⟨y2_8, t2_8⟩ := ff2 8 _ _ rfl rfl
  have k2_8 := field_ok Tryd.underlying26 ok2 (ts := [3, 3, 22, 22, 3, 3, 3, 3, 24]) (by kernel_rfl) 8 _ rfl rfl Tryd.underlying24
  obtain ⟨a2_8, l2_8, m2_8, z2_8, rfl, w2_8⟩ := row_of Tryd.underlying24 Tryd.underlying5 (by kernel_rfl) t2_8
  rcases w2_8 with ⟨rfl, rfl, rfl, rfl⟩ | ⟨q0, rfl, hl0, hm0, hz0, hc0, hw0⟩
  · exact Ex.law_of_leads (ε := fun _ => none) (ρ := fun _ => none) (h := []) (m := 0) (fn := Tryd.f5) (c := Ex.bodyOf 5) (by kernel_rfl) (by kernel_rfl) (args := [.int .u32 a0, .int .u32 a1, .agg #[.int .i64 x2_0, .int .i64 x2_1, .int .u32 x2_2, .int .u32 x2_3, .int .i64 x2_4, .int .i64 x2_5, .int .i64 x2_6, .int .i64 x2_7, .slice none 0 0]]) (ARGS := [.int .u32 a0, .int .u32 a1, .agg #[.int .i64 x2_0, .int .i64 x2_1, .int .u32 x2_2, .int .u32 x2_3, .int .i64 x2_4, .int .i64 x2_5, .int .i64 x2_6, .int .i64 x2_7, .slice none 0 0]]) ⟨Ex.Rl_int.2 rfl, Ex.Rl_int.2 rfl, Ex.Rl_agg.2 ⟨[.int .i64 x2_0, .int .i64 x2_1, .int .u32 x2_2, .int .u32 x2_3, .int .i64 x2_4, .int .i64 x2_5, .int .i64 x2_6, .int .i64 x2_7, .slice none 0 0], rfl, ⟨Ex.Rl_int.2 rfl, Ex.Rl_int.2 rfl, Ex.Rl_int.2 rfl, Ex.Rl_int.2 rfl, Ex.Rl_int.2 rfl, Ex.Rl_int.2 rfl, Ex.Rl_int.2 rfl, Ex.Rl_int.2 rfl, (Ex.Rl_self rfl).2 rfl, trivial⟩⟩, trivial⟩ (of_decide_eq_true (by kernel_rfl)) Ex.mod_nil (fun id o e => by rw [Ex.tget_nil] at e; cases e) (fun _ _ => rfl) (Ex.sback_0 (letB hL) (fun _ _ h => by cases h) a0 a1 x2_0 x2_1 x2_2 x2_3 x2_4 x2_5 x2_6 x2_7  (u32_range w0).1 (u32_range w0).2 (u32_range w1).1 (u32_range w1).2 (u32_range u2_2).1 (u32_range u2_2).2 (u32_range u2_3).1 (u32_range u2_3).2 )
  · obtain ⟨cs0, A0, b0, off0, rfl, g1_0, g2_0, g3_0, g4_0, g6_0, g7_0⟩ := Ex.rowS [] rfl k2_8 Tryd.underlying24 hl0 hz0 hc0
    exact Ex.law_of_leads (ε := fun i => ([] ++ A0)[i]?) (ρ := Ex.rho1 b0) (h := Ex.tput [] 0 (some (Ex.roRow cs0))) (m := 1) (fn := Tryd.f5) (c := Ex.bodyOf 5) (by kernel_rfl) (by kernel_rfl) (args := [.int .u32 a0, .int .u32 a1, .agg #[.int .i64 x2_0, .int .i64 x2_1, .int .u32 x2_2, .int .u32 x2_3, .int .i64 x2_4, .int .i64 x2_5, .int .i64 x2_6, .int .i64 x2_7, .slice (some ⟨0, off0, none⟩) l2_8 m2_8]]) (ARGS := [.int .u32 a0, .int .u32 a1, .agg #[.int .i64 x2_0, .int .i64 x2_1, .int .u32 x2_2, .int .u32 x2_3, .int .i64 x2_4, .int .i64 x2_5, .int .i64 x2_6, .int .i64 x2_7, .slice (some ⟨b0, off0, none⟩) l2_8 m2_8]]) ⟨Ex.Rl_int.2 rfl, Ex.Rl_int.2 rfl, Ex.Rl_agg.2 ⟨[.int .i64 x2_0, .int .i64 x2_1, .int .u32 x2_2, .int .u32 x2_3, .int .i64 x2_4, .int .i64 x2_5, .int .i64 x2_6, .int .i64 x2_7, .slice (some ⟨b0, off0, none⟩) l2_8 m2_8], rfl, ⟨Ex.Rl_int.2 rfl, Ex.Rl_int.2 rfl, Ex.Rl_int.2 rfl, Ex.Rl_int.2 rfl, Ex.Rl_int.2 rfl, Ex.Rl_int.2 rfl, Ex.Rl_int.2 rfl, Ex.Rl_int.2 rfl, Ex.Rl_slice.2 ⟨(b0, 0), rfl, rfl⟩, trivial⟩⟩, trivial⟩ (of_decide_eq_true (by kernel_rfl)) (Ex.mod_one g6_0 fun ρ => g7_0 ρ _ fun _ _ h => h) Ex.ro_one (fun id hid => if_neg (by omega)) (Ex.sback_1 (letB hL) (fun i V h => List.all_eq_true.1 g1_0 V (List.mem_of_getElem? h)) a0 a1 x2_0 x2_1 x2_2 x2_3 x2_4 x2_5 x2_6 x2_7 cs0 off0 l2_8 m2_8 (u32_range w0).1 (u32_range w0).2 (u32_range w1).1 (u32_range w1).2 (u32_range u2_2).1 (u32_range u2_2).2 (u32_range u2_3).1 (u32_range u2_3).2 hl0 g3_0 g4_0 (by rw [g2_0]; exact Ex.Byt.vals fun x hx => hw0 x (List.mem_of_mem_take hx)))

/-- The door's own heap meets the condition. -/
theorem door_met (os : Os) (args : Array Value) : laidMetH Tryd.prog laidL ((World.doorLaid Tryd.prog 400 os).forCall (fun _ _ => 0) ⟨#[], args, []⟩).memory :=
  laidMetH_of_parts3 (fuel := 8) (laidMet_of_run' 8 (by kernel_rfl) (by kernel_rfl)) (by kernel_rfl) (by kernel_rfl)

set_option maxRecDepth 100000 in
theorem lifted (os : Os) (started : os.Started) (H : Type) (enc : TypeId × Value → H) :
    ReturnsInHanded {} Tryd.checked os 5 .any (fun w args => (Rows.segBackSpec.pre enc Tryd.prog Tryd.f5 [] false w args ∧ laidMetH Tryd.prog laidL w) ∧ sizedMet enc Tryd.prog Tryd.f5 (OpenSpec.ofChange Rows.segBackSpec) false w args) (Rows.segBackSpec.post enc Tryd.prog Tryd.f5 false true false false) := by
  refine returnsInHanded_of_change_and (C := Tryd.checked) (X := fun w _ => laidMetH Tryd.prog laidL w) (fun _ _ _ hh h => h.of_heap hh) own started (by kernel_rfl) Tryd.func5
    (ChangeSpec.witness_shaped (enc := enc) (C := Tryd.checked) (os := os) (X := fun w _ => laidMetH Tryd.prog laidL w) false (World.doorLaid Tryd.prog 400 os) #[.int .u32 0, .int .u32 0, .agg #[.int .i64 0, .int .i64 0, .int .u32 0, .int .u32 0, .int .i64 0, .int .i64 0, .int .i64 0, .int .i64 0, .slice none 0 0]] 8 rfl (World.shaped_of_RefB (by kernel_rfl) (by kernel_rfl)) (by kernel_rfl) (by kernel_rfl) (by kernel_rfl) (door_met os _)) ?_
  intro W base args ds gs before hval0 hW _ _ hL _
  have hval : ∀ (j : Nat) t v, Tryd.f5.params[j]? = some t → args[j]? = some v → Value.okWide Tryd.prog W .any base t v := hval0
  have hW' := hW
  obtain ⟨p, q, hA0, hV, rfl, hfz, hnd⟩ := hW
  have hA : DataW.TrodAll enc Tryd.prog W 0 (fun _ => true) true Tryd.f5.params.toList args.toList ds p := hA0
  rw [Tryd.params5] at hA hval
  obtain ⟨v0, vs0, d0, ds0, p0, q0, hargs, rfl, rfl, h0, r0⟩ := trodAll_cons hA
  obtain ⟨v1, vs1, d1, ds1, p1, q1, rfl, rfl, rfl, h1, r1⟩ := trodAll_cons r0
  obtain ⟨v2, vs2, d2, ds2, p2, q2, rfl, rfl, rfl, h2, r2⟩ := trodAll_cons r1
  obtain ⟨rfl, rfl, rfl⟩ := trodAll_nil r2
  obtain rfl : args = #[v0, v1, v2] := by cases args; simp_all
  obtain ⟨rfl, rfl⟩ := trodVars_none hV
  obtain ⟨a0, rfl, rfl, rfl, w0⟩ := open_int Tryd.underlying23 (hval 0 23 v0 rfl rfl) h0
  obtain ⟨a1, rfl, rfl, rfl, w1⟩ := open_int Tryd.underlying23 (hval 1 23 v1 rfl rfl) h1
  have k2 := h2
  have lt2 : ∀ x ∈ p2, x.block < W.heap.size := by obtain ⟨m, hm⟩ := k2; exact DataW.trod_lt m _ _ _ hm
  clear hA0 hval0
  refine (walk a0 a1 v2 _ _ W w0 w1 (hval 2 26 v2 rfl rfl) h2 hL).mono fun e W' ⟨he, bel⟩ => ?_
  subst he
  exact ⟨_, rfl, _, _, _, [], _, [], hW', trodAll_mk1 (shut_bool Tryd.underlying4 _), (trodAll_cons_mk (shut_int Tryd.underlying23 w0) (trodAll_cons_mk (shut_int Tryd.underlying23 w1) (trodAll_cons_mk (Below.trod laidOut (by kernel_rfl) (of_decide_eq_true (by kernel_rfl)) k2 bel lt2) trodAll_mk0))), rfl, bel.frame _, fun h => by cases h⟩

theorem over : Rows.segBackRow.holds Tryd.pinned (OpenSpec.ofChange Rows.segBackSpec) :=
  OpenClaim.holds_of_wide 5 Tryd.f5 rfl rfl rfl rfl rfl rfl rfl ⟨rfl, rfl, rfl, rfl, rfl⟩ rfl rfl rfl rfl rfl (by kernel_rfl) Tryd.func5 (by kernel_rfl)
    (of_decide_eq_true (by kernel_rfl)) (by unfold Func.isWrapper; first | (rw [if_pos (by decide +kernel)]; kernel_rfl) | (rw [if_neg (by decide +kernel)]; exact ⟨rfl, rfl⟩))
    (fun os started H enc _ => lifted os started H enc)

/-- The statement: the card. -/
theorem proved : Rows.SegBackCardSaid :=
  Claim7.holds_tied_plain_at .later [] [.data] true (true, "419fd009a024e9ea7360d1442b172239bd4cb00721931e04fa40086a581d0e2f") false
    over (fun _ h => by cases h) (by kernel_rfl) (fun _ h => by cases h) segBack_row_tie rfl ⟨rfl, rfl⟩ (by kernel_rfl) rfl
    (fun f fn hf hfn => by
      obtain rfl : f = 5 := Option.some.inj ((show Tryd.prog.funcNamed Tryd.f5.name = some 5 by kernel_rfl).symm.trans hf) |>.symm
      obtain rfl : fn = Tryd.f5 := (Option.some.inj (Tryd.func5.symm.trans hfn)).symm
      exact ⟨by kernel_rfl, fun j t ht => by
        rw [Tryd.params5] at ht
        have hm : t ∈ ([23, 26] : List Nat) := by have := Array.mem_of_getElem? ht; simp at this ⊢; first | omega | (rcases this with h | h | h | h <;> simp [h]) | (rcases this with h | h | h <;> simp [h]) | (rcases this with h | h <;> simp [h]) | simp [this]
        have hall : (([23, 26] : List Nat).all fun u => !Tryd.prog.wantsStandIn u) = true := by kernel_rfl
        exact (show Tryd.prog.wantsStandIn t = false by simpa using List.all_eq_true.1 hall t hm)⟩)
    (by kernel_rfl)
#print axioms proved
end Go.Proofs.YtefnfbidphmgoaaDoor.segBack
