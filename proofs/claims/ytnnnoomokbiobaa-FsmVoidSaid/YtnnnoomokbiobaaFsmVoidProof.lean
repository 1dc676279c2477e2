/- Proved: for every event FsmVoid returns true, and its bytes are read afterwards as before. No conditions. -/
import Derived.Test.YtnnnoomokbiobaaRows
import Derived.WalkKit
import Derived.ProofKit
import Derived.OpenShut
import Derived.ShutString
import Derived.ChangeOld
import Derived.Below
import Derived.Test.YtnnnoomokbiobaaFsmVoid
import Derived.Test.YtnnnoomokbiobaaOpen
namespace Go.Proofs.Ytnnnoomokbiobaa.fsmVoid
open Go.ChangeShapes Go.WideShapes Go.ChangeAt Go.RowKit
open Go.ChangeMaps (open_string shut_string)
set_option linter.unusedVariables false
set_option linter.unusedSimpArgs false

theorem own : ownKnob Try.prog.godebug = none := by kernel_rfl
theorem laidOut : laidOutB Try.prog = true := by kernel_rfl

set_option maxRecDepth 100000 in
theorem walk {H : Type} {enc : TypeId × Value → H} {base : Nat} (v0 : Value) (d0 : DataW H) (p0 : List MemPlace) (w : World) (ok0 : Value.okWide Try.prog w .any base 36 v0) (h0 : DataW.Trod enc Try.prog w 0 (fun _ => true) true 36 v0 d0 p0) :
    Calls Try.prog 5 #[v0] w fun e w' => e = .returned (.bool true) ∧ Below w.heap.size w w' := by
  obtain ⟨fs0, rfl, fz0⟩ := okWide_struct Try.underlying36 ok0
  obtain ⟨fu0, t0_⟩ := h0
  obtain ⟨c0_0, c0_1, c0_2, c0_3, c0_4, c0_5, c0_6, c0_7, c0_8, rfl⟩ := array9 (fz0.trans (by kernel_rfl))
  change DataW.trod enc Try.prog w 0 (fun _ => true) true fu0 36 [c0_0, c0_1, c0_2, c0_3, c0_4, c0_5, c0_6, c0_7, c0_8] = some _ at t0_
  obtain ⟨xs0_0, nn0_0, _, _, _, hx0_0, hf0_0⟩ := DataW.trod_struct Try.underlying36 t0_
  have hx0_0' : xs0_0.length = 6 := hx0_0
  have gg0_0 : ∀ j, j < 6 → ∃ y, xs0_0[j]? = some y := fun j hj => ⟨xs0_0[j]'(by omega), List.getElem?_eq_getElem (by omega)⟩
  obtain ⟨yyt0_0_0, eet0_0_0⟩ := gg0_0 0 (by omega)
  have t0_0_0 : DataW.trod enc Try.prog w 0 (fun _ => true) true nn0_0 3 ((([c0_0, c0_1, c0_2, c0_3, c0_4, c0_5, c0_6, c0_7, c0_8] : List Value).drop 0).take (Try.prog.cellsOf 3)) = some yyt0_0_0 := (hf0_0 0 _ rfl).trans eet0_0_0
  rw [show Try.prog.cellsOf 3 = 1 from by kernel_rfl] at t0_0_0
  change DataW.trod enc Try.prog w 0 (fun _ => true) true nn0_0 3 [c0_0] = some yyt0_0_0 at t0_0_0
  obtain ⟨yyt0_0_1, eet0_0_1⟩ := gg0_0 1 (by omega)
  have t0_0_1 : DataW.trod enc Try.prog w 0 (fun _ => true) true nn0_0 3 ((([c0_0, c0_1, c0_2, c0_3, c0_4, c0_5, c0_6, c0_7, c0_8] : List Value).drop 1).take (Try.prog.cellsOf 3)) = some yyt0_0_1 := (hf0_0 1 _ rfl).trans eet0_0_1
  rw [show Try.prog.cellsOf 3 = 1 from by kernel_rfl] at t0_0_1
  change DataW.trod enc Try.prog w 0 (fun _ => true) true nn0_0 3 [c0_1] = some yyt0_0_1 at t0_0_1
  obtain ⟨yyt0_0_2, eet0_0_2⟩ := gg0_0 2 (by omega)
  have t0_0_2 : DataW.trod enc Try.prog w 0 (fun _ => true) true nn0_0 3 ((([c0_0, c0_1, c0_2, c0_3, c0_4, c0_5, c0_6, c0_7, c0_8] : List Value).drop 2).take (Try.prog.cellsOf 3)) = some yyt0_0_2 := (hf0_0 2 _ rfl).trans eet0_0_2
  rw [show Try.prog.cellsOf 3 = 1 from by kernel_rfl] at t0_0_2
  change DataW.trod enc Try.prog w 0 (fun _ => true) true nn0_0 3 [c0_2] = some yyt0_0_2 at t0_0_2
  obtain ⟨yyt0_0_3, eet0_0_3⟩ := gg0_0 3 (by omega)
  have t0_0_3 : DataW.trod enc Try.prog w 0 (fun _ => true) true nn0_0 3 ((([c0_0, c0_1, c0_2, c0_3, c0_4, c0_5, c0_6, c0_7, c0_8] : List Value).drop 3).take (Try.prog.cellsOf 3)) = some yyt0_0_3 := (hf0_0 3 _ rfl).trans eet0_0_3
  rw [show Try.prog.cellsOf 3 = 1 from by kernel_rfl] at t0_0_3
  change DataW.trod enc Try.prog w 0 (fun _ => true) true nn0_0 3 [c0_3] = some yyt0_0_3 at t0_0_3
  obtain ⟨yyt0_0_4, eet0_0_4⟩ := gg0_0 4 (by omega)
  have t0_0_4 : DataW.trod enc Try.prog w 0 (fun _ => true) true nn0_0 32 ((([c0_0, c0_1, c0_2, c0_3, c0_4, c0_5, c0_6, c0_7, c0_8] : List Value).drop 4).take (Try.prog.cellsOf 32)) = some yyt0_0_4 := (hf0_0 4 _ rfl).trans eet0_0_4
  rw [show Try.prog.cellsOf 32 = 2 from by kernel_rfl] at t0_0_4
  change DataW.trod enc Try.prog w 0 (fun _ => true) true nn0_0 32 [c0_4, c0_5] = some yyt0_0_4 at t0_0_4
  obtain ⟨xs0_1, nn0_1, _, _, _, hx0_1, hf0_1⟩ := DataW.trod_struct Try.underlying32 t0_0_4
  have hx0_1' : xs0_1.length = 2 := hx0_1
  have gg0_1 : ∀ j, j < 2 → ∃ y, xs0_1[j]? = some y := fun j hj => ⟨xs0_1[j]'(by omega), List.getElem?_eq_getElem (by omega)⟩
  obtain ⟨yyt0_1_0, eet0_1_0⟩ := gg0_1 0 (by omega)
  have t0_1_0 : DataW.trod enc Try.prog w 0 (fun _ => true) true nn0_1 3 ((([c0_4, c0_5] : List Value).drop 0).take (Try.prog.cellsOf 3)) = some yyt0_1_0 := (hf0_1 0 _ rfl).trans eet0_1_0
  rw [show Try.prog.cellsOf 3 = 1 from by kernel_rfl] at t0_1_0
  change DataW.trod enc Try.prog w 0 (fun _ => true) true nn0_1 3 [c0_4] = some yyt0_1_0 at t0_1_0
  obtain ⟨yyt0_1_1, eet0_1_1⟩ := gg0_1 1 (by omega)
  have t0_1_1 : DataW.trod enc Try.prog w 0 (fun _ => true) true nn0_1 30 ((([c0_4, c0_5] : List Value).drop 1).take (Try.prog.cellsOf 30)) = some yyt0_1_1 := (hf0_1 1 _ rfl).trans eet0_1_1
  rw [show Try.prog.cellsOf 30 = 1 from by kernel_rfl] at t0_1_1
  change DataW.trod enc Try.prog w 0 (fun _ => true) true nn0_1 30 [c0_5] = some yyt0_1_1 at t0_1_1
  obtain ⟨yyt0_0_5, eet0_0_5⟩ := gg0_0 5 (by omega)
  have t0_0_5 : DataW.trod enc Try.prog w 0 (fun _ => true) true nn0_0 34 ((([c0_0, c0_1, c0_2, c0_3, c0_4, c0_5, c0_6, c0_7, c0_8] : List Value).drop 6).take (Try.prog.cellsOf 34)) = some yyt0_0_5 := (hf0_0 5 _ rfl).trans eet0_0_5
  rw [show Try.prog.cellsOf 34 = 3 from by kernel_rfl] at t0_0_5
  change DataW.trod enc Try.prog w 0 (fun _ => true) true nn0_0 34 [c0_6, c0_7, c0_8] = some yyt0_0_5 at t0_0_5
  obtain ⟨xs0_2, nn0_2, _, _, _, hx0_2, hf0_2⟩ := DataW.trod_struct Try.underlying34 t0_0_5
  have hx0_2' : xs0_2.length = 3 := hx0_2
  have gg0_2 : ∀ j, j < 3 → ∃ y, xs0_2[j]? = some y := fun j hj => ⟨xs0_2[j]'(by omega), List.getElem?_eq_getElem (by omega)⟩
  obtain ⟨yyt0_2_0, eet0_2_0⟩ := gg0_2 0 (by omega)
  have t0_2_0 : DataW.trod enc Try.prog w 0 (fun _ => true) true nn0_2 3 ((([c0_6, c0_7, c0_8] : List Value).drop 0).take (Try.prog.cellsOf 3)) = some yyt0_2_0 := (hf0_2 0 _ rfl).trans eet0_2_0
  rw [show Try.prog.cellsOf 3 = 1 from by kernel_rfl] at t0_2_0
  change DataW.trod enc Try.prog w 0 (fun _ => true) true nn0_2 3 [c0_6] = some yyt0_2_0 at t0_2_0
  obtain ⟨yyt0_2_1, eet0_2_1⟩ := gg0_2 1 (by omega)
  have t0_2_1 : DataW.trod enc Try.prog w 0 (fun _ => true) true nn0_2 3 ((([c0_6, c0_7, c0_8] : List Value).drop 1).take (Try.prog.cellsOf 3)) = some yyt0_2_1 := (hf0_2 1 _ rfl).trans eet0_2_1
  rw [show Try.prog.cellsOf 3 = 1 from by kernel_rfl] at t0_2_1
  change DataW.trod enc Try.prog w 0 (fun _ => true) true nn0_2 3 [c0_7] = some yyt0_2_1 at t0_2_1
  obtain ⟨yyt0_2_2, eet0_2_2⟩ := gg0_2 2 (by omega)
  have t0_2_2 : DataW.trod enc Try.prog w 0 (fun _ => true) true nn0_2 30 ((([c0_6, c0_7, c0_8] : List Value).drop 2).take (Try.prog.cellsOf 30)) = some yyt0_2_2 := (hf0_2 2 _ rfl).trans eet0_2_2
  rw [show Try.prog.cellsOf 30 = 1 from by kernel_rfl] at t0_2_2
  change DataW.trod enc Try.prog w 0 (fun _ => true) true nn0_2 30 [c0_8] = some yyt0_2_2 at t0_2_2
  obtain ⟨x0_0, e0_0, _, u0_0⟩ := DataW.trod_int Try.underlying3 t0_0_0
  simp at e0_0
  subst e0_0
  obtain ⟨x0_1, e0_1, _, u0_1⟩ := DataW.trod_int Try.underlying3 t0_0_1
  simp at e0_1
  subst e0_1
  obtain ⟨x0_2, e0_2, _, u0_2⟩ := DataW.trod_int Try.underlying3 t0_0_2
  simp at e0_2
  subst e0_2
  obtain ⟨x0_3, e0_3, _, u0_3⟩ := DataW.trod_int Try.underlying3 t0_0_3
  simp at e0_3
  subst e0_3
  obtain ⟨x0_4, e0_4, _, u0_4⟩ := DataW.trod_int Try.underlying3 t0_1_0
  simp at e0_4
  subst e0_4
  have k0_5 := field_ok Try.underlying36 ok0 (ts := [3, 3, 3, 3, 3, 30, 3, 3, 30]) (by kernel_rfl) 5 _ rfl rfl Try.underlying30
  obtain ⟨a0_5, l0_5, m0_5, z0_5, rfl, w0_5⟩ := row_of Try.underlying30 Try.underlying5 (by kernel_rfl) t0_1_1
  obtain ⟨x0_6, e0_6, _, u0_6⟩ := DataW.trod_int Try.underlying3 t0_2_0
  simp at e0_6
  subst e0_6
  obtain ⟨x0_7, e0_7, _, u0_7⟩ := DataW.trod_int Try.underlying3 t0_2_1
  simp at e0_7
  subst e0_7
  have k0_8 := field_ok Try.underlying36 ok0 (ts := [3, 3, 3, 3, 3, 30, 3, 3, 30]) (by kernel_rfl) 8 _ rfl rfl Try.underlying30
  obtain ⟨a0_8, l0_8, m0_8, z0_8, rfl, w0_8⟩ := row_of Try.underlying30 Try.underlying5 (by kernel_rfl) t0_2_2
  rcases w0_5 with ⟨rfl, rfl, rfl, rfl⟩ | ⟨q0, rfl, hl0, hm0, hz0, hc0, hw0⟩ <;> rcases w0_8 with ⟨rfl, rfl, rfl, rfl⟩ | ⟨q1, rfl, hl1, hm1, hz1, hc1, hw1⟩
  · exact Ex.law_of_leads (ε := fun _ => none) (ρ := fun _ => none) (h := []) (m := 0) (fn := Try.f5) (c := Ex.bodyOf 5) (by kernel_rfl) (by kernel_rfl) (args := [.agg #[.int .i64 x0_0, .int .i64 x0_1, .int .i64 x0_2, .int .i64 x0_3, .int .i64 x0_4, .slice none 0 0, .int .i64 x0_6, .int .i64 x0_7, .slice none 0 0]]) (ARGS := [.agg #[.int .i64 x0_0, .int .i64 x0_1, .int .i64 x0_2, .int .i64 x0_3, .int .i64 x0_4, .slice none 0 0, .int .i64 x0_6, .int .i64 x0_7, .slice none 0 0]]) ⟨Ex.Rl_agg.2 ⟨[.int .i64 x0_0, .int .i64 x0_1, .int .i64 x0_2, .int .i64 x0_3, .int .i64 x0_4, .slice none 0 0, .int .i64 x0_6, .int .i64 x0_7, .slice none 0 0], rfl, ⟨Ex.Rl_int.2 rfl, Ex.Rl_int.2 rfl, Ex.Rl_int.2 rfl, Ex.Rl_int.2 rfl, Ex.Rl_int.2 rfl, (Ex.Rl_self rfl).2 rfl, Ex.Rl_int.2 rfl, Ex.Rl_int.2 rfl, (Ex.Rl_self rfl).2 rfl, trivial⟩⟩, trivial⟩ (of_decide_eq_true (by kernel_rfl)) Ex.mod_nil (fun id o e => by rw [Ex.tget_nil] at e; cases e) (fun _ _ => rfl) (Ex.fvoid_00 (fun _ _ h => by cases h) x0_0 x0_1 x0_2 x0_3 x0_4 x0_6 x0_7  (i64_range u0_0).1 (i64_range u0_0).2 )
  · obtain ⟨cs1, A1, b1, off1, rfl, g1_1, g2_1, g3_1, g4_1, g6_1, g7_1⟩ := Ex.rowS [] rfl k0_8 Try.underlying30 hl1 hz1 hc1
    exact Ex.law_of_leads (ε := fun i => ([] ++ A1)[i]?) (ρ := Ex.rho1 b1) (h := Ex.tput [] 0 (some (Ex.roRow cs1))) (m := 1) (fn := Try.f5) (c := Ex.bodyOf 5) (by kernel_rfl) (by kernel_rfl) (args := [.agg #[.int .i64 x0_0, .int .i64 x0_1, .int .i64 x0_2, .int .i64 x0_3, .int .i64 x0_4, .slice none 0 0, .int .i64 x0_6, .int .i64 x0_7, .slice (some ⟨0, off1, none⟩) l0_8 m0_8]]) (ARGS := [.agg #[.int .i64 x0_0, .int .i64 x0_1, .int .i64 x0_2, .int .i64 x0_3, .int .i64 x0_4, .slice none 0 0, .int .i64 x0_6, .int .i64 x0_7, .slice (some ⟨b1, off1, none⟩) l0_8 m0_8]]) ⟨Ex.Rl_agg.2 ⟨[.int .i64 x0_0, .int .i64 x0_1, .int .i64 x0_2, .int .i64 x0_3, .int .i64 x0_4, .slice none 0 0, .int .i64 x0_6, .int .i64 x0_7, .slice (some ⟨b1, off1, none⟩) l0_8 m0_8], rfl, ⟨Ex.Rl_int.2 rfl, Ex.Rl_int.2 rfl, Ex.Rl_int.2 rfl, Ex.Rl_int.2 rfl, Ex.Rl_int.2 rfl, (Ex.Rl_self rfl).2 rfl, Ex.Rl_int.2 rfl, Ex.Rl_int.2 rfl, Ex.Rl_slice.2 ⟨(b1, 0), rfl, rfl⟩, trivial⟩⟩, trivial⟩ (of_decide_eq_true (by kernel_rfl)) (Ex.mod_one g6_1 fun ρ => g7_1 ρ _ fun _ _ h => h) Ex.ro_one (fun id hid => if_neg (by omega)) (Ex.fvoid_01 (fun i V h => List.all_eq_true.1 g1_1 V (List.mem_of_getElem? h)) x0_0 x0_1 x0_2 x0_3 x0_4 x0_6 x0_7 cs1 off1 l0_8 m0_8 (i64_range u0_0).1 (i64_range u0_0).2 hl1 g3_1 g4_1 (by rw [g2_1]; exact Ex.Byt.vals fun x hx => hw1 x (List.mem_of_mem_take hx)))
  · obtain ⟨cs0, A0, b0, off0, rfl, g1_0, g2_0, g3_0, g4_0, g6_0, g7_0⟩ := Ex.rowS [] rfl k0_5 Try.underlying30 hl0 hz0 hc0
    exact Ex.law_of_leads (ε := fun i => ([] ++ A0)[i]?) (ρ := Ex.rho1 b0) (h := Ex.tput [] 0 (some (Ex.roRow cs0))) (m := 1) (fn := Try.f5) (c := Ex.bodyOf 5) (by kernel_rfl) (by kernel_rfl) (args := [.agg #[.int .i64 x0_0, .int .i64 x0_1, .int .i64 x0_2, .int .i64 x0_3, .int .i64 x0_4, .slice (some ⟨0, off0, none⟩) l0_5 m0_5, .int .i64 x0_6, .int .i64 x0_7, .slice none 0 0]]) (ARGS := [.agg #[.int .i64 x0_0, .int .i64 x0_1, .int .i64 x0_2, .int .i64 x0_3, .int .i64 x0_4, .slice (some ⟨b0, off0, none⟩) l0_5 m0_5, .int .i64 x0_6, .int .i64 x0_7, .slice none 0 0]]) ⟨Ex.Rl_agg.2 ⟨[.int .i64 x0_0, .int .i64 x0_1, .int .i64 x0_2, .int .i64 x0_3, .int .i64 x0_4, .slice (some ⟨b0, off0, none⟩) l0_5 m0_5, .int .i64 x0_6, .int .i64 x0_7, .slice none 0 0], rfl, ⟨Ex.Rl_int.2 rfl, Ex.Rl_int.2 rfl, Ex.Rl_int.2 rfl, Ex.Rl_int.2 rfl, Ex.Rl_int.2 rfl, Ex.Rl_slice.2 ⟨(b0, 0), rfl, rfl⟩, Ex.Rl_int.2 rfl, Ex.Rl_int.2 rfl, (Ex.Rl_self rfl).2 rfl, trivial⟩⟩, trivial⟩ (of_decide_eq_true (by kernel_rfl)) (Ex.mod_one g6_0 fun ρ => g7_0 ρ _ fun _ _ h => h) Ex.ro_one (fun id hid => if_neg (by omega)) (Ex.fvoid_10 (fun i V h => List.all_eq_true.1 g1_0 V (List.mem_of_getElem? h)) x0_0 x0_1 x0_2 x0_3 x0_4 x0_6 x0_7 cs0 off0 l0_5 m0_5 (i64_range u0_0).1 (i64_range u0_0).2 hl0 g3_0 g4_0 (by rw [g2_0]; exact Ex.Byt.vals fun x hx => hw0 x (List.mem_of_mem_take hx)))
  · obtain ⟨cs0, A0, b0, off0, rfl, g1_0, g2_0, g3_0, g4_0, g6_0, g7_0⟩ := Ex.rowS [] rfl k0_5 Try.underlying30 hl0 hz0 hc0
    obtain ⟨cs1, A1, b1, off1, rfl, g1_1, g2_1, g3_1, g4_1, g6_1, g7_1⟩ := Ex.rowS ([] ++ A0) g1_0 k0_8 Try.underlying30 hl1 hz1 hc1
    exact Ex.law_of_leads (ε := fun i => (([] ++ A0) ++ A1)[i]?) (ρ := Ex.rho2 b0 b1) (h := Ex.tput (Ex.tput [] 0 (some (Ex.roRow cs0))) 1 (some (Ex.roRow cs1))) (m := 2) (fn := Try.f5) (c := Ex.bodyOf 5) (by kernel_rfl) (by kernel_rfl) (args := [.agg #[.int .i64 x0_0, .int .i64 x0_1, .int .i64 x0_2, .int .i64 x0_3, .int .i64 x0_4, .slice (some ⟨0, off0, none⟩) l0_5 m0_5, .int .i64 x0_6, .int .i64 x0_7, .slice (some ⟨1, off1, none⟩) l0_8 m0_8]]) (ARGS := [.agg #[.int .i64 x0_0, .int .i64 x0_1, .int .i64 x0_2, .int .i64 x0_3, .int .i64 x0_4, .slice (some ⟨b0, off0, none⟩) l0_5 m0_5, .int .i64 x0_6, .int .i64 x0_7, .slice (some ⟨b1, off1, none⟩) l0_8 m0_8]]) ⟨Ex.Rl_agg.2 ⟨[.int .i64 x0_0, .int .i64 x0_1, .int .i64 x0_2, .int .i64 x0_3, .int .i64 x0_4, .slice (some ⟨b0, off0, none⟩) l0_5 m0_5, .int .i64 x0_6, .int .i64 x0_7, .slice (some ⟨b1, off1, none⟩) l0_8 m0_8], rfl, ⟨Ex.Rl_int.2 rfl, Ex.Rl_int.2 rfl, Ex.Rl_int.2 rfl, Ex.Rl_int.2 rfl, Ex.Rl_int.2 rfl, Ex.Rl_slice.2 ⟨(b0, 0), rfl, rfl⟩, Ex.Rl_int.2 rfl, Ex.Rl_int.2 rfl, Ex.Rl_slice.2 ⟨(b1, 0), rfl, rfl⟩, trivial⟩⟩, trivial⟩ (of_decide_eq_true (by kernel_rfl)) (Ex.mod_two g6_0 g6_1 (fun ρ => g7_0 ρ _ fun i x hx => by rw [List.getElem?_append_left (List.getElem?_eq_some_iff.1 hx).1]; exact hx) (fun ρ => g7_1 ρ _ fun _ _ h => h)) Ex.ro_two (fun id hid => by unfold Ex.rho2; rw [if_neg (by omega), if_neg (by omega)]) (Ex.fvoid_11 (fun i V h => List.all_eq_true.1 g1_1 V (List.mem_of_getElem? h)) x0_0 x0_1 x0_2 x0_3 x0_4 x0_6 x0_7 cs0 off0 l0_5 m0_5 cs1 off1 l0_8 m0_8 (i64_range u0_0).1 (i64_range u0_0).2 hl0 g3_0 g4_0 (by rw [g2_0]; exact Ex.Byt.vals fun x hx => hw0 x (List.mem_of_mem_take hx)) hl1 g3_1 g4_1 (by rw [g2_1]; exact Ex.Byt.vals fun x hx => hw1 x (List.mem_of_mem_take hx)))

set_option maxRecDepth 100000 in
theorem lifted (os : Os) (started : os.Started) (H : Type) (enc : TypeId × Value → H) :
    ReturnsInHanded {} Try.checked os 5 .any (Rows.fsmVoidSpec.pre6 enc Try.prog Try.f5 Rows.fsmVoidRow.domain false) (Rows.fsmVoidSpec.post enc Try.prog Try.f5 false true false false) := by
  refine returnsInHanded_of_change (C := Try.checked) own started (by kernel_rfl) Try.func5
    (ChangeSpec.witness6 (enc := enc) (C := Try.checked) false ⟨#[], #[.agg #[.int .i64 0, .int .i64 0, .int .i64 0, .int .i64 0, .int .i64 0, .slice none 0 0, .int .i64 0, .int .i64 0, .slice none 0 0]], []⟩ 8 (by kernel_rfl) (by kernel_rfl) (by kernel_rfl) (by kernel_rfl)) ?_
  intro W base args ds gs before hval0 hW hcnd _
  have hval : ∀ (j : Nat) t v, Try.f5.params[j]? = some t → args[j]? = some v → Value.okWide Try.prog W .any base t v := hval0
  have hW' := hW
  obtain ⟨p, q, hA0, hV, rfl, hfz, hnd⟩ := hW
  have hA : DataW.TrodAll enc Try.prog W 0 (fun _ => true) true Try.f5.params.toList args.toList ds p := hA0
  rw [Try.params5] at hA hval
  obtain ⟨v0, vs0, d0, ds0, p0, q0, hargs, rfl, rfl, h0, r0⟩ := trodAll_cons hA
  obtain ⟨rfl, rfl, rfl⟩ := trodAll_nil r0
  obtain rfl : args = #[v0] := by cases args; simp_all
  obtain ⟨rfl, rfl⟩ := trodVars_none hV
  have k0 := h0
  have lt0 : ∀ x ∈ p0, x.block < W.heap.size := by obtain ⟨m, hm⟩ := k0; exact DataW.trod_lt m _ _ _ hm
  clear hA0 hval0
  refine (walk v0 _ _ W (hval 0 36 v0 rfl rfl) h0).mono fun e W' ⟨he, bel⟩ => ?_
  subst he
  exact ⟨_, rfl, _, _, _, [], _, [], hW', trodAll_mk1 (shut_bool Try.underlying4 _), (trodAll_cons_mk (Below.trod laidOut (by kernel_rfl) (of_decide_eq_true (by kernel_rfl)) k0 bel lt0) trodAll_mk0), rfl, bel.frame _, fun h => by cases h⟩

theorem over : Rows.fsmVoidRow.holds Try.pinned (OpenSpec.ofChange Rows.fsmVoidSpec) :=
  OpenClaim.holds_of_wide 5 Try.f5 rfl rfl rfl rfl rfl rfl rfl ⟨rfl, rfl, rfl, rfl, rfl⟩ rfl rfl rfl rfl rfl (by kernel_rfl) Try.func5 (by kernel_rfl)
    (of_decide_eq_true (by kernel_rfl)) (by unfold Func.isWrapper; first | (rw [if_pos (by decide +kernel)]; kernel_rfl) | (rw [if_neg (by decide +kernel)]; exact ⟨rfl, rfl⟩))
    (fun os started H enc _ => lifted os started H enc)

/-- The statement. -/
theorem proved : Rows.FsmVoidSaid := over
#print axioms proved
end Go.Proofs.Ytnnnoomokbiobaa.fsmVoid
