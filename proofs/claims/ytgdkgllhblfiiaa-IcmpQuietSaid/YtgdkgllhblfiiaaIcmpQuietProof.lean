/- Proved: for all addresses, messages, codes and packets IcmpQuiet returns true, and the slices read afterwards as before. No conditions. -/
import Derived.Test.YtgdkgllhblfiiaaRows
import Derived.WalkKit
import Derived.ProofKit
import Derived.OpenShut
import Derived.ShutString
import Derived.ChangeOld
import Derived.Below
import Derived.Test.YtgdkgllhblfiiaaIcmpQ
import Derived.Test.YtgdkgllhblfiiaaIcmpQb
import Derived.Test.YtgdkgllhblfiiaaIcmpQc
import Derived.Test.YtgdkgllhblfiiaaIcmpQd
import Derived.Test.YtgdkgllhblfiiaaOpen
namespace Go.Proofs.Ytgdkgllhblfiiaa.icmpQuiet
open Go.ChangeShapes Go.WideShapes Go.ChangeAt Go.RowKit
open Go.ChangeMaps (open_string shut_string)
set_option linter.unusedVariables false
set_option linter.unusedSimpArgs false

theorem own : ownKnob Try.prog.godebug = none := by kernel_rfl
theorem laidOut : laidOutB Try.prog = true := by kernel_rfl

set_option maxRecDepth 100000 in
theorem walk {H : Type} {enc : TypeId × Value → H} {base : Nat} (a0 : Int) (a1 : Int) (v2 : Value) (d2 : DataW H) (p2 : List MemPlace) (a3 : Int) (v4 : Value) (d4 : DataW H) (p4 : List MemPlace) (w : World) (w0 : (Lit.int .u32 a0).wf = true) (w1 : (Lit.int .u32 a1).wf = true) (ok2 : Value.okWide Try.prog w .any base 25 v2) (h2 : DataW.Trod enc Try.prog w 0 (fun _ => true) true 25 v2 d2 p2) (w3 : (Lit.int .i64 a3).wf = true) (ok4 : Value.okWide Try.prog w .any base 41 v4) (h4 : DataW.Trod enc Try.prog w 0 (fun _ => true) true 41 v4 d4 p4) :
    Calls Try.prog 6 #[.int .u32 a0, .int .u32 a1, v2, .int .i64 a3, v4] w fun e w' => e = .returned (.bool true) ∧ Below w.heap.size w w' := by
  obtain ⟨fs2, fn2, rfl, fz2, ff2⟩ := open_fields Try.underlying25 (by kernel_rfl) ok2 h2
  obtain ⟨c2_0, c2_1, c2_2, c2_3, rfl⟩ := array4 (fz2.trans (by kernel_rfl))
  obtain ⟨y2_0, t2_0⟩ := ff2 0 _ _ rfl rfl
  obtain ⟨x2_0, e2_0, _, u2_0⟩ := DataW.trod_int Try.underlying3 t2_0
  simp at e2_0
  subst e2_0
  obtain ⟨y2_1, t2_1⟩ := ff2 1 _ _ rfl rfl
  obtain ⟨x2_1, e2_1, _, u2_1⟩ := DataW.trod_int Try.underlying3 t2_1
  simp at e2_1
  subst e2_1
  obtain ⟨y2_2, t2_2⟩ := ff2 2 _ _ rfl rfl
  obtain ⟨x2_2, e2_2, _, u2_2⟩ := DataW.trod_int Try.underlying22 t2_2
  simp at e2_2
  subst e2_2
  obtain ⟨y2_3, t2_3⟩ := ff2 3 _ _ rfl rfl
  have k2_3 := field_ok Try.underlying25 ok2 (ts := [3, 3, 22, 23]) (by kernel_rfl) 3 _ rfl rfl Try.underlying23
  obtain ⟨a2_3, l2_3, m2_3, z2_3, rfl, w2_3⟩ := row_of Try.underlying23 Try.underlying5 (by kernel_rfl) t2_3
  obtain ⟨fs4, fn4, rfl, fz4, ff4⟩ := open_fields Try.underlying41 (by kernel_rfl) ok4 h4
  obtain ⟨c4_0, c4_1, c4_2, c4_3, c4_4, c4_5, c4_6, c4_7, c4_8, rfl⟩ := array9 (fz4.trans (by kernel_rfl))
  obtain ⟨y4_0, t4_0⟩ := ff4 0 _ _ rfl rfl
  obtain ⟨x4_0, e4_0, _, u4_0⟩ := DataW.trod_int Try.underlying3 t4_0
  simp at e4_0
  subst e4_0
  obtain ⟨y4_1, t4_1⟩ := ff4 1 _ _ rfl rfl
  obtain ⟨x4_1, e4_1, _, u4_1⟩ := DataW.trod_int Try.underlying3 t4_1
  simp at e4_1
  subst e4_1
  obtain ⟨y4_2, t4_2⟩ := ff4 2 _ _ rfl rfl
  obtain ⟨x4_2, e4_2, _, u4_2⟩ := DataW.trod_int Try.underlying3 t4_2
  simp at e4_2
  subst e4_2
  obtain ⟨y4_3, t4_3⟩ := ff4 3 _ _ rfl rfl
  obtain ⟨x4_3, e4_3, _, u4_3⟩ := DataW.trod_int Try.underlying3 t4_3
  simp at e4_3
  subst e4_3
  obtain ⟨y4_4, t4_4⟩ := ff4 4 _ _ rfl rfl
  obtain ⟨x4_4, e4_4, _⟩ := DataW.trod_bool Try.underlying4 t4_4
  simp at e4_4
  subst e4_4
  obtain ⟨y4_5, t4_5⟩ := ff4 5 _ _ rfl rfl
  obtain ⟨x4_5, e4_5, _⟩ := DataW.trod_bool Try.underlying4 t4_5
  simp at e4_5
  subst e4_5
  obtain ⟨y4_6, t4_6⟩ := ff4 6 _ _ rfl rfl
  obtain ⟨x4_6, e4_6, _, u4_6⟩ := DataW.trod_int Try.underlying39 t4_6
  simp at e4_6
  subst e4_6
  obtain ⟨y4_7, t4_7⟩ := ff4 7 _ _ rfl rfl
  obtain ⟨x4_7, e4_7, _, u4_7⟩ := DataW.trod_int Try.underlying39 t4_7
  simp at e4_7
  subst e4_7
  obtain ⟨y4_8, t4_8⟩ := ff4 8 _ _ rfl rfl
  have k4_8 := field_ok Try.underlying41 ok4 (ts := [3, 3, 3, 3, 4, 4, 39, 39, 23]) (by kernel_rfl) 8 _ rfl rfl Try.underlying23
  obtain ⟨a4_8, l4_8, m4_8, z4_8, rfl, w4_8⟩ := row_of Try.underlying23 Try.underlying5 (by kernel_rfl) t4_8
  rcases w2_3 with ⟨rfl, rfl, rfl, rfl⟩ | ⟨q0, rfl, hl0, hm0, hz0, hc0, hw0⟩ <;> rcases w4_8 with ⟨rfl, rfl, rfl, rfl⟩ | ⟨q1, rfl, hl1, hm1, hz1, hc1, hw1⟩
  · exact Ex.law_of_leads (ε := fun _ => none) (ρ := fun _ => none) (h := []) (m := 0) (fn := Try.f6) (c := Ex.bodyOf 6) (by kernel_rfl) (by kernel_rfl) (args := [.int .u32 a0, .int .u32 a1, .agg #[.int .i64 x2_0, .int .i64 x2_1, .int .u32 x2_2, .slice none 0 0], .int .i64 a3, .agg #[.int .i64 x4_0, .int .i64 x4_1, .int .i64 x4_2, .int .i64 x4_3, .bool x4_4, .bool x4_5, .int .u32 x4_6, .int .u32 x4_7, .slice none 0 0]]) (ARGS := [.int .u32 a0, .int .u32 a1, .agg #[.int .i64 x2_0, .int .i64 x2_1, .int .u32 x2_2, .slice none 0 0], .int .i64 a3, .agg #[.int .i64 x4_0, .int .i64 x4_1, .int .i64 x4_2, .int .i64 x4_3, .bool x4_4, .bool x4_5, .int .u32 x4_6, .int .u32 x4_7, .slice none 0 0]]) ⟨Ex.Rl_int.2 rfl, Ex.Rl_int.2 rfl, Ex.Rl_agg.2 ⟨[.int .i64 x2_0, .int .i64 x2_1, .int .u32 x2_2, .slice none 0 0], rfl, ⟨Ex.Rl_int.2 rfl, Ex.Rl_int.2 rfl, Ex.Rl_int.2 rfl, (Ex.Rl_self rfl).2 rfl, trivial⟩⟩, Ex.Rl_int.2 rfl, Ex.Rl_agg.2 ⟨[.int .i64 x4_0, .int .i64 x4_1, .int .i64 x4_2, .int .i64 x4_3, .bool x4_4, .bool x4_5, .int .u32 x4_6, .int .u32 x4_7, .slice none 0 0], rfl, ⟨Ex.Rl_int.2 rfl, Ex.Rl_int.2 rfl, Ex.Rl_int.2 rfl, Ex.Rl_int.2 rfl, Ex.Rl_bool.2 rfl, Ex.Rl_bool.2 rfl, Ex.Rl_int.2 rfl, Ex.Rl_int.2 rfl, (Ex.Rl_self rfl).2 rfl, trivial⟩⟩, trivial⟩ (of_decide_eq_true (by kernel_rfl)) Ex.mod_nil (fun id o e => by rw [Ex.tget_nil] at e; cases e) (fun _ _ => rfl) (Ex.iquiet_00 (fun _ _ h => by cases h) a0 a1 x2_0 x2_1 x2_2 a3 x4_0 x4_1 x4_2 x4_3 x4_4 x4_5 x4_6 x4_7  (u32_range w0).1 (u32_range w0).2 (u32_range w1).1 (u32_range w1).2 (u32_range u2_2).1 (u32_range u2_2).2 (i64_range w3).1 (i64_range w3).2 (u32_range u4_6).1 (u32_range u4_6).2 (u32_range u4_7).1 (u32_range u4_7).2 )
  · obtain ⟨cs1, A1, b1, off1, rfl, g1_1, g2_1, g3_1, g4_1, g6_1, g7_1⟩ := Ex.rowS [] rfl k4_8 Try.underlying23 hl1 hz1 hc1
    exact Ex.law_of_leads (ε := fun i => ([] ++ A1)[i]?) (ρ := Ex.rho1 b1) (h := Ex.tput [] 0 (some (Ex.roRow cs1))) (m := 1) (fn := Try.f6) (c := Ex.bodyOf 6) (by kernel_rfl) (by kernel_rfl) (args := [.int .u32 a0, .int .u32 a1, .agg #[.int .i64 x2_0, .int .i64 x2_1, .int .u32 x2_2, .slice none 0 0], .int .i64 a3, .agg #[.int .i64 x4_0, .int .i64 x4_1, .int .i64 x4_2, .int .i64 x4_3, .bool x4_4, .bool x4_5, .int .u32 x4_6, .int .u32 x4_7, .slice (some ⟨0, off1, none⟩) l4_8 m4_8]]) (ARGS := [.int .u32 a0, .int .u32 a1, .agg #[.int .i64 x2_0, .int .i64 x2_1, .int .u32 x2_2, .slice none 0 0], .int .i64 a3, .agg #[.int .i64 x4_0, .int .i64 x4_1, .int .i64 x4_2, .int .i64 x4_3, .bool x4_4, .bool x4_5, .int .u32 x4_6, .int .u32 x4_7, .slice (some ⟨b1, off1, none⟩) l4_8 m4_8]]) ⟨Ex.Rl_int.2 rfl, Ex.Rl_int.2 rfl, Ex.Rl_agg.2 ⟨[.int .i64 x2_0, .int .i64 x2_1, .int .u32 x2_2, .slice none 0 0], rfl, ⟨Ex.Rl_int.2 rfl, Ex.Rl_int.2 rfl, Ex.Rl_int.2 rfl, (Ex.Rl_self rfl).2 rfl, trivial⟩⟩, Ex.Rl_int.2 rfl, Ex.Rl_agg.2 ⟨[.int .i64 x4_0, .int .i64 x4_1, .int .i64 x4_2, .int .i64 x4_3, .bool x4_4, .bool x4_5, .int .u32 x4_6, .int .u32 x4_7, .slice (some ⟨b1, off1, none⟩) l4_8 m4_8], rfl, ⟨Ex.Rl_int.2 rfl, Ex.Rl_int.2 rfl, Ex.Rl_int.2 rfl, Ex.Rl_int.2 rfl, Ex.Rl_bool.2 rfl, Ex.Rl_bool.2 rfl, Ex.Rl_int.2 rfl, Ex.Rl_int.2 rfl, Ex.Rl_slice.2 ⟨(b1, 0), rfl, rfl⟩, trivial⟩⟩, trivial⟩ (of_decide_eq_true (by kernel_rfl)) (Ex.mod_one g6_1 fun ρ => g7_1 ρ _ fun _ _ h => h) Ex.ro_one (fun id hid => if_neg (by omega)) (Ex.iquiet_01 (fun i V h => List.all_eq_true.1 g1_1 V (List.mem_of_getElem? h)) a0 a1 x2_0 x2_1 x2_2 a3 x4_0 x4_1 x4_2 x4_3 x4_4 x4_5 x4_6 x4_7 cs1 off1 l4_8 m4_8 (u32_range w0).1 (u32_range w0).2 (u32_range w1).1 (u32_range w1).2 (u32_range u2_2).1 (u32_range u2_2).2 (i64_range w3).1 (i64_range w3).2 (u32_range u4_6).1 (u32_range u4_6).2 (u32_range u4_7).1 (u32_range u4_7).2 hl1 g3_1 g4_1 (by rw [g2_1]; exact Ex.Byt.vals fun x hx => hw1 x (List.mem_of_mem_take hx)))
  · obtain ⟨cs0, A0, b0, off0, rfl, g1_0, g2_0, g3_0, g4_0, g6_0, g7_0⟩ := Ex.rowS [] rfl k2_3 Try.underlying23 hl0 hz0 hc0
    exact Ex.law_of_leads (ε := fun i => ([] ++ A0)[i]?) (ρ := Ex.rho1 b0) (h := Ex.tput [] 0 (some (Ex.roRow cs0))) (m := 1) (fn := Try.f6) (c := Ex.bodyOf 6) (by kernel_rfl) (by kernel_rfl) (args := [.int .u32 a0, .int .u32 a1, .agg #[.int .i64 x2_0, .int .i64 x2_1, .int .u32 x2_2, .slice (some ⟨0, off0, none⟩) l2_3 m2_3], .int .i64 a3, .agg #[.int .i64 x4_0, .int .i64 x4_1, .int .i64 x4_2, .int .i64 x4_3, .bool x4_4, .bool x4_5, .int .u32 x4_6, .int .u32 x4_7, .slice none 0 0]]) (ARGS := [.int .u32 a0, .int .u32 a1, .agg #[.int .i64 x2_0, .int .i64 x2_1, .int .u32 x2_2, .slice (some ⟨b0, off0, none⟩) l2_3 m2_3], .int .i64 a3, .agg #[.int .i64 x4_0, .int .i64 x4_1, .int .i64 x4_2, .int .i64 x4_3, .bool x4_4, .bool x4_5, .int .u32 x4_6, .int .u32 x4_7, .slice none 0 0]]) ⟨Ex.Rl_int.2 rfl, Ex.Rl_int.2 rfl, Ex.Rl_agg.2 ⟨[.int .i64 x2_0, .int .i64 x2_1, .int .u32 x2_2, .slice (some ⟨b0, off0, none⟩) l2_3 m2_3], rfl, ⟨Ex.Rl_int.2 rfl, Ex.Rl_int.2 rfl, Ex.Rl_int.2 rfl, Ex.Rl_slice.2 ⟨(b0, 0), rfl, rfl⟩, trivial⟩⟩, Ex.Rl_int.2 rfl, Ex.Rl_agg.2 ⟨[.int .i64 x4_0, .int .i64 x4_1, .int .i64 x4_2, .int .i64 x4_3, .bool x4_4, .bool x4_5, .int .u32 x4_6, .int .u32 x4_7, .slice none 0 0], rfl, ⟨Ex.Rl_int.2 rfl, Ex.Rl_int.2 rfl, Ex.Rl_int.2 rfl, Ex.Rl_int.2 rfl, Ex.Rl_bool.2 rfl, Ex.Rl_bool.2 rfl, Ex.Rl_int.2 rfl, Ex.Rl_int.2 rfl, (Ex.Rl_self rfl).2 rfl, trivial⟩⟩, trivial⟩ (of_decide_eq_true (by kernel_rfl)) (Ex.mod_one g6_0 fun ρ => g7_0 ρ _ fun _ _ h => h) Ex.ro_one (fun id hid => if_neg (by omega)) (Ex.iquiet_10 (fun i V h => List.all_eq_true.1 g1_0 V (List.mem_of_getElem? h)) a0 a1 x2_0 x2_1 x2_2 a3 x4_0 x4_1 x4_2 x4_3 x4_4 x4_5 x4_6 x4_7 cs0 off0 l2_3 m2_3 (u32_range w0).1 (u32_range w0).2 (u32_range w1).1 (u32_range w1).2 (u32_range u2_2).1 (u32_range u2_2).2 (i64_range w3).1 (i64_range w3).2 (u32_range u4_6).1 (u32_range u4_6).2 (u32_range u4_7).1 (u32_range u4_7).2 hl0 g3_0 g4_0 (by rw [g2_0]; exact Ex.Byt.vals fun x hx => hw0 x (List.mem_of_mem_take hx)))
  · obtain ⟨cs0, A0, b0, off0, rfl, g1_0, g2_0, g3_0, g4_0, g6_0, g7_0⟩ := Ex.rowS [] rfl k2_3 Try.underlying23 hl0 hz0 hc0
    obtain ⟨cs1, A1, b1, off1, rfl, g1_1, g2_1, g3_1, g4_1, g6_1, g7_1⟩ := Ex.rowS ([] ++ A0) g1_0 k4_8 Try.underlying23 hl1 hz1 hc1
    exact Ex.law_of_leads (ε := fun i => (([] ++ A0) ++ A1)[i]?) (ρ := Ex.rho2 b0 b1) (h := Ex.tput (Ex.tput [] 0 (some (Ex.roRow cs0))) 1 (some (Ex.roRow cs1))) (m := 2) (fn := Try.f6) (c := Ex.bodyOf 6) (by kernel_rfl) (by kernel_rfl) (args := [.int .u32 a0, .int .u32 a1, .agg #[.int .i64 x2_0, .int .i64 x2_1, .int .u32 x2_2, .slice (some ⟨0, off0, none⟩) l2_3 m2_3], .int .i64 a3, .agg #[.int .i64 x4_0, .int .i64 x4_1, .int .i64 x4_2, .int .i64 x4_3, .bool x4_4, .bool x4_5, .int .u32 x4_6, .int .u32 x4_7, .slice (some ⟨1, off1, none⟩) l4_8 m4_8]]) (ARGS := [.int .u32 a0, .int .u32 a1, .agg #[.int .i64 x2_0, .int .i64 x2_1, .int .u32 x2_2, .slice (some ⟨b0, off0, none⟩) l2_3 m2_3], .int .i64 a3, .agg #[.int .i64 x4_0, .int .i64 x4_1, .int .i64 x4_2, .int .i64 x4_3, .bool x4_4, .bool x4_5, .int .u32 x4_6, .int .u32 x4_7, .slice (some ⟨b1, off1, none⟩) l4_8 m4_8]]) ⟨Ex.Rl_int.2 rfl, Ex.Rl_int.2 rfl, Ex.Rl_agg.2 ⟨[.int .i64 x2_0, .int .i64 x2_1, .int .u32 x2_2, .slice (some ⟨b0, off0, none⟩) l2_3 m2_3], rfl, ⟨Ex.Rl_int.2 rfl, Ex.Rl_int.2 rfl, Ex.Rl_int.2 rfl, Ex.Rl_slice.2 ⟨(b0, 0), rfl, rfl⟩, trivial⟩⟩, Ex.Rl_int.2 rfl, Ex.Rl_agg.2 ⟨[.int .i64 x4_0, .int .i64 x4_1, .int .i64 x4_2, .int .i64 x4_3, .bool x4_4, .bool x4_5, .int .u32 x4_6, .int .u32 x4_7, .slice (some ⟨b1, off1, none⟩) l4_8 m4_8], rfl, ⟨Ex.Rl_int.2 rfl, Ex.Rl_int.2 rfl, Ex.Rl_int.2 rfl, Ex.Rl_int.2 rfl, Ex.Rl_bool.2 rfl, Ex.Rl_bool.2 rfl, Ex.Rl_int.2 rfl, Ex.Rl_int.2 rfl, Ex.Rl_slice.2 ⟨(b1, 0), rfl, rfl⟩, trivial⟩⟩, trivial⟩ (of_decide_eq_true (by kernel_rfl)) (Ex.mod_two g6_0 g6_1 (fun ρ => g7_0 ρ _ fun i x hx => by rw [List.getElem?_append_left (List.getElem?_eq_some_iff.1 hx).1]; exact hx) (fun ρ => g7_1 ρ _ fun _ _ h => h)) Ex.ro_two (fun id hid => by unfold Ex.rho2; rw [if_neg (by omega), if_neg (by omega)]) (Ex.iquiet_11 (fun i V h => List.all_eq_true.1 g1_1 V (List.mem_of_getElem? h)) a0 a1 x2_0 x2_1 x2_2 a3 x4_0 x4_1 x4_2 x4_3 x4_4 x4_5 x4_6 x4_7 cs0 off0 l2_3 m2_3 cs1 off1 l4_8 m4_8 (u32_range w0).1 (u32_range w0).2 (u32_range w1).1 (u32_range w1).2 (u32_range u2_2).1 (u32_range u2_2).2 (i64_range w3).1 (i64_range w3).2 (u32_range u4_6).1 (u32_range u4_6).2 (u32_range u4_7).1 (u32_range u4_7).2 hl0 g3_0 g4_0 (by rw [g2_0]; exact Ex.Byt.vals fun x hx => hw0 x (List.mem_of_mem_take hx)) hl1 g3_1 g4_1 (by rw [g2_1]; exact Ex.Byt.vals fun x hx => hw1 x (List.mem_of_mem_take hx)))

set_option maxRecDepth 100000 in
theorem lifted (os : Os) (started : os.Started) (H : Type) (enc : TypeId × Value → H) :
    ReturnsInHanded {} Try.checked os 6 .any (Rows.icmpQuietSpec.pre6 enc Try.prog Try.f6 Rows.icmpQuietRow.domain false) (Rows.icmpQuietSpec.post enc Try.prog Try.f6 false true false false) := by
  refine returnsInHanded_of_change (C := Try.checked) own started (by kernel_rfl) Try.func6
    (ChangeSpec.witness6 (enc := enc) (C := Try.checked) false ⟨#[], #[.int .u32 0, .int .u32 0, .agg #[.int .i64 0, .int .i64 0, .int .u32 0, .slice none 0 0], .int .i64 0, .agg #[.int .i64 0, .int .i64 0, .int .i64 0, .int .i64 0, .bool false, .bool false, .int .u32 0, .int .u32 0, .slice none 0 0]], []⟩ 8 (by kernel_rfl) (by kernel_rfl) (by kernel_rfl) (by kernel_rfl)) ?_
  intro W base args ds gs before hval0 hW hcnd _
  have hval : ∀ (j : Nat) t v, Try.f6.params[j]? = some t → args[j]? = some v → Value.okWide Try.prog W .any base t v := hval0
  have hW' := hW
  obtain ⟨p, q, hA0, hV, rfl, hfz, hnd⟩ := hW
  have hA : DataW.TrodAll enc Try.prog W 0 (fun _ => true) true Try.f6.params.toList args.toList ds p := hA0
  rw [Try.params6] at hA hval
  obtain ⟨v0, vs0, d0, ds0, p0, q0, hargs, rfl, rfl, h0, r0⟩ := trodAll_cons hA
  obtain ⟨v1, vs1, d1, ds1, p1, q1, rfl, rfl, rfl, h1, r1⟩ := trodAll_cons r0
  obtain ⟨v2, vs2, d2, ds2, p2, q2, rfl, rfl, rfl, h2, r2⟩ := trodAll_cons r1
  obtain ⟨v3, vs3, d3, ds3, p3, q3, rfl, rfl, rfl, h3, r3⟩ := trodAll_cons r2
  obtain ⟨v4, vs4, d4, ds4, p4, q4, rfl, rfl, rfl, h4, r4⟩ := trodAll_cons r3
  obtain ⟨rfl, rfl, rfl⟩ := trodAll_nil r4
  obtain rfl : args = #[v0, v1, v2, v3, v4] := by cases args; simp_all
  obtain ⟨rfl, rfl⟩ := trodVars_none hV
  obtain ⟨a0, rfl, rfl, rfl, w0⟩ := open_int Try.underlying39 (hval 0 39 v0 rfl rfl) h0
  obtain ⟨a1, rfl, rfl, rfl, w1⟩ := open_int Try.underlying39 (hval 1 39 v1 rfl rfl) h1
  have k2 := h2
  have lt2 : ∀ x ∈ p2, x.block < W.heap.size := by obtain ⟨m, hm⟩ := k2; exact DataW.trod_lt m _ _ _ hm
  obtain ⟨a3, rfl, rfl, rfl, w3⟩ := open_int Try.underlying3 (hval 3 3 v3 rfl rfl) h3
  have k4 := h4
  have lt4 : ∀ x ∈ p4, x.block < W.heap.size := by obtain ⟨m, hm⟩ := k4; exact DataW.trod_lt m _ _ _ hm
  clear hA0 hval0
  refine (walk a0 a1 v2 _ _ a3 v4 _ _ W w0 w1 (hval 2 25 v2 rfl rfl) h2 w3 (hval 4 41 v4 rfl rfl) h4).mono fun e W' ⟨he, bel⟩ => ?_
  subst he
  exact ⟨_, rfl, _, _, _, [], _, [], hW', trodAll_mk1 (shut_bool Try.underlying4 _), (trodAll_cons_mk (shut_int Try.underlying39 w0) (trodAll_cons_mk (shut_int Try.underlying39 w1) (trodAll_cons_mk (Below.trod laidOut (by kernel_rfl) (of_decide_eq_true (by kernel_rfl)) k2 bel lt2) (trodAll_cons_mk (shut_int Try.underlying3 w3) (trodAll_cons_mk (Below.trod laidOut (by kernel_rfl) (of_decide_eq_true (by kernel_rfl)) k4 bel lt4) trodAll_mk0))))), rfl, bel.frame _, fun h => by cases h⟩

theorem over : Rows.icmpQuietRow.holds Try.pinned (OpenSpec.ofChange Rows.icmpQuietSpec) :=
  OpenClaim.holds_of_wide 6 Try.f6 rfl rfl rfl rfl rfl rfl rfl ⟨rfl, rfl, rfl, rfl, rfl⟩ rfl rfl rfl rfl rfl (by kernel_rfl) Try.func6 (by kernel_rfl)
    (of_decide_eq_true (by kernel_rfl)) (by unfold Func.isWrapper; first | (rw [if_pos (by decide +kernel)]; kernel_rfl) | (rw [if_neg (by decide +kernel)]; exact ⟨rfl, rfl⟩))
    (fun os started H enc _ => lifted os started H enc)

/-- The statement. -/
theorem proved : Rows.IcmpQuietSaid := over
#print axioms proved
end Go.Proofs.Ytgdkgllhblfiiaa.icmpQuiet
