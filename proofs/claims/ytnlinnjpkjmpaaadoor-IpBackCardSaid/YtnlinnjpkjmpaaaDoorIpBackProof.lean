/- Proved: for every packet and all bytes behind it IpBack returns true, and the bytes are read afterwards as before. No conditions. -/
import Derived.Test.YtnlinnjpkjmpaaaDoorRows
import Derived.WalkKit
import Derived.ProofKit
import Derived.OpenShut
import Derived.ShutString
import Derived.ChangeOld
import Derived.Below
import Derived.LaidMore
import Derived.Stop.Joined
import Derived.SevenTiedAt
import Derived.Test.YtnlinnjpkjmpaaaDoorTie
import Derived.Test.YtnlinnjpkjmpaaaDoorCards
import Derived.Test.YtnlinnjpkjmpaaaDoorIpBack
import Derived.Test.YtnlinnjpkjmpaaaDoorOpen
namespace Go.Proofs.YtnlinnjpkjmpaaaDoor.ipBack
open Go.ChangeShapes Go.WideShapes Go.ChangeAt Go.RowKit
open Go.ChangeMaps (open_string shut_string)
set_option linter.unusedVariables false
set_option linter.unusedSimpArgs false

theorem own : ownKnob Tryd.prog.godebug = none := by kernel_rfl
theorem laidOut : laidOutB Tryd.prog = true := by kernel_rfl

/-- What the listed variables hold. -/
def laidL {H : Type} : List (String × DataW H) := [("math/bits.deBruijn32tab", Rows.laid_math_bits_deBruijn32tab), ("math/bits.deBruijn64tab", Rows.laid_math_bits_deBruijn64tab), ("internal/strconv.uint64pow10", Rows.laid_internal_strconv_uint64pow10)]

/-- A slice of integers that came in: nil, or a row of cells. -/
def IsRow (k : IntKind) (w : World) (a : Option Addr) (len cap : Nat) (zs : List Int) : Prop :=
  (a = none ∧ len = 0 ∧ cap = 0 ∧ zs = []) ∨
  ∃ x, a = some x ∧ len ≤ cap ∧ cap ≤ maxLen ∧ zs.length = cap ∧ (∀ i, i < zs.length → w.cell? (x.add i) = some (.int k (zs.getD i 0))) ∧ ∀ n ∈ zs, (Lit.int k n).wf = true

set_option maxRecDepth 100000 in
theorem walk {H : Type} {enc : TypeId × Value → H} {base : Nat} (v0 : Value) (d0 : DataW H) (p0 : List MemPlace) (a1 : Option Addr) (len1 cap1 : Nat) (z1 : List Int) (w : World) (ok0 : Value.okWide Tryd.prog w .any base 26 v0) (h0 : DataW.Trod enc Tryd.prog w 0 (fun _ => true) true 26 v0 d0 p0) (w1 : IsRow .u8 w a1 len1 cap1 z1) (ok1 : Value.okWide Tryd.prog w .any base 24 (.slice a1 len1 cap1)) (hL : laidMetH Tryd.prog laidL w) :
    Calls Tryd.prog 7 #[v0, .slice a1 len1 cap1] w fun e w' => e = .returned (.bool true) ∧ Below w.heap.size w w' := by
  obtain ⟨fs0, fn0, rfl, fz0, ff0⟩ := open_fields Tryd.underlying26 (by kernel_rfl) ok0 h0
  obtain ⟨c0_0, c0_1, c0_2, c0_3, c0_4, c0_5, c0_6, c0_7, c0_8, rfl⟩ := array9 (fz0.trans (by kernel_rfl))
  obtain ⟨y0_0, t0_0⟩ := ff0 0 _ _ rfl rfl
  obtain ⟨x0_0, e0_0, _, u0_0⟩ := DataW.trod_int Tryd.underlying3 t0_0
  simp at e0_0
  subst e0_0
  obtain ⟨y0_1, t0_1⟩ := ff0 1 _ _ rfl rfl
  obtain ⟨x0_1, e0_1, _, u0_1⟩ := DataW.trod_int Tryd.underlying3 t0_1
  simp at e0_1
  subst e0_1
  obtain ⟨y0_2, t0_2⟩ := ff0 2 _ _ rfl rfl
  obtain ⟨x0_2, e0_2, _, u0_2⟩ := DataW.trod_int Tryd.underlying3 t0_2
  simp at e0_2
  subst e0_2
  obtain ⟨y0_3, t0_3⟩ := ff0 3 _ _ rfl rfl
  obtain ⟨x0_3, e0_3, _, u0_3⟩ := DataW.trod_int Tryd.underlying3 t0_3
  simp at e0_3
  subst e0_3
  obtain ⟨y0_4, t0_4⟩ := ff0 4 _ _ rfl rfl
  obtain ⟨x0_4, e0_4, _⟩ := DataW.trod_bool Tryd.underlying4 t0_4
  simp at e0_4
  subst e0_4
  obtain ⟨y0_5, t0_5⟩ := ff0 5 _ _ rfl rfl
  obtain ⟨x0_5, e0_5, _⟩ := DataW.trod_bool Tryd.underlying4 t0_5
  simp at e0_5
  subst e0_5
  obtain ⟨y0_6, t0_6⟩ := ff0 6 _ _ rfl rfl
  obtain ⟨x0_6, e0_6, _, u0_6⟩ := DataW.trod_int Tryd.underlying23 t0_6
  simp at e0_6
  subst e0_6
  obtain ⟨y0_7, t0_7⟩ := ff0 7 _ _ rfl rfl
  obtain ⟨x0_7, e0_7, _, u0_7⟩ := DataW.trod_int Tryd.underlying23 t0_7
  simp at e0_7
  subst e0_7
  obtain ⟨y0_8, t0_8⟩ := ff0 8 _ _ rfl rfl
  have k0_8 := field_ok Tryd.underlying26 ok0 (ts := [3, 3, 3, 3, 4, 4, 23, 23, 24]) (by kernel_rfl) 8 _ rfl rfl Tryd.underlying24
  obtain ⟨a0_8, l0_8, m0_8, z0_8, rfl, w0_8⟩ := row_of Tryd.underlying24 Tryd.underlying5 (by kernel_rfl) t0_8
  rcases w0_8 with ⟨rfl, rfl, rfl, rfl⟩ | ⟨q0, rfl, hl0, hm0, hz0, hc0, hw0⟩ <;> rcases w1 with ⟨rfl, rfl, rfl, rfl⟩ | ⟨q1, rfl, hl1, hm1, hz1, hc1, hw1⟩
  · exact Ex.law_of_leads (ε := fun _ => none) (ρ := fun _ => none) (h := []) (m := 0) (fn := Tryd.f7) (c := Ex.bodyOf 7) (by kernel_rfl) (by kernel_rfl) (args := [.agg #[.int .i64 x0_0, .int .i64 x0_1, .int .i64 x0_2, .int .i64 x0_3, .bool x0_4, .bool x0_5, .int .u32 x0_6, .int .u32 x0_7, .slice none 0 0], .slice none 0 0]) (ARGS := [.agg #[.int .i64 x0_0, .int .i64 x0_1, .int .i64 x0_2, .int .i64 x0_3, .bool x0_4, .bool x0_5, .int .u32 x0_6, .int .u32 x0_7, .slice none 0 0], .slice none 0 0]) ⟨Ex.Rl_agg.2 ⟨[.int .i64 x0_0, .int .i64 x0_1, .int .i64 x0_2, .int .i64 x0_3, .bool x0_4, .bool x0_5, .int .u32 x0_6, .int .u32 x0_7, .slice none 0 0], rfl, ⟨Ex.Rl_int.2 rfl, Ex.Rl_int.2 rfl, Ex.Rl_int.2 rfl, Ex.Rl_int.2 rfl, Ex.Rl_bool.2 rfl, Ex.Rl_bool.2 rfl, Ex.Rl_int.2 rfl, Ex.Rl_int.2 rfl, (Ex.Rl_self rfl).2 rfl, trivial⟩⟩, (Ex.Rl_self rfl).2 rfl, trivial⟩ (of_decide_eq_true (by kernel_rfl)) Ex.mod_nil (fun id o e => by rw [Ex.tget_nil] at e; cases e) (fun _ _ => rfl) (Ex.ipback_00 (fun _ _ h => by cases h) x0_0 x0_1 x0_2 x0_3 x0_4 x0_5 x0_6 x0_7  (u32_range u0_6).1 (u32_range u0_6).2 (u32_range u0_7).1 (u32_range u0_7).2 )
  · obtain ⟨cs1, A1, b1, off1, rfl, g1_1, g2_1, g3_1, g4_1, g6_1, g7_1⟩ := Ex.rowS [] rfl ok1 Tryd.underlying24 hl1 hz1 hc1
    exact Ex.law_of_leads (ε := fun i => ([] ++ A1)[i]?) (ρ := Ex.rho1 b1) (h := Ex.tput [] 0 (some (Ex.roRow cs1))) (m := 1) (fn := Tryd.f7) (c := Ex.bodyOf 7) (by kernel_rfl) (by kernel_rfl) (args := [.agg #[.int .i64 x0_0, .int .i64 x0_1, .int .i64 x0_2, .int .i64 x0_3, .bool x0_4, .bool x0_5, .int .u32 x0_6, .int .u32 x0_7, .slice none 0 0], .slice (some ⟨0, off1, none⟩) len1 cap1]) (ARGS := [.agg #[.int .i64 x0_0, .int .i64 x0_1, .int .i64 x0_2, .int .i64 x0_3, .bool x0_4, .bool x0_5, .int .u32 x0_6, .int .u32 x0_7, .slice none 0 0], .slice (some ⟨b1, off1, none⟩) len1 cap1]) ⟨Ex.Rl_agg.2 ⟨[.int .i64 x0_0, .int .i64 x0_1, .int .i64 x0_2, .int .i64 x0_3, .bool x0_4, .bool x0_5, .int .u32 x0_6, .int .u32 x0_7, .slice none 0 0], rfl, ⟨Ex.Rl_int.2 rfl, Ex.Rl_int.2 rfl, Ex.Rl_int.2 rfl, Ex.Rl_int.2 rfl, Ex.Rl_bool.2 rfl, Ex.Rl_bool.2 rfl, Ex.Rl_int.2 rfl, Ex.Rl_int.2 rfl, (Ex.Rl_self rfl).2 rfl, trivial⟩⟩, Ex.Rl_slice.2 ⟨(b1, 0), rfl, rfl⟩, trivial⟩ (of_decide_eq_true (by kernel_rfl)) (Ex.mod_one g6_1 fun ρ => g7_1 ρ _ fun _ _ h => h) Ex.ro_one (fun id hid => if_neg (by omega)) (Ex.ipback_01 (fun i V h => List.all_eq_true.1 g1_1 V (List.mem_of_getElem? h)) x0_0 x0_1 x0_2 x0_3 x0_4 x0_5 x0_6 x0_7 cs1 off1 len1 cap1 (u32_range u0_6).1 (u32_range u0_6).2 (u32_range u0_7).1 (u32_range u0_7).2 hl1 g3_1 g4_1 (by rw [g2_1]; exact Ex.Byt.vals fun x hx => hw1 x (List.mem_of_mem_take hx)))
  · obtain ⟨cs0, A0, b0, off0, rfl, g1_0, g2_0, g3_0, g4_0, g6_0, g7_0⟩ := Ex.rowS [] rfl k0_8 Tryd.underlying24 hl0 hz0 hc0
    exact Ex.law_of_leads (ε := fun i => ([] ++ A0)[i]?) (ρ := Ex.rho1 b0) (h := Ex.tput [] 0 (some (Ex.roRow cs0))) (m := 1) (fn := Tryd.f7) (c := Ex.bodyOf 7) (by kernel_rfl) (by kernel_rfl) (args := [.agg #[.int .i64 x0_0, .int .i64 x0_1, .int .i64 x0_2, .int .i64 x0_3, .bool x0_4, .bool x0_5, .int .u32 x0_6, .int .u32 x0_7, .slice (some ⟨0, off0, none⟩) l0_8 m0_8], .slice none 0 0]) (ARGS := [.agg #[.int .i64 x0_0, .int .i64 x0_1, .int .i64 x0_2, .int .i64 x0_3, .bool x0_4, .bool x0_5, .int .u32 x0_6, .int .u32 x0_7, .slice (some ⟨b0, off0, none⟩) l0_8 m0_8], .slice none 0 0]) ⟨Ex.Rl_agg.2 ⟨[.int .i64 x0_0, .int .i64 x0_1, .int .i64 x0_2, .int .i64 x0_3, .bool x0_4, .bool x0_5, .int .u32 x0_6, .int .u32 x0_7, .slice (some ⟨b0, off0, none⟩) l0_8 m0_8], rfl, ⟨Ex.Rl_int.2 rfl, Ex.Rl_int.2 rfl, Ex.Rl_int.2 rfl, Ex.Rl_int.2 rfl, Ex.Rl_bool.2 rfl, Ex.Rl_bool.2 rfl, Ex.Rl_int.2 rfl, Ex.Rl_int.2 rfl, Ex.Rl_slice.2 ⟨(b0, 0), rfl, rfl⟩, trivial⟩⟩, (Ex.Rl_self rfl).2 rfl, trivial⟩ (of_decide_eq_true (by kernel_rfl)) (Ex.mod_one g6_0 fun ρ => g7_0 ρ _ fun _ _ h => h) Ex.ro_one (fun id hid => if_neg (by omega)) (Ex.ipback_10 (fun i V h => List.all_eq_true.1 g1_0 V (List.mem_of_getElem? h)) x0_0 x0_1 x0_2 x0_3 x0_4 x0_5 x0_6 x0_7 cs0 off0 l0_8 m0_8 (u32_range u0_6).1 (u32_range u0_6).2 (u32_range u0_7).1 (u32_range u0_7).2 hl0 g3_0 g4_0 (by rw [g2_0]; exact Ex.Byt.vals fun x hx => hw0 x (List.mem_of_mem_take hx)))
  · obtain ⟨cs0, A0, b0, off0, rfl, g1_0, g2_0, g3_0, g4_0, g6_0, g7_0⟩ := Ex.rowS [] rfl k0_8 Tryd.underlying24 hl0 hz0 hc0
    obtain ⟨cs1, A1, b1, off1, rfl, g1_1, g2_1, g3_1, g4_1, g6_1, g7_1⟩ := Ex.rowS ([] ++ A0) g1_0 ok1 Tryd.underlying24 hl1 hz1 hc1
    exact Ex.law_of_leads (ε := fun i => (([] ++ A0) ++ A1)[i]?) (ρ := Ex.rho2 b0 b1) (h := Ex.tput (Ex.tput [] 0 (some (Ex.roRow cs0))) 1 (some (Ex.roRow cs1))) (m := 2) (fn := Tryd.f7) (c := Ex.bodyOf 7) (by kernel_rfl) (by kernel_rfl) (args := [.agg #[.int .i64 x0_0, .int .i64 x0_1, .int .i64 x0_2, .int .i64 x0_3, .bool x0_4, .bool x0_5, .int .u32 x0_6, .int .u32 x0_7, .slice (some ⟨0, off0, none⟩) l0_8 m0_8], .slice (some ⟨1, off1, none⟩) len1 cap1]) (ARGS := [.agg #[.int .i64 x0_0, .int .i64 x0_1, .int .i64 x0_2, .int .i64 x0_3, .bool x0_4, .bool x0_5, .int .u32 x0_6, .int .u32 x0_7, .slice (some ⟨b0, off0, none⟩) l0_8 m0_8], .slice (some ⟨b1, off1, none⟩) len1 cap1]) ⟨Ex.Rl_agg.2 ⟨[.int .i64 x0_0, .int .i64 x0_1, .int .i64 x0_2, .int .i64 x0_3, .bool x0_4, .bool x0_5, .int .u32 x0_6, .int .u32 x0_7, .slice (some ⟨b0, off0, none⟩) l0_8 m0_8], rfl, ⟨Ex.Rl_int.2 rfl, Ex.Rl_int.2 rfl, Ex.Rl_int.2 rfl, Ex.Rl_int.2 rfl, Ex.Rl_bool.2 rfl, Ex.Rl_bool.2 rfl, Ex.Rl_int.2 rfl, Ex.Rl_int.2 rfl, Ex.Rl_slice.2 ⟨(b0, 0), rfl, rfl⟩, trivial⟩⟩, Ex.Rl_slice.2 ⟨(b1, 0), rfl, rfl⟩, trivial⟩ (of_decide_eq_true (by kernel_rfl)) (Ex.mod_two g6_0 g6_1 (fun ρ => g7_0 ρ _ fun i x hx => by rw [List.getElem?_append_left (List.getElem?_eq_some_iff.1 hx).1]; exact hx) (fun ρ => g7_1 ρ _ fun _ _ h => h)) Ex.ro_two (fun id hid => by unfold Ex.rho2; rw [if_neg (by omega), if_neg (by omega)]) (Ex.ipback_11 (fun i V h => List.all_eq_true.1 g1_1 V (List.mem_of_getElem? h)) x0_0 x0_1 x0_2 x0_3 x0_4 x0_5 x0_6 x0_7 cs0 off0 l0_8 m0_8 cs1 off1 len1 cap1 (u32_range u0_6).1 (u32_range u0_6).2 (u32_range u0_7).1 (u32_range u0_7).2 hl0 g3_0 g4_0 (by rw [g2_0]; exact Ex.Byt.vals fun x hx => hw0 x (List.mem_of_mem_take hx)) hl1 g3_1 g4_1 (by rw [g2_1]; exact Ex.Byt.vals fun x hx => hw1 x (List.mem_of_mem_take hx)))

/-- The door's own heap meets the condition. -/
theorem door_met (os : Os) (args : Array Value) : laidMetH Tryd.prog laidL ((World.doorLaid Tryd.prog 400 os).forCall (fun _ _ => 0) ⟨#[], args, []⟩).memory :=
  laidMetH_of_parts3 (fuel := 8) (laidMet_of_run' 8 (by kernel_rfl) (by kernel_rfl)) (by kernel_rfl) (by kernel_rfl)

set_option maxRecDepth 100000 in
theorem lifted (os : Os) (started : os.Started) (H : Type) (enc : TypeId × Value → H) :
    ReturnsInHanded {} Tryd.checked os 7 .any (fun w args => (Rows.ipBackSpec.pre enc Tryd.prog Tryd.f7 [] false w args ∧ laidMetH Tryd.prog laidL w) ∧ sizedMet enc Tryd.prog Tryd.f7 (OpenSpec.ofChange Rows.ipBackSpec) false w args) (Rows.ipBackSpec.post enc Tryd.prog Tryd.f7 false true false false) := by
  refine returnsInHanded_of_change_and (C := Tryd.checked) (X := fun w _ => laidMetH Tryd.prog laidL w) (fun _ _ _ hh h => h.of_heap hh) own started (by kernel_rfl) Tryd.func7
    (ChangeSpec.witness_shaped (enc := enc) (C := Tryd.checked) (os := os) (X := fun w _ => laidMetH Tryd.prog laidL w) false (World.doorLaid Tryd.prog 400 os) #[.agg #[.int .i64 0, .int .i64 0, .int .i64 0, .int .i64 0, .bool false, .bool false, .int .u32 0, .int .u32 0, .slice none 0 0], .slice none 0 0] 8 rfl (World.shaped_of_RefB (by kernel_rfl) (by kernel_rfl)) (by kernel_rfl) (by kernel_rfl) (by kernel_rfl) (door_met os _)) ?_
  intro W base args ds gs before hval0 hW _ _ hL _
  have hval : ∀ (j : Nat) t v, Tryd.f7.params[j]? = some t → args[j]? = some v → Value.okWide Tryd.prog W .any base t v := hval0
  have hW' := hW
  obtain ⟨p, q, hA0, hV, rfl, hfz, hnd⟩ := hW
  have hA : DataW.TrodAll enc Tryd.prog W 0 (fun _ => true) true Tryd.f7.params.toList args.toList ds p := hA0
  rw [Tryd.params7] at hA hval
  obtain ⟨v0, vs0, d0, ds0, p0, q0, hargs, rfl, rfl, h0, r0⟩ := trodAll_cons hA
  obtain ⟨v1, vs1, d1, ds1, p1, q1, rfl, rfl, rfl, h1, r1⟩ := trodAll_cons r0
  obtain ⟨rfl, rfl, rfl⟩ := trodAll_nil r1
  obtain rfl : args = #[v0, v1] := by cases args; simp_all
  obtain ⟨rfl, rfl⟩ := trodVars_none hV
  have k0 := h0
  have lt0 : ∀ x ∈ p0, x.block < W.heap.size := by obtain ⟨m, hm⟩ := k0; exact DataW.trod_lt m _ _ _ hm
  obtain ⟨a1, len1, cap1, rfl⟩ := okWide_slice Tryd.underlying24 (hval 1 24 v1 rfl rfl)
  have k1 := h1
  have lt1 : ∀ x ∈ p1, x.block < W.heap.size := by obtain ⟨m, hm⟩ := k1; exact DataW.trod_lt m _ _ _ hm
  obtain ⟨z1, w1⟩ : ∃ zs, IsRow .u8 W a1 len1 cap1 zs := by
    obtain ⟨fuel, hf⟩ := h1
    rcases open_ints Tryd.underlying24 Tryd.underlying5 (by kernel_rfl) hf with ⟨hcs, _⟩ | ⟨x, l, c, zs, hcs, _, hl, hm, hz, _, hcell, hwz⟩
    · simp [Value.cells] at hcs
      obtain ⟨rfl, rfl, rfl⟩ := hcs
      exact ⟨[], .inl ⟨rfl, rfl, rfl, rfl⟩⟩
    · simp [Value.cells] at hcs
      obtain ⟨rfl, rfl, rfl⟩ := hcs
      exact ⟨zs, .inr ⟨_, rfl, hl, hm, by simpa using hz, hcell, hwz⟩⟩
  clear hA0 hval0
  refine (walk v0 _ _ a1 len1 cap1 z1 W (hval 0 26 v0 rfl rfl) h0 w1 (hval 1 24 _ rfl rfl) hL).mono fun e W' ⟨he, bel⟩ => ?_
  subst he
  exact ⟨_, rfl, _, _, _, [], _, [], hW', trodAll_mk1 (shut_bool Tryd.underlying4 _), (trodAll_cons_mk (Below.trod laidOut (by kernel_rfl) (of_decide_eq_true (by kernel_rfl)) k0 bel lt0) (trodAll_cons_mk (Below.trod laidOut (by kernel_rfl) (of_decide_eq_true (by kernel_rfl)) k1 bel lt1) trodAll_mk0)), rfl, bel.frame _, fun h => by cases h⟩

theorem over : Rows.ipBackRow.holds Tryd.pinned (OpenSpec.ofChange Rows.ipBackSpec) :=
  OpenClaim.holds_of_wide 7 Tryd.f7 rfl rfl rfl rfl rfl rfl rfl ⟨rfl, rfl, rfl, rfl, rfl⟩ rfl rfl rfl rfl rfl (by kernel_rfl) Tryd.func7 (by kernel_rfl)
    (of_decide_eq_true (by kernel_rfl)) (by unfold Func.isWrapper; first | (rw [if_pos (by decide +kernel)]; kernel_rfl) | (rw [if_neg (by decide +kernel)]; exact ⟨rfl, rfl⟩))
    (fun os started H enc _ => lifted os started H enc)

/-- The statement: the card. -/
theorem proved : Rows.IpBackCardSaid :=
  Claim7.holds_tied_plain_at .later [] [.data, .data, .data] true (true, "70a9e2552e6d8e5221739d492f45cf2943486b5dfdd2ca2245d9d1a49c557071") false
    over (fun _ h => by cases h) (by kernel_rfl) (fun _ h => by cases h) ipBack_row_tie rfl ⟨rfl, rfl⟩ (by kernel_rfl) rfl
    (fun f fn hf hfn => by
      obtain rfl : f = 7 := Option.some.inj ((show Tryd.prog.funcNamed Tryd.f7.name = some 7 by kernel_rfl).symm.trans hf) |>.symm
      obtain rfl : fn = Tryd.f7 := (Option.some.inj (Tryd.func7.symm.trans hfn)).symm
      exact ⟨by kernel_rfl, fun j t ht => by
        rw [Tryd.params7] at ht
        have hm : t ∈ ([24, 26] : List Nat) := by have := Array.mem_of_getElem? ht; simp at this ⊢; first | omega | (rcases this with h | h | h | h <;> simp [h]) | (rcases this with h | h | h <;> simp [h]) | (rcases this with h | h <;> simp [h]) | simp [this]
        have hall : (([24, 26] : List Nat).all fun u => !Tryd.prog.wantsStandIn u) = true := by kernel_rfl
        exact (show Tryd.prog.wantsStandIn t = false by simpa using List.all_eq_true.1 hall t hm)⟩)
    (by kernel_rfl)
#print axioms proved
end Go.Proofs.YtnlinnjpkjmpaaaDoor.ipBack
