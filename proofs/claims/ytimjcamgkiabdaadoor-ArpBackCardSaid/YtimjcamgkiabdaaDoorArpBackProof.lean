/- Proved: for every message and all bytes behind it ArpBack returns true, and the bytes are read afterwards as before. No conditions but that the listed variable holds what its initialiser lays. -/
import Derived.Test.YtimjcamgkiabdaaDoorRows
import Derived.WalkKit
import Derived.ProofKit
import Derived.OpenShut
import Derived.ShutString
import Derived.ChangeOld
import Derived.Below
import Derived.LaidMore
import Derived.Stop.Joined
import Derived.SevenTiedAt
import Derived.Test.YtimjcamgkiabdaaDoorTie
import Derived.Test.YtimjcamgkiabdaaDoorCards
import Derived.Test.YtimjcamgkiabdaaDoorArpBack
import Derived.Test.YtimjcamgkiabdaaDoorOpenB
namespace Go.Proofs.YtimjcamgkiabdaaDoor.arpBack
open Go.ChangeShapes Go.WideShapes Go.ChangeAt Go.RowKit
open Go.ChangeMaps (open_string shut_string)
set_option linter.unusedVariables false
set_option linter.unusedSimpArgs false

theorem own : ownKnob Tryd.prog.godebug = none := by kernel_rfl
theorem laidOut : laidOutB Tryd.prog = true := by kernel_rfl

/-- What the listed variables hold. -/
def laidL {H : Type} : List (String × DataW H) := [("pointsman/arp.beginning", Rows.laid_pointsman_arp_beginning)]

/-- A slice of integers that came in: nil, or a row of cells. -/
def IsRow (k : IntKind) (w : World) (a : Option Addr) (len cap : Nat) (zs : List Int) : Prop :=
  (a = none ∧ len = 0 ∧ cap = 0 ∧ zs = []) ∨
  ∃ x, a = some x ∧ len ≤ cap ∧ cap ≤ maxLen ∧ zs.length = cap ∧ (∀ i, i < zs.length → w.cell? (x.add i) = some (.int k (zs.getD i 0))) ∧ ∀ n ∈ zs, (Lit.int k n).wf = true

theorem begB {w : World} (h : laidMetH Tryd.prog laidL w) : Ex.BegB (Ex.baseOf w) := by
  rw [MakeChecks.laidMetH_plain _ _ _ (by kernel_rfl)] at h
  obtain ⟨ps, ⟨g0, t0, cs0, f0, p0, q0, hg0, ht0, hv0, hd0, _, _⟩, _, _⟩ := h
  obtain rfl := Option.some.inj ((show Tryd.prog.globalNamed "pointsman/arp.beginning" = some 0 by kernel_rfl).symm.trans hg0)
  obtain rfl := Option.some.inj ((show (Tryd.prog.globals[0]?).map (·.type) = some 22 by kernel_rfl).symm.trans ht0)
  have hcs := Lib.cells_of_tab (zs := [0, 1, 8, 0, 6, 4]) Tryd.underlying22 Tryd.underlying5 (by kernel_rfl) (by kernel_rfl) hd0
  have hc : cs0 = #[.int .u8 0, .int .u8 1, .int .u8 8, .int .u8 0, .int .u8 6, .int .u8 4] := by
    apply Array.ext'
    rw [hcs]; rfl
  have hv : w.var? Tryd.prog "pointsman/arp.beginning" = some cs0 := hv0
  unfold World.var? at hv
  rw [show Tryd.prog.globalNamed "pointsman/arp.beginning" = some 0 by kernel_rfl] at hv
  simp only [Option.bind_some] at hv
  split at hv
  · rename_i cs el fr hh
    cases hv
    exact ⟨(Array.getElem?_eq_some_iff.1 hh).1, el, fr, by rw [← hc]; exact hh⟩
  · cases hv

set_option maxRecDepth 100000 in
theorem walk {H : Type} {enc : TypeId × Value → H} {base : Nat} (v0 : Value) (d0 : DataW H) (p0 : List MemPlace) (a1 : Option Addr) (len1 cap1 : Nat) (z1 : List Int) (w : World) (ok0 : Value.okWide Tryd.prog w .any base 27 v0) (h0 : DataW.Trod enc Tryd.prog w 0 (fun _ => true) true 27 v0 d0 p0) (w1 : IsRow .u8 w a1 len1 cap1 z1) (ok1 : Value.okWide Tryd.prog w .any base 28 (.slice a1 len1 cap1)) (hL : laidMetH Tryd.prog laidL w) :
    Calls Tryd.prog 5 #[v0, .slice a1 len1 cap1] w fun e w' => e = .returned (.bool true) ∧ Below w.heap.size w w' := by
  obtain ⟨cs, rfl, hsz⟩ := okWide_struct Tryd.underlying27 ok0
  obtain ⟨fuel, hf⟩ := h0
  obtain ⟨xs, n, _, _, _, hx, hfs⟩ := DataW.trod_struct Tryd.underlying27 hf
  obtain ⟨c0, c1, c2, c3, c4, c5, c6, c7, c8, c9, c10, c11, c12, c13, c14, rfl⟩ := array15 (hsz.trans (by kernel_rfl))
  have hx5 : xs.length = 5 := hx
  have g : ∀ i, i < 5 → ∃ y, xs[i]? = some y := fun i hi => ⟨xs[i]'(by omega), List.getElem?_eq_getElem (by omega)⟩
  have hi : Tryd.prog.cellsOf 3 = 1 := by kernel_rfl
  have ha : Tryd.prog.cellsOf 25 = 1 := by kernel_rfl
  have hm : Tryd.prog.cellsOf 23 = 6 := by kernel_rfl
  obtain ⟨y0, e0⟩ := g 0 (by omega)
  have t0 : DataW.trod enc Tryd.prog w 0 (fun _ => true) true n 3 ((([c0, c1, c2, c3, c4, c5, c6, c7, c8, c9, c10, c11, c12, c13, c14] : List Value).drop 0).take (Tryd.prog.cellsOf 3)) = some y0 := (hfs 0 _ rfl).trans e0
  rw [hi] at t0
  change DataW.trod enc Tryd.prog w 0 (fun _ => true) true n 3 [c0] = some y0 at t0
  obtain ⟨y1, e1⟩ := g 1 (by omega)
  have t1 : DataW.trod enc Tryd.prog w 0 (fun _ => true) true n 23 ((([c0, c1, c2, c3, c4, c5, c6, c7, c8, c9, c10, c11, c12, c13, c14] : List Value).drop 1).take (Tryd.prog.cellsOf 23)) = some y1 := (hfs 1 _ rfl).trans e1
  rw [hm] at t1
  change DataW.trod enc Tryd.prog w 0 (fun _ => true) true n 23 [c1, c2, c3, c4, c5, c6] = some y1 at t1
  obtain ⟨y2, e2⟩ := g 2 (by omega)
  have t2 : DataW.trod enc Tryd.prog w 0 (fun _ => true) true n 25 ((([c0, c1, c2, c3, c4, c5, c6, c7, c8, c9, c10, c11, c12, c13, c14] : List Value).drop 7).take (Tryd.prog.cellsOf 25)) = some y2 := (hfs 2 _ rfl).trans e2
  rw [ha] at t2
  change DataW.trod enc Tryd.prog w 0 (fun _ => true) true n 25 [c7] = some y2 at t2
  obtain ⟨y3, e3⟩ := g 3 (by omega)
  have t3 : DataW.trod enc Tryd.prog w 0 (fun _ => true) true n 23 ((([c0, c1, c2, c3, c4, c5, c6, c7, c8, c9, c10, c11, c12, c13, c14] : List Value).drop 8).take (Tryd.prog.cellsOf 23)) = some y3 := (hfs 3 _ rfl).trans e3
  rw [hm] at t3
  change DataW.trod enc Tryd.prog w 0 (fun _ => true) true n 23 [c8, c9, c10, c11, c12, c13] = some y3 at t3
  obtain ⟨y4, e4⟩ := g 4 (by omega)
  have t4 : DataW.trod enc Tryd.prog w 0 (fun _ => true) true n 25 ((([c0, c1, c2, c3, c4, c5, c6, c7, c8, c9, c10, c11, c12, c13, c14] : List Value).drop 14).take (Tryd.prog.cellsOf 25)) = some y4 := (hfs 4 _ rfl).trans e4
  rw [ha] at t4
  change DataW.trod enc Tryd.prog w 0 (fun _ => true) true n 25 [c14] = some y4 at t4
  obtain ⟨k, q0, _, u0⟩ := DataW.trod_int Tryd.underlying3 t0
  obtain ⟨f, q2, _, u2⟩ := DataW.trod_int Tryd.underlying25 t2
  obtain ⟨t, q4, _, u4⟩ := DataW.trod_int Tryd.underlying25 t4
  simp at q0 q2 q4
  subst q0 q2 q4
  obtain ⟨m0, m1, m2, m3, m4, m5, rfl, rfl, rfl, rfl, rfl, rfl, s1⟩ := six_ints2 (ints_of_array2 Tryd.underlying23 Tryd.underlying5 (by kernel_rfl) hm rfl t1)
  obtain ⟨n0, n1, n2, n3, n4, n5, rfl, rfl, rfl, rfl, rfl, rfl, s2⟩ := six_ints2 (ints_of_array2 Tryd.underlying23 Tryd.underlying5 (by kernel_rfl) hm rfl t3)
  rcases w1 with ⟨rfl, rfl, rfl, rfl⟩ | ⟨q1, rfl, hl1, hm1, hz1, hc1, hw1⟩
  · exact Ex.law_of_leads (ε := fun _ => none) (ρ := fun _ => none) (h := []) (m := 0) (fn := Tryd.f5) (c := Ex.bodyOf 5) (by kernel_rfl) (by kernel_rfl) (args := [.agg #[.int .i64 k, .int .u8 m0, .int .u8 m1, .int .u8 m2, .int .u8 m3, .int .u8 m4, .int .u8 m5, .int .u32 f, .int .u8 n0, .int .u8 n1, .int .u8 n2, .int .u8 n3, .int .u8 n4, .int .u8 n5, .int .u32 t], .slice none 0 0]) (ARGS := [.agg #[.int .i64 k, .int .u8 m0, .int .u8 m1, .int .u8 m2, .int .u8 m3, .int .u8 m4, .int .u8 m5, .int .u32 f, .int .u8 n0, .int .u8 n1, .int .u8 n2, .int .u8 n3, .int .u8 n4, .int .u8 n5, .int .u32 t], .slice none 0 0]) ⟨Ex.Rl_agg.2 ⟨[.int .i64 k, .int .u8 m0, .int .u8 m1, .int .u8 m2, .int .u8 m3, .int .u8 m4, .int .u8 m5, .int .u32 f, .int .u8 n0, .int .u8 n1, .int .u8 n2, .int .u8 n3, .int .u8 n4, .int .u8 n5, .int .u32 t], rfl, ⟨Ex.Rl_int.2 rfl, Ex.Rl_int.2 rfl, Ex.Rl_int.2 rfl, Ex.Rl_int.2 rfl, Ex.Rl_int.2 rfl, Ex.Rl_int.2 rfl, Ex.Rl_int.2 rfl, Ex.Rl_int.2 rfl, Ex.Rl_int.2 rfl, Ex.Rl_int.2 rfl, Ex.Rl_int.2 rfl, Ex.Rl_int.2 rfl, Ex.Rl_int.2 rfl, Ex.Rl_int.2 rfl, Ex.Rl_int.2 rfl, trivial⟩⟩, (Ex.Rl_self rfl).2 rfl, trivial⟩ (of_decide_eq_true (by kernel_rfl)) Ex.mod_nil (fun id o e => by rw [Ex.tget_nil] at e; cases e) (fun _ _ => rfl) (Ex.arpback_0 (begB hL) (fun _ _ h => by cases h) k f t m0 m1 m2 m3 m4 m5 n0 n1 n2 n3 n4 n5 (u32_range u2).1 (u32_range u2).2 (u32_range u4).1 (u32_range u4).2 s1 s2)
  · obtain ⟨cs1, A1, b1, off1, rfl, g1_1, g2_1, g3_1, g4_1, g6_1, g7_1⟩ := Ex.rowS [] rfl ok1 Tryd.underlying28 hl1 hz1 hc1
    exact Ex.law_of_leads (ε := fun i => ([] ++ A1)[i]?) (ρ := Ex.rho1 b1) (h := Ex.tput [] 0 (some (Ex.roRow cs1))) (m := 1) (fn := Tryd.f5) (c := Ex.bodyOf 5) (by kernel_rfl) (by kernel_rfl) (args := [.agg #[.int .i64 k, .int .u8 m0, .int .u8 m1, .int .u8 m2, .int .u8 m3, .int .u8 m4, .int .u8 m5, .int .u32 f, .int .u8 n0, .int .u8 n1, .int .u8 n2, .int .u8 n3, .int .u8 n4, .int .u8 n5, .int .u32 t], .slice (some ⟨0, off1, none⟩) len1 cap1]) (ARGS := [.agg #[.int .i64 k, .int .u8 m0, .int .u8 m1, .int .u8 m2, .int .u8 m3, .int .u8 m4, .int .u8 m5, .int .u32 f, .int .u8 n0, .int .u8 n1, .int .u8 n2, .int .u8 n3, .int .u8 n4, .int .u8 n5, .int .u32 t], .slice (some ⟨b1, off1, none⟩) len1 cap1]) ⟨Ex.Rl_agg.2 ⟨[.int .i64 k, .int .u8 m0, .int .u8 m1, .int .u8 m2, .int .u8 m3, .int .u8 m4, .int .u8 m5, .int .u32 f, .int .u8 n0, .int .u8 n1, .int .u8 n2, .int .u8 n3, .int .u8 n4, .int .u8 n5, .int .u32 t], rfl, ⟨Ex.Rl_int.2 rfl, Ex.Rl_int.2 rfl, Ex.Rl_int.2 rfl, Ex.Rl_int.2 rfl, Ex.Rl_int.2 rfl, Ex.Rl_int.2 rfl, Ex.Rl_int.2 rfl, Ex.Rl_int.2 rfl, Ex.Rl_int.2 rfl, Ex.Rl_int.2 rfl, Ex.Rl_int.2 rfl, Ex.Rl_int.2 rfl, Ex.Rl_int.2 rfl, Ex.Rl_int.2 rfl, Ex.Rl_int.2 rfl, trivial⟩⟩, Ex.Rl_slice.2 ⟨(b1, 0), rfl, rfl⟩, trivial⟩ (of_decide_eq_true (by kernel_rfl)) (Ex.mod_one g6_1 fun ρ => g7_1 ρ _ fun _ _ h => h) Ex.ro_one (fun id hid => if_neg (by omega)) (Ex.arpback_1 (begB hL) (fun i V h => List.all_eq_true.1 g1_1 V (List.mem_of_getElem? h)) k f t m0 m1 m2 m3 m4 m5 n0 n1 n2 n3 n4 n5 cs1 off1 len1 cap1 (u32_range u2).1 (u32_range u2).2 (u32_range u4).1 (u32_range u4).2 s1 s2 hl1 g3_1 g4_1 (by rw [g2_1]; exact Ex.Byt.vals fun x hx => hw1 x (List.mem_of_mem_take hx)))

/-- The door's own heap meets the condition. -/
theorem door_met (os : Os) (args : Array Value) : laidMetH Tryd.prog laidL ((World.doorLaid Tryd.prog 400 os).forCall (fun _ _ => 0) ⟨#[], args, []⟩).memory :=
  laidMetH_of_parts3 (fuel := 8) (laidMet_of_run' 8 (by kernel_rfl) (by kernel_rfl)) (by kernel_rfl) (by kernel_rfl)

set_option maxRecDepth 100000 in
theorem lifted (os : Os) (started : os.Started) (H : Type) (enc : TypeId × Value → H) :
    ReturnsInHanded {} Tryd.checked os 5 .any (fun w args => (Rows.arpBackSpec.pre enc Tryd.prog Tryd.f5 [] false w args ∧ laidMetH Tryd.prog laidL w) ∧ sizedMet enc Tryd.prog Tryd.f5 (OpenSpec.ofChange Rows.arpBackSpec) false w args) (Rows.arpBackSpec.post enc Tryd.prog Tryd.f5 false true false false) := by
  refine returnsInHanded_of_change_and (C := Tryd.checked) (X := fun w _ => laidMetH Tryd.prog laidL w) (fun _ _ _ hh h => h.of_heap hh) own started (by kernel_rfl) Tryd.func5
    (ChangeSpec.witness_shaped (enc := enc) (C := Tryd.checked) (os := os) (X := fun w _ => laidMetH Tryd.prog laidL w) false (World.doorLaid Tryd.prog 400 os) #[.agg #[.int .i64 0, .int .u8 0, .int .u8 0, .int .u8 0, .int .u8 0, .int .u8 0, .int .u8 0, .int .u32 0, .int .u8 0, .int .u8 0, .int .u8 0, .int .u8 0, .int .u8 0, .int .u8 0, .int .u32 0], .slice none 0 0] 8 rfl (World.shaped_of_RefB (by kernel_rfl) (by kernel_rfl)) (by kernel_rfl) (by kernel_rfl) (by kernel_rfl) (door_met os _)) ?_
  intro W base args ds gs before hval0 hW _ _ hL _
  have hval : ∀ (j : Nat) t v, Tryd.f5.params[j]? = some t → args[j]? = some v → Value.okWide Tryd.prog W .any base t v := hval0
  have hW' := hW
  obtain ⟨p, q, hA0, hV, rfl, hfz, hnd⟩ := hW
  have hA : DataW.TrodAll enc Tryd.prog W 0 (fun _ => true) true Tryd.f5.params.toList args.toList ds p := hA0
  rw [Tryd.params5] at hA hval
  obtain ⟨v0, vs0, d0, ds0, p0, q0, hargs, rfl, rfl, h0, r0⟩ := trodAll_cons hA
  obtain ⟨v1, vs1, d1, ds1, p1, q1, rfl, rfl, rfl, h1, r1⟩ := trodAll_cons r0
  obtain ⟨rfl, rfl, rfl⟩ := trodAll_nil r1
  obtain rfl : args = #[v0, v1] := by cases args; simp_all
  obtain ⟨rfl, rfl⟩ := trodVars_none hV
  have k0 := h0
  have lt0 : ∀ x ∈ p0, x.block < W.heap.size := by obtain ⟨m, hm⟩ := k0; exact DataW.trod_lt m _ _ _ hm
  obtain ⟨a1, len1, cap1, rfl⟩ := okWide_slice Tryd.underlying28 (hval 1 28 v1 rfl rfl)
  have k1 := h1
  have lt1 : ∀ x ∈ p1, x.block < W.heap.size := by obtain ⟨m, hm⟩ := k1; exact DataW.trod_lt m _ _ _ hm
  obtain ⟨z1, w1⟩ : ∃ zs, IsRow .u8 W a1 len1 cap1 zs := by
    obtain ⟨fuel, hf⟩ := h1
    rcases open_ints Tryd.underlying28 Tryd.underlying5 (by kernel_rfl) hf with ⟨hcs, _⟩ | ⟨x, l, c, zs, hcs, _, hl, hm, hz, _, hcell, hwz⟩
    · simp [Value.cells] at hcs
      obtain ⟨rfl, rfl, rfl⟩ := hcs
      exact ⟨[], .inl ⟨rfl, rfl, rfl, rfl⟩⟩
    · simp [Value.cells] at hcs
      obtain ⟨rfl, rfl, rfl⟩ := hcs
      exact ⟨zs, .inr ⟨_, rfl, hl, hm, by simpa using hz, hcell, hwz⟩⟩
  clear hA0 hval0
  refine (walk v0 _ _ a1 len1 cap1 z1 W (hval 0 27 v0 rfl rfl) h0 w1 (hval 1 28 _ rfl rfl) hL).mono fun e W' ⟨he, bel⟩ => ?_
  subst he
  exact ⟨_, rfl, _, _, _, [], _, [], hW', trodAll_mk1 (shut_bool Tryd.underlying4 _), (trodAll_cons_mk (Below.trod laidOut (by kernel_rfl) (of_decide_eq_true (by kernel_rfl)) k0 bel lt0) (trodAll_cons_mk (Below.trod laidOut (by kernel_rfl) (of_decide_eq_true (by kernel_rfl)) k1 bel lt1) trodAll_mk0)), rfl, bel.frame _, fun h => by cases h⟩

theorem over : Rows.arpBackRow.holds Tryd.pinned (OpenSpec.ofChange Rows.arpBackSpec) :=
  OpenClaim.holds_of_wide 5 Tryd.f5 rfl rfl rfl rfl rfl rfl rfl ⟨rfl, rfl, rfl, rfl, rfl⟩ rfl rfl rfl rfl rfl (by kernel_rfl) Tryd.func5 (by kernel_rfl)
    (of_decide_eq_true (by kernel_rfl)) (by unfold Func.isWrapper; first | (rw [if_pos (by decide +kernel)]; kernel_rfl) | (rw [if_neg (by decide +kernel)]; exact ⟨rfl, rfl⟩))
    (fun os started H enc _ => lifted os started H enc)

/-- The statement: the card. -/
theorem proved : Rows.ArpBackCardSaid :=
  Claim7.holds_tied_plain_at .later [] [.data] true (true, "4b2556ed27b3a43d34ce85e8eab52ad4f7444c29d62f90391d11ffda1d22c3b4") false
    over (fun _ h => by cases h) (by kernel_rfl) (fun _ h => by cases h) arpBack_row_tie rfl ⟨rfl, rfl⟩ (by kernel_rfl) rfl
    (fun f fn hf hfn => by
      obtain rfl : f = 5 := Option.some.inj ((show Tryd.prog.funcNamed Tryd.f5.name = some 5 by kernel_rfl).symm.trans hf) |>.symm
      obtain rfl : fn = Tryd.f5 := (Option.some.inj (Tryd.func5.symm.trans hfn)).symm
      exact ⟨by kernel_rfl, fun j t ht => by
        rw [Tryd.params5] at ht
        have hm : t ∈ ([27, 28] : List Nat) := by have := Array.mem_of_getElem? ht; simp at this ⊢; first | omega | (rcases this with h | h | h | h <;> simp [h]) | (rcases this with h | h | h <;> simp [h]) | (rcases this with h | h <;> simp [h]) | simp [this]
        have hall : (([27, 28] : List Nat).all fun u => !Tryd.prog.wantsStandIn u) = true := by kernel_rfl
        exact (show Tryd.prog.wantsStandIn t = false by simpa using List.all_eq_true.1 hall t hm)⟩)
    (by kernel_rfl)
#print axioms proved
end Go.Proofs.YtimjcamgkiabdaaDoor.arpBack
