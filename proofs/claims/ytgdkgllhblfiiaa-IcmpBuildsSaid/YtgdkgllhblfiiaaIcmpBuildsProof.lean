/- Proved: for every message and all bytes IcmpBuilds returns true, and both read afterwards as before. No conditions. -/
import Derived.Test.YtgdkgllhblfiiaaRows
import Derived.WalkKit
import Derived.ProofKit
import Derived.OpenShut
import Derived.ShutString
import Derived.ChangeOld
import Derived.Below
import Derived.Test.YtgdkgllhblfiiaaIcmpL
import Derived.Test.YtgdkgllhblfiiaaIcmpM
import Derived.Test.YtgdkgllhblfiiaaIcmpN
import Derived.Test.YtgdkgllhblfiiaaIcmpO
import Derived.Lib.SmallJoins
namespace Go.Proofs.Ytgdkgllhblfiiaa.icmpBuilds
open Go.ChangeShapes Go.WideShapes Go.ChangeAt Go.RowKit
open Go.ChangeMaps (open_string shut_string)
set_option linter.unusedVariables false
set_option linter.unusedSimpArgs false

theorem own : ownKnob Try.prog.godebug = none := by kernel_rfl
theorem laidOut : laidOutB Try.prog = true := by kernel_rfl

/-- A slice of integers that came in: nil, or a row of cells. -/
def IsRow (k : IntKind) (w : World) (a : Option Addr) (len cap : Nat) (zs : List Int) : Prop :=
  (a = none ∧ len = 0 ∧ cap = 0 ∧ zs = []) ∨
  ∃ x, a = some x ∧ len ≤ cap ∧ cap ≤ maxLen ∧ zs.length = cap ∧ (∀ i, i < zs.length → w.cell? (x.add i) = some (.int k (zs.getD i 0))) ∧ ∀ n ∈ zs, (Lit.int k n).wf = true

theorem row_of {H : Type} {enc : TypeId × Value → H} {w : World} {base fuel : Nat} {v3 : Value} {y : DataW H × List MemPlace} (ht : DataW.trod enc Try.prog w base (fun _ => true) true fuel 23 [v3] = some y) :
    ∃ (a : Option Addr) (l3 c3 : Nat) (zs : List Int), v3 = .slice a l3 c3 ∧ ((a = none ∧ l3 = 0 ∧ c3 = 0 ∧ zs = []) ∨ ∃ x : Addr, a = some x ∧ l3 ≤ c3 ∧ c3 ≤ maxLen ∧ zs.length = c3 ∧ (∀ i, i < zs.length → w.cell? (x.add i) = some (.int .u8 (zs.getD i 0))) ∧ ∀ n ∈ zs, (Lit.int .u8 n).wf = true) := by
  rcases open_ints Try.underlying23 Try.underlying5 (by kernel_rfl) ht with ⟨hcs, _⟩ | ⟨x3, l3, c3, zs, hcs, _, hl3, hm3, hz3, _, hcell3, hwz3⟩
  · simp at hcs
    exact ⟨none, 0, 0, [], hcs, .inl ⟨rfl, rfl, rfl, rfl⟩⟩
  · simp at hcs
    exact ⟨_, l3, c3, zs, hcs, .inr ⟨_, rfl, hl3, hm3, by simpa using hz3, hcell3, hwz3⟩⟩
theorem slice_ok {w : World} {base : Nat} {v0 v1 v2 v3 : Value} (h : Value.okWide Try.prog w .any base 25 (.agg #[v0, v1, v2, v3])) : Value.okWide Try.prog w .any base 23 v3 := by
  unfold Value.okWide at h
  rw [Try.underlying25] at h
  obtain ⟨cs, hv, _, ts, hts, _, hall⟩ := h
  cases hv
  obtain ⟨u, hu, hok⟩ := hall 3 v3 rfl
  have hT : Try.prog.cellTypes Try.prog.depth 25 = some [3, 3, 22, 23] := by kernel_rfl
  obtain rfl := Option.some.inj (hT.symm.trans hts)
  obtain rfl : 23 = u := by simpa using hu
  unfold Value.okWide
  rw [Try.underlying23]
  exact hok

set_option maxRecDepth 100000 in
theorem walk {H : Type} {enc : TypeId × Value → H} {base : Nat} (v0 : Value) (d0 : DataW H) (p0 : List MemPlace) (a1 : Option Addr) (len1 cap1 : Nat) (z1 : List Int) (w : World) (ok0 : Value.okWide Try.prog w .any base 25 v0) (h0 : DataW.Trod enc Try.prog w 0 (fun _ => true) true 25 v0 d0 p0) (w1 : IsRow .u8 w a1 len1 cap1 z1) (ok1 : Value.okWide Try.prog w .any base 23 (.slice a1 len1 cap1)) :
    Calls Try.prog 3 #[v0, .slice a1 len1 cap1] w fun e w' => e = .returned (.bool true) ∧ Below w.heap.size w w' := by
  obtain ⟨x0, x1, x2, x3, y0, y1, y2, y3, n, rfl, _, _, t0, t1, t2, t3⟩ := Go.Joins.open_agg4 Try.underlying25 (by kernel_rfl) (by kernel_rfl) ok0 h0
  obtain ⟨n0, e0, _, _⟩ := DataW.trod_int Try.underlying3 t0
  obtain ⟨n1, e1, _, _⟩ := DataW.trod_int Try.underlying3 t1
  obtain ⟨n2, e2, _, u2⟩ := DataW.trod_int Try.underlying22 t2
  simp at e0 e1 e2
  subst e0 e1 e2
  have k3 := slice_ok ok0
  have hr : 0 ≤ n2 ∧ n2 < 4294967296 := by
    simp [Lit.wf, IntKind.min, IntKind.max, IntKind.signed, IntKind.bits] at u2
    omega
  obtain ⟨a3, l3, c3, zs, rfl, hrow⟩ := row_of t3
  rcases hrow with ⟨rfl, rfl, rfl, rfl⟩ | ⟨x, rfl, hl, hm, hz, hc, hw⟩ <;> rcases w1 with ⟨rfl, rfl, rfl, rfl⟩ | ⟨x', rfl, hl', hm', hz', hc', hw'⟩
  · exact Ex.law_of_leads (ε := fun _ => none) (ρ := fun _ => none) (h := []) (m := 0) (fn := Try.f3) (c := Ex.bodyOf 3) (by kernel_rfl) (by kernel_rfl) (args := [.agg #[.int .i64 n0, .int .i64 n1, .int .u32 n2, .slice none 0 0], .slice none 0 0]) (ARGS := [.agg #[.int .i64 n0, .int .i64 n1, .int .u32 n2, .slice none 0 0], .slice none 0 0]) ⟨Ex.Rl_agg.2 ⟨[.int .i64 n0, .int .i64 n1, .int .u32 n2, .slice none 0 0], rfl, ⟨Ex.Rl_int.2 rfl, Ex.Rl_int.2 rfl, Ex.Rl_int.2 rfl, (Ex.Rl_self rfl).2 rfl, trivial⟩⟩, (Ex.Rl_self rfl).2 rfl, trivial⟩ (of_decide_eq_true (by kernel_rfl)) Ex.mod_nil (fun id o e => by rw [Ex.tget_nil] at e; cases e) (fun _ _ => rfl) (Ex.ibuilds_00 (fun _ _ h => by cases h) n0 n1 n2 hr.1 hr.2)
  · obtain ⟨ds, B, c, off', rfl, i1, i2, i3, i4, i6, i7⟩ := Ex.rowS [] rfl ok1 Try.underlying23 hl' hz' hc'
    exact Ex.law_of_leads (ε := fun i => ([] ++ B)[i]?) (ρ := Ex.rho1 c) (h := Ex.tput [] 0 (some (Ex.roRow ds))) (m := 1) (fn := Try.f3) (c := Ex.bodyOf 3) (by kernel_rfl) (by kernel_rfl) (args := [.agg #[.int .i64 n0, .int .i64 n1, .int .u32 n2, .slice none 0 0], .slice (some ⟨0, off', none⟩) len1 cap1]) (ARGS := [.agg #[.int .i64 n0, .int .i64 n1, .int .u32 n2, .slice none 0 0], .slice (some ⟨c, off', none⟩) len1 cap1]) ⟨Ex.Rl_agg.2 ⟨[.int .i64 n0, .int .i64 n1, .int .u32 n2, .slice none 0 0], rfl, ⟨Ex.Rl_int.2 rfl, Ex.Rl_int.2 rfl, Ex.Rl_int.2 rfl, (Ex.Rl_self rfl).2 rfl, trivial⟩⟩, Ex.Rl_slice.2 ⟨(c, 0), rfl, rfl⟩, trivial⟩ (of_decide_eq_true (by kernel_rfl)) (Ex.mod_one i6 fun ρ => i7 ρ _ fun _ _ h => h) Ex.ro_one (fun id hid => if_neg (by omega)) (Ex.ibuilds_01 (fun i V h => List.all_eq_true.1 i1 V (List.mem_of_getElem? h)) n0 n1 n2 ds off' len1 cap1 hr.1 hr.2 hl' i3 i4 (by rw [i2]; exact Ex.Byt.vals fun x hx => hw' x (List.mem_of_mem_take hx)))
  · obtain ⟨cs, A, b, off, rfl, h1, h2, h3, h4, h6, h7⟩ := Ex.rowS [] rfl k3 Try.underlying23 hl hz hc
    exact Ex.law_of_leads (ε := fun i => ([] ++ A)[i]?) (ρ := Ex.rho1 b) (h := Ex.tput [] 0 (some (Ex.roRow cs))) (m := 1) (fn := Try.f3) (c := Ex.bodyOf 3) (by kernel_rfl) (by kernel_rfl) (args := [.agg #[.int .i64 n0, .int .i64 n1, .int .u32 n2, .slice (some ⟨0, off, none⟩) l3 c3], .slice none 0 0]) (ARGS := [.agg #[.int .i64 n0, .int .i64 n1, .int .u32 n2, .slice (some ⟨b, off, none⟩) l3 c3], .slice none 0 0]) ⟨Ex.Rl_agg.2 ⟨[.int .i64 n0, .int .i64 n1, .int .u32 n2, .slice (some ⟨b, off, none⟩) l3 c3], rfl, ⟨Ex.Rl_int.2 rfl, Ex.Rl_int.2 rfl, Ex.Rl_int.2 rfl, Ex.Rl_slice.2 ⟨(b, 0), rfl, rfl⟩, trivial⟩⟩, (Ex.Rl_self rfl).2 rfl, trivial⟩ (of_decide_eq_true (by kernel_rfl)) (Ex.mod_one h6 fun ρ => h7 ρ _ fun _ _ h => h) Ex.ro_one (fun id hid => if_neg (by omega)) (Ex.ibuilds_10 (fun i V h => List.all_eq_true.1 h1 V (List.mem_of_getElem? h)) n0 n1 n2 cs off l3 c3 hr.1 hr.2 hl h3 h4 (by rw [h2]; exact Ex.Byt.vals fun x hx => hw x (List.mem_of_mem_take hx)))
  · obtain ⟨cs, A, b, off, rfl, h1, h2, h3, h4, h6, h7⟩ := Ex.rowS [] rfl k3 Try.underlying23 hl hz hc
    obtain ⟨ds, B, c, off', rfl, i1, i2, i3, i4, i6, i7⟩ := Ex.rowS ([] ++ A) h1 ok1 Try.underlying23 hl' hz' hc'
    exact Ex.law_of_leads (ε := fun i => (([] ++ A) ++ B)[i]?) (ρ := Ex.rho2 b c) (h := Ex.tput (Ex.tput [] 0 (some (Ex.roRow cs))) 1 (some (Ex.roRow ds))) (m := 2) (fn := Try.f3) (c := Ex.bodyOf 3) (by kernel_rfl) (by kernel_rfl) (args := [.agg #[.int .i64 n0, .int .i64 n1, .int .u32 n2, .slice (some ⟨0, off, none⟩) l3 c3], .slice (some ⟨1, off', none⟩) len1 cap1]) (ARGS := [.agg #[.int .i64 n0, .int .i64 n1, .int .u32 n2, .slice (some ⟨b, off, none⟩) l3 c3], .slice (some ⟨c, off', none⟩) len1 cap1]) ⟨Ex.Rl_agg.2 ⟨[.int .i64 n0, .int .i64 n1, .int .u32 n2, .slice (some ⟨b, off, none⟩) l3 c3], rfl, ⟨Ex.Rl_int.2 rfl, Ex.Rl_int.2 rfl, Ex.Rl_int.2 rfl, Ex.Rl_slice.2 ⟨(b, 0), rfl, rfl⟩, trivial⟩⟩, Ex.Rl_slice.2 ⟨(c, 0), rfl, rfl⟩, trivial⟩ (of_decide_eq_true (by kernel_rfl)) (Ex.mod_two h6 i6 (fun ρ => h7 ρ _ fun i x hx => by rw [List.getElem?_append_left (List.getElem?_eq_some_iff.1 hx).1]; exact hx) (fun ρ => i7 ρ _ fun _ _ h => h)) Ex.ro_two (fun id hid => by unfold Ex.rho2; rw [if_neg (by omega), if_neg (by omega)]) (Ex.ibuilds_11 (fun i V h => List.all_eq_true.1 i1 V (List.mem_of_getElem? h)) n0 n1 n2 cs off l3 c3 ds off' len1 cap1 hr.1 hr.2 hl h3 h4 (by rw [h2]; exact Ex.Byt.vals fun x hx => hw x (List.mem_of_mem_take hx)) hl' i3 i4 (by rw [i2]; exact Ex.Byt.vals fun x hx => hw' x (List.mem_of_mem_take hx)))

set_option maxRecDepth 100000 in
theorem lifted (os : Os) (started : os.Started) (H : Type) (enc : TypeId × Value → H) :
    ReturnsInHanded {} Try.checked os 3 .any (Rows.icmpBuildsSpec.pre6 enc Try.prog Try.f3 Rows.icmpBuildsRow.domain false) (Rows.icmpBuildsSpec.post enc Try.prog Try.f3 false true false false) := by
  refine returnsInHanded_of_change (C := Try.checked) own started (by kernel_rfl) Try.func3
    (ChangeSpec.witness6 (enc := enc) (C := Try.checked) false ⟨#[], #[.agg #[.int .i64 0, .int .i64 0, .int .u32 0, .slice none 0 0], .slice none 0 0], []⟩ 8 (by kernel_rfl) (by kernel_rfl) (by kernel_rfl) (by kernel_rfl)) ?_
  intro W base args ds gs before hval0 hW hcnd _
  have hval : ∀ (j : Nat) t v, Try.f3.params[j]? = some t → args[j]? = some v → Value.okWide Try.prog W .any base t v := hval0
  have hW' := hW
  obtain ⟨p, q, hA0, hV, rfl, hfz, hnd⟩ := hW
  have hA : DataW.TrodAll enc Try.prog W 0 (fun _ => true) true Try.f3.params.toList args.toList ds p := hA0
  rw [Try.params3] at hA hval
  obtain ⟨v0, vs0, d0, ds0, p0, q0, hargs, rfl, rfl, h0, r0⟩ := trodAll_cons hA
  obtain ⟨v1, vs1, d1, ds1, p1, q1, rfl, rfl, rfl, h1, r1⟩ := trodAll_cons r0
  obtain ⟨rfl, rfl, rfl⟩ := trodAll_nil r1
  obtain rfl : args = #[v0, v1] := by cases args; simp_all
  obtain ⟨rfl, rfl⟩ := trodVars_none hV
  have k0 := h0
  have lt0 : ∀ x ∈ p0, x.block < W.heap.size := by obtain ⟨m, hm⟩ := k0; exact DataW.trod_lt m _ _ _ hm
  obtain ⟨a1, len1, cap1, rfl⟩ := okWide_slice Try.underlying23 (hval 1 23 v1 rfl rfl)
  have k1 := h1
  have lt1 : ∀ x ∈ p1, x.block < W.heap.size := by obtain ⟨m, hm⟩ := k1; exact DataW.trod_lt m _ _ _ hm
  obtain ⟨z1, w1⟩ : ∃ zs, IsRow .u8 W a1 len1 cap1 zs := by
    obtain ⟨fuel, hf⟩ := h1
    rcases open_ints Try.underlying23 Try.underlying5 (by kernel_rfl) hf with ⟨hcs, _⟩ | ⟨x, l, c, zs, hcs, _, hl, hm, hz, _, hcell, hwz⟩
    · simp [Value.cells] at hcs
      obtain ⟨rfl, rfl, rfl⟩ := hcs
      exact ⟨[], .inl ⟨rfl, rfl, rfl, rfl⟩⟩
    · simp [Value.cells] at hcs
      obtain ⟨rfl, rfl, rfl⟩ := hcs
      exact ⟨zs, .inr ⟨_, rfl, hl, hm, by simpa using hz, hcell, hwz⟩⟩
  clear hA0 hval0
  refine (walk v0 _ _ a1 len1 cap1 z1 W (hval 0 25 v0 rfl rfl) h0 w1 (hval 1 23 _ rfl rfl)).mono fun e W' ⟨he, bel⟩ => ?_
  subst he
  exact ⟨_, rfl, _, _, _, [], _, [], hW', trodAll_mk1 (shut_bool Try.underlying4 _), (trodAll_cons_mk (Below.trod laidOut (by kernel_rfl) (of_decide_eq_true (by kernel_rfl)) k0 bel lt0) (trodAll_cons_mk (Below.trod laidOut (by kernel_rfl) (of_decide_eq_true (by kernel_rfl)) k1 bel lt1) trodAll_mk0)), rfl, bel.frame _, fun h => by cases h⟩

theorem over : Rows.icmpBuildsRow.holds Try.pinned (OpenSpec.ofChange Rows.icmpBuildsSpec) :=
  OpenClaim.holds_of_wide 3 Try.f3 rfl rfl rfl rfl rfl rfl rfl ⟨rfl, rfl, rfl, rfl, rfl⟩ rfl rfl rfl rfl rfl (by kernel_rfl) Try.func3 (by kernel_rfl)
    (of_decide_eq_true (by kernel_rfl)) (by unfold Func.isWrapper; first | (rw [if_pos (by decide +kernel)]; kernel_rfl) | (rw [if_neg (by decide +kernel)]; exact ⟨rfl, rfl⟩))
    (fun os started H enc _ => lifted os started H enc)

/-- The statement. -/
theorem proved : Rows.IcmpBuildsSaid := over
#print axioms proved
end Go.Proofs.Ytgdkgllhblfiiaa.icmpBuilds
