/- Proved: for every number, every int and every list of calls, JoinBounded returns true and the list reads afterwards as before (the first 40 calls are looked at, and 60 bytes of each). No conditions. -/
import Derived.Test.YtemphincefamfaaRows
import Derived.WalkKit
import Derived.ProofKit
import Derived.OpenShut
import Derived.ShutString
import Derived.ChangeOld
import Derived.Below
import Derived.Test.YtemphincefamfaaJoinActs
import Derived.Test.YtemphincefamfaaStructs
namespace Go.Proofs.Ytemphincefamfaa.joinBounded
open Go.ChangeShapes Go.WideShapes Go.ChangeAt Go.RowKit
open Go.ChangeMaps (open_string shut_string)
set_option linter.unusedVariables false
set_option linter.unusedSimpArgs false

theorem own : ownKnob Try.prog.godebug = none := by kernel_rfl
theorem laidOut : laidOutB Try.prog = true := by kernel_rfl

theorem acts_of {H : Type} {enc : TypeId × Value → H} {w : World} {A : Option Addr} {len cap : Nat} {d : DataW H} {p : List MemPlace}
    (h : DataW.Trod enc Try.prog w 0 (fun _ => true) true 23 (.slice A len cap) d p) : ∃ f, JActs w w.heap.size A len f ∧ len ≤ maxLen := by
  obtain ⟨fuel, hf⟩ := h
  rcases open_slice_fields Try.underlying23 Try.underlying34 (by kernel_rfl) (by kernel_rfl) hf with ⟨hcs, _⟩ | ⟨x, l, c, m, D, Pl, hcs, _, hl, hc, hm, _, hi⟩
  · simp [Value.cells] at hcs
    obtain ⟨rfl, rfl, rfl⟩ := hcs
    exact ⟨fun _ => ⟨0, 0, 0, none, [], 0⟩, fun h => absurd h (by omega), by unfold maxLen; omega⟩
  · simp [Value.cells] at hcs
    obtain ⟨rfl, rfl, rfl⟩ := hcs
    have hlm : len ≤ m := by rw [hm]; split <;> omega
    have key : ∀ i, ∃ q : Act', i < len → w.cell? (x.add (i * 4 + 0)) = some (.int .i64 q.do_) ∧ w.cell? (x.add (i * 4 + 1)) = some (.int .i64 q.n) ∧ w.cell? (x.add (i * 4 + 2)) = some (.int .u32 q.at_) ∧
        w.cell? (x.add (i * 4 + 3)) = some (.slice q.A q.zs.length q.cap) ∧ 0 ≤ q.at_ ∧ q.at_ < 4294967296 ∧ Ints .u8 w w.heap.size q.A q.zs ∧ q.zs.length ≤ maxLen ∧ q.zs.length ≤ q.cap := fun i => by
      by_cases hil : i < len
      · obtain ⟨ys, n, _, _, _, hfl⟩ := hi i (by omega)
        obtain ⟨v0, y0, hc0, _, ht0⟩ := hfl 0 _ rfl
        obtain ⟨v1, y1, hc1, _, ht1⟩ := hfl 1 _ rfl
        obtain ⟨v2, y2, hc2, _, ht2⟩ := hfl 2 _ rfl
        obtain ⟨v3, y3, hc3, _, ht3⟩ := hfl 3 _ rfl
        obtain ⟨n0, e0, _, _⟩ := DataW.trod_int Try.underlying3 ht0
        obtain ⟨n1, e1, _, _⟩ := DataW.trod_int Try.underlying3 ht1
        obtain ⟨n2, e2, _, w2⟩ := DataW.trod_int Try.underlying22 ht2
        simp at e0 e1 e2
        subst e0 e1 e2
        have w2' : 0 ≤ n2 ∧ n2 < 4294967296 := by have h := w2; simp [Lit.wf, IntKind.min, IntKind.max, IntKind.signed, IntKind.bits] at h; omega
        have h3 : ∃ (a : Option Addr) (l3 c3 : Nat) (zs : List Int), v3 = .slice a l3 c3 ∧ ((a = none ∧ l3 = 0 ∧ c3 = 0 ∧ zs = []) ∨ ∃ x : Addr, a = some x ∧ l3 ≤ c3 ∧ c3 ≤ maxLen ∧ zs.length = c3 ∧ (∀ i, i < zs.length → w.cell? (x.add i) = some (.int .u8 (zs.getD i 0))) ∧ ∀ n ∈ zs, (Lit.int .u8 n).wf = true) := by
          rcases open_ints Try.underlying32 Try.underlying5 (by kernel_rfl) ht3 with ⟨hcs, _⟩ | ⟨x3, l3, c3, zs, hcs, _, hl3, hm3, hz3, _, hcell3, hwz3⟩
          · simp at hcs
            exact ⟨none, 0, 0, [], hcs, .inl ⟨rfl, rfl, rfl, rfl⟩⟩
          · simp at hcs
            exact ⟨_, l3, c3, zs, hcs, .inr ⟨_, rfl, hl3, hm3, by simpa using hz3, hcell3, hwz3⟩⟩
        obtain ⟨a3, l3, c3, zs, rfl, hrow⟩ := h3
        obtain ⟨r1, r2, r3, r4⟩ := Ints.of_row hrow
        exact ⟨⟨n0, n1, n2, a3, zs.take l3, c3⟩, fun _ => ⟨hc0, hc1, hc2, by rw [r2]; exact hc3, w2'.1, w2'.2, r1, by rw [r2]; exact r3, by rw [r2]; exact r4⟩⟩
      · exact ⟨⟨0, 0, 0, none, [], 0⟩, fun h => absurd h hil⟩
    refine ⟨fun i => (key i).choose, fun h0 => ?_, by omega⟩
    obtain ⟨b, off, spot⟩ := x
    have hc0 := ((key 0).choose_spec h0).1
    have hs : spot = none := by simpa [Addr.add] using World.cell?_spot hc0
    subst hs
    refine ⟨b, off, rfl, block_lt (o := off) (by simpa [Addr.add] using hc0), fun i hi => ?_⟩
    obtain ⟨k0, k1, k2, k3, k4⟩ := (key i).choose_spec hi
    refine ⟨?_, by simpa [Addr.add, Nat.add_assoc] using k1, by simpa [Addr.add, Nat.add_assoc] using k2, by simpa [Addr.add, Nat.add_assoc] using k3, k4⟩
    by_cases h0 : i = 0
    · subst h0; simpa [Addr.add] using k0
    · have h2 : i * 4 ≠ 0 := by omega
      simpa [Addr.add, h2] using k0

theorem walk {H : Type} {enc : TypeId × Value → H} {base : Nat} (a0 : Int) (a1 : Int) (v2 : Value) (d2 : DataW H) (p2 : List MemPlace) (w : World) (w0 : (Lit.int .u32 a0).wf = true) (w1 : (Lit.int .i64 a1).wf = true) (ok2 : Value.okWide Try.prog w .any base 23 v2) (h2 : DataW.Trod enc Try.prog w 0 (fun _ => true) true 23 v2 d2 p2) :
    Calls Try.prog 5 #[.int .u32 a0, .int .i64 a1, v2] w fun e w' => e = .returned (.bool true) ∧ Below w.heap.size w w' := by
  obtain ⟨A, len, cap, rfl⟩ := okWide_slice Try.underlying23 ok2
  obtain ⟨f, hf, hl⟩ := acts_of h2
  have w0' : 0 ≤ a0 ∧ a0 < 4294967296 := by have h := w0; simp [Lit.wf, IntKind.min, IntKind.max, IntKind.signed, IntKind.bits] at h; omega
  exact joinBounded_walk a0 a1 A len cap f w w0'.1 w0'.2 hf hl

set_option maxRecDepth 100000 in
theorem lifted (os : Os) (started : os.Started) (H : Type) (enc : TypeId × Value → H) :
    ReturnsInHanded {} Try.checked os 5 .any (Rows.joinBoundedSpec.pre6 enc Try.prog Try.f5 Rows.joinBoundedRow.domain false) (Rows.joinBoundedSpec.post enc Try.prog Try.f5 false true false false) := by
  refine returnsInHanded_of_change (C := Try.checked) own started (by kernel_rfl) Try.func5
    (ChangeSpec.witness6 (enc := enc) (C := Try.checked) false ⟨#[], #[.int .u32 0, .int .i64 0, .slice none 0 0], []⟩ 8 (by kernel_rfl) (by kernel_rfl) (by kernel_rfl) (by kernel_rfl)) ?_
  intro W base args ds gs before hval0 hW hcnd _
  have hval : ∀ (j : Nat) t v, Try.f5.params[j]? = some t → args[j]? = some v → Value.okWide Try.prog W .any base t v := hval0
  have hW' := hW
  obtain ⟨p, q, hA0, hV, rfl, hfz, hnd⟩ := hW
  have hA : DataW.TrodAll enc Try.prog W 0 (fun _ => true) true Try.f5.params.toList args.toList ds p := hA0
  rw [Try.params5] at hA hval
  obtain ⟨v0, vs0, d0, ds0, p0, q0, hargs, rfl, rfl, h0, r0⟩ := trodAll_cons hA
  obtain ⟨v1, vs1, d1, ds1, p1, q1, rfl, rfl, rfl, h1, r1⟩ := trodAll_cons r0
  obtain ⟨v2, vs2, d2, ds2, p2, q2, rfl, rfl, rfl, h2, r2⟩ := trodAll_cons r1
  obtain ⟨rfl, rfl, rfl⟩ := trodAll_nil r2
  obtain rfl : args = #[v0, v1, v2] := by cases args; simp_all
  obtain ⟨rfl, rfl⟩ := trodVars_none hV
  obtain ⟨a0, rfl, rfl, rfl, w0⟩ := open_int Try.underlying22 (hval 0 22 v0 rfl rfl) h0
  obtain ⟨a1, rfl, rfl, rfl, w1⟩ := open_int Try.underlying3 (hval 1 3 v1 rfl rfl) h1
  have k2 := h2
  have lt2 : ∀ x ∈ p2, x.block < W.heap.size := by obtain ⟨m, hm⟩ := k2; exact DataW.trod_lt m _ _ _ hm
  clear hA0 hval0
  refine (walk a0 a1 v2 _ _ W w0 w1 (hval 2 23 v2 rfl rfl) h2).mono fun e W' ⟨he, bel⟩ => ?_
  subst he
  exact ⟨_, rfl, _, _, _, [], _, [], hW', trodAll_mk1 (shut_bool Try.underlying4 _), (trodAll_cons_mk (shut_int Try.underlying22 w0) (trodAll_cons_mk (shut_int Try.underlying3 w1) (trodAll_cons_mk (Below.trod laidOut (by kernel_rfl) (of_decide_eq_true (by kernel_rfl)) k2 bel lt2) trodAll_mk0))), rfl, bel.frame _, fun h => by cases h⟩

theorem over : Rows.joinBoundedRow.holds Try.pinned (OpenSpec.ofChange Rows.joinBoundedSpec) :=
  OpenClaim.holds_of_wide 5 Try.f5 rfl rfl rfl rfl rfl rfl rfl ⟨rfl, rfl, rfl, rfl, rfl⟩ rfl rfl rfl rfl rfl (by kernel_rfl) Try.func5 (by kernel_rfl)
    (of_decide_eq_true (by kernel_rfl)) (by unfold Func.isWrapper; first | (rw [if_pos (by decide +kernel)]; kernel_rfl) | (rw [if_neg (by decide +kernel)]; exact ⟨rfl, rfl⟩))
    (fun os started H enc _ => lifted os started H enc)

/-- The statement. -/
theorem proved : Rows.JoinBoundedSaid := over
#print axioms proved
end Go.Proofs.Ytemphincefamfaa.joinBounded
