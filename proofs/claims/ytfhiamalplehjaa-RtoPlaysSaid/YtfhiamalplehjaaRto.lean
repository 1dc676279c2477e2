/- What the calls of an estimate come to: how long to wait. Conditions: the estimate is a block of memory of its own. -/
import Derived.Test.YtfhiamalplehjaaRows
import Derived.Test.YtfhiamalplehjaaBlk
import Derived.Test.YtfhiamalplehjaaAmong
import Derived.Test.YtfhiamalplehjaaGoto
import Derived.Outline
import Derived.Deep.QuietTactic
import Derived.BigQuiet
import Derived.BigRegion
set_option linter.unusedVariables false
set_option linter.unusedSimpArgs false
namespace Go.Proofs.Ytfhiamalplehjaa
open Go.RowKit

/-- An estimate that was made. -/
def Est (w : World) (g : Nat) (m : Bool) (s v t : Int) : Prop := Blk w g 43 #[.bool true, .bool m, .int .i64 s, .int .i64 v, .int .i64 t]

section
variable {w : World} {g : Nat} {m : Bool} {s v t : Int}
theorem Est.cells (h : Est w g m s v t) : w.cell? ⟨g, 0, none⟩ = some (.bool true) ∧ w.cell? ⟨g, 1, none⟩ = some (.bool m) ∧ w.cell? ⟨g, 2, none⟩ = some (.int .i64 s) ∧ w.cell? ⟨g, 3, none⟩ = some (.int .i64 v) ∧ w.cell? ⟨g, 4, none⟩ = some (.int .i64 t) :=
  ⟨Blk.cell h 0, Blk.cell h 1, Blk.cell h 2, Blk.cell h 3, Blk.cell h 4⟩
theorem Est.thaw (h : Est w g m s v t) : w.frozen? ⟨g, 1, none⟩ = false ∧ w.frozen? ⟨g, 2, none⟩ = false ∧ w.frozen? ⟨g, 3, none⟩ = false ∧ w.frozen? ⟨g, 4, none⟩ = false :=
  ⟨Blk.frozen h 1, Blk.frozen h 2, Blk.frozen h 3, Blk.frozen h 4⟩
end

/-- How much it varied, and what is smoothed, behind one more measure; how long to wait. -/
def nextV (s v r : Int) : Int := v + (max (s / 8 - r) (-(s / 8 - r)) - v / 4)
def nextS (s r : Int) : Int := s + (r - s / 8)
def baseOf (m : Bool) (s v : Int) : Int := if m = true then s / 8 + max v 1 else 30
def waitOf (m : Bool) (s v t : Int) : Int := max 5 (min (baseOf m s v * 2 ^ t.toNat) 600)
theorem base_range (m : Bool) (s v : Int) (s0 : 0 ≤ s) (s1 : s ≤ 800007) (v0 : 0 ≤ v) (v1 : v ≤ 400003) : 1 ≤ baseOf m s v ∧ baseOf m s v ≤ 600000 := by
  unfold baseOf; split <;> omega
theorem pow_range (n : Nat) (h : n ≤ 8) : 1 ≤ (2 : Int) ^ n ∧ (2 : Int) ^ n ≤ 256 := by
  have : n = 0 ∨ n = 1 ∨ n = 2 ∨ n = 3 ∨ n = 4 ∨ n = 5 ∨ n = 6 ∨ n = 7 ∨ n = 8 := by omega
  rcases this with rfl | rfl | rfl | rfl | rfl | rfl | rfl | rfl | rfl <;> decide
theorem pow_down (x y c : Int) (h : x * 2 ^ y.toNat = c) (hy : 0 < y) : x * 2 * 2 ^ (y - 1).toNat = c := by
  have e : y.toNat = (y - 1).toNat + 1 := by omega
  rw [e, Int.pow_succ] at h
  rw [← h, Int.mul_assoc, Int.mul_comm (2 ^ _) 2]
theorem pow_bound (x y b t : Int) (h : x * 2 ^ y.toNat = b * 2 ^ t.toNat) (y0 : 0 ≤ y) (y1 : y ≤ 8) (t1 : t ≤ 8) (x0 : 0 ≤ x) (b0 : 0 ≤ b) (b1 : b ≤ 600000) : x ≤ 153600000 := by
  have h1 := pow_range y.toNat (by omega)
  have h2 := pow_range t.toNat (by omega)
  have h3 : x * 1 ≤ x * 2 ^ y.toNat := Int.mul_le_mul_of_nonneg_left h1.1 x0
  have h4 : b * 2 ^ t.toNat ≤ b * 256 := Int.mul_le_mul_of_nonneg_left h2.2 b0
  omega

section
variable {w : World} {g : Nat} {m : Bool} {s v t : Int}
theorem Est.eq_ {s' v' : Int} (h : Est w g m s v t) (e1 : s = s') (e2 : v = v') : Est w g m s' v' t := by rw [← e1, ← e2]; exact h
theorem Est.only {k : Nat} {w' : World} (h : Est w g m s v t) (ho : Only k w w') (hk : g ≠ k) : Est w' g m s v t := Blk.only h ho hk
theorem Est.below {B : Nat} {w' : World} (h : Est w g m s v t) (hb : Below B w w') (hg : g < B) : Est w' g m s v t := Blk.below h hb hg
theorem Est.set1 (h : Est w g m s v t) (m' : Bool) : Est (w.setCell ⟨g, 1, none⟩ (.bool m')) g m' s v t := by have := Blk.set_ h 1 (.bool m'); simpa [Est] using this
theorem Est.set2 (h : Est w g m s v t) (x : Int) : Est (w.setCell ⟨g, 2, none⟩ (.int .i64 x)) g m x v t := by have := Blk.set_ h 2 (.int .i64 x); simpa [Est] using this
theorem Est.set3 (h : Est w g m s v t) (x : Int) : Est (w.setCell ⟨g, 3, none⟩ (.int .i64 x)) g m s x t := by have := Blk.set_ h 3 (.int .i64 x); simpa [Est] using this
theorem Est.set4 (h : Est w g m s v t) (x : Int) : Est (w.setCell ⟨g, 4, none⟩ (.int .i64 x)) g m s v x := by have := Blk.set_ h 4 (.int .i64 x); simpa [Est] using this
end

theorem ret_int {k : IntKind} {a b : Int} (h : a = b) : Ending.returned (.int k a) = Ending.returned (.int k b) := by rw [h]
theorem new_any (w : World) :
    Calls Try.prog 8 #[] w fun e w' => e = .returned (.pointer (some ⟨w.heap.size, 0, none⟩)) ∧ Est w' w.heap.size false 0 0 0 ∧ Below w.heap.size w w' := by
  go_enter Try.func8, Try.ntmps8
  go_wp2
  go_ret
  exact ⟨rfl, Blk.new _ _ _, (Below.refl _ _).alloc (Nat.le_refl _) _⟩
theorem isMade_any (g : Nat) (m : Bool) (s v t : Int) (w : World) (h : Est w g m s v t) :
    Calls Try.prog 20 #[.pointer (some ⟨g, 0, none⟩)] w fun e w' => e = .returned (.bool true) ∧ w = w' := by
  obtain ⟨c0, _⟩ := h.cells
  have H := Lib.hid h
  clear h
  go_enter Try.func20, Try.ntmps20
  go_wp2
  go_ret
  exact ⟨rfl, rfl⟩
theorem tries_any (g : Nat) (m : Bool) (s v t : Int) (w : World) (h : Est w g m s v t) :
    Calls Try.prog 18 #[.pointer (some ⟨g, 0, none⟩)] w fun e w' => e = .returned (.int .i64 t) ∧ w = w' := by
  obtain ⟨c0, c1, c2, c3, c4⟩ := h.cells
  have H := Lib.hid h
  clear h c1 c2 c3
  go_enter Try.func18, Try.ntmps18
  go_wp2_with (go_at_call 20; refine (isMade_any _ _ _ _ _ _ H.out).mono ?_; rintro e w' ⟨rfl, rfl⟩)
  go_ret
  exact ⟨rfl, rfl⟩
theorem state_any (g : Nat) (m : Bool) (s v t : Int) (w : World) (h : Est w g m s v t) :
    Calls Try.prog 15 #[.pointer (some ⟨g, 0, none⟩)] w fun e w' => e = .returned (.tuple #[.int .i64 s, .int .i64 v]) ∧ Est w' g m s v t ∧ Only g w w' := by
  obtain ⟨c0, c1, c2, c3, c4⟩ := h.cells
  have H := Lib.hid h
  clear h c1 c4
  go_enter Try.func15, Try.ntmps15
  go_wp2_with (go_at_call 20; refine (isMade_any _ _ _ _ _ _ H.out).mono ?_; rintro e w' ⟨rfl, rfl⟩)
  go_quiet (fail)
  go_wp2
  go_ret2
  exact ⟨rfl, H.out, (Only.refl _ _).drewN _⟩
theorem good_any (g : Nat) (m : Bool) (s v t : Int) (w : World) (h : Est w g m s v t) :
    Calls Try.prog 12 #[.pointer (some ⟨g, 0, none⟩)] w fun e w' => e = .returned (.tuple #[]) ∧ Est w' g m s v 0 ∧ Only g w w' := by
  obtain ⟨c0, c1, c2, c3, c4⟩ := h.cells
  obtain ⟨f1, f2, f3, f4⟩ := h.thaw
  have H := Lib.hid h
  clear h c1 c2 c3 f1 f2 f3
  go_enter Try.func12, Try.ntmps12
  go_wp2_with (go_at_call 20; refine (isMade_any _ _ _ _ _ _ H.out).mono ?_; rintro e w' ⟨rfl, rfl⟩)
  go_end0
  exact ⟨rfl, H.out.set4 0, (Only.refl _ _).setCell _ _⟩
theorem back_yes (g : Nat) (m : Bool) (s v t : Int) (w : World) (h : Est w g m s v t) (t0 : 0 ≤ t) (t1 : t < 8) :
    Calls Try.prog 10 #[.pointer (some ⟨g, 0, none⟩)] w fun e w' => e = .returned (.int .i64 0) ∧ Est w' g m s v (t + 1) ∧ Only g w w' := by
  obtain ⟨c0, c1, c2, c3, c4⟩ := h.cells
  obtain ⟨f1, f2, f3, f4⟩ := h.thaw
  have H := Lib.hid h
  clear h c1 c2 c3 f1 f2 f3
  go_enter Try.func10, Try.ntmps10
  go_wp2_with (go_at_call 20; refine (isMade_any _ _ _ _ _ _ H.out).mono ?_; rintro e w' ⟨rfl, rfl⟩)
  go_ret
  exact ⟨rfl, H.out.set4 _, (Only.refl _ _).setCell _ _⟩
theorem back_no (g : Nat) (m : Bool) (s v : Int) (w : World) (h : Est w g m s v 8) :
    Calls Try.prog 10 #[.pointer (some ⟨g, 0, none⟩)] w fun e w' => e = .returned (.int .i64 4) ∧ w' = w := by
  obtain ⟨c0, c1, c2, c3, c4⟩ := h.cells
  have H := Lib.hid h
  clear h c1 c2 c3
  go_enter Try.func10, Try.ntmps10
  go_wp2_with (go_at_call 20; refine (isMade_any _ _ _ _ _ _ H.out).mono ?_; rintro e w' ⟨rfl, rfl⟩)
  go_ret
  exact ⟨rfl, rfl⟩
theorem measure_bad (g : Nat) (m : Bool) (s v t r : Int) (w : World) (h : Est w g m s v t) (hr : r < 0 ∨ 100000 < r) :
    Calls Try.prog 13 #[.pointer (some ⟨g, 0, none⟩), .int .i64 r] w fun e w' => e = .returned (.int .i64 2) ∧ w' = w := by
  have H := Lib.hid h
  clear h
  rcases hr with hr | hr
  · go_enter Try.func13, Try.ntmps13
    go_wp2_with (go_at_call 20; refine (isMade_any _ _ _ _ _ _ H.out).mono ?_; rintro e w' ⟨rfl, rfl⟩)
    go_ret
    exact ⟨rfl, rfl⟩
  · have hr2 : ¬ r < 0 := by omega
    go_enter Try.func13, Try.ntmps13
    go_wp2_with (go_at_call 20; refine (isMade_any _ _ _ _ _ _ H.out).mono ?_; rintro e w' ⟨rfl, rfl⟩)
    go_ret
    exact ⟨rfl, rfl⟩
theorem measure_first (g : Nat) (s v t r : Int) (w : World) (h : Est w g false s v t) (r0 : 0 ≤ r) (r1 : r ≤ 100000) :
    Calls Try.prog 13 #[.pointer (some ⟨g, 0, none⟩), .int .i64 r] w fun e w' => e = .returned (.int .i64 0) ∧ Est w' g true (8 * r) (2 * r) t ∧ Only g w w' := by
  obtain ⟨c0, c1, c2, c3, c4⟩ := h.cells
  obtain ⟨f1, f2, f3, f4⟩ := h.thaw
  have H := Lib.hid h
  clear h c4 f4
  go_enter Try.func13, Try.ntmps13
  go_wp2_with (go_at_call 20; refine (isMade_any _ _ _ _ _ _ H.out).mono ?_; rintro e w' ⟨rfl, rfl⟩)
  go_ret
  exact ⟨rfl, ((H.out.set1 true).set2 _).set3 _, (((Only.refl _ _).setCell _ _).setCell _ _).setCell _ _⟩
theorem measure_more (g : Nat) (s v t r : Int) (w : World) (h : Est w g true s v t) (r0 : 0 ≤ r) (r1 : r ≤ 100000) (s0 : 0 ≤ s) (s1 : s ≤ 800007) (v0 : 0 ≤ v) (v1 : v ≤ 400003) :
    Calls Try.prog 13 #[.pointer (some ⟨g, 0, none⟩), .int .i64 r] w fun e w' => e = .returned (.int .i64 0) ∧ Est w' g true (nextS s r) (nextV s v r) t ∧ Only g w w' := by
  obtain ⟨c0, c1, c2, c3, c4⟩ := h.cells
  obtain ⟨f1, f2, f3, f4⟩ := h.thaw
  have H := Lib.hid h
  clear h c4 f4
  go_enter Try.func13, Try.ntmps13
  go_wp2_with (go_at_call 20; refine (isMade_any _ _ _ _ _ _ H.out).mono ?_; rintro e w' ⟨rfl, rfl⟩)
  go_region
  all_goals (go_wp2; skip)
  all_goals go_region
  all_goals (go_wp2; skip)
  all_goals go_ret
  all_goals exact ⟨rfl, (Est.set2 (Est.set3 H.out _) _).eq_ (by unfold nextS; omega) (by unfold nextV; omega), by repeat (first | exact Only.refl _ _ | apply Only.drew | apply Only.setCell)⟩

set_option maxHeartbeats 2000000 in
theorem wait_any (g : Nat) (m : Bool) (s v t : Int) (w : World) (h : Est w g m s v t) (s0 : 0 ≤ s) (s1 : s ≤ 800007) (v0 : 0 ≤ v) (v1 : v ≤ 400003) (t0 : 0 ≤ t) (t1 : t ≤ 8) :
    Calls Try.prog 16 #[.pointer (some ⟨g, 0, none⟩)] w fun e w' => e = .returned (.int .i64 (waitOf m s v t)) ∧ Est w' g m s v t ∧ Only g w w' := by
  obtain ⟨c0, c1, c2, c3, c4⟩ := h.cells
  have hb := base_range m s v s0 s1 v0 v1
  have hbe : baseOf m s v = if m = true then s / 8 + max v 1 else 30 := rfl
  have hw : waitOf m s v t = max 5 (min (baseOf m s v * 2 ^ t.toNat) 600) := rfl
  generalize baseOf m s v = b at *
  have HBE := Lib.hid hbe
  have HW := Lib.hid hw
  have H := Lib.hid h
  clear h hbe hw
  go_enter Try.func16, Try.ntmps16
  go_wp2
  refine wp_scope_hops 0 (fun l a' w' => l = 0 ∧ ((fun a' w' => (∃ nq, w' = w.drewN nq) ∧ ∃ (x y : Int) (u2 u5 u6 u7 u8 u9 u10 u11 u12 u13 u14 u15 u16 u17 u18 u19 u20 u21 u22 u23 u24 u25 u26 u27 u28 u29 u30 u31 u32 u33 u34 u35 : Value), a' = { tmps := #[.pointer (some ⟨g, 0, none⟩), undef, u2, .int .i64 x, .int .i64 y, u5, u6, u7, u8, u9, u10, u11, u12, u13, u14, u15, u16, u17, u18, u19, u20, u21, u22, u23, u24, u25, u26, u27, u28, u29, u30, u31, u32, u33, u34, u35], defers := [] } ∧ Hid (x * 2 ^ y.toNat = b * 2 ^ t.toNat) ∧ 0 ≤ y ∧ y ≤ 8 ∧ 0 ≤ x ∧ x ≤ 153600000)) a' w') (fun a' _ => (intOf (a'.tmps.getD 4 undef)).toNat) ?_ ?_
  · cases m
    · go_wp2_with (go_at_call 20; refine (isMade_any _ _ _ _ _ _ H.out).mono ?_; rintro e w' ⟨rfl, rfl⟩)
      go_quiet (fail)
      go_wp2
      by_cases hy : 0 < t
      · go_step3; go_wp2
        go_step3
        simp only [Exit.then]
        refine hop_at (⟨rfl, ⟨_, rfl⟩, 30 * 2, t - 1, _, _, _, _, _, _, _, _, _, _, _, _, _, _, _, _, _, _, _, _, _, _, _, _, _, _, _, _, _, _, _, _, rfl, Lib.hid (pow_down 30 t _ (by rw [HBE.out]; rfl) hy), by omega, by omega, by omega, by omega⟩)
      · have hy0 : t = 0 := by omega
        have HX := Lib.hid (by rw [show t.toNat = 0 from by omega, HBE.out]; rfl : (30 : Int) = b * 2 ^ t.toNat)
        rcases (by omega : (30 : Int) ≤ 5 ∨ (5 < (30 : Int) ∧ (30 : Int) ≤ 600) ∨ 600 < (30 : Int)) with hc | ⟨hc, hc'⟩ | hc
        all_goals
          go_step3; go_wp2
          all_goals (try rw [hops_ret])
          all_goals go_ret
          all_goals exact ⟨ret_int (by rw [HW.out, ← HX.out]; omega), H.out, (Only.refl _ _).drewN _⟩
    · by_cases hv : 1 ≤ v
      · go_wp2_with (go_at_call 20; refine (isMade_any _ _ _ _ _ _ H.out).mono ?_; rintro e w' ⟨rfl, rfl⟩)
        go_quiet (fail)
        go_wp2
        go_region
        go_wp2
        by_cases hy : 0 < t
        · go_step3; go_wp2
          go_step3
          simp only [Exit.then]
          refine hop_at (⟨rfl, ⟨_, rfl⟩, (s / 8 + v) * 2, t - 1, _, _, _, _, _, _, _, _, _, _, _, _, _, _, _, _, _, _, _, _, _, _, _, _, _, _, _, _, _, _, _, _, rfl, Lib.hid (pow_down _ t _ (by rw [HBE.out]; congr 1; simp only [↓reduceIte]; omega) hy), by omega, by omega, by omega, by omega⟩)
        · have hy0 : t = 0 := by omega
          have HX := Lib.hid (by rw [show t.toNat = 0 from by omega, Int.pow_zero, Int.mul_one, HBE.out]; simp only [↓reduceIte]; omega : (s / 8 + v) = b * 2 ^ t.toNat)
          rcases (by omega : (s / 8 + v) ≤ 5 ∨ (5 < (s / 8 + v) ∧ (s / 8 + v) ≤ 600) ∨ 600 < (s / 8 + v)) with hc | ⟨hc, hc'⟩ | hc
          all_goals
            go_step3; go_wp2
            all_goals (try rw [hops_ret])
            all_goals go_ret
            all_goals exact ⟨ret_int (by rw [HW.out, ← HX.out]; omega), H.out, (Only.refl _ _).drewN _⟩
      · go_wp2_with (go_at_call 20; refine (isMade_any _ _ _ _ _ _ H.out).mono ?_; rintro e w' ⟨rfl, rfl⟩)
        go_quiet (fail)
        go_wp2
        go_region
        go_wp2
        by_cases hy : 0 < t
        · go_step3; go_wp2
          go_step3
          simp only [Exit.then]
          refine hop_at (⟨rfl, ⟨_, rfl⟩, (s / 8 + 1) * 2, t - 1, _, _, _, _, _, _, _, _, _, _, _, _, _, _, _, _, _, _, _, _, _, _, _, _, _, _, _, _, _, _, _, _, rfl, Lib.hid (pow_down _ t _ (by rw [HBE.out]; congr 1; simp only [↓reduceIte]; omega) hy), by omega, by omega, by omega, by omega⟩)
        · have hy0 : t = 0 := by omega
          have HX := Lib.hid (by rw [show t.toNat = 0 from by omega, Int.pow_zero, Int.mul_one, HBE.out]; simp only [↓reduceIte]; omega : (s / 8 + 1) = b * 2 ^ t.toNat)
          rcases (by omega : (s / 8 + 1) ≤ 5 ∨ (5 < (s / 8 + 1) ∧ (s / 8 + 1) ≤ 600) ∨ 600 < (s / 8 + 1)) with hc | ⟨hc, hc'⟩ | hc
          all_goals
            go_step3; go_wp2
            all_goals (try rw [hops_ret])
            all_goals go_ret
            all_goals exact ⟨ret_int (by rw [HW.out, ← HX.out]; omega), H.out, (Only.refl _ _).drewN _⟩
  · rintro l a' w' ⟨rfl, ⟨nq, rfl⟩, x, y, u2, u5, u6, u7, u8, u9, u10, u11, u12, u13, u14, u15, u16, u17, u18, u19, u20, u21, u22, u23, u24, u25, u26, u27, u28, u29, u30, u31, u32, u33, u34, u35, rfl, HE, y0, y1, x0, x1⟩
    refine ⟨_, by rfl, ?_⟩
    by_cases hy : 0 < y
    · have hbd : x * 2 ≤ 153600000 := pow_bound (x * 2) (y - 1) b t (pow_down x y _ HE.out hy) (by omega) (by omega) t1 (by omega) (by omega) hb.2
      go_wp2
      go_step3
      simp only [Exit.then]
      refine hop_at (⟨⟨rfl, ⟨_, rfl⟩, x * 2, y - 1, _, _, _, _, _, _, _, _, _, _, _, _, _, _, _, _, _, _, _, _, _, _, _, _, _, _, _, _, _, _, _, _, rfl, Lib.hid (pow_down x y _ HE.out hy), by omega, by omega, by omega, hbd⟩, by simp [intOf]; omega⟩)
    · have hy0 : y = 0 := by omega
      have HX := Lib.hid (by have := HE.out; rw [show y.toNat = 0 from by omega] at this; simpa using this : x = b * 2 ^ t.toNat)
      rcases (by omega : x ≤ 5 ∨ (5 < x ∧ x ≤ 600) ∨ 600 < x) with hc | ⟨hc, hc'⟩ | hc
      all_goals
        go_wp2
        all_goals (try rw [hops_ret])
        all_goals go_ret
        all_goals exact ⟨ret_int (by rw [HW.out, ← HX.out]; omega), H.out, (Only.refl _ _).drewN _⟩
end Go.Proofs.Ytfhiamalplehjaa
