/- What the calls of the reference's estimate come to: the same as the code's. Conditions: the estimate is a block of memory of its own, its numbers within their bounds. -/
import Derived.Test.YtfhiamalplehjaaRtoActs
set_option linter.unusedVariables false
set_option linter.unusedSimpArgs false
namespace Go.Proofs.Ytfhiamalplehjaa
open Go.RowKit

/-- A reference's estimate. -/
def Ref (w : World) (g : Nat) (m : Bool) (s v t : Int) : Prop := Blk w g 27 #[.int .i64 s, .int .i64 v, .int .i64 t, .bool m]
section
variable {w : World} {g : Nat} {m : Bool} {s v t : Int}
theorem Ref.cells (h : Ref w g m s v t) : w.cell? ⟨g, 0, none⟩ = some (.int .i64 s) ∧ w.cell? ⟨g, 1, none⟩ = some (.int .i64 v) ∧ w.cell? ⟨g, 2, none⟩ = some (.int .i64 t) ∧ w.cell? ⟨g, 3, none⟩ = some (.bool m) :=
  ⟨Blk.cell h 0, Blk.cell h 1, Blk.cell h 2, Blk.cell h 3⟩
theorem Ref.thaw (h : Ref w g m s v t) : w.frozen? ⟨g, 0, none⟩ = false ∧ w.frozen? ⟨g, 1, none⟩ = false ∧ w.frozen? ⟨g, 2, none⟩ = false ∧ w.frozen? ⟨g, 3, none⟩ = false :=
  ⟨Blk.frozen h 0, Blk.frozen h 1, Blk.frozen h 2, Blk.frozen h 3⟩
theorem Ref.eq_ {s' v' : Int} (h : Ref w g m s v t) (e1 : s = s') (e2 : v = v') : Ref w g m s' v' t := by rw [← e1, ← e2]; exact h
theorem Ref.only {k : Nat} {w' : World} (h : Ref w g m s v t) (ho : Only k w w') (hk : g ≠ k) : Ref w' g m s v t := Blk.only h ho hk
theorem Ref.set0 (h : Ref w g m s v t) (x : Int) : Ref (w.setCell ⟨g, 0, none⟩ (.int .i64 x)) g m x v t := by have := Blk.set_ h 0 (.int .i64 x); simpa [Ref] using this
theorem Ref.set1 (h : Ref w g m s v t) (x : Int) : Ref (w.setCell ⟨g, 1, none⟩ (.int .i64 x)) g m s x t := by have := Blk.set_ h 1 (.int .i64 x); simpa [Ref] using this
theorem Ref.set2 (h : Ref w g m s v t) (x : Int) : Ref (w.setCell ⟨g, 2, none⟩ (.int .i64 x)) g m s v x := by have := Blk.set_ h 2 (.int .i64 x); simpa [Ref] using this
theorem Ref.set3 (h : Ref w g m s v t) (m' : Bool) : Ref (w.setCell ⟨g, 3, none⟩ (.bool m')) g m' s v t := by have := Blk.set_ h 3 (.bool m'); simpa [Ref] using this
end
theorem rback_yes (g : Nat) (m : Bool) (s v t : Int) (w : World) (h : Ref w g m s v t) (t0 : 0 ≤ t) (t1 : t < 8) :
    Calls Try.prog 11 #[.pointer (some ⟨g, 0, none⟩)] w fun e w' => e = .returned (.int .i64 0) ∧ Ref w' g m s v (t + 1) ∧ Only g w w' := by
  obtain ⟨c0, c1, c2, c3⟩ := h.cells
  obtain ⟨f0, f1, f2, f3⟩ := h.thaw
  have H := Lib.hid h
  clear h c0 c1 c3 f0 f1 f3
  go_enter Try.func11, Try.ntmps11
  go_wp2
  go_ret
  exact ⟨rfl, H.out.set2 _, (Only.refl _ _).setCell _ _⟩
theorem rback_no (g : Nat) (m : Bool) (s v : Int) (w : World) (h : Ref w g m s v 8) :
    Calls Try.prog 11 #[.pointer (some ⟨g, 0, none⟩)] w fun e w' => e = .returned (.int .i64 4) ∧ w' = w := by
  obtain ⟨c0, c1, c2, c3⟩ := h.cells
  clear h c0 c1 c3
  go_enter Try.func11, Try.ntmps11
  go_wp2
  go_ret
  exact ⟨rfl, rfl⟩
theorem rmeasure_bad (g : Nat) (p : Option Addr) (r : Int) (w : World) (hr : r < 0 ∨ 100000 < r) :
    Calls Try.prog 14 #[.pointer p, .int .i64 r] w fun e w' => e = .returned (.int .i64 2) ∧ w' = w := by
  rcases hr with hr | hr
  · go_enter Try.func14, Try.ntmps14
    go_wp2
    go_ret
    exact ⟨rfl, rfl⟩
  · have hr2 : ¬ r < 0 := by omega
    go_enter Try.func14, Try.ntmps14
    go_wp2
    go_ret
    exact ⟨rfl, rfl⟩
theorem rmeasure_first (g : Nat) (s v t r : Int) (w : World) (h : Ref w g false s v t) (r0 : 0 ≤ r) (r1 : r ≤ 100000) :
    Calls Try.prog 14 #[.pointer (some ⟨g, 0, none⟩), .int .i64 r] w fun e w' => e = .returned (.int .i64 0) ∧ Ref w' g true (8 * r) (2 * r) t ∧ Only g w w' := by
  obtain ⟨c0, c1, c2, c3⟩ := h.cells
  obtain ⟨f0, f1, f2, f3⟩ := h.thaw
  have H := Lib.hid h
  clear h c2 f2
  go_enter Try.func14, Try.ntmps14
  go_wp2
  go_ret
  exact ⟨rfl, ((H.out.set0 _).set1 _).set3 true, (((Only.refl _ _).setCell _ _).setCell _ _).setCell _ _⟩
theorem rmeasure_more (g : Nat) (s v t r : Int) (w : World) (h : Ref w g true s v t) (r0 : 0 ≤ r) (r1 : r ≤ 100000) (s0 : 0 ≤ s) (s1 : s ≤ 800007) (v0 : 0 ≤ v) (v1 : v ≤ 400003) :
    Calls Try.prog 14 #[.pointer (some ⟨g, 0, none⟩), .int .i64 r] w fun e w' => e = .returned (.int .i64 0) ∧ Ref w' g true (nextS s r) (nextV s v r) t ∧ Only g w w' := by
  obtain ⟨c0, c1, c2, c3⟩ := h.cells
  obtain ⟨f0, f1, f2, f3⟩ := h.thaw
  have H := Lib.hid h
  clear h c2 f2
  by_cases hd : s / 8 - r < 0
  all_goals
    go_enter Try.func14, Try.ntmps14
    go_wp2
    go_region
    all_goals (go_wp2; skip)
    all_goals go_region
    all_goals (go_wp2; skip)
    all_goals go_ret
    all_goals exact ⟨rfl, (Ref.set0 (Ref.set1 H.out _) _).eq_ (by unfold nextS; omega) (by unfold nextV; omega), by repeat (first | exact Only.refl _ _ | apply Only.drew | apply Only.setCell)⟩

theorem wait_eq (b w : Int) (t : Nat) (h : min 600 w = min 600 (b * 2 ^ t)) : max 5 (min 600 w) = max 5 (min (b * 2 ^ t) 600) := by omega
theorem wait_double (w p : Int) (w0 : 0 ≤ w) (p0 : 0 ≤ p) (h : min 600 w = min 600 p) : min 600 (min 600 (2 * w)) = min 600 (p * 2) := by omega
set_option maxHeartbeats 1000000 in
theorem rwait_any (g : Nat) (m : Bool) (s v t : Int) (w : World) (h : Ref w g m s v t) (s0 : 0 ≤ s) (s1 : s ≤ 800007) (v0 : 0 ≤ v) (v1 : v ≤ 400003) (t0 : 0 ≤ t) (t1 : t ≤ 8) :
    Calls Try.prog 17 #[.pointer (some ⟨g, 0, none⟩)] w fun e w' => e = .returned (.int .i64 (waitOf m s v t)) ∧ Ref w' g m s v t ∧ Only g w w' := by
  obtain ⟨c0, c1, c2, c3⟩ := h.cells
  have hb := base_range m s v s0 s1 v0 v1
  have hbe : baseOf m s v = if m = true then s / 8 + max v 1 else 30 := rfl
  have hw : waitOf m s v t = max 5 (min (baseOf m s v * 2 ^ t.toNat) 600) := rfl
  generalize baseOf m s v = b at *
  have HBE := Lib.hid hbe
  have HW := Lib.hid hw
  have H := Lib.hid h
  clear h hbe hw
  have hstart : ∀ x : Int, x = b → Hid (min 600 x = min 600 (b * 2 ^ 0)) := fun x hx => Lib.hid (by rw [hx, Int.pow_zero, Int.mul_one])
  cases m
  · have hb30 : b = 30 := by rw [HBE.out]; rfl
    have hst := hstart 30 (by rw [hb30])
    have HB := Lib.hid hb30
    clear hb30 hstart
    go_enter Try.func17, Try.ntmps17
    go_wp2
    go_loop [3, 4] (fun x i => ∃ (k : Nat) (y : Int), i = .int .i64 k ∧ (k : Int) ≤ t ∧ x = .int .i64 y ∧ 0 ≤ y ∧ y ≤ 600000 ∧ Hid (min 600 y = min 600 (b * 2 ^ k))) (fun _ i => 9 - (intOf i).toNat)
    case atStart => exact ⟨0, _, rfl, by omega, rfl, by omega, by omega, hst⟩
    case round =>
      obtain ⟨k, y, rfl, hk, rfl, y0, y1, HY⟩ := hrel
      clear hst
      have hpos : 0 ≤ b * 2 ^ k := Int.mul_nonneg (by omega) (Int.le_of_lt (Int.pow_pos (by decide)))
      have hdb := Lib.hid (wait_double y _ y0 hpos HY.out)
      clear hpos
      by_cases hlt : (k : Int) < t
      · by_cases h6 : 600 < 2 * y
        all_goals
          go_wp2
          go_round
          case rel => exact ⟨k + 1, _, by go_num, by omega, rfl, by omega, by omega, Lib.hid (by rw [Int.pow_succ, ← Int.mul_assoc, ← hdb.out]; omega)⟩
          case measure => simp [intOf]; omega
      · have hkt : t.toNat = k := by omega
        have HF := Lib.hid (wait_eq b y k HY.out)
        have HK := Lib.hid hkt
        clear hkt hdb
        rcases (by omega : y ≤ 5 ∨ (5 < y ∧ y ≤ 600) ∨ 600 < y) with hc | ⟨hc, hc'⟩ | hc
        all_goals
          go_wp2
          all_goals go_ret
          all_goals exact ⟨ret_int (by rw [HW.out, HK.out, ← HF.out]; omega), H.out, Only.refl _ _⟩
  · have hst : ∀ x : Int, x = s / 8 + max v 1 → Hid (min 600 x = min 600 (b * 2 ^ 0)) := fun x hx => hstart x (by rw [hx, HBE.out]; simp only [↓reduceIte])
    clear hstart
    by_cases hv : 1 < v
    · have hst := hst (s / 8 + v) (by omega)
      go_enter Try.func17, Try.ntmps17
      go_wp2
      go_region
      go_wp2
      go_loop [3, 4] (fun x i => ∃ (k : Nat) (y : Int), i = .int .i64 k ∧ (k : Int) ≤ t ∧ x = .int .i64 y ∧ 0 ≤ y ∧ y ≤ 600000 ∧ Hid (min 600 y = min 600 (b * 2 ^ k))) (fun _ i => 9 - (intOf i).toNat)
      case atStart => exact ⟨0, _, rfl, by omega, rfl, by omega, by omega, hst⟩
      case round =>
        obtain ⟨k, y, rfl, hk, rfl, y0, y1, HY⟩ := hrel
        clear hst
        have hpos : 0 ≤ b * 2 ^ k := Int.mul_nonneg (by omega) (Int.le_of_lt (Int.pow_pos (by decide)))
        have hdb := Lib.hid (wait_double y _ y0 hpos HY.out)
        clear hpos
        by_cases hlt : (k : Int) < t
        · by_cases h6 : 600 < 2 * y
          all_goals
            go_wp2
            go_round
            case rel => exact ⟨k + 1, _, by go_num, by omega, rfl, by omega, by omega, Lib.hid (by rw [Int.pow_succ, ← Int.mul_assoc, ← hdb.out]; omega)⟩
            case measure => simp [intOf]; omega
        · have hkt : t.toNat = k := by omega
          have HF := Lib.hid (wait_eq b y k HY.out)
          have HK := Lib.hid hkt
          clear hkt hdb
          rcases (by omega : y ≤ 5 ∨ (5 < y ∧ y ≤ 600) ∨ 600 < y) with hc | ⟨hc, hc'⟩ | hc
          all_goals
            go_wp2
            all_goals go_ret
            all_goals exact ⟨ret_int (by rw [HW.out, HK.out, ← HF.out]; omega), H.out, (Only.refl _ _).drew⟩
    · have hst := hst (s / 8 + 1) (by omega)
      go_enter Try.func17, Try.ntmps17
      go_wp2
      go_region
      go_wp2
      go_loop [3, 4] (fun x i => ∃ (k : Nat) (y : Int), i = .int .i64 k ∧ (k : Int) ≤ t ∧ x = .int .i64 y ∧ 0 ≤ y ∧ y ≤ 600000 ∧ Hid (min 600 y = min 600 (b * 2 ^ k))) (fun _ i => 9 - (intOf i).toNat)
      case atStart => exact ⟨0, _, rfl, by omega, rfl, by omega, by omega, hst⟩
      case round =>
        obtain ⟨k, y, rfl, hk, rfl, y0, y1, HY⟩ := hrel
        clear hst
        have hpos : 0 ≤ b * 2 ^ k := Int.mul_nonneg (by omega) (Int.le_of_lt (Int.pow_pos (by decide)))
        have hdb := Lib.hid (wait_double y _ y0 hpos HY.out)
        clear hpos
        by_cases hlt : (k : Int) < t
        · by_cases h6 : 600 < 2 * y
          all_goals
            go_wp2
            go_round
            case rel => exact ⟨k + 1, _, by go_num, by omega, rfl, by omega, by omega, Lib.hid (by rw [Int.pow_succ, ← Int.mul_assoc, ← hdb.out]; omega)⟩
            case measure => simp [intOf]; omega
        · have hkt : t.toNat = k := by omega
          have HF := Lib.hid (wait_eq b y k HY.out)
          have HK := Lib.hid hkt
          clear hkt hdb
          rcases (by omega : y ≤ 5 ∨ (5 < y ∧ y ≤ 600) ∨ 600 < y) with hc | ⟨hc, hc'⟩ | hc
          all_goals
            go_wp2
            all_goals go_ret
            all_goals exact ⟨ret_int (by rw [HW.out, HK.out, ← HF.out]; omega), H.out, (Only.refl _ _).drew⟩


def Bad (r : Int) : Prop := r < 0 ∨ 100000 < r
instance (r : Int) : Decidable (Bad r) := by unfold Bad; infer_instance
def codeOf (r : Int) : Int := if Bad r then 2 else 0
def mOf (m : Bool) (r : Int) : Bool := if Bad r then m else true
def sOf (m : Bool) (s r : Int) : Int := if Bad r then s else if m = true then nextS s r else 8 * r
def vOf (m : Bool) (s v r : Int) : Int := if Bad r then v else if m = true then nextV s v r else 2 * r
theorem step_range (m : Bool) (s v r : Int) (s0 : 0 ≤ s) (s1 : s ≤ 800007) (v0 : 0 ≤ v) (v1 : v ≤ 400003) : 0 ≤ sOf m s r ∧ sOf m s r ≤ 800007 ∧ 0 ≤ vOf m s v r ∧ vOf m s v r ≤ 400003 := by
  unfold sOf vOf
  by_cases hb : Bad r
  · rw [if_pos hb, if_pos hb]; omega
  · have : 0 ≤ r ∧ r ≤ 100000 := by unfold Bad at hb; omega
    rw [if_neg hb, if_neg hb]
    cases m
    · simp only [Bool.false_eq_true, ↓reduceIte]; omega
    · simp only [↓reduceIte]; unfold nextS nextV; omega
theorem measure_all (g : Nat) (m : Bool) (s v t r : Int) (w : World) (h : Est w g m s v t) (s0 : 0 ≤ s) (s1 : s ≤ 800007) (v0 : 0 ≤ v) (v1 : v ≤ 400003) :
    Calls Try.prog 13 #[.pointer (some ⟨g, 0, none⟩), .int .i64 r] w fun e w' => e = .returned (.int .i64 (codeOf r)) ∧ Est w' g (mOf m r) (sOf m s r) (vOf m s v r) t ∧ Only g w w' := by
  unfold codeOf mOf sOf vOf
  by_cases hb : Bad r
  · simp only [if_pos hb]
    exact (measure_bad _ _ _ _ _ _ _ h hb).mono fun e w' ⟨he, hw⟩ => ⟨he, by rw [hw]; exact h, by rw [hw]; exact Only.refl _ _⟩
  · have hr : 0 ≤ r ∧ r ≤ 100000 := by unfold Bad at hb; omega
    simp only [if_neg hb]
    cases m
    · exact (measure_first _ _ _ _ _ _ h hr.1 hr.2).mono fun e w' ⟨he, h', ho⟩ => ⟨he, h', ho⟩
    · exact (measure_more _ _ _ _ _ _ h hr.1 hr.2 s0 s1 v0 v1).mono fun e w' ⟨he, h', ho⟩ => ⟨he, h', ho⟩
theorem rmeasure_all (g : Nat) (m : Bool) (s v t r : Int) (w : World) (h : Ref w g m s v t) (s0 : 0 ≤ s) (s1 : s ≤ 800007) (v0 : 0 ≤ v) (v1 : v ≤ 400003) :
    Calls Try.prog 14 #[.pointer (some ⟨g, 0, none⟩), .int .i64 r] w fun e w' => e = .returned (.int .i64 (codeOf r)) ∧ Ref w' g (mOf m r) (sOf m s r) (vOf m s v r) t ∧ Only g w w' := by
  unfold codeOf mOf sOf vOf
  by_cases hb : Bad r
  · simp only [if_pos hb]
    exact (rmeasure_bad g _ _ _ hb).mono fun e w' ⟨he, hw⟩ => ⟨he, by rw [hw]; exact h, by rw [hw]; exact Only.refl _ _⟩
  · have hr : 0 ≤ r ∧ r ≤ 100000 := by unfold Bad at hb; omega
    simp only [if_neg hb]
    cases m
    · exact (rmeasure_first _ _ _ _ _ _ h hr.1 hr.2).mono fun e w' ⟨he, h', ho⟩ => ⟨he, h', ho⟩
    · exact (rmeasure_more _ _ _ _ _ _ h hr.1 hr.2 s0 s1 v0 v1).mono fun e w' ⟨he, h', ho⟩ => ⟨he, h', ho⟩
end Go.Proofs.Ytfhiamalplehjaa
