/- What the law functions RtoBounded and RtoPlays come to: true, whatever is measured, backed off and told to be good; nothing that was there is changed. Conditions: the calls' numbers are cells of memory. -/
import Derived.Test.YtfhiamalplehjaaRtoLaw
set_option linter.unusedVariables false
set_option linter.unusedSimpArgs false
namespace Go.Proofs.Ytfhiamalplehjaa
open Go.RowKit

/-- A list of calls that came in: two numbers each. -/
def Acts (w : World) (B : Nat) (A : Option Addr) (len : Nat) (f : Nat → Int × Int) : Prop :=
  0 < len → ∃ b off, A = some ⟨b, off, none⟩ ∧ b < B ∧ ∀ i, i < len → w.cell? ⟨b, off + i * 2, none⟩ = some (.int .i64 (f i).1) ∧ w.cell? ⟨b, off + (i * 2 + 1), none⟩ = some (.int .i64 (f i).2)

theorem wait_mono (m : Bool) (s v t : Int) (s0 : 0 ≤ s) (s1 : s ≤ 800007) (v0 : 0 ≤ v) (v1 : v ≤ 400003) (t0 : 0 ≤ t) : waitOf m s v t ≤ waitOf m s v (t + 1) := by
  have hb := base_range m s v s0 s1 v0 v1
  unfold waitOf
  generalize baseOf m s v = b at *
  rw [show (t + 1).toNat = t.toNat + 1 from by omega, Int.pow_succ, ← Int.mul_assoc]
  have : 0 ≤ b * 2 ^ t.toNat := Int.mul_nonneg (by omega) (Int.le_of_lt (Int.pow_pos (by decide)))
  omega
theorem wait_least (m : Bool) (s v t : Int) (s0 : 0 ≤ s) (s1 : s ≤ 800007) (v0 : 0 ≤ v) (v1 : v ≤ 400003) (t0 : 0 ≤ t) (t1 : t ≤ 8) : waitOf m s v 0 ≤ waitOf m s v t := by
  have hb := base_range m s v s0 s1 v0 v1
  have hp := pow_range t.toNat (by omega)
  unfold waitOf
  generalize baseOf m s v = b at *
  have h1 : b * 1 ≤ b * 2 ^ t.toNat := Int.mul_le_mul_of_nonneg_left hp.1 (by omega)
  have h2 : (2 : Int) ^ (0 : Int).toNat = 1 := by decide
  rw [h2]
  omega
theorem wait_range (m : Bool) (s v t : Int) : 5 ≤ waitOf m s v t ∧ waitOf m s v t ≤ 600 := by unfold waitOf; omega

/-- An estimate within its bounds. -/
def EstOk (g : Nat) (w : World) : Prop := ∃ m s v t, 0 ≤ s ∧ s ≤ 800007 ∧ 0 ≤ v ∧ v ≤ 400003 ∧ 0 ≤ t ∧ t ≤ 8 ∧ Est w g m s v t
def MeasureStep (g : Nat) (w : World) (e : Ending) (w' : World) : Prop := ∃ c, e = .returned (.int .i64 c) ∧ EstOk g w' ∧ Only g w w'
theorem measure_step (g : Nat) (r : Int) (w : World) (h : EstOk g w) :
    Calls Try.prog 13 #[.pointer (some ⟨g, 0, none⟩), .int .i64 r] w (MeasureStep g w) := by
  obtain ⟨m, s, v, t, s0, s1, v0, v1, t0, t1, h⟩ := h
  by_cases hr : r < 0 ∨ 100000 < r
  · exact (measure_bad _ _ _ _ _ _ _ h hr).mono fun e w' ⟨he, hw⟩ => ⟨2, he, ⟨m, s, v, t, s0, s1, v0, v1, t0, t1, by rw [hw]; exact h⟩, by rw [hw]; exact Only.refl _ _⟩
  · cases m
    · exact (measure_first _ _ _ _ _ _ h (by omega) (by omega)).mono fun e w' ⟨he, h', ho⟩ => ⟨0, he, ⟨true, _, _, t, by omega, by omega, by omega, by omega, t0, t1, h'⟩, ho⟩
    · have hS : nextS s r = s + (r - s / 8) := rfl
      have hV : nextV s v r = v + (max (s / 8 - r) (-(s / 8 - r)) - v / 4) := rfl
      exact (measure_more _ _ _ _ _ _ h (by omega) (by omega) s0 s1 v0 v1).mono fun e w' ⟨he, h', ho⟩ => ⟨0, he, ⟨true, _, _, t, by omega, by omega, by omega, by omega, t0, t1, h'⟩, ho⟩

theorem rtoBounded_walk (A : Option Addr) (len c : Nat) (f : Nat → Int × Int) (w : World) (h : Acts w w.heap.size A len f) (hn : len ≤ maxLen) :
    Calls Try.prog 4 #[.slice A len c] w fun e w' => e = .returned (.bool true) ∧ Below w.heap.size w w' := by
  have HI := Lib.hid h
  unfold maxLen at hn
  clear h
  go_enter Try.func4, Try.ntmps4
  go_wp2_with fail
  refine (works_any _).mono ?_
  rintro e w0 ⟨rfl, b0⟩
  go_wp2_with fail
  refine (new_any _).mono ?_
  rintro e w1 ⟨rfl, h1, b1⟩
  have hg1 : w.heap.size ≤ w0.heap.size := b0.size
  have hg2 := Blk.lt h1
  generalize w0.heap.size = g at *
  have hst : Hid (EstOk g w1) := Lib.hid ⟨false, 0, 0, 0, by omega, by omega, by omega, by omega, by omega, by omega, h1⟩
  have B1 : Below w.heap.size w w1 := b0.trans (b1.mono hg1)
  clear h1
  go_wp2_with fail
  go_loopw [4] (fun k wr => ∃ i : Nat, k = .int .i64 i ∧ i ≤ 100 ∧ i ≤ len ∧ Hid (EstOk g wr) ∧ Below w.heap.size w wr ∧ g < wr.heap.size) (fun k _ => 101 - (intOf k).toNat)
  case atStart => exact ⟨0, rfl, by omega, by omega, hst, B1, hg2⟩
  case round =>
    obtain ⟨i, rfl, hi100, hil, hs, hB, hgl⟩ := hrel
    clear hst
    by_cases hlt : i < len
    · by_cases h100 : i < 100
      · obtain ⟨b, off, rfl, hb, hcell⟩ := HI.out (by omega)
        have hc1 := (hB.cell (p := ⟨b, off + i * 2, none⟩) hb).trans (hcell i hlt).1
        have hc2 := (hB.cell (p := ⟨b, off + (i * 2 + 1), none⟩) hb).trans (hcell i hlt).2
        generalize (f i).1 = x1 at *
        generalize (f i).2 = x2 at *
        clear hcell
        obtain ⟨m, s, v, t, s0, s1, v0, v1, t0, t1, hE⟩ := hs.out
        have HE := Lib.hid hE
        have hR := wait_range m s v t
        have hM := wait_mono m s v t s0 s1 v0 v1 t0
        have hL := wait_least m s v t s0 s1 v0 v1 t0 t1
        clear hs hE
        go_wp2_with fail
        refine (wait_any _ _ _ _ _ _ HE.out s0 s1 v0 v1 t0 t1).mono ?_
        rintro e w2 ⟨rfl, h2, o2⟩
        have H2 := Lib.hid h2
        clear h2
        have hk1 := (o2.below hg1).cell (p := ⟨b, off + i * 2, none⟩) hb
        have hk2 := (o2.below hg1).cell (p := ⟨b, off + (i * 2 + 1), none⟩) hb
        rw [hc1] at hk1
        rw [hc2, ← Nat.add_assoc] at hk2
        obtain ⟨W, hWe⟩ : ∃ W, waitOf m s v t = W := ⟨_, rfl⟩
        rw [hWe] at hR hM hL ⊢
        have hWeq := Lib.hid hWe
        clear hWe
        go_wp2_with fail
        refine (tries_any _ _ _ _ _ _ H2.out).mono ?_
        rintro e w' ⟨rfl, rfl⟩
        go_wp2_with fail
        refine (tries_any _ _ _ _ _ _ H2.out).mono ?_
        rintro e w' ⟨rfl, rfl⟩
        go_wp2_with fail
        refine (among_any x1 _ _ (by omega) (by omega)).mono ?_
        rintro e w' ⟨q, hq, rfl, rfl⟩
        have B2 : Below w.heap.size w w2 := hB.trans (o2.below hg1)
        have g2 : g < w2.heap.size := by rw [o2.size]; exact hgl
        by_cases h34 : q = 3 ∨ q = 4
        · have hq34 : ((q : Int) == 3) = true ∨ (((q : Int) == 3) = false ∧ ((q : Int) == 4) = true) := by
            rcases h34 with rfl | rfl
            · exact .inl rfl
            · exact .inr ⟨rfl, rfl⟩
          clear h34 hL
          by_cases ht : t < 8
          · rcases hq34 with hq3 | ⟨hq3, hq4⟩
            all_goals
              go_wp2_with fail
              refine (tries_any _ _ _ _ _ _ H2.out).mono ?_
              rintro e w' ⟨rfl, rfl⟩
              go_wp2_with fail
              refine (back_yes _ _ _ _ _ _ H2.out t0 ht).mono ?_
              rintro e w3 ⟨rfl, h3, o3⟩
              have H3 := Lib.hid h3
              clear h3
              go_wp2_with fail
              refine (wait_any _ _ _ _ _ _ H3.out s0 s1 v0 v1 (by omega) (by omega)).mono ?_
              generalize waitOf m s v (t + 1) = W2 at *
              rintro e w4 ⟨rfl, h4, o4⟩
              have H4 : Hid (EstOk g w4) := Lib.hid ⟨m, s, v, t + 1, s0, s1, v0, v1, by omega, by omega, h4⟩
              clear h4
              have B4 : Below w.heap.size w w4 := B2.trans ((o3.trans o4).below hg1)
              have g4 : g < w4.heap.size := by rw [o4.size, o3.size]; exact g2
              go_wp2
              go_roundw
              case rel => exact ⟨i + 1, by go_num, by omega, by omega, H4, B4, g4⟩
              case measure => simp [intOf]; omega
          · have ht8 : t = 8 := by omega
            subst ht8
            rcases hq34 with hq3 | ⟨hq3, hq4⟩
            all_goals
              go_wp2_with fail
              refine (tries_any _ _ _ _ _ _ H2.out).mono ?_
              rintro e w' ⟨rfl, rfl⟩
              go_wp2_with fail
              refine (back_no _ _ _ _ _ H2.out).mono ?_
              rintro e w' ⟨rfl, rfl⟩
              go_wp2_with fail
              have hW : waitOf m s v 8 = W := hWeq.out
              refine (wait_any _ _ _ _ _ _ H2.out s0 s1 v0 v1 (by omega) (by omega)).mono ?_
              rw [hW]
              clear hW
              rintro e w4 ⟨rfl, h4, o4⟩
              have H4 : Hid (EstOk g w4) := Lib.hid ⟨m, s, v, 8, s0, s1, v0, v1, by omega, by omega, h4⟩
              clear h4
              have B4 : Below w.heap.size w w4 := B2.trans (o4.below hg1)
              have g4 : g < w4.heap.size := by rw [o4.size]; exact g2
              go_wp2
              go_roundw
              case rel => exact ⟨i + 1, by go_num, by omega, by omega, H4, B4, g4⟩
              case measure => simp [intOf]; omega
        · have hq3 : ((q : Int) == 3) = false := by simp; omega
          have hq4 : ((q : Int) == 4) = false := by simp; omega
          clear h34 hM
          by_cases h5 : q = 5
          · have hq5 : ((q : Int) == 5) = true := by simp; omega
            clear h5
            go_wp2_with fail
            refine (good_any _ _ _ _ _ _ H2.out).mono ?_
            rintro e w3 ⟨rfl, h3, o3⟩
            have H3 := Lib.hid h3
            clear h3
            go_wp2_with fail
            refine (wait_any _ _ _ _ _ _ H3.out s0 s1 v0 v1 (by omega) (by omega)).mono ?_
            generalize waitOf m s v 0 = W2 at *
            rintro e w4 ⟨rfl, h4, o4⟩
            have H4 : Hid (EstOk g w4) := Lib.hid ⟨m, s, v, 0, s0, s1, v0, v1, by omega, by omega, h4⟩
            clear h4
            have B4 : Below w.heap.size w w4 := B2.trans ((o3.trans o4).below hg1)
            have g4 : g < w4.heap.size := by rw [o4.size, o3.size]; exact g2
            go_wp2
            go_roundw
            case rel => exact ⟨i + 1, by go_num, by omega, by omega, H4, B4, g4⟩
            case measure => simp [intOf]; omega
          · have hq5 : ((q : Int) == 5) = false := by simp; omega
            clear h5 hL
            go_wp2_with fail
            refine (measure_step _ _ _ ⟨m, s, v, t, s0, s1, v0, v1, t0, t1, H2.out⟩).mono ?_
            rintro e w3 ⟨c3, rfl, h3, o3⟩
            have H3 := Lib.hid h3
            clear h3
            have B3 : Below w.heap.size w w3 := B2.trans (o3.below hg1)
            have g3 : g < w3.heap.size := by rw [o3.size]; exact g2
            go_wp2
            go_roundw
            case rel => exact ⟨i + 1, by go_num, by omega, by omega, H3, B3, g3⟩
            case measure => simp [intOf]; omega
      · go_wp2
        go_ret
        exact ⟨rfl, hB⟩
    · go_wp2
      go_ret
      exact ⟨rfl, hB⟩
end Go.Proofs.Ytfhiamalplehjaa
