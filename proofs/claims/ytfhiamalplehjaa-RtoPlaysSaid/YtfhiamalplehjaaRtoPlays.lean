/- What the law function RtoPlays comes to: true, whatever is measured, backed off and told to be good; nothing that was there is changed. Conditions: the calls' numbers are cells of memory. -/
import Derived.Test.YtfhiamalplehjaaRtoRef
import Derived.Deep.RegionHeld3
set_option linter.unusedVariables false
set_option linter.unusedSimpArgs false
namespace Go.Proofs.Ytfhiamalplehjaa
open Go.RowKit

theorem Ref.three {w : World} {g : Nat} {m : Bool} {s v t : Int} (h : Ref w g m s v t) : w.cell? ⟨g, 2, none⟩ = some (.int .i64 t) ∧ w.cell? ⟨g, 0, none⟩ = some (.int .i64 s) ∧ w.cell? ⟨g, 1, none⟩ = some (.int .i64 v) :=
  ⟨h.cells.2.2.1, h.cells.1, h.cells.2.1⟩
/-- The code's estimate and the reference's have the same. -/
def Both (g k : Nat) (w : World) : Prop := ∃ m s v t, 0 ≤ s ∧ s ≤ 800007 ∧ 0 ≤ v ∧ v ≤ 400003 ∧ 0 ≤ t ∧ t ≤ 8 ∧ Est w g m s v t ∧ Ref w k m s v t

set_option maxRecDepth 100000 in
set_option maxHeartbeats 2000000 in
theorem rtoPlays_walk (A : Option Addr) (len c : Nat) (f : Nat → Int × Int) (w : World) (h : Acts w w.heap.size A len f) (hn : len ≤ maxLen) :
    Calls Try.prog 3 #[.slice A len c] w fun e w' => e = .returned (.bool true) ∧ Below w.heap.size w w' := by
  have HI := Lib.hid h
  unfold maxLen at hn
  clear h
  go_enter Try.func3, Try.ntmps3
  go_wp2_with fail
  refine (new_any _).mono ?_
  rintro e w1 ⟨rfl, h1, b1⟩
  have hg2 := Blk.lt h1
  have h1' : Est (w1.alloc (.cells #[.int .i64 0, .int .i64 0, .int .i64 0, .bool false] 27)) w.heap.size false 0 0 0 := Blk.alloc h1 _
  have r1' : Ref (w1.alloc (.cells #[.int .i64 0, .int .i64 0, .int .i64 0, .bool false] 27)) w1.heap.size false 0 0 0 := Blk.new _ _ _
  have B1 : Below w.heap.size w (w1.alloc (.cells #[.int .i64 0, .int .i64 0, .int .i64 0, .bool false] 27)) := b1.alloc b1.size _
  have k2 := Blk.lt r1'
  have hst : Hid (Both w.heap.size w1.heap.size (w1.alloc (.cells #[.int .i64 0, .int .i64 0, .int .i64 0, .bool false] 27))) := Lib.hid ⟨false, 0, 0, 0, by omega, by omega, by omega, by omega, by omega, by omega, h1', r1'⟩
  clear h1 h1' r1' b1
  go_wp2_with fail
  generalize (w1.alloc (.cells #[.int .i64 0, .int .i64 0, .int .i64 0, .bool false] 27)) = w2 at *
  obtain ⟨g, hG⟩ : ∃ g, w.heap.size = g := ⟨_, rfl⟩
  generalize w1.heap.size = k at *
  rw [hG] at hg2 hst B1 HI ⊢
  have HG := Lib.hid hG
  clear hG
  go_loopw [5] (fun j wr => ∃ i : Nat, j = .int .i64 i ∧ i ≤ 100 ∧ i ≤ len ∧ Hid (Both g k wr) ∧ Below g w wr ∧ k < wr.heap.size) (fun j _ => 101 - (intOf j).toNat)
  case atStart => exact ⟨0, rfl, by omega, by omega, hst, B1, k2⟩
  case round =>
    obtain ⟨i, rfl, hi100, hil, hs, hB, hkl⟩ := hrel
    clear hst
    by_cases hlt : i < len
    · by_cases h100 : i < 100
      · obtain ⟨b, off, rfl, hb, hcell⟩ := HI.out (by omega)
        have hc1 := (hB.cell (p := ⟨b, off + i * 2, none⟩) hb).trans (hcell i hlt).1
        have hc2 := (hB.cell (p := ⟨b, off + (i * 2 + 1), none⟩) hb).trans (hcell i hlt).2
        rw [← Nat.add_assoc] at hc2
        generalize (f i).1 = x1 at *
        generalize (f i).2 = x2 at *
        clear hcell
        have hbg : b ≠ g := by omega
        have hbk : b ≠ k := by omega
        have hgk : g ≠ k := by omega
        obtain ⟨m, s, v, t, s0, s1, v0, v1, t0, t1, hE, hR⟩ := hs.out
        have HE := Lib.hid hE
        have HR := Lib.hid hR
        clear hs hE hR
        go_wp2_with fail
        refine (among_any x1 _ _ (by omega) (by omega)).mono ?_
        rintro e w' ⟨q, hq, rfl, rfl⟩
        by_cases h34 : q = 3 ∨ q = 4
        · have hq34 : ((q : Int) == 3) = true ∨ (((q : Int) == 3) = false ∧ ((q : Int) == 4) = true) := by
            rcases h34 with rfl | rfl
            · exact .inl rfl
            · exact .inr ⟨rfl, rfl⟩
          clear h34
          by_cases ht : t < 8
          · rcases hq34 with hq3 | ⟨hq3, hq4⟩
            all_goals
              go_wp2_with fail
              refine (back_yes _ _ _ _ _ _ HE.out t0 ht).mono ?_
              rintro e w3 ⟨rfl, h3, o3⟩
              go_wp2_with fail
              refine (rback_yes _ _ _ _ _ _ (HR.out.only o3 (Ne.symm hgk)) t0 ht).mono ?_
              rintro e w4 ⟨rfl, h4, o4⟩
              have H4 := Lib.hid (h3.only o4 hgk)
              have R4 := Lib.hid h4
              have k4 : k < w4.heap.size := by rw [o4.size, o3.size]; exact hkl
              have B4 : Below g w w4 := (hB.trans (o3.below (Nat.le_refl _))).trans (o4.below (by omega))
              clear h3 h4
              go_wp2_with fail
              refine (state_any _ _ _ _ _ _ H4.out).mono ?_
              rintro e w5 ⟨rfl, h5, o5⟩
              have H5 := Lib.hid h5
              have R5 := Lib.hid (R4.out.only o5 (Ne.symm hgk))
              clear h5
              go_wp2_with fail
              go_region_held3 (fun w' => w'.cell? ⟨k, 2, none⟩ = some (.int .i64 (t + 1)) ∧ w'.cell? ⟨k, 0, none⟩ = some (.int .i64 (s)) ∧ w'.cell? ⟨k, 1, none⟩ = some (.int .i64 (v)))
                (first | exact Ref.three (by exact R7.out) | exact Ref.three (by exact R6.out) | exact Ref.three (by exact R5.out))
                (first
                  | (go_at_call 16; refine (wait_any g (m) (s) (v) (t + 1) _ (by exact H5.out) (by omega) (by omega) (by omega) (by omega) (by omega) (by omega)).mono ?_; rintro e w6 ⟨rfl, h6, o6⟩; have H6 := Lib.hid h6; have R6 := Lib.hid (Ref.only (by exact R5.out) o6 (Ne.symm hgk)); clear h6)
                  | (go_at_call 17; refine (rwait_any k (m) (s) (v) (t + 1) _ (by exact R6.out) (by omega) (by omega) (by omega) (by omega) (by omega) (by omega)).mono ?_; rintro e w7 ⟨rfl, r7, o7⟩; have R7 := Lib.hid r7; have H7 := Lib.hid (Est.only (by exact H6.out) o7 hgk); clear r7)
                  | (go_at_call 18; refine (tries_any g (m) (s) (v) (t + 1) _ (by exact H7.out)).mono ?_; rintro e w' ⟨rfl, rfl⟩))
              have k7 : k < w7.heap.size := by rw [o7.size, o6.size]; (try simp only [World.drew_heap]); rw [show w5.drew.heap.size = w5.heap.size from rfl, o5.size]; exact k4
              have B7 : Below g w w7 := by first | exact (((B4.trans (o5.below (Nat.le_refl _))).drew.trans (o6.below (Nat.le_refl _))).trans (o7.below (by omega))) | exact (((B4.trans (o5.below (Nat.le_refl _))).trans (o6.below (Nat.le_refl _))).trans (o7.below (by omega)))
              have hst7 : Hid (Both g k w7) := Lib.hid ⟨m, s, v, t + 1, by omega, by omega, by omega, by omega, by omega, by omega, H7.out, R7.out⟩
              go_wp2
              go_roundw
              case rel => exact ⟨i + 1, by go_num, by omega, by omega, hst7, B7, k7⟩
              case measure => simp [intOf]; omega
          · have ht8 : t = 8 := by omega
            subst ht8
            rcases hq34 with hq3 | ⟨hq3, hq4⟩
            all_goals
              go_wp2_with fail
              refine (back_no _ _ _ _ _ HE.out).mono ?_
              rintro e w3 ⟨rfl, rfl⟩
              go_wp2_with fail
              refine (rback_no _ _ _ _ _ HR.out).mono ?_
              rintro e w4 ⟨rfl, rfl⟩
              have H4 := HE
              have R4 := HR
              have k4 := hkl
              have B4 := hB
              go_wp2_with fail
              refine (state_any _ _ _ _ _ _ H4.out).mono ?_
              rintro e w5 ⟨rfl, h5, o5⟩
              have H5 := Lib.hid h5
              have R5 := Lib.hid (R4.out.only o5 (Ne.symm hgk))
              clear h5
              go_wp2_with fail
              go_region_held3 (fun w' => w'.cell? ⟨k, 2, none⟩ = some (.int .i64 (8)) ∧ w'.cell? ⟨k, 0, none⟩ = some (.int .i64 (s)) ∧ w'.cell? ⟨k, 1, none⟩ = some (.int .i64 (v)))
                (first | exact Ref.three (by exact R7.out) | exact Ref.three (by exact R6.out) | exact Ref.three (by exact R5.out))
                (first
                  | (go_at_call 16; refine (wait_any g (m) (s) (v) (8) _ (by exact H5.out) (by omega) (by omega) (by omega) (by omega) (by omega) (by omega)).mono ?_; rintro e w6 ⟨rfl, h6, o6⟩; have H6 := Lib.hid h6; have R6 := Lib.hid (Ref.only (by exact R5.out) o6 (Ne.symm hgk)); clear h6)
                  | (go_at_call 17; refine (rwait_any k (m) (s) (v) (8) _ (by exact R6.out) (by omega) (by omega) (by omega) (by omega) (by omega) (by omega)).mono ?_; rintro e w7 ⟨rfl, r7, o7⟩; have R7 := Lib.hid r7; have H7 := Lib.hid (Est.only (by exact H6.out) o7 hgk); clear r7)
                  | (go_at_call 18; refine (tries_any g (m) (s) (v) (8) _ (by exact H7.out)).mono ?_; rintro e w' ⟨rfl, rfl⟩))
              have k7 : k < w7.heap.size := by rw [o7.size, o6.size]; (try simp only [World.drew_heap]); rw [show w5.drew.heap.size = w5.heap.size from rfl, o5.size]; exact k4
              have B7 : Below g w w7 := by first | exact (((B4.trans (o5.below (Nat.le_refl _))).drew.trans (o6.below (Nat.le_refl _))).trans (o7.below (by omega))) | exact (((B4.trans (o5.below (Nat.le_refl _))).trans (o6.below (Nat.le_refl _))).trans (o7.below (by omega)))
              have hst7 : Hid (Both g k w7) := Lib.hid ⟨m, s, v, 8, by omega, by omega, by omega, by omega, by omega, by omega, H7.out, R7.out⟩
              go_wp2
              go_roundw
              case rel => exact ⟨i + 1, by go_num, by omega, by omega, hst7, B7, k7⟩
              case measure => simp [intOf]; omega
        · have hq3 : ((q : Int) == 3) = false := by simp; omega
          have hq4 : ((q : Int) == 4) = false := by simp; omega
          clear h34
          by_cases h5 : q = 5
          · have hq5 : ((q : Int) == 5) = true := by simp; omega
            clear h5
            go_wp2_with fail
            refine (good_any _ _ _ _ _ _ HE.out).mono ?_
            rintro e w3 ⟨rfl, h3, o3⟩
            have r3 := HR.out.only o3 (Ne.symm hgk)
            have c2 := r3.cells.2.2.1
            have f2 := r3.thaw.2.2.1
            have R4 := Lib.hid (r3.set2 0)
            have H4 := Lib.hid (Est.only h3 ((Only.refl k w3).setCell 2 (.int .i64 0)) hgk)
            have k4 : k < (w3.setCell ⟨k, 2, none⟩ (.int .i64 0)).heap.size := by rw [((Only.refl k w3).setCell 2 (.int .i64 0)).size, o3.size]; exact hkl
            have B4 : Below g w (w3.setCell ⟨k, 2, none⟩ (.int .i64 0)) := (hB.trans (o3.below (Nat.le_refl _))).trans (((Only.refl k w3).setCell 2 (.int .i64 0)).below (by omega))
            clear h3 r3
            go_wp2_with fail
            clear c2 f2
            generalize (w3.setCell ⟨k, 2, none⟩ (.int .i64 0)) = w4 at *
            refine (state_any _ _ _ _ _ _ H4.out).mono ?_
            rintro e w5 ⟨rfl, h5, o5⟩
            have H5 := Lib.hid h5
            have R5 := Lib.hid (R4.out.only o5 (Ne.symm hgk))
            clear h5
            go_wp2_with fail
            go_region_held3 (fun w' => w'.cell? ⟨k, 2, none⟩ = some (.int .i64 (0)) ∧ w'.cell? ⟨k, 0, none⟩ = some (.int .i64 (s)) ∧ w'.cell? ⟨k, 1, none⟩ = some (.int .i64 (v)))
              (first | exact Ref.three (by exact R7.out) | exact Ref.three (by exact R6.out) | exact Ref.three (by exact R5.out))
              (first
                | (go_at_call 16; refine (wait_any g (m) (s) (v) (0) _ (by exact H5.out) (by omega) (by omega) (by omega) (by omega) (by omega) (by omega)).mono ?_; rintro e w6 ⟨rfl, h6, o6⟩; have H6 := Lib.hid h6; have R6 := Lib.hid (Ref.only (by exact R5.out) o6 (Ne.symm hgk)); clear h6)
                | (go_at_call 17; refine (rwait_any k (m) (s) (v) (0) _ (by exact R6.out) (by omega) (by omega) (by omega) (by omega) (by omega) (by omega)).mono ?_; rintro e w7 ⟨rfl, r7, o7⟩; have R7 := Lib.hid r7; have H7 := Lib.hid (Est.only (by exact H6.out) o7 hgk); clear r7)
                | (go_at_call 18; refine (tries_any g (m) (s) (v) (0) _ (by exact H7.out)).mono ?_; rintro e w' ⟨rfl, rfl⟩))
            have k7 : k < w7.heap.size := by rw [o7.size, o6.size]; (try simp only [World.drew_heap]); rw [show w5.drew.heap.size = w5.heap.size from rfl, o5.size]; exact k4
            have B7 : Below g w w7 := by first | exact (((B4.trans (o5.below (Nat.le_refl _))).drew.trans (o6.below (Nat.le_refl _))).trans (o7.below (by omega))) | exact (((B4.trans (o5.below (Nat.le_refl _))).trans (o6.below (Nat.le_refl _))).trans (o7.below (by omega)))
            have hst7 : Hid (Both g k w7) := Lib.hid ⟨m, s, v, 0, by omega, by omega, by omega, by omega, by omega, by omega, H7.out, R7.out⟩
            go_wp2
            go_roundw
            case rel => exact ⟨i + 1, by go_num, by omega, by omega, hst7, B7, k7⟩
            case measure => simp [intOf]; omega
          · have hq5 : ((q : Int) == 5) = false := by simp; omega
            clear h5
            have hi0 : (0 : Int) ≤ (i : Int) := by omega
            have hi1 : (i : Int) < (len : Int) := by omega
            go_wp2_with fail
            go_region_held3 (fun w' => w'.cell? ⟨b, off + i * 2 + 1, none⟩ = some (.int .i64 x2))
              (first | exact hc2 | exact (Only.cell o3 hbg).trans hc2 | exact (Only.cell o4 hbk).trans ((Only.cell o3 hbg).trans hc2))
              (first
                | (go_at_call 13; refine (measure_all g m s v t x2 _ (by exact HE.out) s0 s1 v0 v1).mono ?_; rintro e w3 ⟨rfl, h3, o3⟩)
                | (go_at_call 14; refine (rmeasure_all k m s v t x2 _ (by exact Ref.only (by exact HR.out) o3 (Ne.symm hgk)) s0 s1 v0 v1).mono ?_; rintro e w4 ⟨rfl, h4, o4⟩))
            have rng := step_range m s v x2 s0 s1 v0 v1
            have H4 := Lib.hid (h3.only o4 hgk)
            have R4 := Lib.hid h4
            have k4 : k < w4.heap.size := by rw [o4.size, o3.size]; exact hkl
            have B4 : Below g w w4 := by first | exact (hB.drew.trans (o3.below (Nat.le_refl _))).trans (o4.below (by omega)) | exact (hB.trans (o3.below (Nat.le_refl _))).trans (o4.below (by omega))
            clear h3 h4
            generalize mOf m x2 = M at *
            generalize sOf m s x2 = S at *
            generalize vOf m s v x2 = V at *
            obtain ⟨S0, S1, V0, V1⟩ := rng
            go_wp2_with fail
            refine (state_any _ _ _ _ _ _ H4.out).mono ?_
            rintro e w5 ⟨rfl, h5, o5⟩
            have H5 := Lib.hid h5
            have R5 := Lib.hid (R4.out.only o5 (Ne.symm hgk))
            clear h5
            go_wp2_with fail
            go_region_held3 (fun w' => w'.cell? ⟨k, 2, none⟩ = some (.int .i64 (t)) ∧ w'.cell? ⟨k, 0, none⟩ = some (.int .i64 (S)) ∧ w'.cell? ⟨k, 1, none⟩ = some (.int .i64 (V)))
              (first | exact Ref.three (by exact R7.out) | exact Ref.three (by exact R6.out) | exact Ref.three (by exact R5.out))
              (first
                | (go_at_call 16; refine (wait_any g (M) (S) (V) (t) _ (by exact H5.out) (by omega) (by omega) (by omega) (by omega) (by omega) (by omega)).mono ?_; rintro e w6 ⟨rfl, h6, o6⟩; have H6 := Lib.hid h6; have R6 := Lib.hid (Ref.only (by exact R5.out) o6 (Ne.symm hgk)); clear h6)
                | (go_at_call 17; refine (rwait_any k (M) (S) (V) (t) _ (by exact R6.out) (by omega) (by omega) (by omega) (by omega) (by omega) (by omega)).mono ?_; rintro e w7 ⟨rfl, r7, o7⟩; have R7 := Lib.hid r7; have H7 := Lib.hid (Est.only (by exact H6.out) o7 hgk); clear r7)
                | (go_at_call 18; refine (tries_any g (M) (S) (V) (t) _ (by exact H7.out)).mono ?_; rintro e w' ⟨rfl, rfl⟩))
            have k7 : k < w7.heap.size := by rw [o7.size, o6.size]; (try simp only [World.drew_heap]); rw [show w5.drew.heap.size = w5.heap.size from rfl, o5.size]; exact k4
            have B7 : Below g w w7 := by first | exact (((B4.trans (o5.below (Nat.le_refl _))).drew.trans (o6.below (Nat.le_refl _))).trans (o7.below (by omega))) | exact (((B4.trans (o5.below (Nat.le_refl _))).trans (o6.below (Nat.le_refl _))).trans (o7.below (by omega)))
            have hst7 : Hid (Both g k w7) := Lib.hid ⟨M, S, V, t, by omega, by omega, by omega, by omega, by omega, by omega, H7.out, R7.out⟩
            go_wp2
            go_roundw
            case rel => exact ⟨i + 1, by go_num, by omega, by omega, hst7, B7, k7⟩
            case measure => simp [intOf]; omega
      · go_wp2_with fail
        refine (works_any _).mono ?_
        rintro e w3 ⟨rfl, b3⟩
        go_wp2
        go_ret
        exact ⟨rfl, by rw [HG.out]; exact hB.trans (b3.mono (by have := hB.size; have := HG.out; omega))⟩
    · go_wp2_with fail
      refine (works_any _).mono ?_
      rintro e w3 ⟨rfl, b3⟩
      go_wp2
      go_ret
      exact ⟨rfl, by rw [HG.out]; exact hB.trans (b3.mono (by have := hB.size; have := HG.out; omega))⟩
end Go.Proofs.Ytfhiamalplehjaa
