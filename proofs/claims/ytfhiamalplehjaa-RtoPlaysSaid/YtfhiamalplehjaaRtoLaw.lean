/- What the law functions of layer 13 come to: true, whatever is measured; nothing that was there is changed. No conditions but that a list's numbers are cells of memory. -/
import Derived.Test.YtfhiamalplehjaaRto
import Derived.Test.YtfhiamalplehjaaInts
set_option linter.unusedVariables false
set_option linter.unusedSimpArgs false
namespace Go.Proofs.Ytfhiamalplehjaa
open Go.RowKit

theorem works_any (w : World) : Calls Try.prog 19 #[] w fun e w' => e = .returned (.bool true) ∧ Below w.heap.size w w' := by
  go_enter Try.func19, Try.ntmps19
  go_wp2_with fail
  refine (new_any _).mono ?_
  rintro e w0 ⟨rfl, h0, b0⟩
  have H0 := Lib.hid h0
  have hg := Blk.lt h0
  clear h0
  obtain ⟨g, hG⟩ : ∃ g, w.heap.size = g := ⟨_, rfl⟩
  rw [hG] at H0 hg b0 ⊢
  have HG := Lib.hid hG
  clear hG
  go_wp2_with fail
  refine (wait_any _ _ _ _ _ _ H0.out (by omega) (by omega) (by omega) (by omega) (by omega) (by omega)).mono ?_
  rw [show waitOf false 0 0 0 = 30 from by decide]
  rintro e w1 ⟨rfl, h1, o1⟩
  have H1 := Lib.hid h1
  clear h1
  go_wp2_with fail
  refine (measure_first _ _ _ _ _ _ H1.out (by omega) (by omega)).mono ?_
  rintro e w2 ⟨rfl, h2, o2⟩
  have H2 := Lib.hid h2
  clear h2
  go_wp2_with fail
  refine (wait_any _ _ _ _ _ _ H2.out (by omega) (by omega) (by omega) (by omega) (by omega) (by omega)).mono ?_
  rw [show waitOf true (8 * 10) (2 * 10) 0 = 30 from by decide]
  rintro e w3 ⟨rfl, h3, o3⟩
  have H3 := Lib.hid h3
  clear h3
  go_wp2_with fail
  refine (back_yes _ _ _ _ _ _ H3.out (by omega) (by omega)).mono ?_
  rintro e w4 ⟨rfl, h4, o4⟩
  have H4 := Lib.hid h4
  clear h4
  go_wp2_with fail
  refine (state_any _ _ _ _ _ _ H4.out).mono ?_
  rintro e w5 ⟨rfl, h5, o5⟩
  have H5 := Lib.hid h5
  clear h5
  go_wp2_with fail
  refine (wait_any _ _ _ _ _ _ H5.out (by omega) (by omega) (by omega) (by omega) (by omega) (by omega)).mono ?_
  rw [show waitOf true (8 * 10) (2 * 10) (0 + 1) = 60 from by decide]
  rintro e w6 ⟨rfl, h6, o6⟩
  clear h6
  go_wp2
  go_ret
  exact ⟨rfl, by rw [HG.out]; exact b0.trans ((((((o1.trans o2).trans o3).trans o4).trans o5).trans o6).below (Nat.le_refl _))⟩

/-- An estimate of measures that are all q. -/
def Steady (q : Int) (g : Nat) (w : World) : Prop := Est w g false 0 0 0 ∨ ∃ v, 0 ≤ v ∧ v ≤ 2 * q ∧ Est w g true (8 * q) v 0
def SteadyStep (q : Int) (g : Nat) (w : World) (e : Ending) (w' : World) : Prop := e = .returned (.int .i64 0) ∧ ∃ v, 0 ≤ v ∧ v ≤ 2 * q ∧ Est w' g true (8 * q) v 0 ∧ Only g w w'
theorem steady_step (q : Int) (g : Nat) (w : World) (h : Steady q g w) (q0 : 0 ≤ q) (q1 : q ≤ 100000) :
    Calls Try.prog 13 #[.pointer (some ⟨g, 0, none⟩), .int .i64 q] w (SteadyStep q g w) := by
  rcases h with h | ⟨v, v0, v1, h⟩
  · exact (measure_first _ _ _ _ _ _ h q0 q1).mono fun e w' ⟨he, h', ho⟩ => ⟨he, 2 * q, by omega, by omega, h', ho⟩
  · have hS : nextS (8 * q) q = 8 * q := by unfold nextS; omega
    have hV : nextV (8 * q) v q = v - v / 4 := by unfold nextV; omega
    exact (measure_more _ _ _ _ _ _ h q0 q1 (by omega) (by omega) v0 (by omega)).mono fun e w' ⟨he, h', ho⟩ => ⟨he, v - v / 4, by omega, by omega, by rw [hS, hV] at h'; exact h', ho⟩
theorem steady_wait (q v : Int) (q0 : 0 ≤ q) (v0 : 0 ≤ v) (v1 : v ≤ 2 * q) : waitOf true (8 * q) v 0 ≤ max 5 (3 * q + 1) := by
  unfold waitOf baseOf
  simp only [↓reduceIte]
  have : (2 : Int) ^ (0 : Int).toNat = 1 := by decide
  rw [this]
  omega

/-- 'RtoSteady'. -/
theorem rtoSteady_walk (r n : Int) (w : World) :
    Calls Try.prog 5 #[.int .i64 r, .int .i64 n] w fun e w' => e = .returned (.bool true) ∧ Below w.heap.size w w' := by
  go_enter Try.func5, Try.ntmps5
  go_wp2_with fail
  refine (works_any _).mono ?_
  rintro e w0 ⟨rfl, b0⟩
  go_wp2_with fail
  refine (new_any _).mono ?_
  rintro e w1 ⟨rfl, h1, b1⟩
  have hg1 : w.heap.size ≤ w0.heap.size := b0.size
  have hg2 := Blk.lt h1
  generalize w0.heap.size = g at *
  have H1 := Lib.hid h1
  have B1 : Below w.heap.size w w1 := b0.trans (b1.mono hg1)
  clear h1
  go_wp2_with fail
  refine (among_any r _ _ (by omega) (by omega)).mono ?_
  rintro e w' ⟨q, hq, rfl, rfl⟩
  have q0 : 0 ≤ (q : Int) := by omega
  have q1 : (q : Int) ≤ 100000 := by omega
  clear hq
  generalize (q : Int) = q at *
  go_wp2_with fail
  have hst : Hid (Steady q g w1) := Lib.hid (Or.inl H1.out)
  go_loopw [6] (fun k wr => ∃ i : Nat, k = .int .i64 i ∧ i ≤ 100 ∧ Hid (Steady q g wr) ∧ Below w.heap.size w wr ∧ g < wr.heap.size) (fun k _ => 101 - (intOf k).toNat)
  case atStart => exact ⟨0, rfl, by omega, hst, B1, hg2⟩
  case round =>
    obtain ⟨i, rfl, hi, hs, hB, hgl⟩ := hrel
    clear hst
    go_wp2_with fail
    refine (among_any n _ _ (by omega) (by omega)).mono ?_
    rintro e w' ⟨c, hc, rfl, rfl⟩
    by_cases hlt : (i : Int) < 1 + (c : Int)
    · go_wp2_with fail
      refine (steady_step q g _ hs.out q0 q1).mono ?_
      rintro e w2 ⟨rfl, v, v0, v1, h2, o2⟩
      have H2 := Lib.hid h2
      have hW := steady_wait q v q0 v0 v1
      clear h2
      go_wp2_with fail
      refine (wait_any _ _ _ _ _ _ H2.out (by omega) (by omega) (by omega) (by omega) (by omega) (by omega)).mono ?_
      generalize waitOf true (8 * q) v 0 = W at *
      rintro e w3 ⟨rfl, h3, o3⟩
      have H3 := Lib.hid h3
      clear h3
      have hsz : g < w3.heap.size := by rw [o3.size, o2.size]; exact hgl
      have hst3 : Hid (Steady q g w3) := Lib.hid (Or.inr ⟨v, v0, v1, H3.out⟩)
      have hB3 : Below w.heap.size w w3 := hB.trans ((o2.trans o3).below hg1)
      by_cases h5 : 3 * q + 1 ≤ 5
      · have hW2 : W ≤ 5 := by omega
        clear hW
        go_wp2
        go_roundw
        case rel => exact ⟨i + 1, by go_num, by omega, hst3, hB3, hsz⟩
        case measure => simp [intOf]; omega
      · have hW2 : W ≤ 3 * q + 1 := by omega
        clear hW
        go_wp2
        go_roundw
        case rel => exact ⟨i + 1, by go_num, by omega, hst3, hB3, hsz⟩
        case measure => simp [intOf]; omega
    · go_wp2
      go_ret
      exact ⟨rfl, hB⟩

/-- No call made it: nil, or a struct of zero values. -/
def NotMade (w : World) (p : Option Addr) : Prop := p = none ∨ ∃ g, p = some ⟨g, 0, none⟩ ∧ w.cell? ⟨g, 0, none⟩ = some (.bool false)
theorem isMade_not (p : Option Addr) (w : World) (h : NotMade w p) :
    Calls Try.prog 20 #[.pointer p] w fun e w' => e = .returned (.bool false) ∧ w = w' := by
  rcases h with rfl | ⟨g, rfl, hc⟩
  · go_enter Try.func20, Try.ntmps20
    go_wp2
    go_ret
    exact ⟨rfl, rfl⟩
  · go_enter Try.func20, Try.ntmps20
    go_wp2
    go_ret
    exact ⟨rfl, rfl⟩
theorem good_not (p : Option Addr) (w : World) (h : NotMade w p) :
    Calls Try.prog 12 #[.pointer p] w fun e w' => e = .returned (.tuple #[]) ∧ w = w' := by
  have H := Lib.hid h
  clear h
  go_enter Try.func12, Try.ntmps12
  go_wp2_with (go_at_call 20; refine (isMade_not _ _ H.out).mono ?_; rintro e w' ⟨rfl, rfl⟩)
  go_end0
  exact ⟨rfl, rfl⟩
theorem state_not (p : Option Addr) (w : World) (h : NotMade w p) :
    Calls Try.prog 15 #[.pointer p] w fun e w' => e = .returned (.tuple #[.int .i64 0, .int .i64 0]) ∧ w = w' := by
  have H := Lib.hid h
  clear h
  go_enter Try.func15, Try.ntmps15
  go_wp2_with (go_at_call 20; refine (isMade_not _ _ H.out).mono ?_; rintro e w' ⟨rfl, rfl⟩)
  go_ret2
  exact ⟨rfl, rfl⟩
theorem tries_not (p : Option Addr) (w : World) (h : NotMade w p) :
    Calls Try.prog 18 #[.pointer p] w fun e w' => e = .returned (.int .i64 0) ∧ w = w' := by
  have H := Lib.hid h
  clear h
  go_enter Try.func18, Try.ntmps18
  go_wp2_with (go_at_call 20; refine (isMade_not _ _ H.out).mono ?_; rintro e w' ⟨rfl, rfl⟩)
  go_ret
  exact ⟨rfl, rfl⟩
theorem back_not (p : Option Addr) (w : World) (h : NotMade w p) :
    Calls Try.prog 10 #[.pointer p] w fun e w' => e = .returned (.int .i64 1) ∧ w = w' := by
  have H := Lib.hid h
  clear h
  go_enter Try.func10, Try.ntmps10
  go_wp2_with (go_at_call 20; refine (isMade_not _ _ H.out).mono ?_; rintro e w' ⟨rfl, rfl⟩)
  go_ret
  exact ⟨rfl, rfl⟩
theorem measure_not (p : Option Addr) (r : Int) (w : World) (h : NotMade w p) :
    Calls Try.prog 13 #[.pointer p, .int .i64 r] w fun e w' => e = .returned (.int .i64 1) ∧ w = w' := by
  have H := Lib.hid h
  clear h
  go_enter Try.func13, Try.ntmps13
  go_wp2_with (go_at_call 20; refine (isMade_not _ _ H.out).mono ?_; rintro e w' ⟨rfl, rfl⟩)
  go_ret
  exact ⟨rfl, rfl⟩
theorem wait_not (p : Option Addr) (w : World) (h : NotMade w p) :
    Calls Try.prog 16 #[.pointer p] w fun e w' => e = .returned (.int .i64 0) ∧ w = w' := by
  have H := Lib.hid h
  clear h
  go_enter Try.func16, Try.ntmps16
  go_wp2
  refine wp_scope_ahead 0 ?_
  go_wp2_with (go_at_call 20; refine (isMade_not _ _ H.out).mono ?_; rintro e w' ⟨rfl, rfl⟩)
  rw [hops_ret]
  go_ret
  exact ⟨rfl, rfl⟩

/-- 'RtoVoid'. -/
theorem rtoVoid_walk (r : Int) (w : World) :
    Calls Try.prog 7 #[.int .i64 r] w fun e w' => e = .returned (.bool true) ∧ Below w.heap.size w w' := by
  go_enter Try.func7, Try.ntmps7
  go_wp2_with fail
  refine (works_any _).mono ?_
  rintro e w0 ⟨rfl, b0⟩
  go_wp2_with fail
  refine (good_not none _ (Or.inl rfl)).mono ?_
  rintro e w' ⟨rfl, rfl⟩
  go_wp2_with fail
  have hcell : (w0.alloc (.cells #[.bool false, .bool false, .int .i64 0, .int .i64 0, .int .i64 0] 43)).cell? ⟨w0.heap.size, 0, none⟩ = some (.bool false) := Blk.cell (Blk.new w0 43 #[.bool false, .bool false, .int .i64 0, .int .i64 0, .int .i64 0]) 0
  have b1 : Below w0.heap.size w0 (w0.alloc (.cells #[.bool false, .bool false, .int .i64 0, .int .i64 0, .int .i64 0] 43)) := (Below.refl _ _).alloc (Nat.le_refl _) _
  generalize w0.alloc (.cells #[.bool false, .bool false, .int .i64 0, .int .i64 0, .int .i64 0] 43) = w1 at *
  have n0 : NotMade w1 none := Or.inl rfl
  have nz : NotMade w1 (some ⟨w0.heap.size, 0, none⟩) := Or.inr ⟨_, rfl, hcell⟩
  clear hcell
  go_wp2_with (first
    | (go_at_call 12; (with_reducible refine (good_not none _ n0).mono ?_); rintro e w' ⟨rfl, rfl⟩)
    | (go_at_call 12; (with_reducible refine (good_not (some ⟨w0.heap.size, 0, none⟩) _ nz).mono ?_); rintro e w' ⟨rfl, rfl⟩)
    | (go_at_call 15; (with_reducible refine (state_not none _ n0).mono ?_); rintro e w' ⟨rfl, rfl⟩)
    | (go_at_call 15; (with_reducible refine (state_not (some ⟨w0.heap.size, 0, none⟩) _ nz).mono ?_); rintro e w' ⟨rfl, rfl⟩)
    | (go_at_call 13; (with_reducible refine (measure_not none _ _ n0).mono ?_); rintro e w' ⟨rfl, rfl⟩)
    | (go_at_call 13; (with_reducible refine (measure_not (some ⟨w0.heap.size, 0, none⟩) _ _ nz).mono ?_); rintro e w' ⟨rfl, rfl⟩)
    | (go_at_call 10; (with_reducible refine (back_not none _ n0).mono ?_); rintro e w' ⟨rfl, rfl⟩)
    | (go_at_call 10; (with_reducible refine (back_not (some ⟨w0.heap.size, 0, none⟩) _ nz).mono ?_); rintro e w' ⟨rfl, rfl⟩)
    | (go_at_call 16; (with_reducible refine (wait_not none _ n0).mono ?_); rintro e w' ⟨rfl, rfl⟩)
    | (go_at_call 16; (with_reducible refine (wait_not (some ⟨w0.heap.size, 0, none⟩) _ nz).mono ?_); rintro e w' ⟨rfl, rfl⟩)
    | (go_at_call 18; (with_reducible refine (tries_not none _ n0).mono ?_); rintro e w' ⟨rfl, rfl⟩)
    | (go_at_call 18; (with_reducible refine (tries_not (some ⟨w0.heap.size, 0, none⟩) _ nz).mono ?_); rintro e w' ⟨rfl, rfl⟩))
  go_ret
  exact ⟨rfl, b0.trans (b1.mono b0.size)⟩

/-- What is smoothed lies from the least measure to the greatest. -/
def Smooth (lo hi : Int) (g : Nat) (w : World) : Prop :=
  (lo = 100000 ∧ hi = 0 ∧ Est w g false 0 0 0) ∨ (∃ s v, 0 ≤ lo ∧ hi ≤ 100000 ∧ 8 * lo ≤ s ∧ s ≤ 8 * hi + 7 ∧ 0 ≤ v ∧ v ≤ 400003 ∧ Est w g true s v 0)
def SmoothStep (lo hi : Int) (g : Nat) (w : World) (e : Ending) (w' : World) : Prop :=
  e = .returned (.int .i64 0) ∧ ∃ s v, 0 ≤ lo ∧ hi ≤ 100000 ∧ 8 * lo ≤ s ∧ s ≤ 8 * hi + 7 ∧ 0 ≤ v ∧ v ≤ 400003 ∧ Est w' g true s v 0 ∧ Only g w w'
theorem smooth_step (lo hi lo' hi' r : Int) (g : Nat) (w : World) (h : Smooth lo hi g w) (r0 : 0 ≤ r) (r1 : r ≤ 100000) (e1 : lo' = min lo r) (e2 : hi' = max hi r) :
    Calls Try.prog 13 #[.pointer (some ⟨g, 0, none⟩), .int .i64 r] w (SmoothStep lo' hi' g w) := by
  rcases h with ⟨rfl, rfl, h⟩ | ⟨s, v, h1, h2, h3, h4, h5, h6, h⟩
  · exact (measure_first _ _ _ _ _ _ h r0 r1).mono fun e w' ⟨he, h', ho⟩ => ⟨he, _, _, by omega, by omega, by omega, by omega, by omega, by omega, h', ho⟩
  · have hS : nextS s r = s + (r - s / 8) := rfl
    have hV : nextV s v r = v + (max (s / 8 - r) (-(s / 8 - r)) - v / 4) := rfl
    exact (measure_more _ _ _ _ _ _ h r0 r1 (by omega) (by omega) h5 h6).mono fun e w' ⟨he, h', ho⟩ => ⟨he, _, _, by omega, by omega, by omega, by omega, by omega, by omega, h', ho⟩

/-- 'RtoSmoothed'. -/
theorem rtoSmoothed_walk (A : Option Addr) (zs : List Int) (c : Nat) (w : World) (h : Ints .i64 w w.heap.size A zs) (hn : zs.length ≤ maxLen) (hc : zs.length ≤ c) :
    Calls Try.prog 6 #[.slice A zs.length c] w fun e w' => e = .returned (.bool true) ∧ Below w.heap.size w w' := by
  have HI := Lib.hid h
  unfold maxLen at hn
  clear h
  go_enter Try.func6, Try.ntmps6
  go_wp2_with fail
  refine (works_any _).mono ?_
  rintro e w0 ⟨rfl, b0⟩
  go_wp2_with fail
  refine (new_any _).mono ?_
  rintro e w1 ⟨rfl, h1, b1⟩
  have hg1 : w.heap.size ≤ w0.heap.size := b0.size
  have hg2 := Blk.lt h1
  generalize w0.heap.size = g at *
  have hst : Hid (Smooth 100000 0 g w1) := Lib.hid (Or.inl ⟨rfl, rfl, h1⟩)
  have B1 : Below w.heap.size w w1 := b0.trans (b1.mono hg1)
  clear h1
  go_wp2_with fail
  go_loopw [4, 5, 6] (fun l m k wr => ∃ (i : Nat) (lo hi : Int), k = .int .i64 i ∧ i ≤ 100 ∧ i ≤ zs.length ∧ l = .int .i64 lo ∧ m = .int .i64 hi ∧ Hid (Smooth lo hi g wr) ∧ Below w.heap.size w wr ∧ g < wr.heap.size) (fun _ _ k _ => 101 - (intOf k).toNat)
  case atStart => exact ⟨0, 100000, 0, rfl, by omega, by omega, rfl, rfl, hst, B1, hg2⟩
  case round =>
    obtain ⟨i, lo, hi, rfl, hi100, hil, rfl, rfl, hs, hB, hgl⟩ := hrel
    clear hst
    by_cases hlt : i < zs.length
    · by_cases h100 : i < 100
      · obtain ⟨b, off, rfl, hb, hcell⟩ := HI.out.2 (by intro e; subst e; simp at hlt)
        have hcl := (hB.cell (p := ⟨b, off + i, none⟩) hb).trans (hcell i hlt)
        generalize zs.getD i 0 = x at *
        clear hcell
        go_wp2_with fail
        refine (among_any x _ _ (by omega) (by omega)).mono ?_
        rintro e w' ⟨q, hq, rfl, rfl⟩
        have q0 : 0 ≤ (q : Int) := by omega
        have q1 : (q : Int) ≤ 100000 := by omega
        clear hq
        generalize (q : Int) = q at *
        rcases (by omega : (lo ≤ q ∧ q ≤ hi) ∨ (lo ≤ q ∧ hi < q) ∨ (q < lo ∧ q ≤ hi) ∨ (q < lo ∧ hi < q)) with ⟨k1, k2⟩ | ⟨k1, k2⟩ | ⟨k1, k2⟩ | ⟨k1, k2⟩
        · go_wp2_with fail
          refine (smooth_step lo hi lo hi q g _ hs.out q0 q1 (by omega) (by omega)).mono ?_
          rintro e w2 ⟨rfl, s, v, s1, s2, s3, s4, v0, v1, h2, o2⟩
          have H2 := Lib.hid h2
          clear h2
          go_wp2_with fail
          refine (state_any _ _ _ _ _ _ H2.out).mono ?_
          rintro e w3 ⟨rfl, h3, o3⟩
          have hst3 := Lib.hid (Or.inr ⟨s, v, s1, s2, s3, s4, v0, v1, h3⟩ : Smooth lo hi g w3)
          clear h3
          have hsz : g < w3.heap.size := by rw [o3.size, o2.size]; exact hgl
          have hB3 : Below w.heap.size w w3 := hB.trans ((o2.trans o3).below hg1)
          have d1 : 0 ≤ s := by omega
          go_wp2
          go_roundw
          case rel => exact ⟨i + 1, _, _, by go_num, by omega, by omega, rfl, rfl, hst3, hB3, hsz⟩
          case measure => simp [intOf]; omega
        · go_wp2_with fail
          refine (smooth_step lo hi lo q q g _ hs.out q0 q1 (by omega) (by omega)).mono ?_
          rintro e w2 ⟨rfl, s, v, s1, s2, s3, s4, v0, v1, h2, o2⟩
          have H2 := Lib.hid h2
          clear h2
          go_wp2_with fail
          refine (state_any _ _ _ _ _ _ H2.out).mono ?_
          rintro e w3 ⟨rfl, h3, o3⟩
          have hst3 := Lib.hid (Or.inr ⟨s, v, s1, s2, s3, s4, v0, v1, h3⟩ : Smooth lo q g w3)
          clear h3
          have hsz : g < w3.heap.size := by rw [o3.size, o2.size]; exact hgl
          have hB3 : Below w.heap.size w w3 := hB.trans ((o2.trans o3).below hg1)
          have d1 : 0 ≤ s := by omega
          go_wp2
          go_roundw
          case rel => exact ⟨i + 1, _, _, by go_num, by omega, by omega, rfl, rfl, hst3, hB3, hsz⟩
          case measure => simp [intOf]; omega
        · go_wp2_with fail
          refine (smooth_step lo hi q hi q g _ hs.out q0 q1 (by omega) (by omega)).mono ?_
          rintro e w2 ⟨rfl, s, v, s1, s2, s3, s4, v0, v1, h2, o2⟩
          have H2 := Lib.hid h2
          clear h2
          go_wp2_with fail
          refine (state_any _ _ _ _ _ _ H2.out).mono ?_
          rintro e w3 ⟨rfl, h3, o3⟩
          have hst3 := Lib.hid (Or.inr ⟨s, v, s1, s2, s3, s4, v0, v1, h3⟩ : Smooth q hi g w3)
          clear h3
          have hsz : g < w3.heap.size := by rw [o3.size, o2.size]; exact hgl
          have hB3 : Below w.heap.size w w3 := hB.trans ((o2.trans o3).below hg1)
          have d1 : 0 ≤ s := by omega
          go_wp2
          go_roundw
          case rel => exact ⟨i + 1, _, _, by go_num, by omega, by omega, rfl, rfl, hst3, hB3, hsz⟩
          case measure => simp [intOf]; omega
        · go_wp2_with fail
          refine (smooth_step lo hi q q q g _ hs.out q0 q1 (by omega) (by omega)).mono ?_
          rintro e w2 ⟨rfl, s, v, s1, s2, s3, s4, v0, v1, h2, o2⟩
          have H2 := Lib.hid h2
          clear h2
          go_wp2_with fail
          refine (state_any _ _ _ _ _ _ H2.out).mono ?_
          rintro e w3 ⟨rfl, h3, o3⟩
          have hst3 := Lib.hid (Or.inr ⟨s, v, s1, s2, s3, s4, v0, v1, h3⟩ : Smooth q q g w3)
          clear h3
          have hsz : g < w3.heap.size := by rw [o3.size, o2.size]; exact hgl
          have hB3 : Below w.heap.size w w3 := hB.trans ((o2.trans o3).below hg1)
          have d1 : 0 ≤ s := by omega
          go_wp2
          go_roundw
          case rel => exact ⟨i + 1, _, _, by go_num, by omega, by omega, rfl, rfl, hst3, hB3, hsz⟩
          case measure => simp [intOf]; omega
      · go_wp2
        go_ret
        exact ⟨rfl, hB⟩
    · go_wp2
      go_ret
      exact ⟨rfl, hB⟩
end Go.Proofs.Ytfhiamalplehjaa
