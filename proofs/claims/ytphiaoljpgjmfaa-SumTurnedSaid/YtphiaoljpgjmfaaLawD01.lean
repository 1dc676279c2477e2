/- What the law function SumTurned comes to: true, whatever the bytes and numbers; nothing that was there is changed. Conditions: the bytes are cells of memory that hold numbers from 0 to 255; the word is a number of 16 bits. -/
import Derived.Test.YtphiaoljpgjmfaaLawC01
import Derived.Deep.QuietTactic
import Derived.BigQuiet
import Derived.WalkSmall
set_option linter.unusedVariables false
set_option linter.unusedSimpArgs false
namespace Go.Proofs.Ytphiaoljpgjmfaa
open Go.RowKit

theorem turn_any (s was now : Int) (w : World) (s0 : 0 ≤ s) (s1 : s ≤ 65535) (a0 : 0 ≤ was) (a1 : was ≤ 65535) (b0 : 0 ≤ now) (b1 : now ≤ 65535) :
    Calls Try.prog 19 #[.int .u16 s, .int .u16 was, .int .u16 now] w fun e w' => e = .returned (.int .u16 (65535 - Plain.canon (65535 - s + (65535 - was) + now))) ∧ w = w' := by
  have x1 := Plain.xor_all s s0 s1
  have x2 := Plain.xor_all was a0 a1
  have m1 : (65535 - s) % 4294967296 = 65535 - s := by omega
  have m2 : (65535 - was) % 4294967296 = 65535 - was := by omega
  have m3 : (65535 - s + (65535 - was)) % 4294967296 = 65535 - s + (65535 - was) := by omega
  have m4 : (65535 - s + (65535 - was) + now) % 4294967296 = 65535 - s + (65535 - was) + now := by omega
  go_enter Try.func19, Try.ntmps19
  go_wp2_with (go_at_call 10; refine (sumFold_any _ _ (by omega) (by omega)).mono ?_; rintro e w' ⟨rfl, rfl⟩)
  go_ret
  exact ⟨rfl, rfl⟩

theorem all_take_succ (l : List Int) (k : Nat) (h : k < l.length) : (l.take (k + 1)).all (· == 0) = ((l.take k).all (· == 0) && (l.getD k 0 == 0)) := by
  rw [List.take_succ_eq_append_getElem h, List.all_append]
  simp [List.getD_eq_getElem?_getD, List.getElem?_eq_getElem h]

theorem sumTurned_walk (A : Option Addr) (xs : List Int) (c : Nat) (at_ now : Int) (w : World) (h : Bytes w w.heap.size A xs) (hn : xs.length ≤ maxLen) (hc : xs.length ≤ c) (b0 : 0 ≤ now) (b1 : now ≤ 65535) :
    Calls Try.prog 6 #[.slice A xs.length c, .int .i64 at_, .int .u16 now] w fun e w' => e = .returned (.bool true) ∧ Below w.heap.size w w' := by
  have HA := Lib.hid h
  clear h
  go_enter Try.func6, Try.ntmps6
  go_wp2_with fail
  refine (works_any _).mono ?_
  rintro e w0 ⟨rfl, hb0⟩
  go_wp2_with fail
  refine (short_reads A xs c _ ((HA.out.below hb0).more hb0.size) hn hc).mono ?_
  have hl : (xs.take 600).length ≤ 600 := by rw [List.length_take]; omega
  generalize xs.take 600 = zs at hl ⊢
  rintro e w1 ⟨A1, c1, rfl, H1, hb1⟩
  have hc1 : zs.length ≤ c1 := own_cap_le H1.out.1
  have hb01 : Below w.heap.size w w1 := hb0.trans (hb1.mono hb0.size)
  by_cases h2 : zs.length < 2
  · go_wp2
    go_ret
    exact ⟨rfl, hb01⟩
  obtain ⟨g, cap, hv, hg0, hg1⟩ := H1.out.1.form (by omega)
  have hA1 : A1 = some ⟨g, 0, none⟩ := by injection hv
  subst hA1
  clear hv
  go_wp2_with fail
  refine (among_any at_ _ _ (by omega) (by omega)).mono ?_
  rintro e w' ⟨r, hr, rfl, rfl⟩
  have hk : 2 * r + 1 < zs.length := by omega
  go_wp2_with fail
  have hcr := Plain.canon_range (Plain.words zs)
  refine (sumOf_any _ zs c1 _ _ H1.out.2 (by omega)).mono ?_
  rintro e w' ⟨rfl, rfl⟩
  have e1 := H1.out.1.cellAt (2 * r) (by omega)
  have e2 := H1.out.1.cellAt (2 * r + 1) (by omega)
  rw [vals_get _ _ (by omega)] at e1 e2
  have f1 := H1.out.1.frozenAt (2 * r)
  have f2 := H1.out.1.frozenAt (2 * r + 1)
  have r1 := H1.out.2.range (2 * r)
  have r2 := H1.out.2.range (2 * r + 1)
  have hwo : Plain.wordOf zs (2 * r) = 256 * zs.getD (2 * r) 0 + zs.getD (2 * r + 1) 0 := rfl
  generalize zs.getD (2 * r) 0 = x0 at *
  generalize zs.getD (2 * r + 1) 0 = y0 at *
  have HWO := Lib.hid hwo
  clear hwo
  obtain ⟨r10, r11⟩ := r1
  obtain ⟨r20, r21⟩ := r2
  go_wp2_with fail
  go_quiet (fail)
  have hq := Plain.u16_quo now b0 b1
  go_wp2_with fail
  clear hq
  have own1' : (w1.drewN nq).ownsRow w0.heap.size 5 1 (.slice (some ⟨g, 0, none⟩) zs.length c1) zs.length (vals zs) := H1.out.1
  have own2 := own_set2 own1' (2 * r) (2 * r + 1) (now / 256) (now % 256)
  have rng2 := range_set2 H1.out.2.1 (2 * r) (2 * r + 1) (now / 256) (now % 256) (by omega) (by omega)
  have hlen : ((zs.set (2 * r) (now / 256)).set (2 * r + 1) (now % 256)).length = zs.length := by simp
  have hw2 := Plain.words_set2 r zs (now / 256) (now % 256) hk
  have b12 : Below w0.heap.size w1 (((w1.drewN nq).setCell ⟨g, 2 * r, none⟩ (.int .u8 (now / 256))).setCell ⟨g, 2 * r + 1, none⟩ (.int .u8 (now % 256))) := ((below_drewN (Below.refl _ _) nq).setCell hg0 _).setCell hg0 _
  generalize (((w1.drewN nq).setCell ⟨g, 2 * r, none⟩ (.int .u8 (now / 256))).setCell ⟨g, 2 * r + 1, none⟩ (.int .u8 (now % 256))) = w2 at *
  generalize (zs.set (2 * r) (now / 256)).set (2 * r + 1) (now % 256) = z2 at *
  rw [← hlen]
  have HB2 := Lib.hid (own_bytes own2 rng2)
  have HR2 := Lib.hid rng2
  have n2 := Plain.words_nonneg z2 fun x hx => (rng2 x hx).1
  have n1 := Plain.words_nonneg zs fun x hx => (H1.out.2.1 x hx).1
  have hle := Plain.wordOf_le_words r zs (fun x hx => (H1.out.2.1 x hx).1) hk
  have hsum : Plain.words z2 = Plain.words zs - (256 * x0 + y0) + now := by rw [hw2, HWO.out]; omega
  have hct := Plain.canon_turn (Plain.words zs) (256 * x0 + y0) now n1 (by omega) (by rw [← HWO.out]; exact hle) (by omega) b0
  rw [← hsum] at hct
  have hlen2 : z2.length ≤ 600 := by omega
  clear own1' own2 rng2 hlen hw2 hsum hle n1 e1 e2 f1 f2
  have hp : 65535 - (65535 - Plain.canon (Plain.words zs)) + (65535 - (256 * x0 + y0)) + now = Plain.canon (Plain.words zs) + (65535 - (256 * x0 + y0)) + now := by omega
  refine (turn_any _ _ _ _ (by omega) (by omega) (by omega) (by omega) b0 b1).mono ?_
  rw [hp]
  clear hp
  have tr := Plain.canon_range (Plain.canon (Plain.words zs) + (65535 - (256 * x0 + y0)) + now)
  generalize Plain.canon (Plain.words zs) + (65535 - (256 * x0 + y0)) + now = t at *
  have HC := Lib.hid hct
  clear hct
  rintro e w' ⟨rfl, rfl⟩
  have hall : Hid (true = (z2.take 0).all (· == 0)) := Lib.hid (by simp)
  go_wp2_with fail
  go_loop [11, 12] (fun z i => ∃ (k : Nat) (b : Bool), i = .int .i64 k ∧ k ≤ z2.length ∧ z = .bool b ∧ Hid (b = (z2.take k).all (· == 0))) (fun _ i => z2.length - (intOf i).toNat)
  case atStart => exact ⟨0, true, rfl, by omega, rfl, hall⟩
  case round =>
    obtain ⟨k, b, rfl, hkl, rfl, HA2⟩ := hrel
    clear hall
    by_cases hlt : k < z2.length
    · obtain ⟨b', off', he, _, hcell⟩ := HB2.out.2 (by intro e; subst e; simp at hlt)
      have hcell := hcell k hlt
      injection he with he
      injection he with he1 he2
      subst he1 he2
      rw [Nat.zero_add] at hcell
      have hall2 := all_take_succ z2 k hlt
      have HC1 := Lib.hid hall2
      clear hall2
      by_cases hz : z2.getD k 0 = 0
      · rw [hz] at hcell HC1
        cases b
        · go_wp2
          go_round
          case rel => exact ⟨k + 1, false, by go_num, by omega, rfl, Lib.hid (by rw [HC1.out, ← HA2.out]; rfl)⟩
          case measure => simp [intOf]; omega
        · go_wp2
          go_round
          case rel => exact ⟨k + 1, true, by go_num, by omega, rfl, Lib.hid (by rw [HC1.out, ← HA2.out]; rfl)⟩
          case measure => simp [intOf]; omega
      · have hz' : (z2.getD k 0 == 0) = false := by simpa using hz
        clear hz
        generalize z2.getD k 0 = x at *
        cases b
        · go_wp2
          go_round
          case rel => exact ⟨k + 1, false, by go_num, by omega, rfl, Lib.hid (by rw [HC1.out, ← HA2.out]; rfl)⟩
          case measure => simp [intOf]; omega
        · go_wp2
          go_round
          case rel => exact ⟨k + 1, false, by go_num, by omega, rfl, Lib.hid (by rw [HC1.out, ← HA2.out, hz']; rfl)⟩
          case measure => simp [intOf]; omega
    · have hke : k = z2.length := by omega
      have hal := HA2.out
      rw [hke, List.take_length] at hal
      clear hke HA2
      have tw := Plain.canon_range (Plain.words z2)
      by_cases hW : Plain.words z2 = 0
      · have hct := HC.out.2 hW
        have hb : b = true := by
          rw [hal, List.all_eq_true]
          intro x hx
          have := Plain.words_zero z2 (fun x hx => (HR2.out x hx).1) hW x hx
          subst this; rfl
        subst hb
        have hc0 : Plain.canon (Plain.words z2) = 0 := by rw [hW]; rfl
        clear hal hW
        go_wp2_with fail
        refine (sumOf_any _ z2 c1 _ _ HB2.out (by omega)).mono ?_
        rintro e w' ⟨rfl, rfl⟩
        go_wp2
        go_ret
        exact ⟨rfl, hb01.trans (b12.mono hb0.size)⟩
      · have hct := HC.out.1 (by omega)
        clear hal hW
        go_wp2_with fail
        refine (sumOf_any _ z2 c1 _ _ HB2.out (by omega)).mono ?_
        rw [← hct]
        clear hct tw
        rintro e w' ⟨rfl, rfl⟩
        go_wp2
        go_ret
        exact ⟨rfl, hb01.trans (b12.mono hb0.size)⟩
end Go.Proofs.Ytphiaoljpgjmfaa
