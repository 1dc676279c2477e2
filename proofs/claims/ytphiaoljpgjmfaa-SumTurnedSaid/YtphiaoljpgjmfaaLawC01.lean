/- What the law functions SumRight and SumTurned come to: true, whatever the bytes and numbers; nothing that was there is changed. Conditions: the bytes are cells of memory that hold numbers from 0 to 255. -/
import Derived.Test.YtphiaoljpgjmfaaLawB01
set_option linter.unusedVariables false
set_option linter.unusedSimpArgs false
namespace Go.Proofs.Ytphiaoljpgjmfaa
open Go.RowKit

theorem vals_get (zs : List Int) (i : Nat) (h : i < zs.length) : (vals zs)[i]? = some (.int .u8 (zs.getD i 0)) := by
  unfold vals; simp [List.getElem?_map, List.getElem?_eq_getElem h, List.getD_eq_getElem?_getD]
theorem vals_set (zs : List Int) (i : Nat) (x : Int) : (vals zs).set i (.int .u8 x) = vals (zs.set i x) := by unfold vals; rw [List.map_set]

/-- Two stores into a row of one's own. -/
theorem own_set2 {w : World} {base : Nat} {e : TypeId} {g cap : Nat} {zs : List Int} (h : w.ownsRow base e 1 (.slice (some ⟨g, 0, none⟩) zs.length cap) zs.length (vals zs)) (i j : Nat) (x y : Int) :
    ((w.setCell ⟨g, i, none⟩ (.int .u8 x)).setCell ⟨g, j, none⟩ (.int .u8 y)).ownsRow base e 1 (.slice (some ⟨g, 0, none⟩) ((zs.set i x).set j y).length cap) ((zs.set i x).set j y).length (vals ((zs.set i x).set j y)) := by
  have h1 := (h.stored i (.int .u8 x)).1
  have h2 := (h1.stored j (.int .u8 y)).1
  rw [vals_set, vals_set] at h2
  simpa using h2

theorem range_set2 {zs : List Int} (h : ∀ x ∈ zs, 0 ≤ x ∧ x ≤ 255) (i j : Nat) (x y : Int) (hx : 0 ≤ x ∧ x ≤ 255) (hy : 0 ≤ y ∧ y ≤ 255) : ∀ z ∈ (zs.set i x).set j y, 0 ≤ z ∧ z ≤ 255 := fun z hz => by
  rcases List.mem_or_eq_of_mem_set hz with hz | rfl
  · rcases List.mem_or_eq_of_mem_set hz with hz | rfl
    · exact h z hz
    · exact hx
  · exact hy

theorem own_bytes {w : World} {base : Nat} {e : TypeId} {A : Option Addr} {c : Nat} {zs : List Int} (h : w.ownsRow base e 1 (.slice A zs.length c) zs.length (vals zs)) (hz : ∀ x ∈ zs, 0 ≤ x ∧ x ≤ 255) : Bytes w w.heap.size A zs := by
  obtain ⟨A', c', e, hB⟩ := Bytes.of_own h hz
  injection e with e1
  subst e1
  exact hB
theorem wordOf_set2 (r : Nat) (zs : List Int) (x y : Int) (h : 2 * r + 1 < zs.length) : Plain.wordOf ((zs.set (2 * r) x).set (2 * r + 1) y) (2 * r) = 256 * x + y := by
  unfold Plain.wordOf
  simp [List.getD_eq_getElem?_getD, List.getElem?_set]
  rw [if_pos (by omega), if_pos (by omega)]
  simp
theorem sumRight_walk (A : Option Addr) (xs : List Int) (c : Nat) (at_ : Int) (w : World) (h : Bytes w w.heap.size A xs) (hn : xs.length ≤ maxLen) (hc : xs.length ≤ c) :
    Calls Try.prog 5 #[.slice A xs.length c, .int .i64 at_] w fun e w' => e = .returned (.bool true) ∧ Below w.heap.size w w' := by
  have HA := Lib.hid h
  clear h
  go_enter Try.func5, Try.ntmps5
  go_wp2_with fail
  refine (works_any _).mono ?_
  rintro e w0 ⟨rfl, hb0⟩
  go_wp2_with fail
  refine (short_reads A xs c _ ((HA.out.below hb0).more hb0.size) hn hc).mono ?_
  have hl : (xs.take 600).length ≤ 600 := by rw [List.length_take]; omega
  generalize xs.take 600 = zs at hl ⊢
  rintro e w1 ⟨A1, c1, rfl, H1, hb1⟩
  have hc1 : zs.length ≤ c1 := own_cap_le H1.out.1
  have hb01 : Below w.heap.size w w1 := hb0.trans (hb1.mono hb0.size)
  by_cases h2 : zs.length < 2
  · go_wp2
    go_ret
    exact ⟨rfl, hb01⟩
  obtain ⟨g, cap, hv, hg0, hg1⟩ := H1.out.1.form (by omega)
  have hA1 : A1 = some ⟨g, 0, none⟩ := by injection hv
  subst hA1
  clear hv
  go_wp2_with fail
  refine (among_any at_ _ _ (by omega) (by omega)).mono ?_
  rintro e w' ⟨r, hr, rfl, rfl⟩
  have hk : 2 * r + 1 < zs.length := by omega
  have e1 := H1.out.1.cellAt (2 * r) (by omega)
  have e2 := H1.out.1.cellAt (2 * r + 1) (by omega)
  rw [vals_get _ _ (by omega)] at e1 e2
  have f1 := H1.out.1.frozenAt (2 * r)
  have f2 := H1.out.1.frozenAt (2 * r + 1)
  generalize zs.getD (2 * r) 0 = x0 at *
  generalize zs.getD (2 * r + 1) 0 = y0 at *
  go_wp2_with fail
  have own2 := own_set2 H1.out.1 (2 * r) (2 * r + 1) 0 0
  have rng2 := range_set2 H1.out.2.1 (2 * r) (2 * r + 1) 0 0 (by omega) (by omega)
  have hlen : ((zs.set (2 * r) 0).set (2 * r + 1) 0).length = zs.length := by simp
  have hw0 := wordOf_set2 r zs 0 0 hk
  have b12 : Below w0.heap.size w1 ((w1.setCell ⟨g, 2 * r, none⟩ (.int .u8 0)).setCell ⟨g, 2 * r + 1, none⟩ (.int .u8 0)) := ((Below.refl _ _).setCell hg0 _).setCell hg0 _
  generalize ((w1.setCell ⟨g, 2 * r, none⟩ (.int .u8 0)).setCell ⟨g, 2 * r + 1, none⟩ (.int .u8 0)) = w2 at *
  generalize (zs.set (2 * r) 0).set (2 * r + 1) 0 = z2 at *
  rw [← hlen]
  have hB2 := own_bytes own2 rng2
  have HB2 := Lib.hid hB2
  have HO2 := Lib.hid own2
  have HR2 := Lib.hid rng2
  have HW0 := Lib.hid hw0
  have hlen2 : z2.length ≤ 600 := by omega
  have hk2 : 2 * r + 1 < z2.length := by omega
  clear hB2 own2 rng2 hw0 hlen e1 e2 f1 f2
  have hcr := Plain.canon_range (Plain.words z2)
  have hfin := Plain.canon_right (Plain.words z2) (Plain.words_nonneg _ fun x hx => (HR2.out x hx).1)
  refine (sumOf_any _ z2 c1 _ _ HB2.out (by omega)).mono ?_
  have s0 : 0 ≤ 65535 - Plain.canon (Plain.words z2) := by omega
  have s1 : 65535 - Plain.canon (Plain.words z2) ≤ 65535 := by omega
  generalize 65535 - Plain.canon (Plain.words z2) = s at *
  have HF := Lib.hid hfin
  clear hfin hcr
  rintro e w' ⟨rfl, rfl⟩
  have e1 := HO2.out.cellAt (2 * r) (by omega)
  have e2 := HO2.out.cellAt (2 * r + 1) (by omega)
  rw [vals_get _ _ (by omega)] at e1 e2
  have f1 := HO2.out.frozenAt (2 * r)
  have f2 := HO2.out.frozenAt (2 * r + 1)
  generalize z2.getD (2 * r) 0 = x1 at *
  generalize z2.getD (2 * r + 1) 0 = y1 at *
  have hq := Plain.u16_quo s s0 s1
  go_wp2_with fail
  clear hq
  have own3 := own_set2 HO2.out (2 * r) (2 * r + 1) (s / 256) (s % 256)
  have rng3 := range_set2 HR2.out (2 * r) (2 * r + 1) (s / 256) (s % 256) (by omega) (by omega)
  have hlen3 : ((z2.set (2 * r) (s / 256)).set (2 * r + 1) (s % 256)).length = z2.length := by simp
  have hw3 := Plain.words_set2 r z2 (s / 256) (s % 256) hk2
  have b23 : Below w0.heap.size w2 ((w2.setCell ⟨g, 2 * r, none⟩ (.int .u8 (s / 256))).setCell ⟨g, 2 * r + 1, none⟩ (.int .u8 (s % 256))) := ((Below.refl _ _).setCell hg0 _).setCell hg0 _
  generalize ((w2.setCell ⟨g, 2 * r, none⟩ (.int .u8 (s / 256))).setCell ⟨g, 2 * r + 1, none⟩ (.int .u8 (s % 256))) = w3 at *
  generalize (z2.set (2 * r) (s / 256)).set (2 * r + 1) (s % 256) = z3 at *
  rw [← hlen3]
  have hfin : (Plain.canon (Plain.words z3) == 65535) = true := by
    rw [hw3, HW0.out, show Plain.words z2 - (256 * 0 + 0) + (256 * (s / 256) + s % 256) = Plain.words z2 + s from by omega, HF.out]; rfl
  refine (sumRight_any _ z3 c1 _ _ (own_bytes own3 rng3) (by omega)).mono ?_
  rw [hfin]
  rintro e w' ⟨rfl, rfl⟩
  clear own3 rng3 hlen3 hw3 hfin e1 e2 f1 f2
  go_wp2
  go_ret
  exact ⟨rfl, hb01.trans ((b12.trans b23).mono hb0.size)⟩
end Go.Proofs.Ytphiaoljpgjmfaa
