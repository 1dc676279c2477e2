/- What the functions of package sum, and the reference's, come to: a partial sum is a number modulo 65535, where 0 stands for a sum of noughts alone. Conditions: the bytes are cells of memory that hold numbers from 0 to 255; at most 600 of them. -/
import Derived.Test.YtefnfbidphmgoaaDoorRows
import Derived.Test.YtefnfbidphmgoaaDoorPlain01
import Derived.WalkKit
import Derived.Outline
import Derived.ScopeJumps
import Derived.WalkSpells
import Derived.WalkLawsBesides
import Derived.Lib.Hide
set_option linter.unusedVariables false
set_option linter.unusedSimpArgs false
namespace Go.Proofs.YtefnfbidphmgoaaDoor
open Go.RowKit
set_option maxRecDepth 1000000 in
theorem carry_any (t : Int) (h0 : 0 ≤ t) (h1 : t < 18446744073709551616) (w : World) :
    Calls Tryd.prog 43 #[.int .u64 t] w fun e w' => e = .returned (.int .u64 (Plain.canon t)) ∧ w = w' := by
  have hl := Plain.and_low t h0 h1
  go_enter Tryd.func43, Tryd.ntmps43
  go_wp2
  refine wp_scope_jumps 0 (fun a' w' => w = w' ∧ ∃ (m : Int) (u3 u4 u5 u6 u7 u8 u9 u10 u11 : Value), a' = { tmps := #[.int .u64 m, undef, .int .u64 0, u3, u4, u5, u6, u7, u8, u9, u10, u11], defers := [] } ∧ Plain.canon m = Plain.canon t ∧ 0 ≤ m ∧ m < 18446744073709551616) (fun a' _ => (intOf (a'.tmps.getD 0 undef)).toNat) rfl ?_ ?_
  · go_wp2
    go_step3
    go_wp2
    · have hb : (t / 65536 != 0) = true := by assumption
      go_step3
      exact ⟨rfl, rfl, _, _, _, _, _, _, _, _, _, _, rfl, Plain.canon_step t h0, by omega, by omega⟩
    · have hb : (t / 65536 != 0) = false := by assumption
      have hc : Plain.canon t = t := Plain.canon_small t h0 (by simp at hb; omega)
      simp only [Exit.jump]
      go_ret
      exact ⟨by rw [hc]; rfl, rfl⟩
  · rintro a' w' ⟨rfl, m, u3, u4, u5, u6, u7, u8, u9, u10, u11, rfl, hs, hm0, hm1⟩
    have HS := Lib.hid hs
    clear hs
    have hl := Plain.and_low m hm0 hm1
    go_wp2
    · have hb : (m / 65536 != 0) = true := by assumption
      go_step3
      have hlt : m / 65536 + m % 65536 < m := by simp at hb; omega
      refine ⟨rfl, ⟨rfl, _, _, _, _, _, _, _, _, _, _, rfl, ?_, by omega, by omega⟩, ?_⟩
      · rw [← HS.out]; exact Plain.canon_step m hm0
      · simp [intOf]; omega
    · have hb : (m / 65536 != 0) = false := by assumption
      have hc : Plain.canon m = m := Plain.canon_small m hm0 (by simp at hb; omega)
      simp only [Exit.jump]
      go_ret
      exact ⟨by rw [← HS.out, hc]; rfl, rfl⟩

/-- Bytes that lie in memory, below a block: the numbers zs; none where there is none. -/
def Bytes (w : World) (B : Nat) (A : Option Addr) (zs : List Int) : Prop :=
  (∀ x ∈ zs, 0 ≤ x ∧ x ≤ 255) ∧ (zs ≠ [] → ∃ b off, A = some ⟨b, off, none⟩ ∧ b < B ∧ ∀ i, i < zs.length → w.cell? ⟨b, off + i, none⟩ = some (.int .u8 (zs.getD i 0)))

theorem Bytes.range {w : World} {B : Nat} {A : Option Addr} {zs : List Int} (h : Bytes w B A zs) (i : Nat) : 0 ≤ zs.getD i 0 ∧ zs.getD i 0 ≤ 255 := by
  by_cases hi : i < zs.length
  · rw [List.getD_eq_getElem?_getD, List.getElem?_eq_getElem hi]; exact h.1 _ (List.getElem_mem hi)
  · rw [List.getD_eq_getElem?_getD, List.getElem?_eq_none (by omega)]; simp

theorem wordAt_one (A : Option Addr) (zs : List Int) (c i B : Nat) (w : World) (h : Bytes w B A zs) (hi : i < zs.length) (hn : zs.length ≤ 100000) :
    Calls Tryd.prog 44 #[.slice A zs.length c, .int .i64 i] w fun e w' => e = .returned (.int .u32 (Plain.wordOf zs i)) ∧ w = w' := by
  have h1 := h.range i
  have h2 := h.range (i + 1)
  obtain ⟨b, off, rfl, hb, hc⟩ := h.2 (by intro e; subst e; simp at hi)
  have c1 := hc i hi
  have c2 := hc (i + 1)
  have e : Plain.wordOf zs i = 256 * zs.getD i 0 + zs.getD (i + 1) 0 := rfl
  have z : ¬ i + 1 < zs.length → zs.getD (i + 1) 0 = 0 := fun hl => by rw [List.getD_eq_getElem?_getD, List.getElem?_eq_none (by omega)]; rfl
  generalize zs.getD i 0 = x at *
  generalize zs.getD (i + 1) 0 = y at *
  have ho := Plain.or_low x y h1.1 (by omega) h2.1 (by omega)
  have E := Lib.hid e
  obtain ⟨hx0, hx1⟩ := h1
  obtain ⟨hy0, hy1⟩ := h2
  clear hc h e
  by_cases hl : i + 1 < zs.length
  · have c3 := c2 hl
    clear c2 z
    go_enter Tryd.func44, Tryd.ntmps44
    go_wp2
    go_ret
    exact ⟨by rw [E.out, Int.mul_comm]; rfl, rfl⟩
  · have Z := Lib.hid (z hl)
    clear z c2
    go_enter Tryd.func44, Tryd.ntmps44
    go_wp2
    go_ret
    exact ⟨by rw [E.out, Z.out, Int.add_zero, Int.mul_comm]; rfl, rfl⟩

theorem round_any (t : Int) (h0 : 0 ≤ t) (h1 : t < 4294967296) (w : World) :
    Calls Tryd.prog 47 #[.int .u32 t] w fun e w' => e = .returned (.int .u32 (Plain.canon t)) ∧ w = w' := by
  go_enter Tryd.func47, Tryd.ntmps47
  go_wp2
  go_loop [0, 3] (fun n k => ∃ (m : Int) (j : Nat), n = .int .u32 m ∧ k = .int .i64 j ∧ 0 ≤ m ∧ m < 4294967296 ∧ j ≤ 3 ∧ (1 ≤ j → m ≤ 131070) ∧ (2 ≤ j → m < 65536) ∧ Hid (Plain.canon m = Plain.canon t)) (fun _ k => 3 - (intOf k).toNat)
  case atStart => exact ⟨t, 0, rfl, rfl, h0, h1, by omega, by omega, by omega, Lib.hid rfl⟩
  case round =>
    obtain ⟨m, j, rfl, rfl, hm0, hm1, hj, hj1, hj2, HS⟩ := hrel
    by_cases hlt : j < 3
    · go_wp2
      go_round
      case rel => exact ⟨m % 65536 + m / 65536, j + 1, rfl, by go_num, by omega, by omega, by omega, by omega, by omega, Lib.hid (by rw [Plain.canon_step' m hm0]; exact HS.out)⟩
      case measure => simp [intOf]; omega
    · go_wp2
      go_ret
      have hc : Plain.canon m = m := Plain.canon_small m hm0 (by omega)
      exact ⟨by rw [← HS.out, hc]; rfl, rfl⟩

theorem words_take_bd (zs : List Int) (h : ∀ x ∈ zs, 0 ≤ x ∧ x ≤ 255) (n : Nat) : 0 ≤ Plain.words (zs.take n) ∧ Plain.words (zs.take n) ≤ 65535 * zs.length := by
  refine ⟨Plain.words_nonneg _ fun x hx => (h x (List.mem_of_mem_take hx)).1, ?_⟩
  have := Plain.words_le (zs.take n) fun x hx => (h x (List.mem_of_mem_take hx)).2
  have hl : (zs.take n).length ≤ zs.length := by rw [List.length_take]; omega
  omega
theorem wordOf_bd {w : World} {B : Nat} {A : Option Addr} {zs : List Int} (h : Bytes w B A zs) (i : Nat) : 0 ≤ Plain.wordOf zs i ∧ Plain.wordOf zs i ≤ 65535 := by
  have h1 := h.range i
  have h2 := h.range (i + 1)
  unfold Plain.wordOf; omega

theorem sumAdd_any (p : Int) (A : Option Addr) (zs : List Int) (c B : Nat) (w : World) (h : Bytes w B A zs) (hn : zs.length ≤ 100000) (p0 : 0 ≤ p) (p1 : p < 4294967296) :
    Calls Tryd.prog 24 #[.int .u32 p, .slice A zs.length c] w fun e w' => e = .returned (.int .u32 (Plain.canon (p + Plain.words zs))) ∧ w = w' := by
  have HB := Lib.hid h
  clear h
  go_enter Tryd.func24, Tryd.ntmps24
  go_wp2
  have hbase : Hid (p = p + Plain.words (zs.take (2 * 0))) := Lib.hid (by simp [Plain.words])
  have htk := words_take_bd zs HB.out.1
  go_loop [5, 13] (fun t k => ∃ j : Nat, k = .int .i64 j ∧ 2 * j ≤ zs.length + 1 ∧ ∃ s : Int, t = .int .u64 s ∧ Hid (s = p + Plain.words (zs.take (2 * j))) ∧ 0 ≤ s ∧ s ≤ 20000000000) (fun _ k => zs.length + 1 - (intOf k).toNat)
  case atStart => exact ⟨0, rfl, by omega, p, rfl, hbase, by omega, by omega⟩
  case round =>
    obtain ⟨j, rfl, hj, s, rfl, HS, hs0, hs1⟩ := hrel
    clear hbase
    by_cases hlt : 2 * j < zs.length
    · have hd : (j : Int) < ((zs.length : Int) + 1) / 2 := by omega
      have hw := wordOf_bd HB.out (2 * j)
      have htn := htk (2 * (j + 1))
      have HT := Lib.hid (Plain.words_take_succ zs j hlt)
      clear htk
      go_wp2_with (go_at_call 44; rw [show (2 * (j : Int)) = ((2 * j : Nat) : Int) from by omega]; refine (wordAt_one _ _ _ _ B _ HB.out hlt hn).mono ?_; rintro e w' ⟨rfl, rfl⟩)
      have e : s + Plain.wordOf zs (2 * j) = p + Plain.words (zs.take (2 * (j + 1))) := by
        rw [show 2 * (j + 1) = 2 * j + 2 from by omega, HT.out, HS.out]; omega
      go_round
      case rel => exact ⟨j + 1, by go_num, by omega, _, rfl, Lib.hid e, by omega, by omega⟩
      case measure => simp [intOf]; omega
    · have hd : ¬ (j : Int) < ((zs.length : Int) + 1) / 2 := by omega
      have HT := Lib.hid (Plain.words_take_all zs (2 * j) (by omega))
      clear htk
      have hcr := Plain.canon_range s
      go_wp2_with (go_at_call 43; refine (carry_any _ (by omega) (by omega) _).mono ?_; rintro e w' ⟨rfl, rfl⟩)
      go_ret
      exact ⟨by rw [← HT.out, ← HS.out]; rfl, rfl⟩

theorem sumAdd_zero (A : Option Addr) (zs : List Int) (c B : Nat) (w : World) (h : Bytes w B A zs) (hn : zs.length ≤ 100000) :
    Calls Tryd.prog 24 #[.int .u32 0, .slice A zs.length c] w fun e w' => e = .returned (.int .u32 (Plain.canon (Plain.words zs))) ∧ w = w' := by
  have := sumAdd_any 0 A zs c B w h hn (by omega) (by omega)
  rw [Int.zero_add] at this
  exact this
theorem refAdd_any (p : Int) (A : Option Addr) (zs : List Int) (c B : Nat) (w : World) (h : Bytes w B A zs) (hn : zs.length ≤ 100000) (p0 : 0 ≤ p) (p1 : p < 4294967296) :
    Calls Tryd.prog 30 #[.int .u32 p, .slice A zs.length c] w fun e w' => e = .returned (.int .u32 (Plain.canon (p + Plain.words zs))) ∧ w = w' := by
  have HB := Lib.hid h
  clear h
  have hcp := Plain.canon_range p
  have hbase : Hid (Plain.canon p = Plain.canon (p + Plain.words (zs.take (2 * 0)))) := Lib.hid (by simp [Plain.words])
  have htk := words_take_bd zs HB.out.1
  go_enter Tryd.func30, Tryd.ntmps30
  go_wp2_with (go_at_call 47; refine (round_any _ (by omega) (by omega) _).mono ?_; rintro e w' ⟨rfl, rfl⟩)
  go_loop [5, 6] (fun t k => ∃ j : Nat, k = .int .i64 ((2 * j : Nat) : Int) ∧ 2 * j ≤ zs.length + 1 ∧ ∃ s : Int, t = .int .u32 s ∧ Hid (s = Plain.canon (p + Plain.words (zs.take (2 * j)))) ∧ 0 ≤ s ∧ s ≤ 65535) (fun _ k => zs.length + 1 - (intOf k).toNat)
  case atStart => exact ⟨0, rfl, by omega, _, rfl, hbase, by omega, by omega⟩
  case round =>
    obtain ⟨j, rfl, hj, s, rfl, HS, hs0, hs1⟩ := hrel
    clear hbase
    by_cases hlt : 2 * j < zs.length
    · have hw := wordOf_bd HB.out (2 * j)
      have htn := (htk (2 * j)).1
      have HT := Lib.hid (Plain.words_take_succ zs j hlt)
      clear htk
      have r1 := HB.out.range (2 * j)
      have r2 := HB.out.range (2 * j + 1)
      obtain ⟨b, off, rfl, hb, hc⟩ := HB.out.2 (by intro e; subst e; simp at hlt)
      have c1 := hc (2 * j) hlt
      have c2 := hc (2 * j + 1)
      have e0 : Plain.wordOf zs (2 * j) = 256 * zs.getD (2 * j) 0 + zs.getD (2 * j + 1) 0 := rfl
      have E := Lib.hid e0
      clear e0
      have z : ¬ 2 * j + 1 < zs.length → zs.getD (2 * j + 1) 0 = 0 := fun hl => by rw [List.getD_eq_getElem?_getD, List.getElem?_eq_none (by omega)]; rfl
      generalize hx : zs.getD (2 * j) 0 = x at *
      generalize hy : zs.getD (2 * j + 1) 0 = y at *
      have HX := Lib.hid hx
      have HY := Lib.hid hy
      clear hc hx hy
      have e : Plain.canon (s + (256 * x + y)) = Plain.canon (p + Plain.words (zs.take (2 * (j + 1)))) := by
        rw [show 2 * (j + 1) = 2 * j + 2 from by omega, HT.out, HS.out, E.out, ← Int.add_assoc p, Plain.canon_add _ _ (by omega) (by omega)]
      have hcr := Plain.canon_range (s + (256 * x + y))
      obtain ⟨hx0, hx1⟩ := r1
      obtain ⟨hy0, hy1⟩ := r2
      have EE := Lib.hid e
      clear e
      by_cases hl : 2 * j + 1 < zs.length
      · have c3 := c2 hl
        clear c2 z
        go_wp2_with (go_at_call 47; refine (round_any _ (by omega) (by omega) _).mono ?_; rintro e w' ⟨rfl, rfl⟩)
        go_round
        case rel => exact ⟨j + 1, by go_num, by omega, _, rfl, EE, by omega, by omega⟩
        case measure => simp [intOf]; omega
      · have Z := Lib.hid (z hl)
        clear z c2
        go_wp2_with (go_at_call 47; refine (round_any _ (by omega) (by omega) _).mono ?_; rintro e w' ⟨rfl, rfl⟩)
        have e2 : Plain.canon (s + 256 * x) = Plain.canon (p + Plain.words (zs.take (2 * (j + 1)))) := by rw [← EE.out, Z.out, Int.add_zero]
        have hcr2 := Plain.canon_range (s + 256 * x)
        go_round
        case rel => exact ⟨j + 1, by go_num, by omega, _, rfl, Lib.hid e2, by omega, by omega⟩
        case measure => simp [intOf]; omega
    · have HT := Lib.hid (Plain.words_take_all zs (2 * j) (by omega))
      clear htk
      go_wp2
      go_ret
      exact ⟨by rw [← HT.out, ← HS.out]; rfl, rfl⟩

theorem sumFold_any (p : Int) (w : World) (p0 : 0 ≤ p) (p1 : p < 4294967296) :
    Calls Tryd.prog 23 #[.int .u32 p] w fun e w' => e = .returned (.int .u16 (65535 - Plain.canon p)) ∧ w = w' := by
  have hcp := Plain.canon_range p
  have hx := Plain.xor_all (Plain.canon p) hcp.1 hcp.2
  go_enter Tryd.func23, Tryd.ntmps23
  go_wp2_with (go_at_call 43; refine (carry_any _ (by omega) (by omega) _).mono ?_; rintro e w' ⟨rfl, rfl⟩)
  go_ret
  exact ⟨rfl, rfl⟩
theorem refFold_any (p : Int) (w : World) (p0 : 0 ≤ p) (p1 : p < 4294967296) :
    Calls Tryd.prog 29 #[.int .u32 p] w fun e w' => e = .returned (.int .u16 (65535 - Plain.canon p)) ∧ w = w' := by
  have hcp := Plain.canon_range p
  go_enter Tryd.func29, Tryd.ntmps29
  go_wp2_with (go_at_call 47; refine (round_any _ (by omega) (by omega) _).mono ?_; rintro e w' ⟨rfl, rfl⟩)
  go_ret
  exact ⟨rfl, rfl⟩
end Go.Proofs.YtefnfbidphmgoaaDoor
