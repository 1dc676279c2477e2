/- What the package of octets reads as digits. Conditions: the table of digits holds what its initialiser lays. -/
import Derived.Test.YtdnbcgdpaoclkaaDoorBytes
import Derived.Test.YtdnbcgdpaoclkaaDoorArr
set_option linter.unusedVariables false
set_option linter.unusedSimpArgs false
namespace Go.Proofs.YtdnbcgdpaoclkaaDoor
open Go.RowKit

/-- The table of digits, as its initialiser lays it. -/
structure Digs (w : World) : Prop where
  c0 : w.cell? ⟨0, 0, none⟩ = some (.int .u8 48)
  c1 : w.cell? ⟨0, 1, none⟩ = some (.int .u8 49)
  c2 : w.cell? ⟨0, 2, none⟩ = some (.int .u8 50)
  c3 : w.cell? ⟨0, 3, none⟩ = some (.int .u8 51)
  c4 : w.cell? ⟨0, 4, none⟩ = some (.int .u8 52)
  c5 : w.cell? ⟨0, 5, none⟩ = some (.int .u8 53)
  c6 : w.cell? ⟨0, 6, none⟩ = some (.int .u8 54)
  c7 : w.cell? ⟨0, 7, none⟩ = some (.int .u8 55)
  c8 : w.cell? ⟨0, 8, none⟩ = some (.int .u8 56)
  c9 : w.cell? ⟨0, 9, none⟩ = some (.int .u8 57)
  c10 : w.cell? ⟨0, 10, none⟩ = some (.int .u8 97)
  c11 : w.cell? ⟨0, 11, none⟩ = some (.int .u8 98)
  c12 : w.cell? ⟨0, 12, none⟩ = some (.int .u8 99)
  c13 : w.cell? ⟨0, 13, none⟩ = some (.int .u8 100)
  c14 : w.cell? ⟨0, 14, none⟩ = some (.int .u8 101)
  c15 : w.cell? ⟨0, 15, none⟩ = some (.int .u8 102)
theorem Digs.below {w w' : World} {B : Nat} (h : Digs w) (hB : 0 < B) (hb : Below B w w') : Digs w' :=
  ⟨(hb.cell (p := ⟨0, 0, none⟩) hB).trans h.c0, (hb.cell (p := ⟨0, 1, none⟩) hB).trans h.c1, (hb.cell (p := ⟨0, 2, none⟩) hB).trans h.c2, (hb.cell (p := ⟨0, 3, none⟩) hB).trans h.c3, (hb.cell (p := ⟨0, 4, none⟩) hB).trans h.c4, (hb.cell (p := ⟨0, 5, none⟩) hB).trans h.c5, (hb.cell (p := ⟨0, 6, none⟩) hB).trans h.c6, (hb.cell (p := ⟨0, 7, none⟩) hB).trans h.c7, (hb.cell (p := ⟨0, 8, none⟩) hB).trans h.c8, (hb.cell (p := ⟨0, 9, none⟩) hB).trans h.c9, (hb.cell (p := ⟨0, 10, none⟩) hB).trans h.c10, (hb.cell (p := ⟨0, 11, none⟩) hB).trans h.c11, (hb.cell (p := ⟨0, 12, none⟩) hB).trans h.c12, (hb.cell (p := ⟨0, 13, none⟩) hB).trans h.c13, (hb.cell (p := ⟨0, 14, none⟩) hB).trans h.c14, (hb.cell (p := ⟨0, 15, none⟩) hB).trans h.c15⟩
theorem Digs.set_ {w : World} (h : Digs w) {g : Nat} (hg : 0 < g) (j : Nat) (v : Value) : Digs (w.setCell ⟨g, j, none⟩ v) := by
  have hn : ∀ i : Nat, (⟨g, j, none⟩ : Addr) ≠ ⟨0, i, none⟩ := fun i e => by injection e with e1; omega
  exact ⟨(World.cell?_setCell_other _ _ _ _ (hn 0)).trans h.c0, (World.cell?_setCell_other _ _ _ _ (hn 1)).trans h.c1, (World.cell?_setCell_other _ _ _ _ (hn 2)).trans h.c2, (World.cell?_setCell_other _ _ _ _ (hn 3)).trans h.c3, (World.cell?_setCell_other _ _ _ _ (hn 4)).trans h.c4, (World.cell?_setCell_other _ _ _ _ (hn 5)).trans h.c5, (World.cell?_setCell_other _ _ _ _ (hn 6)).trans h.c6, (World.cell?_setCell_other _ _ _ _ (hn 7)).trans h.c7, (World.cell?_setCell_other _ _ _ _ (hn 8)).trans h.c8, (World.cell?_setCell_other _ _ _ _ (hn 9)).trans h.c9, (World.cell?_setCell_other _ _ _ _ (hn 10)).trans h.c10, (World.cell?_setCell_other _ _ _ _ (hn 11)).trans h.c11, (World.cell?_setCell_other _ _ _ _ (hn 12)).trans h.c12, (World.cell?_setCell_other _ _ _ _ (hn 13)).trans h.c13, (World.cell?_setCell_other _ _ _ _ (hn 14)).trans h.c14, (World.cell?_setCell_other _ _ _ _ (hn 15)).trans h.c15⟩
theorem Digs.pos {w : World} (h : Digs w) : 0 < w.heap.size := block_lt h.c0

/-- The value of a small digit; -1: it is none. -/
def dg (c : Int) : Int := if 48 ≤ c ∧ c ≤ 57 then c - 48 else if 97 ≤ c ∧ c ≤ 102 then c - 87 else -1
theorem dg_range (c : Int) : -1 ≤ dg c ∧ dg c ≤ 15 := by
  unfold dg
  split
  · omega
  · split <;> omega
def dgv (c : Int) : Int := if 0 ≤ dg c then dg c else 0
def tab : List Int := [48, 49, 50, 51, 52, 53, 54, 55, 56, 57, 97, 98, 99, 100, 101, 102]
theorem dg_tab : ∀ i : Nat, i < 16 → dg (tab.getD i 0) = i := by decide
theorem tab_dg (c : Int) (h : 0 ≤ dg c) : ∃ i : Nat, i < 16 ∧ tab.getD i 0 = c := by
  have hc : c = 48 ∨ c = 49 ∨ c = 50 ∨ c = 51 ∨ c = 52 ∨ c = 53 ∨ c = 54 ∨ c = 55 ∨ c = 56 ∨ c = 57 ∨ c = 97 ∨ c = 98 ∨ c = 99 ∨ c = 100 ∨ c = 101 ∨ c = 102 := by
    unfold dg at h
    split at h
    · omega
    · split at h <;> omega
  rcases hc with rfl | rfl | rfl | rfl | rfl | rfl | rfl | rfl | rfl | rfl | rfl | rfl | rfl | rfl | rfl | rfl
  · exact ⟨0, by decide, rfl⟩
  · exact ⟨1, by decide, rfl⟩
  · exact ⟨2, by decide, rfl⟩
  · exact ⟨3, by decide, rfl⟩
  · exact ⟨4, by decide, rfl⟩
  · exact ⟨5, by decide, rfl⟩
  · exact ⟨6, by decide, rfl⟩
  · exact ⟨7, by decide, rfl⟩
  · exact ⟨8, by decide, rfl⟩
  · exact ⟨9, by decide, rfl⟩
  · exact ⟨10, by decide, rfl⟩
  · exact ⟨11, by decide, rfl⟩
  · exact ⟨12, by decide, rfl⟩
  · exact ⟨13, by decide, rfl⟩
  · exact ⟨14, by decide, rfl⟩
  · exact ⟨15, by decide, rfl⟩

set_option maxRecDepth 100000 in
set_option maxHeartbeats 2000000 in
theorem digit_any (c : Int) (w : World) (h : Digs w) :
    Calls Tryd.prog 33 #[.int .u8 c] w fun e w' => e = .returned (.tuple #[.int .u8 (dgv c), .bool (decide (0 ≤ dg c))]) ∧ w = w' := by
  obtain ⟨c0, c1, c2, c3, c4, c5, c6, c7, c8, c9, c10, c11, c12, c13, c14, c15⟩ := h
  have hidx : ∀ (i : Nat) (W : World), i < 16 → (Instr.index 62 (.agg #[.int .u8 48, .int .u8 49, .int .u8 50, .int .u8 51, .int .u8 52, .int .u8 53, .int .u8 54, .int .u8 55, .int .u8 56, .int .u8 57, .int .u8 97, .int .u8 98, .int .u8 99, .int .u8 100, .int .u8 101, .int .u8 102]) (.int .i64 (i : Int))).run Tryd.prog W = .ok (.int .u8 (tab.getD i 0)) W := fun i W hi =>
    run_index_ints W .u8 62 5 16 Tryd.underlying62 Tryd.underlying5 (fun _ => Tryd.sizeOf5 _) tab rfl i hi
  have HI := Lib.hid hidx
  clear hidx
  go_enter Tryd.func33, Tryd.ntmps33
  go_wp2_with fail
  go_loopw [7] (fun x wr => ∃ i : Nat, x = .int .i64 i ∧ i ≤ 16 ∧ Hid (∀ j, j < i → tab.getD j 0 ≠ c) ∧ wr = w) (fun x _ => 17 - (intOf x).toNat)
  case atStart => exact ⟨0, rfl, by omega, Lib.hid (fun j hj => by omega), rfl⟩
  case round =>
    obtain ⟨i, rfl, hi, hj, rfl⟩ := hrel
    by_cases hlt : i < 16
    · have hltI : (i : Int) < 16 := by omega
      have hx := HI.out i wr hlt
      have hd := dg_tab i hlt
      have hw : (i : Int) % 256 = (i : Int) := by omega
      by_cases heq : tab.getD i 0 = c
      · rw [heq] at hx hd
        have hr : (Value.tuple #[.int .u8 (dgv c), .bool (decide (0 ≤ dg c))]) = .tuple #[.int .u8 (i : Int), .bool true] := by
          have h0 : 0 ≤ dg c := by omega
          simp [dgv, h0, hd]
        have HR := Lib.hid hr
        clear hd hr heq
        go_wp2_with fail
        go_ret2
        exact ⟨by rw [HR.out]; rfl, rfl⟩
      · have hne : (c == tab.getD i 0) = false := by simp; exact fun e => heq e.symm
        have hj2 : Hid (∀ j, j < i + 1 → tab.getD j 0 ≠ c) := Lib.hid (fun j h => by
          by_cases h2 : j = i
          · subst h2; exact heq
          · exact hj.out j (by omega))
        generalize tab.getD i 0 = x at *
        clear hd hj
        go_wp2_with fail
        go_roundw
        case rel => exact ⟨i + 1, by go_num, by omega, hj2, by trivial⟩
        case measure => simp [intOf]; omega
    · have h16 : i = 16 := by omega
      subst h16
      have hn : ¬ 0 ≤ dg c := fun h0 => by
        obtain ⟨j, hj16, hjc⟩ := tab_dg c h0
        exact hj.out j hj16 hjc
      have hr : (Value.tuple #[.int .u8 (dgv c), .bool (decide (0 ≤ dg c))]) = .tuple #[.int .u8 0, .bool false] := by simp [dgv, hn]
      have HR := Lib.hid hr
      clear hn hr
      go_wp2_with fail
      go_ret2
      exact ⟨by rw [HR.out]; rfl, rfl⟩
end Go.Proofs.YtdnbcgdpaoclkaaDoor
