/- What two digits come to as a byte, and the small letters of a text. Conditions: the table of digits holds what its initialiser lays. -/
import Derived.Test.YtdnbcgdpaoclkaaDoorHex
set_option linter.unusedVariables false
set_option linter.unusedSimpArgs false
namespace Go.Proofs.YtdnbcgdpaoclkaaDoor
open Go.RowKit

/-- A byte of a text. -/
def bt (s : ByteArray) (i : Nat) : Int := ((s.data.toList.getD i 0).toNat : Int)
theorem bt_range (s : ByteArray) (i : Nat) : 0 ≤ bt s i ∧ bt s i ≤ 255 := by
  unfold bt
  have := UInt8.toNat_lt (s.data.toList.getD i 0)
  omega
theorem bt_at (s : ByteArray) (i : Nat) (h : i < s.size) : ((s[i]'h).toNat : Int) = bt s i := by
  unfold bt
  have hl : i < s.data.toList.length := by simpa using h
  rw [List.getD_eq_getElem?_getD, List.getElem?_eq_getElem hl]
  simp [ByteArray.getElem_eq_getElem_data]
theorem dgv_range (c : Int) : 0 ≤ dgv c ∧ dgv c ≤ 15 := by
  have := dg_range c
  unfold dgv
  split <;> omega
set_option maxRecDepth 10000 in
theorem bits_or_all : ∀ x : Fin 16, ∀ y : Fin 16, bits BinOp.or IntKind.u8 (((x : Nat) : Int) * 16) ((y : Nat) : Int) = 16 * ((x : Nat) : Int) + ((y : Nat) : Int) := by decide
theorem bits_or (x y : Nat) (hx : x < 16) (hy : y < 16) : bits BinOp.or IntKind.u8 ((x : Int) * 16) (y : Int) = 16 * (x : Int) + (y : Int) := bits_or_all ⟨x, hx⟩ ⟨y, hy⟩
set_option maxHeartbeats 1000000 in
theorem hex_any (s : ByteArray) (i : Nat) (w : World) (h : Digs w) (hi : i + 1 < s.size) (hs : s.size ≤ 100000) :
    Calls Tryd.prog 30 #[.string s, .int .i64 i] w fun e w' =>
      e = .returned (.tuple #[.int .u8 (16 * dgv (bt s i) + dgv (bt s (i + 1))), .bool (decide (0 ≤ dg (bt s i)) && decide (0 ≤ dg (bt s (i + 1))))]) ∧ w = w' := by
  have h1 : (i : Int) + 1 < (s.size : Int) := by omega
  have h2 : (i : Int) < (s.size : Int) := by omega
  go_enter Tryd.func30, Tryd.ntmps30
  obtain ⟨p, hp⟩ : ∃ p, bt s i = p := ⟨_, rfl⟩
  obtain ⟨q, hq⟩ : ∃ q, bt s (i + 1) = q := ⟨_, rfl⟩
  have e1 : ((s[i]'(by omega)).toNat : Int) = p := by rw [← hp]; exact bt_at s i (by omega)
  have e2 : ((s[i + 1]'(by omega)).toNat : Int) = q := by rw [← hq]; exact bt_at s (i + 1) (by omega)
  have r1 := dgv_range p
  have r2 := dgv_range q
  obtain ⟨x, hx⟩ : ∃ x : Nat, dgv p = (x : Int) := ⟨(dgv p).toNat, by omega⟩
  obtain ⟨y, hy⟩ : ∃ y : Nat, dgv q = (y : Int) := ⟨(dgv q).toNat, by omega⟩
  have hor : bits BinOp.or IntKind.u8 ((x : Int) * 16) (y : Int) = 16 * (x : Int) + (y : Int) := bits_or x y (by omega) (by omega)
  have HF : Hid ((Value.tuple #[.int .u8 (16 * dgv (bt s i) + dgv (bt s (i + 1))), .bool (decide (0 ≤ dg (bt s i)) && decide (0 ≤ dg (bt s (i + 1))))]) = .tuple #[.int .u8 (16 * (x : Int) + (y : Int)), .bool (decide (0 ≤ dg p) && decide (0 ≤ dg q))]) :=
    Lib.hid (by rw [hp, hq, hx, hy])
  rw [hx] at r1
  rw [hy] at r2
  clear hp hq
  by_cases hpp : 0 ≤ dg p
  · go_wp2_with fail
    refine (digit_any _ w h).mono ?_
    rintro e w' ⟨rfl, rfl⟩
    go_wp2_with fail
    refine (digit_any _ w h).mono ?_
    rintro e w' ⟨rfl, rfl⟩
    go_wp2_with fail
    go_ret2
    exact ⟨by rw [HF.out]; simp [hpp], rfl⟩
  · have hpn : decide (0 ≤ dg p) = false := by simp [hpp]
    go_wp2_with fail
    refine (digit_any _ w h).mono ?_
    rintro e w' ⟨rfl, rfl⟩
    go_wp2_with fail
    refine (digit_any _ w h).mono ?_
    rintro e w' ⟨rfl, rfl⟩
    go_wp2_with fail
    go_ret2
    exact ⟨by rw [HF.out]; simp [hpn], rfl⟩
end Go.Proofs.YtdnbcgdpaoclkaaDoor
