/- What the law's example and its other helpers come to. Conditions: the table of digits holds what its initialiser lays. -/
import Derived.Test.YtdnbcgdpaoclkaaDoorEthText
set_option linter.unusedVariables false
set_option linter.unusedSimpArgs false
namespace Go.Proofs.YtdnbcgdpaoclkaaDoor
open Go.RowKit

theorem group_2 (w : World) : Calls Tryd.prog 21 #[.agg #[.int .u8 2, .int .u8 0, .int .u8 0, .int .u8 0, .int .u8 0, .int .u8 10]] w fun e w' => e = .returned (.bool false) ∧ Below w.heap.size w w' := by
  have b1 : Below w.heap.size w (w.alloc (.cells #[.int .u8 2, .int .u8 0, .int .u8 0, .int .u8 0, .int .u8 0, .int .u8 10] 23)) := (Below.refl _ _).alloc (Nat.le_refl _) _
  have hb : bits BinOp.and IntKind.u8 2 1 = 0 := by decide
  go_enter Tryd.func21, Tryd.ntmps21
  go_wp2
  go_ret
  exact ⟨rfl, b1⟩
theorem text_s0 (w : World) (hD : Digs w) : Calls Tryd.prog 25 #[.agg #[.int .u8 2, .int .u8 0, .int .u8 0, .int .u8 0, .int .u8 0, .int .u8 10]] w fun e w' => e = .returned (.string ⟨#[48, 50, 58, 48, 48, 58, 48, 48, 58, 48, 48, 58, 48, 48, 58, 48, 97]⟩) ∧ Below w.heap.size w w' := by
  have ht : strOfNums (textUp [2, 0, 0, 0, 0, 10] 6) = ⟨#[48, 50, 58, 48, 48, 58, 48, 48, 58, 48, 48, 58, 48, 48, 58, 48, 97]⟩ := by
    apply ByteArray.ext
    decide
  have := text_any 2 0 0 0 0 10 w hD (fun i => by
    rcases i with _ | _ | _ | _ | _ | _ | i <;> simp)
  rw [ht] at this
  exact this
set_option maxHeartbeats 1000000 in
theorem works_any (w : World) (hD : Digs w) : Calls Tryd.prog 12 #[] w fun e w' => e = .returned (.bool true) ∧ Below w.heap.size w w' := by
  have hq : ∀ W : World, (binOp .eql 23 (.agg #[.int .u8 2, .int .u8 0, .int .u8 0, .int .u8 0, .int .u8 0, .int .u8 10]) (.agg #[.int .u8 2, .int .u8 0, .int .u8 0, .int .u8 0, .int .u8 0, .int .u8 10])).run Tryd.prog W = .ok (.bool true) W := fun W =>
    run_eql_ints W .u8 23 5 6 Tryd.underlying23 Tryd.underlying5 (fun _ => Tryd.sizeOf5 _) [2, 0, 0, 0, 0, 10] [2, 0, 0, 0, 0, 10] rfl rfl
  have hp := parse_s0 w hD
  unfold s0 at hp
  have HP := Lib.hid hp
  clear hp
  have hpos := hD.pos
  go_enter Tryd.func12, Tryd.ntmps12
  go_wp2_with fail
  refine HP.out.mono ?_
  rintro e w1 ⟨rfl, b1⟩
  have b2 := b1.alloc b1.size (.cells #[.int .u8 2, .int .u8 0, .int .u8 0, .int .u8 0, .int .u8 0, .int .u8 10] 23)
  have bG := Blk.new w1 23 #[.int .u8 2, .int .u8 0, .int .u8 0, .int .u8 0, .int .u8 0, .int .u8 10]
  have hD2 := hD.below hpos b2
  have hs2 : w1.heap.size < (w1.alloc (.cells #[.int .u8 2, .int .u8 0, .int .u8 0, .int .u8 0, .int .u8 0, .int .u8 10] 23)).heap.size := by simp
  go_wp2_with (first
    | (go_at_call 21; refine (group_2 _).mono ?_; rintro e w3 ⟨rfl, b3⟩; have C3 := bG.below b3 hs2; have t0 : w3.cell? ⟨w1.heap.size, 0, none⟩ = some (.int .u8 2) := Blk.cell C3 0; have t1 : w3.cell? ⟨w1.heap.size, 1, none⟩ = some (.int .u8 0) := Blk.cell C3 1; have t2 : w3.cell? ⟨w1.heap.size, 2, none⟩ = some (.int .u8 0) := Blk.cell C3 2; have t3 : w3.cell? ⟨w1.heap.size, 3, none⟩ = some (.int .u8 0) := Blk.cell C3 3; have t4 : w3.cell? ⟨w1.heap.size, 4, none⟩ = some (.int .u8 0) := Blk.cell C3 4; have t5 : w3.cell? ⟨w1.heap.size, 5, none⟩ = some (.int .u8 10) := Blk.cell C3 5)
    | (go_at_call 25; refine (text_s0 _ (hD2.below (Nat.lt_of_le_of_lt (Nat.zero_le _) hs2) b3)).mono ?_; rintro e w4 ⟨rfl, b4⟩))
  go_ret
  exact ⟨rfl, (b2.trans (b3.mono b2.size)).trans (b4.mono (Nat.le_trans b2.size b3.size))⟩

/-- A frame as a value. -/
structure Fr where
  a0 : Int
  a1 : Int
  a2 : Int
  a3 : Int
  a4 : Int
  a5 : Int
  b0 : Int
  b1 : Int
  b2 : Int
  b3 : Int
  b4 : Int
  b5 : Int
  kind : Int
def Fr.cells (f : Fr) (A : Option Addr) (n k : Nat) : Array Value := #[.int .u8 f.a0, .int .u8 f.a1, .int .u8 f.a2, .int .u8 f.a3, .int .u8 f.a4, .int .u8 f.a5, .int .u8 f.b0, .int .u8 f.b1, .int .u8 f.b2, .int .u8 f.b3, .int .u8 f.b4, .int .u8 f.b5, .int .u16 f.kind, .slice A n k]
def Fr.zero : Fr := ⟨0, 0, 0, 0, 0, 0, 0, 0, 0, 0, 0, 0, 0⟩
set_option maxHeartbeats 1000000 in
theorem same_yes (f : Fr) (A A' : Option Addr) (zs : List Int) (k k' : Nat) (w : World) (h : Ints .u8 w w.heap.size A zs) (h' : Ints .u8 w w.heap.size A' zs) :
    Calls Tryd.prog 16 #[.agg (f.cells A zs.length k), .agg (f.cells A' zs.length k')] w fun e w' => e = .returned (.bool true) ∧ Below w.heap.size w w' := by
  obtain ⟨a0, a1, a2, a3, a4, a5, b0, b1, b2, b3, b4, b5, kd⟩ := f
  unfold Fr.cells
  simp only
  have hq : ∀ (W : World) (x0 x1 x2 x3 x4 x5 : Int), (binOp .eql 23 (.agg #[.int .u8 x0, .int .u8 x1, .int .u8 x2, .int .u8 x3, .int .u8 x4, .int .u8 x5]) (.agg #[.int .u8 x0, .int .u8 x1, .int .u8 x2, .int .u8 x3, .int .u8 x4, .int .u8 x5])).run Tryd.prog W = .ok (.bool true) W := fun W x0 x1 x2 x3 x4 x5 => by
    have := run_eql_ints (P := Tryd.prog) W .u8 23 5 6 Tryd.underlying23 Tryd.underlying5 (fun _ => Tryd.sizeOf5 _) [x0, x1, x2, x3, x4, x5] [x0, x1, x2, x3, x4, x5] rfl rfl
    rw [beq_self_eq_true] at this
    exact this
  have c1 : Below w.heap.size w (w.alloc (.cells #[.int .u8 a0, .int .u8 a1, .int .u8 a2, .int .u8 a3, .int .u8 a4, .int .u8 a5, .int .u8 b0, .int .u8 b1, .int .u8 b2, .int .u8 b3, .int .u8 b4, .int .u8 b5, .int .u16 kd, .slice A zs.length k] 27)) := (Below.refl _ _).alloc (Nat.le_refl _) _
  have c2 := c1.alloc (by simp) (.cells #[.int .u8 a0, .int .u8 a1, .int .u8 a2, .int .u8 a3, .int .u8 a4, .int .u8 a5, .int .u8 b0, .int .u8 b1, .int .u8 b2, .int .u8 b3, .int .u8 b4, .int .u8 b5, .int .u16 kd, .slice A' zs.length k'] 33)
  have H := Lib.hid (h.below c2)
  have H' := Lib.hid (h'.below c2)
  clear h h'
  go_enter Tryd.func16, Tryd.ntmps16
  go_wp2_with (go_at_call 11; refine (sameBytes_yes A A' zs zs.length k zs.length k' w.heap.size _ H.out H'.out rfl rfl).mono ?_; rintro e w' ⟨rfl, rfl⟩)
  go_ret
  exact ⟨rfl, c2⟩
end Go.Proofs.YtdnbcgdpaoclkaaDoor
