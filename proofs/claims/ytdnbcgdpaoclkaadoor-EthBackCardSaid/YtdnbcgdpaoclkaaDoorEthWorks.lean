/- What the chapter's example comes to. Conditions: the table of digits holds what its initialiser lays. -/
import Derived.Test.YtdnbcgdpaoclkaaDoorSmall
import Derived.Test.YtdnbcgdpaoclkaaDoorGoto
set_option linter.unusedVariables false
set_option linter.unusedSimpArgs false
namespace Go.Proofs.YtdnbcgdpaoclkaaDoor
open Go.RowKit

/-- The example's text. -/
def s0 : ByteArray := ⟨#[48, 50, 58, 48, 48, 58, 48, 48, 58, 48, 48, 58, 48, 48, 58, 48, 97]⟩
theorem small_s0 : smallOf s0 = s0 := by
  apply ByteArray.ext
  decide
theorem hex_s0 (i : Nat) (v : Int) (hi : i + 1 < 17) (w : World) (h : Digs w) (hv : 16 * dgv (bt s0 i) + dgv (bt s0 (i + 1)) = v ∧ 0 ≤ dg (bt s0 i) ∧ 0 ≤ dg (bt s0 (i + 1))) :
    Calls Tryd.prog 30 #[.string s0, .int .i64 i] w fun e w' => e = .returned (.tuple #[.int .u8 v, .bool true]) ∧ w = w' := by
  have h2 : s0.size = 17 := rfl
  refine (hex_any s0 i w h (by omega) (by omega)).mono ?_
  rintro e w' ⟨rfl, rfl⟩
  exact ⟨by rw [hv.1]; simp [hv.2.1, hv.2.2], rfl⟩
/-- An address in memory. -/
def mac0 : Array Value := #[.int .u8 0, .int .u8 0, .int .u8 0, .int .u8 0, .int .u8 0, .int .u8 0]
set_option maxRecDepth 100000 in
set_option maxHeartbeats 4000000 in
theorem parse_s0 (w : World) (h : Digs w) :
    Calls Tryd.prog 17 #[.string s0] w fun e w' => e = .returned (.tuple #[.agg #[.int .u8 2, .int .u8 0, .int .u8 0, .int .u8 0, .int .u8 0, .int .u8 10], .int .i64 0]) ∧ Below w.heap.size w w' := by
  have hsz : s0.size = 17 := rfl
  have hp := h.pos
  have b1 : Below w.heap.size w ((w.alloc (.cells mac0 23)).alloc (.cells mac0 23)) := ((Below.refl _ _).alloc (Nat.le_refl _) _).alloc (by simp) _
  have B1 := (Blk.new w 23 mac0).alloc (.cells mac0 23)
  have B2 := Blk.new (w.alloc (.cells mac0 23)) 23 mac0
  have hs1 : (w.alloc (.cells mac0 23)).heap.size = w.heap.size + 1 := by simp
  have hs2 : ((w.alloc (.cells mac0 23)).alloc (.cells mac0 23)).heap.size = w.heap.size + 2 := by simp
  rw [hs1] at B2
  have hD := h.below hp b1
  clear h hs1
  unfold mac0 at *
  go_enter Tryd.func17, Tryd.ntmps17
  go_wp2_with fail
  refine wp_scope_ahead 5 ?_
  go_wp2_with fail
  generalize ((w.alloc (.cells #[.int .u8 0, .int .u8 0, .int .u8 0, .int .u8 0, .int .u8 0, .int .u8 0] 23)).alloc (.cells #[.int .u8 0, .int .u8 0, .int .u8 0, .int .u8 0, .int .u8 0, .int .u8 0] 23)) = w2 at *
  refine (small_any s0 w2 (by omega)).mono ?_
  rintro e w3 ⟨rfl, c3⟩
  rw [small_s0]
  have b3 := b1.trans (c3.mono b1.size)
  have C1 := B1.below c3 (by omega)
  have C2 := B2.below c3 (by omega)
  have hD3 := hD.below hp (c3.mono (by omega))
  clear B1 B2 hD b1 c3
  go_wp2_with fail
  have hg : 0 < w.heap.size + 1 := by omega
  have hg1 : w.heap.size + 1 ≠ w.heap.size := by omega
  have k2 : ((s0[2]'(by decide)).toNat : Int) = 58 := by decide
  have k5 : ((s0[5]'(by decide)).toNat : Int) = 58 := by decide
  have k8 : ((s0[8]'(by decide)).toNat : Int) = 58 := by decide
  have k11 : ((s0[11]'(by decide)).toNat : Int) = 58 := by decide
  have k14 : ((s0[14]'(by decide)).toNat : Int) = 58 := by decide
  have c0 : w3.cell? ⟨w.heap.size + 1, 0, none⟩ = some (.int .u8 0) := Blk.cell C2 0
  have z0 : w3.frozen? ⟨w.heap.size + 1, 0, none⟩ = false := Blk.frozen C2 0
  refine wp_label ?_
  go_wp2_with (go_at_call 30; refine (hex_s0 0 2 (by omega) _ hD3 (by decide)).mono ?_; rintro e w' ⟨rfl, rfl⟩)
  go_step3
  try simp only [Exit.then]
  have D0 := hD3.set_ hg 0 (.int .u8 2)
  have E0 := Blk.set_ C2 0 (.int .u8 2)
  have F0 := Blk.far C1 (p := ⟨w.heap.size + 1, 0, none⟩) (by exact hg1.symm) (.int .u8 2)
  have G0 := b3.setCell (p := ⟨w.heap.size + 1, 0, none⟩) (by exact Nat.le_succ _) (.int .u8 2)
  generalize w3.setCell ⟨w.heap.size + 1, 0, none⟩ (.int .u8 2) = v0 at *
  clear c0 z0 hD3 C2 C1 b3 k2
  have c1 : v0.cell? ⟨w.heap.size + 1, 1, none⟩ = some (.int .u8 0) := Blk.cell E0 1
  have z1 : v0.frozen? ⟨w.heap.size + 1, 1, none⟩ = false := Blk.frozen E0 1
  refine hop_to (by rfl) ?_
  go_wp2_with (go_at_call 30; refine (hex_s0 3 0 (by omega) _ D0 (by decide)).mono ?_; rintro e w' ⟨rfl, rfl⟩)
  go_step3
  try simp only [Exit.then]
  have D1 := D0.set_ hg 1 (.int .u8 0)
  have E1 := Blk.set_ E0 1 (.int .u8 0)
  have F1 := Blk.far F0 (p := ⟨w.heap.size + 1, 1, none⟩) (by exact hg1.symm) (.int .u8 0)
  have G1 := G0.setCell (p := ⟨w.heap.size + 1, 1, none⟩) (by exact Nat.le_succ _) (.int .u8 0)
  generalize v0.setCell ⟨w.heap.size + 1, 1, none⟩ (.int .u8 0) = v1 at *
  clear c1 z1 D0 E0 F0 G0 k5
  have c2 : v1.cell? ⟨w.heap.size + 1, 2, none⟩ = some (.int .u8 0) := Blk.cell E1 2
  have z2 : v1.frozen? ⟨w.heap.size + 1, 2, none⟩ = false := Blk.frozen E1 2
  refine hop_to (by rfl) ?_
  go_wp2_with (go_at_call 30; refine (hex_s0 6 0 (by omega) _ D1 (by decide)).mono ?_; rintro e w' ⟨rfl, rfl⟩)
  go_step3
  try simp only [Exit.then]
  have D2 := D1.set_ hg 2 (.int .u8 0)
  have E2 := Blk.set_ E1 2 (.int .u8 0)
  have F2 := Blk.far F1 (p := ⟨w.heap.size + 1, 2, none⟩) (by exact hg1.symm) (.int .u8 0)
  have G2 := G1.setCell (p := ⟨w.heap.size + 1, 2, none⟩) (by exact Nat.le_succ _) (.int .u8 0)
  generalize v1.setCell ⟨w.heap.size + 1, 2, none⟩ (.int .u8 0) = v2 at *
  clear c2 z2 D1 E1 F1 G1 k8
  have c3 : v2.cell? ⟨w.heap.size + 1, 3, none⟩ = some (.int .u8 0) := Blk.cell E2 3
  have z3 : v2.frozen? ⟨w.heap.size + 1, 3, none⟩ = false := Blk.frozen E2 3
  refine hop_to (by rfl) ?_
  go_wp2_with (go_at_call 30; refine (hex_s0 9 0 (by omega) _ D2 (by decide)).mono ?_; rintro e w' ⟨rfl, rfl⟩)
  go_step3
  try simp only [Exit.then]
  have D3 := D2.set_ hg 3 (.int .u8 0)
  have E3 := Blk.set_ E2 3 (.int .u8 0)
  have F3 := Blk.far F2 (p := ⟨w.heap.size + 1, 3, none⟩) (by exact hg1.symm) (.int .u8 0)
  have G3 := G2.setCell (p := ⟨w.heap.size + 1, 3, none⟩) (by exact Nat.le_succ _) (.int .u8 0)
  generalize v2.setCell ⟨w.heap.size + 1, 3, none⟩ (.int .u8 0) = v3 at *
  clear c3 z3 D2 E2 F2 G2 k11
  have c4 : v3.cell? ⟨w.heap.size + 1, 4, none⟩ = some (.int .u8 0) := Blk.cell E3 4
  have z4 : v3.frozen? ⟨w.heap.size + 1, 4, none⟩ = false := Blk.frozen E3 4
  refine hop_to (by rfl) ?_
  go_wp2_with (go_at_call 30; refine (hex_s0 12 0 (by omega) _ D3 (by decide)).mono ?_; rintro e w' ⟨rfl, rfl⟩)
  go_step3
  try simp only [Exit.then]
  have D4 := D3.set_ hg 4 (.int .u8 0)
  have E4 := Blk.set_ E3 4 (.int .u8 0)
  have F4 := Blk.far F3 (p := ⟨w.heap.size + 1, 4, none⟩) (by exact hg1.symm) (.int .u8 0)
  have G4 := G3.setCell (p := ⟨w.heap.size + 1, 4, none⟩) (by exact Nat.le_succ _) (.int .u8 0)
  generalize v3.setCell ⟨w.heap.size + 1, 4, none⟩ (.int .u8 0) = v4 at *
  clear c4 z4 D3 E3 F3 G3 k14
  have c5 : v4.cell? ⟨w.heap.size + 1, 5, none⟩ = some (.int .u8 0) := Blk.cell E4 5
  have z5 : v4.frozen? ⟨w.heap.size + 1, 5, none⟩ = false := Blk.frozen E4 5
  refine hop_to (by rfl) ?_
  have c0 : v4.cell? ⟨w.heap.size + 1, 0, none⟩ = some (.int .u8 2) := Blk.cell E4 0
  have c1 : v4.cell? ⟨w.heap.size + 1, 1, none⟩ = some (.int .u8 0) := Blk.cell E4 1
  have c2 : v4.cell? ⟨w.heap.size + 1, 2, none⟩ = some (.int .u8 0) := Blk.cell E4 2
  have c3 : v4.cell? ⟨w.heap.size + 1, 3, none⟩ = some (.int .u8 0) := Blk.cell E4 3
  have c4 : v4.cell? ⟨w.heap.size + 1, 4, none⟩ = some (.int .u8 0) := Blk.cell E4 4
  have r0 : v4.cell? ⟨w.heap.size, 0, none⟩ = some (.int .u8 0) := Blk.cell F4 0
  have y0 : v4.frozen? ⟨w.heap.size, 0, none⟩ = false := Blk.frozen F4 0
  have r1 : v4.cell? ⟨w.heap.size, 1, none⟩ = some (.int .u8 0) := Blk.cell F4 1
  have y1 : v4.frozen? ⟨w.heap.size, 1, none⟩ = false := Blk.frozen F4 1
  have r2 : v4.cell? ⟨w.heap.size, 2, none⟩ = some (.int .u8 0) := Blk.cell F4 2
  have y2 : v4.frozen? ⟨w.heap.size, 2, none⟩ = false := Blk.frozen F4 2
  have r3 : v4.cell? ⟨w.heap.size, 3, none⟩ = some (.int .u8 0) := Blk.cell F4 3
  have y3 : v4.frozen? ⟨w.heap.size, 3, none⟩ = false := Blk.frozen F4 3
  have r4 : v4.cell? ⟨w.heap.size, 4, none⟩ = some (.int .u8 0) := Blk.cell F4 4
  have y4 : v4.frozen? ⟨w.heap.size, 4, none⟩ = false := Blk.frozen F4 4
  have r5 : v4.cell? ⟨w.heap.size, 5, none⟩ = some (.int .u8 0) := Blk.cell F4 5
  have y5 : v4.frozen? ⟨w.heap.size, 5, none⟩ = false := Blk.frozen F4 5
  go_wp2_with (go_at_call 30; refine (hex_s0 15 10 (by omega) _ D4 (by decide)).mono ?_; rintro e w' ⟨rfl, rfl⟩)
  rw [hops_ret]
  have N := (((((((Blk.far F4 (p := ⟨w.heap.size + 1, 5, none⟩) (by exact hg1.symm) (.int .u8 10)).set_ 0 (.int .u8 2)).set_ 1 (.int .u8 0)).set_ 2 (.int .u8 0)).set_ 3 (.int .u8 0)).set_ 4 (.int .u8 0)).set_ 5 (.int .u8 10))
  have M := ((((((G4.setCell (p := ⟨w.heap.size + 1, 5, none⟩) (by exact Nat.le_succ _) (.int .u8 10)).setCell (p := ⟨w.heap.size, 0, none⟩) (Nat.le_refl _) (.int .u8 2)).setCell (p := ⟨w.heap.size, 1, none⟩) (Nat.le_refl _) (.int .u8 0)).setCell (p := ⟨w.heap.size, 2, none⟩) (Nat.le_refl _) (.int .u8 0)).setCell (p := ⟨w.heap.size, 3, none⟩) (Nat.le_refl _) (.int .u8 0)).setCell (p := ⟨w.heap.size, 4, none⟩) (Nat.le_refl _) (.int .u8 0)).setCell (p := ⟨w.heap.size, 5, none⟩) (Nat.le_refl _) (.int .u8 10)
  generalize (((((((v4.setCell ⟨w.heap.size + 1, 5, none⟩ (.int .u8 10)).setCell ⟨w.heap.size, 0, none⟩ (.int .u8 2)).setCell ⟨w.heap.size, 1, none⟩ (.int .u8 0)).setCell ⟨w.heap.size, 2, none⟩ (.int .u8 0)).setCell ⟨w.heap.size, 3, none⟩ (.int .u8 0)).setCell ⟨w.heap.size, 4, none⟩ (.int .u8 0)).setCell ⟨w.heap.size, 5, none⟩ (.int .u8 10)) = wN at *
  have t0 : wN.cell? ⟨w.heap.size, 0, none⟩ = some (.int .u8 2) := Blk.cell N 0
  have t1 : wN.cell? ⟨w.heap.size, 1, none⟩ = some (.int .u8 0) := Blk.cell N 1
  have t2 : wN.cell? ⟨w.heap.size, 2, none⟩ = some (.int .u8 0) := Blk.cell N 2
  have t3 : wN.cell? ⟨w.heap.size, 3, none⟩ = some (.int .u8 0) := Blk.cell N 3
  have t4 : wN.cell? ⟨w.heap.size, 4, none⟩ = some (.int .u8 0) := Blk.cell N 4
  have t5 : wN.cell? ⟨w.heap.size, 5, none⟩ = some (.int .u8 10) := Blk.cell N 5
  refine ⟨rfl, .tuple #[.agg #[.int .u8 2, .int .u8 0, .int .u8 0, .int .u8 0, .int .u8 0, .int .u8 10], .int .i64 0], ?_, rfl, M⟩
  simp [results, t0, t1, t2, t3, t4, t5, go_sem]
end Go.Proofs.YtdnbcgdpaoclkaaDoor
