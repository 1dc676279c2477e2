/- What the law functions of layer 12 come to, first part: the chapter's example, and a joint that no call made. No conditions. -/
import Derived.Test.YtemphincefamfaaJoinD
import Derived.Test.YtemphincefamfaaAmong
import Derived.Lib.SlBytesConst
set_option linter.unusedVariables false
set_option linter.unusedSimpArgs false
namespace Go.Proofs.Ytemphincefamfaa
open Go.RowKit

/-- No call made it: nil, or a struct of zero values. -/
def NotMade (w : World) (p : Option Addr) : Prop := p = none ∨ ∃ g, p = some ⟨g, 0, none⟩ ∧ w.cell? ⟨g, 1, none⟩ = some (.slice none 0 0)
theorem made_not (p : Option Addr) (w : World) (h : NotMade w p) :
    Calls Try.prog 22 #[.pointer p] w fun e w' => e = .returned (.bool false) ∧ w = w' := by
  rcases h with rfl | ⟨g, rfl, hc⟩
  · go_enter Try.func22, Try.ntmps22
    go_wp2
    go_ret
    exact ⟨rfl, rfl⟩
  · go_enter Try.func22, Try.ntmps22
    go_wp2
    go_ret
    exact ⟨rfl, rfl⟩
theorem add_not (p : Option Addr) (at_ : Int) (A : Option Addr) (len c : Nat) (w : World) (h : NotMade w p) :
    Calls Try.prog 14 #[.pointer p, .int .u32 at_, .slice A len c] w fun e w' => e = .returned (.tuple #[.int .i64 0, .int .i64 1]) ∧ w = w' := by
  have H := Lib.hid h
  clear h
  go_enter Try.func14, Try.ntmps14
  go_wp2_with (go_at_call 22; refine (made_not _ _ H.out).mono ?_; rintro e w' ⟨rfl, rfl⟩)
  go_ret2
  exact ⟨rfl, rfl⟩
theorem read_not (p : Option Addr) (n : Int) (w : World) (h : NotMade w p) :
    Calls Try.prog 11 #[.pointer p, .int .i64 n] w fun e w' => e = .returned (.tuple #[.slice none 0 0, .int .i64 1]) ∧ w = w' := by
  have H := Lib.hid h
  clear h
  go_enter Try.func11, Try.ntmps11
  go_wp2_with (go_at_call 22; refine (made_not _ _ H.out).mono ?_; rintro e w' ⟨rfl, rfl⟩)
  go_ret2
  exact ⟨rfl, rfl⟩
theorem next_not (p : Option Addr) (w : World) (h : NotMade w p) :
    Calls Try.prog 17 #[.pointer p] w fun e w' => e = .returned (.int .u32 0) ∧ w = w' := by
  have H := Lib.hid h
  clear h
  go_enter Try.func17, Try.ntmps17
  go_wp2_with (go_at_call 22; refine (made_not _ _ H.out).mono ?_; rintro e w' ⟨rfl, rfl⟩)
  go_ret
  exact ⟨rfl, rfl⟩
theorem window_not (p : Option Addr) (w : World) (h : NotMade w p) :
    Calls Try.prog 18 #[.pointer p] w fun e w' => e = .returned (.int .i64 0) ∧ w = w' := by
  have H := Lib.hid h
  clear h
  go_enter Try.func18, Try.ntmps18
  go_wp2_with (go_at_call 22; refine (made_not _ _ H.out).mono ?_; rintro e w' ⟨rfl, rfl⟩)
  go_ret
  exact ⟨rfl, rfl⟩
theorem ready_not (p : Option Addr) (w : World) (h : NotMade w p) :
    Calls Try.prog 20 #[.pointer p] w fun e w' => e = .returned (.int .i64 0) ∧ w = w' := by
  have H := Lib.hid h
  clear h
  go_enter Try.func20, Try.ntmps20
  go_wp2_with (go_at_call 22; refine (made_not _ _ H.out).mono ?_; rintro e w' ⟨rfl, rfl⟩)
  go_ret
  exact ⟨rfl, rfl⟩
theorem held_not (p : Option Addr) (w : World) (h : NotMade w p) :
    Calls Try.prog 21 #[.pointer p] w fun e w' => e = .returned (.int .i64 0) ∧ w = w' := by
  have H := Lib.hid h
  clear h
  go_enter Try.func21, Try.ntmps21
  go_wp2_with (go_at_call 22; refine (made_not _ _ H.out).mono ?_; rintro e w' ⟨rfl, rfl⟩)
  go_ret
  exact ⟨rfl, rfl⟩

/-- The example's first bytes: one is held. -/
theorem add_c (g gb gt : Nat) (b c : Nat) (w : World) (h : Jt w g gb gt 10 [0, 0, 0, 0, 0] [false, false, false, false, false] 0 0 0) (hb : b < w.heap.size) (hn : ¬ Jb g gb gt b) (hc : w.cell? ⟨b, 0, none⟩ = some (.int .u8 99)) :
    Calls Try.prog 14 #[.pointer (some ⟨g, 0, none⟩), .int .u32 12, .slice (some ⟨b, 0, none⟩) 1 c] w fun e w' => e = .returned (.tuple #[.int .i64 0, .int .i64 0]) ∧ Jt w' g gb gt 10 [0, 0, 99, 0, 0] [false, false, true, false, false] 0 0 1 ∧ Keeps (Jb g gb gt) w w' := by
  have hA := jadd_any g gb gt 10 [0, 0, 0, 0, 0] [false, false, false, false, false] 0 0 0 12 (some ⟨b, 0, none⟩) [99] c w h (by decide) (by decide) (by decide) (by decide) (by decide) (fun _ => ⟨b, 0, rfl, hb, hn, fun i hi => by
    obtain rfl : i = 0 := by simp at hi; omega
    exact hc⟩)
  refine hA.mono ?_
  rintro e w' ⟨m, rfl, hj, hm, hall, hend, hk⟩
  have e0 : m = 0 := by
    rcases Nat.eq_zero_or_pos m with h0 | h0
    · exact h0
    · exact absurd (hall 0 h0) (by decide)
  subst e0
  exact ⟨rfl, hj, hk⟩
theorem add_ab (g gb gt : Nat) (b c : Nat) (w : World) (h : Jt w g gb gt 10 [0, 0, 99, 0, 0] [false, false, true, false, false] 0 0 1) (hb : b < w.heap.size) (hn : ¬ Jb g gb gt b) (hc : w.cell? ⟨b, 0, none⟩ = some (.int .u8 97)) (hc1 : w.cell? ⟨b, 1, none⟩ = some (.int .u8 98)) :
    Calls Try.prog 14 #[.pointer (some ⟨g, 0, none⟩), .int .u32 10, .slice (some ⟨b, 0, none⟩) 2 c] w fun e w' => e = .returned (.tuple #[.int .i64 3, .int .i64 0]) ∧ Jt w' g gb gt 13 [97, 98, 99, 0, 0] [false, false, false, false, false] 0 3 0 ∧ Keeps (Jb g gb gt) w w' := by
  have hA := jadd_any g gb gt 10 [0, 0, 99, 0, 0] [false, false, true, false, false] 0 0 1 10 (some ⟨b, 0, none⟩) [97, 98] c w h (by decide) (by decide) (by decide) (by decide) (by decide) (fun _ => ⟨b, 0, rfl, hb, hn, fun i hi => by
    have : i = 0 ∨ i = 1 := by simp at hi; omega
    rcases this with rfl | rfl
    · exact hc
    · exact hc1⟩)
  refine hA.mono ?_
  rintro e w' ⟨m, rfl, hj, hm, hall, hend, hk⟩
  have hm5 : m ≤ 5 := by simpa using hm
  have h3 : ¬ 3 < m := fun h3 => absurd (hall 3 h3) (by decide)
  have e0 : m = 3 := by
    have : m = 0 ∨ m = 1 ∨ m = 2 ∨ m = 3 := by omega
    rcases this with rfl | rfl | rfl | rfl
    · exact absurd hend (by decide)
    · exact absurd hend (by decide)
    · exact absurd hend (by decide)
    · rfl
  subst e0
  exact ⟨rfl, hj, hk⟩

set_option maxHeartbeats 1000000 in
theorem jworks_any (w : World) : Calls Try.prog 9 #[] w fun e w' => e = .returned (.bool true) ∧ Below w.heap.size w w' := by
  have kc := fun (w : World) (C : Array Value) (n c : Nat) => Lib.run_convert_bytes_const (P := Try.prog) w 32 5 C n c Try.underlying32 Try.underlying5
  go_enter Try.func9, Try.ntmps9
  go_wp2_with fail
  refine (jnew_good 10 5 _ (by decide) (by decide) (by decide) (by decide)).mono ?_
  rintro e w0 ⟨g, gb, gt, rfl, h0, b0, l1, l2, l3⟩
  have hgl := h0.top.lt
  have hgbl := h0.row.lt
  have hgtl := h0.marks.lt
  have H0 := Lib.hid h0
  clear h0
  go_wp2_with fail
  have h1 := H0.out.keeps (s := fun _ => False) ((Keeps.refl _ _).alloc (Obj.cells #[Value.int IntKind.u8 99] 5 (1, 1 + 1))) (fun h => h) (fun h => h) (fun h => h)
  refine (add_c g gb gt _ _ _ h1 (by simp) (by unfold Jb; omega) (World.cell?_alloc_mark _ _ _ _ _)).mono ?_
  rintro e w1 ⟨rfl, h1, k1⟩
  have b1 : Below w.heap.size w w1 := (b0.alloc b0.size _).trans (k1.below (by have := b0.size; simp; omega) (by rintro k (rfl | rfl | rfl) <;> assumption))
  have H1 := Lib.hid h1
  have s1 := k1.size
  simp at s1
  clear h1 k1
  go_wp2_with fail
  have h2 := H1.out.keeps (s := fun _ => False) ((Keeps.refl _ _).alloc (Obj.cells #[Value.int IntKind.u8 97, Value.int IntKind.u8 98] 5 (2, 3))) (fun h => h) (fun h => h) (fun h => h)
  refine (add_ab g gb gt _ _ _ h2 (by simp) (by unfold Jb; omega) (World.cell?_alloc_mark _ _ _ _ _) (World.cell?_alloc_mark _ _ _ _ _)).mono ?_
  rintro e w2 ⟨rfl, h2, k2⟩
  have b2 : Below w.heap.size w w2 := (b1.alloc (by omega) _).trans (k2.below (by simp; omega) (by rintro k (rfl | rfl | rfl) <;> assumption))
  have H2 := Lib.hid h2
  have s2 := k2.size
  simp at s2
  clear h2 k2
  go_wp2_with fail
  refine (jread_any g gb gt 13 [97, 98, 99, 0, 0] [false, false, false, false, false] 0 3 0 9 3 _ H2.out (by decide) (by decide)).mono ?_
  rintro e w3 ⟨rfl, h3, r3, k3⟩
  have hcs : ∀ i, i < 3 → w3.cell? ⟨w2.heap.size, 0 + i, none⟩ = some (.int .u8 (([97, 98, 99] : List Int).getD i 0)) := fun i hi => by
    rw [Nat.zero_add, Blk.cell r3]
    have : i = 0 ∨ i = 1 ∨ i = 2 := by omega
    rcases this with rfl | rfl | rfl <;> rfl
  have kv := run_convert_bytes_arg (P := Try.prog) w3 32 5 Try.underlying32 Try.underlying5 w2.heap.size 0 3 3 [97, 98, 99] rfl hcs 9 Try.underlying9
  have b3 : Below w.heap.size w w3 := b2.trans (k3.below (by omega) (by rintro k (rfl | rfl | rfl) <;> assumption))
  have H3 := Lib.hid h3
  clear h3 k3 r3 hcs
  rw [show strOfNums [97, 98, 99] = ⟨#[97, 98, 99]⟩ from by decide] at kv
  go_wp2_with fail
  refine (jnext_any _ _ _ _ _ _ _ _ _ _ H3.out).mono ?_
  rintro e w' ⟨rfl, rfl⟩
  go_wp2
  go_ret
  exact ⟨rfl, b3⟩

/-- 'JoinVoid'. -/
theorem joinVoid_walk (at_ : Int) (A : Option Addr) (len c : Nat) (n : Int) (w : World) :
    Calls Try.prog 6 #[.int .u32 at_, .slice A len c, .int .i64 n] w fun e w' => e = .returned (.bool true) ∧ Below w.heap.size w w' := by
  go_enter Try.func6, Try.ntmps6
  go_wp2_with fail
  refine (jworks_any _).mono ?_
  rintro e w0 ⟨rfl, b0⟩
  go_wp2_with fail
  have hcell : (w0.alloc (.cells #[.int .u32 0, .slice none 0 0, .slice none 0 0, .int .i64 0, .int .i64 0, .int .i64 0] 55)).cell? ⟨w0.heap.size, 1, none⟩ = some (.slice none 0 0) := Blk.cell (Blk.new w0 55 #[.int .u32 0, .slice none 0 0, .slice none 0 0, .int .i64 0, .int .i64 0, .int .i64 0]) 1
  have b1 : Below w0.heap.size w0 (w0.alloc (.cells #[.int .u32 0, .slice none 0 0, .slice none 0 0, .int .i64 0, .int .i64 0, .int .i64 0] 55)) := (Below.refl _ _).alloc (Nat.le_refl _) _
  generalize w0.alloc (.cells #[.int .u32 0, .slice none 0 0, .slice none 0 0, .int .i64 0, .int .i64 0, .int .i64 0] 55) = w1 at *
  have n0 : NotMade w1 none := Or.inl rfl
  have nz : NotMade w1 (some ⟨w0.heap.size, 0, none⟩) := Or.inr ⟨_, rfl, hcell⟩
  clear hcell
  go_wp2_with (first
    | (go_at_call 14; (with_reducible refine (add_not none _ _ _ _ _ n0).mono ?_); rintro e w' ⟨rfl, rfl⟩)
    | (go_at_call 14; (with_reducible refine (add_not (some ⟨w0.heap.size, 0, none⟩) _ _ _ _ _ nz).mono ?_); rintro e w' ⟨rfl, rfl⟩)
    | (go_at_call 11; (with_reducible refine (read_not none _ _ n0).mono ?_); rintro e w' ⟨rfl, rfl⟩)
    | (go_at_call 11; (with_reducible refine (read_not (some ⟨w0.heap.size, 0, none⟩) _ _ nz).mono ?_); rintro e w' ⟨rfl, rfl⟩)
    | (go_at_call 17; (with_reducible refine (next_not none  _ n0).mono ?_); rintro e w' ⟨rfl, rfl⟩)
    | (go_at_call 17; (with_reducible refine (next_not (some ⟨w0.heap.size, 0, none⟩)  _ nz).mono ?_); rintro e w' ⟨rfl, rfl⟩)
    | (go_at_call 18; (with_reducible refine (window_not none  _ n0).mono ?_); rintro e w' ⟨rfl, rfl⟩)
    | (go_at_call 18; (with_reducible refine (window_not (some ⟨w0.heap.size, 0, none⟩)  _ nz).mono ?_); rintro e w' ⟨rfl, rfl⟩)
    | (go_at_call 20; (with_reducible refine (ready_not none  _ n0).mono ?_); rintro e w' ⟨rfl, rfl⟩)
    | (go_at_call 20; (with_reducible refine (ready_not (some ⟨w0.heap.size, 0, none⟩)  _ nz).mono ?_); rintro e w' ⟨rfl, rfl⟩)
    | (go_at_call 21; (with_reducible refine (held_not none  _ n0).mono ?_); rintro e w' ⟨rfl, rfl⟩)
    | (go_at_call 21; (with_reducible refine (held_not (some ⟨w0.heap.size, 0, none⟩)  _ nz).mono ?_); rintro e w' ⟨rfl, rfl⟩))
  go_ret
  exact ⟨rfl, b0.trans (b1.mono b0.size)⟩
end Go.Proofs.Ytemphincefamfaa
