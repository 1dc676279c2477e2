/- What the reference's faults come to as bytes and back, the answers on refreshes, and the names of all faults. Conditions: a fault's data are cells of memory; at most 100000 of them. -/
import Derived.Test.YtfjjmhiogfimjaaDoorNoteLaw
import Derived.Test.YtfjjmhiogfimjaaDoorArr
import Derived.Laws.Cover3
import Derived.Deep.RegionWith
set_option linter.unusedVariables false
set_option linter.unusedSimpArgs false
namespace Go.Proofs.YtfjjmhiogfimjaaDoor
open Go.RowKit

theorem rbuild_bad (c s : Int) (A : Option Addr) (n k : Nat) (w : World) (h : c < 0 ∨ 255 < c ∨ s < 0 ∨ 255 < s) :
    Calls Tryd.prog 7 #[fv c s A n k] w fun e w' => e = .returned (.tuple #[.slice none 0 0, .int .i64 2]) ∧ Below w.heap.size w w' := by
  unfold fv
  by_cases h1 : c < 0
  · go_enter Tryd.func7, Tryd.ntmps7
    go_wp2
    go_ret2
    exact ⟨rfl, (Below.refl _ _).alloc (Nat.le_refl _) _⟩
  · by_cases h2 : 255 < c
    · go_enter Tryd.func7, Tryd.ntmps7
      go_wp2
      go_ret2
      exact ⟨rfl, (Below.refl _ _).alloc (Nat.le_refl _) _⟩
    · by_cases h3 : s < 0
      · go_enter Tryd.func7, Tryd.ntmps7
        go_wp2
        go_ret2
        exact ⟨rfl, (Below.refl _ _).alloc (Nat.le_refl _) _⟩
      · have h4 : 255 < s := by omega
        go_enter Tryd.func7, Tryd.ntmps7
        go_wp2
        go_ret2
        exact ⟨rfl, (Below.refl _ _).alloc (Nat.le_refl _) _⟩

theorem rbuild_long (c s : Int) (A : Option Addr) (n k : Nat) (w : World) (h1 : 0 ≤ c) (h2 : c ≤ 255) (h3 : 0 ≤ s) (h4 : s ≤ 255) (h : 4075 < n) :
    Calls Tryd.prog 7 #[fv c s A n k] w fun e w' => e = .returned (.tuple #[.slice none 0 0, .int .i64 3]) ∧ Below w.heap.size w w' := by
  unfold fv
  have i1 : ¬ c < 0 := by omega
  have i2 : ¬ 255 < c := by omega
  have i3 : ¬ s < 0 := by omega
  have i4 : ¬ 255 < s := by omega
  have i5 : (4075 : Int) < (n : Int) := by omega
  go_enter Tryd.func7, Tryd.ntmps7
  go_wp2
  go_ret2
  exact ⟨rfl, (Below.refl _ _).alloc (Nat.le_refl _) _⟩

theorem rbuild_ok (c s : Int) (A : Option Addr) (zs : List Int) (k : Nat) (w : World) (h1 : 0 ≤ c) (h2 : c ≤ 255) (h3 : 0 ≤ s) (h4 : s ≤ 255) (h : zs.length ≤ 4075) (hI : Ints .u8 w w.heap.size A zs) :
    Calls Tryd.prog 7 #[fv c s A zs.length k] w fun e w' => ∃ v, e = .returned (.tuple #[v, .int .i64 0]) ∧ Own w' w.heap.size v (c :: s :: zs) ∧ Below w.heap.size w w' := by
  unfold fv
  obtain ⟨i0, hi0, hz0, hz1, hz2⟩ := info_parts u8_info
  have i1 : ¬ c < 0 := by omega
  have i2 : ¬ 255 < c := by omega
  have i3 : ¬ s < 0 := by omega
  have i4 : ¬ 255 < s := by omega
  have i5 : ¬ (4075 : Int) < (zs.length : Int) := by omega
  have HI := Lib.hid hI
  clear hI
  have hown0 : ((w.alloc (.cells #[.int .i64 c, .int .i64 s, .slice A zs.length k] 24)).alloc (.cells #[.int .u8 c, .int .u8 s] 5)).ownsRow (w.heap.size + 1) 5 1 (.slice (some ⟨w.heap.size + 1, 0, none⟩) 2 2) 2 [.int .u8 c, .int .u8 s] := by
    simpa using World.ownsRow_lit (e := 5) (size := 1) (base := w.heap.size + 1) (w.alloc (.cells #[.int .i64 c, .int .i64 s, .slice A zs.length k] 24)) #[.int .u8 c, .int .u8 s] 2 (by simp) (by unfold maxLen; omega) rfl
  have i6 : c % 256 = c := by omega
  have i7 : s % 256 = s := by omega
  go_enter Tryd.func7, Tryd.ntmps7
  go_wp2_with (at_builtin; refine wpList_append_any _ rfl (.tmp 32) (.tmp 34) _ rfl (w.heap.size + 1) 5 i0 _ 1 1 Tryd.underlying22 hi0 hz0 hz1 hz2 rfl (by omega) (.slice (some ⟨w.heap.size + 1, 0, none⟩) 2 2) 2 [.int .u8 c, .int .u8 s] rfl hown0 w.heap.size A zs.length k (vals zs) rfl ((HI.out.reads.alloc (Nat.le_refl _) _).alloc (by simp) _) (vals_one zs) (by unfold maxLen; omega) (by omega) (by simp) ?_; intro v1 w1 hown1 hg1 hat1)
  go_ret2
  refine ⟨v1, rfl, ⟨?_, ?_⟩, ?_⟩
  · have := own_more (B' := w.heap.size) hown1 (by omega)
    have e : (c :: s :: zs).length = 2 + zs.length := by simp; omega
    rw [e]
    simpa [vals] using this
  · intro x hx
    simp at hx
    rcases hx with rfl | rfl | hx
    · simp [Lit.wf, IntKind.min, IntKind.max, IntKind.signed, IntKind.bits]; omega
    · simp [Lit.wf, IntKind.min, IntKind.max, IntKind.signed, IntKind.bits]; omega
    · exact HI.out.1 x hx
  · refine ((((Below.refl _ _).alloc (Nat.le_refl _) _).alloc (by simp) _).grown hg1 (by simp; omega) (fun k hk => ?_))
    simp [Value.ownBlock] at hk
    omega

theorem nread_few (A : Option Addr) (n k : Nat) (w : World) (h : n < 2) :
    Calls Tryd.prog 8 #[.slice A n k] w fun e w' => e = .returned (.tuple #[fv 0 0 none 0 0, .bool false]) ∧ Below w.heap.size w w' := by
  have hI : (n : Int) < 2 := by omega
  have b1 : Below w.heap.size w (w.alloc (.cells #[.int .i64 0, .int .i64 0, .slice none 0 0] 24)) := (Below.refl _ _).alloc (Nat.le_refl _) _
  go_enter Tryd.func8, Tryd.ntmps8
  go_wp2
  refine ⟨rfl, .tuple #[fv 0 0 none 0 0, .bool false], ?_, rfl, ?_⟩
  · simp [results, go_sem, fv]
  · exact b1

theorem rread_few (A : Option Addr) (n k : Nat) (w : World) (h : n < 2) :
    Calls Tryd.prog 10 #[.slice A n k] w fun e w' => e = .returned (.tuple #[fv 0 0 none 0 0, .bool false]) ∧ Below w.heap.size w w' := by
  have hI : (n : Int) < 2 := by omega
  have b1 : Below w.heap.size w (w.alloc (.cells #[.int .i64 0, .int .i64 0, .slice none 0 0] 24)) := (Below.refl _ _).alloc (Nat.le_refl _) _
  go_enter Tryd.func10, Tryd.ntmps10
  go_wp2
  refine ⟨rfl, .tuple #[fv 0 0 none 0 0, .bool false], ?_, rfl, ?_⟩
  · simp [results, go_sem, fv]
  · exact b1

theorem grown_cell {w w' : World} {row : Option Nat} (hg : w.grownBy w' row) {p : Addr} (hp : p.block < w.heap.size) (hne : some p.block ≠ row) : w'.cell? p = w.cell? p := World.cell?_of_block (hg.block p.block hp hne)
set_option maxHeartbeats 1000000 in
theorem rread_any (A : Option Addr) (x y : Int) (zs : List Int) (k : Nat) (w : World) (hI : Ints .u8 w w.heap.size A (x :: y :: zs)) (h : zs.length ≤ 100000) (hk : zs.length + 2 ≤ k) :
    Calls Tryd.prog 10 #[.slice A (zs.length + 2) k] w fun e w' => ∃ v, e = .returned (.tuple #[.agg #[.int .i64 x, .int .i64 y, v], .bool true]) ∧ Own w' w.heap.size v zs ∧ Below w.heap.size w w' := by
  obtain ⟨i0, hi0, hz0, hz1, hz2⟩ := info_parts u8_info
  obtain ⟨b, off, rfl, hb, hc⟩ := hI.2 (by simp)
  have c0 := hc 0 (by simp)
  have c1 := hc 1 (by simp)
  simp only [List.getD_cons_zero, List.getD_cons_succ] at c0 c1
  have hd := hI.drop (n := 2) (cap := k) (by simp) (by simp; omega)
  simp only [List.drop_succ_cons, List.drop_zero] at hd
  have e2 : ((some (⟨b, off, none⟩ : Addr)).map (·.add 2)) = some ⟨b, off + 2, none⟩ := rfl
  rw [e2] at hd
  obtain ⟨A2, hA2⟩ : ∃ A2, (if k = 2 then some (⟨b, off, none⟩ : Addr) else some ⟨b, off + 2, none⟩) = A2 := ⟨_, rfl⟩
  rw [hA2] at hd
  have hx := hI.1 x (by simp)
  have hy := hI.1 y (by simp)
  have wx : IntKind.i64.wrap x = x := by
    have := bounds_u8 hx
    unfold IntKind.wrap; simp [IntKind.signed, IntKind.bits]; omega
  have wy : IntKind.i64.wrap y = y := by
    have := bounds_u8 hy
    unfold IntKind.wrap; simp [IntKind.signed, IntKind.bits]; omega
  clear hx hy e2
  have HD := Lib.hid hd
  have HW := Lib.hid hI.1
  obtain ⟨n, hn⟩ : ∃ n, zs.length + 2 = n := ⟨_, rfl⟩
  have i2 : ¬ ((n : Int) < 2) := by omega
  have i3 : (2 : Int) ≤ (k : Int) := by omega
  have i4 : (0 : Int) < (n : Int) := by omega
  have i5 : (1 : Int) < (n : Int) := by omega
  have i6 : (2 : Int) ≤ (n : Int) := by omega
  have i7 : 0 < n := by omega
  have i8 : 1 < n := by omega
  have i9 : 2 ≤ n := by omega
  have i10 : n ≤ k := by omega
  rw [hn]
  have HN : Hid (zs.length = n - 2) := Lib.hid (by omega)
  have hn5 : n - 2 ≤ 100000 := by omega
  clear hc hd hI hn
  go_enter Tryd.func10, Tryd.ntmps10
  go_wp2_with fail
  have hB : Below w.heap.size w (w.alloc (.cells #[.int .i64 0, .int .i64 0, .slice none 0 0] 24)) := (Below.refl _ _).alloc (Nat.le_refl _) _
  have bF : Blk (w.alloc (.cells #[.int .i64 0, .int .i64 0, .slice none 0 0] 24)) w.heap.size 24 #[.int .i64 0, .int .i64 0, .slice none 0 0] := Blk.new w _ _
  have hs3 : (w.alloc (.cells #[.int .i64 0, .int .i64 0, .slice none 0 0] 24)).heap.size = w.heap.size + 1 := by simp
  generalize (w.alloc (.cells #[.int .i64 0, .int .i64 0, .slice none 0 0] 24)) = w3 at *
  have d0 : w3.cell? ⟨b, off, none⟩ = some (.int .u8 x) := (hB.cell (p := ⟨b, off, none⟩) hb).trans c0
  have d1 : w3.cell? ⟨b, off + 1, none⟩ = some (.int .u8 y) := (hB.cell (p := ⟨b, off + 1, none⟩) hb).trans c1
  have HR : Hid (Reads w3 w.heap.size 1 A2 (n - 2) (vals zs)) := Lib.hid (by rw [← HN.out]; exact (HD.out.below hB).reads)
  have HOW : (w3.alloc (.cells #[] 5)).ownsRow (w.heap.size + 1) 5 1 (.slice (some ⟨w.heap.size + 1, 0, none⟩) 0 0) 0 [] := by
    have := World.ownsRow_lit (e := 5) (size := 1) (base := w.heap.size + 1) w3 #[] 0 (by omega) (by unfold maxLen; omega) rfl
    rw [hs3] at this
    exact this
  have hb3 : b < w3.heap.size := by omega
  have hb4 : b < (w3.alloc (.cells #[] 5)).heap.size := by simp; omega
  have hbs : w.heap.size + 1 ≤ (w3.alloc (.cells #[] 5)).heap.size := by simp; omega
  have hbn : b ≠ w.heap.size := by omega
  have hne : some w.heap.size ≠ Value.ownBlock (.slice (some ⟨w.heap.size + 1, 0, none⟩) 0 0) := fun e => by simp [Value.ownBlock] at e; try omega
  have hnb : some b ≠ Value.ownBlock (.slice (some ⟨w.heap.size + 1, 0, none⟩) 0 0) := fun e => by simp [Value.ownBlock] at e; try omega
  have HZ : Hid (∀ u ∈ zs, (Lit.int .u8 u).wf = true) := Lib.hid (fun u hu => HW.out u (by simp [hu]))
  clear c0 c1
  go_region_held3 (fun w' => w'.cell? ⟨b, off, none⟩ = some (.int .u8 x) ∧ w'.cell? ⟨b, off + 1, none⟩ = some (.int .u8 y))
    (first | exact ⟨d0, d1⟩ | exact ⟨k0, k1⟩ | exact ⟨(far3 _ _ _ _ _ _ hbn).trans k0, (far3 _ _ _ _ _ _ hbn).trans k1⟩ | exact ⟨(World.cell?_alloc_lt _ _ _ hb3).trans d0, (World.cell?_alloc_lt _ _ _ hb3).trans d1⟩)
    (first
      | (refine step_append_any _ rfl (.tmp 16) (.tmp 18) _ rfl (w.heap.size + 1) 5 i0 _ 1 1 Tryd.underlying22 hi0 hz0 hz1 hz2 rfl (by omega) (.slice (some ⟨w.heap.size + 1, 0, none⟩) 0 0) 0 [] rfl (by exact HOW) w.heap.size A2 (n - 2) (k - 2) (vals zs) rfl (by exact HR.out.alloc hB.size _) (vals_one zs) (by unfold maxLen; omega) (by omega) (by exact hbs) ?_; intro v1 w1 hown1 hg1 hat1; rw [Nat.zero_add, List.nil_append] at hown1; obtain ⟨A3, c3, rfl, hc3, _, _, hown⟩ := own_form hown1 HZ.out; have bF4 : Blk w1 w.heap.size 24 #[.int .i64 0, .int .i64 0, .slice none 0 0] := Blk.grown (by exact Blk.alloc bF _) hg1 hne; have k0 : w1.cell? ⟨b, off, none⟩ = some (.int .u8 x) := (grown_cell hg1 (by exact hb4) hnb).trans ((World.cell?_alloc_lt _ _ _ (by exact hb3)).trans d0); have k1 : w1.cell? ⟨b, off + 1, none⟩ = some (.int .u8 y) := (grown_cell hg1 (by exact hb4) hnb).trans ((World.cell?_alloc_lt _ _ _ (by exact hb3)).trans d1); have q0 : w1.cell? ⟨w.heap.size, 0, none⟩ = some (.int .i64 0) := Blk.cell bF4 0; have q1 : w1.cell? ⟨w.heap.size, 1, none⟩ = some (.int .i64 0) := Blk.cell bF4 1; have q2 : w1.cell? ⟨w.heap.size, 2, none⟩ = some (.slice none 0 0) := Blk.cell bF4 2; have z0 := Blk.frozen bF4 0; have z1 := Blk.frozen bF4 1; have z2 := Blk.frozen bF4 2))
  have K3 : Keeps (fun b => b = w.heap.size) w1 (((w1.setCell ⟨w.heap.size, 0, none⟩ (.int .i64 x)).setCell ⟨w.heap.size, 1, none⟩ (.int .i64 y)).setCell ⟨w.heap.size, 2, none⟩ (.slice A3 zs.length c3)) :=
    (((Keeps.refl (fun b => b = w.heap.size) w1).setCell (g := w.heap.size) rfl 0 (.int .i64 x)).setCell (g := w.heap.size) rfl 1 (.int .i64 y)).setCell (g := w.heap.size) rfl 2 (.slice A3 zs.length c3)
  have bF5 := ((bF4.set_ 0 (.int .i64 x)).set_ 1 (.int .i64 y)).set_ 2 (.slice A3 zs.length c3)
  have b4 : Below w.heap.size w w1 := ((hB.alloc hB.size (.cells #[] 5)).drew).grown hg1 (by have := hbs; simp at this ⊢; omega) (fun k hk => by simp [Value.ownBlock] at hk; omega)
  generalize (((w1.setCell ⟨w.heap.size, 0, none⟩ (.int .i64 x)).setCell ⟨w.heap.size, 1, none⟩ (.int .i64 y)).setCell ⟨w.heap.size, 2, none⟩ (.slice A3 zs.length c3)) = w5 at *
  have r0 : w5.cell? ⟨w.heap.size, 0, none⟩ = some (.int .i64 x) := Blk.cell bF5 0
  have r1 : w5.cell? ⟨w.heap.size, 1, none⟩ = some (.int .i64 y) := Blk.cell bF5 1
  have r2 : w5.cell? ⟨w.heap.size, 2, none⟩ = some (.slice A3 zs.length c3) := Blk.cell bF5 2
  have hown5 := Lib.hid (own_keeps hown K3 (by intro k h1 h2; have : k = w.heap.size := h2; omega))
  have hbel : Hid (Below w.heap.size w w5) := Lib.hid (b4.trans (K3.below b4.size (by intro k h1; have : k = w.heap.size := h1; omega)))
  clear K3 bF4 bF5 q0 q1 q2 z0 z1 z2 hown k0 k1 hown1 hg1 hat1
  go_wp2
  refine ⟨rfl, .tuple #[.agg #[.int .i64 x, .int .i64 y, .slice A3 zs.length c3], .bool true], ?_, _, rfl, ?_, hbel.out⟩
  · simp [results, r0, r1, r2, go_sem]
  · have h6 := hown5.out
    rw [← HN.out] at h6
    exact ⟨own_more (B := w.heap.size + 1) h6 (Nat.le_succ _), fun u hu => HW.out u (by simp [hu])⟩

/-! What the refreshes are told by. -/
theorem nrefresh (w : World) : Calls Tryd.prog 15 #[] w fun e w' => e = .returned (.slice (some ⟨w.heap.size, 0, none⟩) 4 4) ∧ w' = w.alloc (.cells #[.int .u8 0, .int .u8 1, .int .u8 0, .int .u8 1] 5) := by
  go_enter Tryd.func15, Tryd.ntmps15
  go_wp2
  go_ret
  exact ⟨rfl, rfl⟩
theorem rrefresh (w : World) : Calls Tryd.prog 16 #[] w fun e w' => e = .returned (.slice (some ⟨w.heap.size, 0, none⟩) 4 4) ∧ w' = w.alloc (.cells #[.int .u8 0, .int .u8 1, .int .u8 0, .int .u8 1] 5) := by
  go_enter Tryd.func16, Tryd.ntmps16
  go_wp2
  go_ret
  exact ⟨rfl, rfl⟩
theorem refreshes_other (A : Option Addr) (n k : Nat) (w : World) (h : n ≠ 4) :
    Calls Tryd.prog 13 #[.slice A n k] w fun e w' => e = .returned (.bool false) ∧ w = w' := by
  have hI : ((n : Int) == 4) = false := by simp; omega
  have hJ : ¬ (n : Int) = 4 := by omega
  go_enter Tryd.func13, Tryd.ntmps13
  go_wp2
  go_ret
  exact ⟨rfl, rfl⟩
theorem rrefreshes_other (A : Option Addr) (n k : Nat) (w : World) (h : n ≠ 4) :
    Calls Tryd.prog 14 #[.slice A n k] w fun e w' => e = .returned (.bool false) ∧ w = w' := by
  have hI : ((n : Int) == 4) = false := by simp; omega
  have hJ : ¬ (n : Int) = 4 := by omega
  go_enter Tryd.func14, Tryd.ntmps14
  go_wp2
  go_ret
  exact ⟨rfl, rfl⟩
/-- Are four bytes a refresh? -/
def isRefresh (p q r s : Int) : Bool := decide (p = 0 ∧ q = 1 ∧ s = 1)
theorem rrefreshes_4 (b off : Nat) (p q r s : Int) (k : Nat) (w : World) (c0 : w.cell? ⟨b, off, none⟩ = some (.int .u8 p)) (c1 : w.cell? ⟨b, off + 1, none⟩ = some (.int .u8 q)) (c3 : w.cell? ⟨b, off + 3, none⟩ = some (.int .u8 s)) :
    Calls Tryd.prog 14 #[.slice (some ⟨b, off, none⟩) 4 k] w fun e w' => e = .returned (.bool (isRefresh p q r s)) ∧ w = w' := by
  by_cases hp : p = 0
  · by_cases hq : q = 1
    · by_cases hs : s = 1
      · subst hp hq hs
        go_enter Tryd.func14, Tryd.ntmps14
        go_wp2
        go_ret
        exact ⟨rfl, rfl⟩
      · have hs2 : (s == 1) = false := by simp [hs]
        subst hp hq
        go_enter Tryd.func14, Tryd.ntmps14
        go_wp2
        go_ret
        exact ⟨by simp [isRefresh, hs], rfl⟩
    · have hq2 : (q == 1) = false := by simp [hq]
      subst hp
      go_enter Tryd.func14, Tryd.ntmps14
      go_wp2
      go_ret
      exact ⟨by simp [isRefresh, hq], rfl⟩
  · have hp2 : (p == 0) = false := by simp [hp]
    go_enter Tryd.func14, Tryd.ntmps14
    go_wp2
    go_ret
    exact ⟨by simp [isRefresh, hp], rfl⟩
theorem refreshes_4 (b off : Nat) (p q r s : Int) (k : Nat) (hk : 4 ≤ k) (w : World) (hb : b < w.heap.size) (c0 : w.cell? ⟨b, off, none⟩ = some (.int .u8 p)) (c1 : w.cell? ⟨b, off + 1, none⟩ = some (.int .u8 q)) (c2 : w.cell? ⟨b, off + 2, none⟩ = some (.int .u8 r)) (c3 : w.cell? ⟨b, off + 3, none⟩ = some (.int .u8 s)) :
    Calls Tryd.prog 13 #[.slice (some ⟨b, off, none⟩) 4 k] w fun e w' => e = .returned (.bool (isRefresh p q r s)) ∧ Below w.heap.size w w' := by
  have hq : ∀ W : World, (binOp .eql 39 (.agg #[.int .u8 p, .int .u8 q, .int .u8 0, .int .u8 s]) (.agg #[.int .u8 0, .int .u8 1, .int .u8 0, .int .u8 1])).run Tryd.prog W = .ok (.bool (isRefresh p q r s)) W := fun W => by
    have := run_eql_ints W .u8 39 5 4 Tryd.underlying39 Tryd.underlying5 (fun _ => Tryd.sizeOf5 _) [p, q, 0, s] [0, 1, 0, 1] rfl rfl
    have e : ([p, q, 0, s] == [0, 1, 0, 1]) = isRefresh p q r s := by
      unfold isRefresh
      rw [Bool.eq_iff_iff]
      simp
    rw [e] at this
    exact this
  have ha : ∀ (W : World) (A : Option Addr) (c : Nat), (Instr.arrayAt 39 (.slice A 4 c)).run Tryd.prog W = .ok (.pointer A) W := fun W A c => run_arrayAt W _ 5 4 A 4 c Tryd.underlying39 (by omega)
  go_enter Tryd.func13, Tryd.ntmps13
  go_wp2_with fail
  have hB : Below w.heap.size w (w.alloc (.cells #[.int .u8 p, .int .u8 q, .int .u8 0, .int .u8 s] 39)) := (Below.refl _ _).alloc (Nat.le_refl _) _
  have bF : Blk (w.alloc (.cells #[.int .u8 p, .int .u8 q, .int .u8 0, .int .u8 s] 39)) w.heap.size 39 #[.int .u8 p, .int .u8 q, .int .u8 0, .int .u8 s] := Blk.new w _ _
  have hs3 : (w.alloc (.cells #[.int .u8 p, .int .u8 q, .int .u8 0, .int .u8 s] 39)).heap.size = w.heap.size + 1 := by simp
  generalize (w.alloc (.cells #[.int .u8 p, .int .u8 q, .int .u8 0, .int .u8 s] 39)) = w3 at *
  have d0 : w3.cell? ⟨w.heap.size, 0, none⟩ = some (.int .u8 p) := Blk.cell bF 0
  have d1 : w3.cell? ⟨w.heap.size, 1, none⟩ = some (.int .u8 q) := Blk.cell bF 1
  have d2 : w3.cell? ⟨w.heap.size, 2, none⟩ = some (.int .u8 0) := Blk.cell bF 2
  have d3 : w3.cell? ⟨w.heap.size, 3, none⟩ = some (.int .u8 s) := Blk.cell bF 3
  have hl : w.heap.size < w3.heap.size := by omega
  have hb4 : Below w.heap.size w (w3.alloc (.cells #[.int .u8 0, .int .u8 1, .int .u8 0, .int .u8 1] 5)) := hB.alloc (by omega) _
  clear c0 c1 c2 c3
  go_region_with (go_at_call 15; refine (nrefresh _).mono ?_; rintro e w4 ⟨rfl, rfl⟩)
  all_goals (go_wp2; go_ret; exact ⟨rfl, hb4.drew⟩)
theorem refreshes_any (A : Option Addr) (zs : List Int) (k : Nat) (w : World) (h : Ints .u8 w w.heap.size A zs) (hk : zs.length ≤ k) :
    Calls Tryd.prog 13 #[.slice A zs.length k] w fun e w' => e = .returned (.bool (zs.length == 4 && isRefresh (zs.getD 0 0) (zs.getD 1 0) (zs.getD 2 0) (zs.getD 3 0))) ∧ Below w.heap.size w w' := by
  by_cases h4 : zs.length = 4
  · obtain ⟨b, off, rfl, hb, hc⟩ := h.2 (by intro e; rw [e] at h4; simp at h4)
    rw [h4] at hc hk ⊢
    have c0 := hc 0 (by omega)
    exact (refreshes_4 b off (zs.getD 0 0) (zs.getD 1 0) (zs.getD 2 0) (zs.getD 3 0) k hk w hb (by simpa using c0) (hc 1 (by omega)) (hc 2 (by omega)) (hc 3 (by omega))).mono fun _ _ ⟨he, hbel⟩ => ⟨by simpa using he, hbel⟩
  · refine (refreshes_other A zs.length k w h4).mono ?_
    rintro e w' ⟨rfl, rfl⟩
    exact ⟨by simp [h4], Below.refl _ _⟩
theorem rrefreshes_any (A : Option Addr) (zs : List Int) (k : Nat) (w : World) (h : Ints .u8 w w.heap.size A zs) :
    Calls Tryd.prog 14 #[.slice A zs.length k] w fun e w' => e = .returned (.bool (zs.length == 4 && isRefresh (zs.getD 0 0) (zs.getD 1 0) (zs.getD 2 0) (zs.getD 3 0))) ∧ w = w' := by
  by_cases h4 : zs.length = 4
  · obtain ⟨b, off, rfl, hb, hc⟩ := h.2 (by intro e; rw [e] at h4; simp at h4)
    rw [h4] at hc ⊢
    have c0 := hc 0 (by omega)
    exact (rrefreshes_4 b off (zs.getD 0 0) (zs.getD 1 0) (zs.getD 2 0) (zs.getD 3 0) k w (by simpa using c0) (hc 1 (by omega)) (hc 3 (by omega))).mono fun _ _ ⟨he, hbel⟩ => ⟨by simpa using he, hbel⟩
  · refine (rrefreshes_other A zs.length k w h4).mono ?_
    rintro e w' ⟨rfl, rfl⟩
    exact ⟨by simp [h4], rfl⟩
end Go.Proofs.YtfjjmhiogfimjaaDoor
