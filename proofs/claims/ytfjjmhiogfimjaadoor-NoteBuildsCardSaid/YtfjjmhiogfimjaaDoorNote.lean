/- What faults come to as bytes and back, and a fault's name. Conditions: a fault's data are cells of memory; at most 100000 of them. -/
import Derived.Test.YtfjjmhiogfimjaaDoorBytes
import Derived.Lib.SliceRun
import Derived.Deep.RegionHeld3
import Derived.Laws.MakeOwn
set_option linter.unusedVariables false
set_option linter.unusedSimpArgs false
namespace Go.Proofs.YtfjjmhiogfimjaaDoor
open Go.RowKit

theorem clone_any (A : Option Addr) (zs : List Int) (c : Nat) (w : World) (h : Ints .u8 w w.heap.size A zs) (hn : zs.length ≤ 100000) :
    Calls Tryd.prog 20 #[.slice A zs.length c] w fun e w' => ∃ v, e = .returned v ∧ w'.ownsRow w.heap.size 5 1 v zs.length (vals zs) ∧ Below w.heap.size w w' := by
  obtain ⟨i0, hi0, hz0, hz1, hz2⟩ := info_parts u8_info
  have q : ∀ (w : World) (a : Option Addr) (n c n' c' : Nat), (binOp .eql 22 (.slice a n c) (.slice none n' c')).run Tryd.prog w = .ok (.bool a.isNone) w := fun w a n c n' c' => Lib.run_eql_slice_nil w _ _ a n c n' c' Tryd.underlying22
  cases A with
  | none =>
    have hz : zs = [] := by
      rcases zs with _ | ⟨a, r⟩
      · rfl
      · obtain ⟨b, off, e, _⟩ := h.2 (by simp); cases e
    subst hz
    clear h hn
    go_enter Tryd.func20, Tryd.ntmps20
    go_wp2
    go_ret
    exact ⟨_, rfl, ⟨rfl, .inl ⟨rfl, rfl⟩⟩, Below.refl _ _⟩
  | some a =>
    have HB := Lib.hid h
    clear h
    go_enter Tryd.func20, Tryd.ntmps20
    have hown0 : (w.alloc (.cells #[] 5)).ownsRow w.heap.size 5 1 (.slice (some ⟨w.heap.size, 0, none⟩) 0 0) 0 [] := World.ownsRow_lit w #[] 0 (Nat.le_refl _) (by unfold maxLen; omega) rfl
    go_wp2_with (at_builtin; refine wpList_append_any _ rfl (.tmp 5) (.tmp 6) _ rfl w.heap.size 5 i0 _ 1 1 Tryd.underlying22 hi0 hz0 hz1 hz2 rfl (by omega) (.slice (some ⟨w.heap.size, 0, none⟩) 0 0) 0 [] rfl hown0 w.heap.size (some a) zs.length c (vals zs) rfl (HB.out.reads.alloc (Nat.le_refl _) _) (vals_one zs) (by unfold maxLen; omega) (by omega) (by simp) ?_; intro v1 w1 hown1 hg1 hat1)
    go_ret
    refine ⟨v1, rfl, by simpa using hown1, (((Below.refl _ _).alloc (Nat.le_refl _) _).grown hg1 (by simp) (fun k hk => ?_))⟩
    simp [Value.ownBlock] at hk
    omega

theorem clone_n (A : Option Addr) (zs : List Int) (n c : Nat) (w : World) (h : Ints .u8 w w.heap.size A zs) (hn : zs.length ≤ 100000) (hl : zs.length = n) :
    Calls Tryd.prog 20 #[.slice A n c] w fun e w' => ∃ A3 c3, e = .returned (.slice A3 n c3) ∧ n ≤ c3 ∧ w'.ownsRow w.heap.size 5 1 (.slice A3 n c3) n (vals zs) ∧ Below w.heap.size w w' := by
  subst hl
  refine (clone_any A zs c w h hn).mono ?_
  rintro e w' ⟨v, rfl, hown, hb⟩
  obtain ⟨A3, c3, rfl, hc3, _, _, hown3⟩ := own_form hown h.1
  exact ⟨A3, c3, rfl, hc3, hown3, hb⟩
/-- A slice of the call's own of bytes. -/
def Own (w : World) (B : Nat) (v : Value) (zs : List Int) : Prop := w.ownsRow B 5 1 v zs.length (vals zs) ∧ ∀ x ∈ zs, (Lit.int .u8 x).wf = true

theorem own_made (w : World) (n : Nat) (cs : Array Value) (hs : cs.size = n) (hn : n ≤ maxLen) (zs : List Int) (hz : cs.toList = vals zs) : (w.alloc (.cells cs 5)).ownsRow w.heap.size 5 1 (.slice (some ⟨w.heap.size, 0, none⟩) n n) zs.length (vals zs) := by
  have hl : zs.length = n := by have := congrArg List.length hz; simp [vals] at this; omega
  refine ⟨by simp [vals], .inr ⟨w.heap.size, n, cs, by rw [hl], Nat.le_refl _, heap_alloc_new w _, by omega, hn, by omega, ?_⟩⟩
  rw [hz, Nat.mul_one]
  exact List.take_of_length_le (by simp [vals])
theorem own_more {w : World} {B B' : Nat} {e : TypeId} {size n : Nat} {v : Value} {xs : List Value} (h : w.ownsRow B e size v n xs) (hB : B' ≤ B) : w.ownsRow B' e size v n xs := by
  refine ⟨h.1, ?_⟩
  rcases h.2 with h2 | ⟨g, cap, cur, hv, hb, hr⟩
  · exact .inl h2
  · exact .inr ⟨g, cap, cur, hv, by omega, hr⟩
theorem made_zeros (n : Nat) : (madeCells #[.int .u8 0] n).toList = vals (List.replicate n 0) := by
  unfold vals; rw [List.map_replicate, ← toList_madeCells_one]
theorem made_zeros_size (n : Nat) : (madeCells #[.int .u8 0] n).size = n := by rw [← Array.length_toList, made_zeros]; simp [vals]
theorem data_any (A : Option Addr) (zs : List Int) (c : Nat) (w : World) (h : Ints .u8 w w.heap.size A zs) (hm : zs.length ≤ maxLen) (hc : zs.length ≤ c) :
    Calls Tryd.prog 5 #[.slice A zs.length c] w fun e w' => ∃ v xs, e = .returned v ∧ Own w' w.heap.size v xs ∧ xs.length ≤ 4076 ∧ Below w.heap.size w w' := by
  obtain ⟨i0, hi0, hz0, hz1, hz2⟩ := info_parts u8_info
  unfold maxLen at hm
  by_cases hl : 4075 < zs.length
  · have hlI : (4075 : Int) < (zs.length : Int) := by omega
    have mk : ∀ W : World, (Instr.makeSlice 22 (.int .i64 4076) (.int .i64 4076)).run Tryd.prog W = .ok (.slice (some ⟨W.heap.size, 0, none⟩) 4076 4076) (W.alloc (.cells (madeCells #[.int .u8 0] 4076) 5)) := fun W => by
      have := run_makeSlice (P := Tryd.prog) W 22 5 i0 _ Tryd.underlying22 hi0 hz0 .i64 .i64 4076 4076 (by omega) (by omega) (by rw [hz1]; omega) (by rw [hz2]; omega) (by omega)
      rw [hz1] at this; simpa [Value.cells] using this
    have hms := made_zeros 4076
    have hsz := made_zeros_size 4076
    have HM := Lib.hid hms
    have HS := Lib.hid hsz
    clear hms hsz
    generalize madeCells #[.int .u8 0] 4076 = made at *
    clear h
    go_enter Tryd.func5, Tryd.ntmps5
    go_wp2
    go_ret
    exact ⟨_, List.replicate 4076 0, rfl, ⟨own_made w 4076 made HS.out (by unfold maxLen; omega) _ HM.out, fun x hx => by rw [List.eq_of_mem_replicate hx]; rfl⟩, by rw [List.length_replicate]; exact Nat.le_refl _, (Below.refl _ _).alloc (Nat.le_refl _) _⟩
  · obtain ⟨xs, hxs⟩ : ∃ xs, zs.take 200 = xs := ⟨_, rfl⟩
    obtain ⟨n, hn⟩ : ∃ n, xs.length = n := ⟨_, rfl⟩
    have hn' := hn
    rw [← hxs, List.length_take] at hn'
    have hmin : (if 200 < (zs.length : Int) then (200 : Int) else (zs.length : Int)) = (n : Int) := by split <;> omega
    have hncap : (n : Int) ≤ (c : Int) := by omega
    have hlI : ¬ (4075 : Int) < (zs.length : Int) := by omega
    have h2 := h.take 200
    rw [hxs] at h2
    have hb := bytes_any A xs c w h2 (by omega)
    rw [hn] at hb
    have HB := Lib.hid hb
    have HX := Lib.hid h2
    have HN := Lib.hid hn
    have hn3 : n ≤ 200 := by omega
    clear h h2 hb hn' hxs hn
    go_enter Tryd.func5, Tryd.ntmps5
    go_wp2_with fail
    refine HB.out.mono ?_
    rintro e w' ⟨v, rfl, hown, hbel⟩
    go_wp2
    go_ret
    exact ⟨v, xs, rfl, ⟨by rw [HN.out]; exact hown, HX.out.1⟩, by rw [HN.out]; omega, hbel⟩
/-- A fault as a value. -/
def fv (c s : Int) (A : Option Addr) (n k : Nat) : Value := .agg #[.int .i64 c, .int .i64 s, .slice A n k]

theorem nbuild_bad (c s : Int) (A : Option Addr) (n k : Nat) (w : World) (h : c < 0 ∨ 255 < c ∨ s < 0 ∨ 255 < s) :
    Calls Tryd.prog 6 #[fv c s A n k] w fun e w' => e = .returned (.tuple #[.slice none 0 0, .int .i64 2]) ∧ Below w.heap.size w w' := by
  unfold fv
  by_cases h1 : c < 0
  · go_enter Tryd.func6, Tryd.ntmps6
    go_wp2
    go_ret2
    exact ⟨rfl, (Below.refl _ _).alloc (Nat.le_refl _) _⟩
  · by_cases h2 : 255 < c
    · go_enter Tryd.func6, Tryd.ntmps6
      go_wp2
      go_ret2
      exact ⟨rfl, (Below.refl _ _).alloc (Nat.le_refl _) _⟩
    · by_cases h3 : s < 0
      · go_enter Tryd.func6, Tryd.ntmps6
        go_wp2
        go_ret2
        exact ⟨rfl, (Below.refl _ _).alloc (Nat.le_refl _) _⟩
      · have h4 : 255 < s := by omega
        go_enter Tryd.func6, Tryd.ntmps6
        go_wp2
        go_ret2
        exact ⟨rfl, (Below.refl _ _).alloc (Nat.le_refl _) _⟩

theorem nbuild_long (c s : Int) (A : Option Addr) (n k : Nat) (w : World) (h1 : 0 ≤ c) (h2 : c ≤ 255) (h3 : 0 ≤ s) (h4 : s ≤ 255) (h : 4075 < n) :
    Calls Tryd.prog 6 #[fv c s A n k] w fun e w' => e = .returned (.tuple #[.slice none 0 0, .int .i64 3]) ∧ Below w.heap.size w w' := by
  unfold fv
  have i1 : ¬ c < 0 := by omega
  have i2 : ¬ 255 < c := by omega
  have i3 : ¬ s < 0 := by omega
  have i4 : ¬ 255 < s := by omega
  have i5 : (4075 : Int) < (n : Int) := by omega
  go_enter Tryd.func6, Tryd.ntmps6
  go_wp2
  go_ret2
  exact ⟨rfl, (Below.refl _ _).alloc (Nat.le_refl _) _⟩

theorem nbuild_ok (c s : Int) (A : Option Addr) (zs : List Int) (k : Nat) (w : World) (h1 : 0 ≤ c) (h2 : c ≤ 255) (h3 : 0 ≤ s) (h4 : s ≤ 255) (h : zs.length ≤ 4075) (hI : Ints .u8 w w.heap.size A zs) :
    Calls Tryd.prog 6 #[fv c s A zs.length k] w fun e w' => ∃ v, e = .returned (.tuple #[v, .int .i64 0]) ∧ Own w' w.heap.size v (c :: s :: zs) ∧ Below w.heap.size w w' := by
  unfold fv
  obtain ⟨i0, hi0, hz0, hz1, hz2⟩ := info_parts u8_info
  have i1 : ¬ c < 0 := by omega
  have i2 : ¬ 255 < c := by omega
  have i3 : ¬ s < 0 := by omega
  have i4 : ¬ 255 < s := by omega
  have i5 : ¬ (4075 : Int) < (zs.length : Int) := by omega
  have HI := Lib.hid hI
  clear hI
  have hown0 : ((w.alloc (.cells #[.int .i64 c, .int .i64 s, .slice A zs.length k] 24)).alloc (.cells #[.int .u8 c, .int .u8 s] 5)).ownsRow (w.heap.size + 1) 5 1 (.slice (some ⟨w.heap.size + 1, 0, none⟩) 2 2) 2 [.int .u8 c, .int .u8 s] := by
    simpa using World.ownsRow_lit (e := 5) (size := 1) (base := w.heap.size + 1) (w.alloc (.cells #[.int .i64 c, .int .i64 s, .slice A zs.length k] 24)) #[.int .u8 c, .int .u8 s] 2 (by simp) (by unfold maxLen; omega) rfl
  have i6 : c % 256 = c := by omega
  have i7 : s % 256 = s := by omega
  go_enter Tryd.func6, Tryd.ntmps6
  go_wp2_with (at_builtin; refine wpList_append_any _ rfl (.tmp 34) (.tmp 36) _ rfl (w.heap.size + 1) 5 i0 _ 1 1 Tryd.underlying22 hi0 hz0 hz1 hz2 rfl (by omega) (.slice (some ⟨w.heap.size + 1, 0, none⟩) 2 2) 2 [.int .u8 c, .int .u8 s] rfl hown0 w.heap.size A zs.length k (vals zs) rfl ((HI.out.reads.alloc (Nat.le_refl _) _).alloc (by simp) _) (vals_one zs) (by unfold maxLen; omega) (by omega) (by simp) ?_; intro v1 w1 hown1 hg1 hat1)
  go_ret2
  refine ⟨v1, rfl, ⟨?_, ?_⟩, ?_⟩
  · have := own_more (B' := w.heap.size) hown1 (by omega)
    have e : (c :: s :: zs).length = 2 + zs.length := by simp; omega
    rw [e]
    simpa [vals] using this
  · intro x hx
    simp at hx
    rcases hx with rfl | rfl | hx
    · simp [Lit.wf, IntKind.min, IntKind.max, IntKind.signed, IntKind.bits]; omega
    · simp [Lit.wf, IntKind.min, IntKind.max, IntKind.signed, IntKind.bits]; omega
    · exact HI.out.1 x hx
  · refine ((((Below.refl _ _).alloc (Nat.le_refl _) _).alloc (by simp) _).grown hg1 (by simp; omega) (fun k hk => ?_))
    simp [Value.ownBlock] at hk
    omega

theorem far3 (w : World) (g b o : Nat) (u v : Value) {x : Value} (h : b ≠ g) :
    (((w.setCell ⟨g, 0, none⟩ u).setCell ⟨g, 1, none⟩ v).setCell ⟨g, 2, none⟩ x).cell? ⟨b, o, none⟩ = w.cell? ⟨b, o, none⟩ := by
  have hn : ∀ i : Nat, (⟨g, i, none⟩ : Addr) ≠ ⟨b, o, none⟩ := fun i e => h (by injection e with e1; exact e1.symm)
  rw [World.cell?_setCell_other _ _ _ _ (hn 2), World.cell?_setCell_other _ _ _ _ (hn 1), World.cell?_setCell_other _ _ _ _ (hn 0)]
set_option maxHeartbeats 1000000 in
/-- Bytes as a fault. -/
theorem nread_any (A : Option Addr) (x y : Int) (zs : List Int) (k : Nat) (w : World) (hI : Ints .u8 w w.heap.size A (x :: y :: zs)) (h : zs.length ≤ 100000) (hk : zs.length + 2 ≤ k) :
    Calls Tryd.prog 8 #[.slice A (zs.length + 2) k] w fun e w' => ∃ v, e = .returned (.tuple #[.agg #[.int .i64 x, .int .i64 y, v], .bool true]) ∧ Own w' w.heap.size v zs ∧ Below w.heap.size w w' := by
  obtain ⟨b, off, rfl, hb, hc⟩ := hI.2 (by simp)
  have c0 := hc 0 (by simp)
  have c1 := hc 1 (by simp)
  simp only [List.getD_cons_zero, List.getD_cons_succ] at c0 c1
  have hd := hI.drop (n := 2) (cap := k) (by simp) (by simp; omega)
  simp only [List.drop_succ_cons, List.drop_zero] at hd
  have e2 : ((some (⟨b, off, none⟩ : Addr)).map (·.add 2)) = some ⟨b, off + 2, none⟩ := rfl
  rw [e2] at hd
  obtain ⟨A2, hA2⟩ : ∃ A2, (if k = 2 then some (⟨b, off, none⟩ : Addr) else some ⟨b, off + 2, none⟩) = A2 := ⟨_, rfl⟩
  rw [hA2] at hd
  have hx := hI.1 x (by simp)
  have hy := hI.1 y (by simp)
  have wx : IntKind.i64.wrap x = x := by
    have := bounds_u8 hx
    unfold IntKind.wrap; simp [IntKind.signed, IntKind.bits]; omega
  have wy : IntKind.i64.wrap y = y := by
    have := bounds_u8 hy
    unfold IntKind.wrap; simp [IntKind.signed, IntKind.bits]; omega
  clear hx hy e2
  have HD := Lib.hid hd
  have HW := Lib.hid hI.1
  obtain ⟨n, hn⟩ : ∃ n, zs.length + 2 = n := ⟨_, rfl⟩
  have i2 : ¬ ((n : Int) < 2) := by omega
  have i3 : (2 : Int) ≤ (k : Int) := by omega
  have i4 : (0 : Int) < (n : Int) := by omega
  have i5 : (1 : Int) < (n : Int) := by omega
  have i6 : (2 : Int) ≤ (n : Int) := by omega
  have i7 : 0 < n := by omega
  have i8 : 1 < n := by omega
  have i9 : 2 ≤ n := by omega
  have i10 : n ≤ k := by omega
  rw [hn]
  have HN : Hid (zs.length = n - 2) := Lib.hid (by omega)
  clear hc hd hI hn
  go_enter Tryd.func8, Tryd.ntmps8
  go_wp2_with fail
  have hB : Below w.heap.size w (w.alloc (.cells #[.int .i64 0, .int .i64 0, .slice none 0 0] 24)) := (Below.refl _ _).alloc (Nat.le_refl _) _
  have bF : Blk (w.alloc (.cells #[.int .i64 0, .int .i64 0, .slice none 0 0] 24)) w.heap.size 24 #[.int .i64 0, .int .i64 0, .slice none 0 0] := Blk.new w _ _
  have hs3 : (w.alloc (.cells #[.int .i64 0, .int .i64 0, .slice none 0 0] 24)).heap.size = w.heap.size + 1 := by simp
  generalize (w.alloc (.cells #[.int .i64 0, .int .i64 0, .slice none 0 0] 24)) = w3 at *
  have d0 : w3.cell? ⟨b, off, none⟩ = some (.int .u8 x) := (hB.cell (p := ⟨b, off, none⟩) hb).trans c0
  have d1 : w3.cell? ⟨b, off + 1, none⟩ = some (.int .u8 y) := (hB.cell (p := ⟨b, off + 1, none⟩) hb).trans c1
  have HD3 := Lib.hid ((HD.out.below hB).more hB.size)
  have hb3 : b < w3.heap.size := by omega
  have hbn : b ≠ w.heap.size := by omega
  have hs4 : w.heap.size < w3.heap.size := by omega
  clear c0 c1
  go_region_held3 (fun w' => w'.cell? ⟨b, off, none⟩ = some (.int .u8 x) ∧ w'.cell? ⟨b, off + 1, none⟩ = some (.int .u8 y))
    (first | exact ⟨d0, d1⟩ | exact ⟨(hb4.cell (p := ⟨b, off, none⟩) hb3).trans d0, (hb4.cell (p := ⟨b, off + 1, none⟩) hb3).trans d1⟩ | exact ⟨(far3 _ _ _ _ _ _ hbn).trans ((hb4.cell (p := ⟨b, off, none⟩) hb3).trans d0), (far3 _ _ _ _ _ _ hbn).trans ((hb4.cell (p := ⟨b, off + 1, none⟩) hb3).trans d1)⟩)
    (first
      | (go_at_call 20; refine (clone_n A2 zs (n - 2) (k - 2) _ (by exact HD3.out) h HN.out).mono ?_; rintro e w4 ⟨A3, c3, rfl, hc3, hown, hb4⟩; have bF4 := Blk.below (w := w3.drew) (g := w.heap.size) (Blk.drew bF) hb4 hs4; have q0 : w4.cell? ⟨w.heap.size, 0, none⟩ = some (.int .i64 0) := Blk.cell bF4 0; have q1 : w4.cell? ⟨w.heap.size, 1, none⟩ = some (.int .i64 0) := Blk.cell bF4 1; have q2 : w4.cell? ⟨w.heap.size, 2, none⟩ = some (.slice none 0 0) := Blk.cell bF4 2; have z0 := Blk.frozen bF4 0; have z1 := Blk.frozen bF4 1; have z2 := Blk.frozen bF4 2))
  have K3 : Keeps (fun b => b = w.heap.size) w4 (((w4.setCell ⟨w.heap.size, 0, none⟩ (.int .i64 x)).setCell ⟨w.heap.size, 1, none⟩ (.int .i64 y)).setCell ⟨w.heap.size, 2, none⟩ (.slice A3 (n - 2) c3)) :=
    (((Keeps.refl (fun b => b = w.heap.size) w4).setCell (g := w.heap.size) rfl 0 (.int .i64 x)).setCell (g := w.heap.size) rfl 1 (.int .i64 y)).setCell (g := w.heap.size) rfl 2 (.slice A3 (n - 2) c3)
  have bF5 := ((bF4.set_ 0 (.int .i64 x)).set_ 1 (.int .i64 y)).set_ 2 (.slice A3 (n - 2) c3)
  generalize (((w4.setCell ⟨w.heap.size, 0, none⟩ (.int .i64 x)).setCell ⟨w.heap.size, 1, none⟩ (.int .i64 y)).setCell ⟨w.heap.size, 2, none⟩ (.slice A3 (n - 2) c3)) = w5 at *
  have r0 : w5.cell? ⟨w.heap.size, 0, none⟩ = some (.int .i64 x) := Blk.cell bF5 0
  have r1 : w5.cell? ⟨w.heap.size, 1, none⟩ = some (.int .i64 y) := Blk.cell bF5 1
  have r2 : w5.cell? ⟨w.heap.size, 2, none⟩ = some (.slice A3 (n - 2) c3) := Blk.cell bF5 2
  have hown5 := Lib.hid (own_keeps hown K3 (by intro k h1 h2; have : w3.heap.size ≤ k := h1; omega))
  have hbel : Hid (Below w.heap.size w w5) := Lib.hid ((hB.drew.trans (hb4.mono hB.size)).trans (K3.below (by have := hb4.size; exact Nat.le_trans hB.size this) (by intro k h1; have : k = w.heap.size := h1; omega)))
  clear K3 bF4 bF5 q0 q1 q2 z0 z1 z2 hown
  go_wp2
  refine ⟨rfl, .tuple #[.agg #[.int .i64 x, .int .i64 y, .slice A3 (n - 2) c3], .bool true], ?_, _, rfl, ?_, hbel.out⟩
  · simp [results, r0, r1, r2, go_sem]
  · refine ⟨?_, fun u hu => HW.out u (by simp [hu])⟩
    rw [HN.out]
    exact own_more hown5.out (by exact hB.size)
end Go.Proofs.YtfjjmhiogfimjaaDoor
