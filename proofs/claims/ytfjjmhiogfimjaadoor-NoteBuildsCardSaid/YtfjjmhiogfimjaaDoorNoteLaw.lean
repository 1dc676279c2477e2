/- What the law function NoteBack comes to: true, whatever the fault; nothing that was there is changed. Conditions: the fault's data are cells of memory, and the names' table holds what its initialiser lays. -/
import Derived.Test.YtfjjmhiogfimjaaDoorNote
set_option linter.unusedVariables false
set_option linter.unusedSimpArgs false
namespace Go.Proofs.YtfjjmhiogfimjaaDoor
open Go.RowKit

theorem small_2 (w : World) : Calls Tryd.prog 25 #[.int .i64 2] w fun e w' => e = .returned (.string ⟨#[50]⟩) ∧ w = w' := by
  go_enter Tryd.func25, Tryd.ntmps25
  go_wp2
  go_ret
  exact ⟨rfl, rfl⟩
theorem format_2 (w : World) : Calls Tryd.prog 24 #[.int .i64 2, .int .i64 10] w fun e w' => e = .returned (.string ⟨#[50]⟩) ∧ w = w' := by
  go_enter Tryd.func24, Tryd.ntmps24
  go_wp2_with (go_at_call 25; refine (small_2 _).mono ?_; rintro e w' ⟨rfl, rfl⟩)
  go_ret
  exact ⟨rfl, rfl⟩
theorem iitoa_2 (w : World) : Calls Tryd.prog 23 #[.int .i64 2] w fun e w' => e = .returned (.string ⟨#[50]⟩) ∧ w = w' := by
  go_enter Tryd.func23, Tryd.ntmps23
  go_wp2_with (go_at_call 24; refine (format_2 _).mono ?_; rintro e w' ⟨rfl, rfl⟩)
  go_ret
  exact ⟨rfl, rfl⟩
theorem itoa_2 (w : World) : Calls Tryd.prog 21 #[.int .i64 2] w fun e w' => e = .returned (.string ⟨#[50]⟩) ∧ w = w' := by
  go_enter Tryd.func21, Tryd.ntmps21
  go_wp2_with (go_at_call 23; refine (iitoa_2 _).mono ?_; rintro e w' ⟨rfl, rfl⟩)
  go_ret
  exact ⟨rfl, rfl⟩

/-- The names' table, as its initialiser lays it. -/
structure Names (w : World) : Prop where
  c0 : w.cell? ⟨0, 0, none⟩ = some (.string ⟨#[117, 110, 107, 110, 111, 119, 110]⟩)
  c1 : w.cell? ⟨0, 1, none⟩ = some (.string ⟨#[104, 101, 97, 100, 101, 114]⟩)
  c2 : w.cell? ⟨0, 2, none⟩ = some (.string ⟨#[111, 112, 101, 110]⟩)
  c3 : w.cell? ⟨0, 3, none⟩ = some (.string ⟨#[117, 112, 100, 97, 116, 101]⟩)
  c4 : w.cell? ⟨0, 4, none⟩ = some (.string ⟨#[104, 111, 108, 100]⟩)
  c5 : w.cell? ⟨0, 5, none⟩ = some (.string ⟨#[115, 116, 97, 116, 101]⟩)
  c6 : w.cell? ⟨0, 6, none⟩ = some (.string ⟨#[99, 101, 97, 115, 101]⟩)
theorem Names.below {w w' : World} (h : Names w) (hb : Below w.heap.size w w') : Names w' := by
  have h0 : 0 < w.heap.size := block_lt h.c0
  exact ⟨(hb.cell (p := ⟨0, 0, none⟩) h0).trans h.c0, (hb.cell (p := ⟨0, 1, none⟩) h0).trans h.c1, (hb.cell (p := ⟨0, 2, none⟩) h0).trans h.c2, (hb.cell (p := ⟨0, 3, none⟩) h0).trans h.c3,
    (hb.cell (p := ⟨0, 4, none⟩) h0).trans h.c4, (hb.cell (p := ⟨0, 5, none⟩) h0).trans h.c5, (hb.cell (p := ⟨0, 6, none⟩) h0).trans h.c6⟩

theorem name_62 (w : World) (h : Names w) : Calls Tryd.prog 17 #[.agg #[.int .i64 6, .int .i64 2, .slice none 0 0]] w fun e w' => e = .returned (.string ⟨#[99, 101, 97, 115, 101, 32, 50]⟩) ∧ Below w.heap.size w w' := by
  have hb : Below w.heap.size w (w.alloc (.cells #[.int .i64 6, .int .i64 2, .slice none 0 0] 24)) := (Below.refl _ _).alloc (Nat.le_refl _) _
  have h2 := h.below hb
  have c0 := h2.c0
  have c6 := h2.c6
  clear h h2
  go_enter Tryd.func17, Tryd.ntmps17
  go_wp2_with (go_at_call 21; refine (itoa_2 _).mono ?_; rintro e w' ⟨rfl, rfl⟩)
  go_ret
  exact ⟨rfl, hb⟩
theorem works_any (w : World) (h : Names w) : Calls Tryd.prog 19 #[] w fun e w' => e = .returned (.bool true) ∧ Below w.heap.size w w' := by
  go_enter Tryd.func19, Tryd.ntmps19
  go_wp2_with (go_at_call 17; refine (name_62 _ h).mono ?_; rintro e w' ⟨rfl, hb⟩)
  go_ret
  exact ⟨rfl, hb⟩

theorem same_yes (c s : Int) (A A' : Option Addr) (zs : List Int) (n k n' k' : Nat) (B : Nat) (w : World) (hB : B ≤ w.heap.size) (h : Ints .u8 w B A zs) (h' : Ints .u8 w B A' zs) (hn : n = zs.length) (hn' : n' = zs.length) :
    Calls Tryd.prog 12 #[fv c s A n k, fv c s A' n' k'] w fun e w' => e = .returned (.bool true) ∧ Below w.heap.size w w' := by
  unfold fv
  have b1 : Below w.heap.size w (w.alloc (.cells #[.int .i64 c, .int .i64 s, .slice A n k] 24)) := (Below.refl _ _).alloc (Nat.le_refl _) _
  have b2 : Below w.heap.size w ((w.alloc (.cells #[.int .i64 c, .int .i64 s, .slice A n k] 24)).alloc (.cells #[.int .i64 c, .int .i64 s, .slice A' n' k'] 24)) := b1.alloc (by simp) _
  have H := Lib.hid ((h.more hB).below b2)
  have H' := Lib.hid ((h'.more hB).below b2)
  have HN := Lib.hid hn
  have HN' := Lib.hid hn'
  clear h h' hn hn'
  go_enter Tryd.func12, Tryd.ntmps12
  go_wp2_with (go_at_call 11; refine (sameBytes_yes A A' zs n k n' k' w.heap.size _ H.out H'.out HN.out HN'.out).mono ?_; rintro e w' ⟨rfl, rfl⟩)
  go_ret
  exact ⟨rfl, b2⟩
set_option maxHeartbeats 1000000 in
theorem noteBack_walk (c s : Int) (A : Option Addr) (zs : List Int) (n k : Nat) (w : World) (hN : Names w) (h : Ints .u8 w w.heap.size A zs) (hn : zs.length = n) (hm : n ≤ maxLen) (hk : n ≤ k) :
    Calls Tryd.prog 4 #[fv c s A n k] w fun e w' => e = .returned (.bool true) ∧ Below w.heap.size w w' := by
  unfold fv
  subst hn
  have b1 : Below w.heap.size w (w.alloc (.cells #[.int .i64 c, .int .i64 s, .slice A zs.length k] 24)) := (Below.refl _ _).alloc (Nat.le_refl _) _
  have bF : Blk (w.alloc (.cells #[.int .i64 c, .int .i64 s, .slice A zs.length k] 24)) w.heap.size 24 #[.int .i64 c, .int .i64 s, .slice A zs.length k] := Blk.new w _ _
  have hs1 : (w.alloc (.cells #[.int .i64 c, .int .i64 s, .slice A zs.length k] 24)).heap.size = w.heap.size + 1 := by simp
  have hN1 := Lib.hid (hN.below b1)
  have H := Lib.hid h
  clear hN h
  go_enter Tryd.func4, Tryd.ntmps4
  go_wp2_with fail
  generalize w.alloc (.cells #[.int .i64 c, .int .i64 s, .slice A zs.length k] 24) = w1 at *
  refine (works_any _ hN1.out).mono ?_
  rintro e w2 ⟨rfl, bw⟩
  have b2 := b1.trans (bw.mono b1.size)
  have bF2 := bF.below bw (by omega)
  have q0 : w2.cell? ⟨w.heap.size, 0, none⟩ = some (.int .i64 c) := Blk.cell bF2 0
  have q1 : w2.cell? ⟨w.heap.size, 1, none⟩ = some (.int .i64 s) := Blk.cell bF2 1
  have q2 : w2.cell? ⟨w.heap.size, 2, none⟩ = some (.slice A zs.length k) := Blk.cell bF2 2
  go_wp2_with fail
  refine (data_any A zs k w2 ((H.out.below b2).more b2.size) hm hk).mono ?_
  rintro e w3 ⟨v, xs, rfl, hO, hx, b3⟩
  obtain ⟨A3, c3, rfl, hc3, _, hI3, _⟩ := own_form hO.1 hO.2
  have hg : w.heap.size < w2.heap.size := by have := bw.size; omega
  have b4 : Below w.heap.size w w3 := b2.trans (b3.mono b2.size)
  have bF3 := bF2.below b3 hg
  have p0 : w3.cell? ⟨w.heap.size, 0, none⟩ = some (.int .i64 c) := Blk.cell bF3 0
  have p1 : w3.cell? ⟨w.heap.size, 1, none⟩ = some (.int .i64 s) := Blk.cell bF3 1
  have p2 : w3.cell? ⟨w.heap.size, 2, none⟩ = some (.slice A zs.length k) := Blk.cell bF3 2
  have z2 : w3.frozen? ⟨w.heap.size, 2, none⟩ = false := Blk.frozen bF3 2
  have K4 : Keeps (fun b => b = w.heap.size) w3 (w3.setCell ⟨w.heap.size, 2, none⟩ (.slice A3 xs.length c3)) := (Keeps.refl (fun b => b = w.heap.size) w3).setCell (g := w.heap.size) rfl 2 _
  have b5 : Below w.heap.size w (w3.setCell ⟨w.heap.size, 2, none⟩ (.slice A3 xs.length c3)) := b4.trans (K4.below b4.size (fun k h1 => by have : k = w.heap.size := h1; omega))
  have bF4 := bF3.set_ 2 (.slice A3 xs.length c3)
  have hI4 : Ints .u8 (w3.setCell ⟨w.heap.size, 2, none⟩ (.slice A3 xs.length c3)) w3.heap.size A3 xs := ⟨hO.2, fun hne => by
    obtain ⟨b, off, e, hb, hge, hcell⟩ := own_hz hO.1 hne
    exact ⟨b, off, e, hb, fun i hi => (World.cell?_setCell_other _ _ _ _ (fun e => by injection e with e1; omega)).trans (hcell i hi)⟩⟩
  have hsz4 : (w3.setCell ⟨w.heap.size, 2, none⟩ (.slice A3 xs.length c3)).heap.size = w3.heap.size := by simp [World.setCell]
  have HI4 := Lib.hid hI4
  clear hO hI3 K4 hI4 q0 q1 q2
  go_wp2_with fail
  generalize w3.setCell ⟨w.heap.size, 2, none⟩ (.slice A3 xs.length c3) = w4 at *
  clear p0 p1 p2 z2
  have p0 : w4.cell? ⟨w.heap.size, 0, none⟩ = some (.int .i64 c) := Blk.cell bF4 0
  have p1 : w4.cell? ⟨w.heap.size, 1, none⟩ = some (.int .i64 s) := Blk.cell bF4 1
  have p2 : w4.cell? ⟨w.heap.size, 2, none⟩ = some (.slice A3 xs.length c3) := Blk.cell bF4 2
  by_cases hbad : c < 0 ∨ 255 < c ∨ s < 0 ∨ 255 < s
  · refine (nbuild_bad c s A3 xs.length c3 w4 hbad).mono ?_
    rintro e w5 ⟨rfl, b6⟩
    go_wp2
    go_ret
    exact ⟨rfl, b5.trans (b6.mono b5.size)⟩
  · have h1 : 0 ≤ c := by omega
    have h2 : c ≤ 255 := by omega
    have h3 : 0 ≤ s := by omega
    have h4 : s ≤ 255 := by omega
    clear hbad
    by_cases hlong : 4075 < xs.length
    · refine (nbuild_long c s A3 xs.length c3 w4 h1 h2 h3 h4 hlong).mono ?_
      rintro e w5 ⟨rfl, b6⟩
      go_wp2
      go_ret
      exact ⟨rfl, b5.trans (b6.mono b5.size)⟩
    · refine (nbuild_ok c s A3 xs c3 w4 h1 h2 h3 h4 (by omega) (HI4.out.more (by omega))).mono ?_
      rintro e w5 ⟨v, rfl, hO, b6⟩
      obtain ⟨A5, c5, rfl, hc5, _, hI5, _⟩ := own_form hO.1 hO.2
      have b7 := b5.trans (b6.mono b5.size)
      have HI5 := Lib.hid hI5
      have hIx := Lib.hid ((HI4.out.more (B' := w4.heap.size) (by omega)).below b6)
      have g5 : w.heap.size < w4.heap.size := by have := b3.size; omega
      have bF5 := bF4.below b6 g5
      have hl5 : (c :: s :: xs).length = xs.length + 2 := by simp
      rw [hl5] at hc5 ⊢
      clear hO hI5 hl5
      go_wp2_with fail
      refine (nread_any A5 c s xs c5 w5 HI5.out (by omega) hc5).mono ?_
      rintro e w6 ⟨v, rfl, hO, b8⟩
      obtain ⟨A6, c6, rfl, hc6, _, hI6, _⟩ := own_form hO.1 hO.2
      have b9 := b7.trans (b8.mono b7.size)
      have b10 := b9.alloc b9.size (.cells #[.int .i64 c, .int .i64 s, .slice A6 xs.length c6] 24)
      have g6 : w.heap.size < w5.heap.size := by have := b6.size; omega
      have bF6 := bF5.below b8 g6
      have bF7 := bF6.alloc (.cells #[.int .i64 c, .int .i64 s, .slice A6 xs.length c6] 24)
      have bG7 := Blk.new w6 24 #[.int .i64 c, .int .i64 s, .slice A6 xs.length c6]
      have t0 : (w6.alloc (.cells #[.int .i64 c, .int .i64 s, .slice A6 xs.length c6] 24)).cell? ⟨w.heap.size, 0, none⟩ = some (.int .i64 c) := Blk.cell bF7 0
      have t1 : (w6.alloc (.cells #[.int .i64 c, .int .i64 s, .slice A6 xs.length c6] 24)).cell? ⟨w.heap.size, 1, none⟩ = some (.int .i64 s) := Blk.cell bF7 1
      have t2 : (w6.alloc (.cells #[.int .i64 c, .int .i64 s, .slice A6 xs.length c6] 24)).cell? ⟨w.heap.size, 2, none⟩ = some (.slice A3 xs.length c3) := Blk.cell bF7 2
      have u0 : (w6.alloc (.cells #[.int .i64 c, .int .i64 s, .slice A6 xs.length c6] 24)).cell? ⟨w6.heap.size, 0, none⟩ = some (.int .i64 c) := Blk.cell bG7 0
      have u1 : (w6.alloc (.cells #[.int .i64 c, .int .i64 s, .slice A6 xs.length c6] 24)).cell? ⟨w6.heap.size, 1, none⟩ = some (.int .i64 s) := Blk.cell bG7 1
      have u2 : (w6.alloc (.cells #[.int .i64 c, .int .i64 s, .slice A6 xs.length c6] 24)).cell? ⟨w6.heap.size, 2, none⟩ = some (.slice A6 xs.length c6) := Blk.cell bG7 2
      have b11 : Below w6.heap.size w6 (w6.alloc (.cells #[.int .i64 c, .int .i64 s, .slice A6 xs.length c6] 24)) := (Below.refl _ _).alloc (Nat.le_refl _) _
      have HI6 := Lib.hid ((hI6.below b11).more b11.size)
      have HI7 := Lib.hid ((((hIx.out.more (B' := w5.heap.size) b6.size).below b8).more (B' := w6.heap.size) b8.size |>.below b11).more b11.size)
      clear hO hI6
      go_wp2_with (go_at_call 12; refine (same_yes c s A3 A6 xs xs.length c3 xs.length c6 _ _ (Nat.le_refl _) HI7.out HI6.out rfl rfl).mono ?_; rintro e w8 ⟨rfl, b12⟩)
      go_ret
      exact ⟨rfl, b10.trans (b12.mono b10.size)⟩
end Go.Proofs.YtfjjmhiogfimjaaDoor
