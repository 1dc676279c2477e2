/- What the law function NoteBuilds comes to: true, whatever the fault and the bytes; nothing that was there is changed. Conditions: the bytes are cells of memory, and the listed tables hold what their initialisers lay. -/
import Derived.Test.YtfjjmhiogfimjaaDoorNoteAll
import Derived.Deep.RegionHeld3
set_option linter.unusedVariables false
set_option linter.unusedSimpArgs false
namespace Go.Proofs.YtfjjmhiogfimjaaDoor
open Go.RowKit

section
variable {W0 : World}
/-! The calls of the last statement, in whatever world keeps what was there. -/
theorem l_same {A A' : Option Addr} {zs : List Int} {k k' : Nat} (w : World) (h : Ints .u8 W0 W0.heap.size A zs) (h' : Ints .u8 W0 W0.heap.size A' zs) (hB : Below W0.heap.size W0 w) :
    Calls Tryd.prog 11 #[.slice A zs.length k, .slice A' zs.length k'] w fun e w' => e = .returned (.bool true) ∧ w = w' :=
  sameBytes_yes A A' zs zs.length k zs.length k' W0.heap.size w (h.below hB) (h'.below hB) rfl rfl
theorem l_faults {c s : Int} {A A' : Option Addr} {zs : List Int} {k k' : Nat} (w : World) (h : Ints .u8 W0 W0.heap.size A zs) (h' : Ints .u8 W0 W0.heap.size A' zs) (hB : Below W0.heap.size W0 w) :
    Calls Tryd.prog 12 #[fv c s A zs.length k, fv c s A' zs.length k'] w fun e w' => e = .returned (.bool true) ∧ Below w.heap.size w w' ∧ Below W0.heap.size W0 w' :=
  (same_yes c s A A' zs zs.length k zs.length k' w.heap.size w (Nat.le_refl _) ((h.below hB).more hB.size) ((h'.below hB).more hB.size) rfl rfl).mono fun _ _ ⟨he, hb⟩ => ⟨he, hb, hB.trans (hb.mono hB.size)⟩
theorem l_bytes {A : Option Addr} {zs : List Int} {k : Nat} (w : World) (h : Ints .u8 W0 W0.heap.size A zs) (hn : zs.length ≤ 100000) (hB : Below W0.heap.size W0 w) :
    Calls Tryd.prog 9 #[.slice A zs.length k] w fun e w' => ∃ A' k', e = .returned (.slice A' zs.length k') ∧ zs.length ≤ k' ∧ Ints .u8 w' w'.heap.size A' zs ∧ Below w.heap.size w w' ∧ Below W0.heap.size W0 w' :=
  (bytes_gave A zs k w ((h.below hB).more hB.size) hn).mono fun _ _ ⟨A', k', he, hk, hI, hb⟩ => ⟨A', k', he, hk, hI, hb, hB.trans (hb.mono hB.size)⟩
theorem l_ref (w : World) (hB : Below W0.heap.size W0 w) : Calls Tryd.prog 15 #[] w fun e w' => ∃ a, e = .returned (.slice (some ⟨a, 0, none⟩) 4 4) ∧ Ints .u8 w' w'.heap.size (some ⟨a, 0, none⟩) [0, 1, 0, 1] ∧ Below w.heap.size w w' ∧ Below W0.heap.size W0 w' :=
  (nrefresh w).mono fun _ _ ⟨he, hw⟩ => by
    subst hw
    have hb : Below w.heap.size w (w.alloc (.cells #[.int .u8 0, .int .u8 1, .int .u8 0, .int .u8 1] 5)) := (Below.refl _ _).alloc (Nat.le_refl _) _
    exact ⟨_, he, Ints.of_blk (zs := [0, 1, 0, 1]) (Blk.new w 5 _) (by decide), hb, hB.trans (hb.mono hB.size)⟩
theorem l_rref (w : World) (hB : Below W0.heap.size W0 w) : Calls Tryd.prog 16 #[] w fun e w' => ∃ a, e = .returned (.slice (some ⟨a, 0, none⟩) 4 4) ∧ Ints .u8 w' w'.heap.size (some ⟨a, 0, none⟩) [0, 1, 0, 1] ∧ Below w.heap.size w w' ∧ Below W0.heap.size W0 w' :=
  (rrefresh w).mono fun _ _ ⟨he, hw⟩ => by
    subst hw
    have hb : Below w.heap.size w (w.alloc (.cells #[.int .u8 0, .int .u8 1, .int .u8 0, .int .u8 1] 5)) := (Below.refl _ _).alloc (Nat.le_refl _) _
    exact ⟨_, he, Ints.of_blk (zs := [0, 1, 0, 1]) (Blk.new w 5 _) (by decide), hb, hB.trans (hb.mono hB.size)⟩
theorem l_is {A : Option Addr} {zs : List Int} {k : Nat} (w : World) (h : Ints .u8 w w.heap.size A zs) (hk : zs.length ≤ k) (hB : Below W0.heap.size W0 w) :
    Calls Tryd.prog 13 #[.slice A zs.length k] w fun e w' => e = .returned (.bool (zs.length == 4 && isRefresh (zs.getD 0 0) (zs.getD 1 0) (zs.getD 2 0) (zs.getD 3 0))) ∧ Below w.heap.size w w' ∧ Below W0.heap.size W0 w' :=
  (refreshes_any A zs k w h hk).mono fun _ _ ⟨he, hb⟩ => ⟨he, hb, hB.trans (hb.mono hB.size)⟩
theorem l_is4 {a : Nat} (w : World) (h : Ints .u8 w w.heap.size (some ⟨a, 0, none⟩) [0, 1, 0, 1]) (hB : Below W0.heap.size W0 w) :
    Calls Tryd.prog 13 #[.slice (some ⟨a, 0, none⟩) 4 4] w fun e w' => e = .returned (.bool true) ∧ Below w.heap.size w w' ∧ Below W0.heap.size W0 w' :=
  (l_is (zs := [0, 1, 0, 1]) (k := 4) w h (by simp) hB).mono fun _ _ ⟨he, hb⟩ => ⟨by simpa [isRefresh] using he, hb⟩
theorem l_ris {A : Option Addr} {zs : List Int} {k : Nat} (w : World) (h : Ints .u8 W0 W0.heap.size A zs) (hB : Below W0.heap.size W0 w) :
    Calls Tryd.prog 14 #[.slice A zs.length k] w fun e w' => e = .returned (.bool (zs.length == 4 && isRefresh (zs.getD 0 0) (zs.getD 1 0) (zs.getD 2 0) (zs.getD 3 0))) ∧ w = w' :=
  rrefreshes_any A zs k w ((h.below hB).more hB.size)
theorem l_name {c s : Int} {A : Option Addr} {n k B : Nat} (w : World) (hL : Laid B W0) (hB0 : B ≤ W0.heap.size) (s0 : -9223372036854775808 ≤ s) (s1 : s ≤ 9223372036854775807) (hB : Below W0.heap.size W0 w) :
    Calls Tryd.prog 17 #[fv c s A n k] w fun e w' => e = .returned (.string (full c s)) ∧ Below w.heap.size w w' ∧ Below W0.heap.size W0 w' :=
  (name_any c s A n k B w (hL.on (hB.mono hB0)) (Nat.le_trans hB0 hB.size) s0 s1).mono fun _ _ ⟨he, hb⟩ => ⟨he, hb, hB.trans (hb.mono hB.size)⟩
theorem l_rname {c s : Int} {A : Option Addr} {n k : Nat} (w : World) (s0 : -9223372036854775808 ≤ s) (s1 : s ≤ 9223372036854775807) (hB : Below W0.heap.size W0 w) :
    Calls Tryd.prog 18 #[fv c s A n k] w fun e w' => e = .returned (.string (full c s)) ∧ Below w.heap.size w w' ∧ Below W0.heap.size W0 w' :=
  (rname_any c s A n k w s0 s1).mono fun _ _ ⟨he, hb⟩ => ⟨he, hb, hB.trans (hb.mono hB.size)⟩
theorem l_works {B : Nat} (w : World) (hL : Laid B W0) (hB0 : B ≤ W0.heap.size) (hB : Below W0.heap.size W0 w) : Calls Tryd.prog 19 #[] w fun e w' => e = .returned (.bool true) ∧ Below w.heap.size w w' ∧ Below W0.heap.size W0 w' :=
  (works_any w (hL.on (hB.mono hB0)).here.1).mono fun _ _ ⟨he, hb⟩ => ⟨he, hb, hB.trans (hb.mono hB.size)⟩
end

set_option maxRecDepth 100000 in
set_option maxHeartbeats 8000000 in
theorem noteBuilds_walk (c s : Int) (A : Option Addr) (zs : List Int) (n k : Nat) (Ab : Option Addr) (bs : List Int) (nb kb : Nat) (w : World) (hL : Laid w.heap.size w) (s0 : -9223372036854775808 ≤ s) (s1 : s ≤ 9223372036854775807)
    (h : Ints .u8 w w.heap.size A zs) (hn : zs.length = n) (hm : n ≤ maxLen) (hk : n ≤ k) (h' : Ints .u8 w w.heap.size Ab bs) (hn' : bs.length = nb) (hm' : nb ≤ maxLen) (hk' : nb ≤ kb) :
    Calls Tryd.prog 3 #[fv c s A n k, .slice Ab nb kb] w fun e w' => e = .returned (.bool true) ∧ Below w.heap.size w w' := by
  unfold fv
  subst hn hn'
  have b1 : Below w.heap.size w (w.alloc (.cells #[.int .i64 c, .int .i64 s, .slice A zs.length k] 24)) := (Below.refl _ _).alloc (Nat.le_refl _) _
  have bF : Blk (w.alloc (.cells #[.int .i64 c, .int .i64 s, .slice A zs.length k] 24)) w.heap.size 24 #[.int .i64 c, .int .i64 s, .slice A zs.length k] := Blk.new w _ _
  have hs1 : (w.alloc (.cells #[.int .i64 c, .int .i64 s, .slice A zs.length k] 24)).heap.size = w.heap.size + 1 := by simp
  have H := Lib.hid h
  have H' := Lib.hid h'
  have HL := Lib.hid hL
  clear hL h h'
  go_enter Tryd.func3, Tryd.ntmps3
  go_wp2_with fail
  generalize w.alloc (.cells #[.int .i64 c, .int .i64 s, .slice A zs.length k] 24) = w1 at *
  refine (data_any A zs k w1 ((H.out.below b1).more b1.size) hm hk).mono ?_
  rintro e w2 ⟨v, xs, rfl, hO, hx, c2⟩
  obtain ⟨A3, c3, rfl, hc3, hI3⟩ := hO.gave
  have hz3 := Lib.hid (fun hne => own_hz hO.1 hne)
  have hxw := Lib.hid hO.2
  have b2 := b1.trans (c2.mono b1.size)
  have bF2 := bF.below c2 (by omega)
  clear hO
  go_wp2_with fail
  refine (data_any Ab bs kb w2 ((H'.out.below b2).more b2.size) hm' hk').mono ?_
  rintro e w3 ⟨v, ys, rfl, hO, hy, d3⟩
  obtain ⟨A4, c4, rfl, hc4, hI4⟩ := hO.gave
  have hz4 := Lib.hid (fun hne => own_hz hO.1 hne)
  have hyw := Lib.hid hO.2
  have hg2 : w.heap.size < w2.heap.size := by have := c2.size; omega
  have b3 := b2.trans (d3.mono b2.size)
  have bF3 := bF2.below d3 hg2
  clear hO
  have z2 : w3.frozen? ⟨w.heap.size, 2, none⟩ = false := Blk.frozen bF3 2
  have p0 : w3.cell? ⟨w.heap.size, 0, none⟩ = some (.int .i64 c) := Blk.cell bF3 0
  have p1 : w3.cell? ⟨w.heap.size, 1, none⟩ = some (.int .i64 s) := Blk.cell bF3 1
  have p2 : w3.cell? ⟨w.heap.size, 2, none⟩ = some (.slice A zs.length k) := Blk.cell bF3 2
  have K4 : Keeps (fun b => b = w.heap.size) w3 (w3.setCell ⟨w.heap.size, 2, none⟩ (.slice A3 xs.length c3)) := (Keeps.refl (fun b => b = w.heap.size) w3).setCell (g := w.heap.size) rfl 2 _
  have b4 : Below w.heap.size w (w3.setCell ⟨w.heap.size, 2, none⟩ (.slice A3 xs.length c3)) := b3.trans (K4.below b3.size (fun k h1 => by have : k = w.heap.size := h1; omega))
  have bF4 := bF3.set_ 2 (.slice A3 xs.length c3)
  have hsz4 : (w3.setCell ⟨w.heap.size, 2, none⟩ (.slice A3 xs.length c3)).heap.size = w3.heap.size := by simp [World.setCell]
  have hI3' : Hid (Ints .u8 (w3.setCell ⟨w.heap.size, 2, none⟩ (.slice A3 xs.length c3)) w3.heap.size A3 xs) := Lib.hid ⟨hxw.out, fun hne => by
    obtain ⟨b, off, e, hb, hge, hcell⟩ := hz3.out hne
    have hw3 := d3.size
    exact ⟨b, off, e, by omega, fun i hi => (World.cell?_setCell_other _ _ _ _ (fun e => by injection e with e1; omega)).trans ((d3.cell (p := ⟨b, off + i, none⟩) hb).trans (hcell i hi))⟩⟩
  have hI4' : Hid (Ints .u8 (w3.setCell ⟨w.heap.size, 2, none⟩ (.slice A3 xs.length c3)) w3.heap.size A4 ys) := Lib.hid ⟨hyw.out, fun hne => by
    obtain ⟨b, off, e, hb, hge, hcell⟩ := hz4.out hne
    exact ⟨b, off, e, hb, fun i hi => (World.cell?_setCell_other _ _ _ _ (fun e => by injection e with e1; omega)).trans (hcell i hi)⟩⟩
  clear K4 hI3 hI4 hz3 hz4
  go_wp2_with fail
  generalize w3.setCell ⟨w.heap.size, 2, none⟩ (.slice A3 xs.length c3) = w4 at *
  clear p0 p1 p2 z2
  have hg4 : w.heap.size < w4.heap.size := by have := d3.size; omega
  refine (nbuild_all c s A3 xs c3 w4 (hI3'.out.more (by omega))).mono ?_
  rintro e w5 ⟨v, rfl, ⟨Ax, kx, rfl, hkx, hIx⟩, e5⟩
  have b5 := b4.trans (e5.mono b4.size)
  have bF5 := bF4.below e5 hg4
  have hg5 : w.heap.size < w5.heap.size := by have := e5.size; omega
  have p0 : w5.cell? ⟨w.heap.size, 0, none⟩ = some (.int .i64 c) := Blk.cell bF5 0
  have p1 : w5.cell? ⟨w.heap.size, 1, none⟩ = some (.int .i64 s) := Blk.cell bF5 1
  have p2 : w5.cell? ⟨w.heap.size, 2, none⟩ = some (.slice A3 xs.length c3) := Blk.cell bF5 2
  have HIx := Lib.hid hIx
  clear hIx
  go_wp2_with fail
  have e5' : Below w3.heap.size w4 w5 := e5.mono (by omega)
  refine (rbuild_all c s A3 xs c3 w5 ((hI3'.out.below e5').more (by have := e5.size; omega))).mono ?_
  rintro e w6 ⟨v, rfl, ⟨Ay, ky, rfl, hky, hIy⟩, e6⟩
  have b6 := b5.trans (e6.mono b5.size)
  have bF6 := bF5.below e6 hg5
  have hg6 : w.heap.size < w6.heap.size := by have := e6.size; omega
  have HIx6 := Lib.hid ((HIx.out.below e6).more e6.size)
  have HIy := Lib.hid hIy
  clear hIy HIx p0 p1 p2
  go_wp2_with fail
  have s6 : w3.heap.size ≤ w6.heap.size := by have := e6.size; have := e5.size; omega
  have HI4 := Lib.hid ((hI4'.out.below (e5'.trans (e6.mono (by have := e5.size; omega)))).more s6)
  refine (bytes_gave A4 ys c4 w6 HI4.out (by omega)).mono ?_
  rintro e w7 ⟨A7, k7, rfl, hk7, hI7, e7⟩
  have HI7 := Lib.hid hI7
  clear hI7
  go_wp2_with fail
  refine (nread_all A7 ys k7 w7 HI7.out (by omega) hk7).mono ?_
  rintro e w8 ⟨⟨A8, k8, rfl, hk8, hI8⟩, e8⟩
  have b8 := (b6.trans (e7.mono b6.size)).trans (e8.mono (Nat.le_trans b6.size e7.size))
  have hg8 : w.heap.size < w8.heap.size := by have := e7.size; have := e8.size; omega
  have bF8 := (bF6.below e7 hg6).below e8 (by have := e7.size; omega)
  have R2 := fun (W : World) (hI : Ints .u8 W W.heap.size A4 ys) => rread_all A4 ys c4 W hI (by omega) hc4
  have HI48 := Lib.hid (((HI4.out.below e7).more (B' := w7.heap.size) e7.size |>.below e8).more e8.size)
  have HIx8 := Lib.hid (((HIx6.out.below e7).more (B' := w7.heap.size) e7.size |>.below e8).more e8.size)
  have HIy8 := Lib.hid (((HIy.out.below e7).more (B' := w7.heap.size) e7.size |>.below e8).more e8.size)
  unfold Got fv at R2
  unfold fv
  obtain ⟨P, hP⟩ : ∃ P, (if ys.length < 2 then 0 else ys.getD 0 0) = P := ⟨_, rfl⟩
  obtain ⟨Q, hQ⟩ : ∃ Q, (if ys.length < 2 then 0 else ys.getD 1 0) = Q := ⟨_, rfl⟩
  obtain ⟨R, hR⟩ : ∃ R, ys.drop 2 = R := ⟨_, rfl⟩
  obtain ⟨ok, hok⟩ : ∃ ok, decide (2 ≤ ys.length) = ok := ⟨_, rfl⟩
  obtain ⟨Z, hZ⟩ : ∃ Z, bz c s xs = Z := ⟨_, rfl⟩
  obtain ⟨r, hr⟩ : ∃ r, br c s xs = r := ⟨_, rfl⟩
  simp only [hP, hQ, hR, hok] at R2 hI8 hk8 ⊢
  simp only [hZ, hr] at HIx8 HIy8 hkx hky ⊢
  have HR2 := Lib.hid R2
  have HI8 := Lib.hid hI8
  clear hP hQ hR hok hZ hr R2 hI8 HI4 HIx6 HIy HI7 hI3' hI4'
  go_wp2_with fail
  have f9 : Below w8.heap.size w8 (w8.alloc (.cells #[.int .i64 P, .int .i64 Q, .slice A8 R.length k8] 24)) := (Below.refl _ _).alloc (Nat.le_refl _) _
  have bF9 := bF8.alloc (.cells #[.int .i64 P, .int .i64 Q, .slice A8 R.length k8] 24)
  have bG9 := Blk.new w8 24 #[.int .i64 P, .int .i64 Q, .slice A8 R.length k8]
  have b9 := b8.trans (f9.mono b8.size)
  have HI49 := Lib.hid ((HI48.out.below f9).more f9.size)
  have HIx9 := Lib.hid ((HIx8.out.below f9).more f9.size)
  have HIy9 := Lib.hid ((HIy8.out.below f9).more f9.size)
  have HI89 := Lib.hid ((HI8.out.below f9).more f9.size)
  have hs9 : (w8.alloc (.cells #[.int .i64 P, .int .i64 Q, .slice A8 R.length k8] 24)).heap.size = w8.heap.size + 1 := by simp
  generalize w8.alloc (.cells #[.int .i64 P, .int .i64 Q, .slice A8 R.length k8] 24) = w9 at *
  refine (HR2.out w9 HI49.out).mono ?_
  rintro e w10 ⟨⟨A10, k10, rfl, hk10, hI10⟩, e10⟩
  have f11 : Below w10.heap.size w10 (w10.alloc (.cells #[.int .i64 P, .int .i64 Q, .slice A10 R.length k10] 24)) := (Below.refl _ _).alloc (Nat.le_refl _) _
  have HI10 := Lib.hid hI10
  clear hI10
  go_wp2_with fail
  have e10b : Below w9.heap.size w9 (w10.alloc (.cells #[.int .i64 P, .int .i64 Q, .slice A10 R.length k10] 24)) := e10.trans (f11.mono e10.size)
  have hg9 : w.heap.size < w9.heap.size := by omega
  have hs10 := e10.size
  have bF0 := Blk.below bF9 e10b hg9
  have bG0 := Blk.below bG9 e10b (by omega)
  have bH0 := Blk.new w10 24 #[.int .i64 P, .int .i64 Q, .slice A10 R.length k10]
  have b0 := b9.trans (e10b.mono b9.size)
  have HI40 := Lib.hid ((HI49.out.below e10b).more e10b.size)
  have HIx0 := Lib.hid ((HIx9.out.below e10b).more e10b.size)
  have HIy0 := Lib.hid ((HIy9.out.below e10b).more e10b.size)
  have HI80 := Lib.hid ((HI89.out.below e10b).more e10b.size)
  have HI100 := Lib.hid ((HI10.out.below f11).more f11.size)
  have HL0 := Lib.hid (HL.out.on b0)
  have hgs : w.heap.size < (w10.alloc (.cells #[.int .i64 P, .int .i64 Q, .slice A10 R.length k10] 24)).heap.size ∧ w8.heap.size < (w10.alloc (.cells #[.int .i64 P, .int .i64 Q, .slice A10 R.length k10] 24)).heap.size ∧ w10.heap.size < (w10.alloc (.cells #[.int .i64 P, .int .i64 Q, .slice A10 R.length k10] 24)).heap.size := by simp; omega
  generalize w10.alloc (.cells #[.int .i64 P, .int .i64 Q, .slice A10 R.length k10] 24) = W0 at *
  have hb0 : w.heap.size ≤ W0.heap.size := b0.size
  have hS : ∀ W, Below W0.heap.size W0 W → W.cell? ⟨w.heap.size, 0, none⟩ = some (.int .i64 c) ∧ W.cell? ⟨w.heap.size, 1, none⟩ = some (.int .i64 s) ∧ W.cell? ⟨w.heap.size, 2, none⟩ = some (.slice A3 xs.length c3) ∧
      W.cell? ⟨w8.heap.size, 0, none⟩ = some (.int .i64 P) ∧ W.cell? ⟨w8.heap.size, 1, none⟩ = some (.int .i64 Q) ∧ W.cell? ⟨w8.heap.size, 2, none⟩ = some (.slice A8 R.length k8) ∧
      W.cell? ⟨w10.heap.size, 0, none⟩ = some (.int .i64 P) ∧ W.cell? ⟨w10.heap.size, 1, none⟩ = some (.int .i64 Q) ∧ W.cell? ⟨w10.heap.size, 2, none⟩ = some (.slice A10 R.length k10) := fun W hB => by
    have x1 := Blk.below bF0 hB hgs.1
    have x2 := Blk.below bG0 hB hgs.2.1
    have x3 := Blk.below bH0 hB hgs.2.2
    exact ⟨Blk.cell x1 0, Blk.cell x1 1, Blk.cell x1 2, Blk.cell x2 0, Blk.cell x2 1, Blk.cell x2 2, Blk.cell x3 0, Blk.cell x3 1, Blk.cell x3 2⟩
  have HS := Lib.hid hS
  have hB : Below W0.heap.size W0 W0 := Below.refl _ _
  have hy5 : ys.length ≤ 100000 := by omega
  have hmS : Hid True := Lib.hid trivial
  have hmI : Hid True := Lib.hid trivial
  clear hS bF0 bG0 bH0 bF9 bG9 f9 f11 e10 e10b e8 e7 e6 e5 e5' d3 c2 bF bF2 bF3 bF4 bF5 bF6 bF8 b1 b2 b3 b4 b5 b6 b8 b9 HI49 HIx9 HIy9 HI89 HI10 HR2 HI48 HIx8 HIy8 HI8 hgs hg2 hg4 hg5 hg6 hg8 hg9 hs9 hs10 hs1 s6 hsz4 hk7
  go_region_held3 (fun W => W.cell? ⟨w.heap.size, 0, none⟩ = some (.int .i64 c) ∧ W.cell? ⟨w.heap.size, 1, none⟩ = some (.int .i64 s) ∧ W.cell? ⟨w.heap.size, 2, none⟩ = some (.slice A3 xs.length c3) ∧
      W.cell? ⟨w8.heap.size, 0, none⟩ = some (.int .i64 P) ∧ W.cell? ⟨w8.heap.size, 1, none⟩ = some (.int .i64 Q) ∧ W.cell? ⟨w8.heap.size, 2, none⟩ = some (.slice A8 R.length k8) ∧
      W.cell? ⟨w10.heap.size, 0, none⟩ = some (.int .i64 P) ∧ W.cell? ⟨w10.heap.size, 1, none⟩ = some (.int .i64 Q) ∧ W.cell? ⟨w10.heap.size, 2, none⟩ = some (.slice A10 R.length k10))
    (first | exact HS.out _ hB | exact HS.out _ hB.drew | exact HS.out _ (hB.drewN _))
    (first
      | (clear hmS; go_at_call 11; refine (l_same _ HIx0.out HIy0.out (by first | exact hB | exact hB.drew | exact hB.drewN _)).mono ?_; rintro e w' ⟨rfl, rfl⟩)
      | (go_at_call 12; refine (l_faults _ HI80.out HI100.out (by first | exact hB | exact hB.drew | exact hB.drewN _)).mono ?_; rintro e w' ⟨rfl, hb, hB⟩)
      | (go_at_call 9; refine (l_bytes _ HI40.out hy5 (by first | exact hB | exact hB.drew | exact hB.drewN _)).mono ?_; rintro e w' ⟨Aq, kq, rfl, hkq, hIq, hb, hB⟩)
      | (have hq := hr; go_at_call 13; refine (l_is4 _ (by exact hq) (by first | exact hB | exact hB.drew | exact hB.drewN _)).mono ?_; rintro e w' ⟨rfl, hb, hB⟩)
      | (clear hmI; go_at_call 13; refine (l_is _ (by exact hIq) hkq (by first | exact hB | exact hB.drew | exact hB.drewN _)).mono ?_; rintro e w' ⟨rfl, hb, hB⟩)
      | (go_at_call 14; refine (l_ris _ HI40.out (by first | exact hB | exact hB.drew | exact hB.drewN _)).mono ?_; rintro e w' ⟨rfl, rfl⟩)
      | (go_at_call 15; refine (l_ref _ (by first | exact hB | exact hB.drew | exact hB.drewN _)).mono ?_; rintro e w' ⟨a, rfl, hr, hbr, hB⟩)
      | (go_at_call 16; refine (l_rref _ (by first | exact hB | exact hB.drew | exact hB.drewN _)).mono ?_; rintro e w' ⟨a', rfl, hr', hbr', hB⟩)
      | (go_at_call 17; refine (l_name _ HL0.out hb0 s0 s1 (by first | exact hB | exact hB.drew | exact hB.drewN _)).mono ?_; rintro e w' ⟨rfl, hb, hB⟩)
      | (go_at_call 18; refine (l_rname _ s0 s1 (by first | exact hB | exact hB.drew | exact hB.drewN _)).mono ?_; rintro e w' ⟨rfl, hb, hB⟩)
      | (go_at_call 19; refine (l_works _ HL0.out hb0 (by first | exact hB | exact hB.drew | exact hB.drewN _)).mono ?_; rintro e w' ⟨rfl, hb, hB⟩)
      | (have hq := hr'; have hq2 := (hr.below hbr').more hbr'.size; go_at_call 11; refine (sameBytes_yes _ _ [0, 1, 0, 1] 4 4 4 4 _ _ (by exact hq2) (by exact hq) rfl rfl).mono ?_; rintro e w' ⟨rfl, rfl⟩))
  go_wp2
  go_ret
  exact ⟨rfl, b0.trans (hB.mono hb0)⟩
end Go.Proofs.YtfjjmhiogfimjaaDoor
