/- What reading of a joint comes to: the first of the bytes that are ready. Conditions: the joint, its bytes and its marks are blocks of memory of their own. -/
import Derived.Test.YtemphincefamfaaJoinC
set_option linter.unusedVariables false
set_option linter.unusedSimpArgs false
namespace Go.Proofs.Ytemphincefamfaa
open Go.RowKit

theorem jread_bad (g gb gt : Nat) (nx : Int) (bs : List Int) (ts : List Bool) (first ready : Nat) (held : Int) (n : Int) (w : World) (h : Jt w g gb gt nx bs ts first ready held) (hn : n < 0) :
    Calls Try.prog 11 #[.pointer (some ⟨g, 0, none⟩), .int .i64 n] w fun e w' => e = .returned (.tuple #[.slice none 0 0, .int .i64 2]) ∧ w = w' := by
  have H := Lib.hid h
  clear h
  go_enter Try.func11, Try.ntmps11
  go_wp2_with (go_at_call 22; refine (made_yes _ _ _ _ _ _ _ _ _ _ H.out).mono ?_; rintro e w' ⟨rfl, rfl⟩)
  go_ret2
  exact ⟨rfl, rfl⟩

/-- What reading m bytes comes to: they lie in a block of their own. -/
def ReadPost (w : World) (g gb gt : Nat) (nx : Int) (bs : List Int) (ts : List Bool) (first ready : Nat) (held : Int) (m : Nat) (e : Ending) (w' : World) : Prop :=
  e = .returned (.tuple #[.slice (some ⟨w.heap.size, 0, none⟩) m m, .int .i64 0]) ∧ Jt w' g gb gt nx bs ts (Plain.pl first bs.length m) (ready - m) held ∧
    Blk w' w.heap.size 5 (u8s ((List.range m).map fun i => bs.getD (Plain.pl first bs.length i) 0)) ∧ Keeps (Jb g gb gt) w w'

set_option maxRecDepth 100000 in
set_option maxHeartbeats 1000000 in
theorem jread_any (g gb gt : Nat) (nx : Int) (bs : List Int) (ts : List Bool) (first ready : Nat) (held : Int) (n : Int) (m : Nat) (w : World) (h : Jt w g gb gt nx bs ts first ready held) (hn : 0 ≤ n) (hm : (m : Int) = min n ready) :
    Calls Try.prog 11 #[.pointer (some ⟨g, 0, none⟩), .int .i64 n] w (ReadPost w g gb gt nx bs ts first ready held m) := by
  obtain ⟨c0, c1, c2, c3, c4, c5⟩ := h.cells
  have r0 := h.some_
  have r1 := h.room
  have r2 := h.rdy
  have r3 := h.fst
  have m1 := h.ne1
  have m2 := h.ne2
  have m3 := h.ne3
  have hmr : (m : Int) ≤ ready := by omega
  have hgl := h.top.lt
  have hgbl := h.row.lt
  have hgtl := h.marks.lt
  obtain ⟨i5, hi5, hz5, hs5, hb5⟩ := info_parts (P := Try.prog) (e := 5) (z := .int .u8 0) (size := 1) (bytes := 1) (by kernel_rfl)
  have mk1 : ∀ W : World, (Instr.makeSlice 32 (.int .i64 (m : Int)) (.int .i64 (m : Int))).run Try.prog W = .ok (.slice (some ⟨W.heap.size, 0, none⟩) m m) (W.alloc (.cells (madeCells #[.int .u8 0] m) 5)) := fun W => by
    have := run_makeSlice (P := Try.prog) W 32 5 i5 _ Try.underlying32 hi5 hz5 .i64 .i64 (m : Int) (m : Int) (by omega) (by omega) (by rw [hs5]; omega) (by rw [hb5]; omega) (by omega)
    rw [hs5] at this; simpa [Value.cells] using this
  clear hi5 hz5 hs5 hb5
  have H := Lib.hid h
  clear h c0 c1 c2 c3 c5
  have hmin : (n ≤ ready ∧ (m : Int) = n) ∨ (¬ n ≤ ready ∧ (m : Int) = ready) := by omega
  clear hm
  go_enter Try.func11, Try.ntmps11
  have sJ : Hid (Jt (w.alloc (.cells (madeCells #[.int .u8 0] m) 5)) g gb gt nx bs ts first ready held) := Lib.hid (H.out.keeps (s := fun _ => False) ((Keeps.refl _ _).alloc _) (fun h => h) (fun h => h) (fun h => h))
  have sB : Hid (Blk (w.alloc (.cells (madeCells #[.int .u8 0] m) 5)) w.heap.size 5 (u8s (Plain.rdRow (fun i => bs.getD (Plain.pl first bs.length i) 0) m 0))) := Lib.hid (by rw [Plain.rdRow_zero, made_u8]; exact Blk.new _ _ _)
  have sK : Hid (Keeps (Jb g gb gt) w (w.alloc (.cells (madeCells #[.int .u8 0] m) 5))) := Lib.hid ((Keeps.refl _ _).alloc _)
  rcases hmin with ⟨hm1, hm2⟩ | ⟨hm1, hm2⟩
  · subst hm2
    go_wp2_with (go_at_call 22; refine (made_yes _ _ _ _ _ _ _ _ _ _ H.out).mono ?_; rintro e w' ⟨rfl, rfl⟩)
    go_loopw [24] (fun j wr => ∃ k : Nat, j = .int .i64 k ∧ k ≤ m ∧ Hid (Jt wr g gb gt nx bs ts first ready held) ∧ Hid (Blk wr w.heap.size 5 (u8s (Plain.rdRow (fun i => bs.getD (Plain.pl first bs.length i) 0) m k))) ∧ Hid (Keeps (Jb g gb gt) w wr)) (fun j _ => m - (intOf j).toNat)
    case atStart => exact ⟨0, rfl, by omega, sJ, sB, sK⟩
    case round =>
      obtain ⟨k, rfl, hk, HJ, HB, HK⟩ := hrel
      clear sJ sB sK
      by_cases hlt : k < m
      · have hpl := Plain.pl_lt first bs.length k r0
        have hp : ((first : Int) + (k : Int)) % (bs.length : Int) = ((Plain.pl first bs.length k : Nat) : Int) := Plain.pl_cast first bs.length k
        have hset : Hid ((Plain.rdRow (fun i => bs.getD (Plain.pl first bs.length i) 0) m k).set k (bs.getD (Plain.pl first bs.length k) 0) = Plain.rdRow (fun i => bs.getD (Plain.pl first bs.length i) 0) m (k + 1)) := Lib.hid (Plain.rdRow_set _ m k hlt)
        have c1 := HJ.out.cells.2.1
        have cb : wr.cell? ⟨gb, Plain.pl first bs.length k, none⟩ = some (.int .u8 (bs.getD (Plain.pl first bs.length k) 0)) := by rw [Blk.cell HJ.out.row _, u8s_get _ _ hpl]
        have cn : wr.cell? ⟨w.heap.size, k, none⟩ = some (.int .u8 ((Plain.rdRow (fun i => bs.getD (Plain.pl first bs.length i) 0) m k).getD k 0)) := by rw [Blk.cell HB.out _, u8s_get _ _ (by rw [Plain.rdRow_len]; exact hlt)]
        have fn : wr.frozen? ⟨w.heap.size, k, none⟩ = false := Blk.frozen HB.out _
        have HP := Lib.hid hp
        have hplI : ((Plain.pl first bs.length k : Nat) : Int) < (bs.length : Int) := by omega
        have hkI : (k : Int) < (m : Int) := by omega
        have hng : (⟨w.heap.size, k, none⟩ : Addr) ≠ ⟨g, 1, none⟩ := fun e => by injection e with e1; omega
        have hnb : ∀ q : Nat, (⟨w.heap.size, k, none⟩ : Addr) ≠ ⟨gb, q, none⟩ := fun q e => by injection e with e1; omega
        have hk0 : (0 : Int) ≤ (k : Int) := by omega
        have hk2 : (k : Int) ≤ 200000 := by omega
        generalize (Plain.rdRow (fun i => bs.getD (Plain.pl first bs.length i) 0) m k).getD k 0 = y at *
        generalize bs.getD (Plain.pl first bs.length k) 0 = x at *
        generalize Plain.pl first bs.length k = p at *
        clear hp
        go_wp2_with fail
        go_region_held3 (fun w' => w'.cell? ⟨g, 1, none⟩ = some (.slice (some ⟨gb, 0, none⟩) bs.length bs.length) ∧ w'.cell? ⟨gb, p, none⟩ = some (.int .u8 x))
          (first | exact ⟨c1, cb⟩ | exact ⟨(World.cell?_setCell_other _ _ _ _ hng).trans c1, (World.cell?_setCell_other _ _ _ _ (hnb _)).trans cb⟩)
          (first
            | (go_at_call 23; refine (place_any g gb gt nx bs ts first ready held (k : Int) _ (by first | exact HJ.out | exact HJ.out.drewN 1 | exact HJ.out.drewN _) hk0 hk2).mono ?_; rw [HP.out]; rintro e w4 ⟨rfl, q, rfl⟩))
        have J2 := Lib.hid (Jt.keeps (s := fun b => b = w.heap.size) (HJ.out.drewN (1 + q)) ((Keeps.refl (fun b => b = w.heap.size) _).setCell (g := w.heap.size) rfl k (.int .u8 x)) (by omega) (by omega) (by omega))
        have B2 : Hid (Blk ((wr.drewN (1 + q)).setCell ⟨w.heap.size, k, none⟩ (.int .u8 x)) w.heap.size 5 (u8s (Plain.rdRow (fun i => bs.getD (Plain.pl first bs.length i) 0) m (k + 1)))) := Lib.hid (by
          have := Blk.set_ (HB.out.drewN (1 + q)) k (.int .u8 x)
          rw [u8s_set, hset.out] at this
          exact this)
        have K2 := Lib.hid ((HK.out.drewN (1 + q)).setNew (Nat.le_refl _) k (.int .u8 x))
        go_wp2
        go_roundw
        case rel => exact ⟨k + 1, by go_num, by omega, J2, B2, K2⟩
        case measure => simp [intOf]; omega
      · have hkm : k = m := by omega
        subst hkm
        have hp : ((first : Int) + (k : Int)) % (bs.length : Int) = ((Plain.pl first bs.length k : Nat) : Int) := Plain.pl_cast first bs.length k
        have HP := Lib.hid hp
        have hpl := Plain.pl_lt first bs.length k r0
        have c3 := HJ.out.cells.2.2.2.1
        have c4' := HJ.out.cells.2.2.2.2.1
        have f3 := HJ.out.thaw 3
        have f4 := HJ.out.thaw 4
        clear hp
        go_wp2_with fail
        refine (place_any _ _ _ _ _ _ _ _ _ (k : Int) _ HJ.out (by omega) (by omega)).mono ?_
        rw [HP.out]
        rintro e w4 ⟨rfl, q, rfl⟩
        go_wp2
        go_ret2
        have J2 := ((HJ.out.drewN q).setTop.2.2.1 (Plain.pl first bs.length k) hpl).setTop.2.1 (ready - k) (by omega)
        have e1 : ((ready - k : Nat) : Int) = (ready : Int) - (k : Int) := by omega
        have hng : w.heap.size ≠ g := by omega
        refine ⟨rfl, ?_, ?_, ?_⟩
        · rw [e1] at J2; exact J2
        · have B2 := HB.out.drewN q
          rw [Plain.rdRow_all] at B2
          exact (B2.far (p := ⟨g, 3, none⟩) hng _).far (p := ⟨g, 4, none⟩) hng _
        · exact ((HK.out.drewN q).setCell (Or.inl rfl) _ _).setCell (Or.inl rfl) _ _
  · have hm3 : m = ready := by omega
    subst hm3
    clear hm2
    go_wp2_with (go_at_call 22; refine (made_yes _ _ _ _ _ _ _ _ _ _ H.out).mono ?_; rintro e w' ⟨rfl, rfl⟩)
    go_loopw [24] (fun j wr => ∃ k : Nat, j = .int .i64 k ∧ k ≤ m ∧ Hid (Jt wr g gb gt nx bs ts first m held) ∧ Hid (Blk wr w.heap.size 5 (u8s (Plain.rdRow (fun i => bs.getD (Plain.pl first bs.length i) 0) m k))) ∧ Hid (Keeps (Jb g gb gt) w wr)) (fun j _ => m - (intOf j).toNat)
    case atStart => exact ⟨0, rfl, by omega, sJ, sB, sK⟩
    case round =>
      obtain ⟨k, rfl, hk, HJ, HB, HK⟩ := hrel
      clear sJ sB sK
      by_cases hlt : k < m
      · have hpl := Plain.pl_lt first bs.length k r0
        have hp : ((first : Int) + (k : Int)) % (bs.length : Int) = ((Plain.pl first bs.length k : Nat) : Int) := Plain.pl_cast first bs.length k
        have hset : Hid ((Plain.rdRow (fun i => bs.getD (Plain.pl first bs.length i) 0) m k).set k (bs.getD (Plain.pl first bs.length k) 0) = Plain.rdRow (fun i => bs.getD (Plain.pl first bs.length i) 0) m (k + 1)) := Lib.hid (Plain.rdRow_set _ m k hlt)
        have c1 := HJ.out.cells.2.1
        have cb : wr.cell? ⟨gb, Plain.pl first bs.length k, none⟩ = some (.int .u8 (bs.getD (Plain.pl first bs.length k) 0)) := by rw [Blk.cell HJ.out.row _, u8s_get _ _ hpl]
        have cn : wr.cell? ⟨w.heap.size, k, none⟩ = some (.int .u8 ((Plain.rdRow (fun i => bs.getD (Plain.pl first bs.length i) 0) m k).getD k 0)) := by rw [Blk.cell HB.out _, u8s_get _ _ (by rw [Plain.rdRow_len]; exact hlt)]
        have fn : wr.frozen? ⟨w.heap.size, k, none⟩ = false := Blk.frozen HB.out _
        have HP := Lib.hid hp
        have hplI : ((Plain.pl first bs.length k : Nat) : Int) < (bs.length : Int) := by omega
        have hkI : (k : Int) < (m : Int) := by omega
        have hng : (⟨w.heap.size, k, none⟩ : Addr) ≠ ⟨g, 1, none⟩ := fun e => by injection e with e1; omega
        have hnb : ∀ q : Nat, (⟨w.heap.size, k, none⟩ : Addr) ≠ ⟨gb, q, none⟩ := fun q e => by injection e with e1; omega
        have hk0 : (0 : Int) ≤ (k : Int) := by omega
        have hk2 : (k : Int) ≤ 200000 := by omega
        generalize (Plain.rdRow (fun i => bs.getD (Plain.pl first bs.length i) 0) m k).getD k 0 = y at *
        generalize bs.getD (Plain.pl first bs.length k) 0 = x at *
        generalize Plain.pl first bs.length k = p at *
        clear hp
        go_wp2_with fail
        go_region_held3 (fun w' => w'.cell? ⟨g, 1, none⟩ = some (.slice (some ⟨gb, 0, none⟩) bs.length bs.length) ∧ w'.cell? ⟨gb, p, none⟩ = some (.int .u8 x))
          (first | exact ⟨c1, cb⟩ | exact ⟨(World.cell?_setCell_other _ _ _ _ hng).trans c1, (World.cell?_setCell_other _ _ _ _ (hnb _)).trans cb⟩)
          (first
            | (go_at_call 23; refine (place_any g gb gt nx bs ts first m held (k : Int) _ (by first | exact HJ.out | exact HJ.out.drewN 1 | exact HJ.out.drewN _) hk0 hk2).mono ?_; rw [HP.out]; rintro e w4 ⟨rfl, q, rfl⟩))
        have J2 := Lib.hid (Jt.keeps (s := fun b => b = w.heap.size) (HJ.out.drewN (1 + q)) ((Keeps.refl (fun b => b = w.heap.size) _).setCell (g := w.heap.size) rfl k (.int .u8 x)) (by omega) (by omega) (by omega))
        have B2 : Hid (Blk ((wr.drewN (1 + q)).setCell ⟨w.heap.size, k, none⟩ (.int .u8 x)) w.heap.size 5 (u8s (Plain.rdRow (fun i => bs.getD (Plain.pl first bs.length i) 0) m (k + 1)))) := Lib.hid (by
          have := Blk.set_ (HB.out.drewN (1 + q)) k (.int .u8 x)
          rw [u8s_set, hset.out] at this
          exact this)
        have K2 := Lib.hid ((HK.out.drewN (1 + q)).setNew (Nat.le_refl _) k (.int .u8 x))
        go_wp2
        go_roundw
        case rel => exact ⟨k + 1, by go_num, by omega, J2, B2, K2⟩
        case measure => simp [intOf]; omega
      · have hkm : k = m := by omega
        subst hkm
        have hp : ((first : Int) + (k : Int)) % (bs.length : Int) = ((Plain.pl first bs.length k : Nat) : Int) := Plain.pl_cast first bs.length k
        have HP := Lib.hid hp
        have hpl := Plain.pl_lt first bs.length k r0
        have c3 := HJ.out.cells.2.2.2.1
        have c4' := HJ.out.cells.2.2.2.2.1
        have f3 := HJ.out.thaw 3
        have f4 := HJ.out.thaw 4
        clear hp
        go_wp2_with fail
        refine (place_any _ _ _ _ _ _ _ _ _ (k : Int) _ HJ.out (by omega) (by omega)).mono ?_
        rw [HP.out]
        rintro e w4 ⟨rfl, q, rfl⟩
        go_wp2
        go_ret2
        have J2 := ((HJ.out.drewN q).setTop.2.2.1 (Plain.pl first bs.length k) hpl).setTop.2.1 (k - k) (by omega)
        have e1 : ((k - k : Nat) : Int) = 0 := by omega
        have hng : w.heap.size ≠ g := by omega
        refine ⟨rfl, ?_, ?_, ?_⟩
        · rw [e1] at J2; exact J2
        · have B2 := HB.out.drewN q
          rw [Plain.rdRow_all] at B2
          exact (B2.far (p := ⟨g, 3, none⟩) hng _).far (p := ⟨g, 4, none⟩) hng _
        · exact ((HK.out.drewN q).setCell (Or.inl rfl) _ _).setCell (Or.inl rfl) _ _
end Go.Proofs.Ytemphincefamfaa
