/- What the law function JoinBounded comes to: true, whatever is added and read; nothing that was there is changed. Conditions: the calls' numbers and bytes are cells of memory. -/
import Derived.Test.YtemphincefamfaaJoinView
import Derived.Test.YtemphincefamfaaJoinLaw
import Derived.Test.YtemphincefamfaaInts
import Derived.StillTailTactics
set_option linter.unusedVariables false
set_option linter.unusedSimpArgs false
namespace Go.Proofs.Ytemphincefamfaa
open Go.RowKit

/-- A call that came in. -/
structure Act' where
  do_ : Int
  n : Int
  at_ : Int
  A : Option Addr
  zs : List Int
  cap : Nat
/-- A list of calls that came in. -/
def JActs (w : World) (B : Nat) (A : Option Addr) (len : Nat) (f : Nat → Act') : Prop :=
  0 < len → ∃ b off, A = some ⟨b, off, none⟩ ∧ b < B ∧ ∀ i, i < len → w.cell? ⟨b, off + i * 4, none⟩ = some (.int .i64 (f i).do_) ∧ w.cell? ⟨b, off + i * 4 + 1, none⟩ = some (.int .i64 (f i).n) ∧
    w.cell? ⟨b, off + i * 4 + 2, none⟩ = some (.int .u32 (f i).at_) ∧ w.cell? ⟨b, off + i * 4 + 3, none⟩ = some (.slice (f i).A (f i).zs.length (f i).cap) ∧
    0 ≤ (f i).at_ ∧ (f i).at_ < 4294967296 ∧ Ints .u8 w B (f i).A (f i).zs ∧ (f i).zs.length ≤ maxLen ∧ (f i).zs.length ≤ (f i).cap

set_option maxRecDepth 100000 in
set_option maxHeartbeats 1000000 in
theorem joinBounded_walk (nx room : Int) (A : Option Addr) (len c : Nat) (f : Nat → Act') (w : World) (n0 : 0 ≤ nx) (n1 : nx < 4294967296) (h : JActs w w.heap.size A len f) (hn : len ≤ maxLen) :
    Calls Try.prog 5 #[.int .u32 nx, .int .i64 room, .slice A len c] w fun e w' => e = .returned (.bool true) ∧ Below w.heap.size w w' := by
  have HI := Lib.hid h
  unfold maxLen at hn
  clear h
  go_enter Try.func5, Try.ntmps5
  go_wp2_with fail
  refine (jworks_any _).mono ?_
  rintro e w0 ⟨rfl, b0⟩
  go_wp2_with fail
  refine (among_any room _ _ (by omega) (by omega)).mono ?_
  rintro e w' ⟨q, hq, rfl, rfl⟩
  go_wp2_with fail
  refine (vNew nx (1 + q) _ (by omega) (by omega) n0 n1).mono ?_
  rintro e w1 ⟨g, gb, gt, rfl, h1, b1, l1, l2, l3⟩
  have B1 : Below w.heap.size w w1 := b0.trans (b1.mono b0.size)
  have hst : Hid (∃ nx G L, Jv w1 g gb gt nx (1 + q) G L) := Lib.hid ⟨_, _, _, h1⟩
  have hgl : w.heap.size ≤ g ∧ w.heap.size ≤ gb ∧ w.heap.size ≤ gt := by have := b0.size; omega
  clear h1
  go_wp2_with fail
  go_loopw [9] (fun k wr => ∃ i : Nat, k = .int .i64 i ∧ i ≤ 40 ∧ i ≤ len ∧ Hid (∃ nx G L, Jv wr g gb gt nx (1 + q) G L) ∧ Below w.heap.size w wr) (fun k _ => 41 - (intOf k).toNat)
  case atStart => exact ⟨0, rfl, by omega, by omega, hst, B1⟩
  case round =>
    obtain ⟨i, rfl, hi40, hil, hs, hB⟩ := hrel
    clear hst
    by_cases hlt : i < len
    · by_cases h40 : i < 40
      · obtain ⟨b, off, rfl, hb, hcell⟩ := HI.out (by omega)
        obtain ⟨c1, c2, c3, c4, ha0, ha1, hbs, hbl, hbc⟩ := hcell i hlt
        have hc1 := (hB.cell (p := ⟨b, off + i * 4, none⟩) hb).trans c1
        have hc2 := (hB.cell (p := ⟨b, off + i * 4 + 1, none⟩) hb).trans c2
        have hc3 := (hB.cell (p := ⟨b, off + i * 4 + 2, none⟩) hb).trans c3
        have hc4 := (hB.cell (p := ⟨b, off + i * 4 + 3, none⟩) hb).trans c4
        clear c1 c2 c3 c4 hcell
        have HBS := Lib.hid (hbs.below hB)
        clear hbs
        generalize f i = a at *
        obtain ⟨ado, an, aat, aA, azs, acap⟩ := a
        simp only at *
        obtain ⟨nx2, G, L, hJ⟩ := hs.out
        have HJ := Lib.hid hJ
        clear hs hJ
        go_wp2_with fail
        have HJ2 := Lib.hid (HJ.out.alloc (Obj.cells #[.int .i64 ado, .int .i64 an, .int .u32 aat, .slice aA azs.length acap] 34))
        have HBS2 := Lib.hid (HBS.out.keep (fun p hp => World.cell?_alloc_lt wr (Obj.cells #[.int .i64 ado, .int .i64 an, .int .u32 aat, .slice aA azs.length acap] 34) p (by have := hB.size; omega)))
        have hB2 := hB.alloc hB.size (Obj.cells #[.int .i64 ado, .int .i64 an, .int .u32 aat, .slice aA azs.length acap] 34)
        have bA := Blk.new wr 34 #[.int .i64 ado, .int .i64 an, .int .u32 aat, .slice aA azs.length acap]
        have a0 : (wr.alloc (Obj.cells #[.int .i64 ado, .int .i64 an, .int .u32 aat, .slice aA azs.length acap] 34)).cell? ⟨wr.heap.size, 0, none⟩ = some (.int .i64 ado) := Blk.cell bA 0
        have a1 : (wr.alloc (Obj.cells #[.int .i64 ado, .int .i64 an, .int .u32 aat, .slice aA azs.length acap] 34)).cell? ⟨wr.heap.size, 1, none⟩ = some (.int .i64 an) := Blk.cell bA 1
        have a2 : (wr.alloc (Obj.cells #[.int .i64 ado, .int .i64 an, .int .u32 aat, .slice aA azs.length acap] 34)).cell? ⟨wr.heap.size, 2, none⟩ = some (.int .u32 aat) := Blk.cell bA 2
        have a3 : (wr.alloc (Obj.cells #[.int .i64 ado, .int .i64 an, .int .u32 aat, .slice aA azs.length acap] 34)).cell? ⟨wr.heap.size, 3, none⟩ = some (.slice aA azs.length acap) := Blk.cell bA 3
        have hga : ∀ x, x = wr.heap.size → ¬ Jb g gb gt x := fun x hx => by have := HJ.out.blocks; unfold Jb; omega
        generalize wr.heap.size = ga at *
        generalize wr.alloc (Obj.cells #[.int .i64 ado, .int .i64 an, .int .u32 aat, .slice aA azs.length acap] 34) = w2 at *
        have HJ3 : Hid (Jv w2.drew g gb gt nx2 (1 + q) G L) := Lib.hid (HJ2.out.drewN 1)
        have HBS3 : Hid (Ints .u8 w2.drew w.heap.size aA azs) := HBS2
        have hB3 : Below w.heap.size w w2.drew := hB2.drew
        have d1 : w2.drew.cell? ⟨ga, 1, none⟩ = some (.int .i64 an) := a1
        have d0 : w2.drew.cell? ⟨ga, 0, none⟩ = some (.int .i64 ado) := a0
        have d2 : w2.drew.cell? ⟨ga, 2, none⟩ = some (.int .u32 aat) := a2
        have d3 : w2.drew.cell? ⟨ga, 3, none⟩ = some (.slice aA azs.length acap) := a3
        clear HJ2 HBS2 hB2 a0 a1 a2 a3 bA HJ HBS hB hc1 hc2 hc3 hc4
        obtain ⟨k, hk⟩ : ∃ k, (azs.take 60).length = k := ⟨_, rfl⟩
        have hk' := hk
        rw [List.length_take] at hk'
        have hmin : (if 60 < (azs.length : Int) then (60 : Int) else (azs.length : Int)) = (k : Int) := by split <;> omega
        have hk1 : (k : Int) ≤ (acap : Int) := by omega
        have hk60 : (k : Int) ≤ 60 := by omega
        have hkz := Lib.hid hk
        clear hk hk'
        refine wp_region_still_tail 13 (by kernel_rfl) (by kernel_rfl) ?_
        simp only [List.take_succ_cons, List.take_zero, List.drop_succ_cons, List.drop_zero]
        change wpStill _ _ w2.drew (fun a' => wpList _ _ _ _ a' w2.drew) _ _
        generalize w2.drew = w3 at *
        repeat still_step
        still_call ((vNext _ _ _ _ _ _ _ _ HJ3.out).mono fun _ _ ⟨h1, h2⟩ => ⟨h1, h2.symm⟩)
        repeat still_step
        refine wpStill_nil ?_
        go_wp2_with fail
        refine (vAdd' g gb gt nx2 (1 + q) G L _ aA (azs.take 60) k acap w3 HJ3.out (by omega) (by omega) (by rw [hkz.out]; omega) hkz.out w.heap.size (HBS3.out.take 60) hB3.size (by unfold Jb; omega)).mono ?_
        rintro e w4 ⟨m, rfl, hh, hJ4, k4⟩
        have hf4 := hJ4.few
        have hB4 : Below w.heap.size w w4 := hB3.trans (k4.below hB3.size (by unfold Jb; omega))
        have e0 := (k4.cell (p := ⟨ga, 0, none⟩) (block_lt d0) (hga _ rfl)).trans d0
        have e1 := (k4.cell (p := ⟨ga, 1, none⟩) (block_lt d1) (hga _ rfl)).trans d1
        generalize G ++ (List.range m).map (fun i => (Plain.lk (addL nx2 (((1 + q : Nat) : Int) - G.length) ((nx2 + aat) % 4294967296) (azs.take 60) L) i).getD 0) = G2 at *
        generalize Plain.shiftL m (addL nx2 (((1 + q : Nat) : Int) - G.length) ((nx2 + aat) % 4294967296) (azs.take 60) L) = L2 at *
        generalize (nx2 + (m : Int)) % 4294967296 = nx3 at *
        have HJ4 := Lib.hid hJ4
        clear hJ4 hh HJ3 HBS3 hB3 d0 d1 d2 d3 k4 hmin hk1 hk60 hkz
        obtain ⟨f1, f2, f3, f4, f5, f6⟩ := hf4
        go_wp2_with (first
          | (go_at_call 18; refine (vWindow g gb gt nx3 (1 + q) G2 L2 _ (by first | exact HJ4.out | exact HJ4.out.drewN _)).mono ?_; rintro e w5 ⟨rfl, nd, rfl⟩)
          | (go_at_call 20; refine (vReady g gb gt nx3 (1 + q) G2 L2 _ (by first | exact HJ4.out | exact HJ4.out.drewN _)).mono ?_; rintro e w5 ⟨rfl, rfl⟩)
          | (go_at_call 21; refine (vHeld g gb gt nx3 (1 + q) G2 L2 _ (by first | exact HJ4.out | exact HJ4.out.drewN _)).mono ?_; rintro e w5 ⟨rfl, rfl⟩))
        have HJ5 := Lib.hid (HJ4.out.drewN nd)
        have hB5 : Below w.heap.size w (w4.drewN nd) := ⟨hB4.os, hB4.tape, hB4.output, hB4.size, hB4.block⟩
        have g0 : (w4.drewN nd).cell? ⟨ga, 0, none⟩ = some (.int .i64 ado) := e0
        have g1 : (w4.drewN nd).cell? ⟨ga, 1, none⟩ = some (.int .i64 an) := e1
        clear e0 e1 hB4 HJ4
        generalize w4.drewN nd = w5 at *
        go_wp2_with (first
          | (go_at_call 17; refine (vNext g gb gt nx3 (1 + q) G2 L2 _ HJ5.out).mono ?_; rintro e w' ⟨rfl, rfl⟩)
          | (go_at_call 20; refine (vReady g gb gt nx3 (1 + q) G2 L2 _ HJ5.out).mono ?_; rintro e w' ⟨rfl, rfl⟩)
          | (go_at_call 21; refine (vHeld g gb gt nx3 (1 + q) G2 L2 _ HJ5.out).mono ?_; rintro e w' ⟨rfl, rfl⟩))
        refine (vWindow g gb gt nx3 (1 + q) G2 L2 _ HJ5.out).mono ?_
        rintro e w6' ⟨rfl, nd2, rfl⟩
        have HJ6 := Lib.hid (HJ5.out.drewN nd2)
        have hB6 : Below w.heap.size w (w5.drewN nd2) := ⟨hB5.os, hB5.tape, hB5.output, hB5.size, hB5.block⟩
        have i0 : (w5.drewN nd2).cell? ⟨ga, 0, none⟩ = some (.int .i64 ado) := g0
        have i1 : (w5.drewN nd2).cell? ⟨ga, 1, none⟩ = some (.int .i64 an) := g1
        clear g0 g1 hB5 HJ5
        generalize w5.drewN nd2 = w6 at *
        go_wp2_with fail
        have h7 := HJ6.out.alloc (Obj.cells #[.int .u8 1, .int .u8 2, .int .u8 3] 5)
        have bl7 := HJ6.out.blocks
        have b7 := Blk.new w6 5 #[.int .u8 1, .int .u8 2, .int .u8 3]
        refine (vAddOut g gb gt nx3 (1 + q) G2 L2 _ _ [1, 2, 3] 3 3 _ h7 (by omega) (by omega) (by decide) rfl (fun _ => ⟨_, 0, rfl, by simp, by unfold Jb; omega, fun i hi => by
          have hi3 : i = 0 ∨ i = 1 ∨ i = 2 := by simp at hi; omega
          rw [Nat.zero_add, Blk.cell b7]
          rcases hi3 with rfl | rfl | rfl <;> rfl⟩) (fun i hi => by
          simp at hi
          unfold Plain.way Plain.add
          omega)).mono ?_
        rintro e w7 ⟨rfl, h7, k7⟩
        have hB7 : Below w.heap.size w w7 := (hB6.alloc hB6.size _).trans (k7.below (by have := hB6.size; simp; omega) (by unfold Jb; omega))
        have j0 := (k7.cell (p := ⟨ga, 0, none⟩) (by have := block_lt i0; simp; omega) (hga _ rfl)).trans ((World.cell?_alloc_lt w6 _ ⟨ga, 0, none⟩ (block_lt i0)).trans i0)
        have j1 := (k7.cell (p := ⟨ga, 1, none⟩) (by have := block_lt i1; simp; omega) (hga _ rfl)).trans ((World.cell?_alloc_lt w6 _ ⟨ga, 1, none⟩ (block_lt i1)).trans i1)
        have HJ7 := Lib.hid h7
        clear h7 b7 HJ6 hB6 i0 i1 k7
        go_wp2_with (first
          | (go_at_call 17; refine (vNext g gb gt nx3 (1 + q) G2 L2 _ HJ7.out).mono ?_; rintro e w' ⟨rfl, rfl⟩)
          | (go_at_call 20; refine (vReady g gb gt nx3 (1 + q) G2 L2 _ HJ7.out).mono ?_; rintro e w' ⟨rfl, rfl⟩)
          | (go_at_call 21; refine (vHeld g gb gt nx3 (1 + q) G2 L2 _ HJ7.out).mono ?_; rintro e w' ⟨rfl, rfl⟩))
        refine (among_any ado _ _ (by omega) (by omega)).mono ?_
        rintro e w' ⟨q5, hq5, rfl, rfl⟩
        by_cases h4 : q5 = 4
        · subst h4
          go_wp2_with fail
          refine (among_any an _ _ (by omega) (by omega)).mono ?_
          rintro e w' ⟨q20, hq20, rfl, rfl⟩
          obtain ⟨m2, hm2⟩ : ∃ m2 : Nat, (m2 : Int) = min (q20 : Int) (G2.length : Int) := ⟨min q20 G2.length, by omega⟩
          go_wp2_with fail
          refine (vRead g gb gt nx3 (1 + q) G2 L2 _ m2 _ HJ7.out (by omega) hm2).mono ?_
          rintro e w8 ⟨rfl, h8, _, k8⟩
          have hB8 : Below w.heap.size w w8 := hB7.trans (k8.below hB7.size (by unfold Jb; omega))
          have H8 : Hid (∃ nx G L, Jv w8 g gb gt nx (1 + q) G L) := Lib.hid ⟨_, _, _, h8⟩
          clear h8 k8 hm2 HJ7
          go_wp2
          go_roundw
          case rel => exact ⟨i + 1, by go_num, by omega, by omega, H8, hB8⟩
          case measure => simp [intOf]; omega
        · have hq5 : ((q5 : Int) == 4) = false := by simp; omega
          have H8 : Hid (∃ nx G L, Jv w7 g gb gt nx (1 + q) G L) := Lib.hid ⟨_, _, _, HJ7.out⟩
          go_wp2
          go_roundw
          case rel => exact ⟨i + 1, by go_num, by omega, by omega, H8, hB7⟩
          case measure => simp [intOf]; omega
      · go_wp2
        go_ret
        exact ⟨rfl, hB⟩
    · go_wp2
      go_ret
      exact ⟨rfl, hB⟩
end Go.Proofs.Ytemphincefamfaa
