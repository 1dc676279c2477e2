/- What an address' text comes to, digit by digit. Conditions: the table of digits holds what its initialiser lays. -/
import Derived.Test.YtdnbcgdpaoclkaaDoorEthWorks
import Derived.Deep.RegionHeld3
import Derived.Laws.MakeOwn
set_option linter.unusedVariables false
set_option linter.unusedSimpArgs false
namespace Go.Proofs.YtdnbcgdpaoclkaaDoor
open Go.RowKit

theorem Digs.at_ {w : World} (h : Digs w) : ∀ i : Nat, i < 16 → w.cell? ⟨0, i, none⟩ = some (.int .u8 (tab.getD i 0)) := by
  intro i hi
  rcases i with _ | _ | _ | _ | _ | _ | _ | _ | _ | _ | _ | _ | _ | _ | _ | _ | i
  · exact h.c0
  · exact h.c1
  · exact h.c2
  · exact h.c3
  · exact h.c4
  · exact h.c5
  · exact h.c6
  · exact h.c7
  · exact h.c8
  · exact h.c9
  · exact h.c10
  · exact h.c11
  · exact h.c12
  · exact h.c13
  · exact h.c14
  · exact h.c15
  · omega
set_option maxRecDepth 10000 in
theorem bits_and_all : ∀ x : Fin 256, bits BinOp.and IntKind.u8 ((x : Nat) : Int) 15 = (((x : Nat) % 16 : Nat) : Int) := by decide
theorem tab_byte : ∀ i : Nat, i < 16 → 0 ≤ tab.getD i 0 ∧ tab.getD i 0 ≤ 255 := by decide
/-- The two digits of a byte. -/
def hx (x : Nat) : List Int := [tab.getD (x / 16) 0, tab.getD (x % 16) 0]
theorem grown_cell {w w' : World} {row : Option Nat} (hg : w.grownBy w' row) {p : Addr} (hp : p.block < w.heap.size) (hne : some p.block ≠ row) : w'.cell? p = w.cell? p := World.cell?_of_block (hg.block p.block hp hne)
set_option maxHeartbeats 2000000 in
theorem addHex_any (base : Nat) (v : Value) (n : Nat) (xs : List Int) (x : Nat) (w : World) (hD : Digs w) (h0 : 0 < base) (hb : base ≤ w.heap.size) (hx8 : x < 256) (hn : n ≤ 1000) (hown : w.ownsRow base 5 1 v n (vals xs)) :
    Calls Tryd.prog 32 #[v, .int .u8 (x : Int)] w fun e w' => ∃ v', e = .returned v' ∧ w'.ownsRow base 5 1 v' (n + 2) (vals (xs ++ hx x)) ∧ Below base w w' := by
  obtain ⟨i0, hi0, hz0, hz1, hz2⟩ := info_parts u8_info
  have ha := bits_and_all ⟨x, hx8⟩
  simp only at ha
  have tp := tab_byte (x / 16) (by omega)
  have tq := tab_byte (x % 16) (by omega)
  have d1 := hD.at_ (x / 16) (by omega)
  have d2 := hD.at_ (x % 16) (by omega)
  unfold hx
  generalize tab.getD (x / 16) 0 = p at *
  generalize tab.getD (x % 16) 0 = q at *
  obtain ⟨r, hr⟩ : ∃ r : Nat, x / 16 = r := ⟨_, rfl⟩
  obtain ⟨t, ht⟩ : ∃ t : Nat, x % 16 = t := ⟨_, rfl⟩
  have hr2 : (x : Int) / 16 = (r : Int) := by omega
  rw [hr] at d1
  rw [ht] at d2 ha
  have g1 : (r : Int) < 16 := by omega
  have g2 : (0 : Int) ≤ (r : Int) := by omega
  have g3 : (t : Int) < 16 := by omega
  have g4 : (0 : Int) ≤ (t : Int) := by omega
  clear hr ht
  have HO := Lib.hid hown
  clear hown
  go_enter Tryd.func32, Tryd.ntmps32
  have HA : Hid ((w.alloc (.cells #[.int .u8 p, .int .u8 q] 5)).ownsRow base 5 1 v n (vals xs)) := Lib.hid (own_keeps HO.out ((Keeps.refl (fun _ => False) w).alloc _) (fun _ _ h => h))
  have hwf : ∀ u ∈ [p, q], (Lit.int .u8 u).wf = true := by
    intro u hu
    simp at hu
    rcases hu with rfl | rfl <;> (simp [Lit.wf, IntKind.min, IntKind.max, IntKind.signed, IntKind.bits]; omega)
  have HR : Hid (Reads (w.alloc (.cells #[.int .u8 p, .int .u8 q] 5)) (w.alloc (.cells #[.int .u8 p, .int .u8 q] 5)).heap.size 1 (some ⟨w.heap.size, 0, none⟩) 2 (vals [p, q])) :=
    Lib.hid (Ints.reads (zs := [p, q]) (Ints.of_blk (zs := [p, q]) (Blk.new w 5 #[.int .u8 p, .int .u8 q]) hwf))
  have hbs : base ≤ (w.alloc (.cells #[.int .u8 p, .int .u8 q] 5)).heap.size := by simp; omega
  have hp0 : 0 < w.heap.size := by omega
  have hp1 : 0 < (w.alloc (.cells #[.int .u8 p, .int .u8 q] 5)).heap.size := by simp
  have hne : some 0 ≠ v.ownBlock := fun e => by have := (HO.out.lt 0 e.symm).1; omega
  have hbl : Below base w (w.alloc (.cells #[.int .u8 p, .int .u8 q] 5)) := (Below.refl _ _).alloc hb _
  have hlt : ∀ k, v.ownBlock = some k → base ≤ k := fun k hk => (HO.out.lt k hk).1
  go_wp2_with fail
  go_region_held3 (fun w' => w'.cell? ⟨0, r, none⟩ = some (.int .u8 p) ∧ w'.cell? ⟨0, t, none⟩ = some (.int .u8 q))
    (first | exact ⟨d1, d2⟩ | exact ⟨(World.cell?_alloc_lt _ _ _ hp0).trans d1, (World.cell?_alloc_lt _ _ _ hp0).trans d2⟩ | exact ⟨(grown_cell hg1 (by exact hp1) hne).trans ((World.cell?_alloc_lt _ _ _ (by exact hp0)).trans d1), (grown_cell hg1 (by exact hp1) hne).trans ((World.cell?_alloc_lt _ _ _ (by exact hp0)).trans d2)⟩)
    (first
      | (refine step_append_any _ rfl (.tmp 5) (.tmp 14) _ rfl base 5 i0 _ 1 1 Tryd.underlying25 hi0 hz0 hz1 hz2 rfl (by omega) v n (vals xs) rfl (by exact HA.out) (w.alloc (.cells #[.int .u8 p, .int .u8 q] 5)).heap.size (some ⟨w.heap.size, 0, none⟩) 2 2 (vals [p, q]) rfl (by exact HR.out) (vals_one _) (by unfold maxLen; omega) (by omega) (by exact hbs) ?_; intro v1 w1 hown1 hg1 hat1))
  go_wp2
  go_ret
  exact ⟨v1, rfl, by rw [vals_app]; exact hown1, hbl.drew.grown hg1 hbs hlt⟩
/-- An address' text, of so many of its bytes. -/
def textUp (zs : List Int) : Nat → List Int
  | 0 => []
  | i + 1 => textUp zs i ++ ((if i = 0 then [] else [58]) ++ hx (zs.getD i 0).toNat)
theorem textUp_len (zs : List Int) : ∀ i, (textUp zs i).length ≤ 3 * i
  | 0 => by simp [textUp]
  | i + 1 => by
    have := textUp_len zs i
    simp [textUp, hx]
    split <;> simp <;> omega
theorem hx_wf (x : Nat) (h : x < 256) : ∀ u ∈ hx x, 0 ≤ u ∧ u ≤ 255 := by
  intro u hu
  simp only [hx, List.mem_cons, List.not_mem_nil, or_false] at hu
  rcases hu with rfl | rfl
  · exact tab_byte _ (by omega)
  · exact tab_byte _ (by omega)
theorem textUp_wf (zs : List Int) (hz : ∀ i, 0 ≤ zs.getD i 0 ∧ zs.getD i 0 ≤ 255) : ∀ i, ∀ u ∈ textUp zs i, 0 ≤ u ∧ u ≤ 255
  | 0 => by simp [textUp]
  | i + 1 => by
    intro u hu
    simp only [textUp, List.mem_append] at hu
    rcases hu with hu | hu | hu
    · exact textUp_wf zs hz i u hu
    · split at hu
      · simp at hu
      · simp at hu; omega
    · exact hx_wf _ (by have := hz i; omega) u hu
def hx_ (zs : List Int) (i : Nat) : List Int := hx (zs.getD i 0).toNat
set_option maxHeartbeats 2000000 in
theorem text_any (z0 z1 z2 z3 z4 z5 : Int) (w : World) (hD : Digs w) (hz : ∀ i, 0 ≤ [z0, z1, z2, z3, z4, z5].getD i 0 ∧ [z0, z1, z2, z3, z4, z5].getD i 0 ≤ 255) :
    Calls Tryd.prog 25 #[.agg #[.int .u8 z0, .int .u8 z1, .int .u8 z2, .int .u8 z3, .int .u8 z4, .int .u8 z5]] w fun e w' => e = .returned (.string (strOfNums (textUp [z0, z1, z2, z3, z4, z5] 6))) ∧ Below w.heap.size w w' := by
  obtain ⟨i0, hi0, hy0, hy1, hy2⟩ := info_parts u8_info
  have hidx : ∀ (i : Nat) (W : World), i < 6 → (Instr.index 23 (.agg #[.int .u8 z0, .int .u8 z1, .int .u8 z2, .int .u8 z3, .int .u8 z4, .int .u8 z5]) (.int .i64 (i : Int))).run Tryd.prog W = .ok (.int .u8 ([z0, z1, z2, z3, z4, z5].getD i 0)) W := fun i W hi =>
    run_index_ints W .u8 23 5 6 Tryd.underlying23 Tryd.underlying5 (fun _ => Tryd.sizeOf5 _) [z0, z1, z2, z3, z4, z5] rfl i hi
  have HI := Lib.hid hidx
  have HZ := Lib.hid hz
  have b1 : Below w.heap.size w (w.alloc (.cells #[.int .u8 z0, .int .u8 z1, .int .u8 z2, .int .u8 z3, .int .u8 z4, .int .u8 z5] 23)) := (Below.refl _ _).alloc (Nat.le_refl _) _
  have hs1 : (w.alloc (.cells #[.int .u8 z0, .int .u8 z1, .int .u8 z2, .int .u8 z3, .int .u8 z4, .int .u8 z5] 23)).heap.size = w.heap.size + 1 := by simp
  have hD1 := hD.below hD.pos b1
  have mk : ∀ W : World, (Instr.makeSlice 25 (.int .i64 0) (.int .i64 17)).run Tryd.prog W = .ok (.slice (some ⟨W.heap.size, 0, none⟩) 0 17) (W.alloc (.cells (madeCells #[.int .u8 0] 17) 5)) := fun W => by
    have := run_makeSlice (P := Tryd.prog) W 25 5 i0 _ Tryd.underlying25 hi0 hy0 .i64 .i64 0 17 (by omega) (by omega) (by rw [hy1]; omega) (by rw [hy2]; omega) (by omega)
    rw [hy1] at this; simpa [Value.cells] using this
  have hmade : ∀ W : World, (W.alloc (.cells (madeCells #[.int .u8 0] 17) 5)).ownsRow W.heap.size 5 1 (.slice (some ⟨W.heap.size, 0, none⟩) 0 17) 0 [] := fun W => World.ownsRow_made W _ 17 (Nat.le_refl _) (by unfold maxLen; omega) (size_madeCells _ _)
  have HM := Lib.hid hmade
  generalize madeCells #[.int .u8 0] 17 = made at *
  clear hidx hz hmade hD
  go_enter Tryd.func25, Tryd.ntmps25
  go_wp2_with fail
  have h0 := HM.out (w.alloc (.cells #[.int .u8 z0, .int .u8 z1, .int .u8 z2, .int .u8 z3, .int .u8 z4, .int .u8 z5] 23))
  have b2 := b1.alloc b1.size (.cells made 5)
  have hD2 := hD1.below hD1.pos ((Below.refl _ _).alloc (Nat.le_refl _) (.cells made 5))
  rw [hs1] at h0
  have hs2 : ((w.alloc (.cells #[.int .u8 z0, .int .u8 z1, .int .u8 z2, .int .u8 z3, .int .u8 z4, .int .u8 z5] 23)).alloc (.cells made 5)).heap.size = w.heap.size + 2 := by simp
  generalize ((w.alloc (.cells #[.int .u8 z0, .int .u8 z1, .int .u8 z2, .int .u8 z3, .int .u8 z4, .int .u8 z5] 23)).alloc (.cells made 5)) = w2 at *
  generalize hzs : [z0, z1, z2, z3, z4, z5] = zs at *
  have HZS := Lib.hid hzs
  have H0 := Lib.hid h0
  clear h0 HM b1 hD1 hs1 mk hzs
  go_loopw [3, 8] (fun v x wr => ∃ i n : Nat, x = .int .i64 i ∧ i ≤ 6 ∧ n ≤ 3 * i ∧ Hid (wr.ownsRow (w.heap.size + 1) 5 1 v n (vals (textUp zs i))) ∧ Below (w.heap.size + 1) w2 wr) (fun _ x _ => 7 - (intOf x).toNat)
  case atStart => exact ⟨0, 0, rfl, by omega, by omega, H0, Below.refl _ _⟩
  case round =>
    obtain ⟨i, n, rfl, hi, hn, ho, hb⟩ := hrel
    have hDr : Digs wr := hD2.below (by omega) hb
    have hsr := hb.size
    by_cases hlt : i < 6
    · have hltI : (i : Int) < 6 := by omega
      have hx := HI.out i wr hlt
      have hz := HZ.out i
      have hup : textUp zs (i + 1) = textUp zs i ++ ((if i = 0 then [] else [58]) ++ hx_ zs i) := rfl
      obtain ⟨y, hy⟩ : ∃ y : Nat, zs.getD i 0 = (y : Int) := ⟨(zs.getD i 0).toNat, by omega⟩
      rw [hy] at hx hz
      have HUP : Hid (textUp zs (i + 1) = textUp zs i ++ ((if i = 0 then [] else [58]) ++ Go.Proofs.YtdnbcgdpaoclkaaDoor.hx y)) := Lib.hid (by rw [hup, hx_, hy]; rfl)
      clear hup
      by_cases h0 : i = 0
      · subst h0
        have hw := HUP.out
        simp only [if_true, List.nil_append] at hw
        have HW := Lib.hid hw
        have hx0 : (Instr.index 23 (.agg #[.int .u8 z0, .int .u8 z1, .int .u8 z2, .int .u8 z3, .int .u8 z4, .int .u8 z5]) (.int .i64 0)).run Tryd.prog wr = .ok (.int .u8 (y : Int)) wr := hx
        clear hw HUP hx
        go_wp2_with fail
        refine (addHex_any (w.heap.size + 1) _ n _ y wr hDr (by omega) (by omega) (by omega) (by omega) ho.out).mono ?_
        rintro e w3 ⟨v3, rfl, ho3, hb3⟩
        have ho4 : Hid (w3.ownsRow (w.heap.size + 1) 5 1 v3 (n + 2) (vals (textUp zs 1))) := Lib.hid (by rw [HW.out]; exact ho3)
        have hb4 := hb.trans hb3
        clear ho3
        go_wp2_with fail
        go_roundw
        case rel => exact ⟨1, n + 2, rfl, by omega, by omega, ho4, hb4⟩
        case measure => simp [intOf]
      · have hpos : (0 : Int) < (i : Int) := by omega
        have hw := HUP.out
        simp only [if_neg h0] at hw
        have HW := Lib.hid hw
        clear hw HUP
        have HA : Hid ((wr.alloc (.cells #[.int .u8 58] 5)).ownsRow (w.heap.size + 1) 5 1 u3 n (vals (textUp zs i))) := Lib.hid (own_keeps ho.out ((Keeps.refl (fun _ => False) wr).alloc _) (fun _ _ h => h))
        have HR : Hid (Reads (wr.alloc (.cells #[.int .u8 58] 5)) (wr.alloc (.cells #[.int .u8 58] 5)).heap.size 1 (some ⟨wr.heap.size, 0, none⟩) 1 (vals [58])) :=
          Lib.hid (Ints.reads (zs := [58]) (Ints.of_blk (zs := [58]) (Blk.new wr 5 #[.int .u8 58]) (by decide)))
        have hbs : w.heap.size + 1 ≤ (wr.alloc (.cells #[.int .u8 58] 5)).heap.size := by simp; omega
        have hlt3 : ∀ k, u3.ownBlock = some k → w.heap.size + 1 ≤ k := fun k hk => (ho.out.lt k hk).1
        have hbl : Below (w.heap.size + 1) w2 (wr.alloc (.cells #[.int .u8 58] 5)) := hb.alloc (by omega) _
        go_wp2_with (at_builtin; refine wpList_append_any _ rfl (.tmp 14) (.tmp 15) _ rfl (w.heap.size + 1) 5 i0 _ 1 1 Tryd.underlying25 hi0 hy0 hy1 hy2 rfl (by omega) u3 n (vals (textUp zs i)) rfl HA.out (wr.alloc (.cells #[.int .u8 58] 5)).heap.size (some ⟨wr.heap.size, 0, none⟩) 1 1 (vals [58]) rfl HR.out (vals_one _) (by unfold maxLen; omega) (by omega) hbs ?_; intro v1 w1 hown1 hg1 hat1; rw [← vals_app] at hown1; have HO1 := Lib.hid hown1; have HB1 := Lib.hid (hbl.grown hg1 hbs hlt3); clear hown1 hg1 hat1)
        have hs3 := HB1.out.size
        refine (addHex_any (w.heap.size + 1) _ (n + 1) _ y w1 (hD2.below (by omega) HB1.out) (by omega) (by omega) (by omega) (by omega) HO1.out).mono ?_
        rintro e w3 ⟨v3, rfl, ho3, hb3⟩
        have ho4 : Hid (w3.ownsRow (w.heap.size + 1) 5 1 v3 (n + 1 + 2) (vals (textUp zs (i + 1)))) := Lib.hid (by rw [HW.out, ← List.append_assoc]; exact ho3)
        have hb4 := HB1.out.trans hb3
        clear ho3
        go_wp2_with fail
        go_roundw
        case rel => exact ⟨i + 1, n + 1 + 2, by go_num, by omega, by omega, ho4, hb4⟩
        case measure => simp [intOf]; omega
    · have h6 : i = 6 := by omega
      subst h6
      obtain ⟨A6, c6, rfl, hc6, hl6, hI6, _⟩ := own_form ho.out (fun u hu => by
        have := textUp_wf zs HZ.out 6 u hu
        simp [Lit.wf, IntKind.min, IntKind.max, IntKind.signed, IntKind.bits]; omega)
      have hcv : (convert 25 9 (.slice A6 n c6)).run Tryd.prog wr = .ok (.string (strOfNums (textUp zs 6))) wr := by
        rw [hl6]; exact conv_bytes (P := Tryd.prog) Tryd.underlying25 Tryd.underlying5 Tryd.underlying9 wr _ _ _ c6 hI6
      have hbb : Below w.heap.size w wr := b2.trans (hb.mono (Nat.le_succ _))
      clear ho hI6 hl6
      go_wp2_with fail
      go_ret
      exact ⟨by rw [HZS.out]; rfl, hbb⟩
end Go.Proofs.YtdnbcgdpaoclkaaDoor
