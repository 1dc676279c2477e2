/- What is handed on in a joint: the bytes that are held at next, one behind the other. Conditions: the joint, its bytes and its marks are blocks of memory of their own; not less than none is held. -/
import Derived.Test.YtemphincefamfaaJoin
set_option linter.unusedVariables false
set_option linter.unusedSimpArgs false
namespace Go.Proofs.Ytemphincefamfaa
open Go.RowKit

/-- So many bytes were handed on. -/
structure Handed (w : World) (g gb gt : Nat) (nx : Int) (bs : List Int) (ts : List Bool) (first ready : Nat) (held : Int) (n : Nat) (w' : World) : Prop where
  fit : ready + n ≤ bs.length
  all : ∀ i, i < n → ts.getD (Plain.pl first bs.length (ready + i)) false = true
  jt : Jt w' g gb gt ((nx + n) % 4294967296) bs (Plain.clr first bs.length ready ts n) first (ready + n) (held - n)
  kept : Keeps (Jb g gb gt) w w'
theorem Handed.drewN {w : World} {g gb gt : Nat} {nx : Int} {bs : List Int} {ts : List Bool} {first ready : Nat} {held : Int} {n : Nat} {w' : World} (h : Handed w g gb gt nx bs ts first ready held n w') (k : Nat) : Handed w g gb gt nx bs ts first ready held n (w'.drewN k) :=
  ⟨h.fit, h.all, h.jt.drewN k, h.kept.drewN k⟩
def HandPost (w : World) (g gb gt : Nat) (nx : Int) (bs : List Int) (ts : List Bool) (first ready : Nat) (held : Int) (e : Ending) (w' : World) : Prop :=
  ∃ n : Nat, e = .returned (.int .i64 n) ∧ Handed w g gb gt nx bs ts first ready held n w' ∧ (ready + n = bs.length ∨ ts.getD (Plain.pl first bs.length (ready + n)) false = false)

set_option maxRecDepth 100000 in
set_option maxHeartbeats 2000000 in
theorem hand_any (g gb gt : Nat) (nx : Int) (bs : List Int) (ts : List Bool) (first ready : Nat) (held : Int) (w : World) (h : Jt w g gb gt nx bs ts first ready held) (h0 : 0 ≤ held) :
    Calls Try.prog 28 #[.pointer (some ⟨g, 0, none⟩)] w (HandPost w g gb gt nx bs ts first ready held) := by
  have hstart : Handed w g gb gt nx bs ts first ready held 0 w := ⟨h.rdy, fun i hi => absurd hi (by omega), by have : (nx + ((0 : Nat) : Int)) % 4294967296 = nx := by have := h.n0; have := h.n1; omega
                                                                                                               rw [this]; simpa [Plain.clr] using h, Keeps.refl _ _⟩
  have HS := Lib.hid hstart
  have hroom := h.room
  have m1 := h.ne1
  have m2 := h.ne2
  have m3 := h.ne3
  have H := Lib.hid h
  clear h hstart
  go_enter Try.func28, Try.ntmps28
  go_wp2
  refine wp_scope_hops 0 (fun l a' w' => l = 0 ∧ ∃ (n : Nat) (u2 u4 u5 u6 u7 u8 u9 u10 u11 u12 u13 u14 u15 u16 u17 u18 u19 u20 u21 u22 u23 u24 u25 u26 u27 u28 u29 u30 u31 u32 u33 u34 u35 u36 u37 u38 u39 u40 u41 u42 u43 u44 u45 u46 u47 u48 u49 u50 u51 u52 u53 u54 u55 u56 u57 u58 u59 u60 : Value), a' = { tmps := #[.pointer (some ⟨g, 0, none⟩), undef, u2, .int .i64 n, u4, u5, u6, u7, u8, u9, u10, u11, u12, u13, u14, u15, u16, u17, u18, u19, u20, u21, u22, u23, u24, u25, u26, u27, u28, u29, u30, u31, u32, u33, u34, u35, u36, u37, u38, u39, u40, u41, u42, u43, u44, u45, u46, u47, u48, u49, u50, u51, u52, u53, u54, u55, u56, u57, u58, u59, u60], defers := [] } ∧ Handed w g gb gt nx bs ts first ready held n w') (fun a' _ => 70000 - (intOf (a'.tmps.getD 3 undef)).toNat) ?_ ?_
  · go_wp2
    have hn70 : 0 ≤ 65535 := by omega
    obtain ⟨c0, c1, c2, c3, c4, c5⟩ := H.out.cells
    have f0 := H.out.thaw 0
    have f4 := H.out.thaw 4
    have f5 := H.out.thaw 5
    have r2 := H.out.rdy
    have n0 := H.out.n0
    have n1 := H.out.n1
    have b0 := H.out.h0
    have b1 := H.out.h1
    have hpc : ((first : Int) + (ready : Int)) % (bs.length : Int) = ((Plain.pl first bs.length ready : Nat) : Int) := by rw [← Plain.pl_cast] <;> first | rfl | rw [Int.natCast_add]
    have hpl := Plain.pl_lt first bs.length ready H.out.some_
    have hplI : ((Plain.pl first bs.length ready : Nat) : Int) < (bs.length : Int) := by omega
    have hgt : ready < bs.length → ∀ x, ts.getD (Plain.pl first bs.length ready) false = x → w.cell? ⟨gt, Plain.pl first bs.length ready, none⟩ = some (.bool x) := fun hlt x hx => by
      rw [Blk.cell H.out.marks _, flags_get _ _ (by first | (rw [H.out.len]; exact hpl) | (rw [Plain.clr_len, H.out.len]; exact hpl)), hx]
    have ft : w.frozen? ⟨gt, Plain.pl first bs.length ready, none⟩ = false := Blk.frozen H.out.marks _
    have hcl : Hid (Plain.clr first bs.length ready ts 1 = ts.set (Plain.pl first bs.length ready) false) := Lib.hid rfl
    have HPC := Lib.hid hpc
    have HDD := Lib.hid HS.out
    have HJT := Lib.hid H.out
    have e1 : Hid (held - 1 = held - ((1 : Nat) : Int)) := Lib.hid (by omega)
    have e2 : Hid (Plain.add nx 1 = (nx + ((1 : Nat) : Int)) % 4294967296) := Lib.hid (by unfold Plain.add; omega)
    skip
    clear hpc
    by_cases hlt : ready < bs.length
    · have hltI : (ready : Int) < (bs.length : Int) := by omega
      cases hm : ts.getD (Plain.pl first bs.length ready) false
      · have ct := hgt hlt _ hm
        have HM := Lib.hid hm
        clear hgt hm
        go_step3; go_wp2_with fail
        refine (place_any _ _ _ _ _ _ _ _ _ _ _ HJT.out (by omega) (by omega)).mono ?_
        rw [HPC.out]
        rintro e w4 ⟨rfl, q, rfl⟩
        go_wp2_with fail
        go_quiet (fail)
        go_wp2
        try rw [hops_ret]
        go_ret
        exact ⟨0, by rfl, HDD.out.drewN _, Or.inr HM.out⟩
      · have ct := hgt hlt _ hm
        have HM := Lib.hid hm
        clear hgt hm
        go_step3; go_wp2_with fail
        refine (place_any _ _ _ _ _ _ _ _ _ _ _ HJT.out (by omega) (by omega)).mono ?_
        rw [HPC.out]
        rintro e w4 ⟨rfl, q, rfl⟩
        go_wp2_with fail
        go_quiet (fail)
        go_wp2_with fail
        refine (seqAdd_any _ _ _ n0 n1).mono ?_
        rintro e w5 ⟨rfl, rfl⟩
        go_wp2
        go_step3
        simp only [Exit.then]
        have HD := HDD.out
        refine hop_at ⟨rfl, 1, _, _, _, _, _, _, _, _, _, _, _, _, _, _, _, _, _, _, _, _, _, _, _, _, _, _, _, _, _, _, _, _, _, _, _, _, _, _, _, _, _, _, _, _, _, _, _, _, _, _, _, _, _, _, _, _, _, _, by rfl, ⟨by omega, ?_, ?_, ?_⟩⟩
        · exact fun i hi => by
            have : i = 0 := by omega
            subst this; exact HM.out
        · rw [hcl.out, ← e1.out, ← e2.out]
          exact ((((HJT.out.drewN _).setMark (Plain.pl first bs.length ready) false).setTop.1 _ (by omega) (by omega)).setTop.2.1 (ready + 1) (by omega)).setTop.2.2.2 _ (Plain.add_range _ _).1 (Plain.add_range _ _).2
        · exact ((((((Keeps.refl (Jb g gb gt) w)).drewN _).setCell (Or.inr (Or.inr rfl)) _ _).setCell (Or.inl rfl) _ _).setCell (Or.inl rfl) _ _).setCell (Or.inl rfl) _ _
    · have hltI : decide ((ready : Int) < (bs.length : Int)) = false := by simp; omega
      clear hgt
      go_step3; go_wp2_with fail
      refine (place_any _ _ _ _ _ _ _ _ _ _ _ HJT.out (by omega) (by omega)).mono ?_
      rw [HPC.out]
      rintro e w4 ⟨rfl, q, rfl⟩
      go_wp2_with fail
      go_quiet (fail)
      go_wp2
      try rw [hops_ret]
      go_ret
      exact ⟨0, by rfl, HDD.out.drewN _, Or.inl (by have := HDD.out.fit; omega)⟩
  · rintro l a' w' ⟨rfl, n, u2, u4, u5, u6, u7, u8, u9, u10, u11, u12, u13, u14, u15, u16, u17, u18, u19, u20, u21, u22, u23, u24, u25, u26, u27, u28, u29, u30, u31, u32, u33, u34, u35, u36, u37, u38, u39, u40, u41, u42, u43, u44, u45, u46, u47, u48, u49, u50, u51, u52, u53, u54, u55, u56, u57, u58, u59, u60, rfl, HD⟩
    refine ⟨_, by rfl, ?_⟩
    have hn70 : n ≤ 65535 := by have := HD.fit; omega
    obtain ⟨c0, c1, c2, c3, c4, c5⟩ := HD.jt.cells
    have f0 := HD.jt.thaw 0
    have f4 := HD.jt.thaw 4
    have f5 := HD.jt.thaw 5
    have r2 := HD.jt.rdy
    have n0 := HD.jt.n0
    have n1 := HD.jt.n1
    have b0 := HD.jt.h0
    have b1 := HD.jt.h1
    have hpc : ((first : Int) + ((ready : Int) + (n : Int))) % (bs.length : Int) = ((Plain.pl first bs.length (ready + n) : Nat) : Int) := by rw [← Plain.pl_cast] <;> first | rfl | rw [Int.natCast_add]
    have hpl := Plain.pl_lt first bs.length (ready + n) H.out.some_
    have hplI : ((Plain.pl first bs.length (ready + n) : Nat) : Int) < (bs.length : Int) := by omega
    have hgt : ready + n < bs.length → ∀ x, ts.getD (Plain.pl first bs.length (ready + n)) false = x → w'.cell? ⟨gt, Plain.pl first bs.length (ready + n), none⟩ = some (.bool x) := fun hlt x hx => by
      rw [Blk.cell HD.jt.marks _, flags_get _ _ (by first | (rw [H.out.len]; exact hpl) | (rw [Plain.clr_len, H.out.len]; exact hpl)), Plain.clr_get _ _ _ _ _ _ H.out.fst hlt (Nat.le_refl _), hx]
    have ft : w'.frozen? ⟨gt, Plain.pl first bs.length (ready + n), none⟩ = false := Blk.frozen HD.jt.marks _
    have hcl : Hid (Plain.clr first bs.length ready ts (n + 1) = (Plain.clr first bs.length ready ts n).set (Plain.pl first bs.length (ready + n)) false) := Lib.hid rfl
    have HPC := Lib.hid hpc
    have HDD := Lib.hid HD
    have HJT := Lib.hid HD.jt
    have e1 : Hid (held - (n : Int) - 1 = held - ((n + 1 : Nat) : Int)) := Lib.hid (by omega)
    have e2 : Hid (Plain.add ((nx + (n : Int)) % 4294967296) 1 = (nx + ((n + 1 : Nat) : Int)) % 4294967296) := Lib.hid (by unfold Plain.add; omega)
    clear HD
    clear hpc
    by_cases hlt : ready + n < bs.length
    · have hltI : ((ready : Int) + (n : Int)) < (bs.length : Int) := by omega
      cases hm : ts.getD (Plain.pl first bs.length (ready + n)) false
      · have ct := hgt hlt _ hm
        have HM := Lib.hid hm
        clear hgt hm
        go_wp2_with fail
        refine (place_any _ _ _ _ _ _ _ _ _ _ _ HJT.out (by omega) (by omega)).mono ?_
        rw [HPC.out]
        rintro e w4 ⟨rfl, q, rfl⟩
        go_wp2_with fail
        go_quiet (fail)
        go_wp2
        try rw [hops_ret]
        go_ret
        exact ⟨n, by rfl, HDD.out.drewN _, Or.inr HM.out⟩
      · have ct := hgt hlt _ hm
        have HM := Lib.hid hm
        clear hgt hm
        go_wp2_with fail
        refine (place_any _ _ _ _ _ _ _ _ _ _ _ HJT.out (by omega) (by omega)).mono ?_
        rw [HPC.out]
        rintro e w4 ⟨rfl, q, rfl⟩
        go_wp2_with fail
        go_quiet (fail)
        go_wp2_with fail
        refine (seqAdd_any _ _ _ n0 n1).mono ?_
        rintro e w5 ⟨rfl, rfl⟩
        go_wp2
        go_step3
        simp only [Exit.then]
        have HD := HDD.out
        refine hop_at ⟨⟨rfl, (n + 1), _, _, _, _, _, _, _, _, _, _, _, _, _, _, _, _, _, _, _, _, _, _, _, _, _, _, _, _, _, _, _, _, _, _, _, _, _, _, _, _, _, _, _, _, _, _, _, _, _, _, _, _, _, _, _, _, _, _, by rfl, ⟨by omega, ?_, ?_, ?_⟩⟩, by simp [intOf]; omega⟩
        · exact fun i hi => by
            by_cases hin : i < n
            · exact HD.all i hin
            · have : i = n := by omega
              subst this; exact HM.out
        · rw [hcl.out, ← e1.out, ← e2.out]
          exact ((((HJT.out.drewN _).setMark (Plain.pl first bs.length (ready + n)) false).setTop.1 _ (by omega) (by omega)).setTop.2.1 ((ready + n) + 1) (by omega)).setTop.2.2.2 _ (Plain.add_range _ _).1 (Plain.add_range _ _).2
        · exact (((((HD.kept).drewN _).setCell (Or.inr (Or.inr rfl)) _ _).setCell (Or.inl rfl) _ _).setCell (Or.inl rfl) _ _).setCell (Or.inl rfl) _ _
    · have hltI : decide (((ready : Int) + (n : Int)) < (bs.length : Int)) = false := by simp; omega
      clear hgt
      go_wp2_with fail
      refine (place_any _ _ _ _ _ _ _ _ _ _ _ HJT.out (by omega) (by omega)).mono ?_
      rw [HPC.out]
      rintro e w4 ⟨rfl, q, rfl⟩
      go_wp2_with fail
      go_quiet (fail)
      go_wp2
      try rw [hops_ret]
      go_ret
      exact ⟨n, by rfl, HDD.out.drewN _, Or.inl (by have := HDD.out.fit; omega)⟩
end Go.Proofs.Ytemphincefamfaa
