/- What the calls of a joint come to: a ring of bytes, of which some are held, and some ready. Conditions: the joint, its bytes and its marks are blocks of memory of their own. -/
import Derived.Test.YtemphincefamfaaRows
import Derived.Test.YtemphincefamfaaPlain12
import Derived.Test.YtemphincefamfaaKeeps
import Derived.Test.YtemphincefamfaaSeqC
import Derived.Outline
import Derived.Deep.QuietTactic
import Derived.BigQuiet
import Derived.BigRegion
set_option linter.unusedVariables false
set_option linter.unusedSimpArgs false
namespace Go.Proofs.Ytemphincefamfaa
open Go.RowKit

def u8s (zs : List Int) : Array Value := (zs.map (Value.int .u8)).toArray
def flags (ts : List Bool) : Array Value := (ts.map Value.bool).toArray
theorem u8s_get (zs : List Int) (i : Nat) (h : i < zs.length) : (u8s zs)[i]? = some (.int .u8 (zs.getD i 0)) := by
  unfold u8s; simp [List.getD_eq_getElem?_getD, List.getElem?_eq_getElem h]
theorem flags_get (ts : List Bool) (i : Nat) (h : i < ts.length) : (flags ts)[i]? = some (.bool (ts.getD i false)) := by
  unfold flags; simp [List.getD_eq_getElem?_getD, List.getElem?_eq_getElem h]
theorem u8s_set (zs : List Int) (i : Nat) (x : Int) : (u8s zs).setIfInBounds i (.int .u8 x) = u8s (zs.set i x) := by
  unfold u8s; simp [List.map_set]
theorem flags_set (ts : List Bool) (i : Nat) (x : Bool) : (flags ts).setIfInBounds i (.bool x) = flags (ts.set i x) := by
  unfold flags; simp [List.map_set]

/-- A joint in memory: block g, its bytes in block gb, its marks in block gt. -/
structure Jt (w : World) (g gb gt : Nat) (nx : Int) (bs : List Int) (ts : List Bool) (first ready : Nat) (held : Int) : Prop where
  top : Blk w g 55 #[.int .u32 nx, .slice (some ⟨gb, 0, none⟩) bs.length bs.length, .slice (some ⟨gt, 0, none⟩) bs.length bs.length, .int .i64 first, .int .i64 ready, .int .i64 held]
  row : Blk w gb 5 (u8s bs)
  marks : Blk w gt 4 (flags ts)
  len : ts.length = bs.length
  some_ : 1 ≤ bs.length
  room : bs.length ≤ 65535
  fst : first < bs.length
  rdy : ready ≤ bs.length
  n0 : 0 ≤ nx
  n1 : nx < 4294967296
  h0 : -1000000 ≤ held
  h1 : held ≤ 1000000

section
variable {w w' : World} {g gb gt : Nat} {nx : Int} {bs : List Int} {ts : List Bool} {first ready : Nat} {held : Int}
theorem Jt.cells (h : Jt w g gb gt nx bs ts first ready held) : w.cell? ⟨g, 0, none⟩ = some (.int .u32 nx) ∧ w.cell? ⟨g, 1, none⟩ = some (.slice (some ⟨gb, 0, none⟩) bs.length bs.length) ∧ w.cell? ⟨g, 2, none⟩ = some (.slice (some ⟨gt, 0, none⟩) bs.length bs.length) ∧ w.cell? ⟨g, 3, none⟩ = some (.int .i64 first) ∧ w.cell? ⟨g, 4, none⟩ = some (.int .i64 ready) ∧ w.cell? ⟨g, 5, none⟩ = some (.int .i64 held) :=
  ⟨Blk.cell h.top 0, Blk.cell h.top 1, Blk.cell h.top 2, Blk.cell h.top 3, Blk.cell h.top 4, Blk.cell h.top 5⟩
theorem Jt.thaw (h : Jt w g gb gt nx bs ts first ready held) (i : Nat) : w.frozen? ⟨g, i, none⟩ = false := Blk.frozen h.top i
theorem Jt.ne1 (h : Jt w g gb gt nx bs ts first ready held) : g ≠ gb := Blk.ne_ h.top h.row (by decide)
theorem Jt.ne2 (h : Jt w g gb gt nx bs ts first ready held) : g ≠ gt := Blk.ne_ h.top h.marks (by decide)
theorem Jt.ne3 (h : Jt w g gb gt nx bs ts first ready held) : gb ≠ gt := Blk.ne_ h.row h.marks (by decide)
theorem Jt.keeps {s : Nat → Prop} (h : Jt w g gb gt nx bs ts first ready held) (hk : Keeps s w w') (k1 : ¬ s g) (k2 : ¬ s gb) (k3 : ¬ s gt) : Jt w' g gb gt nx bs ts first ready held :=
  { h with top := hk.blk h.top k1, row := hk.blk h.row k2, marks := hk.blk h.marks k3 }
/-- The blocks of a joint. -/
def Jb (g gb gt : Nat) (k : Nat) : Prop := k = g ∨ k = gb ∨ k = gt
end

theorem made_yes (g gb gt : Nat) (nx : Int) (bs : List Int) (ts : List Bool) (first ready : Nat) (held : Int) (w : World) (h : Jt w g gb gt nx bs ts first ready held) :
    Calls Try.prog 22 #[.pointer (some ⟨g, 0, none⟩)] w fun e w' => e = .returned (.bool true) ∧ w = w' := by
  obtain ⟨c0, c1, c2, c3, c4, c5⟩ := h.cells
  have r0 := h.some_
  have hpos : (0 : Int) < (bs.length : Int) := by omega
  clear h c0 c2 c3 c4 c5
  go_enter Try.func22, Try.ntmps22
  go_wp2
  go_ret
  exact ⟨ret_bool (by simp; omega), rfl⟩
theorem jnext_any (g gb gt : Nat) (nx : Int) (bs : List Int) (ts : List Bool) (first ready : Nat) (held : Int) (w : World) (h : Jt w g gb gt nx bs ts first ready held) :
    Calls Try.prog 17 #[.pointer (some ⟨g, 0, none⟩)] w fun e w' => e = .returned (.int .u32 nx) ∧ w = w' := by
  obtain ⟨c0, c1, c2, c3, c4, c5⟩ := h.cells
  have H := Lib.hid h
  clear h c1 c2 c3 c4 c5
  go_enter Try.func17, Try.ntmps17
  go_wp2_with (go_at_call 22; refine (made_yes _ _ _ _ _ _ _ _ _ _ H.out).mono ?_; rintro e w' ⟨rfl, rfl⟩)
  go_ret
  exact ⟨rfl, rfl⟩
theorem jready_any (g gb gt : Nat) (nx : Int) (bs : List Int) (ts : List Bool) (first ready : Nat) (held : Int) (w : World) (h : Jt w g gb gt nx bs ts first ready held) :
    Calls Try.prog 20 #[.pointer (some ⟨g, 0, none⟩)] w fun e w' => e = .returned (.int .i64 ready) ∧ w = w' := by
  obtain ⟨c0, c1, c2, c3, c4, c5⟩ := h.cells
  have H := Lib.hid h
  clear h c0 c1 c2 c3 c5
  go_enter Try.func20, Try.ntmps20
  go_wp2_with (go_at_call 22; refine (made_yes _ _ _ _ _ _ _ _ _ _ H.out).mono ?_; rintro e w' ⟨rfl, rfl⟩)
  go_ret
  exact ⟨rfl, rfl⟩
theorem jheld_any (g gb gt : Nat) (nx : Int) (bs : List Int) (ts : List Bool) (first ready : Nat) (held : Int) (w : World) (h : Jt w g gb gt nx bs ts first ready held) :
    Calls Try.prog 21 #[.pointer (some ⟨g, 0, none⟩)] w fun e w' => e = .returned (.int .i64 held) ∧ w = w' := by
  obtain ⟨c0, c1, c2, c3, c4, c5⟩ := h.cells
  have H := Lib.hid h
  clear h c0 c1 c2 c3 c4
  go_enter Try.func21, Try.ntmps21
  go_wp2_with (go_at_call 22; refine (made_yes _ _ _ _ _ _ _ _ _ _ H.out).mono ?_; rintro e w' ⟨rfl, rfl⟩)
  go_ret
  exact ⟨rfl, rfl⟩
theorem jwindow_any (g gb gt : Nat) (nx : Int) (bs : List Int) (ts : List Bool) (first ready : Nat) (held : Int) (w : World) (h : Jt w g gb gt nx bs ts first ready held) :
    Calls Try.prog 18 #[.pointer (some ⟨g, 0, none⟩)] w fun e w' => e = .returned (.int .i64 ((bs.length : Int) - ready)) ∧ ∃ n, w' = w.drewN n := by
  obtain ⟨c0, c1, c2, c3, c4, c5⟩ := h.cells
  have H := Lib.hid h
  have r1 := h.room
  have r2 := h.rdy
  clear h c0 c2 c3 c5
  go_enter Try.func18, Try.ntmps18
  go_wp2_with (go_at_call 22; refine (made_yes _ _ _ _ _ _ _ _ _ _ H.out).mono ?_; rintro e w' ⟨rfl, rfl⟩)
  go_quiet (fail)
  go_wp2
  go_ret
  exact ⟨rfl, _, rfl⟩
theorem place_any (g gb gt : Nat) (nx : Int) (bs : List Int) (ts : List Bool) (first ready : Nat) (held : Int) (i : Int) (w : World) (h : Jt w g gb gt nx bs ts first ready held) (i0 : 0 ≤ i) (i1 : i ≤ 200000) :
    Calls Try.prog 23 #[.pointer (some ⟨g, 0, none⟩), .int .i64 i] w fun e w' => e = .returned (.int .i64 (((first : Int) + i) % bs.length)) ∧ ∃ n, w' = w.drewN n := by
  obtain ⟨c0, c1, c2, c3, c4, c5⟩ := h.cells
  have r0 := h.some_
  have r1 := h.room
  have r2 := h.fst
  have hne : ((bs.length : Int) == 0) = false := beq_eq_false_iff_ne.2 (by omega)
  have hp1 : 1 ≤ (bs.length : Int) := by omega
  clear h c0 c2 c4 c5
  go_enter Try.func23, Try.ntmps23
  go_wp2
  go_quiet (fail)
  go_wp2
  go_ret
  exact ⟨rfl, _, rfl⟩

theorem Jt.setTop {w : World} {g gb gt : Nat} {nx : Int} {bs : List Int} {ts : List Bool} {first ready : Nat} {held : Int} (h : Jt w g gb gt nx bs ts first ready held) :
    (∀ x : Int, -1000000 ≤ x → x ≤ 1000000 → Jt (w.setCell ⟨g, 5, none⟩ (.int .i64 x)) g gb gt nx bs ts first ready x) ∧
    (∀ x : Nat, x ≤ bs.length → Jt (w.setCell ⟨g, 4, none⟩ (.int .i64 x)) g gb gt nx bs ts first x held) ∧
    (∀ x : Nat, x < bs.length → Jt (w.setCell ⟨g, 3, none⟩ (.int .i64 x)) g gb gt nx bs ts x ready held) ∧
    (∀ x : Int, 0 ≤ x → x < 4294967296 → Jt (w.setCell ⟨g, 0, none⟩ (.int .u32 x)) g gb gt x bs ts first ready held) := by
  have n1 := h.ne1
  have n2 := h.ne2
  refine ⟨fun x x0 x1 => ?_, fun x x1 => ?_, fun x x1 => ?_, fun x x0 x1 => ?_⟩
  · exact { h with top := by have := Blk.set_ h.top 5 (.int .i64 x); simpa using this, row := h.row.far (p := ⟨g, 5, none⟩) (Ne.symm n1) _, marks := h.marks.far (p := ⟨g, 5, none⟩) (Ne.symm n2) _, h0 := x0, h1 := x1 }
  · exact { h with top := by have := Blk.set_ h.top 4 (.int .i64 x); simpa using this, row := h.row.far (p := ⟨g, 4, none⟩) (Ne.symm n1) _, marks := h.marks.far (p := ⟨g, 4, none⟩) (Ne.symm n2) _, rdy := x1 }
  · exact { h with top := by have := Blk.set_ h.top 3 (.int .i64 x); simpa using this, row := h.row.far (p := ⟨g, 3, none⟩) (Ne.symm n1) _, marks := h.marks.far (p := ⟨g, 3, none⟩) (Ne.symm n2) _, fst := x1 }
  · exact { h with top := by have := Blk.set_ h.top 0 (.int .u32 x); simpa using this, row := h.row.far (p := ⟨g, 0, none⟩) (Ne.symm n1) _, marks := h.marks.far (p := ⟨g, 0, none⟩) (Ne.symm n2) _, n0 := x0, n1 := x1 }
theorem Jt.setMark {w : World} {g gb gt : Nat} {nx : Int} {bs : List Int} {ts : List Bool} {first ready : Nat} {held : Int} (h : Jt w g gb gt nx bs ts first ready held) (i : Nat) (b : Bool) :
    Jt (w.setCell ⟨gt, i, none⟩ (.bool b)) g gb gt nx bs (ts.set i b) first ready held :=
  { h with top := h.top.far (p := ⟨gt, i, none⟩) h.ne2 _, row := h.row.far (p := ⟨gt, i, none⟩) h.ne3 _, marks := by have := Blk.set_ h.marks i (.bool b); rw [flags_set] at this; exact this, len := by rw [List.length_set]; exact h.len }
theorem Jt.setByte {w : World} {g gb gt : Nat} {nx : Int} {bs : List Int} {ts : List Bool} {first ready : Nat} {held : Int} (h : Jt w g gb gt nx bs ts first ready held) (i : Nat) (x : Int) :
    Jt (w.setCell ⟨gb, i, none⟩ (.int .u8 x)) g gb gt nx (bs.set i x) ts first ready held := by
  have hl : (bs.set i x).length = bs.length := List.length_set
  exact { top := by rw [hl]; exact h.top.far (p := ⟨gb, i, none⟩) h.ne1 _, row := by have := Blk.set_ h.row i (.int .u8 x); rw [u8s_set] at this; exact this, marks := h.marks.far (p := ⟨gb, i, none⟩) (Ne.symm h.ne3) _, len := by rw [hl]; exact h.len, some_ := by rw [hl]; exact h.some_, room := by rw [hl]; exact h.room, fst := by rw [hl]; exact h.fst, rdy := by rw [hl]; exact h.rdy, n0 := h.n0, n1 := h.n1, h0 := h.h0, h1 := h.h1 }
theorem Jt.drewN {w : World} {g gb gt : Nat} {nx : Int} {bs : List Int} {ts : List Bool} {first ready : Nat} {held : Int} (h : Jt w g gb gt nx bs ts first ready held) (n : Nat) : Jt (w.drewN n) g gb gt nx bs ts first ready held :=
  { h with top := h.top, row := h.row, marks := h.marks }

/-- A byte is held, or there is one. -/
theorem hold_there (g gb gt : Nat) (nx : Int) (bs : List Int) (ts : List Bool) (first ready : Nat) (held : Int) (way x : Int) (w : World) (h : Jt w g gb gt nx bs ts first ready held) (i0 : 0 ≤ way) (i1 : way ≤ 100000)
    (p : Nat) (hp : ((first : Int) + ((ready : Int) + way)) % bs.length = p) (ht : ts.getD p false = true) :
    Calls Try.prog 27 #[.pointer (some ⟨g, 0, none⟩), .int .i64 way, .int .u8 x] w fun e w' => e = .returned (.tuple #[]) ∧ ∃ n, w' = w.drewN n := by
  obtain ⟨c0, c1, c2, c3, c4, c5⟩ := h.cells
  have H := Lib.hid h
  have r1 := h.room
  have r2 := h.rdy
  have r0 := h.some_
  have hpl : p < bs.length := by
    have := Int.emod_lt_of_pos ((first : Int) + ((ready : Int) + way)) (show (0 : Int) < bs.length by omega)
    omega
  have ct : w.cell? ⟨gt, p, none⟩ = some (.bool true) := by rw [Blk.cell h.marks p, flags_get _ _ (by rw [h.len]; exact hpl), ht]
  have HP := Lib.hid hp
  have hp1 : (p : Int) < (bs.length : Int) := by omega
  clear h c0 c1 c3 c5 hp ht
  go_enter Try.func27, Try.ntmps27
  go_wp2_with fail
  refine (place_any _ _ _ _ _ _ _ _ _ _ _ H.out (by omega) (by omega)).mono ?_
  rw [HP.out]
  rintro e w' ⟨rfl, n, rfl⟩
  go_wp2
  go_end0
  exact ⟨rfl, _, rfl⟩
theorem hold_new (g gb gt : Nat) (nx : Int) (bs : List Int) (ts : List Bool) (first ready : Nat) (held : Int) (way x : Int) (w : World) (h : Jt w g gb gt nx bs ts first ready held) (i0 : 0 ≤ way) (i1 : way ≤ 100000)
    (p : Nat) (hp : ((first : Int) + ((ready : Int) + way)) % bs.length = p) (ht : ts.getD p false = false) (hh : held < 1000000) :
    Calls Try.prog 27 #[.pointer (some ⟨g, 0, none⟩), .int .i64 way, .int .u8 x] w fun e w' => e = .returned (.tuple #[]) ∧ Jt w' g gb gt nx (bs.set p x) (ts.set p true) first ready (held + 1) ∧ Keeps (Jb g gb gt) w w' := by
  obtain ⟨c0, c1, c2, c3, c4, c5⟩ := h.cells
  have f5 := h.thaw 5
  have H := Lib.hid h
  have r1 := h.room
  have r2 := h.rdy
  have r0 := h.some_
  have h0 := h.h0
  have hpl : p < bs.length := by
    have := Int.emod_lt_of_pos ((first : Int) + ((ready : Int) + way)) (show (0 : Int) < bs.length by omega)
    omega
  have ct : w.cell? ⟨gt, p, none⟩ = some (.bool false) := by rw [Blk.cell h.marks p, flags_get _ _ (by rw [h.len]; exact hpl), ht]
  have cb : w.cell? ⟨gb, p, none⟩ = some (.int .u8 (bs.getD p 0)) := by rw [Blk.cell h.row p, u8s_get _ _ hpl]
  have ft : w.frozen? ⟨gt, p, none⟩ = false := Blk.frozen h.marks p
  have fb : w.frozen? ⟨gb, p, none⟩ = false := Blk.frozen h.row p
  have m1 := h.ne1
  have m2 := h.ne2
  have m3 := h.ne3
  have HP := Lib.hid hp
  have hp1 : (p : Int) < (bs.length : Int) := by omega
  generalize bs.getD p 0 = y at *
  clear h c0 c3 hp ht
  go_enter Try.func27, Try.ntmps27
  go_wp2_with fail
  refine (place_any _ _ _ _ _ _ _ _ _ _ _ H.out (by omega) (by omega)).mono ?_
  rw [HP.out]
  rintro e w' ⟨rfl, n, rfl⟩
  go_wp2
  go_end0
  refine ⟨rfl, ?_, ?_⟩
  · exact (((H.out.drewN n).setMark p true).setByte p x).setTop.1 _ (by omega) (by omega)
  · exact (((Keeps.refl _ _).drewN n).setCell (Or.inr (Or.inr rfl)) _ _ |>.setCell (Or.inr (Or.inl rfl)) _ _).setCell (Or.inl rfl) _ _
end Go.Proofs.Ytemphincefamfaa
