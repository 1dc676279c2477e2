/- What New, Add and Read of a joint come to. Conditions: the joint, its bytes and its marks are blocks of memory of their own. -/
import Derived.Test.YtemphincefamfaaJoinB
import Derived.Deep.RegionHeld3
import Derived.Deep.RegionLaw
import Derived.Laws.MakeOwn
import Derived.OwnWalk
set_option linter.unusedVariables false
set_option linter.unusedSimpArgs false
namespace Go.Proofs.Ytemphincefamfaa
open Go.RowKit

theorem jnew_bad (nx room : Int) (w : World) (h : room < 1 ∨ 65535 < room) :
    Calls Try.prog 7 #[.int .u32 nx, .int .i64 room] w fun e w' => e = .returned (.tuple #[.pointer none, .int .i64 2]) ∧ w = w' := by
  rcases h with h | h
  · go_enter Try.func7, Try.ntmps7
    go_wp2
    go_ret2
    exact ⟨rfl, rfl⟩
  · have h2 : ¬ room < 1 := by omega
    go_enter Try.func7, Try.ntmps7
    go_wp2
    go_ret2
    exact ⟨rfl, rfl⟩
theorem made_u8 (n : Nat) : u8s (List.replicate n 0) = madeCells #[.int .u8 0] n := by
  unfold u8s; rw [List.map_replicate, ← toList_madeCells_one]
theorem made_flag (n : Nat) : flags (List.replicate n false) = madeCells #[.bool false] n := by
  unfold flags; rw [List.map_replicate, ← toList_madeCells_one]
theorem three_new (w : World) (c1 c2 c3 : Array Value) (t1 t2 t3 : TypeId) :
    Blk (((w.alloc (.cells c1 t1)).alloc (.cells c2 t2)).alloc (.cells c3 t3)).drew w.heap.size t1 c1 ∧ Blk (((w.alloc (.cells c1 t1)).alloc (.cells c2 t2)).alloc (.cells c3 t3)).drew (w.heap.size + 1) t2 c2 ∧ Blk (((w.alloc (.cells c1 t1)).alloc (.cells c2 t2)).alloc (.cells c3 t3)).drew (w.heap.size + 1 + 1) t3 c3 := by
  have s1 : (w.alloc (.cells c1 t1)).heap.size = w.heap.size + 1 := by simp
  have s2 : ((w.alloc (.cells c1 t1)).alloc (.cells c2 t2)).heap.size = w.heap.size + 1 + 1 := by simp
  have b1 := Blk.new w t1 c1
  have b2 := Blk.new (w.alloc (.cells c1 t1)) t2 c2
  have b3 := Blk.new ((w.alloc (.cells c1 t1)).alloc (.cells c2 t2)) t3 c3
  rw [s1] at b2
  rw [s2] at b3
  exact ⟨(b1.alloc _).alloc _, b2.alloc _, b3⟩
theorem three_below (w : World) (o1 o2 o3 : Obj) : Below w.heap.size w (((w.alloc o1).alloc o2).alloc o3).drew :=
  ((((Below.refl _ _).alloc (Nat.le_refl _) _).alloc (by simp) _).alloc (by simp; omega) _).drew
theorem jt_new (nx : Int) (room : Nat) (w : World) (g gb gt : Nat) (h1 : 1 ≤ room) (h2 : room ≤ 65535) (n0 : 0 ≤ nx) (n1 : nx < 4294967296)
    (t : Blk w g 55 #[.int .u32 nx, .slice (some ⟨gb, 0, none⟩) room room, .slice (some ⟨gt, 0, none⟩) room room, .int .i64 0, .int .i64 0, .int .i64 0])
    (b : Blk w gb 5 (u8s (List.replicate room 0))) (m : Blk w gt 4 (flags (List.replicate room false))) : Jt w g gb gt nx (List.replicate room 0) (List.replicate room false) 0 0 0 :=
  { top := by simpa using t, row := b, marks := m, len := by simp, some_ := by simpa using h1, room := by simpa using h2, fst := by simp; omega, rdy := by simp, n0 := n0, n1 := n1, h0 := by omega, h1 := by omega }
theorem jnew_good (nx : Int) (room : Nat) (w : World) (h1 : 1 ≤ room) (h2 : room ≤ 65535) (n0 : 0 ≤ nx) (n1 : nx < 4294967296) :
    Calls Try.prog 7 #[.int .u32 nx, .int .i64 room] w fun e w' => ∃ g gb gt, e = .returned (.tuple #[.pointer (some ⟨g, 0, none⟩), .int .i64 0]) ∧ Jt w' g gb gt nx (List.replicate room 0) (List.replicate room false) 0 0 0 ∧ Below w.heap.size w w' ∧ w.heap.size ≤ g ∧ w.heap.size ≤ gb ∧ w.heap.size ≤ gt := by
  have i1 : 1 ≤ (room : Int) := by omega
  have i2 : (room : Int) ≤ 65535 := by omega
  obtain ⟨i5, hi5, hz5, hs5, hb5⟩ := info_parts (P := Try.prog) (e := 5) (z := .int .u8 0) (size := 1) (bytes := 1) (by kernel_rfl)
  obtain ⟨i4, hi4, hz4, hs4, hb4⟩ := info_parts (P := Try.prog) (e := 4) (z := .bool false) (size := 1) (bytes := 1) (by kernel_rfl)
  have mk1 : ∀ W : World, (Instr.makeSlice 32 (.int .i64 (room : Int)) (.int .i64 (room : Int))).run Try.prog W = .ok (.slice (some ⟨W.heap.size, 0, none⟩) room room) (W.alloc (.cells (madeCells #[.int .u8 0] room) 5)) := fun W => by
    have := run_makeSlice (P := Try.prog) W 32 5 i5 _ Try.underlying32 hi5 hz5 .i64 .i64 (room : Int) (room : Int) (by omega) (by omega) (by rw [hs5]; omega) (by rw [hb5]; omega) (by omega)
    rw [hs5] at this; simpa [Value.cells] using this
  have mk2 : ∀ W : World, (Instr.makeSlice 53 (.int .i64 (room : Int)) (.int .i64 (room : Int))).run Try.prog W = .ok (.slice (some ⟨W.heap.size, 0, none⟩) room room) (W.alloc (.cells (madeCells #[.bool false] room) 4)) := fun W => by
    have := run_makeSlice (P := Try.prog) W 53 4 i4 _ Try.underlying53 hi4 hz4 .i64 .i64 (room : Int) (room : Int) (by omega) (by omega) (by rw [hs4]; omega) (by rw [hb4]; omega) (by omega)
    rw [hs4] at this; simpa [Value.cells] using this
  clear hi5 hz5 hs5 hb5 hi4 hz4 hs4 hb4
  go_enter Try.func7, Try.ntmps7
  go_wp2
  go_region
  all_goals go_wp2
  all_goals go_ret2
  · refine ⟨_, _, _, rfl, jt_new nx room _ _ _ _ h1 h2 n0 n1 (three_new w _ _ _ _ _ _).2.2 (by rw [made_u8]; exact (three_new w _ _ _ _ _ _).1) (by rw [made_flag]; exact (three_new w _ _ _ _ _ _).2.1), three_below w _ _ _, by omega, by omega, by omega⟩
  · refine ⟨_, _, _, rfl, jt_new nx room _ _ _ _ h1 h2 n0 n1 (three_new w _ _ _ _ _ _).2.2 (by rw [made_u8]; exact (three_new w _ _ _ _ _ _).2.1) (by rw [made_flag]; exact (three_new w _ _ _ _ _ _).1), three_below w _ _ _, by omega, by omega, by omega⟩

theorem quiet_same {P : Program} {f : FuncId} {args : Array Value} {w : World} {n : Nat} {v : Value}
    (h : Calls P f args (w.drewN n) fun e w' => e = .returned v ∧ w.drewN n = w') : Calls P f args (w.drewN n) fun e w'' => e = .returned v ∧ ∃ m, w'' = w.drewN m :=
  h.mono fun _ _ ⟨he, hm⟩ => ⟨he, n, hm.symm⟩
theorem jadd_long (g gb gt : Nat) (nx : Int) (bs : List Int) (ts : List Bool) (first ready : Nat) (held : Int) (at_ : Int) (A : Option Addr) (len c : Nat) (w : World) (h : Jt w g gb gt nx bs ts first ready held) (hl : 65536 < len) :
    Calls Try.prog 14 #[.pointer (some ⟨g, 0, none⟩), .int .u32 at_, .slice A len c] w fun e w' => e = .returned (.tuple #[.int .i64 0, .int .i64 3]) ∧ w = w' := by
  have H := Lib.hid h
  have hl2 : (65536 : Int) < (len : Int) := by omega
  clear h hl
  go_enter Try.func14, Try.ntmps14
  go_wp2_with (go_at_call 22; refine (made_yes _ _ _ _ _ _ _ _ _ _ H.out).mono ?_; rintro e w' ⟨rfl, rfl⟩)
  go_ret2
  exact ⟨rfl, rfl⟩

/-- One byte is held, if none is there. -/
theorem hold_all (g gb gt : Nat) (nx : Int) (s : Plain.Ring) (first ready : Nat) (way x : Int) (w : World) (h : Jt w g gb gt nx s.bs s.ts first ready s.held) (i0 : 0 ≤ way) (i1 : way ≤ 100000)
    (p : Nat) (hp : ((first : Int) + ((ready : Int) + way)) % s.bs.length = p) (hh : s.held < 1000000) :
    Calls Try.prog 27 #[.pointer (some ⟨g, 0, none⟩), .int .i64 way, .int .u8 x] w fun e w' => e = .returned (.tuple #[]) ∧ Jt w' g gb gt nx (s.put p x).bs (s.put p x).ts first ready (s.put p x).held ∧ Keeps (Jb g gb gt) w w' := by
  unfold Plain.Ring.put
  by_cases ht : s.ts.getD p false = true
  · rw [if_pos ht]
    exact (hold_there g gb gt nx s.bs s.ts first ready s.held way x w h i0 i1 p hp ht).mono fun e w' ⟨he, n, hw⟩ => ⟨he, by rw [hw]; exact h.drewN n, by rw [hw]; exact (Keeps.refl _ _).drewN n⟩
  · rw [if_neg ht]
    exact hold_new g gb gt nx s.bs s.ts first ready s.held way x w h i0 i1 p hp (by simpa using ht) hh

/-- What adding comes to: bytes are held, and handed on. -/
def AddPost (w : World) (g gb gt : Nat) (nx : Int) (first ready R : Nat) (s : Plain.Ring) (e : Ending) (w' : World) : Prop :=
  ∃ m : Nat, e = .returned (.tuple #[.int .i64 m, .int .i64 0]) ∧ Jt w' g gb gt ((nx + m) % 4294967296) s.bs (Plain.clr first R ready s.ts m) first (ready + m) (s.held - m) ∧ ready + m ≤ R ∧
    (∀ i, i < m → s.ts.getD (Plain.pl first R (ready + i)) false = true) ∧ (ready + m = R ∨ s.ts.getD (Plain.pl first R (ready + m)) false = false) ∧ Keeps (Jb g gb gt) w w'

set_option maxRecDepth 100000 in
set_option maxHeartbeats 1000000 in
theorem jadd_any (g gb gt : Nat) (nx : Int) (bs : List Int) (ts : List Bool) (first ready : Nat) (held : Int) (at_ : Int) (A : Option Addr) (zs : List Int) (c : Nat) (w : World) (h : Jt w g gb gt nx bs ts first ready held) (h0 : 0 ≤ held) (h1 : held ≤ 65535)
    (a0 : 0 ≤ at_) (a1 : at_ < 4294967296) (hl : zs.length ≤ 65536)
    (hz : zs ≠ [] → ∃ b off, A = some ⟨b, off, none⟩ ∧ b < w.heap.size ∧ ¬ Jb g gb gt b ∧ ∀ i, i < zs.length → w.cell? ⟨b, off + i, none⟩ = some (.int .u8 (zs.getD i 0))) :
    Calls Try.prog 14 #[.pointer (some ⟨g, 0, none⟩), .int .u32 at_, .slice A zs.length c] w
      (AddPost w g gb gt nx first ready bs.length (Plain.holds first bs.length ready (Plain.way nx (Plain.add at_ (Plain.trimA nx ((bs.length : Int) - ready) at_ zs.length))).toNat
        (fun k => zs.getD ((Plain.trimA nx ((bs.length : Int) - ready) at_ zs.length).toNat + k) 0) ⟨bs, ts, held⟩ (Plain.trimN nx ((bs.length : Int) - ready) at_ zs.length).toNat)) := by
  obtain ⟨c0, c1, c2, c3, c4, c5⟩ := h.cells
  have r1 := h.room
  have r2 := h.rdy
  have n0 := h.n0
  have n1 := h.n1
  obtain ⟨t1, t2, t3, _, _⟩ := Plain.trim_facts nx ((bs.length : Int) - ready) at_ zs.length (by omega) (by omega) (by omega) (by omega) a0 a1 n0 n1
  have tw := Plain.trim_way nx ((bs.length : Int) - ready) at_ zs.length (by omega) (by omega) (by omega) (by omega) a0 a1 n0 n1
  have he : Plain.err ((bs.length : Int) - ready) zs.length = 0 := by unfold Plain.err; rw [if_pos (Plain.fits_mk (by omega) (by omega) (by omega) (by omega))]
  have hT := fun W => seqTrim_any nx ((bs.length : Int) - ready) at_ zs.length W n0 n1 a0 a1 (by omega) (by omega) (by omega) (by omega)
  rw [he] at hT
  have HT := Lib.hid hT
  generalize Plain.trimA nx ((bs.length : Int) - ready) at_ zs.length = skip at *
  generalize Plain.trimN nx ((bs.length : Int) - ready) at_ zs.length = n at *
  have ar := Plain.add_range at_ skip
  have wr := Plain.way_range nx (Plain.add at_ skip)
  have hAdd := fun W => seqAdd_any at_ skip W a0 a1
  have hWay := fun W => seqWay_any nx (Plain.add at_ skip) W n0 n1 ar.1 ar.2
  generalize Plain.way nx (Plain.add at_ skip) = way at *
  generalize Plain.add at_ skip = at2 at *
  have HAdd := Lib.hid hAdd
  have HWay := Lib.hid hWay
  have HZ := Lib.hid hz
  have HTW := Lib.hid tw
  have H := Lib.hid h
  have hlI : (zs.length : Int) ≤ 65536 := by omega
  clear hT he h hz hAdd hWay c1 c2 c3 c4 c5 tw ar
  go_enter Try.func14, Try.ntmps14
  go_wp2_with (go_at_call 22; refine (made_yes _ _ _ _ _ _ _ _ _ _ H.out).mono ?_; rintro e w' ⟨rfl, rfl⟩)
  go_quiet (first
    | (go_at_call 18; exact Calls.quiet_of (jwindow_any _ _ _ _ _ _ _ _ _ _ (H.out.drewN _)))
    | (go_at_call 24; exact quiet_same (HT.out _)))
  go_wp2
  have h2 := H.out.drewN nq
  have k2 := (Keeps.refl (Jb g gb gt) w).drewN nq
  have c2 : (w.drewN nq).cell? ⟨g, 0, none⟩ = some (.int .u32 nx) := c0
  have z2 : zs ≠ [] → ∃ b off, A = some ⟨b, off, none⟩ ∧ b < w.heap.size ∧ ¬ Jb g gb gt b ∧ ∀ i, i < zs.length → (w.drewN nq).cell? ⟨b, off + i, none⟩ = some (.int .u8 (zs.getD i 0)) := HZ.out
  have sz2 : (w.drewN nq).heap.size = w.heap.size := rfl
  clear HZ c0
  generalize w.drewN nq = w2 at *
  have Z2 := Lib.hid z2
  have H2 := Lib.hid h2
  have SZ2 := Lib.hid sz2
  have hsw : w.heap.size ≤ w2.heap.size := by omega
  clear z2 h2 H sz2
  go_quiet (first
    | (go_at_call 26; exact quiet_same (HAdd.out _))
    | (go_at_call 25; exact quiet_same (HWay.out _)))
  obtain ⟨sk, hsk⟩ := Int.eq_ofNat_of_zero_le t1
  obtain ⟨nn, hnn⟩ := Int.eq_ofNat_of_zero_le t2
  obtain ⟨wy, hwy⟩ := Int.eq_ofNat_of_zero_le wr.1
  subst hsk hnn hwy
  try simp only [Int.toNat_natCast]
  have h3 := H2.out.drewN nq
  have k3 := k2.drewN nq
  have Z3 : Hid (zs ≠ [] → ∃ b off, A = some ⟨b, off, none⟩ ∧ b < w.heap.size ∧ ¬ Jb g gb gt b ∧ ∀ i, i < zs.length → (w2.drewN nq).cell? ⟨b, off + i, none⟩ = some (.int .u8 (zs.getD i 0))) := Lib.hid Z2.out
  have hsw3 : w.heap.size ≤ (w2.drewN nq).heap.size := hsw
  clear c2 hsw H2 Z2 k2 SZ2
  generalize w2.drewN nq = w3 at *
  have hst : Hid (Jt w3 g gb gt nx (Plain.holds first bs.length ready wy (fun k => zs.getD (sk + k) 0) ⟨bs, ts, held⟩ 0).bs (Plain.holds first bs.length ready wy (fun k => zs.getD (sk + k) 0) ⟨bs, ts, held⟩ 0).ts first ready (Plain.holds first bs.length ready wy (fun k => zs.getD (sk + k) 0) ⟨bs, ts, held⟩ 0).held) := Lib.hid h3
  have K3 := Lib.hid k3
  clear h3 k3
  go_wp2
  go_loopw [48] (fun j wr => ∃ k : Nat, j = .int .i64 k ∧ k ≤ nn ∧ Hid (Jt wr g gb gt nx (Plain.holds first bs.length ready wy (fun k => zs.getD (sk + k) 0) ⟨bs, ts, held⟩ k).bs (Plain.holds first bs.length ready wy (fun k => zs.getD (sk + k) 0) ⟨bs, ts, held⟩ k).ts first ready (Plain.holds first bs.length ready wy (fun k => zs.getD (sk + k) 0) ⟨bs, ts, held⟩ k).held) ∧ Hid (Keeps (Jb g gb gt) w3 wr)) (fun j _ => nn - (intOf j).toNat)
  case atStart => exact ⟨0, rfl, by omega, hst, Lib.hid (Keeps.refl _ _)⟩
  case round =>
    obtain ⟨k, rfl, hk, HJ, HK⟩ := hrel
    clear hst
    by_cases hlt : k < nn
    · obtain ⟨b, off, rfl, hb, hnb, hcell⟩ := Z3.out (by intro e; subst e; simp at t3; omega)
      have tw := HTW.out (by omega)
      have hsk : sk + k < zs.length := by omega
      have hc := (HK.out.cell (p := ⟨b, off + (sk + k), none⟩) (by show b < w3.heap.size; omega) hnb).trans (hcell (sk + k) hsk)
      have hput : Hid (Plain.holds first bs.length ready wy (fun k => zs.getD (sk + k) 0) ⟨bs, ts, held⟩ (k + 1) = (Plain.holds first bs.length ready wy (fun k => zs.getD (sk + k) 0) ⟨bs, ts, held⟩ k).put (Plain.pl first bs.length (ready + wy + k)) (zs.getD (sk + k) 0)) := Lib.hid rfl
      have hln := Plain.holds_len first bs.length ready wy (fun k => zs.getD (sk + k) 0) ⟨bs, ts, held⟩ k
      generalize Plain.holds first bs.length ready wy (fun k => zs.getD (sk + k) 0) ⟨bs, ts, held⟩ k = s at *
      have hlb : s.bs.length = bs.length := hln.1
      have hheld : s.held ≤ held + k := hln.2.2.2
      have hp : ((first : Int) + ((ready : Int) + ((wy : Int) + (k : Int)))) % (s.bs.length : Int) = ((Plain.pl first bs.length (ready + wy + k) : Nat) : Int) := by
        rw [hlb, ← Plain.pl_cast]; congr 1; omega
      have HP := Lib.hid hp
      have hh2 : s.held < 1000000 := by omega
      generalize zs.getD (sk + k) 0 = x at *
      have hwk : (wy : Int) + (k : Int) ≤ 100000 := by omega
      clear hcell tw hln hp hlb hheld
      go_wp2_with fail
      refine (hold_all g gb gt nx s first ready _ x _ HJ.out (by omega) hwk _ HP.out hh2).mono ?_
      rintro e w4 ⟨rfl, h4, k4⟩
      have H4 := Lib.hid h4
      have K4 := Lib.hid (HK.out.trans k4)
      clear h4 k4
      go_wp2
      go_roundw
      case rel => exact ⟨k + 1, by go_num, by omega, by rw [hput.out]; exact H4, K4⟩
      case measure => simp [intOf]; omega
    · have hkn : k = nn := by omega
      subst hkn
      have hln := Plain.holds_len first bs.length ready wy (fun k => zs.getD (sk + k) 0) ⟨bs, ts, held⟩ k
      obtain ⟨s, hse⟩ : ∃ s, Plain.holds first bs.length ready wy (fun k => zs.getD (sk + k) 0) ⟨bs, ts, held⟩ k = s := ⟨_, rfl⟩
      rw [hse] at HJ hln
      have HSE := Lib.hid hse
      clear hse
      have hlb : Hid (s.bs.length = bs.length) := Lib.hid hln.1
      have hh0 : 0 ≤ s.held := by have : held ≤ s.held := hln.2.2.1; omega
      clear hln
      go_wp2_with fail
      refine (hand_any g gb gt nx s.bs s.ts first ready s.held _ HJ.out hh0).mono ?_
      rintro e w4 ⟨m, rfl, hd, hend⟩
      have HD := Lib.hid hd
      have HE := Lib.hid hend
      clear hd hend
      go_wp2
      go_ret2
      have fin : AddPost w g gb gt nx first ready bs.length s (.returned (.tuple #[.int .i64 m, .int .i64 0])) w4 := by
        have e1 := HD.out.jt
        have e2 := HD.out.fit
        have e3 := HD.out.all
        have e4 := HE.out
        rw [hlb.out] at e1 e2 e3 e4
        exact ⟨m, rfl, e1, e2, e3, e4, K3.out.trans (HK.out.trans HD.out.kept)⟩
      rw [← HSE.out] at fin
      exact fin
end Go.Proofs.Ytemphincefamfaa
