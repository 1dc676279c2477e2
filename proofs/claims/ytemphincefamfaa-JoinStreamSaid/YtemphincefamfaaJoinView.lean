/- What the calls of a joint come to, told by what it holds: the bytes that are ready, and a list of those that are held. Conditions: the joint is one that a call made. -/
import Derived.Test.YtemphincefamfaaJoinD
import Derived.Test.YtemphincefamfaaPlainView
import Derived.Test.YtemphincefamfaaInts
set_option linter.unusedVariables false
set_option linter.unusedSimpArgs false
namespace Go.Proofs.Ytemphincefamfaa
open Go.RowKit

/-- A joint in memory, told by what it holds. -/
def Jv (w : World) (g gb gt : Nat) (nx : Int) (R : Nat) (G : List Int) (L : List (Nat × Int)) : Prop :=
  ∃ bs ts first held, bs.length = R ∧ Jt w g gb gt nx bs ts first G.length held ∧ Plain.View ⟨bs, ts, held⟩ first R G.length G L ∧ Plain.lk L 0 = none
section
variable {w w' : World} {g gb gt : Nat} {nx : Int} {R : Nat} {G : List Int} {L : List (Nat × Int)}
theorem Jv.few (h : Jv w g gb gt nx R G L) : G.length + L.length ≤ R ∧ 1 ≤ R ∧ R ≤ 65535 ∧ 0 ≤ nx ∧ nx < 4294967296 ∧ Plain.lk L 0 = none := by
  obtain ⟨bs, ts, first, held, rfl, hj, hv, h0⟩ := h
  exact ⟨hv.few, hj.some_, hj.room, hj.n0, hj.n1, h0⟩
theorem Jv.blocks (h : Jv w g gb gt nx R G L) : g < w.heap.size ∧ gb < w.heap.size ∧ gt < w.heap.size := by
  obtain ⟨bs, ts, first, held, rfl, hj, hv, h0⟩ := h
  exact ⟨hj.top.lt, hj.row.lt, hj.marks.lt⟩
theorem Jv.keeps {s : Nat → Prop} (h : Jv w g gb gt nx R G L) (hk : Keeps s w w') (k1 : ¬ s g) (k2 : ¬ s gb) (k3 : ¬ s gt) : Jv w' g gb gt nx R G L := by
  obtain ⟨bs, ts, first, held, hb, hj, hv, h0⟩ := h
  exact ⟨bs, ts, first, held, hb, hj.keeps hk k1 k2 k3, hv, h0⟩
theorem Jv.below {B : Nat} (h : Jv w g gb gt nx R G L) (hk : Below B w w') (k1 : g < B) (k2 : gb < B) (k3 : gt < B) : Jv w' g gb gt nx R G L := by
  obtain ⟨bs, ts, first, held, hb, hj, hv, h0⟩ := h
  exact ⟨bs, ts, first, held, hb, { hj with top := hj.top.below hk k1, row := hj.row.below hk k2, marks := hj.marks.below hk k3 }, hv, h0⟩
theorem Jv.drewN (h : Jv w g gb gt nx R G L) (n : Nat) : Jv (w.drewN n) g gb gt nx R G L := by
  obtain ⟨bs, ts, first, held, hb, hj, hv, h0⟩ := h
  exact ⟨bs, ts, first, held, hb, hj.drewN n, hv, h0⟩
theorem Jv.alloc (h : Jv w g gb gt nx R G L) (o : Obj) : Jv (w.alloc o) g gb gt nx R G L := h.keeps (s := fun _ => False) ((Keeps.refl _ _).alloc o) (fun h => h) (fun h => h) (fun h => h)
end

theorem vNew (nx : Int) (room : Nat) (w : World) (h1 : 1 ≤ room) (h2 : room ≤ 65535) (n0 : 0 ≤ nx) (n1 : nx < 4294967296) :
    Calls Try.prog 7 #[.int .u32 nx, .int .i64 room] w fun e w' => ∃ g gb gt, e = .returned (.tuple #[.pointer (some ⟨g, 0, none⟩), .int .i64 0]) ∧ Jv w' g gb gt nx room [] [] ∧ Below w.heap.size w w' ∧ w.heap.size ≤ g ∧ w.heap.size ≤ gb ∧ w.heap.size ≤ gt :=
  (jnew_good nx room w h1 h2 n0 n1).mono fun e w' ⟨g, gb, gt, he, hj, hb, l1, l2, l3⟩ => ⟨g, gb, gt, he, ⟨_, _, _, _, by simp, hj, Plain.View.new room h1, rfl⟩, hb, l1, l2, l3⟩
theorem vNext (g gb gt : Nat) (nx : Int) (R : Nat) (G : List Int) (L : List (Nat × Int)) (w : World) (h : Jv w g gb gt nx R G L) :
    Calls Try.prog 17 #[.pointer (some ⟨g, 0, none⟩)] w fun e w' => e = .returned (.int .u32 nx) ∧ w = w' := by
  obtain ⟨bs, ts, first, held, hb, hj, hv, h0⟩ := h
  exact jnext_any _ _ _ _ _ _ _ _ _ _ hj
theorem vWindow (g gb gt : Nat) (nx : Int) (R : Nat) (G : List Int) (L : List (Nat × Int)) (w : World) (h : Jv w g gb gt nx R G L) :
    Calls Try.prog 18 #[.pointer (some ⟨g, 0, none⟩)] w fun e w' => e = .returned (.int .i64 ((R : Int) - (G.length : Int))) ∧ ∃ n, w' = w.drewN n := by
  obtain ⟨bs, ts, first, held, rfl, hj, hv, h0⟩ := h
  exact jwindow_any _ _ _ _ _ _ _ _ _ _ hj
theorem vReady (g gb gt : Nat) (nx : Int) (R : Nat) (G : List Int) (L : List (Nat × Int)) (w : World) (h : Jv w g gb gt nx R G L) :
    Calls Try.prog 20 #[.pointer (some ⟨g, 0, none⟩)] w fun e w' => e = .returned (.int .i64 (G.length : Int)) ∧ w = w' := by
  obtain ⟨bs, ts, first, held, rfl, hj, hv, h0⟩ := h
  exact jready_any _ _ _ _ _ _ _ _ _ _ hj
theorem vHeld (g gb gt : Nat) (nx : Int) (R : Nat) (G : List Int) (L : List (Nat × Int)) (w : World) (h : Jv w g gb gt nx R G L) :
    Calls Try.prog 21 #[.pointer (some ⟨g, 0, none⟩)] w fun e w' => e = .returned (.int .i64 (L.length : Int)) ∧ w = w' := by
  obtain ⟨bs, ts, first, held, rfl, hj, hv, h0⟩ := h
  have := hv.held
  simp at this
  rw [← this]
  exact jheld_any _ _ _ _ _ _ _ _ _ _ hj
theorem vRead (g gb gt : Nat) (nx : Int) (R : Nat) (G : List Int) (L : List (Nat × Int)) (n : Int) (m : Nat) (w : World) (h : Jv w g gb gt nx R G L) (hn : 0 ≤ n) (hm : (m : Int) = min n G.length) :
    Calls Try.prog 11 #[.pointer (some ⟨g, 0, none⟩), .int .i64 n] w fun e w' =>
      e = .returned (.tuple #[.slice (some ⟨w.heap.size, 0, none⟩) m m, .int .i64 0]) ∧ Jv w' g gb gt nx R (G.drop m) L ∧ Blk w' w.heap.size 5 (u8s (G.take m)) ∧ Keeps (Jb g gb gt) w w' := by
  obtain ⟨bs, ts, first, held, rfl, hj, hv, h0⟩ := h
  refine (jread_any g gb gt nx bs ts first G.length held n m w hj hn hm).mono ?_
  rintro e w' ⟨he, hj', hb, hk⟩
  have hml : m ≤ G.length := by omega
  have e1 : (List.range m).map (fun i => bs.getD (Plain.pl first bs.length i) 0) = G.take m := by
    apply List.ext_getElem
    · simp [hml]
    · intro i h1 h2
      simp at h1
      have := hv.got i (by omega)
      simp only [List.getElem_map, List.getElem_range, List.getElem_take]
      rw [show bs.getD (Plain.pl first bs.length i) 0 = G.getD i 0 from this, List.getD_eq_getElem?_getD, List.getElem?_eq_getElem (by omega)]; rfl
  rw [e1] at hb
  refine ⟨he, ⟨bs, ts, Plain.pl first bs.length m, held, rfl, ?_, ?_, h0⟩, hb, hk⟩
  · rw [List.length_drop]; exact hj'
  · rw [List.length_drop]; exact hv.read m hml
theorem vReadBad (g gb gt : Nat) (nx : Int) (R : Nat) (G : List Int) (L : List (Nat × Int)) (n : Int) (w : World) (h : Jv w g gb gt nx R G L) (hn : n < 0) :
    Calls Try.prog 11 #[.pointer (some ⟨g, 0, none⟩), .int .i64 n] w fun e w' => e = .returned (.tuple #[.slice none 0 0, .int .i64 2]) ∧ w = w' := by
  obtain ⟨bs, ts, first, held, rfl, hj, hv, h0⟩ := h
  exact jread_bad _ _ _ _ _ _ _ _ _ _ _ hj hn
theorem vAddLong (g gb gt : Nat) (nx : Int) (R : Nat) (G : List Int) (L : List (Nat × Int)) (at_ : Int) (A : Option Addr) (len c : Nat) (w : World) (h : Jv w g gb gt nx R G L) (hl : 65536 < len) :
    Calls Try.prog 14 #[.pointer (some ⟨g, 0, none⟩), .int .u32 at_, .slice A len c] w fun e w' => e = .returned (.tuple #[.int .i64 0, .int .i64 3]) ∧ w = w' := by
  obtain ⟨bs, ts, first, held, rfl, hj, hv, h0⟩ := h
  exact jadd_long _ _ _ _ _ _ _ _ _ _ _ _ _ _ hj hl

/-- What is held behind adding bytes at a number, ahead of handing on. -/
def addL (nx win at_ : Int) (zs : List Int) (L : List (Nat × Int)) : List (Nat × Int) :=
  Plain.holdsL L (Plain.way nx (Plain.add at_ (Plain.trimA nx win at_ zs.length))).toNat (fun k => zs.getD ((Plain.trimA nx win at_ zs.length).toNat + k) 0) (Plain.trimN nx win at_ zs.length).toNat
/-- How many are handed on. -/
structure Handing (R : Nat) (G : List Int) (L : List (Nat × Int)) (m : Nat) : Prop where
  fit : G.length + m ≤ R
  all : ∀ i, i < m → (Plain.lk L i).isSome = true
  stop : G.length + m = R ∨ Plain.lk L m = none
theorem vAdd (g gb gt : Nat) (nx : Int) (R : Nat) (G : List Int) (L : List (Nat × Int)) (at_ : Int) (A : Option Addr) (zs : List Int) (c : Nat) (w : World) (h : Jv w g gb gt nx R G L)
    (a0 : 0 ≤ at_) (a1 : at_ < 4294967296) (hl : zs.length ≤ 65536)
    (hz : zs ≠ [] → ∃ b off, A = some ⟨b, off, none⟩ ∧ b < w.heap.size ∧ ¬ Jb g gb gt b ∧ ∀ i, i < zs.length → w.cell? ⟨b, off + i, none⟩ = some (.int .u8 (zs.getD i 0))) :
    Calls Try.prog 14 #[.pointer (some ⟨g, 0, none⟩), .int .u32 at_, .slice A zs.length c] w fun e w' => ∃ m : Nat,
      e = .returned (.tuple #[.int .i64 m, .int .i64 0]) ∧ Handing R G (addL nx ((R : Int) - G.length) at_ zs L) m ∧
      Jv w' g gb gt ((nx + m) % 4294967296) R (G ++ (List.range m).map fun i => (Plain.lk (addL nx ((R : Int) - G.length) at_ zs L) i).getD 0) (Plain.shiftL m (addL nx ((R : Int) - G.length) at_ zs L)) ∧ Keeps (Jb g gb gt) w w' := by
  obtain ⟨bs, ts, first, held, rfl, hj, hv, h0⟩ := h
  have hf := hv.few
  have hr := hj.room
  have hrd := hj.rdy
  have hh := hv.held
  simp at hh
  refine (jadd_any g gb gt nx bs ts first G.length held at_ A zs c w hj (by omega) (by omega) a0 a1 hl hz).mono ?_
  rintro e w' ⟨m, he, hj', hm, hall, hend, hk⟩
  have t2 := Plain.trim_facts nx ((bs.length : Int) - G.length) at_ zs.length (by omega) (by omega) (by omega) (by omega) a0 a1 hj.n0 hj.n1
  have tw := Plain.trim_way nx ((bs.length : Int) - G.length) at_ zs.length (by omega) (by omega) (by omega) (by omega) a0 a1 hj.n0 hj.n1
  have wr := Plain.way_range nx (Plain.add at_ (Plain.trimA nx ((bs.length : Int) - G.length) at_ zs.length))
  have hv2 := hv.holdsAll (Plain.way nx (Plain.add at_ (Plain.trimA nx ((bs.length : Int) - G.length) at_ zs.length))).toNat
    (fun k => zs.getD ((Plain.trimA nx ((bs.length : Int) - G.length) at_ zs.length).toNat + k) 0) (Plain.trimN nx ((bs.length : Int) - G.length) at_ zs.length).toNat (fun hne => by
      have := tw (by omega)
      omega)
  have hv3 := hv2.hand m hm hall
  have hst : G.length + m = bs.length ∨ Plain.lk (addL nx ((bs.length : Int) - G.length) at_ zs L) m = none := by
    rcases Nat.lt_or_ge (G.length + m) bs.length with hlt | hge
    · right
      rcases hend with h | h
      · omega
      · have := hv2.mark m hlt
        rw [h] at this
        exact Option.isSome_eq_false_iff.1 this.symm |> Option.isNone_iff_eq_none.1
    · left; omega
  have hl2 : (G ++ (List.range m).map fun i => (Plain.lk (addL nx ((bs.length : Int) - G.length) at_ zs L) i).getD 0).length = G.length + m := by simp
  refine ⟨m, he, ⟨hm, fun i hi => ?_, hst⟩, ⟨_, _, first, _, hv2.lb, by rw [hl2]; exact hj', by rw [hl2]; exact hv3, ?_⟩, hk⟩
  · rw [← hall i hi]; exact (hv2.mark i (by omega)).symm
  · rw [Plain.shiftL_lk, Nat.add_zero]
    rcases hst with hst | hst
    · have hx := hv3.few
      have hx2 := hv2.keys
      rw [Plain.lk_none]
      intro hin
      obtain ⟨p, hp, hp2⟩ := List.mem_map.1 hin
      have := hx2 p hp
      omega
    · exact hst
theorem vAdd' (g gb gt : Nat) (nx : Int) (R : Nat) (G : List Int) (L : List (Nat × Int)) (at_ : Int) (A : Option Addr) (zs : List Int) (len c : Nat) (w : World) (h : Jv w g gb gt nx R G L)
    (a0 : 0 ≤ at_) (a1 : at_ < 4294967296) (hl : zs.length ≤ 65536) (hlen : zs.length = len) (B : Nat) (hI : Ints .u8 w B A zs) (hB : B ≤ w.heap.size) (hg : ∀ b, Jb g gb gt b → B ≤ b) :
    Calls Try.prog 14 #[.pointer (some ⟨g, 0, none⟩), .int .u32 at_, .slice A len c] w fun e w' => ∃ m : Nat,
      e = .returned (.tuple #[.int .i64 m, .int .i64 0]) ∧ Handing R G (addL nx ((R : Int) - G.length) at_ zs L) m ∧
      Jv w' g gb gt ((nx + m) % 4294967296) R (G ++ (List.range m).map fun i => (Plain.lk (addL nx ((R : Int) - G.length) at_ zs L) i).getD 0) (Plain.shiftL m (addL nx ((R : Int) - G.length) at_ zs L)) ∧ Keeps (Jb g gb gt) w w' := by
  subst hlen
  exact vAdd g gb gt nx R G L at_ A zs c w h a0 a1 hl (fun hn => by
    obtain ⟨b, off, e, hb, hc⟩ := hI.2 hn
    exact ⟨b, off, e, by omega, fun hj => by have := hg b hj; omega, hc⟩)
/-- What is held behind adding: as before, and the bytes that are in the window. -/
theorem addL_lk (nx win at_ : Int) (zs : List Int) (L : List (Nat × Int)) (h1 : 0 ≤ win) (h2 : win ≤ 65535) (h4 : zs.length ≤ 65536) (f0 : 0 ≤ at_) (f1 : at_ < 4294967296) (m0 : 0 ≤ nx) (m1 : nx < 4294967296) (j : Nat) :
    Plain.lk (addL nx win at_ zs L) j = Plain.lk L j ∨ (Plain.lk L j = none ∧ ∃ i : Nat, i < zs.length ∧ Plain.way nx (Plain.add at_ i) = j ∧ (j : Int) < win ∧ Plain.lk (addL nx win at_ zs L) j = some (zs.getD i 0)) := by
  unfold addL
  rw [Plain.holdsL_lk]
  split
  · rename_i hj
    cases hk : Plain.lk L j with
    | some x => left; rfl
    | none =>
      right
      obtain ⟨t1, t2, t3, _, _⟩ := Plain.trim_facts nx win at_ zs.length h1 h2 (by omega) (by omega) f0 f1 m0 m1
      have tw := Plain.trim_way nx win at_ zs.length h1 h2 (by omega) (by omega) f0 f1 m0 m1
      have wr := Plain.way_range nx (Plain.add at_ (Plain.trimA nx win at_ zs.length))
      refine ⟨rfl, (Plain.trimA nx win at_ zs.length).toNat + (j - (Plain.way nx (Plain.add at_ (Plain.trimA nx win at_ zs.length))).toNat), by omega, ?_, ?_, rfl⟩
      · have ti := Plain.trim_in nx win at_ zs.length h1 h2 (by omega) (by omega) f0 f1 m0 m1 (((Plain.trimA nx win at_ zs.length).toNat + (j - (Plain.way nx (Plain.add at_ (Plain.trimA nx win at_ zs.length))).toNat) : Nat) : Int) (by omega) (by omega)
        by_cases hc : Plain.way nx (Plain.add at_ (((Plain.trimA nx win at_ zs.length).toNat + (j - (Plain.way nx (Plain.add at_ (Plain.trimA nx win at_ zs.length))).toNat) : Nat) : Int)) < win
        · have := (ti.1 hc).2.2
          omega
        · have := ti.2 hc
          omega
      · have := tw (by omega)
        omega
  · left; rfl
/-- A byte that is in the window is held behind adding. -/
theorem addL_has (nx win at_ : Int) (zs : List Int) (L : List (Nat × Int)) (h1 : 0 ≤ win) (h2 : win ≤ 65535) (h4 : zs.length ≤ 65536) (f0 : 0 ≤ at_) (f1 : at_ < 4294967296) (m0 : 0 ≤ nx) (m1 : nx < 4294967296) (i j : Nat)
    (hi : i < zs.length) (hj : Plain.way nx (Plain.add at_ i) = j) (hw : (j : Int) < win) : (Plain.lk (addL nx win at_ zs L) j).isSome = true := by
  have ti := (Plain.trim_in nx win at_ zs.length h1 h2 (by omega) (by omega) f0 f1 m0 m1 i (by omega) (by omega)).1 (by rw [hj]; exact hw)
  obtain ⟨t1, t2, t3, _, _⟩ := Plain.trim_facts nx win at_ zs.length h1 h2 (by omega) (by omega) f0 f1 m0 m1
  have wr := Plain.way_range nx (Plain.add at_ (Plain.trimA nx win at_ zs.length))
  unfold addL
  rw [Plain.holdsL_lk, if_pos (by omega)]
  rfl
theorem addL_out (nx win at_ : Int) (zs : List Int) (L : List (Nat × Int)) (h1 : 0 ≤ win) (h2 : win ≤ 65535) (h4 : zs.length ≤ 65536) (f0 : 0 ≤ at_) (f1 : at_ < 4294967296) (m0 : 0 ≤ nx) (m1 : nx < 4294967296)
    (ho : ∀ i : Nat, i < zs.length → win ≤ Plain.way nx (Plain.add at_ i)) : addL nx win at_ zs L = L := by
  obtain ⟨t1, t2, t3, _, t5⟩ := Plain.trim_facts nx win at_ zs.length h1 h2 (by omega) (by omega) f0 f1 m0 m1
  have hz : Plain.trimN nx win at_ zs.length = 0 := by
    by_cases hz : Plain.trimN nx win at_ zs.length = 0
    · exact hz
    · have hw := ((Plain.within_iff _ _ _).1 (t5 hz).1).2.2
      have := ho (Plain.trimA nx win at_ zs.length).toNat (by omega)
      rw [Int.toNat_of_nonneg t1] at this
      omega
  unfold addL
  rw [hz]
  rfl
/-- What lies outside the window changes nothing. -/
theorem vAddOut (g gb gt : Nat) (nx : Int) (R : Nat) (G : List Int) (L : List (Nat × Int)) (at_ : Int) (A : Option Addr) (zs : List Int) (len c : Nat) (w : World) (h : Jv w g gb gt nx R G L)
    (a0 : 0 ≤ at_) (a1 : at_ < 4294967296) (hl : zs.length ≤ 65536) (hlen : zs.length = len)
    (hz : zs ≠ [] → ∃ b off, A = some ⟨b, off, none⟩ ∧ b < w.heap.size ∧ ¬ Jb g gb gt b ∧ ∀ i, i < zs.length → w.cell? ⟨b, off + i, none⟩ = some (.int .u8 (zs.getD i 0)))
    (ho : ∀ i : Nat, i < zs.length → (R : Int) - G.length ≤ Plain.way nx (Plain.add at_ i)) :
    Calls Try.prog 14 #[.pointer (some ⟨g, 0, none⟩), .int .u32 at_, .slice A len c] w fun e w' =>
      e = .returned (.tuple #[.int .i64 0, .int .i64 0]) ∧ Jv w' g gb gt nx R G L ∧ Keeps (Jb g gb gt) w w' := by
  subst hlen
  obtain ⟨f1, f2, f3, f4, f5, f6⟩ := h.few
  have hL := addL_out nx ((R : Int) - G.length) at_ zs L (by omega) (by omega) hl a0 a1 f4 f5 ho
  refine (vAdd g gb gt nx R G L at_ A zs c w h a0 a1 hl hz).mono ?_
  rintro e w' ⟨m, he, hh, hj, hk⟩
  rw [hL] at hh hj
  have hm : m = 0 := by
    rcases Nat.eq_zero_or_pos m with h0 | h0
    · exact h0
    · have := hh.all 0 h0; rw [f6] at this; cases this
  subst hm
  rw [Plain.shiftL_zero] at hj
  have e0 : (nx + ((0 : Nat) : Int)) % 4294967296 = nx := by omega
  rw [e0] at hj
  exact ⟨he, by simpa using hj, hk⟩
end Go.Proofs.Ytemphincefamfaa
