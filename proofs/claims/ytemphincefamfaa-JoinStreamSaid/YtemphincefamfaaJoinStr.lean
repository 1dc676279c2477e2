/- Plain facts on a joint to which pieces of one stream are added: what is held and ready are the stream's bytes, at their places. Conditions: as each lemma names. -/
import Derived.Test.YtemphincefamfaaJoinView
set_option linter.unusedVariables false
set_option linter.unusedSimpArgs false
namespace Go.Proofs.Ytemphincefamfaa
open Go.RowKit

/-- p bytes of the stream zs were read; G are ready, L held. -/
structure Str (next : Int) (zs : List Int) (p : Nat) (nx : Int) (G : List Int) (L : List (Nat × Int)) : Prop where
  pos : p + G.length ≤ zs.length
  got : ∀ i, i < G.length → G.getD i 0 = zs.getD (p + i) 0
  nx : nx = (next + ((p + G.length : Nat) : Int)) % 4294967296
  held : ∀ k x, Plain.lk L k = some x → p + G.length + k < zs.length ∧ x = zs.getD (p + G.length + k) 0

theorem Str.start (next : Int) (zs : List Int) (n0 : 0 ≤ next) (n1 : next < 4294967296) : Str next zs 0 next [] [] :=
  ⟨by simp, fun i hi => absurd hi (by simp), by simp; omega, fun k x h => by simp [Plain.lk] at h⟩
theorem Str.read {next : Int} {zs : List Int} {p : Nat} {nx : Int} {G : List Int} {L : List (Nat × Int)} (h : Str next zs p nx G L) (m : Nat) (hm : m ≤ G.length) : Str next zs (p + m) nx (G.drop m) L := by
  have hl : (G.drop m).length = G.length - m := List.length_drop
  have e : p + m + (G.length - m) = p + G.length := by omega
  exact ⟨by rw [hl, e]; exact h.pos, fun i hi => by
    rw [hl] at hi
    have := h.got (m + i) (by omega)
    rw [Nat.add_assoc, ← this]
    simp [List.getD_eq_getElem?_getD, List.getElem?_drop], by rw [hl, e]; exact h.nx, by rw [hl, e]; exact h.held⟩
theorem Str.taken {next : Int} {zs : List Int} {p : Nat} {nx : Int} {G : List Int} {L : List (Nat × Int)} (h : Str next zs p nx G L) (m : Nat) (hm : m ≤ G.length) : zs.take p ++ G.take m = zs.take (p + m) := by
  have hp := h.pos
  apply List.ext_getElem
  · simp; omega
  · intro i h1 h2
    simp at h1 h2
    rw [List.getElem_append]
    split
    · simp
    · rename_i hi
      simp at hi
      have hg := h.got (i - min p zs.length) (by omega)
      have e : p + (i - min p zs.length) = i := by omega
      rw [e, List.getD_eq_getElem?_getD, List.getD_eq_getElem?_getD, List.getElem?_eq_getElem (by omega), List.getElem?_eq_getElem (by omega)] at hg
      simpa using hg

section
variable {next : Int} {zs : List Int} {p : Nat} {nx : Int} {G : List Int} {L : List (Nat × Int)} {R : Nat}
theorem Str.lk_add (h : Str next zs p nx G L) (n0 : 0 ≤ next) (n1 : next < 4294967296) (hz : zs.length ≤ 300) (hR : G.length ≤ R) (hR2 : R ≤ 401) (fr en : Nat) (h1 : fr ≤ en) (h2 : en ≤ zs.length) (j : Nat) (x : Int)
    (hx : Plain.lk (addL nx ((R : Int) - G.length) ((next + (fr : Int)) % 4294967296) ((zs.drop fr).take (en - fr)) L) j = some x) : p + G.length + j < zs.length ∧ x = zs.getD (p + G.length + j) 0 := by
  have hn := h.nx
  have hp := h.pos
  have hl : ((zs.drop fr).take (en - fr)).length = en - fr := by rw [List.length_take, List.length_drop]; omega
  rcases addL_lk nx ((R : Int) - G.length) ((next + (fr : Int)) % 4294967296) ((zs.drop fr).take (en - fr)) L (by omega) (by omega) (by rw [hl]; omega) (by omega) (by omega) (by omega) (by omega) j with ho | ⟨_, i, hi, hw, hj, hv⟩
  · rw [ho] at hx; exact h.held j x hx
  · rw [hv] at hx
    injection hx with hx
    rw [hl] at hi
    have e : fr + i = p + G.length + j := by unfold Plain.way Plain.add at hw; omega
    refine ⟨by omega, ?_⟩
    rw [← e, ← hx]
    simp only [List.getD_eq_getElem?_getD, List.getElem?_take, List.getElem?_drop]
    rw [if_pos hi]
theorem Str.add (h : Str next zs p nx G L) (n0 : 0 ≤ next) (n1 : next < 4294967296) (hz : zs.length ≤ 300) (hR : G.length ≤ R) (hR2 : R ≤ 401) (fr en : Nat) (h1 : fr ≤ en) (h2 : en ≤ zs.length) (m : Nat)
    (hh : Handing R G (addL nx ((R : Int) - G.length) ((next + (fr : Int)) % 4294967296) ((zs.drop fr).take (en - fr)) L) m) :
    Str next zs p ((nx + m) % 4294967296) (G ++ (List.range m).map fun i => (Plain.lk (addL nx ((R : Int) - G.length) ((next + (fr : Int)) % 4294967296) ((zs.drop fr).take (en - fr)) L) i).getD 0)
      (Plain.shiftL m (addL nx ((R : Int) - G.length) ((next + (fr : Int)) % 4294967296) ((zs.drop fr).take (en - fr)) L)) := by
  have key := fun j x => h.lk_add n0 n1 hz hR hR2 fr en h1 h2 j x
  have hn := h.nx
  have hp := h.pos
  generalize addL nx ((R : Int) - G.length) ((next + (fr : Int)) % 4294967296) ((zs.drop fr).take (en - fr)) L = L2 at *
  have hlen : (G ++ (List.range m).map fun i => (Plain.lk L2 i).getD 0).length = G.length + m := by simp
  have hpos : p + (G.length + m) ≤ zs.length := by
    rcases Nat.eq_zero_or_pos m with h0 | h0
    · omega
    · obtain ⟨x, hx⟩ := Option.isSome_iff_exists.1 (hh.all (m - 1) (by omega))
      have := (key _ _ hx).1
      omega
  refine ⟨by rw [hlen]; exact hpos, fun i hi => ?_, by rw [hlen, hn]; omega, fun k x hx => ?_⟩
  · rw [hlen] at hi
    by_cases hig : i < G.length
    · rw [← h.got i hig, List.getD_eq_getElem?_getD, List.getElem?_append_left hig, ← List.getD_eq_getElem?_getD]
    · obtain ⟨x, hx⟩ := Option.isSome_iff_exists.1 (hh.all (i - G.length) (by omega))
      have hk := (key _ _ hx).2
      rw [List.getD_eq_getElem?_getD, List.getElem?_append_right (by omega), List.getElem?_map, List.getElem?_range (by omega)]
      simp only [Option.map_some, Option.getD_some, hx]
      rw [hk]
      congr 1
      omega
  · rw [Plain.shiftL_lk] at hx
    have := key _ _ hx
    rw [hlen]
    have e : p + (G.length + m) + k = p + G.length + (m + k) := by omega
    rw [e]; exact this
theorem Str.more (h : Str next zs p nx G L) (n0 : 0 ≤ next) (n1 : next < 4294967296) (hz : zs.length ≤ 300) (hR : G.length < R) (hR2 : R ≤ 401) (m : Nat)
    (hh : Handing R G (addL nx ((R : Int) - G.length) ((next + ((0 : Nat) : Int)) % 4294967296) ((zs.drop 0).take (zs.length - 0)) L) m) (hp : p + G.length < zs.length) : 1 ≤ m := by
  have hn := h.nx
  have hl : ((zs.drop 0).take (zs.length - 0)).length = zs.length := by simp
  have := addL_has nx ((R : Int) - G.length) ((next + ((0 : Nat) : Int)) % 4294967296) ((zs.drop 0).take (zs.length - 0)) L (by omega) (by omega) (by rw [hl]; omega) (by omega) (by omega) (by omega) (by omega) (p + G.length) 0
    (by rw [hl]; exact hp) (by unfold Plain.way Plain.add; omega) (by omega)
  rcases Nat.eq_zero_or_pos m with h0 | h0
  · subst h0
    rcases hh.stop with h1 | h1
    · omega
    · rw [h1] at this; cases this
  · exact h0
end
end Go.Proofs.Ytemphincefamfaa
