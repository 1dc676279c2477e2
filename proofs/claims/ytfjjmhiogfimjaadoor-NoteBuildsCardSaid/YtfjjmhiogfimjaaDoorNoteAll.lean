/- The calls on faults, each as one contract. Conditions: the bytes are cells of memory; at most 100000 of them. -/
import Derived.Test.YtfjjmhiogfimjaaDoorNoteName
set_option linter.unusedVariables false
set_option linter.unusedSimpArgs false
namespace Go.Proofs.YtfjjmhiogfimjaaDoor
open Go.RowKit

/-- A slice of bytes that a call gave. -/
def Gave (w : World) (v : Value) (zs : List Int) : Prop := ∃ A k, v = .slice A zs.length k ∧ zs.length ≤ k ∧ Ints .u8 w w.heap.size A zs
theorem Own.gave {w : World} {B : Nat} {v : Value} {zs : List Int} (h : Own w B v zs) : Gave w v zs := by
  obtain ⟨A, k, rfl, hk, _, hI, _⟩ := own_form h.1 h.2
  exact ⟨A, k, rfl, hk, hI⟩
theorem Gave.nil (w : World) : Gave w (.slice none 0 0) [] := ⟨none, 0, rfl, by simp, by simp, fun h => absurd rfl h⟩
/-- What a fault's bytes are, and what is said of them. -/
def bz (c s : Int) (xs : List Int) : List Int := if c < 0 ∨ 255 < c ∨ s < 0 ∨ 255 < s then [] else if 4075 < xs.length then [] else c :: s :: xs
def br (c s : Int) (xs : List Int) : Int := if c < 0 ∨ 255 < c ∨ s < 0 ∨ 255 < s then 2 else if 4075 < xs.length then 3 else 0
theorem nbuild_all (c s : Int) (A : Option Addr) (xs : List Int) (k : Nat) (w : World) (hI : Ints .u8 w w.heap.size A xs) :
    Calls Tryd.prog 6 #[fv c s A xs.length k] w fun e w' => ∃ v, e = .returned (.tuple #[v, .int .i64 (br c s xs)]) ∧ Gave w' v (bz c s xs) ∧ Below w.heap.size w w' := by
  unfold bz br
  by_cases hbad : c < 0 ∨ 255 < c ∨ s < 0 ∨ 255 < s
  · simp only [if_pos hbad]
    exact (nbuild_bad c s A xs.length k w hbad).mono fun _ _ ⟨he, hb⟩ => ⟨_, he, Gave.nil _, hb⟩
  · simp only [if_neg hbad]
    by_cases hlong : 4075 < xs.length
    · simp only [if_pos hlong]
      exact (nbuild_long c s A xs.length k w (by omega) (by omega) (by omega) (by omega) hlong).mono fun _ _ ⟨he, hb⟩ => ⟨_, he, Gave.nil _, hb⟩
    · simp only [if_neg hlong]
      exact (nbuild_ok c s A xs k w (by omega) (by omega) (by omega) (by omega) (by omega) hI).mono fun _ _ ⟨v, he, ho, hb⟩ => ⟨v, he, ho.gave, hb⟩
theorem rbuild_all (c s : Int) (A : Option Addr) (xs : List Int) (k : Nat) (w : World) (hI : Ints .u8 w w.heap.size A xs) :
    Calls Tryd.prog 7 #[fv c s A xs.length k] w fun e w' => ∃ v, e = .returned (.tuple #[v, .int .i64 (br c s xs)]) ∧ Gave w' v (bz c s xs) ∧ Below w.heap.size w w' := by
  unfold bz br
  by_cases hbad : c < 0 ∨ 255 < c ∨ s < 0 ∨ 255 < s
  · simp only [if_pos hbad]
    exact (rbuild_bad c s A xs.length k w hbad).mono fun _ _ ⟨he, hb⟩ => ⟨_, he, Gave.nil _, hb⟩
  · simp only [if_neg hbad]
    by_cases hlong : 4075 < xs.length
    · simp only [if_pos hlong]
      exact (rbuild_long c s A xs.length k w (by omega) (by omega) (by omega) (by omega) hlong).mono fun _ _ ⟨he, hb⟩ => ⟨_, he, Gave.nil _, hb⟩
    · simp only [if_neg hlong]
      exact (rbuild_ok c s A xs k w (by omega) (by omega) (by omega) (by omega) (by omega) hI).mono fun _ _ ⟨v, he, ho, hb⟩ => ⟨v, he, ho.gave, hb⟩
/-- A fault that bytes are read as. -/
def Got (w : World) (e : Ending) (ys : List Int) : Prop :=
  ∃ A k, e = .returned (.tuple #[fv (if ys.length < 2 then 0 else ys.getD 0 0) (if ys.length < 2 then 0 else ys.getD 1 0) A (ys.drop 2).length k, .bool (decide (2 ≤ ys.length))]) ∧ (ys.drop 2).length ≤ k ∧ Ints .u8 w w.heap.size A (ys.drop 2)
theorem nread_all (A : Option Addr) (ys : List Int) (k : Nat) (w : World) (hI : Ints .u8 w w.heap.size A ys) (h : ys.length ≤ 100000) (hk : ys.length ≤ k) :
    Calls Tryd.prog 8 #[.slice A ys.length k] w fun e w' => Got w' e ys ∧ Below w.heap.size w w' := by
  rcases ys with _ | ⟨x, _ | ⟨y, zs⟩⟩
  · exact (nread_few A 0 k w (by omega)).mono fun _ _ ⟨he, hb⟩ => ⟨⟨none, 0, by simpa using he, by simp, by simp, fun h => absurd rfl h⟩, hb⟩
  · exact (nread_few A 1 k w (by omega)).mono fun _ _ ⟨he, hb⟩ => ⟨⟨none, 0, by simpa using he, by simp, by simp, fun h => absurd rfl h⟩, hb⟩
  · refine (nread_any A x y zs k w hI (by simp at h; omega) (by simpa using hk)).mono fun e w' ⟨v, he, ho, hb⟩ => ⟨?_, hb⟩
    obtain ⟨A', k', rfl, hk', hI'⟩ := ho.gave
    exact ⟨A', k', by simpa [fv, show ¬ zs.length + 1 + 1 < 2 by omega] using he, by simpa using hk', by simpa using hI'⟩
theorem rread_all (A : Option Addr) (ys : List Int) (k : Nat) (w : World) (hI : Ints .u8 w w.heap.size A ys) (h : ys.length ≤ 100000) (hk : ys.length ≤ k) :
    Calls Tryd.prog 10 #[.slice A ys.length k] w fun e w' => Got w' e ys ∧ Below w.heap.size w w' := by
  rcases ys with _ | ⟨x, _ | ⟨y, zs⟩⟩
  · exact (rread_few A 0 k w (by omega)).mono fun _ _ ⟨he, hb⟩ => ⟨⟨none, 0, by simpa using he, by simp, by simp, fun h => absurd rfl h⟩, hb⟩
  · exact (rread_few A 1 k w (by omega)).mono fun _ _ ⟨he, hb⟩ => ⟨⟨none, 0, by simpa using he, by simp, by simp, fun h => absurd rfl h⟩, hb⟩
  · refine (rread_any A x y zs k w hI (by simp at h; omega) (by simpa using hk)).mono fun e w' ⟨v, he, ho, hb⟩ => ⟨?_, hb⟩
    obtain ⟨A', k', rfl, hk', hI'⟩ := ho.gave
    exact ⟨A', k', by simpa [fv, show ¬ zs.length + 1 + 1 < 2 by omega] using he, by simpa using hk', by simpa using hI'⟩
theorem bytes_gave (A : Option Addr) (ys : List Int) (k : Nat) (w : World) (hI : Ints .u8 w w.heap.size A ys) (h : ys.length ≤ 100000) :
    Calls Tryd.prog 9 #[.slice A ys.length k] w fun e w' => ∃ A' k', e = .returned (.slice A' ys.length k') ∧ ys.length ≤ k' ∧ Ints .u8 w' w'.heap.size A' ys ∧ Below w.heap.size w w' := by
  refine (bytes_any A ys k w hI h).mono fun e w' ⟨v, he, ho, hb⟩ => ?_
  obtain ⟨A', k', rfl, hk', hI'⟩ := Own.gave ⟨ho, hI.1⟩
  exact ⟨A', k', he, hk', hI', hb⟩
end Go.Proofs.YtfjjmhiogfimjaaDoor
