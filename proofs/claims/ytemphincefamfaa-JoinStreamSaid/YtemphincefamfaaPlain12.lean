/- Plain facts on a joint: a ring of bytes, some ready, some held; what is added, handed on and read. Conditions: as each lemma names. -/
import Derived.Test.YtemphincefamfaaPlain10
set_option linter.unusedVariables false
set_option linter.unusedSimpArgs false
namespace Go.Proofs.Ytemphincefamfaa.Plain

/-- Where in a ring of R, whose first byte lies at f, the byte lies that stands i behind the first one. -/
def pl (f R i : Nat) : Nat := (f + i) % R
theorem pl_lt (f R i : Nat) (hR : 1 ≤ R) : pl f R i < R := Nat.mod_lt _ (by omega)
theorem pl_cast (f R i : Nat) : ((f : Int) + (i : Int)) % (R : Int) = ((pl f R i : Nat) : Int) := by unfold pl; push_cast; rfl
theorem pl_inj (f R i j : Nat) (hf : f < R) (hi : i < R) (hj : j < R) (h : pl f R i = pl f R j) : i = j := by
  unfold pl at h
  by_cases h1 : f + i < R <;> by_cases h2 : f + j < R
  · rw [Nat.mod_eq_of_lt h1, Nat.mod_eq_of_lt h2] at h; omega
  · rw [Nat.mod_eq_of_lt h1, Nat.mod_eq_sub_mod (by omega), Nat.mod_eq_of_lt (by omega)] at h; omega
  · rw [Nat.mod_eq_of_lt h2, Nat.mod_eq_sub_mod (by omega), Nat.mod_eq_of_lt (by omega)] at h; omega
  · rw [Nat.mod_eq_sub_mod (a := f + i) (by omega), Nat.mod_eq_of_lt (by omega), Nat.mod_eq_sub_mod (by omega), Nat.mod_eq_of_lt (by omega)] at h; omega
/-- The marks behind so many bytes that were handed on. -/
def clr (f R r : Nat) (ts : List Bool) : Nat → List Bool
  | 0 => ts
  | n + 1 => (clr f R r ts n).set (pl f R (r + n)) false
theorem clr_len (f R r : Nat) (ts : List Bool) (n : Nat) : (clr f R r ts n).length = ts.length := by
  induction n with
  | zero => rfl
  | succ n ih => rw [clr, List.length_set, ih]
theorem clr_get (f R r : Nat) (ts : List Bool) (n i : Nat) (hf : f < R) (hi : i < R) (hin : r + n ≤ i) : (clr f R r ts n).getD (pl f R i) false = ts.getD (pl f R i) false := by
  induction n with
  | zero => rfl
  | succ n ih =>
    rw [clr, List.getD_eq_getElem?_getD, List.getElem?_set_ne (fun e => by have := pl_inj f R (r + n) i hf (by omega) hi e; omega), ← List.getD_eq_getElem?_getD]
    exact ih (by omega)
theorem clr_gone (f R r : Nat) (ts : List Bool) (n i : Nat) (hf : f < R) (hr : r + n ≤ R) (hl : ts.length = R) (h1 : r ≤ i) (h2 : i < r + n) : (clr f R r ts n).getD (pl f R i) false = false := by
  induction n with
  | zero => omega
  | succ n ih =>
    rw [clr]
    by_cases he : i = r + n
    · subst he
      rw [List.getD_eq_getElem?_getD, List.getElem?_set_self (by rw [clr_len, hl]; exact pl_lt _ _ _ (by omega))]; rfl
    · rw [List.getD_eq_getElem?_getD, List.getElem?_set_ne (fun e => by have := pl_inj f R (r + n) i hf (by omega) (by omega) e; omega), ← List.getD_eq_getElem?_getD]
      exact ih (by omega) (by omega)
theorem clr_before (f R r : Nat) (ts : List Bool) (n i : Nat) (hf : f < R) (hr : r + n ≤ R) (hi : i < r) : (clr f R r ts n).getD (pl f R i) false = ts.getD (pl f R i) false := by
  induction n with
  | zero => rfl
  | succ n ih =>
    rw [clr, List.getD_eq_getElem?_getD, List.getElem?_set_ne (fun e => by have := pl_inj f R (r + n) i hf (by omega) (by omega) e; omega), ← List.getD_eq_getElem?_getD]
    exact ih (by omega)

/-- A ring's bytes, its marks, and how many are held. -/
structure Ring where
  bs : List Int
  ts : List Bool
  held : Int
def Ring.put (s : Ring) (p : Nat) (x : Int) : Ring := if s.ts.getD p false = true then s else ⟨s.bs.set p x, s.ts.set p true, s.held + 1⟩
/-- Behind so many bytes that were to be held, from way behind next on. -/
def holds (f R r way : Nat) (b : Nat → Int) (s : Ring) : Nat → Ring
  | 0 => s
  | k + 1 => (holds f R r way b s k).put (pl f R (r + way + k)) (b k)
theorem put_len (s : Ring) (p : Nat) (x : Int) : (s.put p x).bs.length = s.bs.length ∧ (s.put p x).ts.length = s.ts.length ∧ s.held ≤ (s.put p x).held ∧ (s.put p x).held ≤ s.held + 1 := by
  unfold Ring.put; split <;> simp <;> omega
theorem holds_len (f R r way : Nat) (b : Nat → Int) (s : Ring) (k : Nat) : (holds f R r way b s k).bs.length = s.bs.length ∧ (holds f R r way b s k).ts.length = s.ts.length ∧ s.held ≤ (holds f R r way b s k).held ∧ (holds f R r way b s k).held ≤ s.held + k := by
  induction k with
  | zero => simp [holds]
  | succ k ih =>
    have h := put_len (holds f R r way b s k) (pl f R (r + way + k)) (b k)
    rw [holds]
    exact ⟨h.1.trans ih.1, h.2.1.trans ih.2.1, by omega, by omega⟩
/-- What is left of a span lies in the window. -/
theorem trim_way (next size frm n : Int) (h1 : 0 ≤ size) (h2 : size ≤ 65535) (h3 : 0 ≤ n) (h4 : n ≤ 200000) (f0 : 0 ≤ frm) (f1 : frm < 4294967296) (m0 : 0 ≤ next) (m1 : next < 4294967296) (hN : trimN next size frm n ≠ 0) :
    way next (add frm (trimA next size frm n)) + trimN next size frm n ≤ size := by
  obtain ⟨g1, g2, g3, g4, g5⟩ := trim_facts next size frm n h1 h2 h3 h4 f0 f1 m0 m1
  obtain ⟨k1, k2, _⟩ := g5 hN
  have k1 := ((within_iff _ _ _).1 k1).2.2
  have k2 := ((within_iff _ _ _).1 k2).2.2
  have hm : trimN next size frm n ≤ size := by
    unfold trimN
    split
    · split
      · have := way_range next frm; omega
      · split <;> omega
    · omega
  generalize trimN next size frm n = N at *
  generalize add frm (trimA next size frm n) = x at *
  have hr := way_range next x
  have : way next (add x (N - 1)) = way next x + (N - 1) := by
    unfold way add at *; omega
  omega

/-- What is read: the first k of m bytes, behind them noughts. -/
def rdRow (f : Nat → Int) (m k : Nat) : List Int := (List.range m).map fun i => if i < k then f i else 0
theorem rdRow_len (f : Nat → Int) (m k : Nat) : (rdRow f m k).length = m := by simp [rdRow]
theorem rdRow_zero (f : Nat → Int) (m : Nat) : rdRow f m 0 = List.replicate m 0 := by
  apply List.ext_getElem
  · simp [rdRow]
  · intro i h1 h2; simp [rdRow]
theorem rdRow_set (f : Nat → Int) (m k : Nat) (h : k < m) : (rdRow f m k).set k (f k) = rdRow f m (k + 1) := by
  apply List.ext_getElem
  · simp [rdRow]
  · intro i h1 h2
    simp only [rdRow, List.getElem_set, List.getElem_map, List.getElem_range]
    by_cases hik : k = i
    · subst hik; simp
    · rw [if_neg hik]
      by_cases hlt : i < k
      · rw [if_pos hlt, if_pos (by omega)]
      · rw [if_neg hlt, if_neg (by omega)]
theorem rdRow_all (f : Nat → Int) (m : Nat) : rdRow f m m = (List.range m).map f := by
  unfold rdRow
  apply List.map_congr_left
  intro i hi
  rw [if_pos (List.mem_range.1 hi)]
end Go.Proofs.Ytemphincefamfaa.Plain
