/- What a fault's name comes to, by the package and by the reference. Conditions: the names' table and the library's table of powers hold what their initialisers lay. -/
import Derived.Test.YtfjjmhiogfimjaaDoorNoteRef
import Derived.Test.YtfjjmhiogfimjaaDoorItoa
import Derived.Test.YtfjjmhiogfimjaaDoorShelf
import Derived.Lib.AppendIntMem
set_option linter.unusedVariables false
set_option linter.unusedSimpArgs false
namespace Go.Proofs.YtfjjmhiogfimjaaDoor
open Go.RowKit

/-- What the listed variables hold, whatever is done from block B on. -/
def Laid (B : Nat) (w : World) : Prop := ∀ w', Below B w w' → Names w' ∧ Lib.TabIs Tryd.prog w' "internal/strconv.uint64pow10" .u64 Lib.pow10Tab
theorem Laid.here {B : Nat} {w : World} (h : Laid B w) : Names w ∧ Lib.TabIs Tryd.prog w "internal/strconv.uint64pow10" .u64 Lib.pow10Tab := h w (Below.refl _ _)
theorem Laid.on {B : Nat} {w w1 : World} (h : Laid B w) (hb : Below B w w1) : Laid B w1 := fun w' h' => h w' (hb.trans h')

theorem itoa_any (n : Int) (B : Nat) (w : World) (h0 : -9223372036854775808 ≤ n) (h1 : n ≤ 9223372036854775807) (hL : Laid B w) (hB : B ≤ w.heap.size) :
    Calls Tryd.prog 21 #[.int .i64 n] w fun e w' => e = .returned (.string ⟨(Lib.itoa n).toArray⟩) ∧ Below w.heap.size w w' :=
  (Tryd.strconv_Itoa n h0 h1 w hL.here.2).mono fun _ _ ⟨he, k, os, hw⟩ => ⟨he, by rw [hw]; exact Lib.below_grow _ _ (Nat.le_refl _) _ _⟩

/-- The word of a code. -/
def word (c : Int) : ByteArray :=
  if c = 1 then ⟨#[104, 101, 97, 100, 101, 114]⟩ else if c = 2 then ⟨#[111, 112, 101, 110]⟩ else if c = 3 then ⟨#[117, 112, 100, 97, 116, 101]⟩ else if c = 4 then ⟨#[104, 111, 108, 100]⟩ else if c = 5 then ⟨#[115, 116, 97, 116, 101]⟩ else if c = 6 then ⟨#[99, 101, 97, 115, 101]⟩ else ⟨#[117, 110, 107, 110, 111, 119, 110]⟩
/-- A fault's name. -/
def full (c s : Int) : ByteArray := if s = 0 then word c else word c ++ (⟨#[32]⟩ ++ ⟨(Lib.itoa s).toArray⟩)

theorem name_at (m : Nat) (c s : Int) (A : Option Addr) (n k : Nat) (N : ByteArray) (B : Nat) (w : World) (hcm : c = (m : Int)) (h1 : 1 ≤ m) (h6 : m ≤ 6) (hN : N.size ≤ 7) (hL : Laid B w) (hB : B ≤ w.heap.size)
    (hc : ∀ w', Names w' → w'.cell? ⟨0, m, none⟩ = some (.string N)) (s0 : -9223372036854775808 ≤ s) (s1 : s ≤ 9223372036854775807) :
    Calls Tryd.prog 17 #[fv c s A n k] w fun e w' => e = .returned (.string (if s = 0 then N else N ++ (⟨#[32]⟩ ++ ⟨(Lib.itoa s).toArray⟩))) ∧ Below w.heap.size w w' := by
  subst hcm
  unfold fv
  have b1 : Below w.heap.size w (w.alloc (.cells #[.int .i64 m, .int .i64 s, .slice A n k] 24)) := (Below.refl _ _).alloc (Nat.le_refl _) _
  have hL1 := hL.on (b1.mono hB)
  have c0 := hL1.here.1.c0
  have cm := hc _ hL1.here.1
  have hsz : B ≤ (w.alloc (.cells #[.int .i64 m, .int .i64 s, .slice A n k] 24)).heap.size := by simp; omega
  have g1 : (0 : Int) < (m : Int) := by omega
  have g2 : (m : Int) < 7 := by omega
  have g3 : m < 7 := by omega
  have g4 : (0 : Int) ≤ (m : Int) := by omega
  have HL := Lib.hid hL1
  clear hL hL1 hc
  by_cases hs : s = 0
  · subst hs
    rw [if_pos rfl]
    go_enter Tryd.func17, Tryd.ntmps17
    go_wp2
    go_ret
    exact ⟨rfl, b1⟩
  · rw [if_neg hs]
    have hs2 : (s == 0) = false := by simp [hs]
    obtain ⟨L, hLen⟩ : ∃ L, (Lib.itoa s).length = L := ⟨_, rfl⟩
    have hL21 : L ≤ 21 := by have := Lib.itoa_length_le s s0 s1; omega
    have q1 : ¬ 9223372036854775807 < 1 + L := by omega
    have q2 : ¬ 9223372036854775807 < N.size + (1 + L) := by omega
    go_enter Tryd.func17, Tryd.ntmps17
    go_wp2_with (go_at_call 21; refine (itoa_any s B _ s0 s1 HL.out hsz).mono ?_; rintro e w' ⟨rfl, b2⟩)
    go_ret
    exact ⟨rfl, b1.trans (b2.mono b1.size)⟩
theorem name_other (c s : Int) (A : Option Addr) (n k : Nat) (B : Nat) (w : World) (hcm : c ≤ 0 ∨ 7 ≤ c) (hL : Laid B w) (hB : B ≤ w.heap.size) (s0 : -9223372036854775808 ≤ s) (s1 : s ≤ 9223372036854775807) :
    Calls Tryd.prog 17 #[fv c s A n k] w fun e w' => e = .returned (.string (if s = 0 then ⟨#[117, 110, 107, 110, 111, 119, 110]⟩ else ⟨#[117, 110, 107, 110, 111, 119, 110]⟩ ++ (⟨#[32]⟩ ++ ⟨(Lib.itoa s).toArray⟩))) ∧ Below w.heap.size w w' := by
  unfold fv
  have b1 : Below w.heap.size w (w.alloc (.cells #[.int .i64 c, .int .i64 s, .slice A n k] 24)) := (Below.refl _ _).alloc (Nat.le_refl _) _
  have hL1 := hL.on (b1.mono hB)
  have c0 := hL1.here.1.c0
  have hsz : B ≤ (w.alloc (.cells #[.int .i64 c, .int .i64 s, .slice A n k] 24)).heap.size := by simp; omega
  have HL := Lib.hid hL1
  clear hL hL1
  rcases hcm with hcm | hcm
  · have g1 : decide (0 < c) = false := by simp; omega
    have g2 : ¬ 0 < c := by omega
    by_cases hs : s = 0
    · subst hs
      rw [if_pos rfl]
      go_enter Tryd.func17, Tryd.ntmps17
      go_wp2
      go_ret
      exact ⟨rfl, b1⟩
    · rw [if_neg hs]
      have hs2 : (s == 0) = false := by simp [hs]
      obtain ⟨L, hLen⟩ : ∃ L, (Lib.itoa s).length = L := ⟨_, rfl⟩
      have hL21 : L ≤ 21 := by have := Lib.itoa_length_le s s0 s1; omega
      have q1 : ¬ 9223372036854775807 < 1 + L := by omega
      have q2 : ¬ 9223372036854775807 < 7 + (1 + L) := by omega
      go_enter Tryd.func17, Tryd.ntmps17
      go_wp2_with (go_at_call 21; refine (itoa_any s B _ s0 s1 HL.out hsz).mono ?_; rintro e w' ⟨rfl, b2⟩)
      go_ret
      exact ⟨rfl, b1.trans (b2.mono b1.size)⟩
  · have g1 : 0 < c := by omega
    have g2 : decide (c < 7) = false := by simp; omega
    have g3 : ¬ c < 7 := by omega
    by_cases hs : s = 0
    · subst hs
      rw [if_pos rfl]
      go_enter Tryd.func17, Tryd.ntmps17
      go_wp2
      go_ret
      exact ⟨rfl, b1⟩
    · rw [if_neg hs]
      have hs2 : (s == 0) = false := by simp [hs]
      obtain ⟨L, hLen⟩ : ∃ L, (Lib.itoa s).length = L := ⟨_, rfl⟩
      have hL21 : L ≤ 21 := by have := Lib.itoa_length_le s s0 s1; omega
      have q1 : ¬ 9223372036854775807 < 1 + L := by omega
      have q2 : ¬ 9223372036854775807 < 7 + (1 + L) := by omega
      go_enter Tryd.func17, Tryd.ntmps17
      go_wp2_with (go_at_call 21; refine (itoa_any s B _ s0 s1 HL.out hsz).mono ?_; rintro e w' ⟨rfl, b2⟩)
      go_ret
      exact ⟨rfl, b1.trans (b2.mono b1.size)⟩

theorem name_any (c s : Int) (A : Option Addr) (n k : Nat) (B : Nat) (w : World) (hL : Laid B w) (hB : B ≤ w.heap.size) (s0 : -9223372036854775808 ≤ s) (s1 : s ≤ 9223372036854775807) :
    Calls Tryd.prog 17 #[fv c s A n k] w fun e w' => e = .returned (.string (full c s)) ∧ Below w.heap.size w w' := by
  unfold full word
  by_cases h1 : c = 1
  · subst h1; exact name_at 1 1 s A n k _ B w rfl (by omega) (by omega) (by decide) hL hB (fun _ h => h.c1) s0 s1
  by_cases h2 : c = 2
  · subst h2; exact name_at 2 2 s A n k _ B w rfl (by omega) (by omega) (by decide) hL hB (fun _ h => h.c2) s0 s1
  by_cases h3 : c = 3
  · subst h3; exact name_at 3 3 s A n k _ B w rfl (by omega) (by omega) (by decide) hL hB (fun _ h => h.c3) s0 s1
  by_cases h4 : c = 4
  · subst h4; exact name_at 4 4 s A n k _ B w rfl (by omega) (by omega) (by decide) hL hB (fun _ h => h.c4) s0 s1
  by_cases h5 : c = 5
  · subst h5; exact name_at 5 5 s A n k _ B w rfl (by omega) (by omega) (by decide) hL hB (fun _ h => h.c5) s0 s1
  by_cases h6 : c = 6
  · subst h6; exact name_at 6 6 s A n k _ B w rfl (by omega) (by omega) (by decide) hL hB (fun _ h => h.c6) s0 s1
  · simp only [if_neg h1, if_neg h2, if_neg h3, if_neg h4, if_neg h5, if_neg h6]
    exact name_other c s A n k B w (by omega) hL hB s0 s1

theorem rname_any (c s : Int) (A : Option Addr) (n k : Nat) (w : World) (s0 : -9223372036854775808 ≤ s) (s1 : s ≤ 9223372036854775807) :
    Calls Tryd.prog 18 #[fv c s A n k] w fun e w' => e = .returned (.string (full c s)) ∧ Below w.heap.size w w' := by
  unfold full word fv
  have b1 : Below w.heap.size w (w.alloc (.cells #[.int .i64 c, .int .i64 s, .slice A n k] 24)) := (Below.refl _ _).alloc (Nat.le_refl _) _
  by_cases h1 : c = 1
  · subst h1
    simp only [Int.reduceEq, if_true, if_false]
    by_cases hs : s = 0
    · subst hs
      rw [if_pos rfl]
      go_enter Tryd.func18, Tryd.ntmps18
      go_wp2
      go_ret
      exact ⟨rfl, b1⟩
    · rw [if_neg hs]
      have hs2 : (s == 0) = false := by simp [hs]
      obtain ⟨L, hLen⟩ : ∃ L, (Lib.itoa s).length = L := ⟨_, rfl⟩
      have hL21 : L ≤ 21 := by have := Lib.itoa_length_le s s0 s1; omega
      have q1 : ¬ 9223372036854775807 < 1 + L := by omega
      have q2 : ¬ 9223372036854775807 < 6 + (1 + L) := by omega
      go_enter Tryd.func18, Tryd.ntmps18
      go_wp2_with (go_at_call 22; refine (bitoa_any s _ s0 s1).mono ?_; rintro e w' ⟨rfl, b2⟩)
      go_ret
      exact ⟨rfl, b1.trans (b2.mono b1.size)⟩
  by_cases h2 : c = 2
  · subst h2
    simp only [Int.reduceEq, if_true, if_false]
    by_cases hs : s = 0
    · subst hs
      rw [if_pos rfl]
      go_enter Tryd.func18, Tryd.ntmps18
      go_wp2
      go_ret
      exact ⟨rfl, b1⟩
    · rw [if_neg hs]
      have hs2 : (s == 0) = false := by simp [hs]
      obtain ⟨L, hLen⟩ : ∃ L, (Lib.itoa s).length = L := ⟨_, rfl⟩
      have hL21 : L ≤ 21 := by have := Lib.itoa_length_le s s0 s1; omega
      have q1 : ¬ 9223372036854775807 < 1 + L := by omega
      have q2 : ¬ 9223372036854775807 < 4 + (1 + L) := by omega
      go_enter Tryd.func18, Tryd.ntmps18
      go_wp2_with (go_at_call 22; refine (bitoa_any s _ s0 s1).mono ?_; rintro e w' ⟨rfl, b2⟩)
      go_ret
      exact ⟨rfl, b1.trans (b2.mono b1.size)⟩
  by_cases h3 : c = 3
  · subst h3
    simp only [Int.reduceEq, if_true, if_false]
    by_cases hs : s = 0
    · subst hs
      rw [if_pos rfl]
      go_enter Tryd.func18, Tryd.ntmps18
      go_wp2
      go_ret
      exact ⟨rfl, b1⟩
    · rw [if_neg hs]
      have hs2 : (s == 0) = false := by simp [hs]
      obtain ⟨L, hLen⟩ : ∃ L, (Lib.itoa s).length = L := ⟨_, rfl⟩
      have hL21 : L ≤ 21 := by have := Lib.itoa_length_le s s0 s1; omega
      have q1 : ¬ 9223372036854775807 < 1 + L := by omega
      have q2 : ¬ 9223372036854775807 < 6 + (1 + L) := by omega
      go_enter Tryd.func18, Tryd.ntmps18
      go_wp2_with (go_at_call 22; refine (bitoa_any s _ s0 s1).mono ?_; rintro e w' ⟨rfl, b2⟩)
      go_ret
      exact ⟨rfl, b1.trans (b2.mono b1.size)⟩
  by_cases h4 : c = 4
  · subst h4
    simp only [Int.reduceEq, if_true, if_false]
    by_cases hs : s = 0
    · subst hs
      rw [if_pos rfl]
      go_enter Tryd.func18, Tryd.ntmps18
      go_wp2
      go_ret
      exact ⟨rfl, b1⟩
    · rw [if_neg hs]
      have hs2 : (s == 0) = false := by simp [hs]
      obtain ⟨L, hLen⟩ : ∃ L, (Lib.itoa s).length = L := ⟨_, rfl⟩
      have hL21 : L ≤ 21 := by have := Lib.itoa_length_le s s0 s1; omega
      have q1 : ¬ 9223372036854775807 < 1 + L := by omega
      have q2 : ¬ 9223372036854775807 < 4 + (1 + L) := by omega
      go_enter Tryd.func18, Tryd.ntmps18
      go_wp2_with (go_at_call 22; refine (bitoa_any s _ s0 s1).mono ?_; rintro e w' ⟨rfl, b2⟩)
      go_ret
      exact ⟨rfl, b1.trans (b2.mono b1.size)⟩
  by_cases h5 : c = 5
  · subst h5
    simp only [Int.reduceEq, if_true, if_false]
    by_cases hs : s = 0
    · subst hs
      rw [if_pos rfl]
      go_enter Tryd.func18, Tryd.ntmps18
      go_wp2
      go_ret
      exact ⟨rfl, b1⟩
    · rw [if_neg hs]
      have hs2 : (s == 0) = false := by simp [hs]
      obtain ⟨L, hLen⟩ : ∃ L, (Lib.itoa s).length = L := ⟨_, rfl⟩
      have hL21 : L ≤ 21 := by have := Lib.itoa_length_le s s0 s1; omega
      have q1 : ¬ 9223372036854775807 < 1 + L := by omega
      have q2 : ¬ 9223372036854775807 < 5 + (1 + L) := by omega
      go_enter Tryd.func18, Tryd.ntmps18
      go_wp2_with (go_at_call 22; refine (bitoa_any s _ s0 s1).mono ?_; rintro e w' ⟨rfl, b2⟩)
      go_ret
      exact ⟨rfl, b1.trans (b2.mono b1.size)⟩
  by_cases h6 : c = 6
  · subst h6
    simp only [Int.reduceEq, if_true, if_false]
    by_cases hs : s = 0
    · subst hs
      rw [if_pos rfl]
      go_enter Tryd.func18, Tryd.ntmps18
      go_wp2
      go_ret
      exact ⟨rfl, b1⟩
    · rw [if_neg hs]
      have hs2 : (s == 0) = false := by simp [hs]
      obtain ⟨L, hLen⟩ : ∃ L, (Lib.itoa s).length = L := ⟨_, rfl⟩
      have hL21 : L ≤ 21 := by have := Lib.itoa_length_le s s0 s1; omega
      have q1 : ¬ 9223372036854775807 < 1 + L := by omega
      have q2 : ¬ 9223372036854775807 < 5 + (1 + L) := by omega
      go_enter Tryd.func18, Tryd.ntmps18
      go_wp2_with (go_at_call 22; refine (bitoa_any s _ s0 s1).mono ?_; rintro e w' ⟨rfl, b2⟩)
      go_ret
      exact ⟨rfl, b1.trans (b2.mono b1.size)⟩
  have e1 : (c == 1) = false := by simp [h1]
  have e2 : (c == 2) = false := by simp [h2]
  have e3 : (c == 3) = false := by simp [h3]
  have e4 : (c == 4) = false := by simp [h4]
  have e5 : (c == 5) = false := by simp [h5]
  have e6 : (c == 6) = false := by simp [h6]
  simp only [if_neg h1, if_neg h2, if_neg h3, if_neg h4, if_neg h5, if_neg h6]
  by_cases hs : s = 0
  · subst hs
    rw [if_pos rfl]
    go_enter Tryd.func18, Tryd.ntmps18
    go_wp2
    go_ret
    exact ⟨rfl, b1⟩
  · rw [if_neg hs]
    have hs2 : (s == 0) = false := by simp [hs]
    obtain ⟨L, hLen⟩ : ∃ L, (Lib.itoa s).length = L := ⟨_, rfl⟩
    have hL21 : L ≤ 21 := by have := Lib.itoa_length_le s s0 s1; omega
    have q1 : ¬ 9223372036854775807 < 1 + L := by omega
    have q2 : ¬ 9223372036854775807 < 7 + (1 + L) := by omega
    go_enter Tryd.func18, Tryd.ntmps18
    go_wp2_with (go_at_call 22; refine (bitoa_any s _ s0 s1).mono ?_; rintro e w' ⟨rfl, b2⟩)
    go_ret
    exact ⟨rfl, b1.trans (b2.mono b1.size)⟩
end Go.Proofs.YtfjjmhiogfimjaaDoor
