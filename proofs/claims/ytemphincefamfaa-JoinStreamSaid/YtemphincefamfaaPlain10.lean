/- Plain facts on numbers that go round: ways, windows, spans, and what is left of a span. Conditions: numbers from 0 to 2^32 - 1. -/
set_option linter.unusedVariables false
set_option linter.unusedSimpArgs false
namespace Go.Proofs.Ytemphincefamfaa.Plain

/-- How often 1 must be added to a to come to b. -/
def way (a b : Int) : Int := (b - a) % 4294967296
theorem way_range (a b : Int) : 0 ≤ way a b ∧ way a b < 4294967296 := by unfold way; omega
def add (a n : Int) : Int := (a + n) % 4294967296
theorem add_range (a n : Int) : 0 ≤ add a n ∧ add a n < 4294967296 := by unfold add; omega
def ahead (a b : Int) : Bool := decide (1 ≤ way a b ∧ way a b < 2147483648)
def least (a b : Int) : Int := if ahead b a = true then b else a
def within (a frm size : Int) : Bool := decide (0 ≤ size ∧ size ≤ 65535 ∧ way frm a < size)
def sure (una next ack : Int) : Bool := decide (1 ≤ way una ack ∧ way una ack ≤ way una next)
def fits (size n : Int) : Bool := decide (0 ≤ size ∧ size ≤ 65535 ∧ 0 ≤ n ∧ n ≤ 1073741824)
def acc (next size frm n : Int) : Bool :=
  if fits size n = false then false
  else if n = 0 then (if size = 0 then frm == next else within frm next size)
  else within frm next size || within (add frm (n - 1)) next size
def err (size n : Int) : Int := if fits size n = true then 0 else 2
/-- How many of the span stand ahead of the window; and how many are in it. -/
def trimA (next size frm n : Int) : Int :=
  if fits size n = true ∧ n ≠ 0 ∧ size ≠ 0 ∧ within frm next size = false ∧ way frm next < n then way frm next else 0
def trimN (next size frm n : Int) : Int :=
  if fits size n = true ∧ n ≠ 0 ∧ size ≠ 0 then
    (if within frm next size = true then min n (size - way next frm) else if way frm next < n then min (n - way frm next) size else 0)
  else 0

theorem fits_true {size n : Int} (h : fits size n = true) : 0 ≤ size ∧ size ≤ 65535 ∧ 0 ≤ n ∧ n ≤ 1073741824 := by unfold fits at h; simpa using h
theorem fits_mk {size n : Int} (h1 : 0 ≤ size) (h2 : size ≤ 65535) (h3 : 0 ≤ n) (h4 : n ≤ 1073741824) : fits size n = true := by unfold fits; simp [*]
theorem within_iff (a frm size : Int) : within a frm size = true ↔ 0 ≤ size ∧ size ≤ 65535 ∧ way frm a < size := by unfold within; simp
theorem within_false (a frm size : Int) : within a frm size = false ↔ ¬ (0 ≤ size ∧ size ≤ 65535 ∧ way frm a < size) := by unfold within; simp

/-- Number by number of the window: how many of the first i are in the span, and where the first of them stands. -/
def at_ (next frm : Int) (i : Nat) : Int := way frm (add next i)
theorem at_range (next frm : Int) (i : Nat) : 0 ≤ at_ next frm i ∧ at_ next frm i < 4294967296 := way_range _ _
/-- How many of the window's first i numbers lie in the span, told by one formula. -/
def got (next frm n : Int) (i : Nat) : Int :=
  if way frm next < n then min (i : Int) (n - way frm next)
  else max 0 (min (i - (4294967296 - way frm next)) n)
/-- Where the first of them stands in the span. -/
def lead (next frm n : Int) (i : Nat) : Int := if way frm next < n ∧ 0 < i then way frm next else 0

theorem got_zero (next frm n : Int) (hn : 0 ≤ n) : got next frm n 0 = 0 := by
  have := way_range frm next
  unfold got; split <;> omega
theorem got_nonneg (next frm n : Int) (i : Nat) (hn : 0 ≤ n) : 0 ≤ got next frm n i ∧ got next frm n i ≤ i := by
  have := way_range frm next
  unfold got; split <;> omega
theorem got_out (next frm n : Int) (i : Nat) (hn : 0 ≤ n) (hn1 : n ≤ 1073741824) (hi : i < 65535) (h : n ≤ at_ next frm i) : got next frm n (i + 1) = got next frm n i := by
  have := way_range frm next
  unfold at_ way add at h
  unfold got way at *
  split <;> omega
theorem got_in (next frm n : Int) (i : Nat) (hn : 0 ≤ n) (hn1 : n ≤ 1073741824) (hi : i < 65535) (h : at_ next frm i < n) : got next frm n (i + 1) = got next frm n i + 1 := by
  have := way_range frm next
  unfold at_ way add at h
  unfold got way at *
  split <;> omega
theorem lead_out (next frm n : Int) (i : Nat) (hn : 0 ≤ n) (hn1 : n ≤ 1073741824) (hi : i < 65535) (h : n ≤ at_ next frm i) : lead next frm n (i + 1) = lead next frm n i := by
  have := way_range frm next
  unfold at_ way add at h
  unfold lead way at *
  split <;> split <;> omega
theorem lead_first (next frm n : Int) (i : Nat) (hn : 0 ≤ n) (hn1 : n ≤ 1073741824) (hi : i < 65535) (h : at_ next frm i < n) (h0 : got next frm n i = 0) : lead next frm n (i + 1) = at_ next frm i := by
  have := way_range frm next
  unfold got way at h0
  unfold at_ way add at h ⊢
  unfold lead way at *
  split at h0 <;> split <;> omega
theorem lead_more (next frm n : Int) (i : Nat) (hn : 0 ≤ n) (hn1 : n ≤ 1073741824) (hi : i < 65535) (h : at_ next frm i < n) (h0 : got next frm n i ≠ 0) : lead next frm n (i + 1) = lead next frm n i := by
  have := way_range frm next
  unfold got way at h0
  unfold at_ way add at h
  unfold lead way at *
  split at h0 <;> split <;> split <;> omega
theorem way_flip (a b : Int) (a0 : 0 ≤ a) (a1 : a < 4294967296) (b0 : 0 ≤ b) (b1 : b < 4294967296) : (a = b ∧ way a b = 0 ∧ way b a = 0) ∨ (a ≠ b ∧ way a b + way b a = 4294967296 ∧ 0 < way a b ∧ 0 < way b a) := by
  unfold way; omega
theorem got_all (next size frm n : Int) (hf : fits size n = true) (f0 : 0 ≤ frm) (f1 : frm < 4294967296) (m0 : 0 ≤ next) (m1 : next < 4294967296) : got next frm n size.toNat = trimN next size frm n := by
  obtain ⟨h1, h2, h3, h4⟩ := fits_true hf
  have hfl := way_flip frm next f0 f1 m0 m1
  have hs : ((size.toNat : Nat) : Int) = size := by omega
  unfold trimN got
  rw [hs]
  have hr1 := way_range frm next
  have hr2 := way_range next frm
  by_cases hw : within frm next size = true
  · have := (within_iff _ _ _).1 hw
    by_cases hz : n ≠ 0 ∧ size ≠ 0
    · rw [if_pos (⟨hf, hz⟩ : _ ∧ _), if_pos hw]
      by_cases hx : way frm next < n
      · rw [if_pos hx]; omega
      · rw [if_neg hx]; omega
    · rw [if_neg (show ¬ (fits size n = true ∧ n ≠ 0 ∧ size ≠ 0) from fun h => hz h.2)]
      by_cases hx : way frm next < n
      · rw [if_pos hx]; omega
      · rw [if_neg hx]; omega
  · have hw' : within frm next size = false := by simpa using hw
    have := (within_false _ _ _).1 hw'
    by_cases hz : n ≠ 0 ∧ size ≠ 0
    · rw [if_pos (⟨hf, hz⟩ : _ ∧ _), if_neg hw]
      by_cases hx : way frm next < n
      · rw [if_pos hx, if_pos hx]; omega
      · rw [if_neg hx, if_neg hx]; omega
    · rw [if_neg (show ¬ (fits size n = true ∧ n ≠ 0 ∧ size ≠ 0) from fun h => hz h.2)]
      by_cases hx : way frm next < n
      · rw [if_pos hx]; omega
      · rw [if_neg hx]; omega
theorem lead_all (next size frm n : Int) (hf : fits size n = true) (f0 : 0 ≤ frm) (f1 : frm < 4294967296) (m0 : 0 ≤ next) (m1 : next < 4294967296) : lead next frm n size.toNat = trimA next size frm n := by
  obtain ⟨h1, h2, h3, h4⟩ := fits_true hf
  unfold trimA
  by_cases hw : within frm next size = true
  · have := (within_iff _ _ _).1 hw
    simp only [hf, hw, true_and]
    unfold lead way at *
    simp
    omega
  · have hw' : within frm next size = false := by simpa using hw
    have := (within_false _ _ _).1 hw'
    simp only [hf, hw', true_and]
    unfold lead way at *
    split <;> split <;> omega

theorem way_shift (a b d : Int) : way ((a + d) % 4294967296) ((b + d) % 4294967296) = way a b := by unfold way; omega
theorem add_shift (a d n : Int) : add ((a + d) % 4294967296) n = (add a n + d) % 4294967296 := by unfold add; omega
theorem ahead_shift (a b d : Int) : ahead ((a + d) % 4294967296) ((b + d) % 4294967296) = ahead a b := by unfold ahead; rw [way_shift]
theorem least_shift (a b d : Int) : least ((a + d) % 4294967296) ((b + d) % 4294967296) = (least a b + d) % 4294967296 := by unfold least; rw [ahead_shift]; split <;> rfl
theorem sure_shift (a b c d : Int) : sure ((a + d) % 4294967296) ((b + d) % 4294967296) ((c + d) % 4294967296) = sure a b c := by unfold sure; rw [way_shift, way_shift]
theorem within_shift (a b s d : Int) : within ((a + d) % 4294967296) ((b + d) % 4294967296) s = within a b s := by unfold within; rw [way_shift]
theorem beq_shift (a b d : Int) (a0 : 0 ≤ a) (a1 : a < 4294967296) (b0 : 0 ≤ b) (b1 : b < 4294967296) : ((a + d) % 4294967296 == (b + d) % 4294967296) = (a == b) := by
  rw [Bool.eq_iff_iff]; simp; omega
theorem acc_shift (a s b n d : Int) (a0 : 0 ≤ a) (a1 : a < 4294967296) (b0 : 0 ≤ b) (b1 : b < 4294967296) : acc ((a + d) % 4294967296) s ((b + d) % 4294967296) n = acc a s b n := by
  unfold acc; rw [add_shift, within_shift, within_shift, beq_shift _ _ _ b0 b1 a0 a1]
theorem trimA_shift (a s b n d : Int) : trimA ((a + d) % 4294967296) s ((b + d) % 4294967296) n = trimA a s b n := by unfold trimA; rw [within_shift, way_shift]
theorem trimN_shift (a s b n d : Int) : trimN ((a + d) % 4294967296) s ((b + d) % 4294967296) n = trimN a s b n := by unfold trimN; rw [within_shift, way_shift, way_shift]

theorem trim_facts (next size frm n : Int) (h1 : 0 ≤ size) (h2 : size ≤ 65535) (h3 : 0 ≤ n) (h4 : n ≤ 200000) (f0 : 0 ≤ frm) (f1 : frm < 4294967296) (m0 : 0 ≤ next) (m1 : next < 4294967296) :
    0 ≤ trimA next size frm n ∧ 0 ≤ trimN next size frm n ∧ trimA next size frm n + trimN next size frm n ≤ n ∧
    (trimN next size frm n = 0 → trimA next size frm n = 0 ∧ ¬ (acc next size frm n = true ∧ 0 < n)) ∧
    (trimN next size frm n ≠ 0 → within (add frm (trimA next size frm n)) next size = true ∧ within (add (add frm (trimA next size frm n)) (trimN next size frm n - 1)) next size = true ∧ (add frm (trimA next size frm n) = next ∨ trimA next size frm n = 0)) := by
  have hf : fits size n = true := fits_mk h1 h2 h3 (by omega)
  have hfl := way_flip frm next f0 f1 m0 m1
  have hr1 := way_range frm next
  have hr2 := way_range next frm
  by_cases hz : n ≠ 0 ∧ size ≠ 0
  · by_cases hw : within frm next size = true
    · have hw3 := ((within_iff _ _ _).1 hw).2.2
      have hA : trimA next size frm n = 0 := by unfold trimA; rw [if_neg]; intro h; rw [hw] at h; cases h.2.2.2.1
      have hN : trimN next size frm n = min n (size - way next frm) := by unfold trimN; rw [if_pos ⟨hf, hz⟩, if_pos hw]
      rw [hA, hN]
      refine ⟨by omega, by omega, by omega, fun h => by omega, fun _ => ⟨?_, ?_, .inr rfl⟩⟩
      · rw [within_iff]; unfold way add at *; omega
      · rw [within_iff]; unfold way add at *; omega
    · have hw' : within frm next size = false := by simpa using hw
      have hw3 := (within_false _ _ _).1 hw'
      by_cases hx : way frm next < n
      · have hA : trimA next size frm n = way frm next := by unfold trimA; rw [if_pos ⟨hf, hz.1, hz.2, hw', hx⟩]
        have hN : trimN next size frm n = min (n - way frm next) size := by unfold trimN; rw [if_pos ⟨hf, hz⟩, if_neg hw, if_pos hx]
        have ha : add frm (way frm next) = next := by unfold add way; omega
        rw [hA, hN, ha]
        refine ⟨by omega, by omega, by omega, fun h => by omega, fun _ => ⟨?_, ?_, .inl rfl⟩⟩
        · rw [within_iff]; unfold way add at *; omega
        · rw [within_iff]; unfold way add at *; omega
      · have hA : trimA next size frm n = 0 := by unfold trimA; rw [if_neg]; intro h; exact hx h.2.2.2.2
        have hN : trimN next size frm n = 0 := by unfold trimN; rw [if_pos ⟨hf, hz⟩, if_neg hw, if_neg hx]
        rw [hA, hN]
        refine ⟨by omega, by omega, by omega, fun _ => ⟨rfl, fun h => ?_⟩, fun h => absurd rfl h⟩
        have hacc : acc next size frm n = (within frm next size || within (add frm (n - 1)) next size) := by unfold acc; rw [if_neg (by rw [hf]; simp), if_neg hz.1]
        have hlast : within (add frm (n - 1)) next size = false := by rw [within_false]; unfold way add at *; omega
        rw [hacc, hw', hlast] at h
        exact absurd h.1 (by simp)
  · have hA : trimA next size frm n = 0 := by unfold trimA; rw [if_neg]; intro h; exact hz ⟨h.2.1, h.2.2.1⟩
    have hN : trimN next size frm n = 0 := by unfold trimN; rw [if_neg]; intro h; exact hz h.2
    rw [hA, hN]
    refine ⟨by omega, by omega, by omega, fun _ => ⟨rfl, fun h => ?_⟩, fun h => absurd rfl h⟩
    have hs : size = 0 := by omega
    have hacc : acc next size frm n = (within frm next size || within (add frm (n - 1)) next size) := by unfold acc; rw [if_neg (by rw [hf]; simp), if_neg (by omega)]
    have k1 : within frm next size = false := by rw [within_false]; omega
    have k2 : within (add frm (n - 1)) next size = false := by rw [within_false]; have := way_range next (add frm (n - 1)); omega
    rw [hacc, k1, k2] at h
    exact absurd h.1 (by simp)
end Go.Proofs.Ytemphincefamfaa.Plain
