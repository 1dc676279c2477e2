/- Plain facts on a joint as what it holds: the bytes that are ready, and a list of those that are held, each by how far behind next it stands. Conditions: as each lemma names. -/
import Derived.Test.YtemphincefamfaaPlain12
set_option linter.unusedVariables false
set_option linter.unusedSimpArgs false
namespace Go.Proofs.Ytemphincefamfaa.Plain

/-- What is held so far behind next. -/
def lk : List (Nat × Int) → Nat → Option Int
  | [], _ => none
  | (a, x) :: r, k => if a = k then some x else lk r k
theorem lk_app (L M : List (Nat × Int)) (k : Nat) : lk (L ++ M) k = (lk L k).or (lk M k) := by
  induction L with
  | nil => simp [lk]
  | cons p r ih =>
    obtain ⟨a, x⟩ := p
    by_cases h : a = k
    · simp [lk, h]
    · simp [lk, h, ih]
theorem lk_mem (L : List (Nat × Int)) (k : Nat) (x : Int) (h : lk L k = some x) : (k, x) ∈ L := by
  induction L with
  | nil => simp [lk] at h
  | cons p r ih =>
    obtain ⟨a, y⟩ := p
    by_cases hk : a = k
    · simp [lk, hk] at h; subst hk h; simp
    · simp [lk, hk] at h; exact List.mem_cons_of_mem _ (ih h)
theorem lk_none (L : List (Nat × Int)) (k : Nat) : lk L k = none ↔ k ∉ L.map (·.1) := by
  induction L with
  | nil => simp [lk]
  | cons p r ih =>
    obtain ⟨a, y⟩ := p
    by_cases hk : a = k
    · simp [lk, hk]
    · simp [lk, hk, ih]; intro _ e; exact hk e.symm
theorem lk_some (L : List (Nat × Int)) (k : Nat) (x : Int) (hn : (L.map (·.1)).Nodup) (h : (k, x) ∈ L) : lk L k = some x := by
  induction L with
  | nil => cases h
  | cons p r ih =>
    obtain ⟨a, y⟩ := p
    simp at hn h
    rcases h with ⟨rfl, rfl⟩ | h
    · simp [lk]
    · have : a ≠ k := fun e => hn.1 x (by subst e; exact h)
      simp [lk, this]; exact ih hn.2 h

/-- One more is held, if none is. -/
def putL (L : List (Nat × Int)) (k : Nat) (x : Int) : List (Nat × Int) := if (lk L k).isSome = true then L else L ++ [(k, x)]
theorem putL_lk (L : List (Nat × Int)) (k : Nat) (x : Int) (j : Nat) : lk (putL L k x) j = if j = k then some ((lk L k).getD x) else lk L j := by
  unfold putL
  by_cases h : (lk L k).isSome = true
  · rw [if_pos h]
    split
    · rename_i e; subst e; cases hk : lk L j with
      | none => rw [hk] at h; cases h
      | some y => rfl
    · rfl
  · rw [if_neg h, lk_app]
    have h0 : lk L k = none := by simpa using h
    split
    · rename_i e; subst e; rw [h0]; simp [lk]
    · rename_i e; have : ¬ k = j := fun h => e h.symm
      simp [lk, this]
/-- So many more. -/
def holdsL (L : List (Nat × Int)) (way : Nat) (b : Nat → Int) : Nat → List (Nat × Int)
  | 0 => L
  | k + 1 => putL (holdsL L way b k) (way + k) (b k)
theorem holdsL_lk (L : List (Nat × Int)) (way : Nat) (b : Nat → Int) (n j : Nat) : lk (holdsL L way b n) j = if way ≤ j ∧ j < way + n then some ((lk L j).getD (b (j - way))) else lk L j := by
  induction n with
  | zero => rw [if_neg (by omega)]; rfl
  | succ n ih =>
    rw [holdsL, putL_lk, ih]
    by_cases h1 : j = way + n
    · subst h1
      rw [if_pos rfl, if_pos (by omega), ih, if_neg (by omega)]
      congr 3; omega
    · rw [if_neg h1]
      by_cases h2 : way ≤ j ∧ j < way + n
      · rw [if_pos h2, if_pos (by omega)]
      · rw [if_neg h2, if_neg (by omega)]

/-- What is held behind so many that were handed on. -/
def shiftL (m : Nat) (L : List (Nat × Int)) : List (Nat × Int) := (L.filter fun p => decide (m ≤ p.1)).map fun p => (p.1 - m, p.2)
theorem shiftL_zero (L : List (Nat × Int)) : shiftL 0 L = L := by
  unfold shiftL; simp
theorem shiftL_succ (m : Nat) (L : List (Nat × Int)) : shiftL 1 (shiftL m L) = shiftL (m + 1) L := by
  induction L with
  | nil => rfl
  | cons p r ih =>
    obtain ⟨a, y⟩ := p
    unfold shiftL at ih ⊢
    by_cases h : m ≤ a
    · by_cases h2 : m + 1 ≤ a
      · have h3 : 1 ≤ a - m := by omega
        simp only [List.filter_cons, List.map_cons, decide_eq_true h, decide_eq_true h2, decide_eq_true h3, if_true, ih]
        congr 2
      · have h3 : ¬ 1 ≤ a - m := by omega
        simp only [List.filter_cons, List.map_cons, decide_eq_true h, decide_eq_false h2, decide_eq_false h3, if_true]
        simpa using ih
    · have h2 : ¬ m + 1 ≤ a := by omega
      simp only [List.filter_cons, decide_eq_false h, decide_eq_false h2]
      simpa using ih
theorem shiftL_lk (m : Nat) (L : List (Nat × Int)) (k : Nat) : lk (shiftL m L) k = lk L (m + k) := by
  induction L with
  | nil => rfl
  | cons p r ih =>
    obtain ⟨a, y⟩ := p
    unfold shiftL at ih ⊢
    by_cases h : m ≤ a
    · simp only [List.filter_cons, decide_eq_true h, if_true, List.map_cons, lk, ih]
      by_cases h2 : a = m + k
      · rw [if_pos h2, if_pos (by omega)]
      · rw [if_neg h2, if_neg (by omega)]
    · have h2 : ¬ a = m + k := by omega
      simp only [List.filter_cons, decide_eq_false h, lk, if_neg h2]
      simpa using ih
theorem shiftL_nodup (m : Nat) (L : List (Nat × Int)) (hn : (L.map (·.1)).Nodup) : ((shiftL m L).map (·.1)).Nodup := by
  induction L with
  | nil => simp [shiftL]
  | cons p r ih =>
    obtain ⟨a, y⟩ := p
    simp only [List.map_cons, List.nodup_cons] at hn
    by_cases h : m ≤ a
    · have e : shiftL m ((a, y) :: r) = (a - m, y) :: shiftL m r := by unfold shiftL; simp [List.filter_cons, h]
      rw [e, List.map_cons, List.nodup_cons]
      refine ⟨?_, ih hn.2⟩
      have h0 := (lk_none r a).2 hn.1
      have h1 := shiftL_lk m r (a - m)
      rw [show m + (a - m) = a by omega, h0] at h1
      exact (lk_none _ _).1 h1
    · have e : shiftL m ((a, y) :: r) = shiftL m r := by unfold shiftL; simp [List.filter_cons, h]
      rw [e]; exact ih hn.2
theorem shiftL_none (L : List (Nat × Int)) (h : lk L 0 = none) : (shiftL 1 L).length = L.length := by
  induction L with
  | nil => rfl
  | cons p r ih =>
    obtain ⟨a, y⟩ := p
    by_cases h0 : a = 0
    · simp [lk, h0] at h
    · simp [lk, h0] at h
      have e : shiftL 1 ((a, y) :: r) = (a - 1, y) :: shiftL 1 r := by unfold shiftL; simp [List.filter_cons]; rw [if_pos (by omega)]; rfl
      rw [e, List.length_cons, ih h, List.length_cons]
theorem shiftL_len (L : List (Nat × Int)) (hn : (L.map (·.1)).Nodup) (x : Int) (h : lk L 0 = some x) : (shiftL 1 L).length + 1 = L.length := by
  induction L with
  | nil => simp [lk] at h
  | cons p r ih =>
    obtain ⟨a, y⟩ := p
    simp only [List.map_cons, List.nodup_cons] at hn
    by_cases h0 : a = 0
    · subst h0
      have e : shiftL 1 ((0, y) :: r) = shiftL 1 r := by unfold shiftL; simp [List.filter_cons]
      rw [e, shiftL_none r ((lk_none _ _).2 hn.1), List.length_cons]
    · simp [lk, h0] at h
      have e : shiftL 1 ((a, y) :: r) = (a - 1, y) :: shiftL 1 r := by unfold shiftL; simp [List.filter_cons]; rw [if_pos (by omega)]; rfl
      rw [e, List.length_cons, ih hn.2 h, List.length_cons]

/-- Different numbers below n are at most n. -/
theorem few_below (n : Nat) (l : List Nat) (hn : l.Nodup) (h : ∀ x ∈ l, x < n) : l.length ≤ n := by
  induction n generalizing l with
  | zero =>
    cases l with
    | nil => simp
    | cons a r => exact absurd (h a (by simp)) (by omega)
  | succ n ih =>
    have h2 := ih (l.erase n) (hn.erase n) (fun x hx => by
      have hx1 := h x (List.mem_of_mem_erase hx)
      have hx2 : x ≠ n := fun e => by subst e; exact (List.Nodup.not_mem_erase hn) hx
      omega)
    have h3 : l.length ≤ (l.erase n).length + 1 := by rw [List.length_erase]; split <;> omega
    omega

/-- A ring, told by what it holds. -/
structure View (s : Ring) (first R ready : Nat) (G : List Int) (L : List (Nat × Int)) : Prop where
  lb : s.bs.length = R
  lt : s.ts.length = R
  gl : G.length = ready
  got : ∀ i, i < ready → s.bs.getD (pl first R i) 0 = G.getD i 0
  clear : ∀ i, i < ready → s.ts.getD (pl first R i) false = false
  mark : ∀ k, ready + k < R → s.ts.getD (pl first R (ready + k)) false = (lk L k).isSome
  val : ∀ k x, ready + k < R → lk L k = some x → s.bs.getD (pl first R (ready + k)) 0 = x
  held : s.held = L.length
  nodup : (L.map (·.1)).Nodup
  keys : ∀ p ∈ L, ready + p.1 < R
  fst : first < R
  fit : ready ≤ R

theorem getD_set {α : Type} (l : List α) (i j : Nat) (x d : α) (hi : i < l.length) : (l.set i x).getD j d = if i = j then x else l.getD j d := by
  by_cases h : i = j
  · subst h; simp [List.getD_eq_getElem?_getD, hi]
  · rw [if_neg h]; simp [List.getD_eq_getElem?_getD, List.getElem?_set_ne h]

section
variable {s : Ring} {first R ready : Nat} {G : List Int} {L : List (Nat × Int)}
theorem View.few (h : View s first R ready G L) : ready + L.length ≤ R := by
  have := few_below (R - ready) (L.map (·.1)) h.nodup (fun x hx => by
    obtain ⟨p, hp, rfl⟩ := List.mem_map.1 hx
    have := h.keys p hp
    omega)
  have hf := h.fit
  rw [List.length_map] at this
  omega
theorem View.put (h : View s first R ready G L) (k : Nat) (x : Int) (hk : ready + k < R) : View (s.put (pl first R (ready + k)) x) first R ready G (putL L k x) := by
  have hm := h.mark k hk
  have hpl := pl_lt first R (ready + k) (by omega)
  unfold Ring.put
  by_cases hs : (lk L k).isSome = true
  · rw [if_pos (by rw [hm]; exact hs)]
    have : putL L k x = L := by unfold putL; rw [if_pos hs]
    rw [this]; exact h
  · rw [if_neg (by rw [hm]; exact hs)]
    have h0 : lk L k = none := by simpa using hs
    have hL : putL L k x = L ++ [(k, x)] := by unfold putL; rw [if_neg hs]
    have inj : ∀ j, j < R → pl first R (ready + k) = pl first R j → ready + k = j := fun j hj e => pl_inj first R _ _ h.fst hk hj e
    exact {
      lb := by simp [h.lb]
      lt := by simp [h.lt]
      gl := h.gl
      got := fun i hi => by
        have hf := h.fit
        show (s.bs.set _ _).getD _ _ = _
        rw [getD_set _ _ _ _ _ (by rw [h.lb]; exact hpl), if_neg (fun e => by have := inj i (by omega) e; omega)]; exact h.got i hi
      clear := fun i hi => by
        have hf := h.fit
        show (s.ts.set _ _).getD _ _ = _
        rw [getD_set _ _ _ _ _ (by rw [h.lt]; exact hpl), if_neg (fun e => by have := inj i (by omega) e; omega)]; exact h.clear i hi
      mark := fun j hj => by
        show (s.ts.set _ _).getD _ _ = _
        rw [getD_set _ _ _ _ _ (by rw [h.lt]; exact hpl), putL_lk]
        by_cases e : j = k
        · subst e; simp
        · rw [if_neg (fun e' => e (by have := inj _ hj e'; omega)), if_neg e]; exact h.mark j hj
      val := fun j y hj hy => by
        show (s.bs.set _ _).getD _ _ = _
        rw [putL_lk] at hy
        rw [getD_set _ _ _ _ _ (by rw [h.lb]; exact hpl)]
        by_cases e : j = k
        · subst e; rw [if_pos rfl, h0] at hy; simp at hy; rw [if_pos rfl]; exact hy
        · rw [if_neg e] at hy; rw [if_neg (fun e' => e (by have := inj _ hj e'; omega))]; exact h.val j y hj hy
      held := by rw [hL]; simp [h.held]
      nodup := by
        rw [hL, List.map_append]
        have := (lk_none L k).1 h0
        rw [List.nodup_append]
        refine ⟨h.nodup, by simp, ?_⟩
        intro a ha b hb e
        simp at hb
        subst hb e
        exact this ha
      keys := fun p hp => by
        rw [hL] at hp
        rcases List.mem_append.1 hp with hp | hp
        · exact h.keys p hp
        · simp at hp; subst hp; exact hk
      fst := h.fst
      fit := h.fit }
theorem View.holdsAll (h : View s first R ready G L) (way : Nat) (b : Nat → Int) (n : Nat) (hn : n ≠ 0 → ready + way + n ≤ R) : View (holds first R ready way b s n) first R ready G (holdsL L way b n) := by
  induction n with
  | zero => exact h
  | succ n ih =>
    have := hn (by omega)
    have ih2 := ih (fun _ => by omega)
    show View ((holds first R ready way b s n).put (pl first R (ready + way + n)) (b n)) first R ready G (putL (holdsL L way b n) (way + n) (b n))
    rw [Nat.add_assoc]
    exact ih2.put (way + n) (b n) (by omega)
theorem View.hand1 (h : View s first R ready G L) (x : Int) (hr : ready < R) (hx : lk L 0 = some x) :
    View ⟨s.bs, s.ts.set (pl first R ready) false, s.held - 1⟩ first R (ready + 1) (G ++ [x]) (shiftL 1 L) := by
  have hpl := pl_lt first R ready (by omega)
  have inj : ∀ j, j < R → pl first R ready = pl first R j → ready = j := fun j hj e => pl_inj first R _ _ h.fst hr hj e
  have hlen := shiftL_len L h.nodup x hx
  exact {
    lb := h.lb
    lt := by simp [h.lt]
    gl := by simp [h.gl]
    got := fun i hi => by
      show s.bs.getD _ _ = _
      by_cases e : i = ready
      · subst e
        have := h.val 0 x (by omega) hx
        rw [Nat.add_zero] at this
        rw [this, List.getD_eq_getElem?_getD, List.getElem?_append_right (by rw [h.gl]; exact Nat.le_refl _), h.gl]; simp
      · rw [h.got i (by omega), List.getD_eq_getElem?_getD, List.getD_eq_getElem?_getD, List.getElem?_append_left (by rw [h.gl]; omega)]
    clear := fun i hi => by
      show (s.ts.set _ _).getD _ _ = _
      rw [getD_set _ _ _ _ _ (by rw [h.lt]; exact hpl)]
      by_cases e : pl first R ready = pl first R i
      · rw [if_pos e]
      · rw [if_neg e]
        have : i ≠ ready := fun e' => e (by rw [e'])
        exact h.clear i (by omega)
    mark := fun k hk => by
      show (s.ts.set _ _).getD _ _ = _
      rw [getD_set _ _ _ _ _ (by rw [h.lt]; exact hpl), if_neg (fun e => by have := inj _ hk e; omega), shiftL_lk, ← h.mark (1 + k) (by omega), Nat.add_assoc]
    val := fun k y hk hy => by
      rw [shiftL_lk] at hy
      have := h.val (1 + k) y (by omega) hy
      rw [Nat.add_assoc]; exact this
    held := by show s.held - 1 = _; rw [h.held, ← hlen]; omega
    nodup := shiftL_nodup 1 L h.nodup
    keys := fun p hp => by
      unfold shiftL at hp
      obtain ⟨q, hq, rfl⟩ := List.mem_map.1 hp
      obtain ⟨hq1, hq2⟩ := List.mem_filter.1 hq
      have := h.keys q hq1
      simp at hq2 ⊢
      omega
    fst := h.fst
    fit := by omega }
/-- So many are handed on. -/
theorem View.hand (h : View s first R ready G L) (m : Nat) (hm : ready + m ≤ R) (ha : ∀ i, i < m → s.ts.getD (pl first R (ready + i)) false = true) :
    View ⟨s.bs, clr first R ready s.ts m, s.held - m⟩ first R (ready + m) (G ++ (List.range m).map fun i => (lk L i).getD 0) (shiftL m L) := by
  induction m with
  | zero => rw [shiftL_zero]; simpa [clr] using h
  | succ m ih =>
    have ih2 := ih (by omega) (fun i hi => ha i (by omega))
    have h1 := h.mark m (by omega)
    rw [ha m (by omega)] at h1
    obtain ⟨x, hx⟩ := Option.isSome_iff_exists.1 h1.symm
    have := ih2.hand1 x (by omega) (by rw [shiftL_lk]; exact hx)
    rw [shiftL_succ] at this
    rw [List.range_succ, List.map_append, ← List.append_assoc]
    simp only [List.map_cons, List.map_nil, hx, Option.getD_some]
    have e : s.held - ((m + 1 : Nat) : Int) = s.held - (m : Int) - 1 := by omega
    rw [e]
    exact this
theorem View.read (h : View s first R ready G L) (m : Nat) (hm : m ≤ ready) : View s (pl first R m) R (ready - m) (G.drop m) L := by
  have hR : 1 ≤ R := by have := h.fst; omega
  have e : ∀ i, pl (pl first R m) R i = pl first R (m + i) := fun i => by unfold pl; rw [Nat.mod_add_mod, Nat.add_assoc]
  have hf := h.fit
  exact {
    lb := h.lb
    lt := h.lt
    gl := by rw [List.length_drop, h.gl]
    got := fun i hi => by rw [e, h.got (m + i) (by omega)]; simp [List.getD_eq_getElem?_getD, List.getElem?_drop]
    clear := fun i hi => by rw [e]; exact h.clear _ (by omega)
    mark := fun k hk => by
      rw [e, show m + (ready - m + k) = ready + k by omega]
      by_cases hk2 : ready + k < R
      · exact h.mark k hk2
      · have hkn : lk L k = none := by
          rw [lk_none]
          intro hx
          obtain ⟨p, hp, hp2⟩ := List.mem_map.1 hx
          have := h.keys p hp
          omega
        rw [hkn]
        have hw : pl first R (ready + k) = pl first R (ready + k - R) := by
          unfold pl; rw [show first + (ready + k) = first + (ready + k - R) + R by omega, Nat.add_mod_right]
        rw [hw]
        exact h.clear _ (by omega)
    val := fun k x hk hx => by
      have := h.keys _ (lk_mem _ _ _ hx)
      rw [e, show m + (ready - m + k) = ready + k by omega]
      exact h.val k x this hx
    held := h.held
    nodup := h.nodup
    keys := fun p hp => by have := h.keys p hp; omega
    fst := pl_lt _ _ _ hR
    fit := by omega }
end
theorem View.new (R : Nat) (hR : 1 ≤ R) : View ⟨List.replicate R 0, List.replicate R false, 0⟩ 0 R 0 [] [] :=
  { lb := by simp
    lt := by simp
    gl := rfl
    got := fun i hi => absurd hi (by omega)
    clear := fun i hi => absurd hi (by omega)
    mark := fun k hk => by
      simp [List.getD_eq_getElem?_getD, List.getElem?_replicate, lk]
      split <;> rfl
    val := fun k x _ hx => by simp [lk] at hx
    held := rfl
    nodup := by simp
    keys := fun p hp => by cases hp
    fst := by omega
    fit := by omega }

/-- Which of a span's numbers are in the window: those behind what is skipped. -/
theorem trim_in (next size frm n : Int) (h1 : 0 ≤ size) (h2 : size ≤ 65535) (h3 : 0 ≤ n) (h4 : n ≤ 200000) (f0 : 0 ≤ frm) (f1 : frm < 4294967296) (m0 : 0 ≤ next) (m1 : next < 4294967296) (i : Int) (i0 : 0 ≤ i) (i1 : i < n) :
    (way next (add frm i) < size → trimA next size frm n ≤ i ∧ i < trimA next size frm n + trimN next size frm n ∧ way next (add frm i) = way next (add frm (trimA next size frm n)) + (i - trimA next size frm n)) ∧
    (¬ way next (add frm i) < size → i < trimA next size frm n ∨ trimA next size frm n + trimN next size frm n ≤ i) := by
  have hf : fits size n = true := fits_mk h1 h2 h3 (by omega)
  have hfl := way_flip frm next f0 f1 m0 m1
  have hr1 := way_range frm next
  have hr2 := way_range next frm
  have hwi : way next (add frm i) = (way next frm + i) % 4294967296 := by unfold way add; omega
  by_cases hz : n ≠ 0 ∧ size ≠ 0
  · by_cases hw : within frm next size = true
    · have hw3 := ((within_iff _ _ _).1 hw).2.2
      have hA : trimA next size frm n = 0 := by unfold trimA; rw [if_neg]; intro h; rw [hw] at h; cases h.2.2.2.1
      have hN : trimN next size frm n = min n (size - way next frm) := by unfold trimN; rw [if_pos ⟨hf, hz⟩, if_pos hw]
      have h0 : way next (add frm 0) = way next frm := by unfold way add; omega
      rw [hA, hN, h0, hwi]
      constructor
      · intro h; omega
      · intro h; omega
    · have hw' : within frm next size = false := by simpa using hw
      have hw3 := (within_false _ _ _).1 hw'
      have hw4 : size ≤ way next frm := by omega
      by_cases hx : way frm next < n
      · have hA : trimA next size frm n = way frm next := by unfold trimA; rw [if_pos ⟨hf, hz.1, hz.2, hw', hx⟩]
        have hN : trimN next size frm n = min (n - way frm next) size := by unfold trimN; rw [if_pos ⟨hf, hz⟩, if_neg hw, if_pos hx]
        have h0 : way next (add frm (way frm next)) = 0 := by unfold way add; omega
        rw [hA, hN, h0, hwi]
        constructor
        · intro h; omega
        · intro h; omega
      · have hA : trimA next size frm n = 0 := by unfold trimA; rw [if_neg (fun h => hx h.2.2.2.2)]
        have hN : trimN next size frm n = 0 := by unfold trimN; rw [if_pos ⟨hf, hz⟩, if_neg hw, if_neg hx]
        rw [hA, hN, hwi]
        constructor
        · intro h; omega
        · intro h; omega
  · have hA : trimA next size frm n = 0 := by unfold trimA; rw [if_neg (fun h => hz ⟨h.2.1, h.2.2.1⟩)]
    have hN : trimN next size frm n = 0 := by unfold trimN; rw [if_neg (fun h => hz h.2)]
    rw [hA, hN]
    have := way_range next (add frm i)
    constructor
    · intro h; omega
    · intro h; omega
end Go.Proofs.Ytemphincefamfaa.Plain
