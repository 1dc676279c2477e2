/- What a text with small letters for great ones comes to. No conditions but that the text has at most 100000 bytes. -/
import Derived.Test.YtdnbcgdpaoclkaaDoorHexB
import Derived.Lib.ConvBytes
import Derived.Lib.AtoiErrMem
set_option linter.unusedVariables false
set_option linter.unusedSimpArgs false
namespace Go.Proofs.YtdnbcgdpaoclkaaDoor
open Go.RowKit

/-- A row of bytes that a text was turned into, with its mark. -/
def Row (w : World) (g : Nat) (zs : List Int) : Prop :=
  ∃ cs cap, w.heap[g]? = some (.cells cs 5 (cap, cap + 1)) ∧ cs.size = cap ∧ zs.length ≤ cap ∧ ∀ j, j < zs.length → cs[j]? = some (.int .u8 (zs.getD j 0))
section
variable {w w' : World} {g : Nat} {zs : List Int}
theorem Row.lt (h : Row w g zs) : g < w.heap.size := by
  obtain ⟨cs, cap, h1, _⟩ := h
  rcases Nat.lt_or_ge g w.heap.size with hlt | hge
  · exact hlt
  · rw [Array.getElem?_eq_none hge] at h1; cases h1
theorem Row.cell (h : Row w g zs) (j : Nat) (hj : j < zs.length) : w.cell? ⟨g, j, none⟩ = some (.int .u8 (zs.getD j 0)) := by
  obtain ⟨cs, cap, h1, _, _, h2⟩ := h
  exact (cell_of_row w g j cs 5 (cap, cap + 1) h1).trans (h2 j hj)
theorem Row.frozen (h : Row w g zs) (j : Nat) (hj : j < zs.length) : w.frozen? ⟨g, j, none⟩ = false := by
  obtain ⟨cs, cap, h1, h3, h4, h2⟩ := h
  simp [World.frozen?, h1]
  omega
theorem Row.set_ (h : Row w g zs) (j : Nat) (x : Int) : Row (w.setCell ⟨g, j, none⟩ (.int .u8 x)) g (zs.set j x) := by
  obtain ⟨cs, cap, h1, h3, h4, h2⟩ := h
  refine ⟨cs.setIfInBounds j (.int .u8 x), cap, by simp [World.setCell, Array.getElem?_modify, h1], by simpa using h3, by simpa using h4, fun i hi => ?_⟩
  rw [List.length_set] at hi
  rw [Array.getElem?_setIfInBounds]
  by_cases hij : j = i
  · subst hij
    rw [if_pos rfl, if_pos (by omega)]
    simp [List.getD, hi]
  · rw [if_neg hij, h2 i hi]
    simp [List.getD, hij]
theorem Row.below {B : Nat} (h : Row w g zs) (hb : Below B w w') (hg : g < B) : Row w' g zs := by
  obtain ⟨cs, cap, h1, r⟩ := h
  exact ⟨cs, cap, (hb.block g hg).trans h1, r⟩
theorem Row.ints (h : Row w g zs) (hz : ∀ x ∈ zs, (Lit.int .u8 x).wf = true) : Ints .u8 w w.heap.size (some ⟨g, 0, none⟩) zs :=
  ⟨hz, fun _ => ⟨g, 0, rfl, h.lt, fun i hi => by rw [Nat.zero_add]; exact h.cell i hi⟩⟩
end
/-- A text's bytes. -/
def bts (s : ByteArray) : List Int := s.data.toList.map fun u => (u.toNat : Int)
theorem bts_len (s : ByteArray) : (bts s).length = s.size := by unfold bts; rw [List.length_map, Array.length_toList]; rfl
theorem bts_get (s : ByteArray) (i : Nat) (h : i < s.size) : (bts s).getD i 0 = bt s i := by
  have hl : i < s.data.toList.length := by simpa using h
  simp [bts, bt, List.getD, List.getElem?_eq_getElem hl]
theorem Row.of_text (w : World) (s : ByteArray) : Row (Lib.bytesWorld w 5 s) w.heap.size (bts s) := by
  have hc := fun j hj => Lib.bytesWorld_cell w 5 s j hj
  have hn := Lib.bytesWorld_at_new w 5 s
  have hlen : ∀ j, j < s.size → (Lib.bytesCells w 5 s)[j]? = some (.int .u8 ((bts s).getD j 0)) := fun j hj => by
    have h1 := hc j hj
    rw [cell_of_row _ _ _ _ _ _ hn] at h1
    rw [h1, bts_get s j hj]; rfl
  refine ⟨_, _, hn, rfl, ?_, fun j hj => hlen j (by rwa [bts_len] at hj)⟩
  rw [bts_len]
  rcases Nat.eq_zero_or_pos s.size with h0 | h0
  · omega
  · have := hlen (s.size - 1) (by omega)
    have := (Array.getElem?_eq_some_iff.1 this).1
    omega
/-- A small letter for a great one. -/
def low (c : Int) : Int := if 65 ≤ c ∧ c ≤ 70 then c + 32 else c
theorem low_range (c : Int) (h : 0 ≤ c ∧ c ≤ 255) : 0 ≤ low c ∧ low c ≤ 255 := by unfold low; split <;> omega
theorem bt_nums (zs : List Int) (hz : ∀ x ∈ zs, 0 ≤ x ∧ x ≤ 255) (i : Nat) (hi : i < zs.length) : bt (strOfNums zs) i = zs.getD i 0 := by
  have hx := hz (zs.getD i 0) (by rw [List.getD_eq_getElem?_getD, List.getElem?_eq_getElem hi]; simp)
  unfold bt
  rw [strOfNums_data, List.getD_eq_getElem?_getD, List.getElem?_map, List.getElem?_eq_getElem hi]
  rw [List.getD_eq_getElem?_getD, List.getElem?_eq_getElem hi] at hx ⊢
  simp at hx ⊢
  omega
/-- The bytes with small letters, so far. -/
def lows (s : ByteArray) (k : Nat) : List Int := (List.range s.size).map fun i => if i < k then low (bt s i) else bt s i
theorem lows_len (s : ByteArray) (k : Nat) : (lows s k).length = s.size := by simp [lows]
theorem lows_get (s : ByteArray) (k i : Nat) (h : i < s.size) : (lows s k).getD i 0 = if i < k then low (bt s i) else bt s i := by
  simp [lows, List.getD, h]
theorem lows_zero (s : ByteArray) : lows s 0 = bts s := by
  apply List.ext_getElem
  · rw [lows_len, bts_len]
  · intro i h1 h2
    have hi : i < s.size := by rwa [bts_len] at h2
    have a := lows_get s 0 i hi
    have b := bts_get s i hi
    rw [List.getD_eq_getElem?_getD, List.getElem?_eq_getElem h1] at a
    rw [List.getD_eq_getElem?_getD, List.getElem?_eq_getElem h2] at b
    simp at a b
    rw [a, b]
theorem lows_set (s : ByteArray) (k : Nat) (h : k < s.size) : (lows s k).set k (low (bt s k)) = lows s (k + 1) := by
  apply List.ext_getElem
  · simp [lows_len]
  · intro i h1 h2
    simp only [lows, List.getElem_set, List.getElem_map, List.getElem_range]
    by_cases hik : k = i
    · subst hik; simp
    · rw [if_neg hik]
      by_cases hlt : i < k
      · simp [hlt, show i < k + 1 by omega]
      · simp [hlt, show ¬ i < k + 1 by omega]
theorem lows_same (s : ByteArray) (k : Nat) (h : k < s.size) (hl : low (bt s k) = bt s k) : lows s (k + 1) = lows s k := by
  rw [← lows_set s k h, hl]
  apply List.ext_getElem
  · simp [lows_len]
  · intro i h1 h2
    simp only [lows, List.getElem_set, List.getElem_map, List.getElem_range]
    by_cases hik : k = i
    · subst hik; simp
    · rw [if_neg hik]
theorem lows_wf (s : ByteArray) (k : Nat) : ∀ x ∈ lows s k, 0 ≤ x ∧ x ≤ 255 := by
  intro x hx
  simp only [lows, List.mem_map] at hx
  obtain ⟨i, _, rfl⟩ := hx
  have := bt_range s i
  split
  · exact low_range _ this
  · exact this
/-- The text with small letters. -/
def smallOf (s : ByteArray) : ByteArray := strOfNums (lows s s.size)
theorem smallOf_size (s : ByteArray) : (smallOf s).size = s.size := by rw [smallOf, strOfNums_size, lows_len]
theorem smallOf_bt (s : ByteArray) (i : Nat) (h : i < s.size) : bt (smallOf s) i = low (bt s i) := by
  rw [smallOf, bt_nums _ (lows_wf s _) i (by rw [lows_len]; exact h), lows_get s _ i h, if_pos h]
set_option maxHeartbeats 1000000 in
theorem small_any (s : ByteArray) (w : World) (hs : s.size ≤ 100000) :
    Calls Tryd.prog 29 #[.string s] w fun e w' => e = .returned (.string (smallOf s)) ∧ Below w.heap.size w w' := by
  have hconv : (convert 9 25 (.string s)).run Tryd.prog w = .ok (.slice (some ⟨w.heap.size, 0, none⟩) s.size (grownCap w s.size 0 5)) (Lib.bytesWorld w 5 s) := Lib.run_convert_string_bytes w _ _ 5 s Tryd.underlying9 Tryd.underlying25 Tryd.underlying5
  have hrow := Row.of_text w s
  have hbel := Lib.bytesWorld_below w 5 s
  obtain ⟨cap, hcap⟩ : ∃ cap, grownCap w s.size 0 5 = cap := ⟨_, rfl⟩
  rw [hcap] at hconv
  rw [← lows_zero] at hrow
  obtain ⟨n, hn⟩ : ∃ n, s.size = n := ⟨_, rfl⟩
  have hn5 : (n : Int) ≤ 100000 := by omega
  have HN := Lib.hid hn
  rw [hn] at hconv
  clear hcap hn hs
  generalize Lib.bytesWorld w 5 s = w1 at *
  go_enter Tryd.func29, Tryd.ntmps29
  go_wp2_with fail
  go_loopw [10] (fun x wr => ∃ k : Nat, x = .int .i64 k ∧ k ≤ n ∧ Hid (Row wr w.heap.size (lows s k)) ∧ Below w.heap.size w wr) (fun x _ => n + 1 - (intOf x).toNat)
  case atStart => exact ⟨0, rfl, by omega, Lib.hid hrow, hbel⟩
  case round =>
    obtain ⟨k, rfl, hk, hr, hb⟩ := hrel
    by_cases hlt : k < n
    · have hltI : (k : Int) < (n : Int) := by omega
      have hks : k < s.size := by rw [HN.out]; exact hlt
      have hc : wr.cell? ⟨w.heap.size, k, none⟩ = some (.int .u8 (bt s k)) := by
        have := hr.out.cell k (by rw [lows_len]; exact hks)
        rwa [lows_get s k k hks, if_neg (by omega)] at this
      have hz := hr.out.frozen k (by rw [lows_len]; exact hks)
      have hx := bt_range s k
      have hk1 : (k : Int) + 1 ≤ 100001 := by omega
      by_cases hup : 65 ≤ bt s k ∧ bt s k ≤ 70
      · have hr2 : Hid (Row (wr.setCell ⟨w.heap.size, k, none⟩ (.int .u8 (bt s k + 32))) w.heap.size (lows s (k + 1))) := Lib.hid (by
          have := hr.out.set_ k (bt s k + 32)
          rwa [show bt s k + 32 = low (bt s k) by unfold low; rw [if_pos hup], lows_set s k hks, show low (bt s k) = bt s k + 32 by unfold low; rw [if_pos hup]] at this)
        have hb2 : Below w.heap.size w (wr.setCell ⟨w.heap.size, k, none⟩ (.int .u8 (bt s k + 32))) := hb.setCell (Nat.le_refl _) _
        generalize bt s k = x at *
        have hw : (x + 97) % 256 = x + 97 := by omega
        have hw2 : x + 97 - 65 = x + 32 := by omega
        obtain ⟨hu1, hu2⟩ := hup
        clear hr hrow
        go_wp2_with fail
        go_roundw
        case rel => exact ⟨k + 1, by go_num, by omega, hr2, hb2⟩
        case measure => simp [intOf]; omega
      · have hr2 : Hid (Row wr w.heap.size (lows s (k + 1))) := Lib.hid (by
          rw [lows_same s k hks (by unfold low; rw [if_neg hup])]; exact hr.out)
        generalize bt s k = x at *
        clear hr hrow
        by_cases h65 : 65 ≤ x
        · have h70 : decide (x ≤ 70) = false := by simp; omega
          have h70' : ¬ x ≤ 70 := by omega
          go_wp2_with fail
          go_roundw
          case rel => exact ⟨k + 1, by go_num, by omega, hr2, hb⟩
          case measure => simp [intOf]; omega
        · have h65' : decide (65 ≤ x) = false := by simp; omega
          go_wp2_with fail
          go_roundw
          case rel => exact ⟨k + 1, by go_num, by omega, hr2, hb⟩
          case measure => simp [intOf]; omega
    · have hkn : k = n := by omega
      have hcv : (convert 25 9 (.slice (some ⟨w.heap.size, 0, none⟩) n cap)).run Tryd.prog wr = .ok (.string (smallOf s)) wr := by
        have := conv_bytes (P := Tryd.prog) Tryd.underlying25 Tryd.underlying5 Tryd.underlying9 wr _ _ (lows s k) cap (hr.out.ints (fun x hx => by
          have := lows_wf s k x hx
          simp [Lit.wf, IntKind.min, IntKind.max, IntKind.signed, IntKind.bits]; omega))
        rw [lows_len, HN.out, hkn] at this
        rw [this]
        unfold smallOf
        rw [HN.out]
      subst hkn
      clear hr hrow
      go_wp2_with fail
      go_ret
      exact ⟨rfl, hb⟩
end Go.Proofs.YtdnbcgdpaoclkaaDoor
