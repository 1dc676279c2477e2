/- What the copies of bytes come to: a new row of the same numbers, that nothing else shares, and nothing that was there is changed. Conditions: the bytes are cells of memory that hold numbers from 0 to 255; at most 100000 of them. -/
import Derived.Test.YtphiaoljpgjmfaaSum
import Derived.Test.YtphiaoljpgjmfaaMem
import Derived.OwnWalk
set_option linter.unusedVariables false
set_option linter.unusedSimpArgs false
namespace Go.Proofs.Ytphiaoljpgjmfaa
open Go.RowKit

def vals (zs : List Int) : List Value := zs.map (Value.int .u8)
theorem vals_one (zs : List Int) : ∀ u ∈ vals zs, u.oneCell' = true := by
  intro u hu; unfold vals at hu; rw [List.mem_map] at hu; obtain ⟨a, _, rfl⟩ := hu; rfl
theorem vals_app (a b : List Int) : vals (a ++ b) = vals a ++ vals b := by simp [vals]
theorem vals_len (zs : List Int) : (vals zs).length = zs.length := by simp [vals]

theorem Bytes.reads {w : World} {B : Nat} {A : Option Addr} {zs : List Int} (h : Bytes w B A zs) : Reads w B 1 A zs.length (vals zs) := by
  refine ⟨by simp [vals], fun hn => ?_⟩
  obtain ⟨b, off, rfl, hb, hc⟩ := h.2 (by intro e; subst e; simp at hn)
  refine ⟨_, rfl, hb, fun j u hu => ?_⟩
  have hj : j < zs.length := by
    by_cases hj : j < zs.length
    · exact hj
    · unfold vals at hu; rw [List.getElem?_eq_none (by simp; omega)] at hu; cases hu
  have e := hc j hj
  have hu2 : u = .int .u8 (zs.getD j 0) := by
    unfold vals at hu; rw [List.getElem?_map, List.getElem?_eq_getElem hj] at hu; simp at hu
    rw [← hu, List.getD_eq_getElem?_getD, List.getElem?_eq_getElem hj]; rfl
  subst hu2
  unfold Addr.add
  by_cases h0 : j = 0
  · subst h0; simpa using e
  · simpa [h0] using e
theorem Bytes.keep {w w' : World} {B : Nat} {A : Option Addr} {zs : List Int} (h : Bytes w B A zs) (hk : ∀ p : Addr, p.block < B → w'.cell? p = w.cell? p) : Bytes w' B A zs :=
  ⟨h.1, fun hn => by
    obtain ⟨b, off, e, hb, hc⟩ := h.2 hn
    exact ⟨b, off, e, hb, fun i hi => (hk ⟨b, off + i, none⟩ hb).trans (hc i hi)⟩⟩
theorem Bytes.below {w w' : World} {B : Nat} {A : Option Addr} {zs : List Int} (h : Bytes w B A zs) (hb : Below B w w') : Bytes w' B A zs := h.keep fun _ hp => hb.cell hp
theorem Bytes.more {w : World} {B B' : Nat} {A : Option Addr} {zs : List Int} (h : Bytes w B A zs) (hB : B ≤ B') : Bytes w B' A zs :=
  ⟨h.1, fun hn => by
    obtain ⟨b, off, e, hb, hc⟩ := h.2 hn
    exact ⟨b, off, e, by omega, hc⟩⟩
theorem Bytes.take {w : World} {B : Nat} {A : Option Addr} {zs : List Int} (h : Bytes w B A zs) (n : Nat) : Bytes w B A (zs.take n) :=
  ⟨fun x hx => h.1 x (List.mem_of_mem_take hx), fun hn => by
    obtain ⟨b, off, e, hb, hc⟩ := h.2 (by intro e; subst e; simp at hn)
    refine ⟨b, off, e, hb, fun i hi => ?_⟩
    rw [List.length_take] at hi
    rw [hc i (by omega)]
    simp only [List.getD_eq_getElem?_getD, List.getElem?_take]
    rw [if_pos (by omega)]⟩
/-- A row of one's own reads as its numbers. -/
theorem Bytes.of_own {w : World} {base : Nat} {e : TypeId} {v : Value} {zs : List Int} (h : w.ownsRow base e 1 v zs.length (vals zs)) (hz : ∀ x ∈ zs, 0 ≤ x ∧ x ≤ 255) :
    ∃ A c, v = .slice A zs.length c ∧ Bytes w w.heap.size A zs := by
  rcases h.2 with ⟨rfl, hnil⟩ | ⟨g, cap, cur, rfl, hr⟩
  · have : zs = [] := List.eq_nil_of_length_eq_zero hnil
    subst this
    exact ⟨none, 0, rfl, hz, fun hn => absurd rfl hn⟩
  · refine ⟨_, cap, rfl, hz, fun hn => ?_⟩
    obtain ⟨g', cap', hv, _, hlt⟩ := h.form (by rcases zs with _ | ⟨a, r⟩; exact absurd rfl hn; simp)
    have hg : g = g' := by injection hv with hv; injection hv with hv; injection hv
    subst hg
    refine ⟨g, 0, rfl, hlt, fun i hi => ?_⟩
    have hc := h.cells (g := g) rfl
    have := hc i (.int .u8 (zs.getD i 0)) (by unfold vals; rw [List.getElem?_map, List.getElem?_eq_getElem hi, List.getD_eq_getElem?_getD, List.getElem?_eq_getElem hi]; rfl)
    rw [← this]; unfold Addr.add; by_cases h0 : i = 0 <;> simp [h0]

theorem own_cap_le {w : World} {base : Nat} {e : TypeId} {size n c : Nat} {A : Option Addr} {xs : List Value} (h : w.ownsRow base e size (.slice A n c) n xs) : n ≤ c := by
  rcases h.2 with ⟨h, h2⟩ | ⟨g, cap, cur, h, _, _, h2, _⟩
  · rw [h2]; omega
  · injection h with _ _ h; omega

theorem u8_info : (Try.prog.info? 5).map (fun i => (i.zero, i.size, i.bytes)) = some (some (.int .u8 0), 1, 1) := by kernel_rfl

theorem bytes_any (A : Option Addr) (zs : List Int) (c : Nat) (w : World) (h : Bytes w w.heap.size A zs) (hn : zs.length ≤ 100000) :
    Calls Try.prog 17 #[.slice A zs.length c] w fun e w' => ∃ v, e = .returned v ∧ w'.ownsRow w.heap.size 5 1 v zs.length (vals zs) ∧ Below w.heap.size w w' := by
  obtain ⟨i0, hi0, hz0, hz1, hz2⟩ := info_parts u8_info
  have HB := Lib.hid h
  clear h
  go_enter Try.func17, Try.ntmps17
  have hown0 : (w.alloc (.cells #[] 5)).ownsRow w.heap.size 5 1 (.slice (some ⟨w.heap.size, 0, none⟩) 0 0) 0 [] := World.ownsRow_lit w #[] 0 (Nat.le_refl _) (by unfold maxLen; omega) rfl
  go_wp2_with (at_builtin; refine wpList_append_any _ rfl (.tmp 3) (.tmp 4) _ rfl w.heap.size 5 i0 _ 1 1 Try.underlying23 hi0 hz0 hz1 hz2 rfl (by omega) (.slice (some ⟨w.heap.size, 0, none⟩) 0 0) 0 [] rfl hown0 w.heap.size A zs.length c (vals zs) rfl (HB.out.reads.alloc (Nat.le_refl _) _) (vals_one zs) (by unfold maxLen; omega) (by omega) (by simp) ?_; intro v1 w1 hown1 hg1 hat1)
  go_ret
  refine ⟨v1, rfl, by simpa using hown1, (((Below.refl _ _).alloc (Nat.le_refl _) _).grown hg1 (by simp) (fun k hk => ?_))⟩
  simp [Value.ownBlock] at hk
  omega

theorem short_any (A : Option Addr) (zs : List Int) (c : Nat) (w : World) (h : Bytes w w.heap.size A zs) (hn : zs.length ≤ maxLen) (hc : zs.length ≤ c) :
    Calls Try.prog 7 #[.slice A zs.length c] w fun e w' => ∃ v, e = .returned v ∧ w'.ownsRow w.heap.size 5 1 v (zs.take 600).length (vals (zs.take 600)) ∧ Below w.heap.size w w' := by
  have hb := bytes_any A (zs.take 600) c w (h.take 600) (by rw [List.length_take]; omega)
  have HB := Lib.hid hb
  clear hb
  unfold maxLen at hn
  by_cases hl : zs.length ≤ 600
  · rw [List.take_of_length_le hl] at HB ⊢
    go_enter Try.func7, Try.ntmps7
    go_wp2_with (go_at_call 17; refine HB.out.mono ?_; rintro e w1 ⟨v, rfl, hown, hbel⟩)
    go_ret
    exact ⟨v, rfl, hown, hbel⟩
  · have hl6 : (zs.take 600).length = 600 := by rw [List.length_take]; omega
    rw [hl6] at HB ⊢
    go_enter Try.func7, Try.ntmps7
    go_wp2_with (go_at_call 17; refine HB.out.mono ?_; rintro e w1 ⟨v, rfl, hown, hbel⟩)
    go_ret
    exact ⟨v, rfl, hown, hbel⟩
theorem sumRight_any (A : Option Addr) (zs : List Int) (c B : Nat) (w : World) (h : Bytes w B A zs) (hn : zs.length ≤ 100000) :
    Calls Try.prog 14 #[.slice A zs.length c] w fun e w' => e = .returned (.bool (Plain.canon (Plain.words zs) == 65535)) ∧ w = w' := by
  have HB := Lib.hid h
  clear h
  have hcp := Plain.canon_range (Plain.words zs)
  go_enter Try.func14, Try.ntmps14
  go_wp2_with (go_at_call 8; refine (sumAdd_any 0 _ _ _ B _ HB.out hn (by omega) (by omega)).mono ?_; rintro e w' ⟨rfl, rfl⟩)
  go_ret
  exact ⟨rfl, rfl⟩
theorem refRight_any (A : Option Addr) (zs : List Int) (c B : Nat) (w : World) (h : Bytes w B A zs) (hn : zs.length ≤ 100000) :
    Calls Try.prog 15 #[.slice A zs.length c] w fun e w' => e = .returned (.bool (Plain.canon (Plain.words zs) == 65535)) ∧ w = w' := by
  have HB := Lib.hid h
  clear h
  have hcp := Plain.canon_range (Plain.words zs)
  go_enter Try.func15, Try.ntmps15
  go_wp2_with (go_at_call 9; refine (refAdd_any 0 _ _ _ B _ HB.out hn (by omega) (by omega)).mono ?_; rintro e w' ⟨rfl, rfl⟩)
  go_ret
  exact ⟨rfl, rfl⟩
/-- A literal of bytes. -/
theorem Bytes.lit (w : World) (zs : List Int) (hz : ∀ x ∈ zs, 0 ≤ x ∧ x ≤ 255) : Bytes (w.alloc (.cells (vals zs).toArray 5)) (w.heap.size + 1) (some ⟨w.heap.size, 0, none⟩) zs := by
  refine ⟨hz, fun _ => ⟨w.heap.size, 0, rfl, by omega, fun i hi => ?_⟩⟩
  rw [cell_of_row _ _ _ _ _ _ (heap_alloc_new w _)]
  unfold vals
  simp [List.getD_eq_getElem?_getD, List.getElem?_eq_getElem hi, hi]
theorem works_any (w : World) :
    Calls Try.prog 16 #[] w fun e w' => e = .returned (.bool true) ∧ Below w.heap.size w w' := by
  have hl := sumOf_any (some ⟨w.heap.size, 0, none⟩) [0, 1, 242, 3, 244, 245, 246, 247] 8 _ _ (Bytes.lit w [0, 1, 242, 3, 244, 245, 246, 247] (by decide)) (by decide)
  have hv : 65535 - Plain.canon (Plain.words [0, 1, 242, 3, 244, 245, 246, 247]) = 8717 := by decide
  rw [hv] at hl
  have HB := Lib.hid hl
  clear hl hv
  go_enter Try.func16, Try.ntmps16
  go_wp2_with (go_at_call 12; refine HB.out.mono ?_; rintro e w1 ⟨rfl, rfl⟩)
  go_ret
  exact ⟨rfl, (Below.refl _ _).alloc (Nat.le_refl _) _⟩
end Go.Proofs.Ytphiaoljpgjmfaa
