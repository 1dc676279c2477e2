/- What the copies and comparisons of bytes come to, and rows of the call's own. Conditions: the bytes are cells of memory; at most 100000 of them. -/
import Derived.Test.YtdnbcgdpaoclkaaDoorRows
import Derived.Test.YtdnbcgdpaoclkaaDoorMem
import Derived.Test.YtdnbcgdpaoclkaaDoorInts
import Derived.Test.YtdnbcgdpaoclkaaDoorKeeps
import Derived.OwnWalk
import Derived.WalkKit
import Derived.WalkSpells
import Derived.WalkLawsBesides
import Derived.Lib.Hide
import Derived.Outline
import Derived.Deep.QuietTactic
import Derived.BigQuiet
import Derived.BigRegion
import Derived.Laws.BytesArg
import Derived.Laws.IdiomStrings
set_option linter.unusedVariables false
set_option linter.unusedSimpArgs false
namespace Go.Proofs.YtdnbcgdpaoclkaaDoor
open Go.RowKit

def vals (zs : List Int) : List Value := zs.map (Value.int .u8)
theorem vals_one (zs : List Int) : ∀ u ∈ vals zs, u.oneCell' = true := by
  intro u hu; unfold vals at hu; rw [List.mem_map] at hu; obtain ⟨a, _, rfl⟩ := hu; rfl
theorem vals_app (a b : List Int) : vals (a ++ b) = vals a ++ vals b := by simp [vals]
theorem vals_len (zs : List Int) : (vals zs).length = zs.length := by simp [vals]
theorem vals_get (zs : List Int) (i : Nat) (h : i < zs.length) : (vals zs)[i]? = some (.int .u8 (zs.getD i 0)) := by
  unfold vals; rw [List.getElem?_map, List.getElem?_eq_getElem h, List.getD_eq_getElem?_getD, List.getElem?_eq_getElem h]; rfl

theorem Ints.reads {w : World} {B : Nat} {A : Option Addr} {zs : List Int} (h : Ints .u8 w B A zs) : Reads w B 1 A zs.length (vals zs) := by
  refine ⟨by simp [vals], fun hn => ?_⟩
  obtain ⟨b, off, rfl, hb, hc⟩ := h.2 (by intro e; subst e; simp at hn)
  refine ⟨_, rfl, hb, fun j u hu => ?_⟩
  have hj : j < zs.length := by
    by_cases hj : j < zs.length
    · exact hj
    · unfold vals at hu; rw [List.getElem?_eq_none (by simp; omega)] at hu; cases hu
  have e := hc j hj
  rw [vals_get zs j hj] at hu
  injection hu with hu
  subst hu
  unfold Addr.add
  by_cases h0 : j = 0
  · subst h0; simpa using e
  · simpa [h0] using e
theorem Ints.drop {k : IntKind} {w : World} {B : Nat} {A : Option Addr} {zs : List Int} (h : Ints k w B A zs) {n cap : Nat} (hn : n ≤ zs.length) (hc : zs.length ≤ cap) :
    Ints k w B (if cap = n then A else A.map (·.add n)) (zs.drop n) := by
  refine ⟨fun x hx => h.1 x (List.mem_of_mem_drop hx), fun hne => ?_⟩
  have hlt : n < zs.length := by
    rcases Nat.lt_or_ge n zs.length with h1 | h1
    · exact h1
    · exact absurd (List.drop_eq_nil_of_le h1) hne
  obtain ⟨b, off, rfl, hb, hcell⟩ := h.2 (by intro e; subst e; simp at hlt)
  rw [if_neg (by omega)]
  refine ⟨b, off + n, ?_, hb, fun i hi => ?_⟩
  · unfold Addr.add
    by_cases h0 : n = 0 <;> simp [h0]
  · rw [List.length_drop] at hi
    rw [Nat.add_assoc, hcell (n + i) (by omega)]
    simp [List.getD_eq_getElem?_getD, List.getElem?_drop]
/-- A row of one's own reads as its numbers. -/
theorem Ints.of_own {w : World} {base : Nat} {e : TypeId} {v : Value} {zs : List Int} {n : Nat} (h : w.ownsRow base e 1 v n (vals zs)) (hz : ∀ x ∈ zs, (Lit.int .u8 x).wf = true) :
    ∃ A c, v = .slice A zs.length c ∧ zs.length ≤ c ∧ n = zs.length ∧ Ints .u8 w w.heap.size A zs := by
  have hn : n = zs.length := by have := h.1; rw [vals_len] at this; omega
  subst hn
  rcases h.2 with ⟨rfl, hnil⟩ | ⟨g, cap, cur, rfl, hr, hh, hcap, hr2⟩
  · have : zs = [] := List.eq_nil_of_length_eq_zero hnil
    subst this
    exact ⟨none, 0, rfl, by simp, rfl, hz, fun hn => absurd rfl hn⟩
  · refine ⟨_, cap, rfl, hcap, rfl, hz, fun hn => ?_⟩
    have hlt : g < w.heap.size := by
      rcases Nat.lt_or_ge g w.heap.size with h1 | h1
      · exact h1
      · rw [Array.getElem?_eq_none h1] at hh; cases hh
    refine ⟨g, 0, rfl, hlt, fun i hi => ?_⟩
    have hc := h.cells (g := g) rfl
    have := hc i _ (vals_get zs i hi)
    rw [← this]; unfold Addr.add; by_cases h0 : i = 0 <;> simp [h0]
theorem Ints.of_blk {w : World} {b : Nat} {t : TypeId} {zs : List Int} (h : Blk w b t (vals zs).toArray) (hz : ∀ x ∈ zs, (Lit.int .u8 x).wf = true) : Ints .u8 w w.heap.size (some ⟨b, 0, none⟩) zs :=
  ⟨hz, fun _ => ⟨b, 0, rfl, h.lt, fun i hi => by rw [Nat.zero_add, Blk.cell h]; simpa using vals_get zs i hi⟩⟩
theorem own_form {w : World} {base : Nat} {e : TypeId} {v : Value} {zs : List Int} {n : Nat} (h : w.ownsRow base e 1 v n (vals zs)) (hz : ∀ x ∈ zs, (Lit.int .u8 x).wf = true) :
    ∃ A c, v = .slice A n c ∧ n ≤ c ∧ n = zs.length ∧ Ints .u8 w w.heap.size A zs ∧ w.ownsRow base e 1 (.slice A n c) n (vals zs) := by
  obtain ⟨A, c, rfl, hc, rfl, hI⟩ := Ints.of_own h hz
  exact ⟨A, c, rfl, hc, rfl, hI, h⟩
theorem own_ints {w : World} {base : Nat} {e : TypeId} {A : Option Addr} {c : Nat} {zs : List Int} {n : Nat} (h : w.ownsRow base e 1 (.slice A n c) n (vals zs)) (hz : ∀ x ∈ zs, (Lit.int .u8 x).wf = true) : Ints .u8 w w.heap.size A zs := by
  obtain ⟨A', c', hv, hc, hn, hI⟩ := Ints.of_own h hz
  injection hv with hv
  rw [hv]; exact hI
theorem own_hz {w : World} {base : Nat} {e : TypeId} {A : Option Addr} {c : Nat} {zs : List Int} {n : Nat} (h : w.ownsRow base e 1 (.slice A zs.length c) n (vals zs)) (hne : zs ≠ []) :
    ∃ b off, A = some ⟨b, off, none⟩ ∧ b < w.heap.size ∧ base ≤ b ∧ ∀ i, i < zs.length → w.cell? ⟨b, off + i, none⟩ = some (.int .u8 (zs.getD i 0)) := by
  have hn : n = zs.length := by have := h.1; rw [vals_len] at this; omega
  subst hn
  obtain ⟨g', cap', hv, hb, hlt⟩ := h.form (by rcases zs with _ | ⟨a, r⟩; exact absurd rfl hne; simp)
  have hA : A = some ⟨g', 0, none⟩ := by injection hv
  subst hA
  refine ⟨g', 0, rfl, hlt, hb, fun i hi => ?_⟩
  have := h.cells (g := g') rfl i _ (vals_get zs i hi)
  rw [← this]; unfold Addr.add; by_cases h0 : i = 0 <;> simp [h0]
/-- A row of one's own is kept by what leaves its block. -/
theorem own_keeps {w w' : World} {base : Nat} {e : TypeId} {size n : Nat} {v : Value} {xs : List Value} {s : Nat → Prop} (h : w.ownsRow base e size v n xs) (hk : Keeps s w w') (hs : ∀ k, base ≤ k → ¬ s k) : w'.ownsRow base e size v n xs := by
  refine ⟨h.1, ?_⟩
  rcases h.2 with h2 | ⟨g, cap, cur, hv, hb, hh, hr⟩
  · exact .inl h2
  · have hlt : g < w.heap.size := by
      rcases Nat.lt_or_ge g w.heap.size with h1 | h1
      · exact h1
      · rw [Array.getElem?_eq_none h1] at hh; cases hh
    exact .inr ⟨g, cap, cur, hv, hb, (hk.block g hlt (hs g hb)).trans hh, hr⟩
theorem own_below {w w' : World} {base B : Nat} {e : TypeId} {size n : Nat} {v : Value} {xs : List Value} (h : w.ownsRow base e size v n xs) (hk : Below B w w') (hs : ∀ k, v.ownBlock = some k → k < B) : w'.ownsRow base e size v n xs := by
  refine ⟨h.1, ?_⟩
  rcases h.2 with h2 | ⟨g, cap, cur, hv, hb, hh, hr⟩
  · exact .inl h2
  · exact .inr ⟨g, cap, cur, hv, hb, (hk.block g (hs g (by rw [hv]; rfl))).trans hh, hr⟩

theorem u8_info : (Tryd.prog.info? 5).map (fun i => (i.zero, i.size, i.bytes)) = some (some (.int .u8 0), 1, 1) := by kernel_rfl

theorem bytes_any (A : Option Addr) (zs : List Int) (c : Nat) (w : World) (h : Ints .u8 w w.heap.size A zs) (hn : zs.length ≤ 100000) :
    Calls Tryd.prog 14 #[.slice A zs.length c] w fun e w' => ∃ v, e = .returned v ∧ w'.ownsRow w.heap.size 5 1 v zs.length (vals zs) ∧ Below w.heap.size w w' := by
  obtain ⟨i0, hi0, hz0, hz1, hz2⟩ := info_parts u8_info
  have HB := Lib.hid h
  clear h
  go_enter Tryd.func14, Tryd.ntmps14
  have hown0 : (w.alloc (.cells #[] 5)).ownsRow w.heap.size 5 1 (.slice (some ⟨w.heap.size, 0, none⟩) 0 0) 0 [] := World.ownsRow_lit w #[] 0 (Nat.le_refl _) (by unfold maxLen; omega) rfl
  go_wp2_with (at_builtin; refine wpList_append_any _ rfl (.tmp 3) (.tmp 4) _ rfl w.heap.size 5 i0 _ 1 1 Tryd.underlying25 hi0 hz0 hz1 hz2 rfl (by omega) (.slice (some ⟨w.heap.size, 0, none⟩) 0 0) 0 [] rfl hown0 w.heap.size A zs.length c (vals zs) rfl (HB.out.reads.alloc (Nat.le_refl _) _) (vals_one zs) (by unfold maxLen; omega) (by omega) (by simp) ?_; intro v1 w1 hown1 hg1 hat1)
  go_ret
  refine ⟨v1, rfl, by simpa using hown1, (((Below.refl _ _).alloc (Nat.le_refl _) _).grown hg1 (by simp) (fun k hk => ?_))⟩
  simp [Value.ownBlock] at hk
  omega

/-- Bytes as a text. -/
theorem conv_bytes {P : Program} {src e dst : TypeId} (hs : P.underlying src = some (.slice e)) (he : P.underlying e = some (.int .u8)) (hd : P.underlying dst = some .string)
    (w : World) (B : Nat) (A : Option Addr) (zs : List Int) (c : Nat) (h : Ints .u8 w B A zs) : (convert src dst (.slice A zs.length c)).run P w = .ok (.string (strOfNums zs)) w := by
  by_cases hz : zs = []
  · subst hz
    cases A with
    | none => exact run_convert_bytes_nil (P := P) w src e hs he 0 c dst hd
    | some a => exact run_convert_bytes_back w src dst e a c [] hs he hd (fun j hj => absurd hj (by simp))
  · obtain ⟨b, off, rfl, hb, hc⟩ := h.2 hz
    exact run_convert_bytes_arg (P := P) w src e hs he b off zs.length c zs rfl hc dst hd

theorem sameBytes_yes (A A' : Option Addr) (zs : List Int) (n c n' c' : Nat) (B : Nat) (w : World) (h : Ints .u8 w B A zs) (h' : Ints .u8 w B A' zs) (hn : n = zs.length) (hn' : n' = zs.length) :
    Calls Tryd.prog 11 #[.slice A n c, .slice A' n' c'] w fun e w' => e = .returned (.bool true) ∧ w = w' := by
  subst hn hn'
  have k1 : (convert 25 9 (.slice A zs.length c)).run Tryd.prog w = .ok (.string (strOfNums zs)) w := conv_bytes (P := Tryd.prog) Tryd.underlying25 Tryd.underlying5 Tryd.underlying9 w B A zs c h
  have k2 : (convert 25 9 (.slice A' zs.length c')).run Tryd.prog w = .ok (.string (strOfNums zs)) w := conv_bytes (P := Tryd.prog) Tryd.underlying25 Tryd.underlying5 Tryd.underlying9 w B A' zs c' h'
  clear h h'
  go_enter Tryd.func11, Tryd.ntmps11
  go_wp2
  go_ret
  exact ⟨rfl, rfl⟩
end Go.Proofs.YtdnbcgdpaoclkaaDoor
