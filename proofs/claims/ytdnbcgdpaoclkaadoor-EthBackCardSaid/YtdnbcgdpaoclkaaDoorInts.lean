/- Words for slices of integers that are read: the numbers that lie in memory, below a block. Plain lemmas; no conditions but those that each names. -/
import Derived.Below
import Derived.OpenShut
set_option linter.unusedVariables false
set_option linter.unusedSimpArgs false
namespace Go.Proofs.YtdnbcgdpaoclkaaDoor
open Go.RowKit

/-- Integers of kind k that lie in memory, below block B: the numbers zs; none where there is none. -/
def Ints (k : IntKind) (w : World) (B : Nat) (A : Option Addr) (zs : List Int) : Prop :=
  (∀ x ∈ zs, (Lit.int k x).wf = true) ∧ (zs ≠ [] → ∃ b off, A = some ⟨b, off, none⟩ ∧ b < B ∧ ∀ i, i < zs.length → w.cell? ⟨b, off + i, none⟩ = some (.int k (zs.getD i 0)))

theorem block_lt {w : World} {b o : Nat} {v : Value} (h : w.cell? ⟨b, o, none⟩ = some v) : b < w.heap.size := by
  rcases Nat.lt_or_ge b w.heap.size with hlt | hge
  · exact hlt
  · simp [World.cell?, Array.getElem?_eq_none hge] at h

section
variable {k : IntKind} {w w' : World} {B B' : Nat} {A : Option Addr} {zs : List Int}
theorem Ints.keep (h : Ints k w B A zs) (hk : ∀ p : Addr, p.block < B → w'.cell? p = w.cell? p) : Ints k w' B A zs :=
  ⟨h.1, fun hn => by
    obtain ⟨b, off, e, hb, hc⟩ := h.2 hn
    exact ⟨b, off, e, hb, fun i hi => (hk ⟨b, off + i, none⟩ hb).trans (hc i hi)⟩⟩
theorem Ints.below (h : Ints k w B A zs) (hb : Below B w w') : Ints k w' B A zs := h.keep fun _ hp => hb.cell hp
theorem Ints.more (h : Ints k w B A zs) (hB : B ≤ B') : Ints k w B' A zs :=
  ⟨h.1, fun hn => by
    obtain ⟨b, off, e, hb, hc⟩ := h.2 hn
    exact ⟨b, off, e, by omega, hc⟩⟩
theorem Ints.take (h : Ints k w B A zs) (n : Nat) : Ints k w B A (zs.take n) :=
  ⟨fun x hx => h.1 x (List.mem_of_mem_take hx), fun hn => by
    obtain ⟨b, off, e, hb, hc⟩ := h.2 (by intro e; subst e; simp at hn)
    refine ⟨b, off, e, hb, fun i hi => ?_⟩
    rw [List.length_take] at hi
    rw [hc i (by omega)]
    simp only [List.getD_eq_getElem?_getD, List.getElem?_take]
    rw [if_pos (by omega)]⟩
/-- A slice as the law's frame tells it. -/
theorem Ints.of_row {a : Option Addr} {len cap : Nat}
    (h : (a = none ∧ len = 0 ∧ cap = 0 ∧ zs = []) ∨ ∃ x : Addr, a = some x ∧ len ≤ cap ∧ cap ≤ maxLen ∧ zs.length = cap ∧ (∀ i, i < zs.length → w.cell? (x.add i) = some (.int k (zs.getD i 0))) ∧ ∀ n ∈ zs, (Lit.int k n).wf = true) :
    Ints k w w.heap.size a (zs.take len) ∧ (zs.take len).length = len ∧ len ≤ maxLen ∧ len ≤ cap := by
  rcases h with ⟨rfl, rfl, rfl, rfl⟩ | ⟨x, rfl, hl, hm, hz, hc, hw⟩
  · exact ⟨⟨by simp, fun hn => absurd rfl hn⟩, rfl, by unfold maxLen; omega, by omega⟩
  · refine ⟨Ints.take ⟨hw, fun hn => ?_⟩ len, by rw [List.length_take]; omega, by omega, hl⟩
    have h0 : 0 < zs.length := by rcases zs with _ | ⟨a, r⟩; exact absurd rfl hn; simp
    obtain ⟨b, off, spot⟩ := x
    have hc0 := hc 0 h0
    have hs : spot = none := by simpa [Addr.add] using World.cell?_spot hc0
    subst hs
    refine ⟨b, off, rfl, block_lt (o := off) (by simpa [Addr.add] using hc0), fun i hi => ?_⟩
    have := hc i hi
    unfold Addr.add at this
    by_cases h0 : i = 0
    · subst h0; simpa using this
    · simpa [h0] using this
end
end Go.Proofs.YtdnbcgdpaoclkaaDoor
