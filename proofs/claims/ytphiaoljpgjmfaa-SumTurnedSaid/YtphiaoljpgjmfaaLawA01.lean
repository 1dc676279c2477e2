/- What the law functions of layer 1 come to: true, whatever the bytes and numbers; nothing that was there is changed. Conditions: the bytes are cells of memory that hold numbers from 0 to 255. -/
import Derived.Test.YtphiaoljpgjmfaaCopy
import Derived.Deep.QuietTactic
import Derived.BigQuiet
import Derived.Deep.RegionHeld3
set_option linter.unusedVariables false
set_option linter.unusedSimpArgs false
namespace Go.Proofs.Ytphiaoljpgjmfaa
open Go.RowKit

theorem block_lt {w : World} {b o : Nat} {v : Value} (h : w.cell? ⟨b, o, none⟩ = some v) : b < w.heap.size := by
  rcases Nat.lt_or_ge b w.heap.size with hlt | hge
  · exact hlt
  · simp [World.cell?, Array.getElem?_eq_none hge] at h

/-- A slice of bytes as the law's frame tells it reads as bytes. -/
theorem Bytes.of_row {w : World} {a : Option Addr} {len cap : Nat} {zs : List Int}
    (h : (a = none ∧ len = 0 ∧ cap = 0 ∧ zs = []) ∨ ∃ x : Addr, a = some x ∧ len ≤ cap ∧ cap ≤ maxLen ∧ zs.length = cap ∧ (∀ i, i < zs.length → w.cell? (x.add i) = some (.int .u8 (zs.getD i 0))) ∧ ∀ n ∈ zs, (Lit.int .u8 n).wf = true) :
    Bytes w w.heap.size a (zs.take len) ∧ (zs.take len).length = len ∧ len ≤ maxLen ∧ len ≤ cap := by
  rcases h with ⟨rfl, rfl, rfl, rfl⟩ | ⟨x, rfl, hl, hm, hz, hc, hw⟩
  · exact ⟨⟨by simp, fun hn => absurd rfl hn⟩, rfl, by unfold maxLen; omega, by omega⟩
  · refine ⟨Bytes.take ⟨fun n hn => ?_, fun hn => ?_⟩ len, by rw [List.length_take]; omega, by omega, hl⟩
    · have := hw n hn; simp [Lit.wf, IntKind.min, IntKind.max, IntKind.signed, IntKind.bits] at this; omega
    · have h0 : 0 < zs.length := by rcases zs with _ | ⟨a, r⟩; exact absurd rfl hn; simp
      obtain ⟨b, off, spot⟩ := x
      have hc0 := hc 0 h0
      have hs : spot = none := by simpa [Addr.add] using World.cell?_spot hc0
      subst hs
      refine ⟨b, off, rfl, block_lt (o := off) (by simpa [Addr.add] using hc0), fun i hi => ?_⟩
      have := hc i hi
      unfold Addr.add at this
      by_cases h0 : i = 0
      · subst h0; simpa using this
      · simpa [h0] using this

/-- A copy by 'short': a slice that reads as the first 600, in new memory. -/
theorem short_reads (A : Option Addr) (zs : List Int) (c : Nat) (w : World) (h : Bytes w w.heap.size A zs) (hn : zs.length ≤ maxLen) (hc : zs.length ≤ c) :
    Calls Try.prog 7 #[.slice A zs.length c] w fun e w' => ∃ A' c', e = .returned (.slice A' (zs.take 600).length c') ∧ Hid (w'.ownsRow w.heap.size 5 1 (.slice A' (zs.take 600).length c') (zs.take 600).length (vals (zs.take 600)) ∧ Bytes w' w'.heap.size A' (zs.take 600)) ∧ Below w.heap.size w w' :=
  (short_any A zs c w h hn hc).mono fun e w' ⟨v, he, hown, hb⟩ => by
    obtain ⟨A', c', rfl, hB⟩ := Bytes.of_own hown fun x hx => h.1 x (List.mem_of_mem_take hx)
    exact ⟨A', c', he, ⟨hown, hB⟩, hb⟩
theorem short_small (A : Option Addr) (zs : List Int) (c : Nat) (w : World) (h : Bytes w w.heap.size A zs) (hn : zs.length ≤ 600) (hc : zs.length ≤ c) :
    Calls Try.prog 7 #[.slice A zs.length c] w fun e w' => ∃ A' c', e = .returned (.slice A' zs.length c') ∧ Hid (w'.ownsRow w.heap.size 5 1 (.slice A' zs.length c') zs.length (vals zs) ∧ Bytes w' w'.heap.size A' zs) ∧ Below w.heap.size w w' := by
  have := short_reads A zs c w h (by unfold maxLen; omega) hc
  rw [List.take_of_length_le hn] at this
  exact this

theorem sumAdds_walk (p : Int) (A : Option Addr) (zs : List Int) (c : Nat) (w : World) (h : Bytes w w.heap.size A zs) (hn : zs.length ≤ maxLen) (hc : zs.length ≤ c) (p0 : 0 ≤ p) (p1 : p < 4294967296) :
    Calls Try.prog 3 #[.int .u32 p, .slice A zs.length c] w fun e w' => e = .returned (.bool true) ∧ Below w.heap.size w w' := by
  have HB := Lib.hid h
  clear h
  go_enter Try.func3, Try.ntmps3
  go_wp2_with fail
  refine (short_reads A zs c _ HB.out hn hc).mono ?_
  have hl : (zs.take 600).length ≤ 600 := by rw [List.length_take]; omega
  generalize zs.take 600 = ys at hl ⊢
  rintro e w1 ⟨A1, c1, rfl, H1, hb1⟩
  have hc1 : ys.length ≤ c1 := by
    rcases H1.out.1.2 with ⟨h, h2⟩ | ⟨g, cap, cur, h, _, _, h2, _⟩
    · rw [h2]; omega
    · injection h with _ _ h; omega
  go_wp2_with fail
  refine (short_small A1 ys c1 _ H1.out.2 hl hc1).mono ?_
  rintro e w2 ⟨A2, c2, rfl, H2, hb2⟩
  go_wp2_with fail
  refine (sumAdd_any p A2 ys c2 _ _ H2.out.2 (by omega) p0 p1).mono ?_
  rintro e w' ⟨rfl, rfl⟩
  go_wp2_with fail
  refine (refAdd_any p A1 ys c1 _ _ (H1.out.2.below hb2) (by omega) p0 p1).mono ?_
  rintro e w' ⟨rfl, rfl⟩
  go_wp2_with fail
  refine (sumFold_any p _ p0 p1).mono ?_
  rintro e w' ⟨rfl, rfl⟩
  go_wp2_with fail
  refine (refFold_any p _ p0 p1).mono ?_
  rintro e w' ⟨rfl, rfl⟩
  go_wp2_with fail
  refine (short_small A1 ys c1 _ ((H1.out.2.below hb2).more hb2.size) hl hc1).mono ?_
  rintro e w3 ⟨A3, c3, rfl, H3, hb3⟩
  go_wp2_with fail
  refine (sumOf_any A3 ys c3 _ _ H3.out.2 (by omega)).mono ?_
  rintro e w' ⟨rfl, rfl⟩
  have hb13 : Below w1.heap.size w1 w3 := hb2.trans (hb3.mono hb2.size)
  go_wp2_with fail
  refine (refOf_any A1 ys c1 _ _ (H1.out.2.below hb13) (by omega)).mono ?_
  rintro e w' ⟨rfl, rfl⟩
  go_wp2_with fail
  refine (short_small A1 ys c1 _ ((H1.out.2.below hb13).more hb13.size) hl hc1).mono ?_
  rintro e w4 ⟨A4, c4, rfl, H4, hb4⟩
  have hb14 : Below w1.heap.size w1 w4 := hb13.trans (hb4.mono hb13.size)
  go_wp2_with fail
  refine (sumRight_any A4 ys c4 _ _ H4.out.2 (by omega)).mono ?_
  rintro e w' ⟨rfl, rfl⟩
  go_wp2_with fail
  refine (refRight_any A1 ys c1 _ _ (H1.out.2.below hb14) (by omega)).mono ?_
  rintro e w' ⟨rfl, rfl⟩
  go_wp2_with fail
  refine (works_any _).mono ?_
  rintro e w5 ⟨rfl, hb5⟩
  go_wp2
  go_ret
  exact ⟨rfl, hb1.trans ((hb14.trans (hb5.mono hb14.size)).mono hb1.size)⟩
end Go.Proofs.Ytphiaoljpgjmfaa
