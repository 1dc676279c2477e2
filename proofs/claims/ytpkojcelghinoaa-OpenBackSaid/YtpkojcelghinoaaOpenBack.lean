/- OpenBack: what was built is read back. No conditions but those that each names. -/
import Derived.Test.YtpkojcelghinoaaOpnH2
import Derived.Test.YtpkojcelghinoaaOpnH1
set_option linter.unusedVariables false
set_option linter.unusedSimpArgs false
set_option maxRecDepth 100000
set_option maxHeartbeats 2000000
namespace Go.Proofs.Ytpkojcelghinoaa.Ex
open Go Go.RowKit
theorem openback {ε : Nat → Option Value} {base : Base} (hε : ∀ i V, ε i = some V → one V = true) (sy hold id : Int) (multi four refresh graceful : Bool) (time : Int) (restarts keeps : Bool) (r1 : 0 ≤ sy) (r2 : sy < 4294967296) (r3 : 0 ≤ id) (r4 : id < 4294967296) :
    Leads Try.prog ε base Try.f4.ntmps [.code (bodyOf 4)] ⟨putArgs [] 0 [.agg #[.int .u32 sy, .int .i64 hold, .int .u32 id, .bool multi, .bool four, .bool refresh, .bool graceful, .int .i64 time, .bool restarts, .bool keeps]], [], 0, []⟩ (fun s => optL (resA Try.prog s.tmps s.heap) Try.f4.results.toList = some [.bool true]) := by
  obtain ⟨RB, SW, hR, hS, hSr, E⟩ := openbackE (base := base) hε
  by_cases hRB : okRB (RB sy hold id four graceful time restarts keeps)
  · obtain ⟨⟨g1, g2, g3, g4⟩, ⟨g5, g6, g7⟩, ⟨g8, g9⟩, g10⟩ := hR _ _ _ _ _ _ _ _ hRB
    have hho : 0 ≤ hold ∧ hold ≤ 65535 := ⟨g1, g2⟩
    have rid := r32_is ⟨r3, r4⟩
    have rs := r32_is ⟨r1, r2⟩
    have rh := r8_word hho
    have i0 : (id == 0) = false := by simpa using g5
    have s0 : (sy == 0) = false := by simpa using g6
    have h1 : (hold == 1) = false := by simpa using g3
    have h2 : (hold == 2) = false := by simpa using g4
    have hw : four = false → IntKind.wrap IntKind.u32 (r8 (SW sy / 256) (SW sy % 256)) = sy := fun hf => by
      have h6 : sy ≤ 65535 := by rcases g7 with g7 | g7; exact g7; rw [hf] at g7; cases g7
      rw [hS _ h6, r8_word ⟨r1, h6⟩, u32_same ⟨r1, h6⟩]
    obtain ⟨t1, t2, t3⟩ := back_time (c := 32768) ⟨g8, g9⟩ (.inl rfl)
    obtain ⟨z1, z2, z3⟩ := back_time (c := 0) ⟨g8, g9⟩ (.inr rfl)
    have hok : okO sy id time := ⟨⟨r1, r2⟩, ⟨r3, r4⟩, g8, g9⟩
    cases graceful with
    | true =>
      cases restarts <;> cases keeps <;> cases multi <;> cases refresh <;> cases four <;> first
        | exact oback_111111 E sy hold id time hok hho hRB rid i0 rh h1 h2 s0 rs trivial t1 t2 t3
        | exact oback_101111 E sy hold id time hok hho hRB rid i0 rh h1 h2 s0 trivial (hw rfl) t1 t2 t3
        | exact oback_110111 E sy hold id time hok hho hRB rid i0 rh h1 h2 s0 rs trivial t1 t2 t3
        | exact oback_100111 E sy hold id time hok hho hRB rid i0 rh h1 h2 s0 trivial (hw rfl) t1 t2 t3
        | exact oback_011111 E sy hold id time hok hho hRB rid i0 rh h1 h2 s0 rs trivial t1 t2 t3
        | exact oback_001111 E sy hold id time hok hho hRB rid i0 rh h1 h2 s0 trivial (hw rfl) t1 t2 t3
        | exact oback_010111 E sy hold id time hok hho hRB rid i0 rh h1 h2 s0 rs trivial t1 t2 t3
        | exact oback_000111 E sy hold id time hok hho hRB rid i0 rh h1 h2 s0 trivial (hw rfl) t1 t2 t3
        | exact oback_111110 E sy hold id time hok hho hRB rid i0 rh h1 h2 s0 rs trivial t1 t2 t3
        | exact oback_101110 E sy hold id time hok hho hRB rid i0 rh h1 h2 s0 trivial (hw rfl) t1 t2 t3
        | exact oback_110110 E sy hold id time hok hho hRB rid i0 rh h1 h2 s0 rs trivial t1 t2 t3
        | exact oback_100110 E sy hold id time hok hho hRB rid i0 rh h1 h2 s0 trivial (hw rfl) t1 t2 t3
        | exact oback_011110 E sy hold id time hok hho hRB rid i0 rh h1 h2 s0 rs trivial t1 t2 t3
        | exact oback_001110 E sy hold id time hok hho hRB rid i0 rh h1 h2 s0 trivial (hw rfl) t1 t2 t3
        | exact oback_010110 E sy hold id time hok hho hRB rid i0 rh h1 h2 s0 rs trivial t1 t2 t3
        | exact oback_000110 E sy hold id time hok hho hRB rid i0 rh h1 h2 s0 trivial (hw rfl) t1 t2 t3
        | exact oback_111101 E sy hold id time hok hho hRB rid i0 rh h1 h2 s0 rs trivial z1 z2 z3
        | exact oback_101101 E sy hold id time hok hho hRB rid i0 rh h1 h2 s0 trivial (hw rfl) z1 z2 z3
        | exact oback_110101 E sy hold id time hok hho hRB rid i0 rh h1 h2 s0 rs trivial z1 z2 z3
        | exact oback_100101 E sy hold id time hok hho hRB rid i0 rh h1 h2 s0 trivial (hw rfl) z1 z2 z3
        | exact oback_011101 E sy hold id time hok hho hRB rid i0 rh h1 h2 s0 rs trivial z1 z2 z3
        | exact oback_001101 E sy hold id time hok hho hRB rid i0 rh h1 h2 s0 trivial (hw rfl) z1 z2 z3
        | exact oback_010101 E sy hold id time hok hho hRB rid i0 rh h1 h2 s0 rs trivial z1 z2 z3
        | exact oback_000101 E sy hold id time hok hho hRB rid i0 rh h1 h2 s0 trivial (hw rfl) z1 z2 z3
        | exact oback_111100 E sy hold id time hok hho hRB rid i0 rh h1 h2 s0 rs trivial z1 z2 z3
        | exact oback_101100 E sy hold id time hok hho hRB rid i0 rh h1 h2 s0 trivial (hw rfl) z1 z2 z3
        | exact oback_110100 E sy hold id time hok hho hRB rid i0 rh h1 h2 s0 rs trivial z1 z2 z3
        | exact oback_100100 E sy hold id time hok hho hRB rid i0 rh h1 h2 s0 trivial (hw rfl) z1 z2 z3
        | exact oback_011100 E sy hold id time hok hho hRB rid i0 rh h1 h2 s0 rs trivial z1 z2 z3
        | exact oback_001100 E sy hold id time hok hho hRB rid i0 rh h1 h2 s0 trivial (hw rfl) z1 z2 z3
        | exact oback_010100 E sy hold id time hok hho hRB rid i0 rh h1 h2 s0 rs trivial z1 z2 z3
        | exact oback_000100 E sy hold id time hok hho hRB rid i0 rh h1 h2 s0 trivial (hw rfl) z1 z2 z3
    | false =>
      obtain ⟨rfl, rfl, rfl⟩ : restarts = false ∧ keeps = false ∧ time = 0 := by rcases g10 with g10 | g10; cases g10; exact g10
      cases multi <;> cases refresh <;> cases four <;> first
        | exact oback_111000 E sy hold id 0 hok hho hRB rid i0 rh h1 h2 s0 rs trivial trivial trivial trivial
        | exact oback_101000 E sy hold id 0 hok hho hRB rid i0 rh h1 h2 s0 trivial (hw rfl) trivial trivial trivial
        | exact oback_110000 E sy hold id 0 hok hho hRB rid i0 rh h1 h2 s0 rs trivial trivial trivial trivial
        | exact oback_100000 E sy hold id 0 hok hho hRB rid i0 rh h1 h2 s0 trivial (hw rfl) trivial trivial trivial
        | exact oback_011000 E sy hold id 0 hok hho hRB rid i0 rh h1 h2 s0 rs trivial trivial trivial trivial
        | exact oback_001000 E sy hold id 0 hok hho hRB rid i0 rh h1 h2 s0 trivial (hw rfl) trivial trivial trivial
        | exact oback_010000 E sy hold id 0 hok hho hRB rid i0 rh h1 h2 s0 rs trivial trivial trivial trivial
        | exact oback_000000 E sy hold id 0 hok hho hRB rid i0 rh h1 h2 s0 trivial (hw rfl) trivial trivial trivial
  · have hRB' : RB sy hold id four graceful time restarts keeps = false := by simpa [okRB] using hRB
    refine leads_end E 40 100000 [([8, 1], Ch.alt 2)] (p := [(¬okRB (RB sy hold id four graceful time restarts keeps)), True]) (by kernel_rfl) (by kernel_rfl) ⟨?_, trivial, trivial⟩ (by kernel_rfl) <;> (first | trivial | rfl | exact hRB)
end Go.Proofs.Ytpkojcelghinoaa.Ex
