/- SegBack: what was built is read back. Conditions: the letters are there at first. -/
import Derived.Test.YtefnfbidphmgoaaDoorSegBackL
import Derived.Test.YtefnfbidphmgoaaDoorSegBackZ
set_option linter.unusedVariables false
set_option linter.unusedSimpArgs false
set_option maxRecDepth 100000
set_option maxHeartbeats 2000000
namespace Go.Proofs.YtefnfbidphmgoaaDoor.Ex
open Go Go.RowKit
theorem sback_1 {ε : Nat → Option Value} {base : Base} (hG : LetB base) (hε : ∀ i V, ε i = some V → one V = true) (frm to f t sq ak fl wi u gr : Int) (cs : List Value) (off len cap : Nat) (u1 : 0 ≤ frm) (u2 : frm < 4294967296) (u3 : 0 ≤ to) (u4 : to < 4294967296) (u5 : 0 ≤ sq) (u6 : sq < 4294967296) (u7 : 0 ≤ ak) (u8 : ak < 4294967296) (a1 : len ≤ cap) (a2 : fitP off len cs.length) (a3 : NoIds cs) (a4 : Byt (List.take len (List.drop off cs))) :
    Leads Tryd.prog ε base Tryd.f5.ntmps [.code (bodyOf 5)] ⟨putArgs [] 0 [.int .u32 frm, .int .u32 to, .agg #[.int .i64 f, .int .i64 t, .int .u32 sq, .int .u32 ak, .int .i64 fl, .int .i64 wi, .int .i64 u, .int .i64 gr, .slice (some ⟨0, off, none⟩) len cap]], (tput [] 0 (some (roRow cs))), 1, []⟩ (fun s => optL (resA Tryd.prog s.tmps s.heap) Tryd.f5.results.toList = some [.bool true]) := by
  by_cases h0 : 0 < len
  · exact sback_l hG hε frm to f t sq ak fl wi u gr cs off len cap u1 u2 u3 u4 u5 u6 u7 u8 a1 a2 a3 a4 h0
  · obtain rfl : len = 0 := by omega
    exact sback_z hG hε frm to f t sq ak fl wi u gr cs off cap u1 u2 u3 u4 u5 u6 u7 u8 a1 a2 a3
end Go.Proofs.YtefnfbidphmgoaaDoor.Ex
