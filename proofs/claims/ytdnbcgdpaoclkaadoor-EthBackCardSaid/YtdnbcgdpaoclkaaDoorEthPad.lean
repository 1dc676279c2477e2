/- The reference's frame is filled up: a loop. No conditions but those that each names. -/
import Derived.Test.YtdnbcgdpaoclkaaDoorEthRd
set_option linter.unusedVariables false
set_option linter.unusedSimpArgs false
set_option maxRecDepth 100000
set_option maxHeartbeats 2000000
namespace Go.Proofs.YtdnbcgdpaoclkaaDoor.Ex
open Go Go.RowKit
/-- What is to do at the loop's head. -/
noncomputable def padT : List Item := todoOf (itemsS Tryd.prog (runCallS Tryd.prog [] 40) [] Tryd.f10.ntmps 166 0 [.code (bodyOf 10)] ⟨⟨putArgs [] 0 [.agg #[.int .u8 0, .int .u8 0, .int .u8 0, .int .u8 0, .int .u8 0, .int .u8 0, .int .u8 0, .int .u8 0, .int .u8 0, .int .u8 0, .int .u8 0, .int .u8 0, .int .u16 0, .slice none 0 0]], [], 0, []⟩, []⟩)
/-- What is known there. -/
noncomputable def padS (X : List Value) (l : Nat) : St := ⟨tput [] 4 (some (.slice (some ⟨8, 0, some 0⟩) l 0)), tput [] 8 (some (rowO X 5 true)), 9, []⟩
theorem tget_one {α : Type} {m k : Nat} {x : α} {v : α} (h : tget (tput [] m (some x)) k = some v) : k = m ∧ v = x := by
  rw [tget_tput] at h
  split at h
  · rename_i e; cases h; exact ⟨e, rfl⟩
  · rw [tget_nil] at h; cases h
theorem piL_hi {m j id : Nat} (h : m < id) (h8 : 8 ≤ id) : piL [(m, j)] id = none := by
  unfold piL
  rw [if_neg (by omega)]
  have : (m == id) = false := by simp; omega
  simp [List.find?, this]
/-- One turn, from the loop's head to the loop's head. -/
theorem pad_step {ε : Nat → Option Value} {base : Base} (E : Env Tryd.prog ε base []) {X : List Value} {l : Nat} {Q : St → Prop} (hX : X.length = l) (hB : Byt X) (hl : l < 60)
    (k : Leads Tryd.prog ε base Tryd.f10.ntmps padT (padS (X ++ [.int .u8 0]) (l + 1)) Q) : Leads Tryd.prog ε base Tryd.f10.ntmps padT (padS X l) Q := by
  have hd : decide ((l : Int) < 60) = true := decide_eq_true (by omega)
  have hN : NoIds (X ++ [.int .u8 0]) := (hB.append (.cons (by omega) (by omega) .nil)).noIds
  refine leads_seg E 40 9 [([2, 2], .val (.bool true)), ([6, 2], .appO 1 [.int .u8 0])] (p := [((plainP none 0 ∧ fitP 0 (1 * 1) 1 ∧ [Value.int .u8 0] = [Value.int .u8 0]) ∧ 1 = 1 ∧ [Value.int .u8 0].all one = true ∧ growP (l + 1) 1 ∧ X.length = l * 1), (Value.bool (decide ((l : Int) < 60))) = Value.bool true]) (t := padT) (s' := (segS (itemsS Tryd.prog (runCallS Tryd.prog [] 40) [([2, 2], .val (.bool true)), ([6, 2], .appO 1 [.int .u8 0])] Tryd.f10.ntmps 9 0 padT ⟨padS X l, []⟩)).st) (by kernel_rfl) (by kernel_rfl) ⟨⟨⟨trivial, .inr (Nat.le_refl _), rfl⟩, rfl, rfl, (by simp only [growP]; omega), (by omega)⟩, congrArg Value.bool hd, trivial⟩ (by kernel_rfl) rfl ?_
  refine Leads.ren (piL [(8, 10)]) (fun id h => piL_low h) (fun id (h : 9 ≤ id) => piL_hi (by omega) (by omega)) (fun kk v hv => ?_) (fun i o ho => ?_) (fun i i' j o o' ho ho' _ _ => ?_) (t := padS (X ++ [.int .u8 0]) (l + 1)) k
  · obtain ⟨rfl, rfl⟩ := tget_one (show tget (tput [] 4 (some (Value.slice (some ⟨8, 0, some 0⟩) (l + 1) 0))) kk = some v from hv)
    exact ⟨.slice (some ⟨10, 0, some 0⟩) (l + 1) 0, 3, by kernel_rfl, by kernel_rfl⟩
  · obtain ⟨rfl, rfl⟩ := tget_one (show tget (tput [] 8 (some (rowO (X ++ [.int .u8 0]) 5 true))) i = some o from ho)
    exact ⟨10, rowO (X ++ [.int .u8 0]) 5 true, by kernel_rfl, by kernel_rfl, renW.of (renO_row rfl rfl hN)⟩
  · have h1 := tget_one (show tget (tput [] 8 (some (rowO (X ++ [.int .u8 0]) 5 true))) i = some o from ho)
    have h2 := tget_one (show tget (tput [] 8 (some (rowO (X ++ [.int .u8 0]) 5 true))) i' = some o' from ho')
    exact h1.1.trans h2.1.symm
/-- The loop, to its last turn. -/
theorem pad_all {ε : Nat → Option Value} {base : Base} (E : Env Tryd.prog ε base []) {Q : St → Prop} : ∀ (k : Nat) (X : List Value) (l : Nat), X.length = l → Byt X → l + k = 60 →
    Leads Tryd.prog ε base Tryd.f10.ntmps padT (padS (X ++ List.replicate k (.int .u8 0)) 60) Q → Leads Tryd.prog ε base Tryd.f10.ntmps padT (padS X l) Q
  | 0, X, l, _, _, hl, h => by
    obtain rfl : l = 60 := by omega
    rw [List.replicate_zero, List.append_nil] at h
    exact h
  | k + 1, X, l, hX, hB, hl, h => pad_step E hX hB (by omega) (pad_all E k (X ++ [.int .u8 0]) (l + 1) (by simp [hX]) (hB.append (.cons (by omega) (by omega) .nil)) (by omega) (by rw [List.append_assoc, List.singleton_append, ← List.replicate_succ]; exact h))
end Go.Proofs.YtdnbcgdpaoclkaaDoor.Ex
