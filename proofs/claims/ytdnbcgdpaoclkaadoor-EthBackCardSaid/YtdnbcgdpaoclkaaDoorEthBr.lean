/- What eth builds; the reference's, with its loop. No conditions but those that each names. -/
import Derived.Test.YtdnbcgdpaoclkaaDoorEthPad
set_option linter.unusedVariables false
set_option linter.unusedSimpArgs false
set_option maxRecDepth 100000
set_option maxHeartbeats 2000000
namespace Go.Proofs.YtdnbcgdpaoclkaaDoor.Ex
open Go Go.RowKit
/-- A frame's bytes. -/
def frL (m0 m1 m2 m3 m4 m5 n0 n1 n2 n3 n4 n5 kd : Int) (T : List Value) : List Value := .int .u8 m0 :: .int .u8 m1 :: .int .u8 m2 :: .int .u8 m3 :: .int .u8 m4 :: .int .u8 m5 :: .int .u8 n0 :: .int .u8 n1 :: .int .u8 n2 :: .int .u8 n3 :: .int .u8 n4 :: .int .u8 n5 :: .int .u8 (kd / 256) :: .int .u8 (kd % 256) :: T
def sixB (a b c d e f : Int) : Prop := (0 ≤ a ∧ a ≤ 255) ∧ (0 ≤ b ∧ b ≤ 255) ∧ (0 ≤ c ∧ c ≤ 255) ∧ (0 ≤ d ∧ d ≤ 255) ∧ (0 ≤ e ∧ e ≤ 255) ∧ (0 ≤ f ∧ f ≤ 255)
def okF (m0 m1 m2 m3 m4 m5 n0 n1 n2 n3 n4 n5 kd : Int) : Prop := sixB m0 m1 m2 m3 m4 m5 ∧ sixB n0 n1 n2 n3 n4 n5 ∧ 0 ≤ kd ∧ kd ≤ 65535
theorem frL_len (m0 m1 m2 m3 m4 m5 n0 n1 n2 n3 n4 n5 kd : Int) (T : List Value) : (frL m0 m1 m2 m3 m4 m5 n0 n1 n2 n3 n4 n5 kd T).length = 14 + T.length := by simp [frL]; omega
theorem frL_app (m0 m1 m2 m3 m4 m5 n0 n1 n2 n3 n4 n5 kd : Int) (T M : List Value) : frL m0 m1 m2 m3 m4 m5 n0 n1 n2 n3 n4 n5 kd T ++ M = frL m0 m1 m2 m3 m4 m5 n0 n1 n2 n3 n4 n5 kd (T ++ M) := rfl
theorem frL_byt {m0 m1 m2 m3 m4 m5 n0 n1 n2 n3 n4 n5 kd : Int} {T : List Value} (h : okF m0 m1 m2 m3 m4 m5 n0 n1 n2 n3 n4 n5 kd) (hT : Byt T) : Byt (frL m0 m1 m2 m3 m4 m5 n0 n1 n2 n3 n4 n5 kd T) := by
  obtain ⟨⟨p0, p1, p2, p3, p4, p5⟩, ⟨q0, q1, q2, q3, q4, q5⟩, k0, k1⟩ := h
  unfold frL
  repeat' (first | exact hT | refine .cons (by omega) (by omega) ?_)
/-- How what was built lies. -/
structure EBl where
  sp : Nat → Option Nat
  cap : Nat → Nat
  own : Nat → Bool
noncomputable def ebuildW (B : EBl) : Ent := fun j args h n => match args with
  | [.agg ⟨[.int .u8 m0, .int .u8 m1, .int .u8 m2, .int .u8 m3, .int .u8 m4, .int .u8 m5, .int .u8 n0, .int .u8 n1, .int .u8 n2, .int .u8 n3, .int .u8 n4, .int .u8 n5, .int .u16 kd, x]⟩] => match winS x h with
    | some (len, L, p) => match j with
      | 0 => some (⟨.tuple #[.slice (some ⟨n, 0, B.sp len⟩) (max (14 + len) 60) (B.cap len), .int .i64 0], tput h n (some (rowO (frL m0 m1 m2 m3 m4 m5 n0 n1 n2 n3 n4 n5 kd (L ++ List.replicate (46 - len) (.int .u8 0))) 5 (B.own len))), n + 1, [n]⟩, p ∧ Byt L ∧ okF m0 m1 m2 m3 m4 m5 n0 n1 n2 n3 n4 n5 kd ∧ len ≤ 1500)
      | _ => some (⟨.tuple #[.slice none 0 0, .int .i64 3], h, n, []⟩, p ∧ 1500 < len)
    | none => none
  | _ => none
noncomputable def Eref : EBl := ⟨fun _ => some 0, fun _ => 0, fun _ => true⟩
theorem kind_bytes {kd : Int} (h0 : 0 ≤ kd) (h1 : kd ≤ 65535) : IntKind.wrap IntKind.u8 (IntKind.wrap IntKind.u16 (Int.tdiv kd 256)) = kd / 256 ∧ IntKind.wrap IntKind.u8 (Int.tmod kd 256) = kd % 256 := by
  rw [Int.tdiv_eq_ediv_of_nonneg h0, Int.tmod_eq_emod_of_nonneg h0]
  simp [IntKind.wrap, IntKind.signed, IntKind.bits]; omega
theorem erefbuild_ok {ε : Nat → Option Value} {base : Base} (hε : ∀ i V, ε i = some V → one V = true) : EntOk Tryd.prog ε base 10 (ebuildW Eref) := by
  intro j args h n r p e hp
  unfold ebuildW at e
  split at e
  case h_2 => cases e
  rename_i m0 m1 m2 m3 m4 m5 n0 n1 n2 n3 n4 n5 kd x
  split at e
  case h_2 => cases e
  rename_i len L q hw
  have E : Env Tryd.prog ε base [] := env0 hε
  have b1 : Tryd.prog.funcs[10]? = some Tryd.f10 := by kernel_rfl
  have b2 : Tryd.f10.body = some (bodyOf 10) := by kernel_rfl
  have b3 : 1 ≤ Tryd.f10.ntmps := of_decide_eq_true (by kernel_rfl)
  have hkeep : ∀ (o : HO) (id : Nat), id ∉ [n] → tget (tput h n (some o)) id = tget h id := fun o id hid => by rw [tget_tput, if_neg (by simpa using hid)]
  rcases j with _ | j
  · cases e
    obtain ⟨hq, hB, hok, hlen⟩ := hp
    have hk := kind_bytes hok.2.2.1 hok.2.2.2
    have hL := winS_len hw hq
    have hd : decide ((len : Int) > 1500) = false := decide_eq_false (by omega)
    have hFr : Byt (frL m0 m1 m2 m3 m4 m5 n0 n1 n2 n3 n4 n5 kd (L ++ List.replicate (46 - len) (.int .u8 0))) := frL_byt hok (hB.append fun v hv => ⟨0, List.eq_of_mem_replicate hv, by omega, by omega⟩)
    rcases winS_some hw hq with ⟨rfl, rfl, rfl⟩ | ⟨id, off, sp, c, oc, oe, oo, orr, om, ock, on, rfl, ho, a1, a5, a2, a3, a4⟩
    · refine callOk_none (args0 := [.agg #[.int .u8 m0, .int .u8 m1, .int .u8 m2, .int .u8 m3, .int .u8 m4, .int .u8 m5, .int .u8 n0, .int .u8 n1, .int .u8 n2, .int .u8 n3, .int .u8 n4, .int .u8 n5, .int .u16 kd, .slice none 0 0]]) b1 b2 b3 ⟨3, rfl⟩ (Nat.le_succ n) (fun id hid => by simp at hid; subst hid; exact ⟨Nat.le_refl _, Nat.lt_succ_self _⟩) (hkeep _) ?_
      have hraw : (rep (cellsOf (Value.int IntKind.u8 0)) 0 ++ [Value.int IntKind.u8 m0] ++ [Value.int IntKind.u8 m1] ++ [Value.int IntKind.u8 m2] ++ [Value.int IntKind.u8 m3] ++ [Value.int IntKind.u8 m4] ++ [Value.int IntKind.u8 m5] ++ [Value.int IntKind.u8 n0] ++ [Value.int IntKind.u8 n1] ++ [Value.int IntKind.u8 n2] ++ [Value.int IntKind.u8 n3] ++ [Value.int IntKind.u8 n4] ++ [Value.int IntKind.u8 n5] ++ [Value.int IntKind.u8 (IntKind.wrap IntKind.u8 (IntKind.wrap IntKind.u16 (Int.tdiv kd 256))), Value.int IntKind.u8 (IntKind.wrap IntKind.u8 (Int.tmod kd 256))]) = (frL m0 m1 m2 m3 m4 m5 n0 n1 n2 n3 n4 n5 kd []) := by rw [hk.1, hk.2]; rfl
      have hXl : (frL m0 m1 m2 m3 m4 m5 n0 n1 n2 n3 n4 n5 kd []).length = 14 := by rw [frL_len]; rfl
      have hXb : Byt (frL m0 m1 m2 m3 m4 m5 n0 n1 n2 n3 n4 n5 kd []) := frL_byt hok hB
      refine leads_seg E 40 166 [([4, 3], .val (.bool false))] (p := [Value.bool (decide (((0 : Nat) : Int) > 1500)) = .bool false]) (t := padT) (s' := (segS (itemsS Tryd.prog (runCallS Tryd.prog [] 40) [([4, 3], .val (.bool false))] Tryd.f10.ntmps 166 0 [.code (bodyOf 10)] ⟨⟨putArgs [] 0 [.agg #[.int .u8 m0, .int .u8 m1, .int .u8 m2, .int .u8 m3, .int .u8 m4, .int .u8 m5, .int .u8 n0, .int .u8 n1, .int .u8 n2, .int .u8 n3, .int .u8 n4, .int .u8 n5, .int .u16 kd, .slice none 0 0]], [], 0, []⟩, []⟩)).st) (by kernel_rfl) (by kernel_rfl) ⟨congrArg Value.bool hd, trivial⟩ (by kernel_rfl) rfl ?_
      refine Leads.ren (piL [(8, 28)]) (fun id h => piL_low h) (fun id (h : 9 ≤ id) => piL_hi (by omega) (by omega)) (fun kk v hv => ?_) (fun i o ho => ?_) (fun i i' j o o' ho ho' _ _ => ?_) (t := padS (frL m0 m1 m2 m3 m4 m5 n0 n1 n2 n3 n4 n5 kd []) 14) ?_
      · obtain ⟨rfl, rfl⟩ := tget_one (show tget (tput [] 4 (some (Value.slice (some ⟨8, 0, some 0⟩) 14 0))) kk = some v from hv)
        exact ⟨.slice (some ⟨28, 0, some 0⟩) 14 0, 3, by kernel_rfl, by kernel_rfl⟩
      · obtain ⟨rfl, rfl⟩ := tget_one (show tget (tput [] 8 (some (rowO (frL m0 m1 m2 m3 m4 m5 n0 n1 n2 n3 n4 n5 kd []) 5 true))) i = some o from ho)
        exact ⟨28, rowO (frL m0 m1 m2 m3 m4 m5 n0 n1 n2 n3 n4 n5 kd []) 5 true, by kernel_rfl, by rw [← hraw]; kernel_rfl, renW.of (renO_row rfl rfl hXb.noIds)⟩
      · have h1 := tget_one (show tget (tput [] 8 (some (rowO (frL m0 m1 m2 m3 m4 m5 n0 n1 n2 n3 n4 n5 kd []) 5 true))) i = some o from ho)
        have h2 := tget_one (show tget (tput [] 8 (some (rowO (frL m0 m1 m2 m3 m4 m5 n0 n1 n2 n3 n4 n5 kd []) 5 true))) i' = some o' from ho')
        exact h1.1.trans h2.1.symm
      refine pad_all E 46 (frL m0 m1 m2 m3 m4 m5 n0 n1 n2 n3 n4 n5 kd []) 14 hXl hXb rfl ?_
      exact leads_end E 40 100 [([2, 2], .val (.bool false))] (p := [Value.bool (decide (((60 : Nat) : Int) < 60)) = .bool false]) (by kernel_rfl) (by kernel_rfl) ⟨congrArg Value.bool (decide_eq_false (by omega)), trivial⟩ (Fin.new (k := 8) (vs := [.slice (some ⟨8, 0, some 0⟩) 60 0, .int .i64 0]) (by kernel_rfl) (.inr ⟨by simp, rfl⟩) (by simp) (o1 := rowO ((frL m0 m1 m2 m3 m4 m5 n0 n1 n2 n3 n4 n5 kd []) ++ List.replicate 46 (.int .u8 0)) 5 true) ⟨3, rfl⟩ (by kernel_rfl) rfl (by exact renO_row rfl rfl hFr.noIds))
    · subst a4
      refine callOk_one (args0 := [.agg #[.int .u8 m0, .int .u8 m1, .int .u8 m2, .int .u8 m3, .int .u8 m4, .int .u8 m5, .int .u8 n0, .int .u8 n1, .int .u8 n2, .int .u8 n3, .int .u8 n4, .int .u8 n5, .int .u16 kd, .slice (some ⟨0, off, sp⟩) len c]]) b1 b2 b3 ⟨3, rfl⟩ ho rfl rfl a3 (Nat.le_succ n) (fun id hid => by simp at hid; subst hid; exact ⟨Nat.le_refl _, Nat.lt_succ_self _⟩) (hkeep _) ?_
      have hraw : (rep (cellsOf (Value.int IntKind.u8 0)) 0 ++ [Value.int IntKind.u8 m0] ++ [Value.int IntKind.u8 m1] ++ [Value.int IntKind.u8 m2] ++ [Value.int IntKind.u8 m3] ++ [Value.int IntKind.u8 m4] ++ [Value.int IntKind.u8 m5] ++ [Value.int IntKind.u8 n0] ++ [Value.int IntKind.u8 n1] ++ [Value.int IntKind.u8 n2] ++ [Value.int IntKind.u8 n3] ++ [Value.int IntKind.u8 n4] ++ [Value.int IntKind.u8 n5] ++ [Value.int IntKind.u8 (IntKind.wrap IntKind.u8 (IntKind.wrap IntKind.u16 (Int.tdiv kd 256))), Value.int IntKind.u8 (IntKind.wrap IntKind.u8 (Int.tmod kd 256))] ++ List.take len (List.drop off oc)) = (frL m0 m1 m2 m3 m4 m5 n0 n1 n2 n3 n4 n5 kd (List.take len (List.drop off oc))) := by rw [hk.1, hk.2]; rfl
      have hXl : (frL m0 m1 m2 m3 m4 m5 n0 n1 n2 n3 n4 n5 kd (List.take len (List.drop off oc))).length = (14 + len) := by rw [frL_len, hL]
      have hXb : Byt (frL m0 m1 m2 m3 m4 m5 n0 n1 n2 n3 n4 n5 kd (List.take len (List.drop off oc))) := frL_byt hok hB
      refine leads_seg E 40 166 [([4, 3], .val (.bool false)), ([162, 13], .appO len (List.take len (List.drop off oc)))] (p := [(plainP sp off ∧ fitP off (len * 1) oc.length ∧ List.take (len * 1) (List.drop off oc) = List.take len (List.drop off oc)) ∧ len = len ∧ (List.take len (List.drop off oc)).all one = true ∧ growP (14 + len) 1 ∧ (14 : Nat) = 14, Value.bool (decide ((len : Int) > 1500)) = .bool false]) (t := padT) (s' := (segS (itemsS Tryd.prog (runCallS Tryd.prog [] 40) [([4, 3], .val (.bool false)), ([162, 13], .appO len (List.take len (List.drop off oc)))] Tryd.f10.ntmps 166 0 [.code (bodyOf 10)] ⟨⟨putArgs [] 0 [.agg #[.int .u8 m0, .int .u8 m1, .int .u8 m2, .int .u8 m3, .int .u8 m4, .int .u8 m5, .int .u8 n0, .int .u8 n1, .int .u8 n2, .int .u8 n3, .int .u8 n4, .int .u8 n5, .int .u16 kd, .slice (some ⟨0, off, sp⟩) len c]], (tput [] 0 (some ⟨0, oc, oe, oo, true, om, [], ock, on⟩)), 1, []⟩, []⟩)).st) (by kernel_rfl) (by kernel_rfl) ⟨⟨⟨a1, by rw [Nat.mul_one]; exact a2, by rw [Nat.mul_one]⟩, rfl, hB.one, by simp only [growP]; omega, rfl⟩, congrArg Value.bool hd, trivial⟩ (by kernel_rfl) rfl ?_
      refine Leads.ren (piL [(8, 29)]) (fun id h => piL_low h) (fun id (h : 9 ≤ id) => piL_hi (by omega) (by omega)) (fun kk v hv => ?_) (fun i o ho => ?_) (fun i i' j o o' ho ho' _ _ => ?_) (t := padS (frL m0 m1 m2 m3 m4 m5 n0 n1 n2 n3 n4 n5 kd (List.take len (List.drop off oc))) (14 + len)) ?_
      · obtain ⟨rfl, rfl⟩ := tget_one (show tget (tput [] 4 (some (Value.slice (some ⟨8, 0, some 0⟩) (14 + len) 0))) kk = some v from hv)
        exact ⟨.slice (some ⟨29, 0, some 0⟩) (14 + len) 0, 3, by kernel_rfl, by kernel_rfl⟩
      · obtain ⟨rfl, rfl⟩ := tget_one (show tget (tput [] 8 (some (rowO (frL m0 m1 m2 m3 m4 m5 n0 n1 n2 n3 n4 n5 kd (List.take len (List.drop off oc))) 5 true))) i = some o from ho)
        exact ⟨29, rowO (frL m0 m1 m2 m3 m4 m5 n0 n1 n2 n3 n4 n5 kd (List.take len (List.drop off oc))) 5 true, by kernel_rfl, by rw [← hraw]; kernel_rfl, renW.of (renO_row rfl rfl hXb.noIds)⟩
      · have h1 := tget_one (show tget (tput [] 8 (some (rowO (frL m0 m1 m2 m3 m4 m5 n0 n1 n2 n3 n4 n5 kd (List.take len (List.drop off oc))) 5 true))) i = some o from ho)
        have h2 := tget_one (show tget (tput [] 8 (some (rowO (frL m0 m1 m2 m3 m4 m5 n0 n1 n2 n3 n4 n5 kd (List.take len (List.drop off oc))) 5 true))) i' = some o' from ho')
        exact h1.1.trans h2.1.symm
      by_cases h46 : len < 46
      · refine pad_all E (46 - len) (frL m0 m1 m2 m3 m4 m5 n0 n1 n2 n3 n4 n5 kd (List.take len (List.drop off oc))) (14 + len) hXl hXb (by omega) ?_
        have hmx : max (14 + len) 60 = 60 := by omega
        rw [hmx]
        exact leads_end E 40 100 [([2, 2], .val (.bool false))] (p := [Value.bool (decide (((60 : Nat) : Int) < 60)) = .bool false]) (by kernel_rfl) (by kernel_rfl) ⟨congrArg Value.bool (decide_eq_false (by omega)), trivial⟩ (Fin.new (k := 8) (vs := [.slice (some ⟨8, 0, some 0⟩) 60 0, .int .i64 0]) (by kernel_rfl) (.inr ⟨by simp, rfl⟩) (by simp) (o1 := rowO ((frL m0 m1 m2 m3 m4 m5 n0 n1 n2 n3 n4 n5 kd (List.take len (List.drop off oc))) ++ List.replicate (46 - len) (.int .u8 0)) 5 true) ⟨3, rfl⟩ (by kernel_rfl) rfl (by exact renO_row rfl rfl hFr.noIds))
      · have hmx : max (14 + len) 60 = 14 + len := by omega
        have hrp : List.replicate (46 - len) (Value.int .u8 0) = [] := by rw [show 46 - len = 0 by omega]; rfl
        rw [hrp, List.append_nil] at hFr ⊢
        rw [hmx]
        exact leads_end E 40 100 [([2, 2], .val (.bool false))] (p := [Value.bool (decide (((14 + len : Nat) : Int) < 60)) = .bool false]) (by kernel_rfl) (by kernel_rfl) ⟨congrArg Value.bool (decide_eq_false (by omega)), trivial⟩ (Fin.new (k := 8) (vs := [.slice (some ⟨8, 0, some 0⟩) (14 + len) 0, .int .i64 0]) (by kernel_rfl) (.inr ⟨by simp, rfl⟩) (by simp) (o1 := rowO (frL m0 m1 m2 m3 m4 m5 n0 n1 n2 n3 n4 n5 kd (List.take len (List.drop off oc))) 5 true) ⟨3, rfl⟩ (by kernel_rfl) rfl (by exact renO_row rfl rfl hFr.noIds))
  · cases e
    obtain ⟨hq, hlen⟩ := hp
    have hd : decide ((len : Int) > 1500) = true := decide_eq_true (by omega)
    rcases winS_some hw hq with ⟨rfl, rfl, rfl⟩ | ⟨id, off, sp, c, oc, oe, oo, orr, om, ock, on, rfl, ho, a1, a5, a2, a3, a4⟩
    · omega
    · refine callOk_one (args0 := [.agg #[.int .u8 m0, .int .u8 m1, .int .u8 m2, .int .u8 m3, .int .u8 m4, .int .u8 m5, .int .u8 n0, .int .u8 n1, .int .u8 n2, .int .u8 n3, .int .u8 n4, .int .u8 n5, .int .u16 kd, .slice (some ⟨0, off, sp⟩) len c]]) b1 b2 b3 ⟨3, rfl⟩ ho rfl rfl a3 (Nat.le_refl n) (fun _ h => by cases h) (fun _ _ => rfl) ?_
      exact leads_end E 40 100000 [([4, 3], .val (.bool true))] (p := [Value.bool (decide ((len : Int) > 1500)) = .bool true]) (by kernel_rfl) (by kernel_rfl) ⟨congrArg Value.bool hd, trivial⟩ (Fin.val (vs := [.slice none 0 0, .int .i64 3]) (by kernel_rfl) (.inr ⟨by simp, rfl⟩) ⟨3, rfl⟩)
end Go.Proofs.YtdnbcgdpaoclkaaDoor.Ex
