/- What eth builds. No conditions but those that each names. -/
import Derived.Test.YtdnbcgdpaoclkaaDoorEthBr
set_option linter.unusedVariables false
set_option linter.unusedSimpArgs false
set_option maxRecDepth 100000
set_option maxHeartbeats 2000000
namespace Go.Proofs.YtdnbcgdpaoclkaaDoor.Ex
open Go Go.RowKit
noncomputable def Ecode : EBl := ⟨fun _ => none, fun n => max (14 + n) 60, fun _ => false⟩
theorem kind_put {kd : Int} (h0 : 0 ≤ kd) (h1 : kd ≤ 65535) : (IntKind.wrap IntKind.u8 (Int.fdiv (IntKind.wrap IntKind.i64 kd) 256)) = kd / 256 ∧ (IntKind.wrap IntKind.u8 (IntKind.wrap IntKind.i64 kd)) = kd % 256 := by
  have e : IntKind.wrap IntKind.i64 kd = kd := by simp only [IntKind.wrap_i64]; omega
  have e2 : Int.fdiv kd 256 = kd / 256 := Int.fdiv_eq_ediv_of_nonneg kd (by omega)
  rw [e, e2]
  exact ⟨by simp only [IntKind.wrap_u8]; omega, by simp only [IntKind.wrap_u8]⟩
theorem set_nth {α : Type} : ∀ {L : List α} {k : Nat} {x : α}, k < L.length → setNth L k x = some (L.set k x)
  | [], _, _, h => absurd h (by simp)
  | y :: r, 0, x, _ => rfl
  | y :: r, k + 1, x, h => by rw [setNth_succ, set_nth (by simpa using h)]; rfl
theorem set_many_at {α : Type} : ∀ (D A Z : List α), D.length ≤ Z.length → setMany (A ++ Z) A.length D = some (A ++ D ++ Z.drop D.length)
  | [], A, Z, _ => by simp [setMany]
  | d :: D, A, [], h => by simp at h
  | d :: D, A, z :: Z, h => by
    have e : setNth (A ++ z :: Z) A.length d = some ((A ++ [d]) ++ Z) := by
      rw [set_nth (by simp)]
      simp
    simp only [setMany, e]
    have := set_many_at D (A ++ [d]) Z (by simpa using h)
    rw [List.length_append, List.length_singleton] at this
    rw [this]
    simp
theorem rep_one (z : Value) : ∀ n, rep [z] n = List.replicate n z
  | 0 => rfl
  | n + 1 => by rw [List.replicate_succ, ← rep_one z n]; rfl
theorem ren_fr {σ : Nat → Option Nat} {L : List Value} {t : TypeId} {ow : Bool} {o1 : HO} (hB : Byt L) (e : o1 = rowO L t ow) : renO σ o1 (rowO L t ow) := by
  rw [e]
  exact renO_row rfl rfl hB.noIds
theorem ebuild_ok {ε : Nat → Option Value} {base : Base} (hε : ∀ i V, ε i = some V → one V = true) : EntOk Tryd.prog ε base 9 (ebuildW Ecode) := by
  intro j args h n r p e hp
  unfold ebuildW at e
  split at e
  case h_2 => cases e
  rename_i m0 m1 m2 m3 m4 m5 n0 n1 n2 n3 n4 n5 kd x
  split at e
  case h_2 => cases e
  rename_i len L q hw
  have E : Env Tryd.prog ε base [] := env0 hε
  have b1 : Tryd.prog.funcs[9]? = some Tryd.f9 := by kernel_rfl
  have b2 : Tryd.f9.body = some (bodyOf 9) := by kernel_rfl
  have b3 : 1 ≤ Tryd.f9.ntmps := of_decide_eq_true (by kernel_rfl)
  have hkeep : ∀ (o : HO) (id : Nat), id ∉ [n] → tget (tput h n (some o)) id = tget h id := fun o id hid => by rw [tget_tput, if_neg (by simpa using hid)]
  rcases j with _ | j
  · cases e
    obtain ⟨hq, hB, hok, hlen⟩ := hp
    have hk := kind_put hok.2.2.1 hok.2.2.2
    have hL := winS_len hw hq
    have hFr : Byt (frL m0 m1 m2 m3 m4 m5 n0 n1 n2 n3 n4 n5 kd (L ++ List.replicate (46 - len) (.int .u8 0))) := frL_byt hok (hB.append fun v hv => ⟨0, List.eq_of_mem_replicate hv, by omega, by omega⟩)
    rcases winS_some hw hq with ⟨rfl, rfl, rfl⟩ | ⟨id, off, sp, c, oc, oe, oo, orr, om, ock, on, rfl, ho, a1, a5, a2, a3, a4⟩
    · refine callOk_none (args0 := [.agg #[.int .u8 m0, .int .u8 m1, .int .u8 m2, .int .u8 m3, .int .u8 m4, .int .u8 m5, .int .u8 n0, .int .u8 n1, .int .u8 n2, .int .u8 n3, .int .u8 n4, .int .u8 n5, .int .u16 kd, .slice none 0 0]]) b1 b2 b3 ⟨3, rfl⟩ (Nat.le_succ n) (fun id hid => by simp at hid; subst hid; exact ⟨Nat.le_refl _, Nat.lt_succ_self _⟩) (hkeep _) ?_
      exact leads_end E 40 100000 [] (p := []) (by kernel_rfl) (by kernel_rfl) trivial (Fin.new (k := 1) (vs := [Value.slice (some { block := 1, off := 0 }) 60 60, Value.int IntKind.i64 0]) (by kernel_rfl) (.inr ⟨by simp, rfl⟩) (by simp) (o1 := { kind := 0, cells := [Value.int IntKind.u8 m0, Value.int IntKind.u8 m1, Value.int IntKind.u8 m2, Value.int IntKind.u8 m3, Value.int IntKind.u8 m4, Value.int IntKind.u8 m5, Value.int IntKind.u8 n0, Value.int IntKind.u8 n1, Value.int IntKind.u8 n2, Value.int IntKind.u8 n3, Value.int IntKind.u8 n4, Value.int IntKind.u8 n5, Value.int IntKind.u8 (IntKind.wrap IntKind.u8 (Int.fdiv (IntKind.wrap IntKind.i64 kd) 256)), Value.int IntKind.u8 (IntKind.wrap IntKind.u8 (IntKind.wrap IntKind.i64 kd)), Value.int IntKind.u8 0, Value.int IntKind.u8 0, Value.int IntKind.u8 0, Value.int IntKind.u8 0, Value.int IntKind.u8 0, Value.int IntKind.u8 0, Value.int IntKind.u8 0, Value.int IntKind.u8 0, Value.int IntKind.u8 0, Value.int IntKind.u8 0, Value.int IntKind.u8 0, Value.int IntKind.u8 0, Value.int IntKind.u8 0, Value.int IntKind.u8 0, Value.int IntKind.u8 0, Value.int IntKind.u8 0, Value.int IntKind.u8 0, Value.int IntKind.u8 0, Value.int IntKind.u8 0, Value.int IntKind.u8 0, Value.int IntKind.u8 0, Value.int IntKind.u8 0, Value.int IntKind.u8 0, Value.int IntKind.u8 0, Value.int IntKind.u8 0, Value.int IntKind.u8 0, Value.int IntKind.u8 0, Value.int IntKind.u8 0, Value.int IntKind.u8 0, Value.int IntKind.u8 0, Value.int IntKind.u8 0, Value.int IntKind.u8 0, Value.int IntKind.u8 0, Value.int IntKind.u8 0, Value.int IntKind.u8 0, Value.int IntKind.u8 0, Value.int IntKind.u8 0, Value.int IntKind.u8 0, Value.int IntKind.u8 0, Value.int IntKind.u8 0, Value.int IntKind.u8 0, Value.int IntKind.u8 0, Value.int IntKind.u8 0, Value.int IntKind.u8 0, Value.int IntKind.u8 0, Value.int IntKind.u8 0], elem := 5, opn := false, ro := false, mkd := false, entries := [], clock := 0, nats := [] }) ⟨3, rfl⟩ (by kernel_rfl) rfl (ren_fr hFr (by rw [hk.1, hk.2]; rfl)))
    · by_cases hne : len = 0
      · subst hne
        obtain rfl : L = [] := List.eq_nil_of_length_eq_zero hL
        refine callOk_one (args0 := [.agg #[.int .u8 m0, .int .u8 m1, .int .u8 m2, .int .u8 m3, .int .u8 m4, .int .u8 m5, .int .u8 n0, .int .u8 n1, .int .u8 n2, .int .u8 n3, .int .u8 n4, .int .u8 n5, .int .u16 kd, .slice (some ⟨0, off, sp⟩) 0 c]]) b1 b2 b3 ⟨3, rfl⟩ ho rfl rfl a3 (Nat.le_succ n) (fun id hid => by simp at hid; subst hid; exact ⟨Nat.le_refl _, Nat.lt_succ_self _⟩) (hkeep _) ?_
        exact leads_end E 40 100000 [] (p := []) (by kernel_rfl) (by kernel_rfl) trivial (Fin.new (k := 2) (vs := [Value.slice (some { block := 2, off := 0 }) 60 60, Value.int IntKind.i64 0]) (by kernel_rfl) (.inr ⟨by simp, rfl⟩) (by simp) (o1 := { kind := 0, cells := [Value.int IntKind.u8 m0, Value.int IntKind.u8 m1, Value.int IntKind.u8 m2, Value.int IntKind.u8 m3, Value.int IntKind.u8 m4, Value.int IntKind.u8 m5, Value.int IntKind.u8 n0, Value.int IntKind.u8 n1, Value.int IntKind.u8 n2, Value.int IntKind.u8 n3, Value.int IntKind.u8 n4, Value.int IntKind.u8 n5, Value.int IntKind.u8 (IntKind.wrap IntKind.u8 (Int.fdiv (IntKind.wrap IntKind.i64 kd) 256)), Value.int IntKind.u8 (IntKind.wrap IntKind.u8 (IntKind.wrap IntKind.i64 kd)), Value.int IntKind.u8 0, Value.int IntKind.u8 0, Value.int IntKind.u8 0, Value.int IntKind.u8 0, Value.int IntKind.u8 0, Value.int IntKind.u8 0, Value.int IntKind.u8 0, Value.int IntKind.u8 0, Value.int IntKind.u8 0, Value.int IntKind.u8 0, Value.int IntKind.u8 0, Value.int IntKind.u8 0, Value.int IntKind.u8 0, Value.int IntKind.u8 0, Value.int IntKind.u8 0, Value.int IntKind.u8 0, Value.int IntKind.u8 0, Value.int IntKind.u8 0, Value.int IntKind.u8 0, Value.int IntKind.u8 0, Value.int IntKind.u8 0, Value.int IntKind.u8 0, Value.int IntKind.u8 0, Value.int IntKind.u8 0, Value.int IntKind.u8 0, Value.int IntKind.u8 0, Value.int IntKind.u8 0, Value.int IntKind.u8 0, Value.int IntKind.u8 0, Value.int IntKind.u8 0, Value.int IntKind.u8 0, Value.int IntKind.u8 0, Value.int IntKind.u8 0, Value.int IntKind.u8 0, Value.int IntKind.u8 0, Value.int IntKind.u8 0, Value.int IntKind.u8 0, Value.int IntKind.u8 0, Value.int IntKind.u8 0, Value.int IntKind.u8 0, Value.int IntKind.u8 0, Value.int IntKind.u8 0, Value.int IntKind.u8 0, Value.int IntKind.u8 0, Value.int IntKind.u8 0, Value.int IntKind.u8 0], elem := 5, opn := false, ro := false, mkd := false, entries := [], clock := 0, nats := [] }) ⟨3, rfl⟩ (by kernel_rfl) rfl (ren_fr hFr (by rw [hk.1, hk.2]; rfl)))
      · subst a4
        have hd : decide ((len : Int) > 1500) = false := decide_eq_false (by omega)
        obtain ⟨i, hi⟩ : ∃ i : Nat, max (14 + len) 60 = i + 60 := ⟨max (14 + len) 60 - 60, by omega⟩
        have hm : (if 60 > IntKind.wrap IntKind.i64 (14 + (↑len : Int)) then 60 else IntKind.wrap IntKind.i64 (14 + (↑len : Int)) : Int) = ((i + 60 : Nat) : Int) := by
          have e : IntKind.wrap IntKind.i64 (14 + (↑len : Int)) = 14 + (len : Int) := by simp only [IntKind.wrap_i64]; omega
          rw [e]; split <;> omega
        have hset : setMany (Value.int IntKind.u8 m0 :: Value.int IntKind.u8 m1 :: Value.int IntKind.u8 m2 :: Value.int IntKind.u8 m3 :: Value.int IntKind.u8 m4 :: Value.int IntKind.u8 m5 :: Value.int IntKind.u8 n0 :: Value.int IntKind.u8 n1 :: Value.int IntKind.u8 n2 :: Value.int IntKind.u8 n3 :: Value.int IntKind.u8 n4 :: Value.int IntKind.u8 n5 :: Value.int IntKind.u8 (IntKind.wrap IntKind.u8 (Int.fdiv (IntKind.wrap IntKind.i64 kd) 256)) :: Value.int IntKind.u8 (IntKind.wrap IntKind.u8 (IntKind.wrap IntKind.i64 kd)) :: rep (cellsOf (Value.int IntKind.u8 0)) (i + 46)) 14 (List.take (len * 1) (List.drop off oc)) = some (frL m0 m1 m2 m3 m4 m5 n0 n1 n2 n3 n4 n5 kd ((List.take len (List.drop off oc)) ++ List.replicate (46 - len) (.int .u8 0))) := by
          rw [hk.1, hk.2, Nat.mul_one, show cellsOf (Value.int IntKind.u8 0) = [Value.int IntKind.u8 0] from rfl, rep_one]
          have := set_many_at (List.take len (List.drop off oc)) (frL m0 m1 m2 m3 m4 m5 n0 n1 n2 n3 n4 n5 kd []) (List.replicate (i + 46) (.int .u8 0)) (by rw [hL, List.length_replicate]; omega)
          rw [hL, List.drop_replicate, show i + 46 - len = 46 - len by omega] at this
          exact this
        refine callOk_one (args0 := [.agg #[.int .u8 m0, .int .u8 m1, .int .u8 m2, .int .u8 m3, .int .u8 m4, .int .u8 m5, .int .u8 n0, .int .u8 n1, .int .u8 n2, .int .u8 n3, .int .u8 n4, .int .u8 n5, .int .u16 kd, .slice (some ⟨0, off, sp⟩) len c]]) b1 b2 b3 ⟨3, rfl⟩ ho rfl rfl a3 (Nat.le_succ n) (fun id hid => by simp at hid; subst hid; exact ⟨Nat.le_refl _, Nat.lt_succ_self _⟩) (hkeep _) ?_
        show Leads _ _ _ _ _ _ (Fin _ _ _ _ _ _ ⟨.tuple #[.slice (some ⟨n, 0, none⟩) (max (14 + len) 60) (max (14 + len) 60), .int .i64 0], _, _, _⟩)
        rw [hi]
        refine leads_end E 40 100000 [([8, 5], .ms (i + 60) (i + 60)), ([16, 4], .cp len (frL m0 m1 m2 m3 m4 m5 n0 n1 n2 n3 n4 n5 kd ((List.take len (List.drop off oc)) ++ List.replicate (46 - len) (.int .u8 0)))), ([4, 3], .val (.bool false)), ([12, 1], .sl 6 (i + 60) 6), ([14, 1], .sl 12 (i + 60) 12), ([16, 1], .sl 14 (i + 60) 14)]
          (p := [plainP none 14 ∧ plainP sp off ∧ len = min len (i + 60 - 14) ∧ len ≠ 0 ∧ off + len * 1 ≤ oc.length ∧ (List.take (len * 1) (List.drop off oc)).all one = true ∧ setMany (Value.int IntKind.u8 m0 :: Value.int IntKind.u8 m1 :: Value.int IntKind.u8 m2 :: Value.int IntKind.u8 m3 :: Value.int IntKind.u8 m4 :: Value.int IntKind.u8 m5 :: Value.int IntKind.u8 n0 :: Value.int IntKind.u8 n1 :: Value.int IntKind.u8 n2 :: Value.int IntKind.u8 n3 :: Value.int IntKind.u8 n4 :: Value.int IntKind.u8 n5 :: Value.int IntKind.u8 (IntKind.wrap IntKind.u8 (Int.fdiv (IntKind.wrap IntKind.i64 kd) 256)) :: Value.int IntKind.u8 (IntKind.wrap IntKind.u8 (IntKind.wrap IntKind.i64 kd)) :: rep (cellsOf (Value.int IntKind.u8 0)) (i + 46)) 14 (List.take (len * 1) (List.drop off oc)) = some (frL m0 m1 m2 m3 m4 m5 n0 n1 n2 n3 n4 n5 kd ((List.take len (List.drop off oc)) ++ List.replicate (46 - len) (.int .u8 0))),
            ((14 : Int) = 14 ∧ i + 60 = i + 60 ∧ 14 ≤ i + 60 ∧ i + 60 ≤ i + 60 ∧ (14 : Nat) = 14), ((12 : Int) = 12 ∧ i + 60 = i + 60 ∧ 12 ≤ i + 60 ∧ i + 60 ≤ i + 60 ∧ (12 : Nat) = 12), ((6 : Int) = 6 ∧ i + 60 = i + 60 ∧ 6 ≤ i + 60 ∧ i + 60 ≤ i + 60 ∧ (6 : Nat) = 6), ((if 60 > IntKind.wrap IntKind.i64 (14 + (↑len : Int)) then 60 else IntKind.wrap IntKind.i64 (14 + (↑len : Int)) : Int) = ((i + 60 : Nat) : Int)) ∧ ((if 60 > IntKind.wrap IntKind.i64 (14 + (↑len : Int)) then 60 else IntKind.wrap IntKind.i64 (14 + (↑len : Int)) : Int) = ((i + 60 : Nat) : Int)) ∧ (i + 60 ≤ i + 60) ∧ ((i + 60) * 1 ≤ 1000000) ∧ i + 60 ≤ 1000000, Value.bool (decide ((len : Int) > 1500)) = .bool false]) (by kernel_rfl) (by kernel_rfl)
          ⟨⟨trivial, a1, by omega, hne, by unfold fitP at a2; omega, by rw [Nat.mul_one]; exact hB.one, hset⟩, ⟨rfl, rfl, by omega, by omega, rfl⟩, ⟨rfl, rfl, by omega, by omega, rfl⟩, ⟨rfl, rfl, by omega, by omega, rfl⟩, ⟨hm, hm, by omega, by omega, by omega⟩, congrArg Value.bool hd, trivial⟩
          (Fin.new (k := 2) (vs := [.slice (some ⟨2, 0, none⟩) (i + 60) (i + 60), .int .i64 0]) (by kernel_rfl) (.inr ⟨by simp, rfl⟩) (by simp) (o1 := rowO (frL m0 m1 m2 m3 m4 m5 n0 n1 n2 n3 n4 n5 kd ((List.take len (List.drop off oc)) ++ List.replicate (46 - len) (.int .u8 0))) 5 false) ⟨3, rfl⟩ (by kernel_rfl) rfl (ren_fr hFr rfl))
  · cases e
    obtain ⟨hq, hlen⟩ := hp
    have hd : decide ((len : Int) > 1500) = true := decide_eq_true (by omega)
    rcases winS_some hw hq with ⟨rfl, rfl, rfl⟩ | ⟨id, off, sp, c, oc, oe, oo, orr, om, ock, on, rfl, ho, a1, a5, a2, a3, a4⟩
    · omega
    · refine callOk_one (args0 := [.agg #[.int .u8 m0, .int .u8 m1, .int .u8 m2, .int .u8 m3, .int .u8 m4, .int .u8 m5, .int .u8 n0, .int .u8 n1, .int .u8 n2, .int .u8 n3, .int .u8 n4, .int .u8 n5, .int .u16 kd, .slice (some ⟨0, off, sp⟩) len c]]) b1 b2 b3 ⟨3, rfl⟩ ho rfl rfl a3 (Nat.le_refl n) (fun _ h => by cases h) (fun _ _ => rfl) ?_
      exact leads_end E 40 100000 [([4, 3], .val (.bool true))] (p := [Value.bool (decide ((len : Int) > 1500)) = .bool true]) (by kernel_rfl) (by kernel_rfl) ⟨congrArg Value.bool hd, trivial⟩ (Fin.val (vs := [.slice none 0 0, .int .i64 3]) (by kernel_rfl) (.inr ⟨by simp, rfl⟩) ⟨3, rfl⟩)
end Go.Proofs.YtdnbcgdpaoclkaaDoor.Ex
