/- What the reference's open builds. No conditions but those that each names. -/
-- bool_cases
import Derived.Test.YtpkojcelghinoaaOpnF2
import Derived.Test.YtpkojcelghinoaaOpnF1
set_option linter.unusedVariables false
set_option linter.unusedSimpArgs false
set_option maxRecDepth 100000
set_option maxHeartbeats 2000000
namespace Go.Proofs.Ytpkojcelghinoaa.Ex
open Go Go.RowKit
theorem oref_ok {ε : Nat → Option Value} {base : Base} (hε : ∀ i V, ε i = some V → one V = true) {RB : Int → Int → Int → Bool → Bool → Int → Bool → Bool → Bool} (h1 : EntOk Try.prog ε base 16 (rightW RB)) : EntOk Try.prog ε base 7 (obuildW RB capsL capsN) := by
  intro j args h n r p e hp
  unfold obuildW at e
  split at e
  case h_2 => cases e
  rename_i sy hold id multi four refresh graceful time restarts keeps
  have E : Env Try.prog ε base [(16, rightW RB)] := ⟨hε, noCount_of hN, hmix, specs1 h1 specs0, dets1 (right_det _) dets0⟩
  have b1 : Try.prog.funcs[7]? = some Try.f7 := by kernel_rfl
  have b2 : Try.f7.body = some (bodyOf 7) := by kernel_rfl
  have b3 : 1 ≤ Try.f7.ntmps := of_decide_eq_true (by kernel_rfl)
  have hkeep : ∀ (o : HO) (id : Nat), id ∉ [n] → tget (tput h n (some o)) id = tget h id := fun o id hid => by rw [tget_tput, if_neg (by simpa using hid)]
  rcases j with _ | _ | j
  · cases e
    cases multi with
    | true => exact orefA hε h1 _ _ _ _ _ _ _ _ _ hp
    | false => exact orefB hε h1 _ _ _ _ _ _ _ _ _ hp
  · cases e
    obtain ⟨hok, hho, hRB, hC⟩ := hp
    replace hRB : RB sy hold id four graceful time restarts keeps = true := hRB
    have hs := sysW_range hok.1.1
    obtain ⟨p1, p2, p3⟩ := ref_word hho
    obtain ⟨t1, t2, t3⟩ := ref_word (n := time) (by have := hok.2.2; omega)
    obtain ⟨u1, u2, u3⟩ := ref_word (n := time + 32768) (by have := hok.2.2; omega)
    replace u2 : IntKind.wrap IntKind.u8 (Int.tmod (time + 32768) 256) = time % 256 := by rw [u2]; omega
    obtain ⟨g1, g2, g3, g4⟩ := ref_four hok.2.1
    obtain ⟨s1, s2, s3, s4⟩ := ref_four hok.1
    have hO := opL_byt hs hho hok.2.1 (L := [.int .u8 0]) (.cons (by omega) (by omega) .nil)
    simp only [okC, not_or, Bool.not_eq_true] at hC
    obtain ⟨rfl, rfl, rfl, rfl⟩ := hC
    refine callOk_none (args0 := [.agg #[.int .u32 sy, .int .i64 hold, .int .u32 id, .bool false, .bool false, .bool false, .bool false, .int .i64 time, .bool restarts, .bool keeps]]) b1 b2 b3 ⟨2, rfl⟩ (Nat.le_succ n) (fun id hid => by simp at hid; subst hid; exact ⟨Nat.le_refl _, Nat.lt_succ_self _⟩) (hkeep _) ?_
    rcases bool_cases (decide (sy ≤ 65535)) with hb1 | hb1
    · exact leads_end E 40 100000 [([4, 2], Ch.val (Value.bool false)), ([33, 2], Ch.val (Value.bool false))] (p := [(Value.bool (decide (sy ≤ 65535)) : Value) = (Value.bool false), (Value.bool !RB sy hold id false false time restarts keeps : Value) = (Value.bool false), True]) (by kernel_rfl) (by kernel_rfl) ⟨(congrArg Value.bool hb1), (congrArg Value.bool (by first | assumption | (simp only [hRB, Bool.not_true]; done))), trivial, trivial⟩ (Fin.new (k := 12) (vs := [Value.slice (some { block := 12, off := 0, spot := some 0 }) 10 0, Value.int IntKind.i64 0]) (by kernel_rfl) (.inr ⟨by simp, rfl⟩) (by simp) (o1 := { kind := 0, cells := [Value.int IntKind.u8 4, Value.int IntKind.u8 91, Value.int IntKind.u8 160, Value.int IntKind.u8 (IntKind.wrap IntKind.u8 (Int.tmod (IntKind.wrap IntKind.i64 (Int.tdiv hold 256)) 256)), Value.int IntKind.u8 (IntKind.wrap IntKind.u8 (Int.tmod hold 256)), Value.int IntKind.u8 (IntKind.wrap IntKind.u8 (Int.tmod (IntKind.wrap IntKind.i64 (Int.tdiv (IntKind.wrap IntKind.i64 (IntKind.wrap IntKind.u32 (Int.tdiv id 65536))) 256)) 256)), Value.int IntKind.u8 (IntKind.wrap IntKind.u8 (Int.tmod (IntKind.wrap IntKind.i64 (IntKind.wrap IntKind.u32 (Int.tdiv id 65536))) 256)), Value.int IntKind.u8 (IntKind.wrap IntKind.u8 (Int.tmod (IntKind.wrap IntKind.i64 (Int.tdiv (IntKind.wrap IntKind.i64 (Int.tmod id 65536)) 256)) 256)), Value.int IntKind.u8 (IntKind.wrap IntKind.u8 (Int.tmod (IntKind.wrap IntKind.i64 (Int.tmod id 65536)) 256)), Value.int IntKind.u8 0], elem := 5, opn := true, ro := false, mkd := false, entries := [], clock := 0, nats := [] }) ⟨3, by rfl⟩ (by kernel_rfl) rfl (ren_capsO hO (by first | (have z := ref_sys hok.1.1 (by assumption); simp only [opL, capsL, capsN, z.1, z.2, p1, p2, p3, t1, t2, t3, g1, g2, g3, g4, u1, u2, u3, cond_true, cond_false, Int.add_zero]; rfl) | (rw [sys_high' (by assumption)]; simp only [opL, capsL, capsN, p1, p2, p3, t1, t2, t3, g1, g2, g3, g4, u1, u2, u3, cond_true, cond_false, Int.add_zero]; rfl))))
    · exact leads_end E 40 100000 [([4, 2], Ch.val (Value.bool false)), ([33, 2], Ch.val (Value.bool true))] (p := [(Value.bool (decide (sy ≤ 65535)) : Value) = (Value.bool true), (Value.bool !RB sy hold id false false time restarts keeps : Value) = (Value.bool false), True]) (by kernel_rfl) (by kernel_rfl) ⟨(congrArg Value.bool hb1), (congrArg Value.bool (by first | assumption | (simp only [hRB, Bool.not_true]; done))), trivial, trivial⟩ (Fin.new (k := 12) (vs := [Value.slice (some { block := 12, off := 0, spot := some 0 }) 10 0, Value.int IntKind.i64 0]) (by kernel_rfl) (.inr ⟨by simp, rfl⟩) (by simp) (o1 := { kind := 0, cells := [Value.int IntKind.u8 4, Value.int IntKind.u8 (IntKind.wrap IntKind.u8 (Int.tmod (IntKind.wrap IntKind.i64 (Int.tdiv (IntKind.wrap IntKind.i64 sy) 256)) 256)), Value.int IntKind.u8 (IntKind.wrap IntKind.u8 (Int.tmod (IntKind.wrap IntKind.i64 sy) 256)), Value.int IntKind.u8 (IntKind.wrap IntKind.u8 (Int.tmod (IntKind.wrap IntKind.i64 (Int.tdiv hold 256)) 256)), Value.int IntKind.u8 (IntKind.wrap IntKind.u8 (Int.tmod hold 256)), Value.int IntKind.u8 (IntKind.wrap IntKind.u8 (Int.tmod (IntKind.wrap IntKind.i64 (Int.tdiv (IntKind.wrap IntKind.i64 (IntKind.wrap IntKind.u32 (Int.tdiv id 65536))) 256)) 256)), Value.int IntKind.u8 (IntKind.wrap IntKind.u8 (Int.tmod (IntKind.wrap IntKind.i64 (IntKind.wrap IntKind.u32 (Int.tdiv id 65536))) 256)), Value.int IntKind.u8 (IntKind.wrap IntKind.u8 (Int.tmod (IntKind.wrap IntKind.i64 (Int.tdiv (IntKind.wrap IntKind.i64 (Int.tmod id 65536)) 256)) 256)), Value.int IntKind.u8 (IntKind.wrap IntKind.u8 (Int.tmod (IntKind.wrap IntKind.i64 (Int.tmod id 65536)) 256)), Value.int IntKind.u8 0], elem := 5, opn := true, ro := false, mkd := false, entries := [], clock := 0, nats := [] }) ⟨3, by rfl⟩ (by kernel_rfl) rfl (ren_capsO hO (by first | (have z := ref_sys hok.1.1 (by assumption); simp only [opL, capsL, capsN, z.1, z.2, p1, p2, p3, t1, t2, t3, g1, g2, g3, g4, u1, u2, u3, cond_true, cond_false, Int.add_zero]; rfl) | (rw [sys_high' (by assumption)]; simp only [opL, capsL, capsN, p1, p2, p3, t1, t2, t3, g1, g2, g3, g4, u1, u2, u3, cond_true, cond_false, Int.add_zero]; rfl))))
  · cases e
    have hRB : RB sy hold id four graceful time restarts keeps = false := by simpa [okRB] using hp
    refine callOk_none (args0 := [.agg #[.int .u32 sy, .int .i64 hold, .int .u32 id, .bool multi, .bool four, .bool refresh, .bool graceful, .int .i64 time, .bool restarts, .bool keeps]]) b1 b2 b3 ⟨2, rfl⟩ (Nat.le_refl n) (fun _ h => by cases h) (fun _ _ => rfl) ?_
    exact leads_end E 40 100000 [([4, 2], Ch.val (Value.bool true))] (p := [(Value.bool !RB sy hold id four graceful time restarts keeps : Value) = (Value.bool true), True]) (by kernel_rfl) (by kernel_rfl) ⟨(congrArg Value.bool (by first | assumption | (simp only [hRB, Bool.not_false]; done))), trivial, trivial⟩ (Fin.val (vs := [Value.slice none 0 0, Value.int IntKind.i64 2]) (by kernel_rfl) (.inr ⟨by simp, rfl⟩) ⟨3, rfl⟩)
end Go.Proofs.Ytpkojcelghinoaa.Ex
