/- Contracts of sums. No conditions but those that each names. -/
import Derived.Test.YtefnfbidphmgoaaDoorCon
import Derived.Test.YtefnfbidphmgoaaDoorSum
set_option linter.unusedVariables false
set_option linter.unusedSimpArgs false
set_option maxRecDepth 100000
namespace Go.Proofs.YtefnfbidphmgoaaDoor.Ex
open Go Go.RowKit

/-- A window's sum, folded: a number modulo 65535. -/
def sumL (L : List Value) : Int := Plain.canon (Plain.words (numsOf L))
theorem sumL_range (L : List Value) : 0 ≤ sumL L ∧ sumL L ≤ 65535 := Plain.canon_range _
noncomputable def sumAddV : Ent := fun _ args h n => match args with
  | [.int .u32 q, x] => match winS x h with
    | some (len, L, p) => some (⟨.int .u32 (Plain.canon (q + Plain.words (numsOf L))), h, n, []⟩, p ∧ Byt L ∧ len ≤ 100000 ∧ 0 ≤ q ∧ q < 4294967296)
    | none => none
  | _ => none
noncomputable def foldV : Ent := fun _ args h n => match args with
  | [.int .u32 q] => some (⟨.int .u16 (65535 - Plain.canon q), h, n, []⟩, 0 ≤ q ∧ q < 4294967296)
  | _ => none
noncomputable def ofV : Ent := fun _ args h n => match args with
  | [x] => match winS x h with
    | some (len, L, p) => some (⟨.int .u16 (65535 - sumL L), h, n, []⟩, p ∧ Byt L ∧ len ≤ 100000)
    | none => none
  | _ => none
section
variable {ε : Nat → Option Value} {base : Base}

theorem read_ok {f : Nat} {x : Value} {pre : List Value} {h : T HO} {n len : Nat} {L : List Value} {p : Prop} {k : IntKind} {q : Int} (hpre : pre.all selfish = true) (hw : winS x h = some (len, L, p)) (hp : p) (hB : Byt L)
    (hc : ∀ (w : World) (A : Option Addr) (c : Nat), Bytes w w.heap.size A (numsOf L) → Calls Tryd.prog f (pre ++ [Value.slice A (numsOf L).length c]).toArray w fun e w' => e = .returned (.int k q) ∧ w = w') : CallOk Tryd.prog ε base f (pre ++ [x]) h n ⟨.int k q, h, n, []⟩ := by
  intro ρ w ARGS ha hm hf hb
  have split : ∃ V, ARGS = pre ++ [V] ∧ Rl ρ ε x V := by
    clear hc hf
    induction pre generalizing ARGS with
    | nil =>
      cases ARGS with
      | nil => exact ha.elim
      | cons V r => cases r with
        | nil => exact ⟨V, rfl, ha.1⟩
        | cons _ _ => exact ha.2.elim
    | cons u pre ih =>
      cases ARGS with
      | nil => exact ha.elim
      | cons V r =>
        simp only [List.all_cons, Bool.and_eq_true] at hpre
        obtain ⟨V', rfl, hV⟩ := ih hpre.2 r ha.2
        have := (Rl_self hpre.1).1 ha.1
        subst this
        exact ⟨V', rfl, hV⟩
  obtain ⟨V, rfl, hV⟩ := split
  obtain ⟨A, c, rfl, hA⟩ := win_bytes hw hp hB hm hV
  refine (hc w A c ⟨hB.range, hA⟩).mono ?_
  rintro e w' ⟨rfl, rfl⟩
  exact ⟨_, rfl, ρ, Step.refl hm, Rl_int.2 rfl⟩
theorem sumAdd_of {f : Nat} (hc : ∀ (q : Int) (A : Option Addr) (zs : List Int) (c B : Nat) (w : World), Bytes w B A zs → zs.length ≤ 100000 → 0 ≤ q → q < 4294967296 → Calls Tryd.prog f #[.int .u32 q, .slice A zs.length c] w fun e w' => e = .returned (.int .u32 (Plain.canon (q + Plain.words zs))) ∧ w = w') : EntOk Tryd.prog ε base f sumAddV := by
  intro j args h n r p e hp
  unfold sumAddV at e
  split at e
  case h_2 => cases e
  rename_i q x
  split at e
  case h_2 => cases e
  rename_i len L p' hw
  cases e
  obtain ⟨h1, h2, h3, h4, h5⟩ := hp
  have hl : (numsOf L).length = len := by rw [numsOf_len, winS_len hw h1]
  exact read_ok (pre := [.int .u32 q]) rfl hw h1 h2 fun w A c hb => hc q A (numsOf L) c _ w hb (by omega) h4 h5
theorem of_of {f : Nat} (hc : ∀ (A : Option Addr) (zs : List Int) (c B : Nat) (w : World), Bytes w B A zs → zs.length ≤ 100000 → Calls Tryd.prog f #[.slice A zs.length c] w fun e w' => e = .returned (.int .u16 (65535 - Plain.canon (Plain.words zs))) ∧ w = w') : EntOk Tryd.prog ε base f ofV := by
  intro j args h n r p e hp
  unfold ofV at e
  split at e
  case h_2 => cases e
  rename_i x
  split at e
  case h_2 => cases e
  rename_i len L p' hw
  cases e
  obtain ⟨h1, h2, h3⟩ := hp
  have hl : (numsOf L).length = len := by rw [numsOf_len, winS_len hw h1]
  exact read_ok (pre := []) rfl hw h1 h2 fun w A c hb => hc A (numsOf L) c _ w hb (by omega)
theorem fold_of {f : Nat} (hc : ∀ (q : Int) (w : World), 0 ≤ q → q < 4294967296 → Calls Tryd.prog f #[.int .u32 q] w fun e w' => e = .returned (.int .u16 (65535 - Plain.canon q)) ∧ w = w') : EntOk Tryd.prog ε base f foldV := by
  intro j args h n r p e hp
  unfold foldV at e
  split at e
  case h_2 => cases e
  rename_i q
  cases e
  intro ρ w ARGS ha hm hf hb
  cases ARGS with
  | nil => exact ha.elim
  | cons V r =>
    cases r with
    | cons _ _ => exact ha.2.elim
    | nil =>
      have := Rl_int.1 ha.1
      subst this
      refine (hc q w hp.1 hp.2).mono ?_
      rintro e w' ⟨rfl, rfl⟩
      exact ⟨_, rfl, ρ, Step.refl hm, Rl_int.2 rfl⟩
theorem sumAdd_ok : EntOk Tryd.prog ε base 24 sumAddV := sumAdd_of fun q A zs c B w h h1 h2 h3 => sumAdd_any q A zs c B w h h1 h2 h3
theorem refAdd_ok : EntOk Tryd.prog ε base 30 sumAddV := sumAdd_of fun q A zs c B w h h1 h2 h3 => refAdd_any q A zs c B w h h1 h2 h3
theorem sumFold_ok : EntOk Tryd.prog ε base 23 foldV := fold_of fun q w h0 h1 => sumFold_any q w h0 h1
theorem refFold_ok : EntOk Tryd.prog ε base 29 foldV := fold_of fun q w h0 h1 => refFold_any q w h0 h1
theorem sumAdd_det : EntDet sumAddV := det_of fun _ _ _ _ _ => rfl
theorem fold_det : EntDet foldV := det_of fun _ _ _ _ _ => rfl
theorem of_det : EntDet ofV := det_of fun _ _ _ _ _ => rfl
end
end Go.Proofs.YtefnfbidphmgoaaDoor.Ex
