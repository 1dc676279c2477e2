/- A reckoner for runs of fixed texts, third part: what its values and objects stand for, and what a step keeps. No conditions. -/
import Derived.Test.YtefnfbidphmgoaaDoorExB
set_option linter.unusedVariables false
set_option linter.unusedSimpArgs false
namespace Go.Proofs.YtefnfbidphmgoaaDoor.Ex
open Go Go.RowKit

/-! ### Tables -/

theorem lget_nil {α : Type} (k : Nat) : lget ([] : List α) k = none := rfl
theorem lget_zero {α : Type} (x : α) (r : List α) : lget (x :: r) 0 = some x := rfl
theorem lget_succ {α : Type} (x : α) (r : List α) (n : Nat) : lget (x :: r) (n + 1) = lget r n := rfl
theorem lput_zero_nil {α : Type} (e x : α) : lput e 0 [] x = [x] := rfl
theorem lput_zero_cons {α : Type} (e y x : α) (r : List α) : lput e 0 (y :: r) x = x :: r := rfl
theorem lput_succ_nil {α : Type} (e x : α) (n : Nat) : lput e (n + 1) [] x = e :: lput e n [] x := rfl
theorem lput_succ_cons {α : Type} (e y x : α) (r : List α) (n : Nat) : lput e (n + 1) (y :: r) x = y :: lput e n r x := rfl
theorem optL_nil {α β : Type} (f : α → Option β) : optL f [] = some [] := rfl
theorem optL_cons {α β : Type} (f : α → Option β) (a : α) (r : List α) : optL f (a :: r) = match f a with
      | none => none
      | some b => match optL f r with
        | none => none
        | some l => some (b :: l) := by
  show Option.rec (motive := fun _ => Option (List β)) none (fun b => Option.rec (motive := fun _ => Option (List β)) none (fun l => some (b :: l)) (optL f r)) (f a) = _
  cases f a with
  | none => rfl
  | some b => cases optL f r <;> rfl
theorem setNth_nil {α : Type} (n : Nat) (x : α) : setNth [] n x = none := rfl
theorem setNth_zero {α : Type} (y x : α) (r : List α) : setNth (y :: r) 0 x = some (x :: r) := rfl
theorem setNth_succ {α : Type} (y x : α) (r : List α) (n : Nat) : setNth (y :: r) (n + 1) x = match setNth r n x with
      | none => none
      | some l => some (y :: l) := by
  show Option.rec (motive := fun _ => Option (List α)) none (fun l => some (y :: l)) (setNth r n x) = _
  cases setNth r n x <;> rfl
theorem takeN_zero {α : Type} (l : List α) : takeN 0 l = some [] := rfl
theorem takeN_nil {α : Type} (n : Nat) : takeN (n + 1) ([] : List α) = none := rfl
theorem takeN_cons {α : Type} (n : Nat) (x : α) (r : List α) : takeN (n + 1) (x :: r) = match takeN n r with
      | none => none
      | some l => some (x :: l) := by
  show Option.rec (motive := fun _ => Option (List α)) none (fun l => some (x :: l)) (takeN n r) = _
  cases takeN n r <;> rfl
theorem lget_lput {α : Type} (e x : α) : ∀ (k k' : Nat) (l : List α), (lget (lput e k l x) k').getD e = if k' = k then x else (lget l k').getD e
  | 0, 0, [] => by simp [lput_zero_nil, lget_zero]
  | 0, 0, _ :: _ => by simp [lput_zero_cons, lget_zero]
  | 0, k' + 1, [] => by simp [lput_zero_nil, lget_succ, lget_nil]
  | 0, k' + 1, _ :: r => by simp [lput_zero_cons, lget_succ]
  | n + 1, 0, [] => by simp [lput_succ_nil, lget_zero, lget_nil]
  | n + 1, 0, _ :: _ => by simp [lput_succ_cons, lget_zero]
  | n + 1, k' + 1, [] => by
    have := lget_lput e x n k' []
    simpa [lput_succ_nil, lget_succ, lget_nil] using this
  | n + 1, k' + 1, _ :: r => by
    have := lget_lput e x n k' r
    simpa [lput_succ_cons, lget_succ] using this
theorem tget_eq {α : Type} (t : T α) (k : Nat) : tget t k = (lget ((lget ((lget t (Nat.div k 256)).getD []) (Nat.mod (Nat.div k 16) 16)).getD []) (Nat.mod k 16)).getD none := rfl
theorem tget_tput {α : Type} (t : T α) (k k' : Nat) (x : Option α) : tget (tput t k x) k' = if k' = k then x else tget t k' := by
  rw [tget_eq, tget_eq]
  simp only [tput, lget_lput]
  by_cases h : k' = k
  · subst h; simp [lget_lput]
  · rw [if_neg h]
    by_cases h1 : Nat.div k' 256 = Nat.div k 256
    · rw [if_pos h1, lget_lput]
      by_cases h2 : Nat.mod (Nat.div k' 16) 16 = Nat.mod (Nat.div k 16) 16
      · have h3 : ¬ Nat.mod k' 16 = Nat.mod k 16 := by
          change k' / 256 = k / 256 at h1
          change k' / 16 % 16 = k / 16 % 16 at h2
          change ¬ k' % 16 = k % 16
          omega
        rw [if_pos h2, lget_lput, if_neg h3, h1, h2]
      · rw [if_neg h2, h1]
    · rw [if_neg h1]
theorem lget_eq {α : Type} : ∀ (l : List α) (n : Nat), lget l n = l[n]?
  | [], _ => by simp [lget_nil]
  | _ :: _, 0 => by simp [lget_zero]
  | _ :: r, n + 1 => by simp [lget_succ, lget_eq r n]
theorem tget_nil {α : Type} (k : Nat) : tget ([] : T α) k = none := by simp [tget, lget_nil]

/-! ### What a value stands for -/

abbrev Rho := Nat → Option (Nat × Nat)
noncomputable def conc (ρ : Rho) (ε : Nat → Option Value) : Nat → Value → Option Value
  | 0, _ => none
  | d + 1, v => match v with
    | .pointer (some ⟨id, off, sp⟩) => match sp, ρ id with
      | none, some b => some (.pointer (some ⟨b.1, off, none⟩))
      | _, _ => none
    | .slice (some ⟨id, off, sp⟩) len c => match ρ id with
      | some b => match sp with
        | none => some (.slice (some ⟨b.1, off, none⟩) len c)
        | some alt => if len + c ≤ b.2 then some (.slice (some ⟨b.1, if b.2 = c then alt else off, none⟩) len (b.2 - c)) else none
      | none => none
    | .map (some id) => match ρ id with
      | some b => some (.map (some b.1))
      | none => none
    | .chan (some i) => ε i
    | .iface t v => (conc ρ ε d v).map (.iface t)
    | .agg cs => (optL (conc ρ ε d) cs.toList).map fun l => .agg l.toArray
    | .tuple cs => (optL (conc ρ ε d) cs.toList).map fun l => .tuple l.toArray
    | .func fn a b => match optL (conc ρ ε d) a.toList, optL (conc ρ ε d) b.toList with
      | some x, some y => some (.func fn x.toArray y.toArray)
      | _, _ => none
    | v => some v
def Rl (ρ : Rho) (ε : Nat → Option Value) (v V : Value) : Prop := ∃ d, conc ρ ε d v = some V
noncomputable def RlL (ρ : Rho) (ε : Nat → Option Value) : List Value → List Value → Prop
  | [], [] => True
  | v :: l, V :: L => Rl ρ ε v V ∧ RlL ρ ε l L
  | _, _ => False
def Sub (ρ ρ' : Rho) : Prop := ∀ id b, ρ id = some b → ρ' id = some b

section
variable {ρ ρ' : Rho} {ε : Nat → Option Value}

theorem optL_mono {α β : Type} {f g : α → Option β} (h : ∀ a b, f a = some b → g a = some b) : ∀ (l : List α) (L : List β), optL f l = some L → optL g l = some L
  | [], _, h' => by simpa [optL_nil, optL_cons] using h'
  | a :: r, L, h' => by
    simp only [optL_nil, optL_cons] at h' ⊢
    cases hf : f a with
    | none => simp [hf] at h'
    | some b =>
      simp only [hf] at h'
      cases hr : optL f r with
      | none => simp [hr] at h'
      | some l => simp only [hr] at h'; simp only [h a b hf, optL_mono h r l hr]; exact h'
theorem conc_iface (d : Nat) (t : TypeId) (v : Value) : conc ρ ε (d + 1) (.iface t v) = (conc ρ ε d v).map (.iface t) := rfl
theorem conc_agg (d : Nat) (cs : Array Value) : conc ρ ε (d + 1) (.agg cs) = (optL (conc ρ ε d) cs.toList).map fun l => .agg l.toArray := rfl
theorem conc_tuple (d : Nat) (cs : Array Value) : conc ρ ε (d + 1) (.tuple cs) = (optL (conc ρ ε d) cs.toList).map fun l => .tuple l.toArray := rfl
theorem conc_func (d : Nat) (fn : Fn) (a b : Array Value) : conc ρ ε (d + 1) (.func fn a b) = match optL (conc ρ ε d) a.toList, optL (conc ρ ε d) b.toList with
      | some x, some y => some (.func fn x.toArray y.toArray)
      | _, _ => none := rfl
theorem conc_step (hs : Sub ρ ρ') : ∀ (d : Nat) (v V : Value), conc ρ ε d v = some V → conc ρ' ε (d + 1) v = some V ∧ conc ρ' ε d v = some V
  | 0, _, _, h => by simp [conc] at h
  | d + 1, v, V, h => by
    have ih := conc_step hs d
    have hL1 : ∀ l L, optL (conc ρ ε d) l = some L → optL (conc ρ' ε (d + 1)) l = some L := fun l L => optL_mono (fun a b hab => (ih a b hab).1) l L
    have hL2 : ∀ l L, optL (conc ρ ε d) l = some L → optL (conc ρ' ε d) l = some L := fun l L => optL_mono (fun a b hab => (ih a b hab).2) l L
    cases v with
    | pointer a =>
      cases a with
      | none => simp only [conc] at h ⊢; exact ⟨h, h⟩
      | some a =>
        obtain ⟨id, off, sp⟩ := a
        simp only [conc] at h ⊢
        cases sp <;> cases hr : ρ id <;> simp [hr] at h
        rename_i b
        simp [hs id b hr, h]
    | slice a len c =>
      cases a with
      | none => simp only [conc] at h ⊢; exact ⟨h, h⟩
      | some a =>
        obtain ⟨id, off, sp⟩ := a
        simp only [conc] at h ⊢
        cases hr : ρ id with
        | none => simp [hr] at h
        | some b => simp only [hr] at h; simp only [hs id b hr]; exact ⟨h, h⟩
    | map a =>
      cases a with
      | none => simp only [conc] at h ⊢; exact ⟨h, h⟩
      | some id =>
        simp only [conc] at h ⊢
        cases hr : ρ id with
        | none => simp [hr] at h
        | some b => simp only [hr] at h; simp only [hs id b hr]; exact ⟨h, h⟩
    | chan a => cases a <;> (simp only [conc] at h ⊢; exact ⟨h, h⟩)
    | iface t v =>
      rw [conc_iface] at h ⊢
      rw [conc_iface]
      cases hv : conc ρ ε d v with
      | none => simp [hv] at h
      | some x => rw [hv] at h; rw [(ih v x hv).1, (ih v x hv).2]; exact ⟨h, h⟩
    | agg cs =>
      rw [conc_agg] at h ⊢
      rw [conc_agg]
      cases hv : optL (conc ρ ε d) cs.toList with
      | none => simp [hv] at h
      | some x => rw [hv] at h; rw [hL1 _ _ hv, hL2 _ _ hv]; exact ⟨h, h⟩
    | tuple cs =>
      rw [conc_tuple] at h ⊢
      rw [conc_tuple]
      cases hv : optL (conc ρ ε d) cs.toList with
      | none => simp [hv] at h
      | some x => rw [hv] at h; rw [hL1 _ _ hv, hL2 _ _ hv]; exact ⟨h, h⟩
    | func fn a b =>
      rw [conc_func] at h ⊢
      rw [conc_func]
      cases hv : optL (conc ρ ε d) a.toList with
      | none => simp [hv] at h
      | some x =>
        cases hw : optL (conc ρ ε d) b.toList with
        | none => simp [hv, hw] at h
        | some y => rw [hv, hw] at h; rw [hL1 _ _ hv, hL2 _ _ hv, hL1 _ _ hw, hL2 _ _ hw]; exact ⟨h, h⟩
    | _ => simp only [conc] at h ⊢; exact ⟨h, h⟩
theorem sub_refl (ρ : Rho) : Sub ρ ρ := fun _ _ h => h
theorem Sub.trans {ρ₁ ρ₂ ρ₃ : Rho} (h : Sub ρ₁ ρ₂) (k : Sub ρ₂ ρ₃) : Sub ρ₁ ρ₃ := fun id b e => k id b (h id b e)
theorem conc_le {d d' : Nat} (h : d ≤ d') (v V : Value) (hv : conc ρ ε d v = some V) : conc ρ ε d' v = some V := by
  induction h with
  | refl => exact hv
  | step _ ih => exact (conc_step (sub_refl ρ) _ v V ih).1
theorem Rl.sub (hs : Sub ρ ρ') {v V : Value} (h : Rl ρ ε v V) : Rl ρ' ε v V := let ⟨d, hd⟩ := h; ⟨d, (conc_step hs d v V hd).2⟩
theorem RlL.sub (hs : Sub ρ ρ') : ∀ {l L : List Value}, RlL ρ ε l L → RlL ρ' ε l L
  | [], [], _ => trivial
  | _ :: _, _ :: _, h => ⟨h.1.sub hs, RlL.sub hs h.2⟩
  | [], _ :: _, h => h.elim
  | _ :: _, [], h => h.elim
theorem Rl.det {v V W : Value} (h : Rl ρ ε v V) (k : Rl ρ ε v W) : V = W := by
  obtain ⟨d, hd⟩ := h
  obtain ⟨e, he⟩ := k
  have h1 := conc_le (Nat.le_max_left d e) v V hd
  have h2 := conc_le (Nat.le_max_right d e) v W he
  rw [h1] at h2
  exact Option.some.inj h2
theorem RlL_of_optL {d : Nat} : ∀ {l L : List Value}, optL (conc ρ ε d) l = some L → RlL ρ ε l L
  | [], L, h => by simp [optL_nil, optL_cons] at h; subst h; trivial
  | v :: r, L, h => by
    simp only [optL_nil, optL_cons] at h
    cases hv : conc ρ ε d v with
    | none => simp [hv] at h
    | some x =>
      cases hr : optL (conc ρ ε d) r with
      | none => simp [hv, hr] at h
      | some y => simp only [hv, hr, Option.some.injEq] at h; subst h; exact ⟨⟨d, hv⟩, RlL_of_optL hr⟩
theorem optL_of_RlL : ∀ {l L : List Value}, RlL ρ ε l L → ∃ d, optL (conc ρ ε d) l = some L
  | [], [], _ => ⟨0, rfl⟩
  | v :: r, V :: R, h => by
    obtain ⟨⟨d, hd⟩, hr⟩ := h
    obtain ⟨e, he⟩ := optL_of_RlL hr
    refine ⟨max d e, ?_⟩
    simp only [optL_nil, optL_cons, conc_le (Nat.le_max_left d e) v V hd, optL_mono (fun a b => conc_le (Nat.le_max_right d e) a b) r R he]
  | [], _ :: _, h => h.elim
  | _ :: _, [], h => h.elim

/-! #### By the value's form -/

theorem Rl_ptr {id off : Nat} {V : Value} : Rl ρ ε (.pointer (some ⟨id, off, none⟩)) V ↔ ∃ b, ρ id = some b ∧ V = .pointer (some ⟨b.1, off, none⟩) := by
  constructor
  · rintro ⟨d, h⟩
    cases d with
    | zero => simp [conc] at h
    | succ d => simp only [conc] at h; cases hr : ρ id <;> simp [hr] at h; exact ⟨_, rfl, h.symm⟩
  · rintro ⟨b, hb, rfl⟩; exact ⟨1, by simp [conc, hb]⟩
theorem Rl_ptr_any {a : Addr} {V : Value} (h : Rl ρ ε (.pointer (some a)) V) : ∃ b, ρ a.block = some b ∧ a.spot = none ∧ V = .pointer (some ⟨b.1, a.off, none⟩) := by
  obtain ⟨id, off, sp⟩ := a
  obtain ⟨d, h⟩ := h
  cases d with
  | zero => simp [conc] at h
  | succ d =>
    simp only [conc] at h
    cases sp <;> cases hr : ρ id <;> simp [hr] at h
    exact ⟨_, rfl, rfl, h.symm⟩
theorem Rl_slice {id off len c : Nat} {V : Value} : Rl ρ ε (.slice (some ⟨id, off, none⟩) len c) V ↔ ∃ b, ρ id = some b ∧ V = .slice (some ⟨b.1, off, none⟩) len c := by
  constructor
  · rintro ⟨d, h⟩
    cases d with
    | zero => simp [conc] at h
    | succ d => simp only [conc] at h; cases hr : ρ id <;> simp [hr] at h; exact ⟨_, rfl, h.symm⟩
  · rintro ⟨b, hb, rfl⟩; exact ⟨1, by simp [conc, hb]⟩
theorem Rl_sliceO {id off alt len c : Nat} {V : Value} : Rl ρ ε (.slice (some ⟨id, off, some alt⟩) len c) V ↔ ∃ b, ρ id = some b ∧ V = .slice (some ⟨b.1, if b.2 = c then alt else off, none⟩) len (b.2 - c) ∧ len + c ≤ b.2 := by
  constructor
  · rintro ⟨d, h⟩
    cases d with
    | zero => simp [conc] at h
    | succ d => simp only [conc] at h; cases hr : ρ id <;> simp [hr] at h; exact ⟨_, rfl, h.2.symm, h.1⟩
  · rintro ⟨b, hb, rfl, hle⟩; exact ⟨1, by simp [conc, hb, hle]⟩
theorem Rl_map {id : Nat} {V : Value} : Rl ρ ε (.map (some id)) V ↔ ∃ b, ρ id = some b ∧ V = .map (some b.1) := by
  constructor
  · rintro ⟨d, h⟩
    cases d with
    | zero => simp [conc] at h
    | succ d => simp only [conc] at h; cases hr : ρ id <;> simp [hr] at h; exact ⟨_, rfl, h.symm⟩
  · rintro ⟨b, hb, rfl⟩; exact ⟨1, by simp [conc, hb]⟩
theorem Rl_agg {cs : Array Value} {V : Value} : Rl ρ ε (.agg cs) V ↔ ∃ L, V = .agg L.toArray ∧ RlL ρ ε cs.toList L := by
  constructor
  · rintro ⟨d, h⟩
    cases d with
    | zero => simp [conc] at h
    | succ d => simp only [conc] at h; cases hr : optL (conc ρ ε d) cs.toList <;> simp [hr] at h; exact ⟨_, h.symm, RlL_of_optL hr⟩
  · rintro ⟨L, rfl, hL⟩
    obtain ⟨d, hd⟩ := optL_of_RlL hL
    exact ⟨d + 1, by simp [conc, hd]⟩
theorem Rl_tuple {cs : Array Value} {V : Value} : Rl ρ ε (.tuple cs) V ↔ ∃ L, V = .tuple L.toArray ∧ RlL ρ ε cs.toList L := by
  constructor
  · rintro ⟨d, h⟩
    cases d with
    | zero => simp [conc] at h
    | succ d => simp only [conc] at h; cases hr : optL (conc ρ ε d) cs.toList <;> simp [hr] at h; exact ⟨_, h.symm, RlL_of_optL hr⟩
  · rintro ⟨L, rfl, hL⟩
    obtain ⟨d, hd⟩ := optL_of_RlL hL
    exact ⟨d + 1, by simp [conc, hd]⟩
theorem Rl_iface {t : TypeId} {v V : Value} : Rl ρ ε (.iface t v) V ↔ ∃ U, V = .iface t U ∧ Rl ρ ε v U := by
  constructor
  · rintro ⟨d, h⟩
    cases d with
    | zero => simp [conc] at h
    | succ d => simp only [conc] at h; cases hr : conc ρ ε d v <;> simp [hr] at h; exact ⟨_, h.symm, ⟨d, hr⟩⟩
  · rintro ⟨U, rfl, ⟨d, hd⟩⟩
    exact ⟨d + 1, by simp [conc, hd]⟩
theorem Rl_func {fn : Fn} {a b : Array Value} {V : Value} : Rl ρ ε (.func fn a b) V ↔ ∃ A B, V = .func fn A.toArray B.toArray ∧ RlL ρ ε a.toList A ∧ RlL ρ ε b.toList B := by
  constructor
  · rintro ⟨d, h⟩
    cases d with
    | zero => simp [conc] at h
    | succ d =>
      simp only [conc] at h
      cases hr : optL (conc ρ ε d) a.toList <;> cases hs : optL (conc ρ ε d) b.toList <;> simp [hr, hs] at h
      exact ⟨_, _, h.symm, RlL_of_optL hr, RlL_of_optL hs⟩
  · rintro ⟨A, B, rfl, hA, hB⟩
    obtain ⟨d, hd⟩ := optL_of_RlL hA
    obtain ⟨e, he⟩ := optL_of_RlL hB
    refine ⟨max d e + 1, ?_⟩
    simp only [conc, optL_mono (fun a b => conc_le (Nat.le_max_left d e) a b) _ _ hd, optL_mono (fun a b => conc_le (Nat.le_max_right d e) a b) _ _ he]
/-- Values that stand for themselves. -/
noncomputable def selfish : Value → Bool
  | .bool _ | .int _ _ | .float _ _ | .complex _ _ _ | .string _ | .pointer none | .slice none _ _ | .map none | .chan none | .nilFunc | .nilIface => true
  | _ => false
theorem Rl_self {v V : Value} (hv : selfish v = true) : Rl ρ ε v V ↔ V = v := by
  constructor
  · rintro ⟨d, h⟩
    cases d with
    | zero => simp [conc] at h
    | succ d =>
      cases v with
      | pointer a => cases a <;> simp [selfish] at hv; simpa [conc, eq_comm] using h
      | slice a _ _ => cases a <;> simp [selfish] at hv; simpa [conc, eq_comm] using h
      | map a => cases a <;> simp [selfish] at hv; simpa [conc, eq_comm] using h
      | chan a => cases a <;> simp [selfish] at hv; simpa [conc, eq_comm] using h
      | _ => first | (simp [selfish] at hv; done) | (simpa [conc, eq_comm] using h)
  · rintro rfl
    refine ⟨1, ?_⟩
    cases V with
    | pointer a => cases a <;> simp [selfish] at hv; simp [conc]
    | slice a _ _ => cases a <;> simp [selfish] at hv; simp [conc]
    | map a => cases a <;> simp [selfish] at hv; simp [conc]
    | chan a => cases a <;> simp [selfish] at hv; simp [conc]
    | _ => first | (simp [selfish] at hv; done) | simp [conc]
theorem Rl_int {k : IntKind} {n : Int} {V : Value} : Rl ρ ε (.int k n) V ↔ V = .int k n := Rl_self rfl
theorem Rl_bool {b : Bool} {V : Value} : Rl ρ ε (.bool b) V ↔ V = .bool b := Rl_self rfl
theorem Rl_string {b : ByteArray} {V : Value} : Rl ρ ε (.string b) V ↔ V = .string b := Rl_self rfl
theorem optL_self {f : Value → Option Value} : ∀ (l : List Value), (∀ v ∈ l, f v = some v) → optL f l = some l
  | [], _ => rfl
  | v :: r, h => by simp only [optL_nil, optL_cons, h v (by simp), optL_self r (fun u hu => h u (by simp [hu]))]
/-- What is closed stands for itself. -/
theorem conc_closed : ∀ (d : Nat) (v : Value), closed d v = true → conc ρ ε d v = some v
  | 0, _, h => by simp [closed] at h
  | d + 1, v, h => by
    have ih := conc_closed d
    have hl : ∀ l : List Value, l.all (closed d) = true → optL (conc ρ ε d) l = some l := fun l hl => optL_self l fun v hv => ih v (List.all_eq_true.1 hl v hv)
    cases v with
    | pointer a => cases a <;> simp [closed] at h; simp [conc]
    | slice a _ _ => cases a <;> simp [closed] at h; simp [conc]
    | map a => cases a <;> simp [closed] at h; simp [conc]
    | chan a => cases a <;> simp [closed] at h; simp [conc]
    | iface t v => simp only [closed] at h; simp [conc, ih v h]
    | agg cs => simp only [closed] at h; simp [conc, hl _ h]
    | tuple cs => simp only [closed] at h; simp [conc, hl _ h]
    | func fn a b => simp only [closed, Bool.and_eq_true] at h; simp [conc, hl _ h.1, hl _ h.2]
    | _ => simp [conc]
theorem Rl_closed {d : Nat} {v : Value} (h : closed d v = true) : Rl ρ ε v v := ⟨d, conc_closed d v h⟩

/-! #### Lists -/

theorem RlL.length : ∀ {l L : List Value}, RlL ρ ε l L → L.length = l.length
  | [], [], _ => rfl
  | _ :: _, _ :: _, h => by simp [RlL.length h.2]
  | [], _ :: _, h => h.elim
  | _ :: _, [], h => h.elim
theorem RlL.get : ∀ {l L : List Value}, RlL ρ ε l L → ∀ (i : Nat) (v : Value), l[i]? = some v → ∃ V, L[i]? = some V ∧ Rl ρ ε v V
  | [], [], _, i, v, h => by simp at h
  | a :: r, A :: R, h, 0, v, e => by simp at e; subst e; exact ⟨A, rfl, h.1⟩
  | a :: r, A :: R, h, i + 1, v, e => by simp at e; simpa using h.2.get i v e
  | [], _ :: _, h, _, _, _ => h.elim
  | _ :: _, [], h, _, _, _ => h.elim
theorem RlL.append : ∀ {l L m M : List Value}, RlL ρ ε l L → RlL ρ ε m M → RlL ρ ε (l ++ m) (L ++ M)
  | [], [], _, _, _, k => k
  | _ :: _, _ :: _, _, _, h, k => ⟨h.1, h.2.append k⟩
  | [], _ :: _, _, _, h, _ => h.elim
  | _ :: _, [], _, _, h, _ => h.elim
theorem RlL.drop : ∀ {l L : List Value} (n : Nat), RlL ρ ε l L → RlL ρ ε (l.drop n) (L.drop n)
  | _, _, 0, h => by simpa using h
  | [], [], _ + 1, _ => trivial
  | _ :: _, _ :: _, n + 1, h => by simpa using RlL.drop n h.2
  | [], _ :: _, _ + 1, h => h.elim
  | _ :: _, [], _ + 1, h => h.elim
theorem takeN_eq {α : Type} : ∀ (n : Nat) (l m : List α), takeN n l = some m → m = l.take n ∧ n ≤ l.length
  | 0, l, m, h => by simp [takeN_zero, takeN_nil, takeN_cons] at h; simp [h]
  | n + 1, [], m, h => by simp [takeN_zero, takeN_nil, takeN_cons] at h
  | n + 1, x :: r, m, h => by
    simp only [takeN_zero, takeN_nil, takeN_cons] at h
    cases hr : takeN n r with
    | none => simp [hr] at h
    | some k => simp only [hr, Option.some.injEq] at h; subst h; have := takeN_eq n r k hr; simp [this.1]; exact this.2
theorem RlL.take : ∀ {l L : List Value} (n : Nat), RlL ρ ε l L → RlL ρ ε (l.take n) (L.take n)
  | _, _, 0, h => by simp [RlL]
  | [], [], _ + 1, _ => trivial
  | _ :: _, _ :: _, n + 1, h => ⟨h.1, RlL.take n h.2⟩
  | [], _ :: _, _ + 1, h => h.elim
  | _ :: _, [], _ + 1, h => h.elim
theorem getMany_eq {α : Type} {l m : List α} {off n : Nat} (h : getMany l off n = some m) : m = (l.drop off).take n ∧ m.length = n ∧ (0 < n → off + n ≤ l.length) := by
  obtain ⟨h1, h2⟩ := takeN_eq _ _ _ h
  simp only [List.length_drop] at h2
  refine ⟨h1, by rw [h1]; simp; omega, fun h => by omega⟩
theorem Rl.cells {v V : Value} (hε : ∀ i V, ε i = some V → one V = true) (h : Rl ρ ε v V) : RlL ρ ε (cellsOf v) V.cells.toList := by
  cases v with
  | agg cs => obtain ⟨L, rfl, hL⟩ := Rl_agg.1 h; simpa [cellsOf, Value.cells] using hL
  | chan a =>
    cases a with
    | none => have := (Rl_self rfl).1 h; subst this; exact ⟨h, trivial⟩
    | some i =>
      have h' := h
      obtain ⟨d, hd⟩ := h
      cases d with
      | zero => simp [conc] at hd
      | succ d =>
        simp only [conc] at hd
        have := hε i V hd
        cases V <;> first | (simp [one] at this; done) | exact ⟨h', trivial⟩
  | pointer a =>
    cases a with
    | none => have := (Rl_self rfl).1 h; subst this; exact ⟨h, trivial⟩
    | some a => obtain ⟨b, _, _, rfl⟩ := Rl_ptr_any h; exact ⟨h, trivial⟩
  | slice a len c =>
    cases a with
    | none => have := (Rl_self rfl).1 h; subst this; exact ⟨h, trivial⟩
    | some a =>
      obtain ⟨id, off, sp⟩ := a
      cases sp with
      | none => obtain ⟨b, _, rfl⟩ := Rl_slice.1 h; exact ⟨h, trivial⟩
      | some alt => obtain ⟨b, _, rfl, _⟩ := Rl_sliceO.1 h; exact ⟨h, trivial⟩
  | map a =>
    cases a with
    | none => have := (Rl_self rfl).1 h; subst this; exact ⟨h, trivial⟩
    | some id => obtain ⟨b, _, rfl⟩ := Rl_map.1 h; exact ⟨h, trivial⟩
  | iface t u => obtain ⟨U, rfl, _⟩ := Rl_iface.1 h; exact ⟨h, trivial⟩
  | func fn a b => obtain ⟨A, B, rfl, _⟩ := Rl_func.1 h; exact ⟨h, trivial⟩
  | tuple cs => obtain ⟨L, rfl, _⟩ := Rl_tuple.1 h; exact ⟨h, trivial⟩
  | _ => have := (Rl_self rfl).1 h; subst this; exact ⟨h, trivial⟩
/-- A value of one cell stands for one. -/
theorem Rl.one {v V : Value} (hε : ∀ i V, ε i = some V → one V = true) (h : Rl ρ ε v V) (hv : one v = true) : V.oneCell' = true := by
  have key : Ex.one V = true → V.oneCell' = true := by intro h; cases V <;> simp_all [Ex.one, Value.oneCell']
  apply key
  cases v with
  | agg cs => simp [Ex.one] at hv
  | tuple cs => simp [Ex.one] at hv
  | chan a =>
    cases a with
    | none => have := (Rl_self rfl).1 h; subst this; rfl
    | some i =>
      obtain ⟨d, hd⟩ := h
      cases d with
      | zero => simp [conc] at hd
      | succ d => simp only [conc] at hd; exact hε i V hd
  | pointer a =>
    cases a with
    | none => have := (Rl_self rfl).1 h; subst this; rfl
    | some a => obtain ⟨b, _, _, rfl⟩ := Rl_ptr_any h; rfl
  | slice a len c =>
    cases a with
    | none => have := (Rl_self rfl).1 h; subst this; rfl
    | some a =>
      obtain ⟨id, off, sp⟩ := a
      cases sp with
      | none => obtain ⟨b, _, rfl⟩ := Rl_slice.1 h; rfl
      | some alt => obtain ⟨b, _, rfl, _⟩ := Rl_sliceO.1 h; rfl
  | map a =>
    cases a with
    | none => have := (Rl_self rfl).1 h; subst this; rfl
    | some id => obtain ⟨b, _, rfl⟩ := Rl_map.1 h; rfl
  | iface t u => obtain ⟨U, rfl, _⟩ := Rl_iface.1 h; rfl
  | func fn a b => obtain ⟨A, B, rfl, _⟩ := Rl_func.1 h; rfl
  | _ => have := (Rl_self rfl).1 h; subst this; rfl
theorem RlL.ones (hε : ∀ i V, ε i = some V → one V = true) : ∀ {l L : List Value}, RlL ρ ε l L → l.all one = true → ∀ V ∈ L, V.oneCell' = true
  | [], [], _, _, V, h => by simp at h
  | v :: r, W :: R, h, k, V, hm => by
    simp only [List.all_cons, Bool.and_eq_true] at k
    rcases List.mem_cons.1 hm with rfl | hm
    · exact h.1.one hε k.1
    · exact h.2.ones hε k.2 V hm
  | [], _ :: _, h, _, _, _ => h.elim
  | _ :: _, [], h, _, _, _ => h.elim
theorem setNth_eq {α : Type} : ∀ (l : List α) (n : Nat) (x : α) (m : List α), setNth l n x = some m → m = l.set n x ∧ n < l.length
  | [], _, _, m, h => by simp [setNth_nil, setNth_zero, setNth_succ] at h
  | _ :: r, 0, x, m, h => by simp [setNth_nil, setNth_zero, setNth_succ] at h; simp [← h]
  | y :: r, n + 1, x, m, h => by
    simp only [setNth_nil, setNth_zero, setNth_succ] at h
    cases hr : setNth r n x with
    | none => simp [hr] at h
    | some k => simp only [hr, Option.some.injEq] at h; subst h; have := setNth_eq r n x k hr; simp [this.1]; exact this.2
theorem setMany_eq {α : Type} : ∀ (xs l : List α) (n : Nat) (m : List α), setMany l n xs = some m → m = l.take n ++ xs ++ l.drop (n + xs.length) ∧ (xs ≠ [] → n + xs.length ≤ l.length) ∧ m.length = l.length
  | [], l, n, m, h => by simp [setMany] at h; subst h; simp
  | x :: xs, l, n, m, h => by
    simp only [setMany] at h
    cases hr : setNth l n x with
    | none => simp [hr] at h
    | some k =>
      simp only [hr] at h
      obtain ⟨e1, e2⟩ := setNth_eq l n x k hr
      obtain ⟨e3, e4, e5⟩ := setMany_eq xs k (n + 1) m h
      subst e1
      have hle : n + (xs.length + 1) ≤ l.length := by
        cases xs with
        | nil => simp; omega
        | cons y ys => have := e4 (by simp); simp at this ⊢; omega
      refine ⟨?_, fun _ => by simpa using hle, by simpa using e5⟩
      rw [e3]
      apply List.ext_getElem?
      intro j
      simp only [List.getElem?_append, List.length_append, List.length_take, List.length_set, List.getElem?_take, List.getElem?_drop, List.getElem?_set, List.length_cons]
      rcases Nat.lt_trichotomy j n with hj | hj | hj
      · have h1 : j < min (n + 1) l.length := by omega
        have h2 : j < min n l.length := by omega
        simp [h1, h2, show j < min (n + 1) l.length + xs.length by omega, show j < min n l.length + (xs.length + 1) by omega, show j < n + 1 by omega, hj, show ¬ n = j by omega]
      · subst hj
        have h1 : j < min (j + 1) l.length := by omega
        simp [h1, show j < min (j + 1) l.length + xs.length by omega, show ¬ j < min j l.length by omega, show j < min j l.length + (xs.length + 1) by omega, e2, show min j l.length = j by omega]
      · by_cases hj2 : j < n + 1 + xs.length
        · have h1 : ¬ j < min (n + 1) l.length := by omega
          have h2 : ¬ j < min n l.length := by omega
          have e : j - min n l.length = (j - min (n + 1) l.length) + 1 := by omega
          simp [h1, h2, show j < min (n + 1) l.length + xs.length by omega, show j < min n l.length + (xs.length + 1) by omega, e]
        · simp [show ¬ j < min (n + 1) l.length + xs.length by omega, show ¬ j < min n l.length + (xs.length + 1) by omega]
          have e : n + 1 + xs.length + (j - (min (n + 1) l.length + xs.length)) = n + (xs.length + 1) + (j - (min n l.length + (xs.length + 1))) := by omega
          rw [e]
          simp [show ¬ n = n + (xs.length + 1) + (j - (min n l.length + (xs.length + 1))) by omega]
end
end Go.Proofs.YtefnfbidphmgoaaDoor.Ex
