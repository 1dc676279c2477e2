/- Contracts by parts of a run: from the names of the callee to those of the caller. No conditions. -/
import Derived.Test.YtefnfbidphmgoaaDoorExT
set_option linter.unusedVariables false
set_option linter.unusedSimpArgs false
namespace Go.Proofs.YtefnfbidphmgoaaDoor.Ex
open Go Go.RowKit

/-- A value by other names. -/
noncomputable def renV (π : Nat → Option Nat) : Nat → Value → Option Value
  | 0, _ => none
  | d + 1, v => match v with
    | .pointer (some ⟨id, off, sp⟩) => match π id with
      | some j => some (.pointer (some ⟨j, off, sp⟩))
      | none => none
    | .slice (some ⟨id, off, sp⟩) len c => match π id with
      | some j => some (.slice (some ⟨j, off, sp⟩) len c)
      | none => none
    | .map (some id) => match π id with
      | some j => some (.map (some j))
      | none => none
    | .iface t v => (renV π d v).map (.iface t)
    | .agg cs => (optL (renV π d) cs.toList).map fun l => .agg l.toArray
    | .tuple cs => (optL (renV π d) cs.toList).map fun l => .tuple l.toArray
    | .func fn a b => match optL (renV π d) a.toList, optL (renV π d) b.toList with
      | some x, some y => some (.func fn x.toArray y.toArray)
      | _, _ => none
    | v => some v
section
variable {ρ₁ ρ₂ : Rho} {ε : Nat → Option Value} {π : Nat → Option Nat}

theorem optL_map2 {α β γ : Type} {f : α → Option β} {g : α → Option γ} {k : γ → Option β} : ∀ {l : List α} {L : List γ} {M : List β}, (∀ a ∈ l, ∀ c b, g a = some c → f a = some b → k c = some b) → optL g l = some L → optL f l = some M → optL k L = some M
  | [], L, M, h, h1, h2 => by simp only [optL_nil, Option.some.injEq] at h1 h2; subst h1 h2; rfl
  | a :: l, L, M, h, h1, h2 => by
    rw [optL_cons] at h1 h2
    cases hg : g a with
    | none => rw [hg] at h1; cases h1
    | some c =>
      cases hf : f a with
      | none => rw [hf] at h2; cases h2
      | some b =>
        rw [hg] at h1; rw [hf] at h2
        simp only at h1 h2
        cases hg2 : optL g l with
        | none => rw [hg2] at h1; cases h1
        | some L' =>
          cases hf2 : optL f l with
          | none => rw [hf2] at h2; cases h2
          | some M' =>
            rw [hg2] at h1; rw [hf2] at h2
            simp only [Option.some.injEq] at h1 h2
            subst h1 h2
            rw [optL_cons, h a (by simp) c b hg hf]
            simp only
            rw [optL_map2 (fun x hx => h x (by simp [hx])) hg2 hf2]
theorem renV_conc (H : ∀ i j b, π i = some j → ρ₁ i = some b → ρ₂ j = some b) : ∀ (d d' : Nat) (v v' V : Value), renV π d v = some v' → conc ρ₁ ε d' v = some V → conc ρ₂ ε d' v' = some V
  | 0, _, _, _, _, h, _ => by simp [renV] at h
  | d + 1, 0, _, _, _, _, h => by simp [conc] at h
  | d + 1, d' + 1, v, v', V, h, hc => by
    have ih := renV_conc H d d'
    have ihL : ∀ {l L M : List Value}, optL (renV π d) l = some L → optL (conc ρ₁ ε d') l = some M → optL (conc ρ₂ ε d') L = some M := fun h1 h2 => optL_map2 (fun a _ c b g1 g2 => ih a c b g1 g2) h1 h2
    cases v with
    | pointer a =>
      cases a with
      | none => simp only [renV, Option.some.injEq] at h; subst h; simpa [conc] using hc
      | some a =>
        obtain ⟨id, off, sp⟩ := a
        simp only [renV] at h
        cases hp : π id with
        | none => rw [hp] at h; cases h
        | some j =>
          rw [hp] at h
          simp only [Option.some.injEq] at h
          subst h
          simp only [conc] at hc ⊢
          cases sp with
          | some _ => cases hr : ρ₁ id <;> simp [hr] at hc
          | none =>
            cases hr : ρ₁ id with
            | none => simp [hr] at hc
            | some b => simp only [hr] at hc; simp only [H id j b hp hr]; exact hc
    | slice a len c =>
      cases a with
      | none => simp only [renV, Option.some.injEq] at h; subst h; simpa [conc] using hc
      | some a =>
        obtain ⟨id, off, sp⟩ := a
        simp only [renV] at h
        cases hp : π id with
        | none => rw [hp] at h; cases h
        | some j =>
          rw [hp] at h
          simp only [Option.some.injEq] at h
          subst h
          simp only [conc] at hc ⊢
          cases hr : ρ₁ id with
          | none => simp [hr] at hc
          | some b => simp only [hr] at hc; simp only [H id j b hp hr]; exact hc
    | map a =>
      cases a with
      | none => simp only [renV, Option.some.injEq] at h; subst h; simpa [conc] using hc
      | some id =>
        simp only [renV] at h
        cases hp : π id with
        | none => rw [hp] at h; cases h
        | some j =>
          rw [hp] at h
          simp only [Option.some.injEq] at h
          subst h
          simp only [conc] at hc ⊢
          cases hr : ρ₁ id with
          | none => simp [hr] at hc
          | some b => simp only [hr] at hc; simp only [H id j b hp hr]; exact hc
    | chan a =>
      simp only [renV, Option.some.injEq] at h
      subst h
      cases a <;> simpa [conc] using hc
    | iface t v =>
      simp only [renV] at h
      cases hv : renV π d v with
      | none => simp [hv] at h
      | some u =>
        simp only [hv, Option.map_some, Option.some.injEq] at h
        subst h
        rw [conc_iface] at hc ⊢
        cases hx : conc ρ₁ ε d' v with
        | none => simp [hx] at hc
        | some x => rw [hx] at hc; rw [ih v u x hv hx]; exact hc
    | agg cs =>
      simp only [renV] at h
      cases hv : optL (renV π d) cs.toList with
      | none => simp [hv] at h
      | some u =>
        simp only [hv, Option.map_some, Option.some.injEq] at h
        subst h
        rw [conc_agg] at hc ⊢
        cases hx : optL (conc ρ₁ ε d') cs.toList with
        | none => simp [hx] at hc
        | some x => rw [hx] at hc; simp only [List.toList_toArray]; rw [ihL hv hx]; exact hc
    | tuple cs =>
      simp only [renV] at h
      cases hv : optL (renV π d) cs.toList with
      | none => simp [hv] at h
      | some u =>
        simp only [hv, Option.map_some, Option.some.injEq] at h
        subst h
        rw [conc_tuple] at hc ⊢
        cases hx : optL (conc ρ₁ ε d') cs.toList with
        | none => simp [hx] at hc
        | some x => rw [hx] at hc; simp only [List.toList_toArray]; rw [ihL hv hx]; exact hc
    | func fn a b =>
      simp only [renV] at h
      cases ha : optL (renV π d) a.toList with
      | none => simp [ha] at h
      | some x =>
        cases hb : optL (renV π d) b.toList with
        | none => simp [ha, hb] at h
        | some y =>
          simp only [ha, hb, Option.some.injEq] at h
          subst h
          rw [conc_func] at hc ⊢
          cases hx : optL (conc ρ₁ ε d') a.toList with
          | none => simp [hx] at hc
          | some X =>
            cases hy : optL (conc ρ₁ ε d') b.toList with
            | none => simp [hx, hy] at hc
            | some Y => rw [hx, hy] at hc; simp only [List.toList_toArray]; rw [ihL ha hx, ihL hb hy]; exact hc
    | _ => simp only [renV, Option.some.injEq] at h; subst h; simpa [conc] using hc
/-- The way back. -/
noncomputable def back (π : Nat → Option Nat) (ρ : Rho) : Rho := fun i => (π i).bind ρ
theorem optL_map3 {α β γ : Type} {f : α → Option β} {g : α → Option γ} {k : γ → Option β} : ∀ {l : List α} {L : List γ} {M : List β}, (∀ a ∈ l, ∀ c b, g a = some c → k c = some b → f a = some b) → optL g l = some L → optL k L = some M → optL f l = some M
  | [], L, M, h, h1, h2 => by
    simp only [optL_nil, Option.some.injEq] at h1
    subst h1
    exact h2
  | a :: l, L, M, h, h1, h2 => by
    rw [optL_cons] at h1
    cases hg : g a with
    | none => rw [hg] at h1; cases h1
    | some c =>
      rw [hg] at h1
      simp only at h1
      cases hg2 : optL g l with
      | none => rw [hg2] at h1; cases h1
      | some L' =>
        rw [hg2] at h1
        simp only [Option.some.injEq] at h1
        subst h1
        rw [optL_cons] at h2
        cases hk : k c with
        | none => rw [hk] at h2; cases h2
        | some b =>
          rw [hk] at h2
          simp only at h2
          cases hk2 : optL k L' with
          | none => rw [hk2] at h2; cases h2
          | some M' =>
            rw [hk2] at h2
            simp only [Option.some.injEq] at h2
            subst h2
            rw [optL_cons, h a (by simp) c b hg hk]
            simp only
            rw [optL_map3 (fun x hx => h x (by simp [hx])) hg2 hk2]
theorem renV_back {ρ : Rho} : ∀ (d d' : Nat) (v v' V : Value), renV π d v = some v' → conc ρ ε d' v' = some V → conc (back π ρ) ε d' v = some V
  | 0, _, _, _, _, h, _ => by simp [renV] at h
  | d + 1, 0, _, _, _, _, h => by simp [conc] at h
  | d + 1, d' + 1, v, v', V, h, hc => by
    have ih := renV_back (ρ := ρ) d d'
    have ihL : ∀ {l L M : List Value}, optL (renV π d) l = some L → optL (conc ρ ε d') L = some M → optL (conc (back π ρ) ε d') l = some M := fun h1 h2 => optL_map3 (fun a _ c b g1 g2 => ih a c b g1 g2) h1 h2
    cases v with
    | pointer a =>
      cases a with
      | none => simp only [renV, Option.some.injEq] at h; subst h; simpa [conc] using hc
      | some a =>
        obtain ⟨id, off, sp⟩ := a
        simp only [renV] at h
        cases hp : π id with
        | none => rw [hp] at h; cases h
        | some j =>
          rw [hp] at h
          simp only [Option.some.injEq] at h
          subst h
          simp only [conc] at hc ⊢
          have : back π ρ id = ρ j := by simp [back, hp]
          rw [this]; exact hc
    | slice a len c =>
      cases a with
      | none => simp only [renV, Option.some.injEq] at h; subst h; simpa [conc] using hc
      | some a =>
        obtain ⟨id, off, sp⟩ := a
        simp only [renV] at h
        cases hp : π id with
        | none => rw [hp] at h; cases h
        | some j =>
          rw [hp] at h
          simp only [Option.some.injEq] at h
          subst h
          simp only [conc] at hc ⊢
          have : back π ρ id = ρ j := by simp [back, hp]
          rw [this]; exact hc
    | map a =>
      cases a with
      | none => simp only [renV, Option.some.injEq] at h; subst h; simpa [conc] using hc
      | some id =>
        simp only [renV] at h
        cases hp : π id with
        | none => rw [hp] at h; cases h
        | some j =>
          rw [hp] at h
          simp only [Option.some.injEq] at h
          subst h
          simp only [conc] at hc ⊢
          have : back π ρ id = ρ j := by simp [back, hp]
          rw [this]; exact hc
    | chan a =>
      simp only [renV, Option.some.injEq] at h
      subst h
      cases a <;> simpa [conc] using hc
    | iface t v =>
      simp only [renV] at h
      cases hv : renV π d v with
      | none => simp [hv] at h
      | some u =>
        simp only [hv, Option.map_some, Option.some.injEq] at h
        subst h
        rw [conc_iface] at hc ⊢
        cases hx : conc ρ ε d' u with
        | none => simp [hx] at hc
        | some x => rw [hx] at hc; rw [ih v u x hv hx]; exact hc
    | agg cs =>
      simp only [renV] at h
      cases hv : optL (renV π d) cs.toList with
      | none => simp [hv] at h
      | some u =>
        simp only [hv, Option.map_some, Option.some.injEq] at h
        subst h
        rw [conc_agg] at hc ⊢
        simp only [List.toList_toArray] at hc
        cases hx : optL (conc ρ ε d') u with
        | none => simp [hx] at hc
        | some x => rw [hx] at hc; rw [ihL hv hx]; exact hc
    | tuple cs =>
      simp only [renV] at h
      cases hv : optL (renV π d) cs.toList with
      | none => simp [hv] at h
      | some u =>
        simp only [hv, Option.map_some, Option.some.injEq] at h
        subst h
        rw [conc_tuple] at hc ⊢
        simp only [List.toList_toArray] at hc
        cases hx : optL (conc ρ ε d') u with
        | none => simp [hx] at hc
        | some x => rw [hx] at hc; rw [ihL hv hx]; exact hc
    | func fn a b =>
      simp only [renV] at h
      cases ha : optL (renV π d) a.toList with
      | none => simp [ha] at h
      | some x =>
        cases hb : optL (renV π d) b.toList with
        | none => simp [ha, hb] at h
        | some y =>
          simp only [ha, hb, Option.some.injEq] at h
          subst h
          rw [conc_func] at hc ⊢
          simp only [List.toList_toArray] at hc
          cases hx : optL (conc ρ ε d') x with
          | none => simp [hx] at hc
          | some X =>
            cases hy : optL (conc ρ ε d') y with
            | none => simp [hx, hy] at hc
            | some Y => rw [hx, hy] at hc; rw [ihL ha hx, ihL hb hy]; exact hc
    | _ => simp only [renV, Option.some.injEq] at h; subst h; simpa [conc] using hc
theorem Rl.ren (H : ∀ i j b, π i = some j → ρ₁ i = some b → ρ₂ j = some b) {d : Nat} {v v' V : Value} (h : renV π d v = some v') (hv : Rl ρ₁ ε v V) : Rl ρ₂ ε v' V := let ⟨e, he⟩ := hv; ⟨e, renV_conc H d e v v' V h he⟩
theorem Rl.back {ρ : Rho} {d : Nat} {v v' V : Value} (h : renV π d v = some v') (hv : Rl ρ ε v' V) : Rl (Ex.back π ρ) ε v V := let ⟨e, he⟩ := hv; ⟨e, renV_back d e v v' V h he⟩
theorem RlL.ren (H : ∀ i j b, π i = some j → ρ₁ i = some b → ρ₂ j = some b) {d : Nat} : ∀ {l l' L : List Value}, optL (renV π d) l = some l' → RlL ρ₁ ε l L → RlL ρ₂ ε l' L
  | [], l', L, h, hl => by
    simp only [optL_nil, Option.some.injEq] at h
    subst h
    cases L with
    | nil => trivial
    | cons _ _ => exact hl.elim
  | v :: l, l', L, h, hl => by
    rw [optL_cons] at h
    cases hv : renV π d v with
    | none => rw [hv] at h; cases h
    | some u =>
      rw [hv] at h
      simp only at h
      cases hr : optL (renV π d) l with
      | none => rw [hr] at h; cases h
      | some r =>
        rw [hr] at h
        simp only [Option.some.injEq] at h
        subst h
        cases L with
        | nil => exact hl.elim
        | cons V L => exact ⟨hl.1.ren H hv, hl.2.ren H hr⟩
theorem RlL.back {ρ : Rho} {d : Nat} : ∀ {l l' L : List Value}, optL (renV π d) l = some l' → RlL ρ ε l' L → RlL (Ex.back π ρ) ε l L
  | [], l', L, h, hl => by simp only [optL_nil, Option.some.injEq] at h; subst h; cases L with | nil => trivial | cons _ _ => exact hl.elim
  | v :: l, l', L, h, hl => by
    rw [optL_cons] at h
    cases hv : renV π d v with
    | none => rw [hv] at h; cases h
    | some u =>
      rw [hv] at h
      simp only at h
      cases hr : optL (renV π d) l with
      | none => rw [hr] at h; cases h
      | some r =>
        rw [hr] at h
        simp only [Option.some.injEq] at h
        subst h
        cases L with
        | nil => exact hl.elim
        | cons V L => exact ⟨hl.1.back hv, hl.2.back hr⟩
end

/-- An object by other names. -/
noncomputable def renE (π : Nat → Option Nat) (d : Nat) (x : Value × Value × Nat) : Option (Value × Value × Nat) := match renV π d x.2.1 with
  | some v => some (x.1, v, x.2.2)
  | none => none
def renO (π : Nat → Option Nat) (o o' : HO) : Prop :=
  o'.kind = o.kind ∧ o'.opn = o.opn ∧ o'.ro = o.ro ∧ o'.mkd = o.mkd ∧ o'.clock = o.clock ∧ o'.nats = o.nats ∧ (o.kind ≠ 2 → o'.elem = o.elem) ∧
  (∃ d, optL (renV π d) o.cells = some o'.cells) ∧ (∃ d, optL (renE π d) o.entries = some o'.entries) ∧ (o.kind = 2 → o.nats ≠ [] → π o.elem = some o'.elem)
section
variable {P : Program} {ε : Nat → Option Value} {base : Base} {ρ₁ ρ₂ : Rho} {π : Nat → Option Nat}

theorem renE_eq {d : Nat} {x y : Value × Value × Nat} (h : renE π d x = some y) : y.1 = x.1 ∧ y.2.2 = x.2.2 ∧ renV π d x.2.1 = some y.2.1 := by
  unfold renE at h
  cases hv : renV π d x.2.1 with
  | none => rw [hv] at h; cases h
  | some v => rw [hv] at h; simp only [Option.some.injEq] at h; subst h; exact ⟨rfl, rfl, rfl⟩
theorem EntR.ren (H : ∀ i j b, π i = some j → ρ₁ i = some b → ρ₂ j = some b) {d : Nat} : ∀ {l l' : List (Value × Value × Nat)} {R : List MapEntry}, optL (renE π d) l = some l' → EntR ρ₁ ε l R → EntR ρ₂ ε l' R
  | [], l', R, h, hl => by
    simp only [optL_nil, Option.some.injEq] at h
    subst h
    cases R with
    | nil => trivial
    | cons _ _ => exact hl.elim
  | (k, v, b) :: l, l', R, h, hl => by
    rw [optL_cons] at h
    cases hv : renE π d (k, v, b) with
    | none => rw [hv] at h; cases h
    | some u =>
      rw [hv] at h
      simp only at h
      cases hr : optL (renE π d) l with
      | none => rw [hr] at h; cases h
      | some r =>
        rw [hr] at h
        simp only [Option.some.injEq] at h
        subst h
        obtain ⟨e1, e2, e3⟩ := renE_eq hv
        obtain ⟨k', v', b'⟩ := u
        simp only at e1 e2 e3
        subst e1 e2
        cases R with
        | nil => exact hl.elim
        | cons V R => exact ⟨hl.1, hl.2.1, hl.2.2.1.ren H e3, hl.2.2.2.1, hl.2.2.2.2.ren H hr⟩
theorem EntR.back {ρ : Rho} {d : Nat} : ∀ {l l' : List (Value × Value × Nat)} {R : List MapEntry}, optL (renE π d) l = some l' → EntR ρ ε l' R → EntR (Ex.back π ρ) ε l R
  | [], l', R, h, hl => by simp only [optL_nil, Option.some.injEq] at h; subst h; cases R with | nil => trivial | cons _ _ => exact hl.elim
  | (k, v, b) :: l, l', R, h, hl => by
    rw [optL_cons] at h
    cases hv : renE π d (k, v, b) with
    | none => rw [hv] at h; cases h
    | some u =>
      rw [hv] at h
      simp only at h
      cases hr : optL (renE π d) l with
      | none => rw [hr] at h; cases h
      | some r =>
        rw [hr] at h
        simp only [Option.some.injEq] at h
        subst h
        obtain ⟨e1, e2, e3⟩ := renE_eq hv
        obtain ⟨k', v', b'⟩ := u
        simp only at e1 e2 e3
        subst e1 e2
        cases R with
        | nil => exact hl.elim
        | cons V R => exact ⟨hl.1, hl.2.1, hl.2.2.1.back e3, hl.2.2.2.1, hl.2.2.2.2.back hr⟩
theorem ObjR.ren (H : ∀ i j b, π i = some j → ρ₁ i = some b → ρ₂ j = some b) {c : Nat} {o o' : HO} {ob : Option Obj} (hr : renO π o o') (h : ObjR P ρ₁ ε c o ob) : ObjR P ρ₂ ε c o' ob := by
  obtain ⟨r1, r2, r3, r4, r5, r6, r7, ⟨d1, r8⟩, ⟨d2, r9⟩, r10⟩ := hr
  unfold ObjR at h ⊢
  rw [r1]
  split at h
  · rename_i hk
    rw [if_pos hk]
    obtain ⟨cs, tl, el, fr, q1, q2, q3, q4, q5⟩ := h
    have hel := r7 (by omega)
    exact ⟨cs, tl, el, fr, q1, q2.ren H r8, by rw [r2]; exact q3, by rw [r3, r4, hel]; exact q4, by rw [r2, hel]; exact q5⟩
  · rename_i hk
    rw [if_neg hk]
    split at h
    · rename_i hk1
      rw [if_pos hk1]
      obtain ⟨es, q1, q2⟩ := h
      exact ⟨es, by rw [r5]; exact q1, q2.ren H r9⟩
    · rename_i hk1
      rw [if_neg hk1]
      refine ⟨h.1, ?_⟩
      have h2 := h.2
      unfold IterR at h2 ⊢
      rw [r6]
      split
      · rename_i hn; rw [hn] at h2; exact h2
      · rename_i last seen hn
        rw [hn] at h2
        obtain ⟨b, q1, q2⟩ := h2
        exact ⟨b, H _ _ b (r10 h.1 (by rw [hn]; simp)) q1, by rw [r5]; exact q2⟩
theorem ObjR.back {ρ : Rho} {c : Nat} {o o' : HO} {ob : Option Obj} (hr : renO π o o') (h : ObjR P ρ ε c o' ob) : ObjR P (Ex.back π ρ) ε c o ob := by
  obtain ⟨r1, r2, r3, r4, r5, r6, r7, ⟨d1, r8⟩, ⟨d2, r9⟩, r10⟩ := hr
  unfold ObjR at h ⊢
  rw [r1] at h
  split at h
  · rename_i hk
    rw [if_pos hk]
    obtain ⟨cs, tl, el, fr, q1, q2, q3, q4, q5⟩ := h
    have hel := r7 (by omega)
    exact ⟨cs, tl, el, fr, q1, q2.back r8, by rw [← r2]; exact q3, by rw [← r3, ← r4, ← hel]; exact q4, by rw [← r2, ← hel]; exact q5⟩
  · rename_i hk
    rw [if_neg hk]
    split at h
    · rename_i hk1
      rw [if_pos hk1]
      obtain ⟨es, q1, q2⟩ := h
      exact ⟨es, by rw [← r5]; exact q1, q2.back r9⟩
    · rename_i hk1
      rw [if_neg hk1]
      refine ⟨h.1, ?_⟩
      have h2 := h.2
      unfold IterR at h2 ⊢
      rw [r6] at h2
      split
      · rename_i hn; rw [hn] at h2; exact h2
      · rename_i last seen hn
        rw [hn] at h2
        obtain ⟨b, q1, q2⟩ := h2
        exact ⟨b, by unfold Ex.back; rw [r10 h.1 (by rw [hn]; simp)]; exact q1, by rw [← r5]; exact q2⟩

/-- What is handed in, perhaps to be read only. -/
def renW (π : Nat → Option Nat) (o o' : HO) : Prop := ∃ q : HO, renO π q o' ∧ o = { q with ro := o.ro } ∧ (o.ro = false → q.ro = false)
theorem ObjR.back' {ρ : Rho} {c : Nat} {o o' : HO} {ob : Option Obj} (hr : renW π o o') (h : ObjR P ρ ε c o' ob) : ObjR P (Ex.back π ρ) ε c o ob := by
  obtain ⟨q, q1, q2, q3⟩ := hr
  have h1 := ObjR.back q1 h
  rw [q2]
  unfold ObjR at h1 ⊢
  split at h1
  · rename_i hk
    rw [if_pos (show ({ q with ro := o.ro } : HO).kind = 0 from hk)]
    obtain ⟨cs, tl, el, fr, k1, k2, k3, k4, k5⟩ := h1
    exact ⟨cs, tl, el, fr, k1, k2, k3, fun hro => k4 (q3 hro), k5⟩
  · rename_i hk
    rw [if_neg (show ¬ ({ q with ro := o.ro } : HO).kind = 0 from hk)]
    exact h1
theorem renW.ro {o o' : HO} (h : renW π o o') (hr : o.ro = false) : o'.ro = false := let ⟨q, q1, _, q3⟩ := h; by rw [q1.2.2.1]; exact q3 hr
theorem renW.of {o o' : HO} (h : renO π o o') : renW π o o' := ⟨o, h, rfl, fun h => h⟩
theorem renW.read {o o' : HO} (h : renO π o o') : renW π { o with ro := true } o' := ⟨o, h, rfl, fun h => by cases h⟩

/-- What must be seen of the end of a run, so that the call comes to r: names of the callee (σ) by the caller's. -/
structure Fin (P : Program) (fn : Func) (h0 : T HO) (π : Nat → Option Nat) (n : Nat) (h : T HO) (r : Out) (s' : St) : Prop where
  out : ∃ (σ : Nat → Option Nat) (vs : List Value) (v0 : Value), optL (resA P s'.tmps s'.heap) fn.results.toList = some vs ∧ ((vs = [v0]) ∨ (vs.length ≠ 1 ∧ v0 = .tuple vs.toArray)) ∧ (∃ d, renV σ d v0 = some r.v) ∧
    (∀ i j, π i = some j → σ i = some j) ∧ (∀ i i' j, σ i = some j → σ i' = some j → π i = none → π i' = none → i = i') ∧
    (∀ i j, σ i = some j → π i = some j ∨ (n ≤ j ∧ j < r.next ∧ ∃ o, tget s'.heap i = some o ∧ o.ro = false)) ∧
    (∀ id o, id ∈ r.ws → tget r.heap id = some o → ∃ i o1, σ i = some id ∧ tget s'.heap i = some o1 ∧ renO σ o1 o)

theorem callOk_of_leads {f : FuncId} {fn : Func} {c : Code} (hfn : P.funcs[f]? = some fn) (hbody : fn.body = some c) {args0 args : List Value} {h0 h : T HO} {m n : Nat} {r : Out} (π : Nat → Option Nat)
    (hle : args.length ≤ fn.ntmps) (hargs : ∃ d, optL (renV π d) args0 = some args) (hπm : ∀ i j, π i = some j → i < m) (hinj : ∀ i i' j, π i = some j → π i' = some j → i = i')
    (hobj : ∀ i j, π i = some j → ∃ o o', tget h0 i = some o ∧ tget h j = some o' ∧ renW π o o') (h0π : ∀ i o, tget h0 i = some o → ∃ j, π i = some j)
    (hnle : n ≤ r.next) (hws : ∀ id, id ∈ r.ws → (∃ i o, π i = some id ∧ tget h0 i = some o ∧ o.ro = false) ∨ (n ≤ id ∧ id < r.next)) (hws2 : ∀ i j o, π i = some j → tget h0 i = some o → o.ro = false → j ∈ r.ws)
    (hkeep : ∀ id, id ∉ r.ws → tget r.heap id = tget h id)
    (L : Leads P ε base fn.ntmps [.code c] ⟨putArgs [] 0 args0, h0, m, []⟩ (Fin P fn h0 π n h r)) (hm8 : m ≤ 8 := by decide) : CallOk P ε base f args h n r := by
  intro ρ w ARGS ha hm hf hb
  obtain ⟨da, hargs⟩ := hargs
  have ha0 : RlL (Ex.back π ρ) ε args0 ARGS := ha.back hargs
  have hlen0 : args0.length = args.length := by rw [← ha.length, ha0.length]
  have hm0 : Mod P (Ex.back π ρ) ε base w (tget h0) := by
    refine ⟨fun i o ho => ?_, fun i i' o o' b b' h1 h2 hr2 g1 g2 e => ?_, hm.old⟩
    · obtain ⟨j, hj⟩ := h0π i o ho
      obtain ⟨o1, o', q1, q2, q3⟩ := hobj i j hj
      rw [ho] at q1; cases q1
      obtain ⟨b, g1, g2, g3, g4⟩ := hm.obj j o' q2
      refine ⟨b, by simp [Ex.back, hj, g1], g2, ObjR.back' q3 g3, fun hro => g4 (q3.ro hro)⟩
    · obtain ⟨j, hj⟩ := h0π i o h1
      obtain ⟨j', hj'⟩ := h0π i' o' h2
      obtain ⟨x1, o1, z1, q2, y1⟩ := hobj i j hj
      obtain ⟨x2, o2, z2, q4, y2⟩ := hobj i' j' hj'
      rw [h1] at z1; cases z1
      rw [h2] at z2; cases z2
      simp only [Ex.back, hj, hj', Option.bind_some] at g1 g2
      have := hm.inj j j' o1 o2 b b' q2 q4 (hr2.imp (fun h => y1.ro h) fun h => y2.ro h) g1 g2 e
      subst this
      exact hinj i i' j hj hj'
  have hfr0 : ∀ id, m ≤ id → Ex.back π ρ id = none := fun id hid => by
    unfold Ex.back
    cases hp : π id with
    | none => rfl
    | some j => have := hπm id j hp; omega
  refine call_end (R := fun V w' => Good P ε base ρ w h n r V w') hfn hbody ha0 (by omega) fun b a cs htm hsz => ?_
  have R0 : Rel P ε base ⟨Ex.back π ρ, tget h0, w⟩ fn.ntmps ⟨putArgs [] 0 args0, h0, m, []⟩ (Ex.back π ρ) a w :=
    ⟨htm, hsz, hm0, hfr0, hb, hb, sub_refl _, fun id o c e hro hc => .inr ⟨id, o, c, e, hro, hc, rfl⟩, fun _ _ _ => rfl, Nat.le_refl _, rfl, rfl, rfl, fun id hid => hfr0 id (Nat.le_trans hm8 hid)⟩
  obtain ⟨s', a', w', todo', ρ1, ⟨σ, vs, v0, o1, o2, ⟨dv, o3⟩, o4, o5', o6, o7⟩, hst, R, hd⟩ := L _ _ a w R0 b cs
  obtain ⟨V, hrun, hV⟩ := results_of o1 o2 R.tm R.mod
  -- the caller's names behind the call
  let tau : Nat → Nat → Prop := fun i j => σ i = some j ∧ n ≤ j ∧ j < r.next ∧ π i = none
  let ρ' : Rho := fun id => match ρ id with
    | some b => some b
    | none => open Classical in if hx : ∃ i, tau i id then ρ1 hx.choose else none
  have hρ : ∀ id b, ρ id = some b → ρ' id = some b := fun id b e => by simp only [ρ', e]
  have hback : ∀ i j b, π i = some j → (ρ j = some b ↔ Ex.back π ρ i = some b) := fun i j b hp => by simp [Ex.back, hp]
  have hold : ∀ i j, π i = some j → ∃ b, ρ j = some b ∧ ρ1 i = some b := fun i j hp => by
    obtain ⟨_, o', _, q2, _⟩ := hobj i j hp
    obtain ⟨b, g1, _⟩ := hm.obj j o' q2
    exact ⟨b, g1, R.ext i b ((hback i j b hp).1 g1)⟩
  have o5 : ∀ i i' j, σ i = some j → σ i' = some j → i = i' := by
    have mix : ∀ i i' j, σ i = some j → σ i' = some j → (∃ j', π i = some j') → π i' = none → False := fun i i' j h1 h2 ⟨j', hp⟩ hn => by
      have := o4 i j' hp
      rw [h1] at this; cases this
      rcases o6 i' j h2 with g | ⟨g1, g2, _⟩
      · rw [hn] at g; cases g
      · obtain ⟨b, k1, _⟩ := hold i j hp
        rw [hf j g1 g2] at k1; cases k1
    intro i i' j h1 h2
    cases hp : π i with
    | none =>
      cases hp' : π i' with
      | none => exact o5' i i' j h1 h2 hp hp'
      | some j' => exact (mix i' i j h2 h1 ⟨j', hp'⟩ hp).elim
    | some j1 =>
      cases hp' : π i' with
      | none => exact (mix i i' j h1 h2 ⟨j1, hp⟩ hp').elim
      | some j2 =>
        have e1 := o4 i j1 hp
        have e2 := o4 i' j2 hp'
        rw [h1] at e1; rw [h2] at e2
        cases e1; cases e2
        exact hinj i i' j hp hp'
  have H : ∀ i j b, σ i = some j → ρ1 i = some b → ρ' j = some b := fun i j b hs hb1 => by
    cases hp : π i with
    | some j' =>
      have := o4 i j' hp
      rw [hs] at this
      cases this
      obtain ⟨b', g1, g2⟩ := hold i j hp
      rw [hb1] at g2; cases g2
      exact hρ j b g1
    | none =>
      rcases o6 i j hs with g | ⟨g1, g2, g3⟩
      · rw [hp] at g; cases g
      · have hx : ∃ i, tau i j := ⟨i, hs, g1, g2, hp⟩
        have : hx.choose = i := o5 _ _ j hx.choose_spec.1 hs
        simp only [ρ', hf j g1 g2, dif_pos hx, this, hb1]
  have hnew : ∀ id b, ρ id = none → ρ' id = some b → ∃ i, tau i id ∧ ρ1 i = some b := fun id b e1 e2 => by
    simp only [ρ', e1] at e2
    split at e2
    · rename_i hx; exact ⟨_, hx.choose_spec, e2⟩
    · cases e2
  refine ⟨a', w', todo', V, hst, hd, hrun, ρ', ?_, hV.ren H o3⟩
  have ownB : ∀ i o c, tget s'.heap i = some o → o.ro = false → ρ1 i = some c → c.1 < w.heap.size → ∃ k j o' c', π k = some j ∧ tget h0 k = some o' ∧ o'.ro = false ∧ ρ j = some c' ∧ c'.1 = c.1 := fun i o c e hro hc hlt => by
    rcases R.own i o c e hro hc with g | ⟨k, o', c', g1, g2, g3, g4⟩
    · have : w.heap.size ≤ c.1 := g
      omega
    · obtain ⟨j, hj⟩ := h0π k o' g1
      exact ⟨k, j, o', c', hj, g1, g2, (hback k j c' hj).2 g3, g4⟩
  refine { ext := hρ, out := fun id b e => ?_, fr := hf, nle := hnle, mod := ⟨fun id o e => ?_, fun id id' o o' b b' e e' hr2 g g' hbb => ?_, R.mod.old⟩, keep := hkeep, frame := fun b hlt hno => ?_, wsn := fun id hid => ?_, wro := fun id o hid ho => ?_, size := R.size, os := R.os, tape := R.tape, output := R.output, fresh := fun id b h1 h2 e => ?_ }
  · cases hr : ρ id with
    | some b' => have := hρ id b' hr; rw [e] at this; exact .inl this.symm
    | none => obtain ⟨i, ht, _⟩ := hnew id b hr e; exact .inr ⟨ht.2.1, ht.2.2.1⟩
  · by_cases hin : id ∈ r.ws
    · obtain ⟨i, q, q1, q2, q3⟩ := o7 id o hin e
      obtain ⟨b, g1, g2, g3, g4⟩ := R.mod.obj i q q2
      exact ⟨b, H i id b q1 g1, g2, g3.ren H q3, fun hro => g4 (by rw [← q3.2.2.1]; exact hro)⟩
    · rw [hkeep id hin] at e
      obtain ⟨b, g1, g2, g3, g4⟩ := hm.obj id o e
      refine ⟨b, hρ id b g1, Nat.lt_of_lt_of_le g2 R.size, ?_, g4⟩
      have : w'.heap[b.1]? = w.heap[b.1]? := R.keep b.1 g2 fun k o' c k1 k2 k3 hcb => by
        obtain ⟨j, hj⟩ := h0π k o' k1
        obtain ⟨xj, oj, zj, q2, yj⟩ := hobj k j hj
        have k1' : tget h0 k = some o' := k1
        rw [k1'] at zj; cases zj
        have := hm.inj j id oj o c b q2 e (.inl (yj.ro k2)) ((hback k j c hj).2 k3) g1 hcb
        subst this
        exact hin (hws2 k j o' hj k1 k2)
      rw [this]
      exact g3.sub hρ
  · -- no two names of one block
    have place : ∀ id o b, tget r.heap id = some o → ρ' id = some b → (id ∈ r.ws → ∃ i q, σ i = some id ∧ tget s'.heap i = some q ∧ renO σ q o ∧ ρ1 i = some b) ∧ (id ∉ r.ws → tget h id = some o ∧ ρ id = some b ∧ b.1 < w.heap.size) := fun id o b e g => by
      refine ⟨fun hin => ?_, fun hin => ?_⟩
      · obtain ⟨i, q, q1, q2, q3⟩ := o7 id o hin e
        obtain ⟨b1, g1, _⟩ := R.mod.obj i q q2
        have := H i id b1 q1 g1
        rw [g] at this; cases this
        exact ⟨i, q, q1, q2, q3, g1⟩
      · rw [hkeep id hin] at e
        obtain ⟨b1, g1, g2, _⟩ := hm.obj id o e
        have := hρ id b1 g1
        rw [g] at this; cases this
        exact ⟨e, g1, g2⟩
    have mixed : ∀ id id' o o' b b', tget r.heap id = some o → tget r.heap id' = some o' → (o.ro = false ∨ o'.ro = false) → ρ' id = some b → ρ' id' = some b' → b.1 = b'.1 → id ∉ r.ws → id' ∈ r.ws → id = id' := fun id id' o o' b b' e e' hr2 g g' hbb hin hin' => by
      obtain ⟨p1, p2, p3⟩ := (place id o b e g).2 hin
      obtain ⟨i, q, q1, q2, q3, q4⟩ := (place id' o' b' e' g').1 hin'
      rcases o6 i id' q1 with hp | ⟨hn1, hn2, q', q5, q6⟩
      · obtain ⟨xj, oj, zj, k2, yj⟩ := hobj i id' hp
        obtain ⟨b2, k3, k4⟩ := hold i id' hp
        rw [q4] at k4; cases k4
        have hoj : oj.ro = false := by
          rcases hws id' hin' with ⟨i3, x3, c1, c2, c3⟩ | hnw
          · have := hinj i i3 id' hp c1
            subst this
            rw [zj] at c2; cases c2
            exact yj.ro c3
          · rw [hf id' hnw.1 hnw.2] at k3; cases k3
        exact hm.inj id id' o oj b b' p1 k2 (.inr hoj) p2 k3 hbb
      · rw [q2] at q5; cases q5
        obtain ⟨k, j, oj, c', k1, k2, k3, k4, k5⟩ := ownB i q b' q2 q6 q4 (by omega)
        obtain ⟨xj, oj', zj, k6, yj⟩ := hobj k j k1
        rw [k2] at zj; cases zj
        have := hm.inj id j o oj' b c' p1 k6 (.inr (yj.ro k3)) p2 k4 (by omega)
        subst this
        exact absurd (hws2 k id oj k1 k2 k3) hin
    by_cases hin : id ∈ r.ws
    · by_cases hin' : id' ∈ r.ws
      · obtain ⟨i, q, q1, q2, y1, q4⟩ := (place id o b e g).1 hin
        obtain ⟨i', q', q1', q2', y2, q4'⟩ := (place id' o' b' e' g').1 hin'
        have := R.mod.inj i i' q q' b b' q2 q2' (hr2.imp (fun h => by rw [← y1.2.2.1]; exact h) fun h => by rw [← y2.2.2.1]; exact h) q4 q4' hbb
        subst this
        rw [q1] at q1'; cases q1'; rfl
      · exact (mixed id' id o' o b' b e' e hr2.symm g' g hbb.symm hin' hin).symm
    · by_cases hin' : id' ∈ r.ws
      · exact mixed id id' o o' b b' e e' hr2 g g' hbb hin hin'
      · obtain ⟨p1, p2, _⟩ := (place id o b e g).2 hin
        obtain ⟨p1', p2', _⟩ := (place id' o' b' e' g').2 hin'
        exact hm.inj id id' o o' b b' p1 p1' hr2 p2 p2' hbb
  · refine R.keep b hlt fun k o' c k1 k2 k3 hcb => ?_
    obtain ⟨j, hj⟩ := h0π k o' k1
    obtain ⟨_, oj, _, q2, _⟩ := hobj k j hj
    exact hno j oj c (hws2 k j o' hj k1 k2) q2 ((hback k j c hj).2 k3) hcb
  · rcases hws id hid with ⟨i, o, q1, q2, q3⟩ | h
    · obtain ⟨_, o', _, q4, _⟩ := hobj i id q1
      exact .inl ⟨o', q4⟩
    · exact .inr h
  · rcases hws id hid with ⟨i, o', q1, q2, q3⟩ | h
    · obtain ⟨o2, o3, q4, q5, q6⟩ := hobj i id q1
      rw [q2] at q4; cases q4
      rw [ho] at q5; cases q5
      exact q6.ro q3
    · obtain ⟨b, g1, _⟩ := hm.obj id o ho
      rw [hf id h.1 h.2] at g1; cases g1
  · obtain ⟨i, ⟨t1, t2, t3, t4⟩, hb1⟩ := hnew id b (hf id h1 h2) e
    rcases o6 i id t1 with hp | ⟨_, _, q, q5, q6⟩
    · rw [t4] at hp; cases hp
    · by_cases hlt : b.1 < w.heap.size
      · obtain ⟨k, j, oj, c', k1, k2, k3, k4, k5⟩ := ownB i q b q5 q6 hb1 hlt
        obtain ⟨_, oj', _, k6, _⟩ := hobj k j k1
        refine .inr ⟨j, oj', c', hws2 k j oj k1 k2 k3, k6, ?_, k4, k5⟩
        cases hrj : tget r.heap j with
        | none => rfl
        | some x =>
          obtain ⟨i2, x1, z1, z2, z3⟩ := o7 j x (hws2 k j oj k1 k2 k3) hrj
          have hk2 : i2 = k := o5 i2 k j z1 (o4 k j k1)
          subst hk2
          obtain ⟨b3, y1, y2⟩ := hold i2 j k1
          rw [k4] at y1; cases y1
          have := R.mod.inj i2 i x1 q c' b z2 q5 (.inr q6) y2 hb1 k5
          subst this
          rw [t4] at k1; cases k1
      · exact .inl (by omega)
end
end Go.Proofs.YtefnfbidphmgoaaDoor.Ex
