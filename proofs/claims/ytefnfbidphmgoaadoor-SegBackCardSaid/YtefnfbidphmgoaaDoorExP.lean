/- Runs in parts: what a frame leads to, from what is known of its numbers and memory. No conditions. -/
import Derived.Test.YtefnfbidphmgoaaDoorExO
set_option linter.unusedVariables false
set_option linter.unusedSimpArgs false
namespace Go.Proofs.YtefnfbidphmgoaaDoor.Ex
open Go Go.RowKit

/-! ### A table that says no more than another one -/

def Less {α : Type} (t u : T α) : Prop := ∀ k v, tget t k = some v → tget u k = some v
theorem Less.refl {α : Type} (t : T α) : Less t t := fun _ _ h => h
theorem Less.trans {α : Type} {t u v : T α} (h : Less t u) (k : Less u v) : Less t v := fun i x e => k i x (h i x e)

/-- Where a call began: its names, its memory. -/
structure Org where
  ρ : Rho
  H : Nat → Option HO
  w : World

section
variable (P : Program) (ε : Nat → Option Value) (base : Base)

/-- A frame as it is known, a part of a call that began at an origin. -/
structure Rel (O : Org) (nt : Nat) (s : St) (ρ : Rho) (a : Act) (w : World) : Prop where
  tm : TmR ρ ε s.tmps a.tmps
  sz : a.tmps.size = nt
  mod : Mod P ρ ε base w (tget s.heap)
  fresh : ∀ id, s.next ≤ id → ρ id = none
  hb : base.n ≤ w.heap.size
  ob : base.n ≤ O.w.heap.size
  ext : Sub O.ρ ρ
  own : ∀ id o c, tget s.heap id = some o → o.ro = false → ρ id = some c → O.w.heap.size ≤ c.1 ∨ ∃ k o' c', O.H k = some o' ∧ o'.ro = false ∧ O.ρ k = some c' ∧ c'.1 = c.1
  keep : ∀ b, b < O.w.heap.size → (∀ id o c, O.H id = some o → o.ro = false → O.ρ id = some c → c.1 ≠ b) → w.heap[b]? = O.w.heap[b]?
  size : O.w.heap.size ≤ w.heap.size
  os : w.os = O.w.os
  tape : w.tape = O.w.tape
  output : w.output = O.w.output
  orig : ∀ id, 8 ≤ id → O.ρ id = none

/-- A frame with this to do comes to its end, and Q is known then. -/
def Leads (nt : Nat) (todo : List Item) (s : St) (Q : St → Prop) : Prop :=
  ∀ (O : Org) (ρ : Rho) (a : Act) (w : World), Rel P ε base O nt s ρ a w → ∀ (b : Frame) (cs : List Frame),
    ∃ s' a' w' todo' ρ', Q s' ∧ Steps P (lone (b.at a todo) cs w) (lone { b.at a' todo' with mode := .returning } cs w') ∧ Rel P ε base O nt s' ρ' a' w' ∧ a'.defers = a.defers
end

section
variable {P : Program} {ε : Nat → Option Value} {base : Base}

theorem Leads.weak {nt : Nat} {todo : List Item} {s t : St} {Q : St → Prop} (ht : Less t.tmps s.tmps) (hh : Less t.heap s.heap) (hn : s.next ≤ t.next) (h : Leads P ε base nt todo t Q) : Leads P ε base nt todo s Q :=
  fun O ρ a w R b cs => h O ρ a w ⟨fun k v e => R.tm k v (ht k v e), R.sz, R.mod.mono fun id o e => hh id o e, fun id h1 => R.fresh id (Nat.le_trans hn h1), R.hb, R.ob, R.ext, fun id o c e => R.own id o c (hh id o e), R.keep, R.size, R.os, R.tape, R.output, R.orig⟩ b cs
theorem Leads.mono {nt : Nat} {todo : List Item} {s : St} {Q Q' : St → Prop} (h : Leads P ε base nt todo s Q) (hq : ∀ s', Q s' → Q' s') : Leads P ε base nt todo s Q' :=
  fun O ρ a w R b cs => let ⟨s', a', w', t', ρ', q, r⟩ := h O ρ a w R b cs; ⟨s', a', w', t', ρ', hq s' q, r⟩
theorem Rel.after {O : Org} {nt : Nat} {s s' : St} {ρ : Rho} {a a' : Act} {w w' : World} (R : Rel P ε base O nt s ρ a w) (h : After P ε base nt ρ w s s' a a' w') : ∃ ρ', Rel P ε base O nt s' ρ' a' w' ∧ a'.defers = a.defers := by
  obtain ⟨ρ', ws, hws, hs, ht, hsz, hd⟩ := h
  refine ⟨ρ', ⟨ht, hsz, hs.mod, fun id h1 => ?_, hs.hb R.hb, R.ob, R.ext.trans hs.ext, ?_, ?_, Nat.le_trans R.size hs.size, hs.os.trans R.os, hs.tape.trans R.tape, hs.output.trans R.output, R.orig⟩, hd⟩
  · cases h : ρ' id with
    | none => rfl
    | some c =>
      rcases hs.out id c h with h' | h'
      · rw [R.fresh id (Nat.le_trans hs.nle h1)] at h'; cases h'
      · omega
  · intro id o c e hro hc
    have viaK : ∀ k o1 c1, tget s.heap k = some o1 → o1.ro = false → ρ k = some c1 → c1.1 = c.1 → O.w.heap.size ≤ c.1 ∨ ∃ k o' c', O.H k = some o' ∧ o'.ro = false ∧ O.ρ k = some c' ∧ c'.1 = c.1 := by
      intro k o1 c1 g1 g2 g3 g4
      rcases R.own k o1 c1 g1 g2 g3 with g | ⟨k', o', c', g⟩
      · exact .inl (by rw [← g4]; exact g)
      · exact .inr ⟨k', o', c', g.1, g.2.1, g.2.2.1, by rw [g.2.2.2, g4]⟩
    by_cases hin : id ∈ ws
    · rcases hs.wsn id hin with ⟨o1, h1⟩ | h1
      · obtain ⟨c1, g1, g2, _, _⟩ := R.mod.obj id o1 h1
        have : c = c1 := by have := hs.ext id c1 g1; rw [hc] at this; exact Option.some.inj this
        subst this
        exact viaK id o1 c h1 (hs.wro id o1 hin h1) g1 rfl
      · rcases hs.fresh id c h1.1 h1.2 hc with g | ⟨k, o1, c1, g1, g2, g3, g4, g5⟩
        · exact .inl (Nat.le_trans R.size g)
        · exact viaK k o1 c1 g2 (hs.wro k o1 g1 g2) g4 g5
    · have h1 := hs.keep id hin
      rw [e] at h1
      obtain ⟨c1, g1, g2, _, _⟩ := R.mod.obj id o h1.symm
      have : c = c1 := by have := hs.ext id c1 g1; rw [hc] at this; exact Option.some.inj this
      subst this
      exact viaK id o c h1.symm hro g1 rfl
  · intro b hb hno
    rw [← R.keep b hb hno]
    refine hs.frame b (Nat.lt_of_lt_of_le hb R.size) fun id o c hin ho hc => ?_
    rcases R.own id o c ho (hs.wro id o hin ho) hc with g | ⟨k, o', c', g1, g2, g3, g4⟩
    · omega
    · rw [← g4]; exact hno k o' c' g1 g2 g3
theorem Rel.goes {O : Org} {nt : Nat} {s s' : St} {ρ : Rho} {a : Act} {w : World} {todo todo' : List Item} {Q : St → Prop} (R : Rel P ε base O nt s ρ a w) (b : Frame) (cs : List Frame)
    (h : ∃ a' w', Steps P (lone (b.at a todo) cs w) (lone (b.at a' todo') cs w') ∧ After P ε base nt ρ w s s' a a' w') (k : Leads P ε base nt todo' s' Q) :
    ∃ s' a' w' todo' ρ', Q s' ∧ Steps P (lone (b.at a todo) cs w) (lone { b.at a' todo' with mode := .returning } cs w') ∧ Rel P ε base O nt s' ρ' a' w' ∧ a'.defers = a.defers := by
  obtain ⟨a', w', h1, h2⟩ := h
  obtain ⟨ρ', R', hd⟩ := R.after h2
  obtain ⟨s2, a2, w2, t2, ρ2, q, st, R2, hd2⟩ := k O ρ' a' w' R' b cs
  exact ⟨s2, a2, w2, t2, ρ2, q, h1.trans st, R2, hd2.trans hd⟩

/-! ### One item -/

/-- One item of a frame: what is then to do (none: it has returned). -/
noncomputable def stepI (P : Program) (call : CallF) (nt : Nat) (todo : List Item) (s : St) : Except String (Option (List Item) × St) := match todo with
  | [] => .ok (none, s)
  | .code c :: r => match c with
    | .ret => .ok (none, s)
    | .skip => .ok (some r, s)
    | .label _ => .ok (some r, s)
    | .seq a b => .ok (some (.code a :: .code b :: r), s)
    | .cond c x y => match evalA s.tmps c with
      | some (.bool true) => .ok (some (.code x :: r), s)
      | some (.bool false) => .ok (some (.code y :: r), s)
      | _ => .error "cond"
    | .block id body => .ok (some (.code body :: .inBlock id :: r), s)
    | .loop body => .ok (some (.code body :: .inLoop body :: r), s)
    | .scope body => .ok (some (.code body :: .inScope body :: r), s)
    | .exit id => match exitTo id r with
      | some r' => .ok (some r', s)
      | none => .error "exit"
    | .goto l => match gotoIn l r with
      | some r' => .ok (some r', s)
      | none => .error "goto"
    | .region _ ops false => match runOps P call nt ops.toList ops.toList s with
      | .ok s' => .ok (some r, s')
      | .error w => .error w
    | .region _ ops true => match runDraw P call nt ops.toList s with
      | .ok s' => .ok (some r, s')
      | .error w => .error w
    | _ => .error "code"
  | .inBlock _ :: r => .ok (some r, s)
  | .inScope _ :: r => .ok (some r, s)
  | .inLoop body :: r => .ok (some (.code body :: .inLoop body :: r), s)
  | _ => .error "item"

theorem leads_step (hε : ∀ i V, ε i = some V → one V = true) (hN : NoCount P) (hmix : P.follows .mixedOrders = true) {call : CallF} (hc : CallsOk P ε base call) {nt : Nat} {todo : List Item} {s s' : St} {r : Option (List Item)} {Q : St → Prop}
    (h : stepI P call nt todo s = .ok (r, s')) (k : match r with | none => Q s' | some t => Leads P ε base nt t s' Q) : Leads P ε base nt todo s Q := by
  intro O ρ a w R b cs
  have hf : ∀ {n : Nat}, Fresh ρ s.next n := fun id h1 _ => R.fresh id h1
  have stay : ∀ {t : List Item}, step P (lone (b.at a todo) cs w) = .next (lone (b.at a t) cs w) → (some t, s) = (r, s') →
      ∃ s' a' w' todo' ρ', Q s' ∧ Steps P (lone (b.at a todo) cs w) (lone { b.at a' todo' with mode := .returning } cs w') ∧ Rel P ε base O nt s' ρ' a' w' ∧ a'.defers = a.defers := by
    intro t hst e
    cases e
    exact R.goes b cs ⟨a, w, .one hst, ρ, [], rfl, Step.refl R.mod, R.tm, R.sz, rfl⟩ k
  have region : ∀ {c : Code} {t : List Item} {s₁ : St}, todo = .code c :: t → c.wp P (fun e a' w' => e = .normal ∧ After P ε base nt ρ w s s₁ a a' w') a w → (some t, s₁) = (r, s') →
      ∃ s' a' w' todo' ρ', Q s' ∧ Steps P (lone (b.at a todo) cs w) (lone { b.at a' todo' with mode := .returning } cs w') ∧ Rel P ε base O nt s' ρ' a' w' ∧ a'.defers = a.defers := by
    intro c t s₁ hto hwp e
    cases e
    obtain ⟨a₁, w₁, hA, hst⟩ := steps_region hwp b t cs
    subst hto
    exact R.goes b cs ⟨a₁, w₁, hst, hA⟩ k
  rcases todo with _ | ⟨it, t⟩
  · simp only [stepI, Except.ok.injEq] at h
    cases h
    exact ⟨s, a, w, [], ρ, k, .one step_end, R, rfl⟩
  cases it with
  | code c =>
    cases c with
    | ret =>
      simp only [stepI, Except.ok.injEq] at h
      cases h
      exact ⟨s, a, w, _, ρ, k, .one step_ret, R, rfl⟩
    | skip => exact stay step_skip (Except.ok.inj h)
    | label _ => exact stay step_label (Except.ok.inj h)
    | seq _ _ => exact stay step_seq (Except.ok.inj h)
    | cond x y z =>
      simp only [stepI] at h
      split at h
      · rename_i hx
        have hbv := Rl_bool.1 (evalA_ok R.tm hx)
        exact stay (step_cond (t := true) hbv) (Except.ok.inj h)
      · rename_i hx
        have hbv := Rl_bool.1 (evalA_ok R.tm hx)
        exact stay (step_cond (t := false) hbv) (Except.ok.inj h)
      · cases h
    | block _ _ => exact stay step_block (Except.ok.inj h)
    | loop _ => exact stay step_loop (Except.ok.inj h)
    | scope _ => exact stay step_scope (Except.ok.inj h)
    | exit id =>
      simp only [stepI] at h
      split at h
      · rename_i k' hk'; exact stay (step_exit hk') (Except.ok.inj h)
      · cases h
    | goto l =>
      simp only [stepI] at h
      split at h
      · rename_i k' hk'; exact stay (step_goto hk') (Except.ok.inj h)
      · cases h
    | region id ops draw =>
      cases draw with
      | false =>
        simp only [stepI] at h
        split at h
        · rename_i s₁ h₁
          refine region rfl (wp_region ?_) (Except.ok.inj h)
          rw [List.range_eq_range']
          have : ops.size = ops.toList.length := by simp
          rw [this]
          exact runOps_ok hε hN hc ops.toList 0 s s₁ ρ a w (by simp) h₁ R.tm R.sz R.mod hf R.hb fun a' w' hA => ⟨rfl, hA⟩
        · cases h
      | true =>
        simp only [stepI] at h
        split at h
        · rename_i s₁ h₁
          refine region rfl (runDraw_ok hε hN hmix hc h₁ R.tm R.sz R.mod hf R.hb fun a' w' hA => ⟨rfl, hA⟩) (Except.ok.inj h)
        · cases h
    | _ => cases h
  | inBlock _ => exact stay step_inBlock (Except.ok.inj h)
  | inScope _ => exact stay step_inScope (Except.ok.inj h)
  | inLoop _ => exact stay step_inLoop (Except.ok.inj h)
  | _ => cases h
end
end Go.Proofs.YtefnfbidphmgoaaDoor.Ex
