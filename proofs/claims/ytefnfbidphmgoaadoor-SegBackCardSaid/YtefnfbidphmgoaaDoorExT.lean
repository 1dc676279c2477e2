/- The reckoner with what is said ahead: it is sound; parts of a run. No conditions. -/
import Derived.Test.YtefnfbidphmgoaaDoorExR
set_option linter.unusedVariables false
set_option linter.unusedSimpArgs false
namespace Go.Proofs.YtefnfbidphmgoaaDoor.Ex
open Go Go.RowKit

section
variable {P : Program} {ε : Nat → Option Value} {base : Base}

/-- A call comes to this. -/
def CallOk (P : Program) (ε : Nat → Option Value) (base : Base) (f : FuncId) (args : List Value) (h : T HO) (n : Nat) (r : Out) : Prop :=
  ∀ (ρ : Rho) (w : World) (ARGS : List Value), RlL ρ ε args ARGS → Mod P ρ ε base w (tget h) → Fresh ρ n r.next → base.n ≤ w.heap.size →
    Calls P f ARGS.toArray w fun e w' => ∃ V, e = .returned V ∧ Good P ε base ρ w h n r V w'
def EntOk (P : Program) (ε : Nat → Option Value) (base : Base) (f : FuncId) (V : Ent) : Prop := ∀ j args h n r p, V j args h n = some (r, p) → p → CallOk P ε base f args h n r
/-- What is told of a listed variable. -/
def EntGlob (P : Program) (base : Base) (g : Nat) (V : Ent) : Prop := ∀ j t h n r p, V j [.int .i64 (Int.ofNat t)] h n = some (r, p) → p → g < base.n ∧ closed DC r.v = true ∧ r = ⟨r.v, h, n, []⟩ ∧ ∀ w : World, w.heap[g]? = base.old g → (Instr.loadAt t (.pointer (some ⟨g, 0, none⟩))).run P w = .ok r.v w
def SpecsOk (P : Program) (ε : Nat → Option Value) (base : Base) (C : Specs) : Prop := ∀ x ∈ C, (x.1 < 1000000000 → EntOk P ε base x.1 x.2) ∧ (∀ g, x.1 = 1000000000 + g → EntGlob P base g x.2)
theorem items_run {call : CallF} {nt : Nat} : ∀ (f : Nat) (todo : List Item) (s s' : St), itemsA P call nt f todo s = .ok (none, s') → ∃ f', runItems P call nt f' todo s = .ok s'
  | 0, todo, s, s', e => by simp [itemsA] at e
  | f + 1, todo, s, s', e => by
    simp only [itemsA] at e
    have more : ∀ {t : List Item}, itemsA P call nt f t s = .ok (none, s') → (∀ f', runItems P call nt (f' + 1) todo s = runItems P call nt f' t s) → ∃ f', runItems P call nt f' todo s = .ok s' := by
      intro t e2 h
      obtain ⟨f', h'⟩ := items_run f t s s' e2
      exact ⟨f' + 1, by rw [h f', h']⟩
    have more2 : ∀ {t : List Item} {s₁ : St}, itemsA P call nt f t s₁ = .ok (none, s') → (∀ f', runItems P call nt (f' + 1) todo s = runItems P call nt f' t s₁) → ∃ f', runItems P call nt f' todo s = .ok s' := by
      intro t s₁ e2 h
      obtain ⟨f', h'⟩ := items_run f t s₁ s' e2
      exact ⟨f' + 1, by rw [h f', h']⟩
    rcases todo with _ | ⟨it, r⟩
    · simp only [stepI, Except.ok.injEq, Prod.mk.injEq, true_and] at e
      subst e
      exact ⟨1, rfl⟩
    cases it with
    | code c =>
      cases c with
      | ret =>
        simp only [stepI, Except.ok.injEq, Prod.mk.injEq, true_and] at e
        subst e
        exact ⟨1, rfl⟩
      | skip => exact more e fun _ => rfl
      | label _ => exact more e fun _ => rfl
      | seq _ _ => exact more e fun _ => rfl
      | cond x y z =>
        simp only [stepI] at e
        cases hx : evalA s.tmps x with
        | none => simp only [hx] at e; cases e
        | some v =>
          cases v with
          | bool b => cases b <;> (simp only [hx] at e; exact more e fun _ => by rw [runItems_succ]; simp only [itemStep, hx])
          | _ => simp only [hx] at e; cases e
      | block _ _ => exact more e fun _ => rfl
      | loop _ => exact more e fun _ => rfl
      | scope _ => exact more e fun _ => rfl
      | exit id =>
        simp only [stepI] at e
        cases hx : exitTo id r with
        | none => simp only [hx] at e; cases e
        | some r' => simp only [hx] at e; exact more e fun _ => by rw [runItems_succ]; simp only [itemStep, hx]
      | goto l =>
        simp only [stepI] at e
        cases hx : gotoIn l r with
        | none => simp only [hx] at e; cases e
        | some r' => simp only [hx] at e; exact more e fun _ => by rw [runItems_succ]; simp only [itemStep, hx]
      | region id ops draw =>
        cases draw with
        | false =>
          simp only [stepI] at e
          cases hx : runOps P call nt ops.toList ops.toList s with
          | error w => simp only [hx] at e; cases e
          | ok s₁ => simp only [hx] at e; exact more2 e fun _ => by rw [runItems_succ]; simp only [itemStep, hx]
        | true =>
          simp only [stepI] at e
          cases hx : runDraw P call nt ops.toList s with
          | error w => simp only [hx] at e; cases e
          | ok s₁ => simp only [hx] at e; exact more2 e fun _ => by rw [runItems_succ]; simp only [itemStep, hx]
      | _ => simp only [stepI] at e; cases e
    | inBlock _ => exact more e fun _ => rfl
    | inScope _ => exact more e fun _ => rfl
    | inLoop _ => exact more e fun _ => rfl
    | _ => simp only [stepI] at e; cases e

/-- A frame that has come to its end, and what its call comes to. -/
theorem call_end {f : FuncId} {fn : Func} {c : Code} (hfn : P.funcs[f]? = some fn) (hbody : fn.body = some c) {args ARGS : List Value} {ρ : Rho} {w : World} (hargs : RlL ρ ε args ARGS) (hle : args.length ≤ fn.ntmps) {R : Value → World → Prop}
    (h : ∀ (b : Frame) (a : Act) (cs : List Frame), TmR ρ ε (putArgs [] 0 args) a.tmps → a.tmps.size = fn.ntmps →
      ∃ a' w' todo' V, Steps P (lone (b.at a [.code c]) cs w) (lone { b.at a' todo' with mode := .returning } cs w') ∧ a'.defers = a.defers ∧ (results fn a'.tmps).run P w' = .ok V w' ∧ R V w') :
    Calls P f ARGS.toArray w fun e w' => ∃ V, e = .returned V ∧ R V w' := fun cs => by
  have hlen := hargs.length
  let b : Frame := { (default : Frame) with fn := f, kind := .normal }
  let a : Act := { tmps := ARGS.toArray ++ Array.replicate (fn.ntmps - ARGS.toArray.size) undef, defers := [] }
  have henter : Frame.enter P f ARGS.toArray .normal = b.at a [.code c] := by simp [Frame.enter, Frame.at, hfn, hbody, b, a]
  have htm : TmR ρ ε (putArgs [] 0 args) a.tmps := fun t v hv => by
    rw [putArgs_get] at hv
    split at hv
    · rename_i hlt
      rw [Nat.sub_zero] at hv
      obtain ⟨V, h1, h2⟩ := hargs.get t v hv
      refine ⟨V, ?_, h2⟩
      have hlt2 : t < ARGS.length := (List.getElem?_eq_some_iff.1 h1).1
      simp only [a]
      rw [Array.getElem?_append_left (by simpa using hlt2)]
      simpa using h1
    · rw [tget_nil] at hv; cases hv
  have hsz : a.tmps.size = fn.ntmps := by simp [a]; omega
  obtain ⟨a', w', todo', V, hst, hd, hr, hR⟩ := h b a cs htm hsz
  refine ⟨.returned V, w', { b.at a' todo' with mode := .returning }, ⟨V, rfl, hR⟩, by rw [henter]; exact hst, rfl, rfl, ?_, rfl, fn, hfn, hr⟩
  show a'.defers = []
  rw [hd]
/-- What results come to. -/
theorem results_of {fn : Func} {s : St} {ρ' : Rho} {w' : World} {A : Array Value} {vs : List Value} {v : Value} (hvs : optL (resA P s.tmps s.heap) fn.results.toList = some vs) (hv : (vs = [v]) ∨ (vs.length ≠ 1 ∧ v = .tuple vs.toArray))
    (ht : TmR ρ' ε s.tmps A) (hm : Mod P ρ' ε base w' (tget s.heap)) : ∃ V, (results fn A).run P w' = .ok V w' ∧ Rl ρ' ε v V := by
  obtain ⟨VS, h1, h2⟩ := results_ok hvs ht hm
  have hl := h2.length
  rcases hv with rfl | ⟨hne, rfl⟩
  · cases VS with
    | nil => exact h2.elim
    | cons V VS => cases VS with
      | nil => exact ⟨V, by rw [h1]; rfl, h2.1⟩
      | cons _ _ => exact h2.2.elim
  · refine ⟨.tuple VS.toArray, ?_, Rl_tuple.2 ⟨VS, rfl, h2⟩⟩
    rw [h1, dif_neg (by simp; omega)]
theorem runCallC_ok (hε : ∀ i V, ε i = some V → one V = true) (hN : NoCount P) (hmix : P.follows .mixedOrders = true) {C : Specs} (hC : SpecsOk P ε base C) : ∀ d, CallsOk P ε base (runCallC P C d)
  | 0 => ⟨fun g t h n r e => by simp [runCallC] at e, fun f args h n r _ e => by simp [runCallC] at e⟩
  | d + 1 => ⟨(fun g t h n r e => by
    simp only [runCallC] at e
    cases hent : entOf C (1000000000 + g) with
    | some V =>
      simp only [hent] at e
      split at e
      · rename_i r' hr
        simp only [Except.ok.injEq] at e
        subst e
        obtain ⟨j, p, hv, hp⟩ := entFn_some hr
        exact (hC _ (entOf_mem hent)).2 g rfl j t h n _ p hv hp
      · cases e
    | none =>
      have hbig : Nat.ble 1000000000 (1000000000 + g) = true := Nat.ble_eq_true_of_le (by omega)
      simp only [hent, hbig, cond_true] at e
      cases e), fun f args h n r hflt e ρ w ARGS hargs hm hf hb => by
    have ihc := runCallC_ok hε hN hmix hC d
    simp only [runCallC] at e
    cases hent : entOf C f with
    | some V =>
      simp only [hent] at e
      split at e
      · rename_i r' hr
        simp only [Except.ok.injEq] at e
        subst e
        obtain ⟨j, p, hv, hp⟩ := entFn_some hr
        exact (hC _ (entOf_mem hent)).1 hflt j args h n _ p hv hp ρ w ARGS hargs hm hf hb
      · cases e
    | none =>
    simp only [hent] at e
    cases hbig : Nat.ble 1000000000 f <;> simp only [hbig, cond_true, cond_false] at e
    case true => cases e
    split at e
    · cases e
    rename_i fn hfn
    split at e
    · cases e
    rename_i c hbody
    cases hle : Nat.ble args.length fn.ntmps <;> simp only [hle, cond_true, cond_false] at e
    · cases e
    have hle := Nat.le_of_ble_eq_true hle
    split at e
    · cases e
    · cases e
    rename_i s hs
    obtain ⟨f', hs⟩ := items_run _ _ _ _ hs
    have hfin : s.next = r.next := by
      split at e
      · cases e
      · cases e; rfl
      · cases e; rfl
    refine call_end (R := fun V w' => Good P ε base ρ w h n r V w') hfn hbody hargs hle fun b a cs htm hsz => ?_
    obtain ⟨a', w', todo', hsteps, ρ', ws, hws, hstep, htm', hsz', hdf⟩ := runItems_ok hε hN hmix ihc f' [.code c] ⟨putArgs [] 0 args, h, n, []⟩ s ρ a w hs htm hsz hm (by rw [hfin]; exact hf) hb b cs
    simp only [List.append_nil] at hws
    have fin : ∀ v, r = ⟨v, s.heap, s.next, s.ws⟩ → (∃ V, (results fn a'.tmps).run P w' = .ok V w' ∧ Rl ρ' ε v V) → ∃ a' w' todo' V, Steps P (lone (b.at a [.code c]) cs w) (lone { b.at a' todo' with mode := .returning } cs w') ∧ a'.defers = a.defers ∧ (results fn a'.tmps).run P w' = .ok V w' ∧ Good P ε base ρ w h n r V w' := by
      intro v hr ⟨V, h1, h2⟩
      refine ⟨a', w', todo', V, hsteps, hdf, h1, ρ', ?_, by rw [hr]; exact h2⟩
      rw [hr]
      simp only [hws]
      exact hstep
    split at e
    · cases e
    · rename_i v hvs
      simp only [Except.ok.injEq] at e
      exact fin v e.symm (results_of hvs (.inl rfl) htm' hstep.mod)
    · rename_i vs hne hvs
      simp only [Except.ok.injEq] at e
      refine fin (.tuple vs.toArray) e.symm (results_of hvs (.inr ⟨fun h1 => ?_, rfl⟩) htm' hstep.mod)
      obtain ⟨x, hx⟩ := List.length_eq_one_iff.1 h1
      first | exact hne x hx | exact hne x (by rw [hvs, hx]) | (subst hx; exact hne x rfl)⟩

/-! ### Parts of a run -/

theorem leads_items (hε : ∀ i V, ε i = some V → one V = true) (hN : NoCount P) (hmix : P.follows .mixedOrders = true) {call : CallF} (hc : CallsOk P ε base call) {nt : Nat} {Q : St → Prop} : ∀ (f : Nat) (todo : List Item) (s s' : St) (t : Option (List Item)),
    itemsA P call nt f todo s = .ok (t, s') → (match t with | none => Q s' | some t => Leads P ε base nt t s' Q) → Leads P ε base nt todo s Q
  | 0, todo, s, s', t, e, k => by simp only [itemsA, Except.ok.injEq, Prod.mk.injEq] at e; obtain ⟨rfl, rfl⟩ := e; exact k
  | f + 1, todo, s, s', t, e, k => by
    simp only [itemsA] at e
    split at e
    · cases e
    · rename_i s₁ h₁
      simp only [Except.ok.injEq, Prod.mk.injEq] at e
      obtain ⟨rfl, rfl⟩ := e
      exact leads_step hε hN hmix hc h₁ k
    · rename_i t₁ s₁ h₁
      exact leads_step hε hN hmix hc h₁ (leads_items hε hN hmix hc f t₁ s₁ s' t e k)
/-- What a part of a run comes to. -/
noncomputable def segT : Except String (Option (List Item) × SS) → Option (List Item)
  | .ok (some t, _) => some t
  | _ => none
noncomputable def segS : Except String (Option (List Item) × SS) → SS
  | .ok (_, s) => s
  | .error _ => ⟨⟨[], [], 0, []⟩, [False]⟩
noncomputable def okB : Except String (Option (List Item) × SS) → Bool
  | .ok _ => true
  | .error _ => false
noncomputable def goesB : Except String (Option (List Item) × SS) → Bool
  | .ok (some _, _) => true
  | _ => false
noncomputable def endsB : Except String (Option (List Item) × SS) → Bool
  | .ok (none, _) => true
  | _ => false
noncomputable def todoOf : Except String (Option (List Item) × SS) → List Item
  | .ok (some t, _) => t
  | _ => []
/-- What a program is asked, once. -/
structure Env (P : Program) (ε : Nat → Option Value) (base : Base) (C : Specs) : Prop where
  hε : ∀ i V, ε i = some V → one V = true
  hN : NoCount P
  hmix : P.follows .mixedOrders = true
  hC : SpecsOk P ε base C
  hD : SpecsDet C
theorem Env.calls {C : Specs} (E : Env P ε base C) (d : Nat) : CallsOk P ε base (runCallC P C d) := runCallC_ok E.hε E.hN E.hmix E.hC d
/-- A part that goes on. -/
theorem leads_seg {C : Specs} (E : Env P ε base C) (d f : Nat) (hk : Hk) {nt : Nat} {todo : List Item} {s : St} {Q : St → Prop} {p : List Prop} (hb : goesB (itemsS P (runCallS P C d) hk nt f 0 todo ⟨s, []⟩) = true)
    (hp : (segS (itemsS P (runCallS P C d) hk nt f 0 todo ⟨s, []⟩)).ob = p) (hob : AllP p) {t : List Item} {s' : St} (ht : todoOf (itemsS P (runCallS P C d) hk nt f 0 todo ⟨s, []⟩) = t) (hs' : (segS (itemsS P (runCallS P C d) hk nt f 0 todo ⟨s, []⟩)).st = s') (k : Leads P ε base nt t s' Q) : Leads P ε base nt todo s Q := by
  cases he : itemsS P (runCallS P C d) hk nt f 0 todo ⟨s, []⟩ with
  | error w => rw [he] at hb; cases hb
  | ok x =>
    obtain ⟨t', s₁⟩ := x
    cases t' with
    | none => rw [he] at hb; cases hb
    | some t' =>
      rw [he] at hp ht hs'
      simp only [segS, todoOf] at hp ht hs'
      subst ht hs' hp
      exact leads_items E.hε E.hN E.hmix (E.calls d) f todo s s₁.st (some t') (itemsS_ok (runCallS_ok E.hD d) f 0 todo ⟨s, []⟩ s₁ (some t') he hob).2 k
/-- A part that ends. -/
theorem leads_end {C : Specs} (E : Env P ε base C) (d f : Nat) (hk : Hk) {nt : Nat} {todo : List Item} {s : St} {Q : St → Prop} {p : List Prop} (hb : endsB (itemsS P (runCallS P C d) hk nt f 0 todo ⟨s, []⟩) = true)
    (hp : (segS (itemsS P (runCallS P C d) hk nt f 0 todo ⟨s, []⟩)).ob = p) (hob : AllP p) (k : Q (segS (itemsS P (runCallS P C d) hk nt f 0 todo ⟨s, []⟩)).st) : Leads P ε base nt todo s Q := by
  cases he : itemsS P (runCallS P C d) hk nt f 0 todo ⟨s, []⟩ with
  | error w => rw [he] at hb; cases hb
  | ok x =>
    obtain ⟨t', s₁⟩ := x
    cases t' with
    | some _ => rw [he] at hb; cases hb
    | none =>
      rw [he] at hp k
      simp only [segS] at hp k
      subst hp
      exact leads_items E.hε E.hN E.hmix (E.calls d) f todo s s₁.st none (itemsS_ok (runCallS_ok E.hD d) f 0 todo ⟨s, []⟩ s₁ none he hob).2 k
end
end Go.Proofs.YtefnfbidphmgoaaDoor.Ex
