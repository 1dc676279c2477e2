/- A reckoner for runs of fixed texts, eleventh part: an operation, a region in the order of the text. Conditions: as in the tenth part. -/
import Derived.Test.YtefnfbidphmgoaaDoorExJ
set_option linter.unusedVariables false
set_option linter.unusedSimpArgs false
namespace Go.Proofs.YtefnfbidphmgoaaDoor.Ex
open Go Go.RowKit

def Fresh (ρ : Rho) (lo hi : Nat) : Prop := ∀ id, lo ≤ id → id < hi → ρ id = none
/-- No function that has a text bears the name that the machine takes for the count of goroutines. -/
def NoCount (P : Program) : Prop := ∀ (f : Nat) (fn : Func), P.funcs[f]? = some fn → fn.body.isSome = true → (fn.name == "runtime.NumGoroutine") = false
/-- What is told of listed variables holds. -/
def GlobOk (P : Program) (base : Base) (call : CallF) : Prop :=
  ∀ g t h n r, call (1000000000 + g) [.int .i64 (Int.ofNat t)] h n = .ok r → g < base.n ∧ closed DC r.v = true ∧ r = ⟨r.v, h, n, []⟩ ∧ ∀ w : World, w.heap[g]? = base.old g → (Instr.loadAt t (.pointer (some ⟨g, 0, none⟩))).run P w = .ok r.v w
def CallsOk (P : Program) (ε : Nat → Option Value) (base : Base) (call : CallF) : Prop := GlobOk P base call ∧
  ∀ f args h n r, f < 1000000000 → call f args h n = .ok r → ∀ (ρ : Rho) (w : World) (ARGS : List Value), RlL ρ ε args ARGS → Mod P ρ ε base w (tget h) → Fresh ρ n r.next → base.n ≤ w.heap.size →
    Calls P f ARGS.toArray w fun e w' => ∃ V, e = .returned V ∧ Good P ε base ρ w h n r V w'
def TmR (ρ : Rho) (ε : Nat → Option Value) (tmps : T Value) (A : Array Value) : Prop := ∀ t v, tget tmps t = some v → ∃ V, A[t]? = some V ∧ Rl ρ ε v V

section
variable {P : Program} {ε : Nat → Option Value} {base : Base} {ρ : Rho} {w : World}

theorem TmR.sub {ρ' : Rho} (hs : Sub ρ ρ') {tmps : T Value} {A : Array Value} (h : TmR ρ ε tmps A) : TmR ρ' ε tmps A := fun t v e => let ⟨V, h1, h2⟩ := h t v e; ⟨V, h1, h2.sub hs⟩
theorem TmR.put {tmps : T Value} {A : Array Value} (h : TmR ρ ε tmps A) {d : Nat} (hd : d < A.size) {v V : Value} (hv : Rl ρ ε v V) : TmR ρ ε (tput tmps d (some v)) (A.setIfInBounds d V) := fun t u e => by
  rw [tget_tput] at e
  by_cases ht : t = d
  · subst ht
    rw [if_pos rfl] at e
    cases e
    exact ⟨V, by simp [hd], hv⟩
  · rw [if_neg ht] at e
    obtain ⟨U, h1, h2⟩ := h t u e
    exact ⟨U, by rw [Array.getElem?_setIfInBounds_ne (Ne.symm ht)]; exact h1, h2⟩
/-- A frame's temporaries behind an operation. -/
theorem put_tmr {a : Act} {tmps : T Value} {nt : Nat} {dst : Option Tmp} {v V : Value} (h : TmR ρ ε tmps a.tmps) (hs : a.tmps.size = nt) (hd : dstOk nt dst = true) (hv : Rl ρ ε v V) :
    TmR ρ ε (putDst tmps dst v) (a.put dst V).tmps ∧ (a.put dst V).tmps.size = nt ∧ (a.put dst V).defers = a.defers := by
  cases dst with
  | none => exact ⟨h, hs, rfl⟩
  | some d =>
    have hlt : d < nt := by simpa [dstOk, Nat.blt_eq] using hd
    exact ⟨h.put (by rw [hs]; exact hlt) hv, by simp [Act.put, hs], rfl⟩
theorem evalA_ok {tmps : T Value} {a : Act} (h : TmR ρ ε tmps a.tmps) {x : Operand} {v : Value} (e : evalA tmps x = some v) : Rl ρ ε v (a.eval x) := by
  cases x with
  | tmp t =>
    obtain ⟨V, h1, h2⟩ := h t v e
    show Rl ρ ε v (a.tmps.getD t undef)
    rw [Array.getD_eq_getD_getElem?, h1]
    exact h2
  | const c =>
    simp only [evalA] at e
    cases hc : closed DC c <;> simp only [hc, cond_true, cond_false] at e
    · cases e
    cases e
    exact Rl_closed hc
  | global g => cases e
  | func f =>
    cases e
    exact Rl_func.2 ⟨[], [], rfl, trivial, trivial⟩
theorem yieldedA_ok {ops : Array Oper} {tmps : T Value} {A : Array Value} {j : Nat} {r : Option Bool} (h : ∀ o d v, ops[j]? = some o → o.dst = some d → tget tmps d = some v → ∃ V, A[d]? = some V ∧ Rl ρ ε v V) (e : yieldedA ops.toList tmps j = some r) : yielded ops A j = r := by
  unfold yieldedA at e
  unfold yielded
  rw [lget_eq] at e
  rw [← Array.getElem?_toList] at h ⊢
  split at e
  · rename_i hj; rw [hj]; cases e; rfl
  · rename_i o hj
    have h := h o
    rw [hj] at h ⊢
    simp only [Option.bind_some]
    split at e
    · rename_i hd; rw [hd]; cases e; rfl
    · rename_i d hd
      rw [hd]
      simp only [Option.bind_some]
      split at e
      · rename_i b hb
        obtain ⟨V, h1, h2⟩ := h d _ rfl hd hb
        rw [h1, Rl_bool.1 h2]
        cases e
        rfl
      · rename_i vs hb
        obtain ⟨V, h1, h2⟩ := h d _ rfl hd hb
        obtain ⟨L, rfl, _⟩ := Rl_tuple.1 h2
        rw [h1]
        cases e
        rfl
      · cases e
theorem wantedA_ok {ops : Array Oper} {tmps : T Value} {A : Array Value} {o : Oper} {r : Bool} (h : ∀ j want og d v, o.guard = some (j, want) → ops[j]? = some og → og.dst = some d → tget tmps d = some v → ∃ V, A[d]? = some V ∧ Rl ρ ε v V) (e : wantedA ops.toList tmps o = some r) : Region.wanted o (yielded ops A) = r := by
  unfold wantedA at e
  unfold Region.wanted
  split at e
  · rename_i hg; rw [hg]; cases e; rfl
  · rename_i j want hg
    have h' : ∀ o d v, ops[j]? = some o → o.dst = some d → tget tmps d = some v → ∃ V, A[d]? = some V ∧ Rl ρ ε v V := fun og d v => h j want og d v hg
    rw [hg]
    split at e
    · rename_i b hb; simp only [yieldedA_ok h' hb]; cases e; cases b <;> cases want <;> rfl
    · rename_i hb; simp only [yieldedA_ok h' hb]; cases e; rfl
    · cases e
theorem calleeA_eq {o : Oper} {f : Operand} {args : List Operand} (h : calleeA o = some (f, args)) : ∃ as ts, o.op = .call { callee := .value f, args := as, argTypes := ts } ∧ as.toList = args := by
  unfold calleeA at h
  split at h
  · rename_i g as ts ho
    simp only [Option.some.injEq, Prod.mk.injEq] at h
    exact ⟨as, ts, by rw [ho, h.1], h.2⟩
  · cases h
/-- One operation. -/
theorem stepA_ok (hε : ∀ i V, ε i = some V → one V = true) (hN : NoCount P) {call : CallF} (hc : CallsOk P ε base call) {o : Oper} {ev : Operand → Option Value} {a : Act} {h : T HO} {n : Nat} {r : Out} (hr : stepA P call o ev h n = .ok r)
    (hev : EvR ρ ε o ev a.eval) (hm : Mod P ρ ε base w (tget h)) (hf : Fresh ρ n r.next) (hb : base.n ≤ w.heap.size) {next : Act → World → Prop} {Q : Exit → Act → World → Prop} (hk : ∀ V w', Good P ε base ρ w h n r V w' → next (a.put o.dst V) w') : o.wp P a w next Q := by
  unfold stepA at hr
  split at hr
  · rename_i f args hcal
    obtain ⟨as, ts, hop, rfl⟩ := calleeA_eq hcal
    split at hr
    case h_2 => cases hr
    rename_i g A B vs hf' hvs
    have hF := hev f (by rw [hop]; simp [Op.operands, Call.operands]) _ hf'
    obtain ⟨A', B', hFe, hA, hB⟩ := Rl_func.1 hF
    have hV := optL_ev (e := a.eval) (fun x hx v hv => hev x (by rw [hop]; simp [Op.operands, Call.operands]; right; simpa using hx) v hv) hvs
    have hall : RlL ρ ε (A.toList ++ vs ++ B.toList) (A' ++ as.toList.map a.eval ++ B') := (hA.append hV).append hB
    have hrun : (execOp a.eval o).run P w = (callFunc g (A' ++ as.toList.map a.eval ++ B').toArray).run P w := by
      have hargs : as.map a.eval = (as.toList.map a.eval).toArray := by apply Array.ext'; simp
      simp [execOp, hop, resolve, hFe, Deferred.ofValue, invoke, hargs]
    split at hr
    · -- it has a text
      rename_i hbody
      unfold hasBody at hbody
      cases hlt : Nat.blt g 1000000000 <;> simp only [hlt, cond_true, cond_false] at hbody
      · cases hbody
      have hlt : g < 1000000000 := by rw [Nat.blt_eq] at hlt; exact hlt
      split at hbody
      case h_2 => cases hbody
      rename_i fn hfn
      simp only [Option.some.injEq] at hbody
      have hrun2 : (callFunc g (A' ++ as.toList.map a.eval ++ B').toArray).run P w = .ok (.enter g (A' ++ as.toList.map a.eval ++ B').toArray) w := by
        have hnone : fn.body.isNone = false := by cases hfb : fn.body <;> simp_all
        simp only [callFunc, Sem.run_bind, run_program, Result.andThen_ok, hfn, hN g fn hfn hbody, Bool.false_eq_true, if_false, hnone, Sem.run_pure]
      have hcalls := hc.2 g _ h n r hlt hr ρ w _ hall hm hf hb
      unfold Oper.wp
      rw [hrun, hrun2, Oper.upon_enter]
      refine hcalls.mono ?_
      rintro e w' ⟨V, rfl, hg⟩
      exact hk V w' hg
    · split at hr
      · rename_i hbody q hq
        simp only [Except.ok.injEq] at hr
        subst hr
        unfold externA at hq
        cases hcl : (A.toList ++ vs ++ B.toList).all (closed DC) <;> simp only [hcl, cond_true, cond_false] at hq
        · cases hq
        have hself := RlL_closed (ρ := ρ) (ε := ε) _ hcl
        have hsame : A' ++ as.toList.map a.eval ++ B' = A.toList ++ vs ++ B.toList := by
          have det : ∀ {l X Y : List Value}, RlL ρ ε l X → RlL ρ ε l Y → X = Y := by
            intro l
            induction l with
            | nil => intro X Y hX hY; cases X <;> cases Y <;> first | rfl | exact hX.elim | exact hY.elim
            | cons c r ih =>
              intro X Y hX hY
              cases X with
              | nil => exact hX.elim
              | cons X1 X2 => cases Y with
                | nil => exact hY.elim
                | cons Y1 Y2 => rw [hX.1.det hY.1, ih hX.2 hY.2]
          exact det hall hself
        split at hq
        case h_2 => cases hq
        rename_i u hu
        cases hcu : closed DC u <;> simp only [hcu, cond_true, cond_false] at hq
        · cases hq
        simp only [Option.some.injEq] at hq
        subst hq
        unfold Oper.wp
        rw [hrun, hsame, pureEval_run _ _ w hu, Oper.upon_value]
        exact hk u w (Good.val hm (Rl_closed hcu))
      · cases hr
    · cases hr
  · split at hr
    · rename_i g t hga
      have hop : o.op = .load t (.global g) := by
        unfold globA at hga
        split at hga
        · rename_i t' g' ho
          simp only [Option.some.injEq, Prod.mk.injEq] at hga
          rw [ho, hga.1, hga.2]
        · cases hga
      obtain ⟨hgb, hcl, hre, hload⟩ := hc.1 g t h n r hr
      have he : a.eval (.global g) = .pointer (some ⟨g, 0, none⟩) := rfl
      have hl := hload w (hm.old g hgb)
      have hrun : (execOp a.eval o).run P w = .ok (.value r.v) w := by simp [execOp, hop, he, hl]
      unfold Oper.wp
      rw [hrun, Oper.upon_value]
      refine hk r.v w ?_
      rw [hre]
      exact Good.val hm (Rl_closed hcl)
    split at hr
    case h_2 => cases hr
    rename_i q hq
    simp only [Except.ok.injEq] at hr
    subst hr
    have key : ∃ V w', Runs P a.eval o w V w' ∧ Good P ε base ρ w h n q V w' := by
      unfold opA orElse at hq
      split at hq
      · rename_i x hx
        cases hq
        exact spec_ok hε hx hev hm hf hb
      · obtain ⟨u, hu, rfl⟩ := valOut_eq hq
        obtain ⟨h1, h2⟩ := plain_ok hu hev w
        exact ⟨u, w, .inl h1, Good.val hm h2⟩
    obtain ⟨V, w', hrun, hg⟩ := key
    unfold Oper.wp
    rcases hrun with hrun | ⟨hrun, rfl⟩
    · rw [hrun, Oper.upon_value]; exact hk V w' hg
    · rw [hrun, Oper.upon_skip]; exact hk undef w' hg

/-- What is known behind a run in a frame. -/
def After (P : Program) (ε : Nat → Option Value) (base : Base) (nt : Nat) (ρ : Rho) (w : World) (s s' : St) (a a' : Act) (w' : World) : Prop :=
  ∃ ρ' ws, s'.ws = ws ++ s.ws ∧ Step P ε base ρ w (tget s.heap) s.next ρ' w' (tget s'.heap) s'.next ws ∧ TmR ρ' ε s'.tmps a'.tmps ∧ a'.tmps.size = nt ∧ a'.defers = a.defers
theorem After.trans {nt : Nat} {s s₁ s₂ : St} {a a₁ a₂ : Act} {w₁ w₂ : World} {ρ₁ : Rho} {ws₁ : List Nat} (hm : Mod P ρ ε base w (tget s.heap)) (hw : s₁.ws = ws₁ ++ s.ws) (h : Step P ε base ρ w (tget s.heap) s.next ρ₁ w₁ (tget s₁.heap) s₁.next ws₁) (hd : a₁.defers = a.defers)
    (k : After P ε base nt ρ₁ w₁ s₁ s₂ a₁ a₂ w₂) : After P ε base nt ρ w s s₂ a a₂ w₂ := by
  obtain ⟨ρ₂, ws₂, k1, k2, k3, k4, k5⟩ := k
  exact ⟨ρ₂, ws₂ ++ ws₁, by rw [k1, hw, List.append_assoc], h.trans hm k2, k3, k4, k5.trans hd⟩
theorem runOps_nil {call : CallF} {nt : Nat} {all : List Oper} (s : St) : runOps P call nt all [] s = .ok s := rfl
theorem runOps_cons {call : CallF} {nt : Nat} {all : List Oper} (o : Oper) (r : List Oper) (s : St) : runOps P call nt all (o :: r) s = opStep P call nt all o (runOps P call nt all r) s := rfl
theorem runOps_mono {call : CallF} {nt : Nat} {all : List Oper} : ∀ {rest : List Oper} {s s' : St}, runOps P call nt all rest s = .ok s' → s.next ≤ s'.next
  | [], s, s', h => by simp only [runOps_nil, Except.ok.injEq] at h; subst h; exact Nat.le_refl _
  | o :: rest, s, s', h => by
    rw [runOps_cons] at h
    unfold opStep at h
    cases hd : dstOk nt o.dst <;> simp only [hd, cond_true, cond_false] at h
    · cases h
    split at h
    · cases h
    · exact runOps_mono (s := { s with tmps := putDst s.tmps o.dst undef }) h
    · split at h
      · cases h
      rename_i r hr
      cases hle : Nat.ble s.next r.next <;> simp only [hle, cond_true, cond_false] at h
      · cases h
      exact Nat.le_trans (Nat.le_of_ble_eq_true hle) (runOps_mono h)
theorem Fresh.step {ρ' : Rho} {w' : World} {H H' : Nat → Option HO} {n n' m : Nat} {ws : List Nat} (hs : Step P ε base ρ w H n ρ' w' H' n' ws) (hf : Fresh ρ n m) : Fresh ρ' n' m := fun id h1 h2 => by
  cases h : ρ' id with
  | none => rfl
  | some b =>
    rcases hs.out id b h with h' | h'
    · have := hf id (Nat.le_trans hs.nle h1) h2; rw [h'] at this; cases this
    · omega
theorem Step.hb {ρ' : Rho} {w' : World} {H H' : Nat → Option HO} {n n' : Nat} {ws : List Nat} (hs : Step P ε base ρ w H n ρ' w' H' n' ws) (hb : base.n ≤ w.heap.size) : base.n ≤ w'.heap.size := Nat.le_trans hb hs.size
/-- A region in the order of the text. -/
theorem runOps_ok (hε : ∀ i V, ε i = some V → one V = true) (hN : NoCount P) {call : CallF} (hc : CallsOk P ε base call) {nt : Nat} {ops : Array Oper} {Q : Exit → Act → World → Prop} : ∀ (rest : List Oper) (i : Nat) (s s' : St) (ρ : Rho) (a : Act) (w : World), ops.toList.drop i = rest → runOps P call nt ops.toList rest s = .ok s' →
    TmR ρ ε s.tmps a.tmps → a.tmps.size = nt → Mod P ρ ε base w (tget s.heap) → Fresh ρ s.next s'.next → base.n ≤ w.heap.size → (∀ a' w', After P ε base nt ρ w s s' a a' w' → Q .normal a' w') → wpOps P ops Q (List.range' i rest.length) a w
  | [], i, s, s', ρ, a, w, hrest, h, ht, hs, hm, hf, hb, hk => by
    simp only [runOps_nil, Except.ok.injEq] at h
    subst h
    exact hk a w ⟨ρ, [], rfl, Step.refl hm, ht, hs, rfl⟩
  | o :: rest, i, s, s', ρ, a, w, hrest, h, ht, hs, hm, hf, hb, hk => by
    have hoi : ops[i]? = some o := by
      have : ops.toList[i]? = some o := by
        have h1 : (ops.toList.drop i)[0]? = some o := by rw [hrest]; rfl
        simpa using h1
      simpa using this
    have hdrop : ops.toList.drop (i + 1) = rest := by
      have : (ops.toList.drop i).drop 1 = rest := by rw [hrest]; rfl
      rwa [List.drop_drop] at this
    rw [runOps_cons] at h
    unfold opStep at h
    cases hd : dstOk nt o.dst <;> simp only [hd, cond_true, cond_false] at h
    · cases h
    simp only [List.length_cons, List.range'_succ, wpOps, hoi]
    split at h
    · cases h
    · rename_i hw
      have hw' := wantedA_ok (fun _ _ _ d v _ _ _ => ht d v) hw
      rw [hw']
      simp only [Bool.false_eq_true, if_false]
      obtain ⟨p1, p2, p3⟩ := put_tmr (V := undef) ht hs hd Rl_undef
      refine runOps_ok hε hN hc rest (i + 1) { s with tmps := putDst s.tmps o.dst undef } s' ρ (a.put o.dst undef) w hdrop h p1 p2 hm hf hb fun a' w' hA => hk a' w' ?_
      exact After.trans (s₁ := { s with tmps := putDst s.tmps o.dst undef }) (ws₁ := []) hm rfl (Step.refl hm) p3 hA
    · rename_i hw
      have hw' := wantedA_ok (fun _ _ _ d v _ _ _ => ht d v) hw
      rw [hw']
      simp only [if_true]
      split at h
      · cases h
      rename_i r hr
      cases hle : Nat.ble s.next r.next <;> simp only [hle, cond_true, cond_false] at h
      · cases h
      have hmono := runOps_mono h
      left
      refine stepA_ok hε hN hc hr (fun x _ v hv => evalA_ok ht hv) hm (fun id h1 h2 => hf id h1 (Nat.lt_of_lt_of_le h2 hmono)) hb fun V w' hg => ?_
      obtain ⟨ρ', hstep, hv⟩ := hg
      obtain ⟨p1, p2, p3⟩ := put_tmr (ht.sub hstep.ext) hs hd hv
      refine runOps_ok hε hN hc rest (i + 1) _ s' ρ' (a.put o.dst V) w' hdrop h p1 p2 hstep.mod (hf.step hstep) (hstep.hb hb) fun a' w'' hA => hk a' w'' ?_
      exact After.trans (ws₁ := r.ws) hm rfl hstep p3 hA
end
end Go.Proofs.YtefnfbidphmgoaaDoor.Ex
