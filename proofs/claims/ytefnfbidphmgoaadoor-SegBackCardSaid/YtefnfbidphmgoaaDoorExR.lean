/- The reckoner with what is said ahead: what is owed comes beside. No conditions. -/
import Derived.Test.YtefnfbidphmgoaaDoorExQ
set_option linter.unusedVariables false
set_option linter.unusedSimpArgs false
namespace Go.Proofs.YtefnfbidphmgoaaDoor.Ex
open Go Go.RowKit

/-- What is said ahead: at a path (of the item's number and the operation's, of each call). -/
abbrev Hk := List (List Nat × Ch)
noncomputable def hkSub (hk : Hk) (k i : Nat) : Hk :=
  List.rec (motive := fun _ => Hk) [] (fun x _ ih => match x.1 with
    | a :: b :: r => bif Nat.beq a k && Nat.beq b i then (r, x.2) :: ih else ih
    | _ => ih) hk
noncomputable def hkTop (hk : Hk) : Option Ch :=
  List.rec (motive := fun _ => Option Ch) none (fun x _ ih => match x.1 with
    | [] => some x.2
    | _ => ih) hk

/-- Functions that are known by what they come to: in one way or another, each with what is owed. -/
abbrev Ent := Nat → List Value → T HO → Nat → Option (Out × Prop)
abbrev Specs := List (FuncId × Ent)
noncomputable def entOf (C : Specs) (f : FuncId) : Option Ent :=
  List.rec (motive := fun _ => Option Ent) none (fun x _ ih => bif Nat.beq x.1 f then some x.2 else ih) C
noncomputable def altOf (hk : Hk) : Nat := match hkTop hk with
  | some (.alt j) => j
  | _ => 0
/-- Of two ways, both paid for, the one comes to what the other does. -/
def EntDet (V : Ent) : Prop := ∀ args h n j j' r r' p p', V j args h n = some (r, p) → p → V j' args h n = some (r', p') → p' → r = r'
open Classical in
noncomputable def entFn (V : Ent) (args : List Value) (h : T HO) (n : Nat) : Option Out :=
  if hx : ∃ r j p, V j args h n = some (r, p) ∧ p then some hx.choose else none
theorem entFn_eq {V : Ent} (hd : EntDet V) {args : List Value} {h : T HO} {n j : Nat} {r : Out} {p : Prop} (e : V j args h n = some (r, p)) (hp : p) : entFn V args h n = some r := by
  unfold entFn
  have hx : ∃ r j p, V j args h n = some (r, p) ∧ p := ⟨r, j, p, e, hp⟩
  rw [dif_pos hx]
  obtain ⟨j', p', e', hp'⟩ := hx.choose_spec
  rw [hd args h n j' j _ r p' p e' hp' e hp]
theorem entFn_some {V : Ent} {args : List Value} {h : T HO} {n : Nat} {r : Out} (e : entFn V args h n = some r) : ∃ j p, V j args h n = some (r, p) ∧ p := by
  unfold entFn at e
  split at e
  · rename_i hx
    cases e
    exact hx.choose_spec
  · cases e
abbrev CallS := Hk → FuncId → List Value → T HO → Nat → Except String (Out × List Prop)
/-- All of it is so. -/
noncomputable def AllP (l : List Prop) : Prop := List.rec (motive := fun _ => Prop) True (fun p _ ih => p ∧ ih) l
theorem AllP.append : ∀ {l m : List Prop}, AllP (l ++ m) → AllP l ∧ AllP m
  | [], _, h => ⟨trivial, h⟩
  | p :: l, m, h => by
    have h : p ∧ AllP (l ++ m) := h
    have := AllP.append h.2
    exact ⟨⟨h.1, this.1⟩, this.2⟩

section
variable (P : Program)

noncomputable def stepS (call : CallS) (hk : Hk) (o : Oper) (ev : Operand → Option Value) (h : T HO) (n : Nat) : Except String (Out × List Prop) :=
  match calleeA o with
  | some (f, args) => match ev f, optL ev args with
    | some (.func (.func g) a b), some vs => match hasBody P g with
      | some true => match call hk g (a.toList ++ vs ++ b.toList) h n with
        | .error w => .error w
        | .ok (r, p) => match hkTop hk with
          | some (.val v) => .ok ({ r with v := v }, (r.v = v) :: p)
          | _ => .ok (r, p)
      | some false => match externA P g (a.toList ++ vs ++ b.toList) h n with
        | some r => .ok (r, [])
        | none => .error o.pos
      | none => .error o.pos
    | _, _ => .error o.pos
  | none => match globA o with
    | some (g, t) => call hk (1000000000 + g) [.int .i64 (Int.ofNat t)] h n
    | none => match hkTop hk with
      | some c => match opS P c o ev h n with
        | some (r, p) => .ok (r, [p])
        | none => .error o.pos
      | none => match opA P o ev h n with
        | some r => .ok (r, [])
        | none => .error o.pos
end

structure SS where
  st : St
  ob : List Prop
noncomputable def opStepS (P : Program) (call : CallS) (hk : Hk) (nt : Nat) (all : List Oper) (o : Oper) (k i : Nat) (next : Nat → SS → Except String SS) (s : SS) : Except String SS :=
  bif dstOk nt o.dst then
    (match wantedA all s.st.tmps o with
      | none => .error o.pos
      | some false => next (i + 1) ⟨{ s.st with tmps := putDst s.st.tmps o.dst undef }, s.ob⟩
      | some true => match stepS P call (hkSub hk k i) o (evalA s.st.tmps) s.st.heap s.st.next with
        | .error w => .error w
        | .ok (r, p) => bif Nat.ble s.st.next r.next then next (i + 1) ⟨{ tmps := putDst s.st.tmps o.dst r.v, heap := r.heap, next := r.next, ws := r.ws ++ s.st.ws }, p ++ s.ob⟩ else .error o.pos)
  else .error o.pos
noncomputable def runOpsS (P : Program) (call : CallS) (hk : Hk) (nt : Nat) (all : List Oper) (k : Nat) (l : List Oper) : Nat → SS → Except String SS :=
  List.rec (motive := fun _ => Nat → SS → Except String SS) (fun _ s => .ok s) (fun o _ ih i s => opStepS P call hk nt all o k i ih s) l
structure DrS where
  dr : Dr
  ob : List Prop
noncomputable def drawLoopS (P : Program) (call : CallS) (hk : Hk) (nt : Nat) (all : List Oper) (h0 : T HO) (k : Nat) : List Oper → Nat → DrS → Except String DrS
  | [], _, s => .ok s
  | o :: rest, i, s => bif dstOk nt o.dst then
      (match maskOf s.dr.recs o.after.toList, wantedA all s.dr.tmps o with
        | some m, some false =>
          let r : Rec := ⟨i, o.dst, undef, [], looksOf all o, [], m, s.dr.next, s.dr.next⟩
          bif fits r s.dr.recs then drawLoopS P call hk nt all h0 k rest (i + 1) ⟨{ s.dr with recs := r :: s.dr.recs, tmps := putDst s.dr.tmps o.dst undef }, s.ob⟩ else .error o.pos
        | some m, some true =>
          let hin := hinOf o h0 s.dr m
          match stepS P call (hkSub hk k i) o (evalA s.dr.tmps) hin s.dr.next with
          | .error w => .error w
          | .ok (r, p) =>
            let delta := r.ws.map fun id => (id, tget r.heap id)
            let q : Rec := ⟨i, o.dst, r.v, delta, looksOf all o, hin, m, s.dr.next, r.next⟩
            bif fits q s.dr.recs && Nat.ble s.dr.next r.next then
              drawLoopS P call hk nt all h0 k rest (i + 1) ⟨⟨q :: s.dr.recs, putDst s.dr.tmps o.dst r.v, putAll s.dr.heap delta, r.next, r.ws ++ s.dr.ws⟩, p ++ s.ob⟩
            else .error o.pos
        | _, _ => .error o.pos)
    else .error o.pos
noncomputable def runDrawS (P : Program) (call : CallS) (hk : Hk) (nt : Nat) (all : List Oper) (k : Nat) (s : SS) : Except String SS :=
  match drawLoopS P call hk nt all s.st.heap k all 0 ⟨⟨[], s.st.tmps, s.st.heap, s.st.next, []⟩, s.ob⟩ with
  | .error w => .error w
  | .ok d => .ok ⟨⟨d.dr.tmps, d.dr.heap, d.dr.next, d.dr.ws ++ s.st.ws⟩, d.ob⟩
/-- One item. -/
noncomputable def itemS (P : Program) (call : CallS) (hk : Hk) (nt : Nat) (k : Nat) (todo : List Item) (s : SS) : Except String (Option (List Item) × SS) := match todo with
  | [] => .ok (none, s)
  | .code c :: r => match c with
    | .ret => .ok (none, s)
    | .skip => .ok (some r, s)
    | .label _ => .ok (some r, s)
    | .seq a b => .ok (some (.code a :: .code b :: r), s)
    | .cond c x y => match evalA s.st.tmps c with
      | some (.bool true) => .ok (some (.code x :: r), s)
      | some (.bool false) => .ok (some (.code y :: r), s)
      | _ => .error "cond"
    | .block id body => .ok (some (.code body :: .inBlock id :: r), s)
    | .loop body => .ok (some (.code body :: .inLoop body :: r), s)
    | .scope body => .ok (some (.code body :: .inScope body :: r), s)
    | .exit id => match exitTo id r with
      | some r' => .ok (some r', s)
      | none => .error "exit"
    | .goto l => match gotoIn l r with
      | some r' => .ok (some r', s)
      | none => .error "goto"
    | .region _ ops false => match runOpsS P call hk nt ops.toList k ops.toList 0 s with
      | .ok s' => .ok (some r, s')
      | .error w => .error w
    | .region _ ops true => match runDrawS P call hk nt ops.toList k s with
      | .ok s' => .ok (some r, s')
      | .error w => .error w
    | _ => .error "code"
  | .inBlock _ :: r => .ok (some r, s)
  | .inScope _ :: r => .ok (some r, s)
  | .inLoop body :: r => .ok (some (.code body :: .inLoop body :: r), s)
  | _ => .error "item"
noncomputable def contS (next : List Item → SS → Except String (Option (List Item) × SS)) : Except String (Option (List Item) × SS) → Except String (Option (List Item) × SS)
  | .error w => .error w
  | .ok (none, s') => .ok (none, s')
  | .ok (some t, s') => next t s'
/-- So many items, or to the end (what is to do is then none). -/
noncomputable def itemsS (P : Program) (call : CallS) (hk : Hk) (nt : Nat) (f : Nat) : Nat → List Item → SS → Except String (Option (List Item) × SS) :=
  Nat.rec (motive := fun _ => Nat → List Item → SS → Except String (Option (List Item) × SS)) (fun _ todo s => .ok (some todo, s)) (fun _ ih k todo s => contS (ih (k + 1)) (itemS P call hk nt k todo s)) f
noncomputable def runCallS (P : Program) (C : Specs) : Nat → CallS
  | 0, _, _, _, _, _ => .error "depth"
  | d + 1, hk, f, args, h, n => match entOf C f with
    | some V => match V (altOf hk) args h n with
      | some (r, p) => .ok (r, [p])
      | none => .error "known"
    | none => bif Nat.ble 1000000000 f then .error "variable" else match P.funcs[f]? with
      | none => .error "func"
      | some fn => match fn.body with
        | none => .error "body"
        | some c => bif Nat.ble args.length fn.ntmps then
            (match itemsS P (runCallS P C d) hk fn.ntmps fuelA 0 [.code c] ⟨⟨putArgs [] 0 args, h, n, []⟩, []⟩ with
              | .error w => .error w
              | .ok (some _, _) => .error "fuel"
              | .ok (none, s) => match optL (resA P s.st.tmps s.st.heap) fn.results.toList with
                | none => .error "results"
                | some [v] => .ok (⟨v, s.st.heap, s.st.next, s.st.ws⟩, s.ob)
                | some vs => .ok (⟨.tuple vs.toArray, s.st.heap, s.st.next, s.st.ws⟩, s.ob))
          else .error "arguments"
/-- The same, with nothing said ahead. -/
noncomputable def itemsA (P : Program) (call : CallF) (nt : Nat) : Nat → List Item → St → Except String (Option (List Item) × St)
  | 0, todo, s => .ok (some todo, s)
  | f + 1, todo, s => match stepI P call nt todo s with
    | .error w => .error w
    | .ok (none, s') => .ok (none, s')
    | .ok (some t, s') => itemsA P call nt f t s'
noncomputable def runCallC (P : Program) (C : Specs) : Nat → CallF
  | 0, _, _, _, _ => .error "depth"
  | d + 1, f, args, h, n => match entOf C f with
    | some V => match entFn V args h n with
      | some r => .ok r
      | none => .error "known"
    | none => bif Nat.ble 1000000000 f then .error "variable" else match P.funcs[f]? with
      | none => .error "func"
      | some fn => match fn.body with
        | none => .error "body"
        | some c => bif Nat.ble args.length fn.ntmps then
            (match itemsA P (runCallC P C d) fn.ntmps fuelA [.code c] ⟨putArgs [] 0 args, h, n, []⟩ with
              | .error w => .error w
              | .ok (some _, _) => .error "fuel"
              | .ok (none, s) => match optL (resA P s.tmps s.heap) fn.results.toList with
                | none => .error "results"
                | some [v] => .ok ⟨v, s.heap, s.next, s.ws⟩
                | some vs => .ok ⟨.tuple vs.toArray, s.heap, s.next, s.ws⟩)
          else .error "arguments"

/-! ### With what is owed, the one is the other -/

section
variable {P : Program}

def CallsSame (call : CallS) (call0 : CallF) : Prop := ∀ hk f args h n r p, call hk f args h n = .ok (r, p) → AllP p → call0 f args h n = .ok r
theorem stepS_ok {call : CallS} {call0 : CallF} (hc : CallsSame call call0) {hk : Hk} {o : Oper} {ev : Operand → Option Value} {h : T HO} {n : Nat} {r : Out} {p : List Prop} (e : stepS P call hk o ev h n = .ok (r, p)) (hp : AllP p) : stepA P call0 o ev h n = .ok r := by
  unfold stepS at e
  unfold stepA
  split at e
  · rename_i f args hcal
    simp only [hcal]
    split at e
    · rename_i g a b vs hf hargs
      simp only [hf, hargs]
      split at e
      · rename_i hbd
        simp only [hbd]
        split at e
        · cases e
        · rename_i r' p' hr
          split at e
          · simp only [Except.ok.injEq, Prod.mk.injEq] at e
            obtain ⟨rfl, rfl⟩ := e
            rw [hc _ _ _ _ _ _ _ hr hp.2, ← hp.1]
          · simp only [Except.ok.injEq, Prod.mk.injEq] at e
            obtain ⟨rfl, rfl⟩ := e
            exact hc _ _ _ _ _ _ _ hr hp
      · rename_i hbd
        simp only [hbd]
        split at e
        · rename_i r' hr
          simp only [Except.ok.injEq, Prod.mk.injEq] at e
          simp only [hr, e.1]
        · cases e
      · cases e
    · cases e
  · rename_i hcal
    simp only [hcal]
    split at e
    · rename_i g t hga
      simp only [hga]
      exact hc _ _ _ _ _ _ _ e hp
    rename_i hga
    simp only [hga]
    split at e
    · rename_i c hcx
      split at e
      · rename_i r' p' hx
        simp only [Except.ok.injEq, Prod.mk.injEq] at e
        obtain ⟨rfl, rfl⟩ := e
        rw [opS_ok hx hp.1]
      · cases e
    · split at e
      · rename_i r' hr
        simp only [Except.ok.injEq, Prod.mk.injEq] at e
        simp only [hr, e.1]
      · cases e
theorem runOpsS_ok {call : CallS} {call0 : CallF} (hc : CallsSame call call0) {hk : Hk} {nt k : Nat} {all : List Oper} : ∀ (l : List Oper) (i : Nat) (s s' : SS), runOpsS P call hk nt all k l i s = .ok s' → AllP s'.ob → AllP s.ob ∧ runOps P call0 nt all l s.st = .ok s'.st
  | [], i, s, s', e, hp => by
    have : s = s' := Except.ok.inj e
    subst this
    exact ⟨hp, rfl⟩
  | o :: l, i, s, s', e, hp => by
    have e : opStepS P call hk nt all o k i (runOpsS P call hk nt all k l) s = .ok s' := e
    rw [runOps_cons]
    unfold opStepS at e
    unfold opStep
    cases hd : dstOk nt o.dst <;> simp only [hd, cond_true, cond_false] at e ⊢
    · cases e
    split at e
    · cases e
    · rename_i hw
      simp only [hw]
      exact runOpsS_ok hc l _ _ _ e hp
    · rename_i hw
      simp only [hw]
      split at e
      · cases e
      rename_i r p hr
      cases hle : Nat.ble s.st.next r.next <;> simp only [hle, cond_true, cond_false] at e
      · cases e
      obtain ⟨h1, h2⟩ := runOpsS_ok hc l _ _ _ e hp
      have h1 := h1.append
      refine ⟨h1.2, ?_⟩
      simp only [stepS_ok hc hr h1.1, hle, cond_true]
      exact h2
theorem drawLoopS_ok {call : CallS} {call0 : CallF} (hc : CallsSame call call0) {hk : Hk} {nt k : Nat} {all : List Oper} {h0 : T HO} : ∀ (l : List Oper) (i : Nat) (s s' : DrS), drawLoopS P call hk nt all h0 k l i s = .ok s' → AllP s'.ob → AllP s.ob ∧ drawLoop P call0 nt all h0 l i s.dr = .ok s'.dr
  | [], i, s, s', e, hp => by
    simp only [drawLoopS, Except.ok.injEq] at e
    subst e
    exact ⟨hp, rfl⟩
  | o :: l, i, s, s', e, hp => by
    simp only [drawLoopS] at e
    simp only [drawLoop]
    cases hd : dstOk nt o.dst <;> simp only [hd, cond_true, cond_false] at e ⊢
    · cases e
    split at e
    · rename_i m hm hw
      simp only [hm, hw]
      cases hf : fits ⟨i, o.dst, undef, [], looksOf all o, [], m, s.dr.next, s.dr.next⟩ s.dr.recs <;> simp only [hf, cond_true, cond_false] at e ⊢
      · cases e
      exact drawLoopS_ok hc l _ _ _ e hp
    · rename_i m hm hw
      simp only [hm, hw]
      split at e
      · cases e
      rename_i r p hr
      cases hf : (fits ⟨i, o.dst, r.v, r.ws.map fun id => (id, tget r.heap id), looksOf all o, hinOf o h0 s.dr m, m, s.dr.next, r.next⟩ s.dr.recs && Nat.ble s.dr.next r.next) <;> simp only [hf, cond_true, cond_false] at e
      · cases e
      obtain ⟨h1, h2⟩ := drawLoopS_ok hc l _ _ _ e hp
      have h1 := h1.append
      refine ⟨h1.2, ?_⟩
      simp only [stepS_ok hc hr h1.1, hf, cond_true]
      exact h2
    · cases e
theorem itemS_ok {call : CallS} {call0 : CallF} (hc : CallsSame call call0) {hk : Hk} {nt k : Nat} {todo : List Item} {s s' : SS} {t : Option (List Item)} (e : itemS P call hk nt k todo s = .ok (t, s')) (hp : AllP s'.ob) : AllP s.ob ∧ stepI P call0 nt todo s.st = .ok (t, s'.st) := by
  have stay : ∀ {u : Option (List Item)}, (Except.ok (u, s) : Except String _) = .ok (t, s') → AllP s.ob ∧ (Except.ok (u, s.st) : Except String (Option (List Item) × St)) = .ok (t, s'.st) := by
    intro u h
    cases h
    exact ⟨hp, rfl⟩
  rcases todo with _ | ⟨it, r⟩
  · exact stay e
  cases it with
  | code c =>
    cases c with
    | cond x y z =>
      simp only [itemS] at e
      simp only [stepI]
      split at e
      · rename_i hx; simp only [hx]; exact stay e
      · rename_i hx; simp only [hx]; exact stay e
      · cases e
    | exit id =>
      simp only [itemS] at e
      simp only [stepI]
      split at e
      · rename_i k' hk'; simp only [hk']; exact stay e
      · cases e
    | goto l =>
      simp only [itemS] at e
      simp only [stepI]
      split at e
      · rename_i k' hk'; simp only [hk']; exact stay e
      · cases e
    | region id ops draw =>
      cases draw with
      | false =>
        simp only [itemS] at e
        simp only [stepI]
        split at e
        · rename_i s₁ h₁
          cases e
          obtain ⟨h1, h2⟩ := runOpsS_ok hc _ _ _ _ h₁ hp
          exact ⟨h1, by rw [h2]⟩
        · cases e
      | true =>
        simp only [itemS] at e
        simp only [stepI]
        split at e
        · rename_i s₁ h₁
          cases e
          unfold runDrawS at h₁
          split at h₁
          · cases h₁
          · rename_i d hd
            simp only [Except.ok.injEq] at h₁
            subst h₁
            obtain ⟨h1, h2⟩ := drawLoopS_ok hc _ _ _ _ hd hp
            exact ⟨h1, by simp only [runDraw, h2]⟩
        · cases e
    | ret => exact stay e
    | skip => exact stay e
    | label _ => exact stay e
    | seq _ _ => exact stay e
    | block _ _ => exact stay e
    | loop _ => exact stay e
    | scope _ => exact stay e
    | _ => cases e
  | inBlock _ => exact stay e
  | inScope _ => exact stay e
  | inLoop _ => exact stay e
  | _ => cases e
theorem itemsS_ok {call : CallS} {call0 : CallF} (hc : CallsSame call call0) {hk : Hk} {nt : Nat} : ∀ (f k : Nat) (todo : List Item) (s s' : SS) (t : Option (List Item)), itemsS P call hk nt f k todo s = .ok (t, s') → AllP s'.ob → AllP s.ob ∧ itemsA P call0 nt f todo s.st = .ok (t, s'.st)
  | 0, k, todo, s, s', t, e, hp => by
    have : (some todo, s) = (t, s') := Except.ok.inj e
    cases this
    exact ⟨hp, rfl⟩
  | f + 1, k, todo, s, s', t, e, hp => by
    have e : contS (itemsS P call hk nt f (k + 1)) (itemS P call hk nt k todo s) = .ok (t, s') := e
    simp only [itemsA]
    unfold contS at e
    split at e
    · cases e
    · rename_i s₁ h₁
      cases e
      obtain ⟨h1, h2⟩ := itemS_ok hc h₁ hp
      exact ⟨h1, by rw [h2]⟩
    · rename_i t₁ s₁ h₁
      obtain ⟨g1, g2⟩ := itemsS_ok hc f (k + 1) t₁ s₁ s' t e hp
      obtain ⟨h1, h2⟩ := itemS_ok hc h₁ g1
      exact ⟨h1, by rw [h2]; exact g2⟩
def SpecsDet (C : Specs) : Prop := ∀ x ∈ C, EntDet x.2
theorem entOf_mem : ∀ {C : Specs} {f : FuncId} {V : Ent}, entOf C f = some V → (f, V) ∈ C
  | [], f, V, e => by cases e
  | (g, U) :: C, f, V, e => by
    have e : (bif Nat.beq g f then some U else entOf C f) = some V := e
    cases hb : Nat.beq g f <;> simp only [hb, cond_true, cond_false] at e
    · exact List.mem_cons_of_mem _ (entOf_mem e)
    · cases e
      rw [Nat.eq_of_beq_eq_true hb]
      exact List.mem_cons_self
theorem runCallS_ok {C : Specs} (hD : SpecsDet C) : ∀ d, CallsSame (runCallS P C d) (runCallC P C d)
  | 0 => fun hk f args h n r p e hp => by simp [runCallS] at e
  | d + 1 => fun hk f args h n r p e hp => by
    have ih := runCallS_ok hD d
    simp only [runCallS] at e
    simp only [runCallC]
    cases hent : entOf C f with
    | some V =>
      simp only [hent] at e ⊢
      split at e
      · rename_i r' p' hx
        simp only [Except.ok.injEq, Prod.mk.injEq] at e
        obtain ⟨rfl, rfl⟩ := e
        simp only [entFn_eq (hD _ (entOf_mem hent)) hx hp.1]
      · cases e
    | none =>
    simp only [hent] at e ⊢
    cases hbig : Nat.ble 1000000000 f <;> simp only [hbig, cond_true, cond_false] at e ⊢
    case true => cases e
    split at e
    · cases e
    rename_i fn hfn
    try simp only [hfn]
    split at e
    · cases e
    rename_i c hbody
    try simp only [hbody]
    cases hle : Nat.ble args.length fn.ntmps <;> simp only [hle, cond_true, cond_false] at e ⊢
    · cases e
    split at e
    · cases e
    · cases e
    rename_i s hs
    split at e
    · cases e
    · rename_i v hvs
      simp only [Except.ok.injEq, Prod.mk.injEq] at e
      obtain ⟨rfl, rfl⟩ := e
      obtain ⟨_, h2⟩ := itemsS_ok ih _ _ _ _ _ _ hs hp
      simp only [h2, hvs]
    · rename_i vs hne hvs
      simp only [Except.ok.injEq, Prod.mk.injEq] at e
      obtain ⟨rfl, rfl⟩ := e
      obtain ⟨_, h2⟩ := itemsS_ok ih _ _ _ _ _ _ hs hp
      simp only [h2, hvs]
end
end Go.Proofs.YtefnfbidphmgoaaDoor.Ex
