/- A reckoner for runs of fixed texts, ninth part: copy, clear, maps, texts. No conditions. -/
import Derived.Test.YtefnfbidphmgoaaDoorExH
import Derived.Laws.BytesString
set_option linter.unusedVariables false
set_option linter.unusedSimpArgs false
namespace Go.Proofs.YtefnfbidphmgoaaDoor.Ex
open Go Go.RowKit

section
variable {P : Program} {ε : Nat → Option Value} {base : Base} {ρ : Rho} {w : World}

theorem Rl_undef : Rl ρ ε undef undef := Rl_tuple.2 ⟨[], rfl, trivial⟩
theorem copy_ok (hε : ∀ i V, ε i = some V → one V = true) {el t : TypeId} {ats : Array TypeId} {ty : TypeId} {x y X Y : Value} {h : T HO} {n : Nat} {r : Out} (e : copyA P el x y h n = some r) (hx : Rl ρ ε x X) (hy : Rl ρ ε y Y) (ht : ats[0]? = some t) (h1 : P.underlying t = some (.slice el)) (hm : Mod P ρ ε base w (tget h)) :
    ∃ V w', (Builtin.copy_ ats ty #[X, Y]).run P w = .ok V w' ∧ Good P ε base ρ w h n r V w' := by
  unfold copyA at e
  split at e
  · cases e
  rename_i s hs
  split at e
  · cases e
  rename_i m cs hsrc
  obtain ⟨hlen, hcl, CS, hCS, hfirst⟩ := source_ok hsrc hy hm
  split at e
  case h_2 => cases e
  rename_i id off sp len c
  obtain ⟨A, C, hX⟩ := Rl_slice_any hx
  have hfk := hfirst (Nat.min m len) (Nat.min_le_left m len)
  have hrun : ∀ w', (match A with | some a => storeCells a (CS.take (Nat.min m len * s)) | none => pure ()).run P w = .ok () w' → (Builtin.copy_ ats ty #[X, Y]).run P w = .ok (.int .i64 (Nat.min m len : Nat)) w' := by
    intro w' hst
    subst hX
    simp only [Builtin.copy_, ht, Sem.run_bind, run_under h1, Result.andThen_ok, Sem.run_pure, List.getElem?_toArray, List.getElem?_cons_zero, List.getElem?_cons_succ, hlen, run_sizeA hs, hfk]
    cases A with
    | none => simp only [Sem.run_pure] at hst ⊢; cases hst; rfl
    | some a => simp only at hst ⊢; simp [hst, goInt]
  cases h0 : Nat.beq (Nat.min m len) 0 <;> simp only [h0, cond_true, cond_false] at e
  · cases hp : plainSp sp off <;> simp only [hp, cond_true, cond_false] at e
    · cases e
    obtain ⟨b, hb, C', hX'⟩ := plain_slice hp hx
    rw [hX] at hX'
    cases hX'
    split at e
    case h_2 => cases e
    rename_i o l ho hl
    split at e
    case h_2 => cases e
    rename_i rr hr
    cases hc : (l.all one && !o.ro) <;> simp only [hc, cond_true, cond_false] at e
    · cases e
    simp only [Bool.and_eq_true, Bool.not_eq_true'] at hc
    split at e
    case h_2 => cases e
    rename_i r' hset
    have e := updA_eq e
    subst e
    obtain ⟨e1, e2⟩ := takeN_eq _ _ _ hl
    have hlR : RlL ρ ε l (CS.take (Nat.min m len * s)) := by rw [e1]; exact hCS.take _
    obtain ⟨w', hw1, hw2⟩ := write_any (n := n) (u := .int .i64 (Nat.min m len : Nat)) hε hm ho hr hc.2 hb hset hlR hc.1 (Rl_int.2 rfl)
    exact ⟨_, w', hrun w' (hw1 _ (.inr rfl)), hw2⟩
  · have hz := Nat.eq_of_beq_eq_true h0
    simp only [Option.some.injEq] at e
    subst e
    refine ⟨_, w, hrun w ?_, Good.val hm (Rl_int.2 ?_)⟩
    · rw [hz]
      cases A <;> simp [storeCells]
    · rw [hz]; rfl
theorem clear_ok (hε : ∀ i V, ε i = some V → one V = true) {el t : TypeId} {ats : Array TypeId} {ty : TypeId} {x X : Value} {h : T HO} {n : Nat} {r : Out} (e : clearA P el x h n = some r) (hx : Rl ρ ε x X) (ht : ats[0]? = some t) (h1 : P.underlying t = some (.slice el)) (hm : Mod P ρ ε base w (tget h)) :
    ∃ V w', (Builtin.clear_ ats ty #[X]).run P w = .ok V w' ∧ Good P ε base ρ w h n r V w' := by
  unfold clearA at e
  split at e
  case h_2 => cases e
  rename_i s z id off sp len c hs hz
  obtain ⟨i, hi, hiz, hcl⟩ := zeroA_info hz
  cases h0 : Nat.beq len 0 <;> simp only [h0, cond_true, cond_false] at e
  · have hne := ne_of_beq h0
    cases hc : (plainSp sp off && Nat.beq (cellsOf z).length s && (cellsOf z).all one) <;> simp only [hc, cond_true, cond_false] at e
    · cases e
    simp only [Bool.and_eq_true] at hc
    have hzl := Nat.eq_of_beq_eq_true hc.1.2
    obtain ⟨b, hb, C, rfl⟩ := plain_slice hc.1.1 hx
    split at e
    case h_2 => cases e
    rename_i o ho
    split at e
    case h_2 => cases e
    rename_i rr hr
    cases hro : o.ro <;> simp only [hro, Bool.not_true, Bool.not_false, cond_true, cond_false] at e
    case true => cases e
    split at e
    case h_2 => cases e
    rename_i r' hset
    have e := updA_eq e
    subst e
    have hall : (rep (cellsOf z) len).all one = true := by
      have : ∀ n, (rep (cellsOf z) n).all one = true := by
        intro n
        induction n with
        | zero => rfl
        | succ n ih => simp [rep, hc.2, ih]
      exact this len
    obtain ⟨w', hw1, hw2⟩ := write_any (n := n) (u := undef) (U := undef) hε hm ho hr hro hb hset (RlL_rep (RlL_zero (ρ := ρ) hε hcl) len) hall Rl_undef
    rw [hro] at hw2
    refine ⟨undef, w', ?_, hw2⟩
    cases len with
    | zero => exact absurd rfl hne
    | succ k =>
      have hst := hw1 _ (.inr rfl)
      simp [Builtin.clear_, ht, run_under h1, run_zeroA hz, zeroCells_eq hzl, hst]
      rfl
  · have := Nat.eq_of_beq_eq_true h0
    subst this
    simp only [Option.some.injEq] at e
    subst e
    obtain ⟨A, C, rfl⟩ := Rl_slice_any hx
    refine ⟨undef, w, ?_, Good.val hm Rl_undef⟩
    cases A <;> (simp [Builtin.clear_, ht, run_under h1]; rfl)

/-! #### Maps -/

theorem run_setObj {r : Nat} {es : Array MapEntry} {clk : Nat} (h : w.heap[r]? = some (.map es clk)) (o : Obj) : (setObj r o).run P w = .ok () { w with heap := w.heap.setIfInBounds r o } := by
  simp [setObj, Sem.run, h]
theorem run_getObj {r : Nat} {es : Array MapEntry} {clk : Nat} (h : w.heap[r]? = some (.map es clk)) : (getObj r).run P w = .ok (.map es clk) w := by
  simp [getObj, Sem.run, h]
theorem pureEval_bind {α β : Type} (f : α → Sem β) : ∀ (x : Sem α), pureEval P (x.bind f) = match pureEval P x with | some a => pureEval P (f a) | none => none
  | .pure a => rfl
  | .program k => by simp only [Sem.bind, pureEval]; exact pureEval_bind f (k P)
  | .mark _ k => by simp only [Sem.bind, pureEval]; exact pureEval_bind f k
  | .load .. => rfl
  | .store .. => rfl
  | .new .. => rfl
  | .shape .. => rfl
  | .freeze .. => rfl
  | .frozen .. => rfl
  | .getObj .. => rfl
  | .setObj .. => rfl
  | .choose .. => rfl
  | .sys .. => rfl
  | .halt _ => rfl
theorem pureEval_bind' {α β : Type} (x : Sem α) (f : α → Sem β) : pureEval P (x >>= f) = match pureEval P x with | some a => pureEval P (f a) | none => none := pureEval_bind f x
/-- The entries by their keys alone. -/
def KeyOf : List MapEntry → List MapEntry → Prop
  | [], [] => True
  | e :: r, E :: R => e.key = E.key ∧ KeyOf r R
  | _, _ => False
theorem EntR.keys : ∀ {r : List (Value × Value × Nat)} {R : List MapEntry}, EntR ρ ε r R → KeyOf (r.map fun e => { key := e.1, val := undef, born := e.2.2 }) R
  | [], [], _ => trivial
  | (_, _, _) :: _, _ :: _, h => ⟨h.1.symm, EntR.keys h.2.2.2.2⟩
  | [], _ :: _, h => h.elim
  | _ :: _, [], h => h.elim
/-- Where a key is found hangs on no values. -/
def foundIn (R : List MapEntry) (i : Nat) : Option (Nat × Value) → Option (Nat × Value) → Prop
  | none, r => r = none
  | some (j, _), r => ∃ k E, j = i + k ∧ R[k]? = some E ∧ r = some (i + k, E.val)
theorem findNow_keys {kind : TypeDesc} {k : Value} : ∀ {r R : List MapEntry} {i : Nat}, KeyOf r R → (Instr.findNow kind k r i = none ∧ Instr.findNow kind k R i = none) ∨ ∃ a b, Instr.findNow kind k r i = some a ∧ Instr.findNow kind k R i = some b ∧ foundIn R i a b
  | [], [], i, _ => .inr ⟨none, none, rfl, rfl, rfl⟩
  | e :: r, E :: R, i, h => by
    simp only [Instr.findNow, h.1]
    cases hs : Instr.sameNow kind k E.key with
    | none => exact .inl ⟨rfl, rfl⟩
    | some b => cases b with
      | true => exact .inr ⟨_, _, rfl, rfl, 0, E, rfl, rfl, rfl⟩
      | false =>
        rcases findNow_keys (r := r) (R := R) (i := i + 1) h.2 with ⟨h1, h2⟩ | ⟨a, b, h1, h2, h3⟩
        · exact .inl ⟨h1, h2⟩
        · refine .inr ⟨a, b, h1, h2, ?_⟩
          cases a with
          | none => exact h3
          | some a =>
            obtain ⟨j, v⟩ := a
            obtain ⟨q, E', e1, e2, e3⟩ := h3
            exact ⟨q + 1, E', by omega, by simpa using e2, by rw [e3]; congr 2; omega⟩
  | [], _ :: _, _, h => h.elim
  | _ :: _, [], _, h => h.elim
theorem findAsking_keys {kt : TypeId} {k : Value} : ∀ {r R : List MapEntry} {i : Nat} {a : Option (Nat × Value)}, KeyOf r R → pureEval P (Instr.findAsking kt k r i) = some a → ∃ b, pureEval P (Instr.findAsking kt k R i) = some b ∧ foundIn R i a b
  | [], [], i, a, _, h => by
    simp only [Instr.findAsking] at h ⊢
    cases h
    exact ⟨none, rfl, rfl⟩
  | e :: r, E :: R, i, a, hk, h => by
    simp only [Instr.findAsking, pureEval_bind', hk.1] at h ⊢
    split at h
    · rename_i c hc
      cases c with
      | true =>
        simp only [if_true] at h ⊢
        cases h
        exact ⟨_, rfl, 0, E, rfl, rfl, rfl⟩
      | false =>
        simp only [Bool.false_eq_true, if_false] at h ⊢
        obtain ⟨b, h1, h2⟩ := findAsking_keys (r := r) (R := R) (i := i + 1) hk.2 h
        refine ⟨b, h1, ?_⟩
        cases a with
        | none => exact h2
        | some a =>
          obtain ⟨j, v⟩ := a
          obtain ⟨q, E', e1, e2, e3⟩ := h2
          exact ⟨q + 1, E', by omega, by simpa using e2, by rw [e3]; congr 2; omega⟩
    · cases h
  | [], _ :: _, _, _, h, _ => h.elim
  | _ :: _, [], _, _, h, _ => h.elim
theorem findK_ok {kt : TypeId} {k : Value} {es : List (Value × Value × Nat)} {ES : List MapEntry} {r : Option Nat} (he : EntR ρ ε es ES) (h : findK P kt k es = some r) (w : World) :
    (r = none ∧ (Instr.findKey kt k ES).run P w = .ok none w) ∨ ∃ i E, r = some i ∧ ES[i]? = some E ∧ (Instr.findKey kt k ES).run P w = .ok (some (i, E.val)) w := by
  have hkeys := he.keys
  have key : ∀ a, pureEval P (Instr.findKey kt k (es.map fun e => { key := e.1, val := undef, born := e.2.2 })) = some a → ∃ b, pureEval P (Instr.findKey kt k ES) = some b ∧ foundIn ES 0 a b := by
    intro a ha
    simp only [Instr.findKey, pureEval_bind'] at ha ⊢
    split at ha
    · rename_i d hd
      rcases findNow_keys (kind := d) (k := k) (i := 0) hkeys with ⟨h1, h2⟩ | ⟨x, y, h1, h2, h3⟩
      · simp only [h1] at ha
        simp only [h2]
        exact findAsking_keys hkeys ha
      · simp only [h1] at ha
        simp only [h2]
        cases ha
        exact ⟨y, rfl, h3⟩
    · cases ha
  unfold findK at h
  split at h
  · rename_i i v hp
    cases h
    obtain ⟨b, h1, q, E, e1, e2, e3⟩ := key _ hp
    subst e3
    rw [Nat.zero_add] at e1 h1
    subst e1
    exact .inr ⟨i, E, rfl, e2, pureEval_run _ _ w h1⟩
  · rename_i hp
    cases h
    obtain ⟨b, h1, h2⟩ := key _ hp
    cases h2
    exact .inl ⟨rfl, pureEval_run _ _ w h1⟩
  · cases h
theorem keyOk_eq {e : Bool} {kt : TypeId} {k : Value} (h : keyOk P e kt k = true) (w : World) : closed DC k = true ∧ (Instr.checkKey e 10000 kt k).run P w = .ok () w := by
  unfold keyOk at h
  cases hc : closed DC k <;> simp only [hc, cond_true, cond_false] at h
  · cases h
  refine ⟨rfl, ?_⟩
  split at h
  · rename_i u hu; exact pureEval_run _ _ w hu
  · cases h
theorem key_self {k K : Value} (hk : closed DC k = true) (hr : Rl ρ ε k K) : K = k := hr.det (Rl_closed hk)
theorem EntR.get : ∀ {r : List (Value × Value × Nat)} {R : List MapEntry} {i : Nat} {E : MapEntry}, EntR ρ ε r R → R[i]? = some E → ∃ k v b, r[i]? = some (k, v, b) ∧ E.key = k ∧ closed DC k = true ∧ Rl ρ ε v E.val ∧ E.born = b
  | [], [], i, E, _, h => by simp at h
  | (k, v, b) :: r, e :: R, 0, E, h, he => by simp at he; subst he; exact ⟨k, v, b, rfl, h.1, h.2.1, h.2.2.1, h.2.2.2.1⟩
  | (_, _, _) :: r, _ :: R, i + 1, E, h, he => by simp at he; simpa using h.2.2.2.2.get he
  | [], _ :: _, _, _, h, _ => h.elim
  | _ :: _, [], _, _, h, _ => h.elim
theorem EntR.isEmpty : ∀ {r : List (Value × Value × Nat)} {R : List MapEntry}, EntR ρ ε r R → R.isEmpty = r.isEmpty
  | [], [], _ => rfl
  | _ :: _, _ :: _, _ => rfl
  | [], _ :: _, h => h.elim
  | _ :: _, [], h => h.elim
theorem lookup_ok {t : TypeId} {x k v X K : Value} {ok : Bool} {h : T HO} (e : lookupA P t x k ok h = some v) (hx : Rl ρ ε x X) (hk : Rl ρ ε k K) (hm : Mod P ρ ε base w (tget h)) :
    ∃ V, (Instr.lookup t X K ok).run P w = .ok V w ∧ Rl ρ ε v V := by
  unfold lookupA at e
  split at e
  case h_2 => cases e
  rename_i id kt el hu
  split at e
  · cases e
  rename_i o ho
  split at e
  · cases e
  rename_i es hes
  cases hok : keyOk P es.isEmpty kt k <;> simp only [hok, cond_true, cond_false] at e
  · cases e
  obtain ⟨hcl, hck⟩ := keyOk_eq hok w
  have := key_self hcl hk
  subst this
  obtain ⟨b, hb, rfl⟩ := Rl_map.1 hx
  obtain ⟨b', ES, g1, g2, g3, g4, g5, g6, g7⟩ := hm.mapO ho hes
  rw [hb] at g1; cases g1
  have hemp : ES.toArray.isEmpty = es.isEmpty := by rw [← g4.isEmpty]; simp
  split at e
  · rename_i i hfind
    rcases findK_ok g4 hfind w with ⟨q1, _⟩ | ⟨i', E, q1, q2, q3⟩
    · cases q1
    cases q1
    obtain ⟨k', v', b', r1, r2, r3, r4, r5⟩ := g4.get q2
    rw [lget_eq, r1] at e
    simp only [Option.some.injEq] at e
    have hrun : (Instr.lookup t (.map (some b.1)) K ok).run P w = .ok (if ok then .tuple #[E.val, .bool true] else E.val) w := by
      simp only [Instr.lookup, Sem.run_bind, run_under hu, Result.andThen_ok, run_getObj g3, Sem.run_pure, hemp, hck, q3]
    refine ⟨_, hrun, ?_⟩
    cases ok
    · simp only [cond_false] at e; subst e; exact r4
    · simp only [cond_true] at e; subst e; exact Rl_tuple.2 ⟨[E.val, .bool true], rfl, r4, Rl_bool.2 rfl, trivial⟩
  · rename_i hfind
    rcases findK_ok g4 hfind w with ⟨_, q2⟩ | ⟨i', E, q1, _⟩
    case inr => cases q1
    split at e
    case h_2 => cases e
    rename_i z hz
    obtain ⟨i, hi, hiz, hcl'⟩ := zeroA_info hz
    have hrun : (Instr.lookup t (.map (some b.1)) K ok).run P w = .ok (if ok then .tuple #[z, .bool false] else z) w := by
      simp only [Instr.lookup, Sem.run_bind, run_under hu, Result.andThen_ok, run_getObj g3, Sem.run_pure, hemp, hck, q2, run_zeroA hz]
    simp only [Option.some.injEq] at e
    refine ⟨_, hrun, ?_⟩
    cases ok
    · simp only [cond_false] at e; subst e; exact Rl_closed hcl'
    · simp only [cond_true] at e; subst e; exact Rl_tuple.2 ⟨[z, .bool false], rfl, Rl_closed hcl', Rl_bool.2 rfl, trivial⟩
  · cases e
theorem EntR.append : ∀ {r s : List (Value × Value × Nat)} {R S : List MapEntry}, EntR ρ ε r R → EntR ρ ε s S → EntR ρ ε (r ++ s) (R ++ S)
  | [], _, [], _, _, k => k
  | (_, _, _) :: _, _, _ :: _, _, h, k => ⟨h.1, h.2.1, h.2.2.1, h.2.2.2.1, h.2.2.2.2.append k⟩
  | [], _, _ :: _, _, h, _ => h.elim
  | _ :: _, _, [], _, h, _ => h.elim
theorem EntR.setK {k x X : Value} (hk : closed DC k = true) (hx : Rl ρ ε x X) : ∀ {r : List (Value × Value × Nat)} {R : List MapEntry} (i : Nat), EntR ρ ε r R → EntR ρ ε (Ex.setK k x i r) (R.modify i fun e => { e with key := k, val := X })
  | [], [], _, _ => by simp [Ex.setK, EntR]
  | (_, _, _) :: _, _ :: _, 0, h => ⟨rfl, hk, hx, h.2.2.2.1, h.2.2.2.2⟩
  | (_, _, _) :: _, _ :: _, i + 1, h => ⟨h.1, h.2.1, h.2.2.1, h.2.2.2.1, h.2.2.2.2.setK hk hx i⟩
  | [], _ :: _, _, h => h.elim
  | _ :: _, [], _, h => h.elim
/-- A key alone is written anew, as what it was. -/
theorem EntR.sameK {k v : Value} {b : Nat} (hk : closed DC k = true) : ∀ {r : List (Value × Value × Nat)} {R : List MapEntry} (i : Nat), EntR ρ ε r R → (∃ k', r[i]? = some (k', v, b)) → EntR ρ ε (Ex.setK k v i r) (R.modify i fun e => { e with key := k })
  | [], [], _, _, _ => by simp [Ex.setK, EntR]
  | (_, _, _) :: _, _ :: _, 0, h, ⟨k', e⟩ => by
    simp at e
    obtain ⟨rfl, rfl, rfl⟩ := e
    exact ⟨rfl, hk, h.2.2.1, h.2.2.2.1, h.2.2.2.2⟩
  | (_, _, _) :: _, _ :: _, i + 1, h, e => ⟨h.1, h.2.1, h.2.2.1, h.2.2.2.1, h.2.2.2.2.sameK hk i (by simpa using e)⟩
  | [], _ :: _, _, h, _ => h.elim
  | _ :: _, [], _, h, _ => h.elim
theorem EntR.setV {x X : Value} (hx : Rl ρ ε x X) : ∀ {r : List (Value × Value × Nat)} {R : List MapEntry} (i : Nat), EntR ρ ε r R → EntR ρ ε (Ex.setV x i r) (R.modify i fun e => { e with val := X })
  | [], [], _, _ => by simp [Ex.setV, EntR]
  | (_, _, _) :: _, _ :: _, 0, h => ⟨h.1, h.2.1, hx, h.2.2.2.1, h.2.2.2.2⟩
  | (_, _, _) :: _, _ :: _, i + 1, h => ⟨h.1, h.2.1, h.2.2.1, h.2.2.2.1, h.2.2.2.2.setV hx i⟩
  | [], _ :: _, _, h => h.elim
  | _ :: _, [], _, h => h.elim
theorem EntR.erase : ∀ {r : List (Value × Value × Nat)} {R : List MapEntry} (i : Nat), EntR ρ ε r R → EntR ρ ε (r.eraseIdx i) (R.eraseIdx i)
  | [], [], _, _ => by simp [EntR]
  | (_, _, _) :: _, _ :: _, 0, h => by simpa using h.2.2.2.2
  | (_, _, _) :: _, _ :: _, i + 1, h => ⟨h.1, h.2.1, h.2.2.1, h.2.2.2.1, h.2.2.2.2.erase i⟩
  | [], _ :: _, _, h => h.elim
  | _ :: _, [], _, h => h.elim
/-- An object that is no row is written anew. -/
theorem Good.obj {h : T HO} {n id : Nat} {o o' : HO} {b : Nat × Nat} {ob : Obj} {v V : Value} (hm : Mod P ρ ε base w (tget h)) (ho : tget h id = some o) (hro : o.ro = false) (hro' : o'.ro = false) (hb : ρ id = some b)
    (hlt : b.1 < w.heap.size) (hr : ObjR P ρ ε b.2 o' (some ob)) (hv : Rl ρ ε v V) :
    Good P ε base ρ w h n ⟨v, tput h id (some o'), n, [id]⟩ V { w with heap := w.heap.setIfInBounds b.1 ob } := by
  refine ⟨ρ, Step.upd (o := o) (b := b) (ob := ob) hm ho hro hro' hb (fun k => ?_) (by simp) rfl rfl rfl hr, hv⟩
  simp only [Array.getElem?_setIfInBounds]
  by_cases hk : k = b.1
  · subst hk; simp [hlt]
  · rw [if_neg hk, if_neg (fun h => hk h.symm)]
theorem Good.map {h : T HO} {n id : Nat} {o : HO} {b : Nat × Nat} {clk' : Nat} {es' : List (Value × Value × Nat)} {ES' : List MapEntry} {v V : Value} (hm : Mod P ρ ε base w (tget h)) (ho : tget h id = some o) (hro : o.ro = false) (hb : ρ id = some b)
    (hlt : b.1 < w.heap.size) (hr : EntR ρ ε es' ES') (hv : Rl ρ ε v V) :
    Good P ε base ρ w h n ⟨v, tput h id (some (mapO es' clk')), n, [id]⟩ V { w with heap := w.heap.setIfInBounds b.1 (.map ES'.toArray clk') } := by
  refine Good.obj (o' := mapO es' clk') hm ho hro rfl hb hlt ?_ hv
  unfold ObjR
  rw [if_neg (by simp [mapO]), if_pos (by simp [mapO])]
  exact ⟨ES', rfl, hr⟩
theorem mapUpdate_ok {t : TypeId} {x k v X K V : Value} {h : T HO} {n : Nat} {r : Out} (e : mapUpdateA P t x k v h n = some r) (hx : Rl ρ ε x X) (hk : Rl ρ ε k K) (hv : Rl ρ ε v V) (hm : Mod P ρ ε base w (tget h)) :
    ∃ w', (Instr.mapUpdate t X K V).run P w = .ok () w' ∧ Good P ε base ρ w h n r undef w' := by
  unfold mapUpdateA at e
  split at e
  case h_2 => cases e
  rename_i id kt el hu
  split at e
  · cases e
  rename_i o ho
  split at e
  · cases e
  rename_i es hes
  cases hok : (keyOk P false kt k && !o.ro) <;> simp only [hok, cond_true, cond_false] at e
  · cases e
  simp only [Bool.and_eq_true, Bool.not_eq_true'] at hok
  obtain ⟨hok, hro⟩ := hok
  obtain ⟨hcl, hck⟩ := keyOk_eq hok w
  have := key_self hcl hk
  subst this
  obtain ⟨b, hb, rfl⟩ := Rl_map.1 hx
  obtain ⟨b', ES, g1, g2, g3, g4, g5, g6, g7⟩ := hm.mapO ho hes
  rw [hb] at g1; cases g1
  split at e
  · rename_i i hfind
    rcases findK_ok g4 hfind w with ⟨q1, _⟩ | ⟨i', E, q1, q2, q3⟩
    · cases q1
    cases q1
    obtain ⟨k', v', bn, r1, r2, r3, r4, r5⟩ := g4.get q2
    rw [lget_eq, r1] at e
    simp only at e
    cases hsb : Instr.sameBits 10000 k' K <;> simp only [hsb, cond_true, cond_false] at e
    · cases e
    have e := updA_eq e
    subst e
    have hkey : (((ES.toArray)[i]?).map (·.key)).getD K = k' := by simp [q2, r2]
    refine ⟨_, ?_, Good.map hm ho hro hb g2 (g4.setK hcl hv i) Rl_undef⟩
    simp only [Instr.mapUpdate, Sem.run_bind, run_under hu, Result.andThen_ok, run_getObj g3, hck, q3, hkey, Instr.keyThatStays, hsb, if_true, Sem.run_pure, run_setObj g3]
    simp [List.modify_toArray]
  · rename_i hfind
    have e := updA_eq e
    subst e
    rcases findK_ok g4 hfind w with ⟨_, q2⟩ | ⟨i', E, q1, _⟩
    case inr => cases q1
    refine ⟨_, ?_, Good.map hm ho hro hb g2 (g4.append (s := [(K, v, o.clock)]) (S := [{ key := K, val := V, born := o.clock }]) ⟨rfl, hcl, hv, rfl, trivial⟩) Rl_undef⟩
    simp only [Instr.mapUpdate, Sem.run_bind, run_under hu, Result.andThen_ok, run_getObj g3, hck, q2, run_setObj g3]
    simp
  · cases e
theorem delete_ok {t : TypeId} {ats : Array TypeId} {ty : TypeId} {x k X K : Value} {h : T HO} {n : Nat} {r : Out} (e : deleteA P t x k h n = some r) (hx : Rl ρ ε x X) (hk : Rl ρ ε k K) (ht : ats[0]? = some t) (hm : Mod P ρ ε base w (tget h)) :
    ∃ w', (Builtin.delete_ ats ty #[X, K]).run P w = .ok undef w' ∧ Good P ε base ρ w h n r undef w' := by
  unfold deleteA at e
  split at e
  case h_2 => cases e
  rename_i id kt el hu
  split at e
  · cases e
  rename_i o ho
  split at e
  · cases e
  rename_i es hes
  cases hok : (keyOk P es.isEmpty kt k && !o.ro) <;> simp only [hok, cond_true, cond_false] at e
  · cases e
  simp only [Bool.and_eq_true, Bool.not_eq_true'] at hok
  obtain ⟨hok, hro⟩ := hok
  obtain ⟨hcl, hck⟩ := keyOk_eq hok w
  have := key_self hcl hk
  subst this
  obtain ⟨b, hb, rfl⟩ := Rl_map.1 hx
  obtain ⟨b', ES, g1, g2, g3, g4, g5, g6, g7⟩ := hm.mapO ho hes
  rw [hb] at g1; cases g1
  have hemp : ES.toArray.isEmpty = es.isEmpty := by rw [← g4.isEmpty]; simp
  split at e
  · rename_i i hfind
    have e := updA_eq e
    subst e
    rcases findK_ok g4 hfind w with ⟨q1, _⟩ | ⟨i', E, q1, q2, q3⟩
    · cases q1
    cases q1
    refine ⟨_, ?_, Good.map hm ho hro hb g2 (g4.erase i) Rl_undef⟩
    simp only [Builtin.delete_, ht, Sem.run_bind, run_under hu, Result.andThen_ok, Sem.run_pure, List.getElem?_toArray, List.getElem?_cons_zero, List.getElem?_cons_succ, run_getObj g3, hemp, hck, q3, run_setObj g3]
    simp
    rfl
  · rename_i hfind
    have e := updA_eq e
    subst e
    rcases findK_ok g4 hfind w with ⟨_, q2⟩ | ⟨i', E, q1, _⟩
    case inr => cases q1
    refine ⟨_, ?_, Good.map hm ho hro hb g2 g4 Rl_undef⟩
    simp only [Builtin.delete_, ht, Sem.run_bind, run_under hu, Result.andThen_ok, Sem.run_pure, List.getElem?_toArray, List.getElem?_cons_zero, List.getElem?_cons_succ, run_getObj g3, hemp, hck, q2, run_setObj g3]
    rfl
  · cases e
theorem mapEntry_ok {t : TypeId} {x k X K : Value} {h : T HO} {n : Nat} {r : Out} (e : mapEntryA P t x k h n = some r) (hx : Rl ρ ε x X) (hk : Rl ρ ε k K) (hm : Mod P ρ ε base w (tget h)) :
    ∃ V w', (Instr.mapEntry t X K).run P w = .ok V w' ∧ Good P ε base ρ w h n r V w' := by
  unfold mapEntryA at e
  split at e
  case h_2 => cases e
  rename_i id kt el hu
  split at e
  · cases e
  rename_i o ho
  split at e
  · cases e
  rename_i es hes
  cases hok : (keyOk P false kt k && !o.ro) <;> simp only [hok, cond_true, cond_false] at e
  · cases e
  simp only [Bool.and_eq_true, Bool.not_eq_true'] at hok
  obtain ⟨hok, hro⟩ := hok
  obtain ⟨hcl, hck⟩ := keyOk_eq hok w
  have := key_self hcl hk
  subst this
  obtain ⟨b, hb, rfl⟩ := Rl_map.1 hx
  obtain ⟨b', ES, g1, g2, g3, g4, g5, g6, g7⟩ := hm.mapO ho hes
  rw [hb] at g1; cases g1
  split at e
  · rename_i i hfind
    rcases findK_ok g4 hfind w with ⟨q1, _⟩ | ⟨i', E, q1, q2, q3⟩
    · cases q1
    cases q1
    obtain ⟨k', v', bn, r1, r2, r3, r4, r5⟩ := g4.get q2
    rw [lget_eq, r1] at e
    simp only at e
    cases hsb : Instr.sameBits 10000 k' K <;> simp only [hsb, cond_true, cond_false] at e
    · cases e
    have e := updA_eq e
    subst e
    have hkey : (((ES.toArray)[i]?).map (·.key)).getD K = k' := by simp [q2, r2]
    have hborn : (((ES.toArray)[i]?).map (·.born)).getD 0 = bn := by simp [q2, r5]
    refine ⟨.tuple #[E.val, .int .i64 bn], _, ?_, Good.map hm ho hro hb g2 (g4.sameK hcl i ⟨k', r1⟩) (Rl_tuple.2 ⟨[E.val, .int .i64 bn], rfl, r4, Rl_int.2 rfl, trivial⟩)⟩
    simp only [Instr.mapEntry, Sem.run_bind, run_under hu, Result.andThen_ok, run_getObj g3, hck, q3, hkey, Instr.keyThatStays, hsb, if_true, Sem.run_pure, run_setObj g3, hborn]
    simp [List.modify_toArray, goInt, q2, r5]
  · rename_i hfind
    split at e
    case h_2 => cases e
    rename_i z hz
    obtain ⟨i, hi, hiz, hcl'⟩ := zeroA_info hz
    have e := updA_eq e
    subst e
    rcases findK_ok g4 hfind w with ⟨_, q2⟩ | ⟨i', E, q1, _⟩
    case inr => cases q1
    refine ⟨.tuple #[z, .int .i64 o.clock], _, ?_, Good.map hm ho hro hb g2 (g4.append (s := [(K, z, o.clock)]) (S := [{ key := K, val := z, born := o.clock }]) ⟨rfl, hcl, Rl_closed hcl', rfl, trivial⟩) (Rl_tuple.2 ⟨[z, .int .i64 o.clock], rfl, Rl_closed hcl', Rl_int.2 rfl, trivial⟩)⟩
    simp only [Instr.mapEntry, Sem.run_bind, run_under hu, Result.andThen_ok, run_getObj g3, hck, q2, run_setObj g3, run_zeroA hz, Sem.run_pure]
    simp [goInt]
  · cases e
theorem findBorn_ok {b : Nat} : ∀ {es : List (Value × Value × Nat)} {ES : List MapEntry} {i j : Nat}, EntR ρ ε es ES → findBorn b es i = some j → ∃ q E, j = i + q ∧ ES[q]? = some E ∧ E.born = b ∧ ES.find? (fun e => e.born == b) = some E ∧ ES.findIdx? (fun e => (e.born : Int) == (b : Int)) = some q
  | [], [], i, j, _, h => by simp [findBorn] at h
  | (k, v, c) :: es, E :: ES, i, j, he, h => by
    simp only [findBorn] at h
    cases hb : Nat.beq c b <;> simp only [hb, cond_true, cond_false] at h
    · obtain ⟨q, E', h1, h2, h3, h4, h5⟩ := findBorn_ok he.2.2.2.2 h
      have hne : E.born ≠ b := by rw [he.2.2.2.1]; exact ne_of_beq hb
      refine ⟨q + 1, E', by omega, by simpa using h2, h3, ?_, ?_⟩
      · rw [List.find?_cons]
        have : (E.born == b) = false := by simp [hne]
        rw [this]; exact h4
      · rw [List.findIdx?_cons]
        have : ((E.born : Int) == (b : Int)) = false := by simp; omega
        rw [this]; simp [h5]
    · cases h
      have heq : E.born = b := by rw [he.2.2.2.1]; exact Nat.eq_of_beq_eq_true hb
      refine ⟨0, E, rfl, rfl, heq, ?_, ?_⟩
      · rw [List.find?_cons]; simp [heq]
      · rw [List.findIdx?_cons]; simp [heq]
  | [], _ :: _, _, _, h, _ => h.elim
  | _ :: _, [], _, _, h, _ => h.elim
theorem entryStore_ok {t : TypeId} {x s v X S V : Value} {h : T HO} {n : Nat} {r : Out} (e : entryStoreA x s v h n = some r) (hx : Rl ρ ε x X) (hs : Rl ρ ε s S) (hv : Rl ρ ε v V) (hm : Mod P ρ ε base w (tget h)) :
    ∃ w', (Instr.entryStore t X S V).run P w = .ok () w' ∧ Good P ε base ρ w h n r undef w' := by
  unfold entryStoreA at e
  split at e
  case h_2 => cases e
  rename_i id bn hbn
  split at e
  · cases e
  rename_i o ho
  split at e
  · cases e
  rename_i es hes
  cases hro : o.ro <;> simp only [hro, cond_true, cond_false] at e
  case true => cases e
  split at e
  case h_2 => cases e
  rename_i i hfind
  have e := updA_eq e
  subst e
  obtain ⟨b, hb, rfl⟩ := Rl_map.1 hx
  obtain ⟨kk, _, rfl⟩ := Rl_nat hbn hs
  obtain ⟨b', ES, g1, g2, g3, g4, g5, g6, g7⟩ := hm.mapO ho hes
  rw [hb] at g1; cases g1
  obtain ⟨q, E, h1, h2, h3, h4, h5⟩ := findBorn_ok g4 hfind
  rw [Nat.zero_add] at h1
  subst h1
  refine ⟨_, ?_, Good.map hm ho hro hb g2 (g4.setV hv i) Rl_undef⟩
  simp only [Instr.entryStore, Sem.run_bind, Result.andThen_ok, run_getObj g3, asInt, asIntOf, Sem.run_pure]
  have : ES.toArray.findIdx? (fun e => (e.born : Int) == (bn : Int)) = some i := by simpa using h5
  rw [this]
  simp [run_setObj g3, List.modify_toArray]

/-! #### Iterators over maps -/

theorem range_ok {t : TypeId} {x X : Value} {h : T HO} {n : Nat} {r : Out} (e : rangeA P t x h n = some r) (hx : Rl ρ ε x X) (hm : Mod P ρ ε base w (tget h)) (hf : ∀ id, n ≤ id → id < r.next → ρ id = none) (hb : base.n ≤ w.heap.size) :
    ∃ V w', (Instr.range t X).run P w = .ok V w' ∧ Good P ε base ρ w h n r V w' := by
  unfold rangeA at e
  split at e
  · rename_i kt el hu
    have := (Rl_self rfl).1 hx
    subst this
    refine ⟨.pointer (some ⟨w.heap.size, 0, none⟩), w.alloc (.mapIter none 0 #[] 0), by simp [Instr.range, run_under hu], Good.new (c := 0) e hm hf hb ?_ (Rl_ptr.2 ⟨_, by simp [upR]; rfl, rfl⟩)⟩
    unfold ObjR
    rw [if_neg (by simp [iterO]), if_neg (by simp [iterO])]
    exact ⟨rfl, rfl⟩
  · rename_i id kt el hu
    split at e
    · cases e
    rename_i o ho
    split at e
    · cases e
    rename_i es hes
    obtain ⟨b, hb', rfl⟩ := Rl_map.1 hx
    obtain ⟨b', ES, g1, g2, g3, g4, g5, g6, g7⟩ := hm.mapO ho hes
    rw [hb'] at g1; cases g1
    refine ⟨.pointer (some ⟨w.heap.size, 0, none⟩), w.alloc (.mapIter (some b.1) o.clock #[] o.clock), by simp [Instr.range, run_under hu, run_getObj g3], Good.new (c := 0) e hm hf hb ?_ (Rl_ptr.2 ⟨_, by simp [upR]; rfl, rfl⟩)⟩
    unfold ObjR
    rw [if_neg (by simp [iterO]), if_neg (by simp [iterO])]
    exact ⟨rfl, b, hb', rfl⟩
  · cases e
theorem leftOf_ok {seen : List Nat} : ∀ {es : List (Value × Value × Nat)} {ES : List MapEntry}, EntR ρ ε es ES → EntR ρ ε (leftOf seen es) (ES.filter fun e => !seen.toArray.contains e.born)
  | [], [], _ => trivial
  | (k, v, b) :: es, E :: ES, h => by
    have ih := leftOf_ok (seen := seen) h.2.2.2.2
    unfold leftOf at ih ⊢
    simp only [List.filter_cons, h.2.2.2.1]
    have hc : seen.toArray.contains b = seen.contains b := by simp
    rw [hc]
    cases seen.contains b
    · simp only [Bool.not_false, if_true]
      exact ⟨h.1, h.2.1, h.2.2.1, h.2.2.2.1, ih⟩
    · simpa using ih
  | [], _ :: _, h => h.elim
  | _ :: _, [], h => h.elim
theorem EntR.all {p : Nat → Bool} : ∀ {es : List (Value × Value × Nat)} {ES : List MapEntry}, EntR ρ ε es ES → ES.all (fun e => p e.born) = es.all (fun e => p e.2.2)
  | [], [], _ => rfl
  | (k, v, b) :: es, E :: ES, h => by simp [h.2.2.2.1, EntR.all (p := p) h.2.2.2.2]
  | [], _ :: _, h => h.elim
  | _ :: _, [], h => h.elim
theorem run_getIter {r : Nat} {m : Option Nat} {a : Nat} {s : Array Nat} {l : Nat} (h : w.heap[r]? = some (.mapIter m a s l)) : (getObj r).run P w = .ok (.mapIter m a s l) w := by
  simp [getObj, Sem.run, h]
theorem run_setIter {r : Nat} {m : Option Nat} {a : Nat} {s : Array Nat} {l : Nat} (h : w.heap[r]? = some (.mapIter m a s l)) (o : Obj) : (setObj r o).run P w = .ok () { w with heap := w.heap.setIfInBounds r o } := by
  simp [setObj, Sem.run, h]
theorem next_ok {x X : Value} {ty : TypeId} {h : T HO} {n : Nat} {r : Out} (e : nextA x h n = some r) (hx : Rl ρ ε x X) (hm : Mod P ρ ε base w (tget h)) :
    ∃ V w', (Instr.next X false ty).run P w = .ok V w' ∧ Good P ε base ρ w h n r V w' := by
  have over : Rl ρ ε (.tuple #[.bool false]) (.tuple #[.bool false]) := Rl_tuple.2 ⟨[.bool false], rfl, Rl_bool.2 rfl, trivial⟩
  unfold nextA at e
  split at e
  case h_2 => cases e
  rename_i id
  obtain ⟨b, hb, rfl⟩ := Rl_ptr.1 hx
  split at e
  · cases e
  rename_i o ho
  split at e
  · cases e
  · rename_i hit
    obtain ⟨b', g1, g2, g3, g4, g5, g6⟩ := hm.iterO ho hit
    rw [hb] at g1; cases g1
    simp only [Option.some.injEq] at e
    subst e
    unfold IterR at g3
    rw [← g4] at g3
    simp only at g3
    exact ⟨_, w, by simp [Instr.next, run_getIter g3], Good.val hm over⟩
  · rename_i last seen hit
    obtain ⟨b', g1, g2, g3, g4, g5, g6⟩ := hm.iterO ho hit
    rw [hb] at g1; cases g1
    unfold IterR at g3
    rw [← g4] at g3
    simp only at g3
    obtain ⟨c, hc, g3⟩ := g3
    split at e
    · cases e
    rename_i m hmp
    split at e
    · cases e
    rename_i es hes
    obtain ⟨c', ES, k1, k2, k3, k4, k5, k6, k7⟩ := hm.mapO hmp hes
    rw [hc] at k1; cases k1
    cases hgd : (!seen.isEmpty && !es.isEmpty && es.all (fun e => Nat.ble last e.2.2)) <;> simp only [hgd, cond_true, cond_false] at e
    case true => cases e
    have hgd' : (!seen.toArray.isEmpty && !ES.toArray.isEmpty && ES.toArray.all (fun e => decide (e.born ≥ last))) = false := by
      rw [← hgd]
      have h1 : ES.toArray.isEmpty = es.isEmpty := by rw [← k4.isEmpty]; simp
      have h2 : ES.toArray.all (fun e => decide (e.born ≥ last)) = es.all (fun e => Nat.ble last e.2.2) := by
        rw [← k4.all (p := fun b => Nat.ble last b)]
        simp only [List.all_toArray]
        congr 1
        funext e
        cases hbl : Nat.ble last e.born with
        | true => simpa using Nat.le_of_ble_eq_true hbl
        | false =>
          simp only [decide_eq_false_iff_not]
          intro hle
          rw [Nat.ble_eq_true_of_le hle] at hbl; cases hbl
      rw [h1, h2]; simp
    have hleft := leftOf_ok (seen := seen) k4
    have hL : (ES.toArray.filter fun e => !seen.toArray.contains e.born) = (ES.filter fun e => !seen.toArray.contains e.born).toArray := by simp
    generalize hLE : (ES.filter fun e => !seen.toArray.contains e.born) = LE at hleft hL
    split at e
    · rename_i hl
      simp only [Option.some.injEq] at e
      subst e
      rw [hl] at hleft
      cases LE with
      | cons _ _ => exact hleft.elim
      | nil =>
        refine ⟨.tuple #[.bool false], w, ?_, Good.val hm over⟩
        simp only [Instr.next, Sem.run_bind, run_getIter g3, Result.andThen_ok, run_getObj k3, hgd', hL, Bool.false_eq_true, if_false]
        simp [run_choose, Question.forced]
    · rename_i k v bn hl
      cases hc2 : (Nat.blt bn o.clock && !o.ro) <;> simp only [hc2, cond_true, cond_false] at e
      · cases e
      simp only [Bool.and_eq_true, Bool.not_eq_true'] at hc2
      have hlt : bn < o.clock := by simpa [Nat.blt_eq] using hc2.1
      have e := updA_eq e
      subst e
      rw [hl] at hleft
      match LE, hleft with
      | [E], hleft =>
        obtain ⟨q1, q2, q3, q4, -⟩ := hleft
        refine ⟨.tuple #[.bool true, E.key, E.val], _, ?_, Good.obj (o := o) (o' := iterO o.elem o.clock (m.clock :: (seen ++ [bn]))) (ob := .mapIter (some c.1) o.clock (seen ++ [bn]).toArray m.clock) hm ho hc2.2 rfl hb g2 ?_ (Rl_tuple.2 ⟨[.bool true, E.key, E.val], rfl, Rl_bool.2 rfl, by rw [q1]; exact Rl_closed q2, q3, trivial⟩)⟩
        · simp only [Instr.next, Sem.run_bind, run_getIter g3, Result.andThen_ok, run_getObj k3, hgd', hL, Bool.false_eq_true, if_false]
          have hge : ¬ o.clock ≤ E.born := by omega
          simp [run_choose, Question.forced, q4, hlt, run_setIter g3, hge]
        · unfold ObjR
          rw [if_neg (by simp [iterO]), if_neg (by simp [iterO])]
          exact ⟨rfl, c, hc, rfl⟩
    · cases e
theorem entry_ok {x v X : Value} {h : T HO} (e : entryA x h = some v) (hx : Rl ρ ε x X) (hm : Mod P ρ ε base w (tget h)) :
    ∃ V, (Instr.entry X).run P w = .ok V w ∧ Rl ρ ε v V := by
  unfold entryA at e
  split at e
  case h_2 => cases e
  rename_i id
  obtain ⟨b, hb, rfl⟩ := Rl_ptr.1 hx
  split at e
  · cases e
  rename_i o ho
  split at e
  case h_2 => cases e
  rename_i last seen hit
  obtain ⟨b', g1, g2, g3, g4, g5, g6⟩ := hm.iterO ho hit
  rw [hb] at g1; cases g1
  unfold IterR at g3
  rw [← g4] at g3
  simp only at g3
  obtain ⟨c, hc, g3⟩ := g3
  split at e
  case h_2 => cases e
  rename_i m bn hmp hbk
  split at e
  · cases e
  rename_i es hes
  obtain ⟨c', ES, k1, k2, k3, k4, k5, k6, k7⟩ := hm.mapO hmp hes
  rw [hc] at k1; cases k1
  cases hcl : Nat.beq m.clock last <;> simp only [hcl, cond_true, cond_false] at e
  · cases e
  have hcl := Nat.eq_of_beq_eq_true hcl
  split at e
  case h_2 => cases e
  rename_i i hfb
  obtain ⟨q, E, h1, h2, h3, h4, h5⟩ := findBorn_ok k4 hfb
  rw [Nat.zero_add] at h1
  subst h1
  obtain ⟨kk, vv, bb, r1, r2, r3, r4, r5⟩ := k4.get h2
  rw [lget_eq, r1] at e
  simp only [Option.some.injEq] at e
  subst e
  refine ⟨.tuple #[E.key, E.val], ?_, Rl_tuple.2 ⟨[E.key, E.val], rfl, by rw [r2]; exact Rl_closed r3, r4, trivial⟩⟩
  have hbk' : seen.toArray.back? = some bn := by simpa using hbk
  have h4' : ES.toArray.find? (fun e => e.born == bn) = some E := by simpa using h4
  simp [Instr.entry, run_getIter g3, hbk', run_getObj k3, hcl, h4', h4]

/-! #### A slice of bytes as itself -/

theorem mark_ok {v V : Value} {h : T HO} {n : Nat} {r : Out} (e : markA v h n = some r) (hv : Rl ρ ε v V) (hm : Mod P ρ ε base w (tget h)) :
    ∃ a l c w', V = .slice (some a) l c ∧ (markStringish a).run P w = .ok () w' ∧ Good P ε base ρ w h n r V w' := by
  unfold markA at e
  split at e
  case h_2 => cases e
  rename_i id off sp len c
  split at e
  case h_2 => cases e
  rename_i o ho
  split at e
  case h_2 => cases e
  rename_i cs hcs
  cases hro : o.ro <;> simp only [hro, cond_true, cond_false] at e
  case true => cases e
  have e := updA_eq e
  subst e
  obtain ⟨b, CS, tl, el, fr, g1, g2, g3, g4, g5, g6, g7, g8, g9, g10⟩ := hm.row ho hcs
  have hV : ∃ off' c', V = .slice (some ⟨b.1, off', none⟩) len c' := by
    cases sp with
    | none => obtain ⟨b', hb, rfl⟩ := Rl_slice.1 hv; rw [g1] at hb; cases hb; exact ⟨_, _, rfl⟩
    | some alt => obtain ⟨b', hb, rfl, _⟩ := Rl_sliceO.1 hv; rw [g1] at hb; cases hb; exact ⟨_, _, rfl⟩
  obtain ⟨off', c', rfl⟩ := hV
  obtain ⟨f1, f2, f3⟩ := g8 hro
  have hsh : w.shape? b.1 = some (el, (CS ++ tl).toArray.size) := by simp [World.shape?, g3]
  let fr' : Nat × Nat := if fr.1 == fr.2 then ((CS ++ tl).length, (CS ++ tl).length + 1) else (min fr.1 (CS ++ tl).length, max fr.2 ((CS ++ tl).length + 1))
  have hfr' : FrOk fr' (CS ++ tl).length := by
    right
    show (CS ++ tl).length ≤ (if fr.1 == fr.2 then ((CS ++ tl).length, (CS ++ tl).length + 1) else (min fr.1 (CS ++ tl).length, max fr.2 ((CS ++ tl).length + 1))).1
    by_cases heq : fr.1 = fr.2
    · simp [heq]
    · have hb' : (fr.1 == fr.2) = false := by simp [heq]
      rw [hb']
      rcases f2 with f2 | f2
      · exact absurd f2 heq
      · simp only [Bool.false_eq_true, if_false]; omega
  refine ⟨_, len, c', w.freeze ⟨b.1, (CS ++ tl).toArray.size, none⟩ 1, rfl, by simp [markStringish, hsh], ρ, Step.upd (o := o) (b := b) (ob := .cells (CS ++ tl).toArray el fr') hm ho hro rfl g1 (fun k => ?_) (by simp [World.freeze]) (by simp [World.freeze]) (by simp [World.freeze]) (by simp [World.freeze]) ?_, hv⟩
  · simp only [World.freeze, Nat.one_ne_zero, if_false, Array.getElem?_modify]
    by_cases hk : k = b.1
    · subst hk
      rw [if_pos rfl, if_pos rfl, g3]
      simp [fr']
    · rw [if_neg hk, if_neg (fun h => hk h.symm)]
  · unfold ObjR
    rw [if_pos (by exact g6)]
    exact ⟨CS, tl, el, fr', rfl, by rw [← g5]; exact g4, g7, fun _ => ⟨f1, hfr', fun h => by cases h⟩, g9⟩

/-! #### Texts -/

theorem strToBytes_ok {el : TypeId} {s : ByteArray} {h : T HO} {n : Nat} {r : Out} (e : strToBytesA P el s h n = some r) (hm : Mod P ρ ε base w (tget h)) (hf : ∀ id, n ≤ id → id < r.next → ρ id = none) (hb : base.n ≤ w.heap.size) :
    ∃ V w', (Conv.stringToBytes el s).run P w = .ok V w' ∧ Good P ε base ρ w h n r V w' := by
  unfold strToBytesA at e
  split at e
  case h_2 => simp at e
  rename_i s1 hs
  cases h1 : Nat.beq s1 1 <;> simp only [h1, cond_true, cond_false] at e
  · cases e
  have := Nat.eq_of_beq_eq_true h1
  subst this
  have he := newA_eq e
  subst he
  have hbl : (bytesOf s).length = s.size := by unfold bytesOf; rw [List.length_map]; rfl
  have hBR : RlL ρ ε (bytesOf s) (bytesOf s) := by
    unfold bytesOf
    generalize s.data.toList = l
    induction l with
    | nil => trivial
    | cons x r ih => exact ⟨Rl_int.2 rfl, ih⟩
  obtain ⟨cap, hcap, hcapq⟩ : ∃ cap, s.size ≤ cap ∧ (Question.appendCap s.size 0 el).cut (w.tape w.drawn (.appendCap s.size 0 el)) = cap := ⟨_, Nat.le_add_right _ _, rfl⟩
  have hsz : (bytesOf s ++ List.replicate (cap - s.size) (Value.int .u8 0)).length = cap := by simp [hbl]; omega
  refine ⟨.slice (some ⟨w.heap.size, 0, none⟩) s.size cap, (w.drew.alloc (.cells (bytesOf s ++ List.replicate (cap - s.size) (Value.int .u8 0)).toArray el)).freeze ⟨w.heap.size, cap, none⟩ 1, ?_, ?_⟩
  · have hq : (Question.appendCap s.size 0 el).forced = false := rfl
    have hel : (s.data.map fun b => Value.int .u8 b.toNat) ++ Array.replicate (cap - s.size) (Value.int .u8 0) = (bytesOf s ++ List.replicate (cap - s.size) (Value.int .u8 0)).toArray := by
      apply Array.ext'
      simp [bytesOf]
    simp only [Conv.stringToBytes, Sem.run_bind, run_choose, hq, Bool.false_eq_true, if_false, Result.andThen_ok, hcapq, hel, newRow, run_newObj, Sem.run_pure, markStringish, run_shape, World.drew_eq, World.alloc_eq]
    have hsh : (w.drew.alloc (.cells (bytesOf s ++ List.replicate (cap - s.size) (Value.int .u8 0)).toArray el)).shape? w.heap.size = some (el, cap) := by
      simp only [World.shape?, World.alloc]
      have : (w.drew.heap.push (Obj.cells (bytesOf s ++ List.replicate (cap - s.size) (Value.int .u8 0)).toArray el))[w.heap.size]? = some (Obj.cells (bytesOf s ++ List.replicate (cap - s.size) (Value.int .u8 0)).toArray el) := by
        show (w.heap.push _)[w.heap.size]? = _
        simp
      rw [this]
      simp only [Option.some.injEq, Prod.mk.injEq, true_and]
      simpa using hsz
    have hdh : w.drew.heap.size = w.heap.size := rfl
    rw [hdh]
    simp [hsh]
  · refine ⟨_, Step.drewFirst hm (Step.new (c := cap) (ob := .cells (bytesOf s ++ List.replicate (cap - s.size) (Value.int .u8 0)).toArray el (cap, cap + 1)) (hm.heap rfl) (hf n (Nat.le_refl _) (by simp)) (by simpa using hb) ?_ ?_ ?_ ?_ (ObjR.rowOpen (s := 1) (m := true) hBR hs (by rw [hsz]; omega) (.inr (by rw [hsz]; exact Nat.le_refl _)) (fun h => by cases h))), Rl_sliceO.2 ⟨_, by simp [upR]; rfl, ?_, by simp; omega⟩⟩
    · simp only [World.freeze, World.alloc]
      apply Array.ext
      · simp
      · intro i h1 h2
        simp only [Nat.one_ne_zero, if_false] at h1 ⊢
        simp only [Array.getElem_modify, Array.getElem_push]
        have hdh : w.drew.heap.size = w.heap.size := rfl
        by_cases hi : i < w.heap.size
        · simp only [hdh, hi, dif_pos]
          rw [if_neg (by omega)]
        · have : i = w.heap.size := by simp at h2; omega
          subst this
          simp [hdh]
    · simp [World.freeze] <;> rfl
    · simp [World.freeze] <;> rfl
    · simp [World.freeze] <;> rfl
    · simp
theorem byteList_eq : ∀ (cs : List Value) (l : List UInt8), byteList cs = some l → ∃ ns : List Int, cs = ns.map (Value.int .u8) ∧ l = ns.map fun n => UInt8.ofNat n.toNat
  | [], l, h => by simp [byteList] at h; subst h; exact ⟨[], rfl, rfl⟩
  | v :: r, l, h => by
    unfold byteList at h
    split at h
    · rename_i heq; cases heq
    · rename_i n r' heq
      cases heq
      split at h
      · rename_i l' hl'
        simp only [Option.some.injEq] at h
        subst h
        obtain ⟨ns, h1, h2⟩ := byteList_eq r l' hl'
        exact ⟨n :: ns, by simp [h1], by simp [h2]⟩
      · cases h
    · cases h
theorem push_fold : ∀ (ns : List Int) (s : ByteArray), ns.foldl (fun r n => r.push (UInt8.ofNat n.toNat)) s = ⟨(s.data.toList ++ ns.map fun n => UInt8.ofNat n.toNat).toArray⟩
  | [], s => by cases s; simp
  | n :: ns, s => by
    simp only [List.foldl_cons, push_fold ns]
    cases s
    simp [ByteArray.push]
theorem bytesToStr_ok {x v X : Value} {h : T HO} (e : bytesToStrA x h = some v) (hx : Rl ρ ε x X) (hm : Mod P ρ ε base w (tget h)) :
    (Conv.bytesToString X).run P w = .ok v w ∧ Rl ρ ε v v := by
  unfold bytesToStrA at e
  split at e
  · simp only [Option.some.injEq] at e
    subst e
    have := (Rl_self rfl).1 hx
    subst this
    exact ⟨by simp [Conv.bytesToString], Rl_string.2 rfl⟩
  · rename_i a len c
    split at e
    case h_2 => cases e
    rename_i m cs hsrc
    split at e
    case h_2 => cases e
    rename_i l hl
    simp only [Option.some.injEq] at e
    subst e
    obtain ⟨hlen, hcl, CS, hCS, hfirst⟩ := source_ok hsrc hx hm
    obtain ⟨ns, rfl, rfl⟩ := byteList_eq cs l hl
    have hCSe : CS = ns.map (Value.int .u8) := by
      have : ∀ (ns : List Int) (C : List Value), RlL ρ ε (ns.map (Value.int .u8)) C → C = ns.map (Value.int .u8) := by
        intro ns
        induction ns with
        | nil => intro C h; cases C <;> first | rfl | exact h.elim
        | cons n r ih => intro C h; cases C with
          | nil => exact h.elim
          | cons c C => rw [Rl_int.1 h.1, ih C h.2]; rfl
      exact this ns CS hCS
    subst hCSe
    have hX : ∃ A C, X = .slice (some A) len C := by
      obtain ⟨id, off, sp⟩ := a
      cases sp with
      | none => obtain ⟨b, _, rfl⟩ := Rl_slice.1 hx; exact ⟨_, _, rfl⟩
      | some alt => obtain ⟨b, _, rfl, _⟩ := Rl_sliceO.1 hx; exact ⟨_, _, rfl⟩
    obtain ⟨A, C, rfl⟩ := hX
    have hml : m = len := by simp [Builtin.lenOf] at hlen; exact hlen.symm
    subst hml
    have hf := hfirst m (Nat.le_refl m)
    rw [List.take_of_length_le (by rw [hCS.length, hcl]; exact Nat.le_refl _)] at hf
    simp only [Builtin.firstCells, Nat.mul_one] at hf
    refine ⟨?_, Rl_string.2 rfl⟩
    rw [run_bytesToString w A m C ns hf, push_fold]
    simp <;> rfl
  · cases e
end
end Go.Proofs.YtefnfbidphmgoaaDoor.Ex
