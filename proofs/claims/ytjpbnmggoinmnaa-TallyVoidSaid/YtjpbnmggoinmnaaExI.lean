/- A reckoner for runs of fixed texts, ninth part: copy, clear, maps, texts. No conditions. -/
import Derived.Test.YtjpbnmggoinmnaaExH
import Derived.Laws.BytesString
set_option linter.unusedVariables false
set_option linter.unusedSimpArgs false
namespace Go.Proofs.Ytjpbnmggoinmnaa.Ex
open Go Go.RowKit

section
variable {P : Program} {ε : Nat → Option Value} {base : Nat} {ρ : Rho} {w : World}

theorem Rl_undef : Rl ρ ε undef undef := Rl_tuple.2 ⟨[], rfl, trivial⟩
theorem copy_ok (hε : ∀ i V, ε i = some V → one V = true) {el t : TypeId} {ats : Array TypeId} {ty : TypeId} {x y X Y : Value} {h : T HO} {n : Nat} {r : Out} (e : copyA P el x y h n = some r) (hx : Rl ρ ε x X) (hy : Rl ρ ε y Y) (ht : ats[0]? = some t) (h1 : P.underlying t = some (.slice el)) (hm : Mod P ρ ε base w (tget h)) :
    ∃ V w', (Builtin.copy_ ats ty #[X, Y]).run P w = .ok V w' ∧ Good P ε base ρ w h n r V w' := by
  unfold copyA at e
  split at e
  · cases e
  rename_i s hs
  split at e
  · cases e
  rename_i m cs hsrc
  obtain ⟨hlen, hcl, CS, hCS, hfirst⟩ := source_ok hsrc hy hm
  split at e
  case h_2 => cases e
  rename_i id off sp len c
  obtain ⟨A, C, hX⟩ := Rl_slice_any hx
  have hfk := hfirst (Nat.min m len) (Nat.min_le_left m len)
  have hrun : ∀ w', (match A with | some a => storeCells a (CS.take (Nat.min m len * s)) | none => pure ()).run P w = .ok () w' → (Builtin.copy_ ats ty #[X, Y]).run P w = .ok (.int .i64 (Nat.min m len : Nat)) w' := by
    intro w' hst
    subst hX
    simp only [Builtin.copy_, ht, Sem.run_bind, run_under h1, Result.andThen_ok, Sem.run_pure, List.getElem?_toArray, List.getElem?_cons_zero, List.getElem?_cons_succ, hlen, run_sizeA hs, hfk]
    cases A with
    | none => simp only [Sem.run_pure] at hst ⊢; cases hst; rfl
    | some a => simp only at hst ⊢; simp [hst, goInt]
  cases h0 : Nat.beq (Nat.min m len) 0 <;> simp only [h0, cond_true, cond_false] at e
  · cases hp : plainSp sp off <;> simp only [hp, cond_true, cond_false] at e
    · cases e
    obtain ⟨b, hb, C', hX'⟩ := plain_slice hp hx
    rw [hX] at hX'
    cases hX'
    split at e
    case h_2 => cases e
    rename_i o l ho hl
    split at e
    case h_2 => cases e
    rename_i rr hr
    cases hc : (l.all one && !o.ro) <;> simp only [hc, cond_true, cond_false] at e
    · cases e
    simp only [Bool.and_eq_true, Bool.not_eq_true'] at hc
    split at e
    case h_2 => cases e
    rename_i r' hset
    have e := updA_eq e
    subst e
    obtain ⟨e1, e2⟩ := takeN_eq _ _ _ hl
    have hlR : RlL ρ ε l (CS.take (Nat.min m len * s)) := by rw [e1]; exact hCS.take _
    obtain ⟨w', hw1, hw2⟩ := write_any (n := n) (u := .int .i64 (Nat.min m len : Nat)) hε hm ho hr hc.2 hb hset hlR hc.1 (Rl_int.2 rfl)
    exact ⟨_, w', hrun w' (hw1 _ (.inr rfl)), hw2⟩
  · have hz := Nat.eq_of_beq_eq_true h0
    simp only [Option.some.injEq] at e
    subst e
    refine ⟨_, w, hrun w ?_, Good.val hm (Rl_int.2 ?_)⟩
    · rw [hz]
      cases A <;> simp [storeCells]
    · rw [hz]; rfl
theorem clear_ok (hε : ∀ i V, ε i = some V → one V = true) {el t : TypeId} {ats : Array TypeId} {ty : TypeId} {x X : Value} {h : T HO} {n : Nat} {r : Out} (e : clearA P el x h n = some r) (hx : Rl ρ ε x X) (ht : ats[0]? = some t) (h1 : P.underlying t = some (.slice el)) (hm : Mod P ρ ε base w (tget h)) :
    ∃ V w', (Builtin.clear_ ats ty #[X]).run P w = .ok V w' ∧ Good P ε base ρ w h n r V w' := by
  unfold clearA at e
  split at e
  case h_2 => cases e
  rename_i s z id off sp len c hs hz
  obtain ⟨i, hi, hiz, hcl⟩ := zeroA_info hz
  cases h0 : Nat.beq len 0 <;> simp only [h0, cond_true, cond_false] at e
  · have hne := ne_of_beq h0
    cases hc : (plainSp sp off && Nat.beq (cellsOf z).length s && (cellsOf z).all one) <;> simp only [hc, cond_true, cond_false] at e
    · cases e
    simp only [Bool.and_eq_true] at hc
    have hzl := Nat.eq_of_beq_eq_true hc.1.2
    obtain ⟨b, hb, C, rfl⟩ := plain_slice hc.1.1 hx
    split at e
    case h_2 => cases e
    rename_i o ho
    split at e
    case h_2 => cases e
    rename_i rr hr
    cases hro : o.ro <;> simp only [hro, Bool.not_true, Bool.not_false, cond_true, cond_false] at e
    case true => cases e
    split at e
    case h_2 => cases e
    rename_i r' hset
    have e := updA_eq e
    subst e
    have hall : (rep (cellsOf z) len).all one = true := by
      have : ∀ n, (rep (cellsOf z) n).all one = true := by
        intro n
        induction n with
        | zero => rfl
        | succ n ih => simp [rep, hc.2, ih]
      exact this len
    obtain ⟨w', hw1, hw2⟩ := write_any (n := n) (u := undef) (U := undef) hε hm ho hr hro hb hset (RlL_rep (RlL_zero (ρ := ρ) hε hcl) len) hall Rl_undef
    rw [hro] at hw2
    refine ⟨undef, w', ?_, hw2⟩
    cases len with
    | zero => exact absurd rfl hne
    | succ k =>
      have hst := hw1 _ (.inr rfl)
      simp [Builtin.clear_, ht, run_under h1, run_zeroA hz, zeroCells_eq hzl, hst]
      rfl
  · have := Nat.eq_of_beq_eq_true h0
    subst this
    simp only [Option.some.injEq] at e
    subst e
    obtain ⟨A, C, rfl⟩ := Rl_slice_any hx
    refine ⟨undef, w, ?_, Good.val hm Rl_undef⟩
    cases A <;> (simp [Builtin.clear_, ht, run_under h1]; rfl)

/-! #### Maps -/

theorem run_setObj {r : Nat} {es : Array MapEntry} {clk : Nat} (h : w.heap[r]? = some (.map es clk)) (o : Obj) : (setObj r o).run P w = .ok () { w with heap := w.heap.setIfInBounds r o } := by
  simp [setObj, Sem.run, h]
theorem run_getObj {r : Nat} {es : Array MapEntry} {clk : Nat} (h : w.heap[r]? = some (.map es clk)) : (getObj r).run P w = .ok (.map es clk) w := by
  simp [getObj, Sem.run, h]
theorem bytes_eq (x y : ByteArray) (h : (x == y) = true) : x = y := by
  cases x with
  | mk a => cases y with
    | mk b =>
      have h2 : (a == b) = true := h
      rw [eq_of_beq h2]
theorem same_ok {kind : TypeDesc} {k a : Value} {b : Bool} (hk : simpleKey (some kind) k = true) (h : sameKey k a = some b) : Instr.sameNow kind k a = some b ∧ (b = true → a = k) := by
  unfold sameKey at h
  split at h
  · rename_i j x j' y
    cases hj : decide (j = j') <;> simp only [hj, cond_true, cond_false] at h
    · cases h
    have hj := of_decide_eq_true hj
    subst hj
    cases kind <;> simp [simpleKey] at hk
    simp only [Option.some.injEq] at h
    subst h
    refine ⟨?_, fun hb => ?_⟩
    · simp [Instr.sameNow]; rfl
    · have := of_decide_eq_true hb; subst this; rfl
  · rename_i x y
    cases kind <;> simp [simpleKey] at hk
    simp only [Option.some.injEq] at h
    subst h
    refine ⟨rfl, fun hb => ?_⟩
    rw [bytes_eq x y hb]
  · cases h
theorem findK_ok {kind : TypeDesc} {k : Value} (hk : simpleKey (some kind) k = true) : ∀ (es : List (Value × Value × Nat)) (ES : List MapEntry) (i : Nat) (r : Option (Nat × Value)), EntR ρ ε es ES → findK k es i = some r →
    (r = none ∧ Instr.findNow kind k ES i = some none) ∨ (∃ j v V e E, r = some (i + j, v) ∧ Instr.findNow kind k ES i = some (some (i + j, V)) ∧ es[j]? = some e ∧ ES[j]? = some E ∧ e.1 = k ∧ E.key = k ∧ e.2.1 = v ∧ E.val = V ∧ Rl ρ ε v V)
  | [], [], i, r, _, h => by simp only [findK, Option.some.injEq] at h; subst h; exact .inl ⟨rfl, rfl⟩
  | (a, v, b) :: es, E :: ES, i, r, he, h => by
    obtain ⟨h1, h2, h3, h4, h5⟩ := he
    simp only [findK] at h
    split at h
    · rename_i hs
      simp only [Option.some.injEq] at h
      subst h
      obtain ⟨g1, g2⟩ := same_ok hk hs
      refine .inr ⟨0, v, E.val, (a, v, b), E, rfl, ?_, rfl, rfl, g2 rfl, h1.trans (g2 rfl), rfl, rfl, h3⟩
      simp [Instr.findNow, h1, g1]
    · rename_i hs
      obtain ⟨g1, g2⟩ := same_ok hk hs
      rcases findK_ok hk es ES (i + 1) r h5 h with ⟨q1, q2⟩ | ⟨j, v', V, e, E', q1, q2, q3, q4, q5, q6, q7, q8, q9⟩
      · exact .inl ⟨q1, by simp [Instr.findNow, h1, g1, q2]⟩
      · refine .inr ⟨j + 1, v', V, e, E', by rw [q1]; congr 2; omega, ?_, by simpa using q3, by simpa using q4, q5, q6, q7, q8, q9⟩
        simp only [Instr.findNow, h1, g1, q2]
        congr 3
        omega
    · cases h
  | [], _ :: _, _, _, h, _ => h.elim
  | _ :: _, [], _, _, h, _ => h.elim
theorem key_self {kind : Option TypeDesc} {k K : Value} (hk : simpleKey kind k = true) (hr : Rl ρ ε k K) : K = k ∧ isKey k = true := by
  unfold simpleKey at hk
  split at hk
  · exact ⟨Rl_int.1 hr, rfl⟩
  · exact ⟨Rl_string.1 hr, rfl⟩
  · cases hk
theorem checkKey_simple {kt : TypeId} {kind : TypeDesc} {k : Value} (hu : P.underlying kt = some kind) (hk : simpleKey (some kind) k = true) (e : Bool) (w : World) : (Instr.checkKey e 10000 kt k).run P w = .ok () w := by
  unfold Instr.checkKey
  simp only [Sem.run_bind, run_under hu, Result.andThen_ok]
  cases kind <;> simp [simpleKey] at hk <;> (cases k <;> simp at hk <;> rfl)
theorem findKey_simple {kt : TypeId} {kind : TypeDesc} {k : Value} {ES : List MapEntry} {r : Option (Nat × Value)} (hu : P.underlying kt = some kind) (h : Instr.findNow kind k ES 0 = some r) (w : World) : (Instr.findKey kt k ES).run P w = .ok r w := by
  simp [Instr.findKey, run_under hu, h]
theorem lookup_ok {t : TypeId} {x k v X K : Value} {ok : Bool} {h : T HO} (e : lookupA P t x k ok h = some v) (hx : Rl ρ ε x X) (hk : Rl ρ ε k K) (hm : Mod P ρ ε base w (tget h)) :
    ∃ V, (Instr.lookup t X K ok).run P w = .ok V w ∧ Rl ρ ε v V := by
  unfold lookupA at e
  split at e
  case h_2 => cases e
  rename_i id kt el hu
  cases hsk : simpleKey (P.underlying kt) k <;> simp only [hsk, cond_true, cond_false] at e
  · cases e
  split at e
  · cases e
  rename_i o ho
  split at e
  · cases e
  rename_i es hes
  obtain ⟨b, hb, rfl⟩ := Rl_map.1 hx
  obtain ⟨b', ES, g1, g2, g3, g4, g5, g6, g7⟩ := hm.mapO ho hes
  rw [hb] at g1; cases g1
  obtain ⟨rfl, hik⟩ := key_self hsk hk
  cases hkt : P.underlying kt with
  | none => rw [hkt] at hsk; simp [simpleKey] at hsk
  | some kind =>
    rw [hkt] at hsk
    split at e
    · rename_i j v' hfind
      rcases findK_ok hsk es ES 0 _ g4 hfind with ⟨q1, _⟩ | ⟨j', v2, V, e2, E, q1, q2, q3, q4, q5, q6, q7, q8, q9⟩
      · cases q1
      cases q1
      simp only [Option.some.injEq] at e
      have hrun : (Instr.lookup t (.map (some b.1)) K ok).run P w = .ok (if ok then .tuple #[V, .bool true] else V) w := by
        simp only [Instr.lookup, Sem.run_bind, run_under hu, Result.andThen_ok, run_getObj g3, Sem.run_pure, checkKey_simple hkt hsk, findKey_simple hkt q2]
      refine ⟨_, hrun, ?_⟩
      cases ok
      · simp only [cond_false] at e; subst e; exact q9
      · simp only [cond_true] at e; subst e; exact Rl_tuple.2 ⟨[V, .bool true], rfl, q9, Rl_bool.2 rfl, trivial⟩
    · rename_i hfind
      rcases findK_ok hsk es ES 0 _ g4 hfind with ⟨_, q2⟩ | ⟨j', v2, V, e2, E, q1, _⟩
      case inr => cases q1
      split at e
      case h_2 => cases e
      rename_i z hz
      obtain ⟨i, hi, hiz, hcl⟩ := zeroA_info hz
      have hrun : (Instr.lookup t (.map (some b.1)) K ok).run P w = .ok (if ok then .tuple #[z, .bool false] else z) w := by
        simp only [Instr.lookup, Sem.run_bind, run_under hu, Result.andThen_ok, run_getObj g3, Sem.run_pure, checkKey_simple hkt hsk, findKey_simple hkt q2, run_zeroA hz]
      simp only [Option.some.injEq] at e
      refine ⟨_, hrun, ?_⟩
      cases ok
      · simp only [cond_false] at e; subst e; exact Rl_closed hcl
      · simp only [cond_true] at e; subst e; exact Rl_tuple.2 ⟨[z, .bool false], rfl, Rl_closed hcl, Rl_bool.2 rfl, trivial⟩
    · cases e
theorem EntR.append : ∀ {r s : List (Value × Value × Nat)} {R S : List MapEntry}, EntR ρ ε r R → EntR ρ ε s S → EntR ρ ε (r ++ s) (R ++ S)
  | [], _, [], _, _, k => k
  | (_, _, _) :: _, _, _ :: _, _, h, k => ⟨h.1, h.2.1, h.2.2.1, h.2.2.2.1, h.2.2.2.2.append k⟩
  | [], _, _ :: _, _, h, _ => h.elim
  | _ :: _, _, [], _, h, _ => h.elim
theorem EntR.setK {k x X : Value} (hk : isKey k = true) (hx : Rl ρ ε x X) : ∀ {r : List (Value × Value × Nat)} {R : List MapEntry} (i : Nat), EntR ρ ε r R → EntR ρ ε (Ex.setK k x i r) (R.modify i fun e => { e with key := k, val := X })
  | [], [], _, _ => by simp [Ex.setK, EntR]
  | (_, _, _) :: _, _ :: _, 0, h => ⟨rfl, hk, hx, h.2.2.2.1, h.2.2.2.2⟩
  | (_, _, _) :: _, _ :: _, i + 1, h => ⟨h.1, h.2.1, h.2.2.1, h.2.2.2.1, h.2.2.2.2.setK hk hx i⟩
  | [], _ :: _, _, h => h.elim
  | _ :: _, [], _, h => h.elim
theorem EntR.erase : ∀ {r : List (Value × Value × Nat)} {R : List MapEntry} (i : Nat), EntR ρ ε r R → EntR ρ ε (r.eraseIdx i) (R.eraseIdx i)
  | [], [], _, _ => by simp [EntR]
  | (_, _, _) :: _, _ :: _, 0, h => by simpa using h.2.2.2.2
  | (_, _, _) :: _, _ :: _, i + 1, h => ⟨h.1, h.2.1, h.2.2.1, h.2.2.2.1, h.2.2.2.2.erase i⟩
  | [], _ :: _, _, h => h.elim
  | _ :: _, [], _, h => h.elim
theorem sameBits_key {k : Value} (hk : isKey k = true) : Instr.sameBits 10000 k k = true := by
  unfold isKey at hk
  split at hk
  · simp [Instr.sameBits]
  · rename_i s
    simp only [Instr.sameBits]
    cases s with
    | mk a => show (a == a) = true; simp
  · cases hk
/-- A map is written anew. -/
theorem Good.map {h : T HO} {n id : Nat} {o : HO} {es : List (Value × Value × Nat)} {b : Nat × Nat} {ES : Array MapEntry} {clk clk' : Nat} {es' : List (Value × Value × Nat)} {ES' : List MapEntry} {v V : Value} (hm : Mod P ρ ε base w (tget h)) (ho : tget h id = some o) (hro : o.ro = false) (hb : ρ id = some b)
    (hlt : b.1 < w.heap.size) (hr : EntR ρ ε es' ES') (hv : Rl ρ ε v V) :
    Good P ε base ρ w h n ⟨v, tput h id (some (mapO es' clk')), n, [id]⟩ V { w with heap := w.heap.setIfInBounds b.1 (.map ES'.toArray clk') } := by
  refine ⟨ρ, Step.upd (o := o) (b := b) (ob := .map ES'.toArray clk') hm ho hro rfl hb (fun k => ?_) (by simp) rfl rfl rfl ?_, hv⟩
  · simp only [Array.getElem?_setIfInBounds]
    by_cases hk : k = b.1
    · subst hk; simp [hlt]
    · rw [if_neg hk, if_neg (fun h => hk h.symm)]
  · unfold ObjR
    rw [if_neg (by simp [mapO])]
    exact ⟨rfl, ES', rfl, hr⟩
theorem mapUpdate_ok {t : TypeId} {x k v X K V : Value} {h : T HO} {n : Nat} {r : Out} (e : mapUpdateA P t x k v h n = some r) (hx : Rl ρ ε x X) (hk : Rl ρ ε k K) (hv : Rl ρ ε v V) (hm : Mod P ρ ε base w (tget h)) :
    ∃ w', (Instr.mapUpdate t X K V).run P w = .ok () w' ∧ Good P ε base ρ w h n r undef w' := by
  unfold mapUpdateA at e
  split at e
  case h_2 => cases e
  rename_i id kt el hu
  cases hsk : simpleKey (P.underlying kt) k <;> simp only [hsk, cond_true, cond_false] at e
  · cases e
  split at e
  · cases e
  rename_i o ho
  split at e
  · cases e
  rename_i es hes
  cases hro : o.ro <;> simp only [hro, cond_true, cond_false] at e
  case true => cases e
  obtain ⟨b, hb, rfl⟩ := Rl_map.1 hx
  obtain ⟨b', ES, g1, g2, g3, g4, g5, g6, g7⟩ := hm.mapO ho hes
  rw [hb] at g1; cases g1
  obtain ⟨rfl, hik⟩ := key_self hsk hk
  cases hkt : P.underlying kt with
  | none => rw [hkt] at hsk; simp [simpleKey] at hsk
  | some kind =>
    rw [hkt] at hsk
    split at e
    · rename_i j v' hfind
      have e := updA_eq e
      subst e
      rcases findK_ok hsk es ES 0 _ g4 hfind with ⟨q1, _⟩ | ⟨j', v2, V2, e2, E, q1, q2, q3, q4, q5, q6, q7, q8, q9⟩
      · cases q1
      cases q1
      simp only [Nat.zero_add] at q2 ⊢
      have hkey : (((ES.toArray)[j']?).map (·.key)).getD K = K := by simp [q4, q6]
      refine ⟨_, ?_, Good.map (ES := ES.toArray) (es := es) (clk := o.clock) hm ho hro hb g2 (g4.setK hik hv j') Rl_undef⟩
      simp only [Instr.mapUpdate, Sem.run_bind, run_under hu, Result.andThen_ok, run_getObj g3, checkKey_simple hkt hsk, findKey_simple hkt q2, hkey, Instr.keyThatStays, sameBits_key hik, if_true, Sem.run_pure, run_setObj g3]
      simp [List.modify_toArray]
    · rename_i hfind
      have e := updA_eq e
      subst e
      rcases findK_ok hsk es ES 0 _ g4 hfind with ⟨_, q2⟩ | ⟨j', v2, V2, e2, E, q1, _⟩
      case inr => cases q1
      refine ⟨_, ?_, Good.map (ES := ES.toArray) (es := es) (clk := o.clock) hm ho hro hb g2 (g4.append (s := [(K, v, o.clock)]) (S := [{ key := K, val := V, born := o.clock }]) ⟨rfl, hik, hv, rfl, trivial⟩) Rl_undef⟩
      simp only [Instr.mapUpdate, Sem.run_bind, run_under hu, Result.andThen_ok, run_getObj g3, checkKey_simple hkt hsk, findKey_simple hkt q2, run_setObj g3]
      simp
    · cases e
theorem delete_ok {t : TypeId} {ats : Array TypeId} {ty : TypeId} {x k X K : Value} {h : T HO} {n : Nat} {r : Out} (e : deleteA P t x k h n = some r) (hx : Rl ρ ε x X) (hk : Rl ρ ε k K) (ht : ats[0]? = some t) (hm : Mod P ρ ε base w (tget h)) :
    ∃ w', (Builtin.delete_ ats ty #[X, K]).run P w = .ok undef w' ∧ Good P ε base ρ w h n r undef w' := by
  unfold deleteA at e
  split at e
  case h_2 => cases e
  rename_i id kt el hu
  cases hsk : simpleKey (P.underlying kt) k <;> simp only [hsk, cond_true, cond_false] at e
  · cases e
  split at e
  · cases e
  rename_i o ho
  split at e
  · cases e
  rename_i es hes
  cases hro : o.ro <;> simp only [hro, cond_true, cond_false] at e
  case true => cases e
  obtain ⟨b, hb, rfl⟩ := Rl_map.1 hx
  obtain ⟨b', ES, g1, g2, g3, g4, g5, g6, g7⟩ := hm.mapO ho hes
  rw [hb] at g1; cases g1
  obtain ⟨rfl, hik⟩ := key_self hsk hk
  cases hkt : P.underlying kt with
  | none => rw [hkt] at hsk; simp [simpleKey] at hsk
  | some kind =>
    rw [hkt] at hsk
    split at e
    · rename_i j v' hfind
      have e := updA_eq e
      subst e
      rcases findK_ok hsk es ES 0 _ g4 hfind with ⟨q1, _⟩ | ⟨j', v2, V2, e2, E, q1, q2, q3, q4, q5, q6, q7, q8, q9⟩
      · cases q1
      cases q1
      simp only [Nat.zero_add] at q2 ⊢
      refine ⟨_, ?_, Good.map (ES := ES.toArray) (es := es) (clk := o.clock) hm ho hro hb g2 (g4.erase j') Rl_undef⟩
      simp only [Builtin.delete_, ht, Sem.run_bind, run_under hu, Result.andThen_ok, Sem.run_pure, List.getElem?_toArray, List.getElem?_cons_zero, List.getElem?_cons_succ, run_getObj g3, checkKey_simple hkt hsk, findKey_simple hkt q2, run_setObj g3]
      simp
      rfl
    · rename_i hfind
      have e := updA_eq e
      subst e
      rcases findK_ok hsk es ES 0 _ g4 hfind with ⟨_, q2⟩ | ⟨j', v2, V2, e2, E, q1, _⟩
      case inr => cases q1
      refine ⟨_, ?_, Good.map (ES := ES.toArray) (es := es) (clk := o.clock) hm ho hro hb g2 g4 Rl_undef⟩
      simp only [Builtin.delete_, ht, Sem.run_bind, run_under hu, Result.andThen_ok, Sem.run_pure, List.getElem?_toArray, List.getElem?_cons_zero, List.getElem?_cons_succ, run_getObj g3, checkKey_simple hkt hsk, findKey_simple hkt q2, run_setObj g3]
      rfl
    · cases e

/-! #### Texts -/

theorem strToBytes_ok {el : TypeId} {s : ByteArray} {h : T HO} {n : Nat} {r : Out} (e : strToBytesA P el s h n = some r) (hm : Mod P ρ ε base w (tget h)) (hf : ∀ id, n ≤ id → id < r.next → ρ id = none) (hb : base ≤ w.heap.size) :
    ∃ V w', (Conv.stringToBytes el s).run P w = .ok V w' ∧ Good P ε base ρ w h n r V w' := by
  unfold strToBytesA at e
  split at e
  case h_2 => simp at e
  rename_i s1 hs
  cases h1 : Nat.beq s1 1 <;> simp only [h1, cond_true, cond_false] at e
  · cases e
  have := Nat.eq_of_beq_eq_true h1
  subst this
  have he := newA_eq e
  subst he
  have hbl : (bytesOf s).length = s.size := by unfold bytesOf; rw [List.length_map]; rfl
  have hBR : RlL ρ ε (bytesOf s) (bytesOf s) := by
    unfold bytesOf
    generalize s.data.toList = l
    induction l with
    | nil => trivial
    | cons x r ih => exact ⟨Rl_int.2 rfl, ih⟩
  obtain ⟨cap, hcap, hcapq⟩ : ∃ cap, s.size ≤ cap ∧ (Question.appendCap s.size 0 el).cut (w.tape w.drawn (.appendCap s.size 0 el)) = cap := ⟨_, Nat.le_add_right _ _, rfl⟩
  have hsz : (bytesOf s ++ List.replicate (cap - s.size) (Value.int .u8 0)).length = cap := by simp [hbl]; omega
  refine ⟨.slice (some ⟨w.heap.size, 0, none⟩) s.size cap, (w.drew.alloc (.cells (bytesOf s ++ List.replicate (cap - s.size) (Value.int .u8 0)).toArray el)).freeze ⟨w.heap.size, cap, none⟩ 1, ?_, ?_⟩
  · have hq : (Question.appendCap s.size 0 el).forced = false := rfl
    have hel : (s.data.map fun b => Value.int .u8 b.toNat) ++ Array.replicate (cap - s.size) (Value.int .u8 0) = (bytesOf s ++ List.replicate (cap - s.size) (Value.int .u8 0)).toArray := by
      apply Array.ext'
      simp [bytesOf]
    simp only [Conv.stringToBytes, Sem.run_bind, run_choose, hq, Bool.false_eq_true, if_false, Result.andThen_ok, hcapq, hel, newRow, run_newObj, Sem.run_pure, markStringish, run_shape, World.drew_eq, World.alloc_eq]
    have hsh : (w.drew.alloc (.cells (bytesOf s ++ List.replicate (cap - s.size) (Value.int .u8 0)).toArray el)).shape? w.heap.size = some (el, cap) := by
      simp only [World.shape?, World.alloc]
      have : (w.drew.heap.push (Obj.cells (bytesOf s ++ List.replicate (cap - s.size) (Value.int .u8 0)).toArray el))[w.heap.size]? = some (Obj.cells (bytesOf s ++ List.replicate (cap - s.size) (Value.int .u8 0)).toArray el) := by
        show (w.heap.push _)[w.heap.size]? = _
        simp
      rw [this]
      simp only [Option.some.injEq, Prod.mk.injEq, true_and]
      simpa using hsz
    have hdh : w.drew.heap.size = w.heap.size := rfl
    rw [hdh]
    simp [hsh]
  · refine ⟨_, Step.drewFirst hm (Step.new (c := cap) (ob := .cells (bytesOf s ++ List.replicate (cap - s.size) (Value.int .u8 0)).toArray el (cap, cap + 1)) (hm.heap rfl) (hf n (Nat.le_refl _) (by simp)) (by simpa using hb) ?_ ?_ ?_ ?_ (ObjR.rowOpen (s := 1) hBR hs (by rw [hsz]; omega) (fun j hj => by rw [hsz] at hj; simp only; omega))), Rl_sliceO.2 ⟨_, by simp [upR]; rfl, ?_, by simp; omega⟩⟩
    · simp only [World.freeze, World.alloc]
      apply Array.ext
      · simp
      · intro i h1 h2
        simp only [Nat.one_ne_zero, if_false] at h1 ⊢
        simp only [Array.getElem_modify, Array.getElem_push]
        have hdh : w.drew.heap.size = w.heap.size := rfl
        by_cases hi : i < w.heap.size
        · simp only [hdh, hi, dif_pos]
          rw [if_neg (by omega)]
        · have : i = w.heap.size := by simp at h2; omega
          subst this
          simp [hdh]
    · simp [World.freeze] <;> rfl
    · simp [World.freeze] <;> rfl
    · simp [World.freeze] <;> rfl
    · simp
theorem byteList_eq : ∀ (cs : List Value) (l : List UInt8), byteList cs = some l → ∃ ns : List Int, cs = ns.map (Value.int .u8) ∧ l = ns.map fun n => UInt8.ofNat n.toNat
  | [], l, h => by simp [byteList] at h; subst h; exact ⟨[], rfl, rfl⟩
  | v :: r, l, h => by
    unfold byteList at h
    split at h
    · rename_i heq; cases heq
    · rename_i n r' heq
      cases heq
      split at h
      · rename_i l' hl'
        simp only [Option.some.injEq] at h
        subst h
        obtain ⟨ns, h1, h2⟩ := byteList_eq r l' hl'
        exact ⟨n :: ns, by simp [h1], by simp [h2]⟩
      · cases h
    · cases h
theorem push_fold : ∀ (ns : List Int) (s : ByteArray), ns.foldl (fun r n => r.push (UInt8.ofNat n.toNat)) s = ⟨(s.data.toList ++ ns.map fun n => UInt8.ofNat n.toNat).toArray⟩
  | [], s => by cases s; simp
  | n :: ns, s => by
    simp only [List.foldl_cons, push_fold ns]
    cases s
    simp [ByteArray.push]
theorem bytesToStr_ok {x v X : Value} {h : T HO} (e : bytesToStrA x h = some v) (hx : Rl ρ ε x X) (hm : Mod P ρ ε base w (tget h)) :
    (Conv.bytesToString X).run P w = .ok v w ∧ Rl ρ ε v v := by
  unfold bytesToStrA at e
  split at e
  · simp only [Option.some.injEq] at e
    subst e
    have := (Rl_self rfl).1 hx
    subst this
    exact ⟨by simp [Conv.bytesToString], Rl_string.2 rfl⟩
  · rename_i a len c
    split at e
    case h_2 => cases e
    rename_i m cs hsrc
    split at e
    case h_2 => cases e
    rename_i l hl
    simp only [Option.some.injEq] at e
    subst e
    obtain ⟨hlen, hcl, CS, hCS, hfirst⟩ := source_ok hsrc hx hm
    obtain ⟨ns, rfl, rfl⟩ := byteList_eq cs l hl
    have hCSe : CS = ns.map (Value.int .u8) := by
      have : ∀ (ns : List Int) (C : List Value), RlL ρ ε (ns.map (Value.int .u8)) C → C = ns.map (Value.int .u8) := by
        intro ns
        induction ns with
        | nil => intro C h; cases C <;> first | rfl | exact h.elim
        | cons n r ih => intro C h; cases C with
          | nil => exact h.elim
          | cons c C => rw [Rl_int.1 h.1, ih C h.2]; rfl
      exact this ns CS hCS
    subst hCSe
    have hX : ∃ A C, X = .slice (some A) len C := by
      obtain ⟨id, off, sp⟩ := a
      cases sp with
      | none => obtain ⟨b, _, rfl⟩ := Rl_slice.1 hx; exact ⟨_, _, rfl⟩
      | some alt => obtain ⟨b, _, rfl, _⟩ := Rl_sliceO.1 hx; exact ⟨_, _, rfl⟩
    obtain ⟨A, C, rfl⟩ := hX
    have hml : m = len := by simp [Builtin.lenOf] at hlen; exact hlen.symm
    subst hml
    have hf := hfirst m (Nat.le_refl m)
    rw [List.take_of_length_le (by rw [hCS.length, hcl]; exact Nat.le_refl _)] at hf
    simp only [Builtin.firstCells, Nat.mul_one] at hf
    refine ⟨?_, Rl_string.2 rfl⟩
    rw [run_bytesToString w A m C ns hf, push_fold]
    simp <;> rfl
  · cases e
end
end Go.Proofs.Ytjpbnmggoinmnaa.Ex
