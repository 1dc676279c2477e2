/- Contracts: what they are made of. No conditions. -/
import Derived.Test.YtefnfbidphmgoaaDoorExV
set_option linter.unusedVariables false
set_option linter.unusedSimpArgs false
namespace Go.Proofs.YtefnfbidphmgoaaDoor.Ex
open Go Go.RowKit

theorem renV_selfish {π : Nat → Option Nat} {v : Value} (h : selfish v = true) : renV π 1 v = some v := by
  cases v with
  | pointer a => cases a <;> simp [selfish] at h; rfl
  | slice a _ _ => cases a <;> simp [selfish] at h; rfl
  | map a => cases a <;> simp [selfish] at h; rfl
  | chan a => cases a <;> simp [selfish] at h; rfl
  | _ => first | rfl | simp [selfish] at h
theorem optL_all {f : Value → Option Value} : ∀ {l : List Value}, (∀ v ∈ l, f v = some v) → optL f l = some l
  | [], _ => rfl
  | v :: l, h => by rw [optL_cons, h v (by simp), optL_all fun u hu => h u (by simp [hu])]
theorem optL_mem {f : Value → Option Value} : ∀ {l : List Value}, optL f l = some l → ∀ v ∈ l, f v = some v
  | [], _, v, hv => by cases hv
  | u :: l, h, v, hv => by
    rw [optL_cons] at h
    cases hu : f u with
    | none => rw [hu] at h; cases h
    | some x =>
      rw [hu] at h
      simp only at h
      cases hl : optL f l with
      | none => rw [hl] at h; cases h
      | some y =>
        rw [hl] at h
        simp only [Option.some.injEq, List.cons.injEq] at h
        obtain ⟨rfl, rfl⟩ := h
        rcases List.mem_cons.1 hv with rfl | hv
        · exact hu
        · exact optL_mem hl v hv
theorem NoIds.all {l : List Value} (h : l.all selfish = true) : NoIds l := ⟨1, fun π => optL_all fun v hv => renV_selfish (List.all_eq_true.1 h v hv)⟩
theorem NoIds.vals (k : IntKind) (zs : List Int) : NoIds (zs.map (Value.int k)) := .all (vals_selfish k zs)
theorem NoIds.append {l m : List Value} (h : NoIds l) (k : NoIds m) : NoIds (l ++ m) := by
  obtain ⟨d, hd⟩ := h
  obtain ⟨e, he⟩ := k
  refine ⟨max d e, fun π => optL_all fun v hv => ?_⟩
  rcases List.mem_append.1 hv with hv | hv
  · exact renV_le (Nat.le_max_left d e) (optL_mem (hd π) v hv)
  · exact renV_le (Nat.le_max_right d e) (optL_mem (he π) v hv)
theorem NoIds.sub {l m : List Value} (h : NoIds l) (hs : ∀ v ∈ m, v ∈ l) : NoIds m := let ⟨d, hd⟩ := h; ⟨d, fun π => optL_all fun v hv => optL_mem (hd π) v (hs v hv)⟩
theorem NoIds.drop {l : List Value} (h : NoIds l) (n : Nat) : NoIds (l.drop n) := h.sub fun v hv => List.mem_of_mem_drop hv
theorem NoIds.take {l : List Value} (h : NoIds l) (n : Nat) : NoIds (l.take n) := h.sub fun v hv => List.mem_of_mem_take hv
/-- A row without names is the same by other names. -/
theorem renO_row {π : Nat → Option Nat} {o : HO} (hk : o.kind = 0) (he : o.entries = []) (hc : NoIds o.cells) : renO π o o :=
  ⟨rfl, rfl, rfl, rfl, rfl, rfl, fun _ => rfl, hc.imp fun _ h => h π, ⟨0, by rw [he]; rfl⟩, fun h => by rw [hk] at h; cases h⟩

section
variable {P : Program} {ε : Nat → Option Value} {base : Base}

/-- A row whose room is known is one whose room is not: under a new name. -/
theorem Leads.openUp {nt : Nat} {todo : List Item} {s : St} {Q : St → Prop} {t id len cap : Nat} {o : HO} (hid : tget s.heap id = some o) (hk : o.kind = 0) (hopn : o.opn = false) (hro : o.ro = false) (hv : tget s.tmps t = some (.slice (some ⟨id, 0, none⟩) len cap)) (hlc : len ≤ cap)
    (hcap : ∀ sz, sizeA P o.elem = some sz → o.cells.length = cap * sz)
    (h : Leads P ε base nt todo ⟨tput s.tmps t (some (.slice (some ⟨s.next, 0, some 0⟩) len 0)), tput (tput s.heap id none) s.next (some { o with opn := true }), s.next + 1, s.ws⟩ Q) : Leads P ε base nt todo s Q := by
  intro O ρ a w R b cs
  obtain ⟨bl, hb, hlt, hobj, hbase⟩ := R.mod.obj id o hid
  have hn : ρ s.next = none := R.fresh _ (Nat.le_refl _)
  have hne : id ≠ s.next := fun e => by rw [e] at hb; rw [hn] at hb; cases hb
  have hs : Sub ρ (upR ρ s.next (bl.1, cap)) := sub_upR hn
  have hat : ∀ i x, i ≠ s.next → tget (tput (tput s.heap id none) s.next (some { o with opn := true })) i = some x → i ≠ id ∧ tget s.heap i = some x := fun i x hi e => by
    rw [tget_tput, if_neg hi, tget_tput] at e
    split at e
    · cases e
    · rename_i he; exact ⟨he, e⟩
  have hnew : tget (tput (tput s.heap id none) s.next (some { o with opn := true })) s.next = some { o with opn := true } := by rw [tget_tput, if_pos rfl]
  refine h O (upR ρ s.next (bl.1, cap)) a w ⟨fun k v e => ?_, R.sz, ⟨fun i x e => ?_, fun i i' x x' c c' e e' hr2 g g' hcc => ?_, R.mod.old⟩, fun i hi => ?_, R.hb, R.ob, R.ext.trans hs, fun i x c e hr g => ?_, R.keep, R.size, R.os, R.tape, R.output, R.orig⟩ b cs
  · rw [tget_tput] at e
    split at e
    · rename_i he
      subst he
      cases e
      obtain ⟨V, h1, h2⟩ := R.tm k _ hv
      refine ⟨V, h1, ?_⟩
      obtain ⟨bx, hbx, rfl⟩ := Rl_slice.1 h2
      rw [hb] at hbx; cases hbx
      refine Rl_sliceO.2 ⟨(bl.1, cap), by simp [upR], ?_, by show len + 0 ≤ cap; omega⟩
      show Value.slice _ len cap = Value.slice (some ⟨bl.1, if cap = 0 then 0 else 0, none⟩) len (cap - 0)
      simp
    · obtain ⟨V, h1, h2⟩ := R.tm k v e
      exact ⟨V, h1, h2.sub hs⟩
  · by_cases hi : i = s.next
    · subst hi
      rw [hnew] at e
      cases e
      refine ⟨(bl.1, cap), by simp [upR], hlt, ?_, fun _ => hbase hro⟩
      have hobj' := hobj
      unfold ObjR at hobj' ⊢
      rw [if_pos hk] at hobj'
      rw [if_pos (show ({ o with opn := true } : HO).kind = 0 from hk)]
      obtain ⟨cs', tl, el, fr, q1, q2, q3, q4, q5⟩ := hobj'
      have htl := q3 hopn
      subst htl
      refine ⟨cs', [], el, fr, q1, RlL.sub hs q2, fun _ => rfl, q4, fun _ sz hsz => ?_⟩
      rw [List.append_nil, RlL.length q2]
      exact hcap sz hsz
    · obtain ⟨_, e2⟩ := hat i x hi e
      obtain ⟨c, h1, h2, h3, h4⟩ := R.mod.obj i x e2
      exact ⟨c, hs i c h1, h2, h3.sub hs, h4⟩
  · by_cases hi : i = s.next
    · by_cases hi' : i' = s.next
      · rw [hi, hi']
      · obtain ⟨k1, k2⟩ := hat i' x' hi' e'
        simp only [upR, if_pos hi, Option.some.injEq] at g
        simp only [upR, if_neg hi'] at g'
        subst g
        exact absurd (R.mod.inj id i' o x' bl c' hid k2 (.inl hro) hb g' hcc).symm k1
    · obtain ⟨k1, k2⟩ := hat i x hi e
      by_cases hi' : i' = s.next
      · simp only [upR, if_pos hi', Option.some.injEq] at g'
        simp only [upR, if_neg hi] at g
        subst g'
        exact absurd (R.mod.inj id i o x bl c hid k2 (.inl hro) hb g hcc.symm).symm k1
      · obtain ⟨k1', k2'⟩ := hat i' x' hi' e'
        simp only [upR, if_neg hi] at g
        simp only [upR, if_neg hi'] at g'
        exact R.mod.inj i i' x x' c c' k2 k2' hr2 g g' hcc
  · have hi1 : s.next + 1 ≤ i := hi
    have : i ≠ s.next := by omega
    simp only [upR, if_neg this]
    exact R.fresh i (by omega)
  · by_cases hi : i = s.next
    · subst hi
      rw [hnew] at e
      cases e
      have g : (bl.1, cap) = c := by simpa [upR] using g
      subst g
      exact R.own id o bl hid hro hb
    · obtain ⟨_, e2⟩ := hat i x hi e
      simp only [upR, if_neg hi] at g
      exact R.own i x c e2 hr g

/-! ### Names of a call -/

/-- The callee's names: the first ones are these. -/
noncomputable def nameL (l : List Nat) : Nat → Option Nat := fun i => lget l i
/-- The same, behind the call: and these new ones, from n on. -/
noncomputable def nameN (l : List Nat) (new : List Nat) (n : Nat) : Nat → Option Nat := fun i => match lget l i with
  | some j => some j
  | none => List.rec (motive := fun _ => Nat → Option Nat) (fun _ => none) (fun x _ ih k => bif Nat.beq x i then some k else ih (k + 1)) new n
/-- A slice is no longer than its room. -/
noncomputable def roomP (sp : Option Nat) (len c : Nat) : Prop := match sp with
  | none => len ≤ c
  | some _ => True
/-- The window of a slice of one-cell elements. -/
noncomputable def winS (x : Value) (h : T HO) : Option (Nat × List Value × Prop) := match x with
  | .slice none len c => some (len, [], len = 0 ∧ c = 0)
  | .slice (some ⟨id, off, sp⟩) len c => match tget h id with
    | some o => bif Nat.beq o.kind 0 then some (len, (o.cells.drop off).take len, plainP sp off ∧ roomP sp len c ∧ fitP off len o.cells.length ∧ NoIds o.cells ∧ o.entries = []) else none
    | none => none
  | _ => none
theorem winS_len {x : Value} {h : T HO} {len : Nat} {L : List Value} {p : Prop} (e : winS x h = some (len, L, p)) (hp : p) : L.length = len := by
  unfold winS at e
  split at e
  · cases e; obtain ⟨rfl, rfl⟩ := hp; rfl
  · split at e
    · rename_i o ho
      cases hk : Nat.beq o.kind 0 <;> simp only [hk, cond_true, cond_false] at e
      · cases e
      · cases e
        obtain ⟨_, _, h2, _, _⟩ := hp
        rw [List.length_take, List.length_drop]; unfold fitP at h2; omega
    · cases e
  · cases e
theorem nameL_lt {l : List Nat} {i j : Nat} (h : nameL l i = some j) : i < l.length := by
  rw [nameL, lget_eq] at h
  exact (List.getElem?_eq_some_iff.1 h).1
theorem nameN_old {l new : List Nat} {n i j : Nat} (h : nameL l i = some j) : nameN l new n i = some j := by
  unfold nameN
  unfold nameL at h
  rw [h]
theorem nameN_none {l : List Nat} {n i : Nat} : nameN l [] n i = nameL l i := by
  unfold nameN nameL
  cases lget l i <;> rfl
theorem nameN_one {l : List Nat} {k n : Nat} (hk : l.length ≤ k) : nameN l [k] n k = some n := by
  have : lget l k = none := by rw [lget_eq]; exact List.getElem?_eq_none hk
  unfold nameN
  rw [this]
  show (bif Nat.beq k k then some n else none) = some n
  rw [beq_yes rfl]; rfl
theorem nameN_one_eq {l : List Nat} {k n i j : Nat} (h : nameN l [k] n i = some j) : nameL l i = some j ∨ (i = k ∧ j = n ∧ nameL l i = none) := by
  unfold nameN at h
  unfold nameL
  cases hl : lget l i with
  | some x => rw [hl] at h; exact .inl h
  | none =>
    rw [hl] at h
    have h : (bif Nat.beq k i then some n else none) = some j := h
    cases hb : Nat.beq k i <;> simp only [hb, cond_true, cond_false] at h
    · cases h
    · cases h; exact .inr ⟨(Nat.eq_of_beq_eq_true hb).symm, rfl, rfl⟩
/-- The end of a run that made one object, which is handed back; nothing that was there is turned. -/
theorem Fin.new {fn : Func} {h0 h : T HO} {l : List Nat} {n k : Nat} {v0 v : Value} {o1 o : HO} {vs : List Value} {s' : St} (hvs : optL (resA P s'.tmps s'.heap) fn.results.toList = some vs) (hv0 : (vs = [v0]) ∨ (vs.length ≠ 1 ∧ v0 = .tuple vs.toArray))
    (hk : l.length ≤ k) (hv : ∃ d, renV (nameN l [k] n) d v0 = some v) (ho : tget s'.heap k = some o1) (hro : o1.ro = false) (hren : renO (nameN l [k] n) o1 o) : Fin P fn h0 (nameL l) n h ⟨v, tput h n (some o), n + 1, [n]⟩ s' :=
  ⟨nameN l [k] n, vs, v0, hvs, hv0, hv, fun _ _ e => nameN_old e, fun i i' j e e' g g' => by
      rcases nameN_one_eq e with q | ⟨q, _⟩
      · rw [g] at q; cases q
      · rcases nameN_one_eq e' with q' | ⟨q', _⟩
        · rw [g'] at q'; cases q'
        · rw [q, q'],
    fun i j e => by
      rcases nameN_one_eq e with q | ⟨q1, q2, q3⟩
      · exact .inl q
      · subst q1 q2; exact .inr ⟨Nat.le_refl _, Nat.lt_succ_self _, o1, ho, hro⟩,
    fun id o' hid e => by
      obtain rfl : id = n := by simpa using hid
      have e : tget (tput h id (some o)) id = some o' := e
      rw [tget_tput, if_pos rfl] at e
      cases e
      exact ⟨k, o1, nameN_one hk, ho, hren⟩⟩
/-- The end of a run that made nothing that is handed back. -/
theorem Fin.val {fn : Func} {h0 h : T HO} {l : List Nat} {n : Nat} {v0 v : Value} {vs : List Value} {s' : St} (hvs : optL (resA P s'.tmps s'.heap) fn.results.toList = some vs) (hv0 : (vs = [v0]) ∨ (vs.length ≠ 1 ∧ v0 = .tuple vs.toArray))
    (hv : ∃ d, renV (nameL l) d v0 = some v) : Fin P fn h0 (nameL l) n h ⟨v, h, n, []⟩ s' :=
  ⟨nameL l, vs, v0, hvs, hv0, hv, fun _ _ e => e, fun i i' j e e' g g' => (by rw [g] at e; cases e), fun i j e => .inl e, fun id o' hid e => by cases hid⟩
/-- A call that reads at most one row, and hands back something new, or nothing of memory. -/
theorem callOk_none {f : FuncId} {fn : Func} {c : Code} (hfn : P.funcs[f]? = some fn) (hbody : fn.body = some c) {args0 : List Value} {h : T HO} {n : Nat} {r : Out} (hle : args0.length ≤ fn.ntmps) (hargs : ∃ d, optL (renV (nameL []) d) args0 = some args0)
    (hnle : n ≤ r.next) (hws : ∀ id, id ∈ r.ws → n ≤ id ∧ id < r.next) (hkeep : ∀ id, id ∉ r.ws → tget r.heap id = tget h id)
    (L : Leads P ε base fn.ntmps [.code c] ⟨putArgs [] 0 args0, [], 0, []⟩ (Fin P fn [] (nameL []) n h r)) : CallOk P ε base f args0 h n r :=
  callOk_of_leads hfn hbody (m := 0) (nameL []) hle hargs (fun i j e => by cases e) (fun i i' j e => by cases e) (fun i j e => by cases e) (fun i o e => by rw [tget_nil] at e; cases e) hnle (fun id hid => .inr (hws id hid)) (fun i j o e => by cases e) hkeep L
theorem callOk_one {f : FuncId} {fn : Func} {c : Code} (hfn : P.funcs[f]? = some fn) (hbody : fn.body = some c) {args0 args : List Value} {h : T HO} {n id : Nat} {o : HO} {r : Out} (hle : args.length ≤ fn.ntmps) (hargs : ∃ d, optL (renV (nameL [id]) d) args0 = some args)
    (ho : tget h id = some o) (hk : o.kind = 0) (he : o.entries = []) (hc : NoIds o.cells)
    (hnle : n ≤ r.next) (hws : ∀ id, id ∈ r.ws → n ≤ id ∧ id < r.next) (hkeep : ∀ id, id ∉ r.ws → tget r.heap id = tget h id)
    (L : Leads P ε base fn.ntmps [.code c] ⟨putArgs [] 0 args0, tput [] 0 (some { o with ro := true }), 1, []⟩ (Fin P fn (tput [] 0 (some { o with ro := true })) (nameL [id]) n h r)) : CallOk P ε base f args h n r := by
  have h1 : ∀ i j, nameL [id] i = some j → i = 0 ∧ j = id := fun i j e => by
    have := nameL_lt e
    obtain rfl : i = 0 := by simpa using this
    cases e; exact ⟨rfl, rfl⟩
  refine callOk_of_leads hfn hbody (m := 1) (nameL [id]) hle hargs (fun i j e => by have := (h1 i j e).1; omega) (fun i i' j e e' => by rw [(h1 i j e).1, (h1 i' j e').1]) (fun i j e => ?_) (fun i o' e => ?_) hnle (fun i hid => .inr (hws i hid)) (fun i j o' e e' hro => ?_) hkeep L
  · obtain ⟨rfl, rfl⟩ := h1 i j e
    exact ⟨_, o, by rw [tget_tput, if_pos rfl], ho, .read (renO_row hk he hc)⟩
  · rw [tget_tput] at e
    split at e
    · rename_i h0; subst h0; exact ⟨id, rfl⟩
    · rw [tget_nil] at e; cases e
  · obtain ⟨rfl, rfl⟩ := h1 i j e
    rw [tget_tput, if_pos rfl] at e'
    cases e'; cases hro
theorem callOk_two {f : FuncId} {fn : Func} {c : Code} (hfn : P.funcs[f]? = some fn) (hbody : fn.body = some c) {args0 args : List Value} {h : T HO} {n id id2 : Nat} {o o2 : HO} {r : Out} (hle : args.length ≤ fn.ntmps) (hargs : ∃ d, optL (renV (nameL [id, id2]) d) args0 = some args)
    (hne : id ≠ id2) (ho : tget h id = some o) (hk : o.kind = 0) (he : o.entries = []) (hc : NoIds o.cells) (ho2 : tget h id2 = some o2) (hk2 : o2.kind = 0) (he2 : o2.entries = []) (hc2 : NoIds o2.cells)
    (hnle : n ≤ r.next) (hws : ∀ id, id ∈ r.ws → n ≤ id ∧ id < r.next) (hkeep : ∀ id, id ∉ r.ws → tget r.heap id = tget h id)
    (L : Leads P ε base fn.ntmps [.code c] ⟨putArgs [] 0 args0, tput (tput [] 0 (some { o with ro := true })) 1 (some { o2 with ro := true }), 2, []⟩ (Fin P fn (tput (tput [] 0 (some { o with ro := true })) 1 (some { o2 with ro := true })) (nameL [id, id2]) n h r)) : CallOk P ε base f args h n r := by
  have h1 : ∀ i j, nameL [id, id2] i = some j → (i = 0 ∧ j = id) ∨ (i = 1 ∧ j = id2) := fun i j e => by
    have := nameL_lt e
    have hi : i = 0 ∨ i = 1 := by simp at this; omega
    rcases hi with rfl | rfl
    · cases e; exact .inl ⟨rfl, rfl⟩
    · cases e; exact .inr ⟨rfl, rfl⟩
  have hat : ∀ i o', tget (tput (tput [] 0 (some { o with ro := true })) 1 (some { o2 with ro := true })) i = some o' → (i = 0 ∧ o' = { o with ro := true }) ∨ (i = 1 ∧ o' = { o2 with ro := true }) := fun i o' e => by
    rw [tget_tput] at e
    split at e
    · rename_i h0; cases e; exact .inr ⟨h0, rfl⟩
    · rw [tget_tput] at e
      split at e
      · rename_i h0; cases e; exact .inl ⟨h0, rfl⟩
      · rw [tget_nil] at e; cases e
  refine callOk_of_leads hfn hbody (m := 2) (nameL [id, id2]) hle hargs (fun i j e => by have := nameL_lt e; simpa using this) (fun i i' j e e' => ?_) (fun i j e => ?_) (fun i o' e => ?_) hnle (fun i hid => .inr (hws i hid)) (fun i j o' e e' hro => ?_) hkeep L
  · rcases h1 i j e with ⟨rfl, rfl⟩ | ⟨rfl, rfl⟩ <;> rcases h1 i' _ e' with ⟨rfl, k⟩ | ⟨rfl, k⟩ <;> first | rfl | exact absurd k hne | exact absurd k.symm hne
  · rcases h1 i j e with ⟨rfl, rfl⟩ | ⟨rfl, rfl⟩
    · exact ⟨_, o, by rw [tget_tput, if_neg (by decide), tget_tput, if_pos rfl], ho, .read (renO_row hk he hc)⟩
    · exact ⟨_, o2, by rw [tget_tput, if_pos rfl], ho2, .read (renO_row hk2 he2 hc2)⟩
  · rcases hat i o' e with ⟨rfl, _⟩ | ⟨rfl, _⟩
    · exact ⟨id, rfl⟩
    · exact ⟨id2, rfl⟩
  · rcases hat i o' e' with ⟨_, rfl⟩ | ⟨_, rfl⟩ <;> cases hro
theorem Step.below' {ρ : Rho} {w w' : World} {h : T HO} {n : Nat} (HB : base.n ≤ w.heap.size) (hm : Mod P ρ ε base w (tget h)) (hb : Below w.heap.size w w') : Step P ε base ρ w (tget h) n ρ w' (tget h) n [] := Step.below HB hm hb
/-- A call that hands back something closed, and turns nothing. -/
theorem callOk_closed {f : FuncId} {args : List Value} {h : T HO} {n : Nat} {v : Value} (hv : closed DC v = true) (hc : ∀ (ρ : Rho) (w : World) (ARGS : List Value), RlL ρ ε args ARGS → Calls P f ARGS.toArray w fun e w' => e = .returned v ∧ Below w.heap.size w w') : CallOk P ε base f args h n ⟨v, h, n, []⟩ :=
  fun ρ w ARGS ha hm hf hb => (hc ρ w ARGS ha).mono fun e w' ⟨he, hbl⟩ => ⟨v, he, ρ, Step.below hb hm hbl, Rl_closed hv⟩
/-! ### Other names: a loop's head comes back to the names that it began with -/
/-- Names from 8 on by a list; those below stay. -/
noncomputable def piL (l : List (Nat × Nat)) (id : Nat) : Option Nat := if id < 8 then some id else (l.find? fun x => x.1 == id).map (·.2)
theorem piL_low {l : List (Nat × Nat)} {id : Nat} (h : id < 8) : piL l id = some id := if_pos h
/-- A frame leads on, if it does with what is known of it by other names: π tells what the new names were. -/
theorem Leads.ren {nt : Nat} {todo : List Item} {s t : St} {Q : St → Prop} (π : Nat → Option Nat) (hlow : ∀ id, id < 8 → π id = some id) (hhi : ∀ id, t.next ≤ id → π id = none)
    (htm : ∀ k v, tget t.tmps k = some v → ∃ u d, tget s.tmps k = some u ∧ renV π d v = some u)
    (hobj : ∀ i o, tget t.heap i = some o → ∃ j o', π i = some j ∧ tget s.heap j = some o' ∧ renW π o o')
    (hinj : ∀ i i' j o o', tget t.heap i = some o → tget t.heap i' = some o' → π i = some j → π i' = some j → i = i')
    (h : Leads P ε base nt todo t Q) : Leads P ε base nt todo s Q := by
  intro O ρ a w R b cs
  have hext : Sub O.ρ (Ex.back π ρ) := fun id c e => by
    have hid : id < 8 := by
      refine Nat.lt_of_not_le fun h8 => ?_
      rw [R.orig id h8] at e; cases e
    simp only [Ex.back, hlow id hid, Option.bind_some]
    exact R.ext id c e
  refine h O (Ex.back π ρ) a w ⟨fun k v e => ?_, R.sz, ⟨fun i o e => ?_, fun i i' o o' c c' e e' hr2 g g' hcc => ?_, R.mod.old⟩, fun id hid => ?_, R.hb, R.ob, hext, fun i o c e hro hc => ?_, R.keep, R.size, R.os, R.tape, R.output, R.orig⟩ b cs
  · obtain ⟨u, d, hu, hr⟩ := htm k v e
    obtain ⟨V, h1, h2⟩ := R.tm k u hu
    exact ⟨V, h1, Rl.back hr h2⟩
  · obtain ⟨j, o', hj, q2, q3⟩ := hobj i o e
    obtain ⟨c, g1, g2, g3, g4⟩ := R.mod.obj j o' q2
    exact ⟨c, by simp [Ex.back, hj, g1], g2, ObjR.back' q3 g3, fun hro => g4 (q3.ro hro)⟩
  · obtain ⟨j, o1, hj, q2, q3⟩ := hobj i o e
    obtain ⟨j', o2, hj', q2', q3'⟩ := hobj i' o' e'
    simp only [Ex.back, hj, hj', Option.bind_some] at g g'
    have := R.mod.inj j j' o1 o2 c c' q2 q2' (hr2.imp (fun h => q3.ro h) fun h => q3'.ro h) g g' hcc
    subst this
    exact hinj i i' j o o' e e' hj hj'
  · simp only [Ex.back, hhi id hid, Option.bind_none]
  · obtain ⟨j, o', hj, q2, q3⟩ := hobj i o e
    simp only [Ex.back, hj, Option.bind_some] at hc
    exact R.own j o' c q2 (q3.ro hro) hc
end
end Go.Proofs.YtefnfbidphmgoaaDoor.Ex
