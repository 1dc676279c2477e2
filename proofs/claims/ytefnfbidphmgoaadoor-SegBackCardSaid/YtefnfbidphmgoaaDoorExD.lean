/- A reckoner for runs of fixed texts, fourth part: memory, and what a step of it keeps. No conditions. -/
import Derived.Test.YtefnfbidphmgoaaDoorExC
set_option linter.unusedVariables false
set_option linter.unusedSimpArgs false
namespace Go.Proofs.YtefnfbidphmgoaaDoor.Ex
open Go Go.RowKit

/-- What was there at first: so many blocks, and what they held; it stays. -/
structure Base where
  n : Nat
  old : Nat → Option Obj
def baseOf (w : World) : Base := ⟨w.heap.size, fun b => w.heap[b]?⟩

section
variable (P : Program) (ρ : Rho) (ε : Nat → Option Value)

/-- What is frozen of a row lies behind its end. -/
def FrOk (fr : Nat × Nat) (n : Nat) : Prop := fr.1 = fr.2 ∨ n ≤ fr.1
def RowR (c : Nat) (o : HO) (ob : Option Obj) : Prop :=
  ∃ cs tl el fr, ob = some (.cells (cs ++ tl).toArray el fr) ∧ RlL ρ ε o.cells cs ∧ (o.opn = false → tl = []) ∧
    (o.ro = false → el = o.elem ∧ FrOk fr (cs ++ tl).length ∧ (o.mkd = false → fr.1 = fr.2)) ∧
    (o.opn = true → ∀ s, sizeA P o.elem = some s → (cs ++ tl).length = c * s)
def EntR : List (Value × Value × Nat) → List MapEntry → Prop
  | [], [] => True
  | (k, v, b) :: r, e :: R => e.key = k ∧ closed DC k = true ∧ Rl ρ ε v e.val ∧ e.born = b ∧ EntR r R
  | _, _ => False
def MapR (o : HO) (ob : Option Obj) : Prop := ∃ es : List MapEntry, ob = some (.map es.toArray o.clock) ∧ EntR ρ ε o.entries es
/-- An iterator: over no map, or over one that has a name. -/
def IterR (o : HO) (ob : Option Obj) : Prop := match o.nats with
  | [] => ob = some (.mapIter none 0 #[] 0)
  | last :: seen => ∃ b, ρ o.elem = some b ∧ ob = some (.mapIter (some b.1) o.clock seen.toArray last)
def ObjR (c : Nat) (o : HO) (ob : Option Obj) : Prop := if o.kind = 0 then RowR P ρ ε c o ob else if o.kind = 1 then MapR ρ ε o ob else (o.kind = 2 ∧ IterR ρ o ob)

structure Mod (base : Base) (w : World) (H : Nat → Option HO) : Prop where
  obj : ∀ id o, H id = some o → ∃ b, ρ id = some b ∧ b.1 < w.heap.size ∧ ObjR P ρ ε b.2 o w.heap[b.1]? ∧ (o.ro = false → base.n ≤ b.1)
  inj : ∀ id id' o o' b b', H id = some o → H id' = some o' → (o.ro = false ∨ o'.ro = false) → ρ id = some b → ρ id' = some b' → b.1 = b'.1 → id = id'
  old : ∀ b, b < base.n → w.heap[b]? = base.old b
end

structure Step (P : Program) (ε : Nat → Option Value) (base : Base) (ρ : Rho) (w : World) (H : Nat → Option HO) (n : Nat) (ρ' : Rho) (w' : World) (H' : Nat → Option HO) (n' : Nat) (ws : List Nat) : Prop where
  ext : Sub ρ ρ'
  out : ∀ id b, ρ' id = some b → ρ id = some b ∨ (n ≤ id ∧ id < n')
  fr : ∀ id, n ≤ id → id < n' → ρ id = none
  nle : n ≤ n'
  mod : Mod P ρ' ε base w' H'
  keep : ∀ id, id ∉ ws → H' id = H id
  frame : ∀ b, b < w.heap.size → (∀ id o c, id ∈ ws → H id = some o → ρ id = some c → c.1 ≠ b) → w'.heap[b]? = w.heap[b]?
  wsn : ∀ id, id ∈ ws → (∃ o, H id = some o) ∨ (n ≤ id ∧ id < n')
  wro : ∀ id o, id ∈ ws → H id = some o → o.ro = false
  size : w.heap.size ≤ w'.heap.size
  os : w'.os = w.os
  tape : w'.tape = w.tape
  output : w'.output = w.output
  fresh : ∀ id b, n ≤ id → id < n' → ρ' id = some b → w.heap.size ≤ b.1 ∨ ∃ k o c, k ∈ ws ∧ H k = some o ∧ H' k = none ∧ ρ k = some c ∧ c.1 = b.1

section
variable {P : Program} {ε : Nat → Option Value} {base : Base}

theorem EntR.sub {ρ ρ' : Rho} (hs : Sub ρ ρ') : ∀ {r : List (Value × Value × Nat)} {R : List MapEntry}, EntR ρ ε r R → EntR ρ' ε r R
  | [], [], _ => trivial
  | (k, v, b) :: r, e :: R, h => ⟨h.1, h.2.1, h.2.2.1.sub hs, h.2.2.2.1, EntR.sub hs h.2.2.2.2⟩
  | [], _ :: _, h => h.elim
  | _ :: _, [], h => h.elim
theorem ObjR.sub {ρ ρ' : Rho} (hs : Sub ρ ρ') {c : Nat} {o : HO} {ob : Option Obj} (h : ObjR P ρ ε c o ob) : ObjR P ρ' ε c o ob := by
  unfold ObjR at h ⊢
  by_cases h0 : o.kind = 0
  · rw [if_pos h0] at h ⊢
    obtain ⟨cs, tl, el, fr, h1, h2, h3, h4, h5⟩ := h
    exact ⟨cs, tl, el, fr, h1, h2.sub hs, h3, h4, h5⟩
  · rw [if_neg h0] at h ⊢
    by_cases h1 : o.kind = 1
    · rw [if_pos h1] at h ⊢
      obtain ⟨es, h1, h2⟩ := h
      exact ⟨es, h1, h2.sub hs⟩
    · rw [if_neg h1] at h ⊢
      refine ⟨h.1, ?_⟩
      have h2 := h.2
      unfold IterR at h2 ⊢
      split
      · rename_i hn; rw [hn] at h2; exact h2
      · rename_i last seen hn
        rw [hn] at h2
        obtain ⟨b, hb, he⟩ := h2
        exact ⟨b, hs _ _ hb, he⟩
theorem FrOk.free {fr : Nat × Nat} {n : Nat} (h : FrOk fr n) : ∀ j, j < n → ¬ (fr.1 ≤ j ∧ j < fr.2) := fun j hj => by
  rcases h with h | h <;> omega
theorem Mod.mono {ρ : Rho} {w : World} {H H' : Nat → Option HO} (h : Mod P ρ ε base w H) (hs : ∀ id o, H' id = some o → H id = some o) : Mod P ρ ε base w H' :=
  ⟨fun id o ho => h.obj id o (hs id o ho), fun id id' o o' b b' a1 a2 => h.inj id id' o o' b b' (hs _ _ a1) (hs _ _ a2), h.old⟩

/-- Nothing of memory. -/
theorem Step.same {ρ : Rho} {w w' : World} {H : Nat → Option HO} {n : Nat} (h : Mod P ρ ε base w H) (hh : w'.heap = w.heap) (ho : w'.os = w.os) (ht : w'.tape = w.tape) (hp : w'.output = w.output) :
    Step P ε base ρ w H n ρ w' H n [] where
  ext := sub_refl ρ
  out := fun _ _ h => .inl h
  fr := fun _ h1 h2 => by omega
  nle := Nat.le_refl _
  mod := ⟨fun id o e => by rw [hh]; exact h.obj id o e, h.inj, by rw [hh]; exact h.old⟩
  keep := fun _ _ => rfl
  frame := fun b _ _ => by rw [hh]
  wsn := fun _ h => by simp at h
  wro := fun _ _ h => by simp at h
  size := by rw [hh]; exact Nat.le_refl _
  os := ho
  tape := ht
  output := hp
  fresh := fun _ _ h1 h2 => by omega
theorem Step.refl {ρ : Rho} {w : World} {H : Nat → Option HO} {n : Nat} (h : Mod P ρ ε base w H) : Step P ε base ρ w H n ρ w H n [] := Step.same h rfl rfl rfl rfl

theorem Step.trans {ρ ρ₁ ρ₂ : Rho} {w w₁ w₂ : World} {H H₁ H₂ : Nat → Option HO} {n n₁ n₂ : Nat} {ws₁ ws₂ : List Nat} (h0 : Mod P ρ ε base w H)
    (h : Step P ε base ρ w H n ρ₁ w₁ H₁ n₁ ws₁) (k : Step P ε base ρ₁ w₁ H₁ n₁ ρ₂ w₂ H₂ n₂ ws₂) : Step P ε base ρ w H n ρ₂ w₂ H₂ n₂ (ws₂ ++ ws₁) where
  ext := h.ext.trans k.ext
  out := fun id b e => by
    rcases k.out id b e with e1 | e1
    · rcases h.out id b e1 with e2 | e2
      · exact .inl e2
      · have := k.nle; exact .inr ⟨e2.1, by omega⟩
    · have := h.nle; exact .inr ⟨by omega, e1.2⟩
  fr := fun id a b => by
    by_cases hlt : id < n₁
    · exact h.fr id a hlt
    · have h1 := k.fr id (by omega) b
      cases hr : ρ id with
      | none => rfl
      | some c => rw [h.ext id c hr] at h1; cases h1
  nle := Nat.le_trans h.nle k.nle
  mod := k.mod
  keep := fun id hid => by
    simp only [List.mem_append, not_or] at hid
    rw [k.keep id hid.1, h.keep id hid.2]
  frame := fun b hb hx => by
    have e1 : w₁.heap[b]? = w.heap[b]? := h.frame b hb fun id o c hm => hx id o c (List.mem_append_right _ hm)
    rw [← e1]
    refine k.frame b (Nat.lt_of_lt_of_le hb h.size) fun id o c hm ho hc hcb => ?_
    by_cases hin : id ∈ ws₁
    · rcases h.wsn id hin with ⟨o0, ho0⟩ | ⟨l1, l2⟩
      · obtain ⟨b0, hb0, _⟩ := h0.obj id o0 ho0
        have hcc := h.ext id b0 hb0
        rw [hc] at hcc
        cases hcc
        exact hx id o0 c (List.mem_append_right _ hin) ho0 hb0 hcb
      · rcases h.fresh id c l1 l2 hc with hsz | ⟨q, o1, c1, hq, ho1, hq1, hc1, hcc⟩
        · omega
        · exact hx q o1 c1 (List.mem_append_right _ hq) ho1 hc1 (hcc.trans hcb)
    · rw [h.keep id hin] at ho
      obtain ⟨b0, hb0, _⟩ := h0.obj id o ho
      have hcc := h.ext id b0 hb0
      rw [hc] at hcc
      cases hcc
      exact hx id o c (List.mem_append_left _ hm) ho hb0 hcb
  wsn := fun id hid => by
    rcases List.mem_append.1 hid with hm | hm
    · rcases k.wsn id hm with ⟨o, ho⟩ | ⟨l1, l2⟩
      · by_cases hin : id ∈ ws₁
        · rcases h.wsn id hin with h' | h'
          · exact .inl h'
          · have := k.nle; exact .inr ⟨h'.1, by omega⟩
        · rw [h.keep id hin] at ho; exact .inl ⟨o, ho⟩
      · have := h.nle; exact .inr ⟨by omega, l2⟩
    · rcases h.wsn id hm with h' | h'
      · exact .inl h'
      · have := k.nle; exact .inr ⟨h'.1, by omega⟩
  wro := fun id o hid ho => by
    by_cases hin : id ∈ ws₁
    · exact h.wro id o hin ho
    · rcases List.mem_append.1 hid with hm | hm
      · exact k.wro id o hm (by rw [h.keep id hin]; exact ho)
      · exact absurd hm hin
  size := Nat.le_trans h.size k.size
  os := k.os.trans h.os
  tape := k.tape.trans h.tape
  output := k.output.trans h.output
  fresh := fun id b l1 l2 hb => by
    by_cases hlt : id < n₁
    · have hold : ρ₁ id = some b := by
        rcases k.out id b hb with e | e
        · exact e
        · omega
      rcases h.fresh id b l1 hlt hold with hsz | ⟨q, o, c, hq, ho, hq1, hc, hcc⟩
      · exact .inl hsz
      · refine .inr ⟨q, o, c, List.mem_append_right _ hq, ho, ?_, hc, hcc⟩
        by_cases hin : q ∈ ws₂
        · rcases k.wsn q hin with ⟨o2, ho2⟩ | ⟨m1, m2⟩
          · rw [hq1] at ho2; cases ho2
          · have := k.fr q m1 m2; rw [h.ext q c hc] at this; cases this
        · rw [k.keep q hin, hq1]
    · rcases k.fresh id b (by omega) l2 hb with hsz | ⟨q, o, c, hq, ho, hq2, hc, hcc⟩
      · exact .inl (Nat.le_trans h.size hsz)
      · by_cases hin : q ∈ ws₁
        · rcases h.wsn q hin with ⟨o0, ho0⟩ | ⟨m1, m2⟩
          · obtain ⟨b0, hb0, _⟩ := h0.obj q o0 ho0
            have he := h.ext q b0 hb0
            rw [hc] at he
            cases he
            exact .inr ⟨q, o0, c, List.mem_append_left _ hq, ho0, hq2, hb0, hcc⟩
          · rcases h.fresh q c m1 m2 hc with hsz | ⟨r, o3, c3, hr, ho3, hr1, hc3, hcc3⟩
            · exact .inl (by omega)
            · refine .inr ⟨r, o3, c3, List.mem_append_right _ hr, ho3, ?_, hc3, hcc3.trans hcc⟩
              by_cases hin2 : r ∈ ws₂
              · rcases k.wsn r hin2 with ⟨o4, ho4⟩ | ⟨p1, p2⟩
                · rw [hr1] at ho4; cases ho4
                · have := k.fr r p1 p2; rw [h.ext r c3 hc3] at this; cases this
              · rw [k.keep r hin2, hr1]
        · have ho' := ho
          rw [h.keep q hin] at ho'
          obtain ⟨b0, hb0, _⟩ := h0.obj q o ho'
          have he := h.ext q b0 hb0
          rw [hc] at he
          cases he
          exact .inr ⟨q, o, c, List.mem_append_left _ hq, ho', hq2, hb0, hcc⟩

/-- One more name. -/
noncomputable def upR (ρ : Rho) (n : Nat) (b : Nat × Nat) : Rho := fun id => if id = n then some b else ρ id
theorem sub_upR {ρ : Rho} {n : Nat} {b : Nat × Nat} (h : ρ n = none) : Sub ρ (upR ρ n b) := fun id c e => by
  unfold upR
  split
  · rename_i e'; subst e'; rw [h] at e; cases e
  · exact e

/-- A new object. -/
theorem Step.new {ρ : Rho} {w w' : World} {h : T HO} {n c : Nat} {o : HO} {ob : Obj} (hm : Mod P ρ ε base w (tget h)) (hn : ρ n = none) (hb : base.n ≤ w.heap.size)
    (hw : w'.heap = w.heap.push ob) (ho : w'.os = w.os) (ht : w'.tape = w.tape) (hp : w'.output = w.output) (hr : ObjR P ρ ε c o (some ob)) :
    Step P ε base ρ w (tget h) n (upR ρ n (w.heap.size, c)) w' (tget (tput h n (some o))) (n + 1) [n] where
  ext := sub_upR hn
  out := fun id b e => by
    unfold upR at e
    split at e
    · exact .inr (by omega)
    · exact .inl e
  fr := fun id l1 l2 => by obtain rfl : id = n := by omega
                           exact hn
  nle := by omega
  mod := by
    have hs : Sub ρ (upR ρ n (w.heap.size, c)) := sub_upR hn
    have hold : ∀ id o', id ≠ n → tget h id = some o' → ∃ b, ρ id = some b ∧ b.1 < w.heap.size := fun id o' _ e => let ⟨b, h1, h2, _⟩ := hm.obj id o' e; ⟨b, h1, h2⟩
    refine ⟨fun id o' e => ?_, fun id id' o1 o2 b b' e1 e2 hr2 r1 r2 hbb => ?_, fun b hlt => ?_⟩
    · rw [tget_tput] at e
      split at e
      · rename_i he
        subst he
        cases e
        refine ⟨(w.heap.size, c), by simp [upR], by rw [hw]; simp, ?_, fun _ => hb⟩
        rw [hw]
        simpa using hr.sub hs
      · rename_i he
        obtain ⟨b, h1, h2, h3, h4⟩ := hm.obj id o' e
        refine ⟨b, hs id b h1, by rw [hw]; simp; omega, ?_, h4⟩
        rw [hw, Array.getElem?_push, if_neg (by omega)]
        exact h3.sub hs
    · rw [tget_tput] at e1 e2
      by_cases c1 : id = n <;> by_cases c2 : id' = n
      · rw [c1, c2]
      · rw [if_neg c2] at e2
        obtain ⟨b2, g1, g2⟩ := hold id' o2 c2 e2
        simp only [upR, if_pos c1, Option.some.injEq] at r1
        simp only [upR, if_neg c2, g1, Option.some.injEq] at r2
        subst r1 r2
        exact absurd hbb (by show ¬ w.heap.size = b2.1; omega)
      · rw [if_neg c1] at e1
        obtain ⟨b1, g1, g2⟩ := hold id o1 c1 e1
        simp only [upR, if_pos c2, Option.some.injEq] at r2
        simp only [upR, if_neg c1, g1, Option.some.injEq] at r1
        subst r1 r2
        exact absurd hbb (by show ¬ b1.1 = w.heap.size; omega)
      · rw [if_neg c1] at e1
        rw [if_neg c2] at e2
        simp only [upR, if_neg c1] at r1
        simp only [upR, if_neg c2] at r2
        exact hm.inj id id' o1 o2 b b' e1 e2 hr2 r1 r2 hbb
    · rw [hw, Array.getElem?_push, if_neg (by omega)]; exact hm.old b hlt
  keep := fun id hid => by
    rw [tget_tput, if_neg (by simpa using hid)]
  frame := fun b hlt _ => by rw [hw, Array.getElem?_push, if_neg (by omega)]
  wsn := fun id hid => by simp at hid; exact .inr (by omega)
  wro := fun id o' hid e => by
    simp at hid
    subst hid
    obtain ⟨b, h1, _⟩ := hm.obj _ o' e
    rw [hn] at h1; cases h1
  size := by rw [hw]; simp
  os := ho
  tape := ht
  output := hp
  fresh := fun id b l1 l2 e => by
    obtain rfl : id = n := by omega
    simp [upR] at e
    subst e
    exact .inl (Nat.le_refl _)

/-- An object turned. -/
theorem Step.upd {ρ : Rho} {w w' : World} {h : T HO} {n id : Nat} {o o' : HO} {b : Nat × Nat} {ob : Obj} (hm : Mod P ρ ε base w (tget h)) (hid : tget h id = some o) (hro : o.ro = false) (hro' : o'.ro = false) (hb : ρ id = some b)
    (hw : ∀ k, w'.heap[k]? = if k = b.1 then some ob else w.heap[k]?) (hsz : w'.heap.size = w.heap.size) (ho : w'.os = w.os) (ht : w'.tape = w.tape) (hp : w'.output = w.output) (hr : ObjR P ρ ε b.2 o' (some ob)) :
    Step P ε base ρ w (tget h) n ρ w' (tget (tput h id (some o'))) n [id] where
  ext := sub_refl ρ
  out := fun _ _ e => .inl e
  fr := fun _ l1 l2 => by omega
  nle := Nat.le_refl _
  mod := by
    have hsome : ∀ i q, tget (tput h id (some o')) i = some q → ∃ q', tget h i = some q' ∧ (q.ro = false → q'.ro = false) := fun i q e => by
      rw [tget_tput] at e
      split at e
      · rename_i he; subst he; exact ⟨o, hid, fun _ => hro⟩
      · exact ⟨q, e, fun h => h⟩
    refine ⟨fun i q e => ?_, fun i i' q q' c c' e1 e2 hr2 r1 r2 hcc => ?_, fun k hlt => ?_⟩
    · rw [tget_tput] at e
      split at e
      · rename_i he
        subst he
        cases e
        obtain ⟨b', h1, h2, h3, h4⟩ := hm.obj _ o hid
        rw [hb] at h1; cases h1
        exact ⟨b, hb, by rw [hsz]; exact h2, by rw [hw, if_pos rfl]; exact hr, fun _ => h4 hro⟩
      · rename_i he
        obtain ⟨b', h1, h2, h3, h4⟩ := hm.obj i q e
        refine ⟨b', h1, by rw [hsz]; exact h2, ?_, h4⟩
        rw [hw, if_neg]
        · exact h3
        · intro hbb
          exact he (hm.inj i id q o b' b e hid (.inr hro) h1 hb hbb)
    · obtain ⟨p1, g1, k1⟩ := hsome i q e1
      obtain ⟨p2, g2, k2⟩ := hsome i' q' e2
      exact hm.inj i i' p1 p2 c c' g1 g2 (hr2.imp k1 k2) r1 r2 hcc
    · obtain ⟨b', h1, _, _, h4⟩ := hm.obj _ o hid
      rw [hb] at h1; cases h1
      have := h4 hro
      rw [hw, if_neg (by omega)]; exact hm.old k hlt
  keep := fun i hi => by rw [tget_tput, if_neg (by simpa using hi)]
  frame := fun k hk hx => by
    rw [hw, if_neg]
    intro e
    exact hx id o b (by simp) hid hb e.symm
  wsn := fun i hi => by simp at hi; subst hi; exact .inl ⟨o, hid⟩
  wro := fun i q hi e => by simp at hi; subst hi; rw [hid] at e; cases e; exact hro
  size := by rw [hsz]; exact Nat.le_refl _
  os := ho
  tape := ht
  output := hp
  fresh := fun _ _ l1 l2 => by omega

/-- An object goes on under a new name: in its own block. -/
theorem Step.renamed {ρ : Rho} {w w' : World} {h : T HO} {n id c : Nat} {o o' : HO} {b : Nat × Nat} {ob : Obj} (hm : Mod P ρ ε base w (tget h)) (hn : ρ n = none) (hid : tget h id = some o) (hro : o.ro = false) (hb : ρ id = some b)
    (hw : ∀ k, w'.heap[k]? = if k = b.1 then some ob else w.heap[k]?) (hsz : w'.heap.size = w.heap.size) (ho : w'.os = w.os) (ht : w'.tape = w.tape) (hp : w'.output = w.output) (hr : ObjR P ρ ε c o' (some ob)) :
    Step P ε base ρ w (tget h) n (upR ρ n (b.1, c)) w' (tget (tput (tput h id none) n (some o'))) (n + 1) [id, n] where
  ext := sub_upR hn
  out := fun i x e => by
    unfold upR at e
    split at e
    · exact .inr (by omega)
    · exact .inl e
  fr := fun i l1 l2 => by obtain rfl : i = n := by omega
                          exact hn
  nle := by omega
  mod := by
    have hs : Sub ρ (upR ρ n (b.1, c)) := sub_upR hn
    have hne : id ≠ n := fun e => by subst e; rw [hn] at hb; cases hb
    have hold : ∀ i q, i ≠ n → tget (tput (tput h id none) n (some o')) i = some q → i ≠ id ∧ tget h i = some q := fun i q hi e => by
      rw [tget_tput, if_neg hi, tget_tput] at e
      split at e
      · cases e
      · rename_i he; exact ⟨he, e⟩
    refine ⟨fun i q e => ?_, fun i i' q q' d d' e1 e2 hr2 r1 r2 hcc => ?_, fun k hlt => ?_⟩
    · by_cases hi : i = n
      · subst hi
        rw [tget_tput, if_pos rfl] at e
        cases e
        obtain ⟨b', h1, h2, h3, h4⟩ := hm.obj _ o hid
        rw [hb] at h1; cases h1
        exact ⟨(b.1, c), by simp [upR], by rw [hsz]; exact h2, by rw [hw, if_pos rfl]; exact hr.sub hs, fun _ => h4 hro⟩
      · obtain ⟨hi2, hq⟩ := hold i q hi e
        obtain ⟨b', h1, h2, h3, h4⟩ := hm.obj i q hq
        refine ⟨b', hs i b' h1, by rw [hsz]; exact h2, ?_, h4⟩
        rw [hw, if_neg]
        · exact h3.sub hs
        · intro hbb
          exact hi2 (hm.inj i id q o b' b hq hid (.inr hro) h1 hb hbb)
    · by_cases c1 : i = n <;> by_cases c2 : i' = n
      · rw [c1, c2]
      · obtain ⟨hi2, hq⟩ := hold i' q' c2 e2
        obtain ⟨b2, g1, _⟩ := hm.obj i' q' hq
        simp only [upR, if_pos c1, Option.some.injEq] at r1
        simp only [upR, if_neg c2, g1, Option.some.injEq] at r2
        subst r1 r2
        exact absurd (hm.inj i' id q' o b2 b hq hid (.inr hro) g1 hb hcc.symm) hi2
      · obtain ⟨hi2, hq⟩ := hold i q c1 e1
        obtain ⟨b2, g1, _⟩ := hm.obj i q hq
        simp only [upR, if_pos c2, Option.some.injEq] at r2
        simp only [upR, if_neg c1, g1, Option.some.injEq] at r1
        subst r1 r2
        exact absurd (hm.inj i id q o b2 b hq hid (.inr hro) g1 hb hcc) hi2
      · obtain ⟨_, hq⟩ := hold i q c1 e1
        obtain ⟨_, hq'⟩ := hold i' q' c2 e2
        simp only [upR, if_neg c1] at r1
        simp only [upR, if_neg c2] at r2
        exact hm.inj i i' q q' d d' hq hq' hr2 r1 r2 hcc
    · obtain ⟨b', h1, _, _, h4⟩ := hm.obj _ o hid
      rw [hb] at h1; cases h1
      have := h4 hro
      rw [hw, if_neg (by omega)]; exact hm.old k hlt
  keep := fun i hi => by
    simp only [List.mem_cons, List.not_mem_nil, or_false, not_or] at hi
    rw [tget_tput, if_neg hi.2, tget_tput, if_neg hi.1]
  frame := fun k hk hx => by
    rw [hw, if_neg]
    intro e
    exact hx id o b (by simp) hid hb e.symm
  wsn := fun i hi => by
    simp only [List.mem_cons, List.not_mem_nil, or_false] at hi
    rcases hi with rfl | rfl
    · exact .inl ⟨o, hid⟩
    · exact .inr (by omega)
  wro := fun i q hi e => by
    simp only [List.mem_cons, List.not_mem_nil, or_false] at hi
    rcases hi with rfl | rfl
    · rw [hid] at e; cases e; exact hro
    · obtain ⟨b', h1, _⟩ := hm.obj _ q e
      rw [hn] at h1; cases h1
  size := by rw [hsz]; exact Nat.le_refl _
  os := ho
  tape := ht
  output := hp
  fresh := fun i x l1 l2 e => by
    obtain rfl : i = n := by omega
    have hne : id ≠ i := fun e => by subst e; rw [hn] at hb; cases hb
    simp [upR] at e
    subst e
    exact .inr ⟨id, o, b, by simp, hid, by rw [tget_tput, if_neg hne, tget_tput, if_pos rfl], hb, rfl⟩
/-- An object is given up; a new one is made. -/
theorem Step.newGone {ρ : Rho} {w w' : World} {h : T HO} {n id c : Nat} {o o' : HO} {ob : Obj} (hm : Mod P ρ ε base w (tget h)) (hn : ρ n = none) (hid : tget h id = some o) (hro : o.ro = false) (hb : base.n ≤ w.heap.size)
    (hw : w'.heap = w.heap.push ob) (ho : w'.os = w.os) (ht : w'.tape = w.tape) (hp : w'.output = w.output) (hr : ObjR P ρ ε c o' (some ob)) :
    Step P ε base ρ w (tget h) n (upR ρ n (w.heap.size, c)) w' (tget (tput (tput h id none) n (some o'))) (n + 1) [id, n] := by
  have hm' : Mod P ρ ε base w (tget (tput h id none)) := hm.mono fun i q e => by
    rw [tget_tput] at e
    split at e
    · cases e
    · exact e
  have s := Step.new (c := c) (o := o') hm' hn hb hw ho ht hp hr
  have hne : id ≠ n := fun e => by subst e; obtain ⟨b', h1, _⟩ := hm.obj _ o hid; rw [hn] at h1; cases h1
  exact {
    ext := s.ext, out := s.out, fr := s.fr, nle := s.nle, mod := s.mod, size := s.size, os := s.os, tape := s.tape, output := s.output
    keep := fun i hi => by
      simp only [List.mem_cons, List.not_mem_nil, or_false, not_or] at hi
      rw [tget_tput, if_neg hi.2, tget_tput, if_neg hi.1]
    frame := fun k hk _ => by rw [hw, Array.getElem?_push, if_neg (by omega)]
    wsn := fun i hi => by
      simp only [List.mem_cons, List.not_mem_nil, or_false] at hi
      rcases hi with rfl | rfl
      · exact .inl ⟨o, hid⟩
      · exact .inr (by omega)
    wro := fun i q hi e => by
      simp only [List.mem_cons, List.not_mem_nil, or_false] at hi
      rcases hi with rfl | rfl
      · rw [hid] at e; cases e; exact hro
      · obtain ⟨b', h1, _⟩ := hm.obj _ q e
        rw [hn] at h1; cases h1
    fresh := fun i x l1 l2 e => by
      obtain rfl : i = n := by omega
      simp [upR] at e
      subst e
      exact .inl (Nat.le_refl _) }
end
end Go.Proofs.YtefnfbidphmgoaaDoor.Ex
