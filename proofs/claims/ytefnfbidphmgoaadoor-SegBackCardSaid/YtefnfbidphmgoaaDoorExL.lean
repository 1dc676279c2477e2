/- A reckoner for runs of fixed texts, twelfth part: regions that draw their order: whatever the order, it comes to what the reckoner says. Conditions: as in the tenth part. -/
import Derived.Test.YtefnfbidphmgoaaDoorExK
set_option linter.unusedVariables false
set_option linter.unusedSimpArgs false
namespace Go.Proofs.YtefnfbidphmgoaaDoor.Ex
open Go Go.RowKit

section
variable {P : Program} {ε : Nat → Option Value} {base : Base}

theorem Step.congr {ρ ρ' : Rho} {w w' : World} {H H' K' : Nat → Option HO} {n n' : Nat} {ws ws' : List Nat} (h : Step P ε base ρ w H n ρ' w' H' n' ws) (hk : ∀ id, K' id = H' id) (hw : ∀ id, id ∈ ws' ↔ id ∈ ws) : Step P ε base ρ w H n ρ' w' K' n' ws' := by
  have : K' = H' := funext hk
  subst this
  exact { ext := h.ext, out := h.out, fr := h.fr, nle := h.nle, mod := h.mod, size := h.size, os := h.os, tape := h.tape, output := h.output
          keep := fun id hid => h.keep id (fun hm => hid ((hw id).2 hm))
          frame := fun b hb hx => h.frame b hb fun id o c hm => hx id o c ((hw id).2 hm)
          wsn := fun id hid => h.wsn id ((hw id).1 hid)
          wro := fun id o hid => h.wro id o ((hw id).1 hid)
          fresh := fun id b h1 h2 h3 => (h.fresh id b h1 h2 h3).imp (fun h => h) fun ⟨k, o, c, q1, q2⟩ => ⟨k, o, c, (hw k).2 q1, q2⟩ }
/-- A step on a part of memory, seen in the whole. -/
theorem Step.lift {ρ ρ' : Rho} {w w' : World} {H G G' : Nat → Option HO} {lo hi : Nat} {ws : List Nat} (k : Step P ε base ρ w G lo ρ' w' G' hi ws) (big : Mod P ρ ε base w H) (hsub : ∀ id o, G id = some o → H id = some o) (dec : ∀ id, Decidable (id ∈ ws)) :
    Step P ε base ρ w H lo ρ' w' (fun id => if id ∈ ws then G' id else H id) hi ws := by
  have notnew : ∀ id o, H id = some o → ¬ (lo ≤ id ∧ id < hi) := fun id o h hh => by
    obtain ⟨b, hb, _⟩ := big.obj id o h
    have := k.fr id hh.1 hh.2
    rw [hb] at this; cases this
  have inG : ∀ id o, id ∈ ws → H id = some o → G id = some o := fun id o hm h => by
    rcases k.wsn id hm with ⟨o', ho'⟩ | h'
    · rw [hsub id o' ho'] at h; cases h; exact ho'
    · exact absurd h' (notnew id o h)
  have apart : ∀ id o b, id ∉ ws → H id = some o → ρ id = some b → ∀ q o' c, q ∈ ws → G q = some o' → ρ q = some c → c.1 ≠ b.1 := fun id o b hid h hb q o' c hq hG hc e =>
    hid ((big.inj q id o' o c b (hsub q o' hG) h (.inl (k.wro q o' hq hG)) hc hb e) ▸ hq)
  exact {
    ext := k.ext, out := k.out, fr := k.fr, nle := k.nle, size := k.size, os := k.os, tape := k.tape, output := k.output
    mod := by
      refine ⟨fun id o e => ?_, fun id id' o o' b b' e1 e2 hr2 r1 r2 hbb => ?_, k.mod.old⟩
      · by_cases hid : id ∈ ws
        · rw [if_pos hid] at e; exact k.mod.obj id o e
        · rw [if_neg hid] at e
          obtain ⟨b, h1, h2, h3, h4⟩ := big.obj id o e
          refine ⟨b, k.ext id b h1, Nat.lt_of_lt_of_le h2 k.size, ?_, h4⟩
          rw [k.frame b.1 h2 (fun q o' c hq hG hc => apart id o b hid e h1 q o' c hq hG hc)]
          exact h3.sub k.ext
      · have mixed : ∀ (i j : Nat) (o o' : HO) (b b' : Nat × Nat), i ∈ ws → j ∉ ws → G' i = some o → H j = some o' → ρ' i = some b → ρ' j = some b' → b.1 = b'.1 → False := by
          intro i j o o' b b' hi hj e1 e2 r1 r2 hbb
          obtain ⟨c, hc, hclt, _⟩ := big.obj j o' e2
          have := k.ext j c hc
          rw [r2] at this; cases this
          rcases k.out i b r1 with h' | h'
          · rcases k.wsn i hi with ⟨o2, ho2⟩ | h2
            · exact hj ((big.inj i j o2 o' b b' (hsub i o2 ho2) e2 (.inl (k.wro i o2 hi ho2)) h' hc hbb) ▸ hi)
            · have := k.fr i h2.1 h2.2; rw [h'] at this; cases this
          · rcases k.fresh i b h'.1 h'.2 r1 with hs | ⟨q, o2, c2, hq, hG, _, hc2, hcc⟩
            · omega
            · exact hj ((big.inj q j o2 o' c2 b' (hsub q o2 hG) e2 (.inl (k.wro q o2 hq hG)) hc2 hc (hcc.trans hbb)) ▸ hq)
        by_cases h1 : id ∈ ws <;> by_cases h2 : id' ∈ ws
        · rw [if_pos h1] at e1; rw [if_pos h2] at e2; exact k.mod.inj id id' o o' b b' e1 e2 hr2 r1 r2 hbb
        · rw [if_pos h1] at e1; rw [if_neg h2] at e2; exact (mixed id id' o o' b b' h1 h2 e1 e2 r1 r2 hbb).elim
        · rw [if_neg h1] at e1; rw [if_pos h2] at e2; exact (mixed id' id o' o b' b h2 h1 e2 e1 r2 r1 hbb.symm).elim
        · rw [if_neg h1] at e1; rw [if_neg h2] at e2
          obtain ⟨c, hc, _⟩ := big.obj id o e1
          obtain ⟨c', hc', _⟩ := big.obj id' o' e2
          have g1 := k.ext id c hc
          have g2 := k.ext id' c' hc'
          rw [r1] at g1; cases g1
          rw [r2] at g2; cases g2
          exact big.inj id id' o o' b b' e1 e2 hr2 hc hc' hbb
    keep := fun id hid => by rw [if_neg hid]
    frame := fun b hb hx => k.frame b hb fun q o c hq hG hc => hx q o c hq (hsub q o hG) hc
    wsn := fun id hid => (k.wsn id hid).imp (fun ⟨o, h⟩ => ⟨o, hsub id o h⟩) fun h => h
    wro := fun id o hid h => k.wro id o hid (inG id o hid h)
    fresh := fun id b h1 h2 h3 => (k.fresh id b h1 h2 h3).imp (fun h => h) fun ⟨q, o, c, q1, q2, q3, q4⟩ => ⟨q, o, c, q1, hsub q o q2, by rw [if_pos q1]; exact q3, q4⟩ }
/-- One more step, of numbers within the whole's. -/
theorem Step.more {ρ ρ₁ ρ₂ : Rho} {w w₁ w₂ : World} {H H₁ H₂ : Nat → Option HO} {n m lo hi : Nat} {ws₁ ws₂ : List Nat} (h0 : Mod P ρ ε base w H)
    (h : Step P ε base ρ w H n ρ₁ w₁ H₁ m ws₁) (k : Step P ε base ρ₁ w₁ H₁ lo ρ₂ w₂ H₂ hi ws₂) (hlo : n ≤ lo) (hhi : hi ≤ m) : Step P ε base ρ w H n ρ₂ w₂ H₂ m (ws₂ ++ ws₁) where
  ext := h.ext.trans k.ext
  out := fun id b e => by
    rcases k.out id b e with e1 | e1
    · exact h.out id b e1
    · exact .inr (by omega)
  fr := h.fr
  nle := h.nle
  mod := k.mod
  keep := fun id hid => by
    simp only [List.mem_append, not_or] at hid
    rw [k.keep id hid.1, h.keep id hid.2]
  frame := fun b hb hx => by
    have e1 : w₁.heap[b]? = w.heap[b]? := h.frame b hb fun id o c hm => hx id o c (List.mem_append_right _ hm)
    rw [← e1]
    refine k.frame b (Nat.lt_of_lt_of_le hb h.size) fun id o c hm ho hc hcb => ?_
    by_cases hin : id ∈ ws₁
    · rcases h.wsn id hin with ⟨o0, ho0⟩ | ⟨l1, l2⟩
      · obtain ⟨b0, hb0, _⟩ := h0.obj id o0 ho0
        have hcc := h.ext id b0 hb0
        rw [hc] at hcc
        cases hcc
        exact hx id o0 c (List.mem_append_right _ hin) ho0 hb0 hcb
      · rcases h.fresh id c l1 l2 hc with hsz | ⟨q, o1, c1, hq, ho1, hq1, hc1, hcc⟩
        · omega
        · exact hx q o1 c1 (List.mem_append_right _ hq) ho1 hc1 (hcc.trans hcb)
    · rw [h.keep id hin] at ho
      obtain ⟨b0, hb0, _⟩ := h0.obj id o ho
      have hcc := h.ext id b0 hb0
      rw [hc] at hcc
      cases hcc
      exact hx id o c (List.mem_append_left _ hm) ho hb0 hcb
  wsn := fun id hid => by
    rcases List.mem_append.1 hid with hm | hm
    · rcases k.wsn id hm with ⟨o, ho⟩ | ⟨l1, l2⟩
      · by_cases hin : id ∈ ws₁
        · exact h.wsn id hin
        · rw [h.keep id hin] at ho; exact .inl ⟨o, ho⟩
      · exact .inr ⟨by omega, by omega⟩
    · exact h.wsn id hm
  wro := fun id o hid ho => by
    by_cases hin : id ∈ ws₁
    · exact h.wro id o hin ho
    · rcases List.mem_append.1 hid with hm | hm
      · exact k.wro id o hm (by rw [h.keep id hin]; exact ho)
      · exact absurd hm hin
  size := Nat.le_trans h.size k.size
  os := k.os.trans h.os
  tape := k.tape.trans h.tape
  output := k.output.trans h.output
  fresh := fun id b l1 l2 hb => by
    have gone : ∀ q o c, q ∈ ws₁ → H q = some o → H₁ q = none → ρ q = some c → H₂ q = none := fun q o c hq ho hq1 hc => by
      by_cases hin : q ∈ ws₂
      · rcases k.wsn q hin with ⟨o2, ho2⟩ | ⟨m1, m2⟩
        · rw [hq1] at ho2; cases ho2
        · have := k.fr q m1 m2; rw [h.ext q c hc] at this; cases this
      · rw [k.keep q hin, hq1]
    rcases k.out id b hb with hold | hnew
    · rcases h.fresh id b l1 l2 hold with hsz | ⟨q, o, c, hq, ho, hq1, hc, hcc⟩
      · exact .inl hsz
      · exact .inr ⟨q, o, c, List.mem_append_right _ hq, ho, gone q o c hq ho hq1 hc, hc, hcc⟩
    · rcases k.fresh id b hnew.1 hnew.2 hb with hsz | ⟨q, o, c, hq, ho, hq2, hc, hcc⟩
      · exact .inl (Nat.le_trans h.size hsz)
      · by_cases hin : q ∈ ws₁
        · rcases h.wsn q hin with ⟨o0, ho0⟩ | ⟨m1, m2⟩
          · obtain ⟨b0, hb0, _⟩ := h0.obj q o0 ho0
            have he := h.ext q b0 hb0
            rw [hc] at he
            cases he
            exact .inr ⟨q, o0, c, List.mem_append_left _ hq, ho0, hq2, hb0, hcc⟩
          · rcases h.fresh q c m1 m2 hc with hsz | ⟨r, o3, c3, hr, ho3, hr1, hc3, hcc3⟩
            · exact .inl (by omega)
            · exact .inr ⟨r, o3, c3, List.mem_append_right _ hr, ho3, gone r o3 c3 hr ho3 hr1 hc3, hc3, hcc3.trans hcc⟩
        · have ho' := ho
          rw [h.keep q hin] at ho'
          obtain ⟨b0, hb0, _⟩ := h0.obj q o ho'
          have he := h.ext q b0 hb0
          rw [hc] at he
          cases he
          exact .inr ⟨q, o, c, List.mem_append_left _ hq, ho', hq2, hb0, hcc⟩

/-! ### What was said, by those that have come up -/

noncomputable def said (E : Nat → Bool) (id : Nat) : List Rec → Option (Option HO)
  | [] => none
  | r :: rs => match (bif E r.i then r.delta.find? (fun d => Nat.beq d.1 id) else none) with
    | some d => some d.2
    | none => said E id rs
noncomputable def heapAt (h0 : T HO) (R : List Rec) (E : Nat → Bool) (id : Nat) : Option HO := match said E id R with
  | some o => o
  | none => tget h0 id
noncomputable def tmpAt (t0 : T Value) (R : List Rec) (E : Nat → Bool) (t : Nat) : Option Value := match R.find? (fun r => E r.i && (r.dst == some t)) with
  | some r => some r.v
  | none => tget t0 t
theorem lastSaid_eq (m id : Nat) : ∀ (R : List Rec), lastSaid m id R = said (inMask m) id R
  | [] => rfl
  | r :: rs => by simp only [lastSaid, said, lastSaid_eq m id rs]; rfl
theorem viewGet_eq (h0 : T HO) (R : List Rec) (m id : Nat) : viewGet h0 R m id = heapAt h0 R (inMask m) id := by
  unfold viewGet heapAt; rw [lastSaid_eq]; rfl
noncomputable def hasKey (r : Rec) (id : Nat) : Bool := r.delta.any fun d => Nat.beq d.1 id
theorem find_none {r : Rec} {id : Nat} (h : hasKey r id = false) : r.delta.find? (fun d => Nat.beq d.1 id) = none := by
  rw [List.find?_eq_none]
  intro d hd hb
  have : hasKey r id = true := List.any_eq_true.2 ⟨d, hd, hb⟩
  rw [h] at this; cases this
theorem said_skip {E : Nat → Bool} {id : Nat} : ∀ {A B : List Rec}, (∀ r ∈ A, E r.i = true → hasKey r id = false) → said E id (A ++ B) = said E id B
  | [], B, _ => rfl
  | r :: A, B, h => by
    have ih := said_skip (A := A) (B := B) (fun x hx => h x (by simp [hx]))
    simp only [List.cons_append, said]
    cases hE : E r.i
    · simp only [cond_false, ih]
    · simp only [cond_true, find_none (h r (by simp) hE), ih]
theorem said_congr {E F : Nat → Bool} {id : Nat} : ∀ {A : List Rec}, (∀ r ∈ A, hasKey r id = true → E r.i = F r.i) → said E id A = said F id A
  | [], _ => rfl
  | r :: A, h => by
    have ih := said_congr (A := A) (fun x hx => h x (by simp [hx]))
    simp only [said, ih]
    cases hk : hasKey r id
    · simp only [find_none hk]
      cases E r.i <;> cases F r.i <;> rfl
    · rw [h r (by simp) hk]

/-! ### The reckoner's own run -/

/-- How the records came to be. -/
noncomputable def Chain (P : Program) (call : CallF) (nt : Nat) (all : List Oper) (t0 : T Value) (h0 : T HO) (n0 : Nat) : List Rec → T Value → T HO → Nat → List Nat → Prop
  | [], t, h, n, ws => t = t0 ∧ h = h0 ∧ n = n0 ∧ ws = []
  | r :: rs, t, h, n, ws => ∃ t1 h1 n1 ws1 o, Chain P call nt all t0 h0 n0 rs t1 h1 n1 ws1 ∧ all[rs.length]? = some o ∧ r.i = rs.length ∧ r.dst = o.dst ∧ r.looks = looksOf all o ∧ dstOk nt o.dst = true ∧ maskOf rs o.after.toList = some r.mask ∧ fits r rs = true ∧ t = putDst t1 o.dst r.v ∧ r.lo = n1 ∧ r.hi = n ∧
      ((wantedA all t1 o = some false ∧ r.v = undef ∧ r.delta = [] ∧ h = h1 ∧ n = n1 ∧ ws = ws1) ∨
       (wantedA all t1 o = some true ∧ ∃ q, stepA P call o (evalA t1) r.hin n1 = .ok q ∧ r.v = q.v ∧ r.delta = q.ws.map (fun id => (id, tget q.heap id)) ∧ n1 ≤ q.next ∧ n = q.next ∧ h = putAll h1 r.delta ∧ ws = q.ws ++ ws1 ∧ ∀ id ob, tget r.hin id = some ob → viewGet h0 rs r.mask id = some ob))
theorem putAll_get (id : Nat) : ∀ (l : List (Nat × Option HO)) (h : T HO), tget (putAll h l) id = match l.find? (fun d => Nat.beq d.1 id) with | some d => d.2 | none => tget h id
  | [], h => rfl
  | (k, o) :: l, h => by
    simp only [putAll, tget_tput, List.find?_cons]
    by_cases hk : id = k
    · subst hk; simp [beq_yes]
    · rw [if_neg hk, beq_no (Ne.symm hk)]; exact putAll_get id l h
theorem Chain.heap {call : CallF} {nt : Nat} {all : List Oper} {t0 : T Value} {h0 : T HO} {n0 : Nat} : ∀ {R : List Rec} {t : T Value} {h : T HO} {n : Nat} {ws : List Nat}, Chain P call nt all t0 h0 n0 R t h n ws → ∀ id, tget h id = heapAt h0 R (fun _ => true) id
  | [], t, h, n, ws, hc, id => by obtain ⟨_, rfl, _⟩ := hc; rfl
  | r :: rs, t, h, n, ws, hc, id => by
    obtain ⟨t1, h1, n1, ws1, o, hrs, _, _, _, _, _, _, _, _, _, _, hd⟩ := hc
    have ih := Chain.heap hrs id
    rcases hd with ⟨_, _, hdel, rfl, _⟩ | ⟨_, q, _, _, _, _, _, rfl, _⟩
    · rw [ih]; simp [heapAt, said, hdel]
    · rw [putAll_get]
      simp only [heapAt, said, cond_true]
      cases r.delta.find? (fun d => Nat.beq d.1 id) with
      | some d => rfl
      | none => exact ih
theorem Chain.tmp {call : CallF} {nt : Nat} {all : List Oper} {t0 : T Value} {h0 : T HO} {n0 : Nat} : ∀ {R : List Rec} {t : T Value} {h : T HO} {n : Nat} {ws : List Nat}, Chain P call nt all t0 h0 n0 R t h n ws → ∀ k, tget t k = tmpAt t0 R (fun _ => true) k
  | [], t, h, n, ws, hc, k => by obtain ⟨rfl, _⟩ := hc; rfl
  | r :: rs, t, h, n, ws, hc, k => by
    obtain ⟨t1, h1, n1, ws1, o, hrs, _, _, hdst, _, _, _, _, rfl, _⟩ := hc
    have ih := Chain.tmp hrs k
    unfold tmpAt at ih ⊢
    simp only [List.find?_cons, Bool.true_and]
    cases hd : o.dst with
    | none => rw [hdst, hd]; simpa [putDst] using ih
    | some d =>
      rw [hdst, hd]
      simp only [putDst, tget_tput]
      by_cases hk : k = d
      · subst hk; simp
      · rw [if_neg hk]
        have : (some d == some k) = false := by simp; exact fun h => hk h.symm
        simpa [this] using ih
theorem Chain.next {call : CallF} {nt : Nat} {all : List Oper} {t0 : T Value} {h0 : T HO} {n0 : Nat} : ∀ {R : List Rec} {t : T Value} {h : T HO} {n : Nat} {ws : List Nat}, Chain P call nt all t0 h0 n0 R t h n ws → n0 ≤ n
  | [], t, h, n, ws, hc => by obtain ⟨_, _, rfl, _⟩ := hc; exact Nat.le_refl _
  | r :: rs, t, h, n, ws, hc => by
    obtain ⟨t1, h1, n1, ws1, o, hrs, _, _, _, _, _, _, _, _, _, _, hd⟩ := hc
    have ih := Chain.next hrs
    rcases hd with ⟨_, _, _, _, rfl, _⟩ | ⟨_, q, _, _, _, hle, rfl, _⟩
    · exact ih
    · exact Nat.le_trans ih hle
/-- Where a record stands in the chain. -/
theorem Chain.split {call : CallF} {nt : Nat} {all : List Oper} {t0 : T Value} {h0 : T HO} {n0 : Nat} : ∀ {A : List Rec} {B : List Rec} {t : T Value} {h : T HO} {n : Nat} {ws : List Nat}, Chain P call nt all t0 h0 n0 (A ++ B) t h n ws → ∃ t' h' n' ws', Chain P call nt all t0 h0 n0 B t' h' n' ws' ∧ n' ≤ n
  | [], B, t, h, n, ws, hc => ⟨t, h, n, ws, hc, Nat.le_refl _⟩
  | r :: A, B, t, h, n, ws, hc => by
    obtain ⟨t1, h1, n1, ws1, o, hrs, _, _, _, _, _, _, _, _, _, _, hd⟩ := hc
    obtain ⟨t', h', n', ws', g1, g2⟩ := Chain.split (A := A) (B := B) hrs
    refine ⟨t', h', n', ws', g1, ?_⟩
    rcases hd with ⟨_, _, _, _, rfl, _⟩ | ⟨_, q, _, _, _, hle, rfl, _⟩
    · exact g2
    · exact Nat.le_trans g2 hle
theorem Chain.index {call : CallF} {nt : Nat} {all : List Oper} {t0 : T Value} {h0 : T HO} {n0 : Nat} : ∀ {R : List Rec} {t : T Value} {h : T HO} {n : Nat} {ws : List Nat}, Chain P call nt all t0 h0 n0 R t h n ws → ∀ r ∈ R, r.i < R.length ∧ ∃ A B, R = A ++ r :: B ∧ B.length = r.i
  | [], _, _, _, _, _, r, hr => by simp at hr
  | x :: rs, t, h, n, ws, hc, r, hr => by
    obtain ⟨t1, h1, n1, ws1, o, hrs, _, hi, _⟩ := hc
    rcases List.mem_cons.1 hr with rfl | hr
    · exact ⟨by simp [hi], [], rs, rfl, hi.symm⟩
    · obtain ⟨g1, A, B, g2, g3⟩ := Chain.index hrs r hr
      exact ⟨by simp; omega, x :: A, B, by simp [g2], g3⟩
theorem inMask_bit (m i : Nat) : inMask m i = m.testBit i := by
  unfold inMask
  rw [Nat.testBit_eq_decide_div_mod_eq]
  have : Nat.mod (Nat.shiftRight m i) 2 = m / 2 ^ i % 2 := by
    show (m >>> i) % 2 = m / 2 ^ i % 2
    rw [Nat.shiftRight_eq_div_pow]
  rw [this]
  rcases Nat.mod_two_eq_zero_or_one (m / 2 ^ i) with h | h <;> rw [h] <;> rfl
theorem inMask_or (a b c i j : Nat) : inMask (Nat.lor (Nat.lor a b) (Nat.shiftLeft 1 i)) j = (inMask a j || inMask b j || decide (i = j)) := by
  rw [inMask_bit, inMask_bit, inMask_bit]
  show (a ||| b ||| (1 <<< i)).testBit j = _
  rw [Nat.testBit_or, Nat.testBit_or, Nat.one_shiftLeft, Nat.testBit_two_pow]
/-- Masks: what an operation waits for, and what that waits for. -/
theorem mask_ok {rs : List Rec} : ∀ {es : List Edge} {m : Nat}, maskOf rs es = some m → (∀ j, inMask m j = true → ∃ e ∈ es, Region.binds .any e = true ∧ ∃ r ∈ rs, r.i = e.on ∧ (j = r.i ∨ inMask r.mask j = true)) ∧ ∀ e ∈ es, Region.binds .any e = true → ∃ r ∈ rs, r.i = e.on ∧ inMask m r.i = true
  | [], m, h => by
    simp only [maskOf, Option.some.injEq] at h
    subst h
    refine ⟨fun j hj => ?_, fun e he => by simp at he⟩
    rw [inMask_bit] at hj
    simp at hj
  | e :: es, m, h => by
    simp only [maskOf] at h
    cases hb : Region.binds .any e <;> simp only [hb, cond_true, cond_false] at h
    · obtain ⟨g1, g2⟩ := mask_ok h
      refine ⟨fun j hj => ?_, fun e' he' hb' => ?_⟩
      · obtain ⟨e', he', rest⟩ := g1 j hj
        exact ⟨e', List.mem_cons_of_mem _ he', rest⟩
      · rcases List.mem_cons.1 he' with rfl | he'
        · rw [hb] at hb'; cases hb'
        · exact g2 e' he' hb'
    · split at h
      · cases h
      rename_i r hr
      split at h
      · cases h
      rename_i m' hm'
      simp only [Option.some.injEq] at h
      subst h
      obtain ⟨g1, g2⟩ := mask_ok hm'
      have hmem := List.mem_of_find?_eq_some hr
      have hon : r.i = e.on := by
        have := List.find?_some hr
        exact Nat.eq_of_beq_eq_true this
      refine ⟨fun j hj => ?_, fun e' he' hb' => ?_⟩
      · rw [inMask_or _ _ 0] at hj
        simp only [Bool.or_eq_true, decide_eq_true_eq] at hj
        rcases hj with (hj | hj) | hj
        · obtain ⟨e', he', rest⟩ := g1 j hj
          exact ⟨e', List.mem_cons_of_mem _ he', rest⟩
        · exact ⟨e, List.mem_cons_self, hb, r, hmem, hon, .inr hj⟩
        · exact ⟨e, List.mem_cons_self, hb, r, hmem, hon, .inl hj.symm⟩
      · rcases List.mem_cons.1 he' with rfl | he'
        · refine ⟨r, hmem, hon, ?_⟩
          rw [inMask_or _ _ 0]; simp
        · obtain ⟨r', hr', h1, h2⟩ := g2 e' he' hb'
          refine ⟨r', hr', h1, ?_⟩
          rw [inMask_or _ _ 0, h2]; simp
/-- All that a mask holds is listed, where what comes up waits for what it waits for. -/
theorem Chain.mask {call : CallF} {nt : Nat} {all : List Oper} {t0 : T Value} {h0 : T HO} {n0 : Nat} {E : Nat → Bool} (hE : ∀ (j : Nat) (o : Oper), all[j]? = some o → E j = true → ∀ e ∈ o.after.toList, Region.binds .any e = true → E e.on = true) :
    ∀ {R : List Rec} {t : T Value} {h : T HO} {n : Nat} {ws : List Nat}, Chain P call nt all t0 h0 n0 R t h n ws → ∀ r ∈ R, (∀ o, all[r.i]? = some o → ∀ e ∈ o.after.toList, Region.binds .any e = true → E e.on = true) → ∀ j, inMask r.mask j = true → E j = true ∧ j < r.i
  | [], _, _, _, _, _, r, hr => by simp at hr
  | x :: rs, t, h, n, ws, hc, r, hr => by
    obtain ⟨t1, h1, n1, ws1, o, hrs, ho, hi, _, _, _, hmask, _⟩ := hc
    rcases List.mem_cons.1 hr with rfl | hr
    · intro hro j hj
      obtain ⟨e, he, hb, r', hr', hon, hj'⟩ := (mask_ok hmask).1 j hj
      have hEon := hro o (by rw [hi]; exact ho) e he hb
      have hidx := (Chain.index hrs r' hr').1
      rcases hj' with rfl | hj'
      · exact ⟨by rw [hon]; exact hEon, by omega⟩
      · have hall : ∀ o', all[r'.i]? = some o' → ∀ e ∈ o'.after.toList, Region.binds .any e = true → E e.on = true := fun o' ho' => hE r'.i o' ho' (by rw [hon]; exact hEon)
        obtain ⟨q1, q2⟩ := Chain.mask hE hrs r' hr' hall j hj'
        exact ⟨q1, by omega⟩
    · exact Chain.mask hE hrs r hr

/-! ### Two records -/

theorem hasKey_all {r : Rec} {p : Nat × Option HO → Bool} (h : r.delta.all p = true) {id : Nat} (hk : hasKey r id = true) : ∃ d ∈ r.delta, d.1 = id ∧ p d = true := by
  obtain ⟨d, hd, hb⟩ := List.any_eq_true.1 hk
  exact ⟨d, hd, Nat.eq_of_beq_eq_true hb, List.all_eq_true.1 h d hd⟩
theorem apart_facts {x y : Rec} (h : apart x y = true) : (∀ d, x.dst = some d → d ∉ y.looks) ∧ (∀ d, y.dst = some d → d ∉ x.looks) ∧ (∀ id, hasKey x id = true → tget y.hin id = none ∧ hasKey y id = false) ∧ (∀ id, hasKey y id = true → tget x.hin id = none) := by
  unfold apart at h
  simp only [Bool.and_eq_true] at h
  obtain ⟨⟨⟨h1, h2⟩, h3⟩, h4⟩ := h
  refine ⟨fun d hd => ?_, fun d hd => ?_, fun id hk => ?_, fun id hk => ?_⟩
  · rw [hd] at h1; simpa using h1
  · rw [hd] at h2; simpa using h2
  · obtain ⟨d, _, rfl, hp⟩ := hasKey_all h3 hk
    simp only [Bool.and_eq_true, Bool.not_eq_true', Option.isNone_iff_eq_none] at hp
    exact hp
  · obtain ⟨d, _, rfl, hp⟩ := hasKey_all h4 hk
    simpa using hp
/-- Of a record and an elder one. -/
theorem Chain.pair {call : CallF} {nt : Nat} {all : List Oper} {t0 : T Value} {h0 : T HO} {n0 : Nat} {A B : List Rec} {r : Rec} {t : T Value} {h : T HO} {n : Nat} {ws : List Nat} (hc : Chain P call nt all t0 h0 n0 (A ++ r :: B) t h n ws) :
    (∀ x ∈ B, (∀ d, x.dst = some d → r.dst ≠ some d) ∧ (inMask r.mask x.i = true ∨ apart x r = true)) ∧ (∀ y ∈ A, (∀ d, r.dst = some d → y.dst ≠ some d) ∧ (inMask y.mask r.i = true ∨ apart r y = true)) := by
  have fit : ∀ {A B : List Rec} {r : Rec} {t : T Value} {h : T HO} {n : Nat} {ws : List Nat}, Chain P call nt all t0 h0 n0 (A ++ r :: B) t h n ws → ∀ x ∈ B, (∀ d, x.dst = some d → r.dst ≠ some d) ∧ (inMask r.mask x.i = true ∨ apart x r = true) := by
    intro A B r t h n ws hc x hx
    obtain ⟨t', h', n', ws', hc', _⟩ := Chain.split hc
    obtain ⟨_, _, _, _, _, _, _, _, _, _, _, _, hf, _⟩ := hc'
    have := List.all_eq_true.1 hf x hx
    simp only [Bool.and_eq_true, Bool.not_eq_true', Bool.or_eq_true] at this
    refine ⟨fun d hd hd' => ?_, this.2⟩
    have h1 := this.1
    unfold sameDst at h1
    rw [hd, hd'] at h1
    simp only [beq_yes] at h1
    cases h1
  refine ⟨fit hc, fun y hy => ?_⟩
  obtain ⟨A1, A2, rfl⟩ := List.append_of_mem hy
  have hc2 : Chain P call nt all t0 h0 n0 (A1 ++ y :: (A2 ++ r :: B)) t h n ws := by simpa using hc
  exact fit hc2 r (by simp)

section
variable {call : CallF} {nt : Nat} {all : List Oper} {t0 : T Value} {h0 : T HO} {n0 : Nat} {A B : List Rec} {r : Rec} {t : T Value} {h : T HO} {n : Nat} {ws : List Nat} {E : Nat → Bool}

/-- The place of a record: what those that have come up leave for it is what the reckoner found. -/
structure Spot (P : Program) (call : CallF) (nt : Nat) (all : List Oper) (t0 : T Value) (h0 : T HO) (n0 : Nat) (A B : List Rec) (r : Rec) (t : T Value) (h : T HO) (n : Nat) (ws : List Nat) (E : Nat → Bool) : Prop where
  chain : Chain P call nt all t0 h0 n0 (A ++ r :: B) t h n ws
  idx : r.i = B.length
  closed : ∀ (j : Nat) (o : Oper), all[j]? = some o → E j = true → ∀ e ∈ o.after.toList, Region.binds .any e = true → E e.on = true
  ready : ∀ o, all[r.i]? = some o → ∀ e ∈ o.after.toList, Region.binds .any e = true → E e.on = true
  out : E r.i = false
theorem Spot.elder (s : Spot P call nt all t0 h0 n0 A B r t h n ws E) {x : Rec} (hx : x ∈ B) : x.i < r.i := by
  obtain ⟨_, _, _, _, hc', _⟩ := Chain.split s.chain
  obtain ⟨_, _, _, _, _, hB, _⟩ := hc'
  have := (Chain.index hB x hx).1
  rw [s.idx]; exact this
theorem Spot.later (s : Spot P call nt all t0 h0 n0 A B r t h n ws E) {y : Rec} (hy : y ∈ A) (hE : E y.i = true) : apart r y = true := by
  rcases (Chain.pair s.chain).2 y hy |>.2 with h' | h'
  · have := (Chain.mask s.closed s.chain y (by simp [hy]) (fun o ho => s.closed y.i o ho hE) r.i h').1
    rw [s.out] at this; cases this
  · exact h'
theorem Spot.memB (s : Spot P call nt all t0 h0 n0 A B r t h n ws E) {j : Nat} (hj : inMask r.mask j = true) : E j = true := (Chain.mask s.closed s.chain r (by simp) s.ready j hj).1
theorem Spot.heap (s : Spot P call nt all t0 h0 n0 A B r t h n ws E) (hin : ∀ id ob, tget r.hin id = some ob → viewGet h0 B r.mask id = some ob) : ∀ id ob, tget r.hin id = some ob → heapAt h0 (A ++ r :: B) E id = some ob := by
  intro id ob ho
  have hv := hin id ob ho
  rw [viewGet_eq] at hv
  have e1 : said E id (A ++ r :: B) = said E id (r :: B) := said_skip fun y hy hE => by
    cases hk : hasKey y id
    · rfl
    · have := (apart_facts (s.later hy hE)).2.2.2 id hk
      rw [ho] at this; cases this
  have e2 : said E id (r :: B) = said E id B := by simp only [said, s.out, cond_false]
  have e3 : said E id B = said (inMask r.mask) id B := said_congr fun x hx hk => by
    rcases (Chain.pair s.chain).1 x hx |>.2 with h' | h'
    · rw [h', s.memB h']
    · have := ((apart_facts h').2.2.1 id hk).1
      rw [ho] at this; cases this
  unfold heapAt at hv ⊢
  rw [e1, e2, e3]
  exact hv
theorem Spot.tmp (s : Spot P call nt all t0 h0 n0 A B r t h n ws E) {k : Nat} (hk : k ∈ r.looks) : tmpAt t0 (A ++ r :: B) E k = tmpAt t0 B (fun _ => true) k := by
  have pair := Chain.pair s.chain
  have hA : ∀ y ∈ A, (E y.i && (y.dst == some k)) = false := fun y hy => by
    cases hE : E y.i
    · rfl
    · simp only [Bool.true_and, beq_eq_false_iff_ne, ne_eq]
      intro hd
      exact (apart_facts (s.later hy hE)).2.1 k hd hk
  have hB : ∀ x ∈ B, (E x.i && (x.dst == some k)) = (true && (x.dst == some k)) := fun x hx => by
    cases hd : (x.dst == some k)
    · simp
    · rcases pair.1 x hx |>.2 with h' | h'
      · rw [s.memB h']
      · exact absurd hk ((apart_facts h').1 k (by simpa using hd))
  unfold tmpAt
  have e1 : (A ++ r :: B).find? (fun r => E r.i && (r.dst == some k)) = B.find? (fun r => true && (r.dst == some k)) := by
    rw [List.find?_append, List.find?_eq_none.2 (fun y hy => by rw [hA y hy]; simp), Option.none_or, List.find?_cons, s.out]
    simp only [Bool.false_and]
    have : ∀ (l : List Rec), (∀ x ∈ l, (E x.i && (x.dst == some k)) = (true && (x.dst == some k))) → l.find? (fun r => E r.i && (r.dst == some k)) = l.find? (fun r => true && (r.dst == some k)) := by
      intro l
      induction l with
      | nil => intro _; rfl
      | cons x l ih => intro hl; simp only [List.find?_cons, hl x (by simp), ih (fun y hy => hl y (by simp [hy]))]
    exact this B hB
  rw [e1]

/-- One more has come up. -/
noncomputable def plus (E : Nat → Bool) (i : Nat) : Nat → Bool := fun j => decide (j = i) || E j
theorem Spot.plus_other (s : Spot P call nt all t0 h0 n0 A B r t h n ws E) {x : Rec} (hx : x ∈ A ∨ x ∈ B) : plus E r.i x.i = E x.i := by
  have hne : x.i ≠ r.i := by
    rcases hx with hx | hx
    · obtain ⟨A1, A2, rfl⟩ := List.append_of_mem hx
      have hc2 : Chain P call nt all t0 h0 n0 (A1 ++ x :: (A2 ++ r :: B)) t h n ws := by simpa using s.chain
      obtain ⟨_, _, _, _, hc', _⟩ := Chain.split hc2
      obtain ⟨_, _, _, _, _, hB, _, hi, _⟩ := hc'
      rw [hi, s.idx]; simp; omega
    · have := s.elder hx; omega
  unfold plus
  simp [hne]
theorem Spot.heapPlus (s : Spot P call nt all t0 h0 n0 A B r t h n ws E) (id : Nat) : heapAt h0 (A ++ r :: B) (plus E r.i) id = match r.delta.find? (fun d => Nat.beq d.1 id) with | some d => d.2 | none => heapAt h0 (A ++ r :: B) E id := by
  cases hk : hasKey r id
  · rw [find_none hk]
    have : said (plus E r.i) id (A ++ r :: B) = said E id (A ++ r :: B) := said_congr fun x hx hkx => by
      rcases List.mem_append.1 hx with hx | hx
      · exact s.plus_other (.inl hx)
      · rcases List.mem_cons.1 hx with rfl | hx
        · rw [hk] at hkx; cases hkx
        · exact s.plus_other (.inr hx)
    unfold heapAt
    rw [this]
  · obtain ⟨d, hd⟩ : ∃ d, r.delta.find? (fun d => Nat.beq d.1 id) = some d := by
      cases hf : r.delta.find? (fun d => Nat.beq d.1 id) with
      | some d => exact ⟨d, rfl⟩
      | none =>
        obtain ⟨d, hd, hb⟩ := List.any_eq_true.1 hk
        have := List.find?_eq_none.1 hf d hd
        exact absurd hb this
    rw [hd]
    have : said (plus E r.i) id (A ++ r :: B) = said (plus E r.i) id (r :: B) := said_skip fun y hy hE => by
      rw [s.plus_other (.inl hy)] at hE
      exact ((apart_facts (s.later hy hE)).2.2.1 id hk).2
    unfold heapAt
    rw [this]
    simp only [said, plus, decide_true, Bool.true_or, cond_true, hd]
theorem Spot.tmpPlus (s : Spot P call nt all t0 h0 n0 A B r t h n ws E) (k : Nat) : tmpAt t0 (A ++ r :: B) (plus E r.i) k = if r.dst = some k then some r.v else tmpAt t0 (A ++ r :: B) E k := by
  have pair := Chain.pair s.chain
  by_cases hd : r.dst = some k
  · rw [if_pos hd]
    unfold tmpAt
    have hA : A.find? (fun r_1 => plus E r.i r_1.i && (r_1.dst == some k)) = none := List.find?_eq_none.2 fun y hy => by
      have := (pair.2 y hy).1 k hd
      simp [this]
    rw [List.find?_append, hA, Option.none_or, List.find?_cons]
    simp [plus, hd]
  · rw [if_neg hd]
    unfold tmpAt
    have : ∀ (l : List Rec), (∀ x ∈ l, (plus E r.i x.i && (x.dst == some k)) = (E x.i && (x.dst == some k))) → l.find? (fun r_1 => plus E r.i r_1.i && (r_1.dst == some k)) = l.find? (fun r => E r.i && (r.dst == some k)) := by
      intro l
      induction l with
      | nil => intro _; rfl
      | cons x l ih => intro hl; simp only [List.find?_cons, hl x (by simp), ih (fun y hy => hl y (by simp [hy]))]
    rw [this]
    intro x hx
    rcases List.mem_append.1 hx with hx | hx
    · rw [s.plus_other (.inl hx)]
    · rcases List.mem_cons.1 hx with e | hx
      · have hne : (r.dst == some k) = false := by simpa using hd
        rw [e, hne, Bool.and_false, Bool.and_false]
      · rw [s.plus_other (.inr hx)]
end
end
end Go.Proofs.YtefnfbidphmgoaaDoor.Ex
