/- A reckoner for runs of fixed texts, fourteenth part: frames and calls; what it says of a whole run. Conditions: atoms are of one cell each; no function with a text bears the name of the count of goroutines; the program mixes orders. -/
import Derived.Test.YtefnfbidphmgoaaDoorExM
import Derived.Scope
set_option linter.unusedVariables false
set_option linter.unusedSimpArgs false
namespace Go.Proofs.YtefnfbidphmgoaaDoor.Ex
open Go Go.RowKit

section
variable {P : Program} {ε : Nat → Option Value} {base : Base}

theorem viewAll_ok {call : CallF} {nt : Nat} {all : List Oper} {t0 : T Value} {h0 : T HO} {n0 : Nat} {R : List Rec} {t : T Value} {h : T HO} {n : Nat} {ws : List Nat} (hc : Chain P call nt all t0 h0 n0 R t h n ws) (m id : Nat) : tget (viewAll h0 h R m) id = viewGet h0 R m id := by
  rw [viewGet_eq]
  unfold viewAll
  cases hall : R.all fun r => r.delta.isEmpty || inMask m r.i
  · simp only [cond_false]
    have : ∀ l : List Rec, tget (l.foldr (fun r h => bif inMask m r.i then putAll h r.delta else h) h0) id = heapAt h0 l (inMask m) id := by
      intro l
      induction l with
      | nil => rfl
      | cons r l ih =>
        simp only [List.foldr_cons, heapAt, said] at ih ⊢
        cases hm : inMask m r.i
        · simp only [cond_false]; exact ih
        · simp only [cond_true, putAll_get]
          cases r.delta.find? (fun d => Nat.beq d.1 id) with
          | some d => rfl
          | none => exact ih
    exact this R
  · simp only [cond_true]
    rw [Chain.heap hc id]
    unfold heapAt
    rw [said_congr (E := fun _ => true) (F := inMask m) (fun r hr hk => ?_)]
    have := List.all_eq_true.1 hall r hr
    simp only [Bool.or_eq_true] at this
    rcases this with h' | h'
    · unfold hasKey at hk
      rw [List.isEmpty_iff.1 h'] at hk
      cases hk
    · exact h'.symm
theorem restrict_ok {get : Nat → Option HO} {id : Nat} {ob : HO} : ∀ {l : List Nat}, tget (restrict get l) id = some ob → get id = some ob
  | [], h => by simp [restrict, tget_nil] at h
  | k :: l, h => by
    simp only [restrict, tget_tput] at h
    by_cases hk : id = k
    · rw [if_pos hk] at h; rw [hk]; exact h
    · rw [if_neg hk] at h; exact restrict_ok h
theorem drawLoop_ok {call : CallF} {nt : Nat} {all : List Oper} {t0 : T Value} {h0 : T HO} {n0 : Nat} : ∀ (rest : List Oper) (i : Nat) (s d : Dr), all.drop i = rest → i = s.recs.length → drawLoop P call nt all h0 rest i s = .ok d → Chain P call nt all t0 h0 n0 s.recs s.tmps s.heap s.next s.ws →
    Chain P call nt all t0 h0 n0 d.recs d.tmps d.heap d.next d.ws ∧ d.recs.length = s.recs.length + rest.length
  | [], i, s, d, _, _, h, hc => by simp only [drawLoop, Except.ok.injEq] at h; subst h; exact ⟨hc, by simp⟩
  | o :: rest, i, s, d, hrest, hi, h, hc => by
    have hoi : all[i]? = some o := by
      have h1 : (all.drop i)[0]? = some o := by rw [hrest]; rfl
      simpa using h1
    have hdrop : all.drop (i + 1) = rest := by
      have : (all.drop i).drop 1 = rest := by rw [hrest]; rfl
      rwa [List.drop_drop] at this
    simp only [drawLoop] at h
    cases hd : dstOk nt o.dst <;> simp only [hd, cond_true, cond_false] at h
    · cases h
    split at h
    · rename_i m hm hw
      cases hf : fits ⟨i, o.dst, undef, [], looksOf all o, [], m, s.next, s.next⟩ s.recs <;> simp only [hf, cond_true, cond_false] at h
      · cases h
      have hc' : Chain P call nt all t0 h0 n0 (⟨i, o.dst, undef, [], looksOf all o, [], m, s.next, s.next⟩ :: s.recs) (putDst s.tmps o.dst undef) s.heap s.next s.ws :=
        ⟨s.tmps, s.heap, s.next, s.ws, o, hc, by rw [← hi]; exact hoi, hi, rfl, rfl, hd, hm, hf, rfl, rfl, rfl, .inl ⟨hw, rfl, rfl, rfl, rfl, rfl⟩⟩
      obtain ⟨g1, g2⟩ := drawLoop_ok rest (i + 1) _ d hdrop (by simp [hi]) h hc'
      exact ⟨g1, by rw [g2]; simp; omega⟩
    · rename_i m hm hw
      split at h
      · cases h
      rename_i r hr
      generalize hh : hinOf o h0 s m = hin at h hr
      cases hf : (fits ⟨i, o.dst, r.v, r.ws.map fun id => (id, tget r.heap id), looksOf all o, hin, m, s.next, r.next⟩ s.recs && Nat.ble s.next r.next) <;> simp only [hf, cond_true, cond_false] at h
      · cases h
      simp only [Bool.and_eq_true] at hf
      have hle := Nat.le_of_ble_eq_true hf.2
      have hsub : ∀ id ob, tget hin id = some ob → viewGet h0 s.recs m id = some ob := by
        intro id ob ho
        rw [← hh] at ho
        unfold hinOf at ho
        split at ho
        · rw [viewAll_ok hc] at ho; exact ho
        · exact restrict_ok ho
      have hc' : Chain P call nt all t0 h0 n0 (⟨i, o.dst, r.v, r.ws.map fun id => (id, tget r.heap id), looksOf all o, hin, m, s.next, r.next⟩ :: s.recs) (putDst s.tmps o.dst r.v) (putAll s.heap (r.ws.map fun id => (id, tget r.heap id))) r.next (r.ws ++ s.ws) :=
        ⟨s.tmps, s.heap, s.next, s.ws, o, hc, by rw [← hi]; exact hoi, hi, rfl, rfl, hd, hm, hf.1, rfl, rfl, rfl, .inr ⟨hw, r, hr, rfl, rfl, hle, rfl, rfl, rfl, hsub⟩⟩
      obtain ⟨g1, g2⟩ := drawLoop_ok rest (i + 1) _ d hdrop (by simp [hi]) h hc'
      exact ⟨g1, by rw [g2]; simp; omega⟩
    · cases h
theorem runDraw_chain {call : CallF} {nt : Nat} {all : List Oper} {s s' : St} (h : runDraw P call nt all s = .ok s') : ∃ R ws, Chain P call nt all s.tmps s.heap s.next R s'.tmps s'.heap s'.next ws ∧ R.length = all.length ∧ s'.ws = ws ++ s.ws := by
  unfold runDraw at h
  split at h
  · cases h
  rename_i d hd
  simp only [Except.ok.injEq] at h
  subst h
  obtain ⟨g1, g2⟩ := drawLoop_ok (t0 := s.tmps) (n0 := s.next) all 0 _ d (by simp) rfl hd ⟨rfl, rfl, rfl, rfl⟩
  exact ⟨d.recs, d.ws, g1, by simpa using g2, rfl⟩
theorem runItems_zero {call : CallF} {nt : Nat} (todo : List Item) (s : St) : runItems P call nt 0 todo s = .error "fuel" := rfl
theorem runItems_succ {call : CallF} {nt : Nat} (f : Nat) (todo : List Item) (s : St) : runItems P call nt (f + 1) todo s = itemStep P call nt (runItems P call nt f) todo s := rfl
theorem runItems_mono {call : CallF} {nt : Nat} : ∀ (f : Nat) {todo : List Item} {s s' : St}, runItems P call nt f todo s = .ok s' → s.next ≤ s'.next
  | 0, _, _, _, h => by rw [runItems_zero] at h; cases h
  | f + 1, todo, s, s', h => by
    rw [runItems_succ] at h
    unfold itemStep at h
    have ih := @runItems_mono call nt f
    split at h
    · simp only [Except.ok.injEq] at h; subst h; exact Nat.le_refl _
    · split at h
      · simp only [Except.ok.injEq] at h; subst h; exact Nat.le_refl _
      · exact ih h
      · exact ih h
      · exact ih h
      · split at h
        · exact ih h
        · exact ih h
        · cases h
      · exact ih h
      · exact ih h
      · exact ih h
      · split at h
        · exact ih h
        · cases h
      · split at h
        · exact ih h
        · cases h
      · split at h
        · rename_i s1 h1; exact Nat.le_trans (runOps_mono h1) (ih h)
        · cases h
      · split at h
        · rename_i s1 h1
          obtain ⟨R, ws, hch, _, _⟩ := runDraw_chain h1
          exact Nat.le_trans (Chain.next hch) (ih h)
        · cases h
      · cases h
    · exact ih h
    · exact ih h
    · exact ih h
    · cases h

/-- A region that draws its order. -/
theorem runDraw_ok (hε : ∀ i V, ε i = some V → one V = true) (hN : NoCount P) (hmix : P.follows .mixedOrders = true) {call : CallF} (hc : CallsOk P ε base call) {nt id : Nat} {ops : Array Oper} {s s' : St} {ρ : Rho} {a : Act} {w : World} {Q : Exit → Act → World → Prop} (h : runDraw P call nt ops.toList s = .ok s')
    (ht : TmR ρ ε s.tmps a.tmps) (hs : a.tmps.size = nt) (hm : Mod P ρ ε base w (tget s.heap)) (hf : Fresh ρ s.next s'.next) (hb : base.n ≤ w.heap.size) (hk : ∀ a' w', After P ε base nt ρ w s s' a a' w' → Q .normal a' w') : (Code.region id ops true).wp P Q a w := by
  obtain ⟨R, ws, hch, hlen, hws⟩ := runDraw_chain h
  refine wp_region_any hmix ?_
  have hmd : Mod P ρ ε base w.drew (tget s.heap) := hm.heap rfl
  have hcnt : cnt (fun j => (Array.replicate ops.size false).getD j false) ops.size ≤ ops.size := by
    have : ∀ (E : Nat → Bool) k, cnt E k ≤ k := by
      intro E k
      induction k with
      | zero => exact Nat.le_refl _
      | succ k ih => simp only [cnt]; cases E k <;> simp <;> omega
    exact this _ _
  have hfalse : (fun j => (Array.replicate ops.size false).getD j false) = fun _ => false := by
    funext j
    rw [Array.getD_eq_getD_getElem?]
    by_cases hj : j < ops.size
    · simp [hj]
    · simp [hj]
  have hno : ∀ l : List Rec, ∀ x, said (fun _ => false) x l = none := by
    intro l x
    induction l with
    | nil => rfl
    | cons r l ih => simpa [said] using ih
  refine draw_any hε hN hc hch (by rw [hlen]; simp) hmd hb (fun a' w' ρ' hstep htm hsz hdf => hk a' w' ⟨ρ', ws, hws, Step.drewFirst hm hstep, htm, hsz, hdf⟩) ops.size _ ρ a _ ⟨by simp, fun j o _ hj => ?_, fun k v hv => ?_, hs, rfl, ?_, fun r hr _ id' h1 h2 => ?_⟩ hcnt
  · have := congrFun hfalse j
    rw [this] at hj; cases hj
  · rw [hfalse] at hv
    have : tmpAt s.tmps R (fun _ => false) k = tget s.tmps k := by
      unfold tmpAt
      rw [List.find?_eq_none.2 (fun x _ => by simp)]
    rw [this] at hv
    exact ht k v hv
  · rw [hfalse]
    have e1 : heapAt s.heap R (fun _ => false) = tget s.heap := by funext x; simp [heapAt, hno R x]
    have e2 : wsAt R (fun _ => false) = [] := by unfold wsAt; simp
    rw [e1, e2]
    have hr := Step.refl (n := s.next) hmd
    exact { ext := hr.ext, out := fun i b e => .inl e, fr := hf, nle := Chain.next hch, mod := hr.mod, keep := hr.keep, frame := hr.frame
            wsn := fun _ hx => by simp at hx
            wro := fun _ _ hx => by simp at hx
            size := hr.size, os := hr.os, tape := hr.tape, output := hr.output
            fresh := fun i b h1 h2 hb' => by have := hf i h1 h2; rw [this] at hb'; cases hb' }
  · obtain ⟨g1, g2, g3⟩ := Chain.bounds hch r hr
    exact hf id' (by omega) (by omega)

theorem steps_region {c : Code} {Q : Act → World → Prop} {a : Act} {w : World} (h : c.wp P (fun e a' w' => e = .normal ∧ Q a' w') a w) (b : Frame) (k : List Item) (cs : List Frame) : ∃ a' w', Q a' w' ∧ Steps P (lone (b.at a (.code c :: k)) cs w) (lone (b.at a' k) cs w') := by
  obtain ⟨e, a', w', ⟨rfl, hq⟩, harr⟩ := h b k cs
  exact ⟨a', w', hq, harr⟩
/-- A frame, to its end. -/
theorem runItems_ok (hε : ∀ i V, ε i = some V → one V = true) (hN : NoCount P) (hmix : P.follows .mixedOrders = true) {call : CallF} (hc : CallsOk P ε base call) {nt : Nat} : ∀ (f : Nat) (todo : List Item) (s s' : St) (ρ : Rho) (a : Act) (w : World), runItems P call nt f todo s = .ok s' →
    TmR ρ ε s.tmps a.tmps → a.tmps.size = nt → Mod P ρ ε base w (tget s.heap) → Fresh ρ s.next s'.next → base.n ≤ w.heap.size → ∀ (b : Frame) (cs : List Frame),
    ∃ a' w' todo', Steps P (lone (b.at a todo) cs w) (lone { b.at a' todo' with mode := .returning } cs w') ∧ After P ε base nt ρ w s s' a a' w'
  | 0, _, _, _, _, _, _, h, _, _, _, _, _, _, _ => by rw [runItems_zero] at h; cases h
  | f + 1, todo, s, s', ρ, a, w, h, ht, hs, hm, hf, hb, b, cs => by
    rw [runItems_succ] at h
    unfold itemStep at h
    have ih := @runItems_ok hε hN hmix call hc nt f
    have stay : ∀ {todo₁ : List Item}, step P (lone (b.at a todo) cs w) = .next (lone (b.at a todo₁) cs w) → runItems P call nt f todo₁ s = .ok s' → ∃ a' w' todo', Steps P (lone (b.at a todo) cs w) (lone { b.at a' todo' with mode := .returning } cs w') ∧ After P ε base nt ρ w s s' a a' w' := by
      intro todo₁ hst hr
      obtain ⟨a', w', todo', h1, h2⟩ := ih todo₁ s s' ρ a w hr ht hs hm hf hb b cs
      exact ⟨a', w', todo', Steps.head hst h1, h2⟩
    have region : ∀ {c : Code} {k : List Item} {s₁ : St}, todo = .code c :: k → c.wp P (fun e a' w' => e = .normal ∧ After P ε base nt ρ w s s₁ a a' w') a w → runItems P call nt f k s₁ = .ok s' → ∃ a' w' todo', Steps P (lone (b.at a todo) cs w) (lone { b.at a' todo' with mode := .returning } cs w') ∧ After P ε base nt ρ w s s' a a' w' := by
      intro c k s₁ hto hwp hr
      obtain ⟨a₁, w₁, ⟨ρ₁, ws₁, q1, q2, q3, q4, q5⟩, hst⟩ := steps_region hwp b k cs
      obtain ⟨a', w', todo', h1, h2⟩ := ih k s₁ s' ρ₁ a₁ w₁ hr q3 q4 q2.mod (hf.step q2) (q2.hb hb) b cs
      refine ⟨a', w', todo', ?_, After.trans hm q1 q2 q5 h2⟩
      rw [hto]
      exact hst.trans h1
    split at h
    · simp only [Except.ok.injEq] at h
      subst h
      exact ⟨a, w, [], .one step_end, ρ, [], rfl, Step.refl hm, ht, hs, rfl⟩
    · rename_i c k
      split at h
      · simp only [Except.ok.injEq] at h
        subst h
        exact ⟨a, w, _, .one step_ret, ρ, [], rfl, Step.refl hm, ht, hs, rfl⟩
      · exact stay step_skip h
      · exact stay step_label h
      · exact stay step_seq h
      · rename_i x y z
        split at h
        · rename_i hx
          have hbv := Rl_bool.1 (evalA_ok ht hx)
          exact stay (step_cond (t := true) hbv) h
        · rename_i hx
          have hbv := Rl_bool.1 (evalA_ok ht hx)
          exact stay (step_cond (t := false) hbv) h
        · cases h
      · exact stay step_block h
      · exact stay step_loop h
      · exact stay step_scope h
      · split at h
        · rename_i k' hk'; exact stay (step_exit hk') h
        · cases h
      · split at h
        · rename_i k' hk'; exact stay (step_goto hk') h
        · cases h
      · rename_i id ops
        split at h
        · rename_i s₁ h₁
          have hmono := runItems_mono f h
          refine region rfl (wp_region ?_) h
          rw [List.range_eq_range']
          have : ops.size = ops.toList.length := by simp
          rw [this]
          exact runOps_ok hε hN hc ops.toList 0 s s₁ ρ a w (by simp) h₁ ht hs hm (fun i h1 h2 => hf i h1 (by omega)) hb fun a' w' hA => ⟨rfl, hA⟩
        · cases h
      · rename_i id ops
        split at h
        · rename_i s₁ h₁
          have hmono := runItems_mono f h
          refine region rfl (runDraw_ok hε hN hmix hc h₁ ht hs hm (fun i h1 h2 => hf i h1 (by omega)) hb fun a' w' hA => ⟨rfl, hA⟩) h
        · cases h
      · cases h
    · exact stay step_inBlock h
    · exact stay step_inScope h
    · exact stay step_inLoop h
    · cases h
end
end Go.Proofs.YtefnfbidphmgoaaDoor.Ex
