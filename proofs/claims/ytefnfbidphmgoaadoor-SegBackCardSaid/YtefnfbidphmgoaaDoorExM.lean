/- A reckoner for runs of fixed texts, thirteenth part: a region that draws its order, proved. Conditions: as in the tenth part; the program mixes orders. -/
import Derived.Test.YtefnfbidphmgoaaDoorExL
set_option linter.unusedVariables false
set_option linter.unusedSimpArgs false
namespace Go.Proofs.YtefnfbidphmgoaaDoor.Ex
open Go Go.RowKit

section
variable {P : Program} {ε : Nat → Option Value} {base : Base}

noncomputable def wsAt (R : List Rec) (E : Nat → Bool) : List Nat := R.flatMap fun r => bif E r.i then r.delta.map (·.1) else []
noncomputable def cnt (E : Nat → Bool) : Nat → Nat
  | 0 => 0
  | k + 1 => cnt E k + (bif E k then 0 else 1)
theorem cnt_zero {E : Nat → Bool} : ∀ {k : Nat}, cnt E k = 0 → ∀ j, j < k → E j = true
  | 0, _, j, h => by omega
  | k + 1, h, j, hj => by
    simp only [cnt] at h
    cases hE : E k
    · rw [hE] at h; simp at h
    · rw [hE] at h
      simp at h
      by_cases hjk : j = k
      · rw [hjk]; exact hE
      · exact cnt_zero h j (by omega)
theorem cnt_plus {E : Nat → Bool} {i : Nat} (hi : E i = false) : ∀ (k : Nat), cnt (plus E i) k = if i < k then cnt E k - 1 else cnt E k
  | 0 => by simp [cnt]
  | k + 1 => by
    simp only [cnt, cnt_plus hi k]
    by_cases hik : i = k
    · subst hik
      simp [plus, hi]
    · have : plus E i k = E k := by unfold plus; simp [Ne.symm hik]
      rw [this]
      have hpos : ∀ m, i < m → 1 ≤ cnt E m := by
        intro m
        induction m with
        | zero => intro h; omega
        | succ m ih =>
          intro h
          simp only [cnt]
          by_cases him : i = m
          · rw [← him, hi]; simp
          · have := ih (by omega); omega
      by_cases hlt : i < k
      · have := hpos k hlt
        rw [if_pos hlt, if_pos (by omega)]
        omega
      · rw [if_neg hlt, if_neg (by omega)]
theorem split_at {R : List Rec} {j : Nat} (h : j < R.length) : ∃ A r B, R = A ++ r :: B ∧ B.length = j := by
  have hlt : R.length - 1 - j < R.length := by omega
  refine ⟨R.take (R.length - 1 - j), R[R.length - 1 - j], R.drop (R.length - 1 - j + 1), ?_, by simp; omega⟩
  rw [List.getElem_cons_drop, List.take_append_drop]
theorem Chain.ws {call : CallF} {nt : Nat} {all : List Oper} {t0 : T Value} {h0 : T HO} {n0 : Nat} : ∀ {R : List Rec} {t : T Value} {h : T HO} {n : Nat} {ws : List Nat}, Chain P call nt all t0 h0 n0 R t h n ws → ∀ id, id ∈ ws ↔ id ∈ wsAt R (fun _ => true)
  | [], t, h, n, ws, hc, id => by obtain ⟨_, _, _, rfl⟩ := hc; simp [wsAt]
  | r :: rs, t, h, n, ws, hc, id => by
    obtain ⟨t1, h1, n1, ws1, o, hrs, _, _, _, _, _, _, _, _, _, _, hd⟩ := hc
    have ih := Chain.ws hrs id
    have hcons : wsAt (r :: rs) (fun _ => true) = r.delta.map (·.1) ++ wsAt rs (fun _ => true) := by simp [wsAt]
    rw [hcons, List.mem_append]
    rcases hd with ⟨_, _, hdel, _, _, rfl⟩ | ⟨_, q, _, _, hdel, _, _, _, rfl, _⟩
    · rw [ih, hdel]; simp
    · rw [List.mem_append, ih, hdel]; simp
/-- Numbers of objects: each record has its own. -/
theorem Chain.bounds {call : CallF} {nt : Nat} {all : List Oper} {t0 : T Value} {h0 : T HO} {n0 : Nat} : ∀ {R : List Rec} {t : T Value} {h : T HO} {n : Nat} {ws : List Nat}, Chain P call nt all t0 h0 n0 R t h n ws → ∀ r ∈ R, n0 ≤ r.lo ∧ r.lo ≤ r.hi ∧ r.hi ≤ n
  | [], _, _, _, _, _, r, hr => by simp at hr
  | x :: rs, t, h, n, ws, hc, r, hr => by
    obtain ⟨t1, h1, n1, ws1, o, hrs, _, _, _, _, _, _, _, _, hlo, hhi, hd⟩ := hc
    have hle : n1 ≤ n := by
      rcases hd with ⟨_, _, _, _, rfl, _⟩ | ⟨_, q, _, _, _, hle, rfl, _⟩
      · exact Nat.le_refl _
      · exact hle
    rcases List.mem_cons.1 hr with rfl | hr
    · exact ⟨by rw [hlo]; exact Chain.next hrs, by omega, by omega⟩
    · obtain ⟨g1, g2, g3⟩ := Chain.bounds hrs r hr
      exact ⟨g1, g2, by omega⟩
theorem Chain.apartN {call : CallF} {nt : Nat} {all : List Oper} {t0 : T Value} {h0 : T HO} {n0 : Nat} {A B : List Rec} {r : Rec} {t : T Value} {h : T HO} {n : Nat} {ws : List Nat} (hc : Chain P call nt all t0 h0 n0 (A ++ r :: B) t h n ws) :
    (∀ x ∈ B, x.hi ≤ r.lo) ∧ ∀ y ∈ A, r.hi ≤ y.lo := by
  have one : ∀ {A B : List Rec} {r : Rec} {t : T Value} {h : T HO} {n : Nat} {ws : List Nat}, Chain P call nt all t0 h0 n0 (A ++ r :: B) t h n ws → ∀ x ∈ B, x.hi ≤ r.lo := by
    intro A B r t h n ws hc x hx
    obtain ⟨t', h', n', ws', hc', _⟩ := Chain.split hc
    obtain ⟨t1, h1, n1, ws1, o, hrs, _, _, _, _, _, _, _, _, hlo, hhi, hd⟩ := hc'
    rw [hlo]
    exact (Chain.bounds hrs x hx).2.2
  refine ⟨one hc, fun y hy => ?_⟩
  obtain ⟨A1, A2, rfl⟩ := List.append_of_mem hy
  have hc2 : Chain P call nt all t0 h0 n0 (A1 ++ y :: (A2 ++ r :: B)) t h n ws := by simpa using hc
  exact one hc2 r (by simp)
theorem wsAt_plus {R A B : List Rec} {r : Rec} {E : Nat → Bool} (hR : R = A ++ r :: B) (hA : ∀ x, x ∈ A ∨ x ∈ B → plus E r.i x.i = E x.i) (hout : E r.i = false) (id : Nat) : id ∈ wsAt R (plus E r.i) ↔ id ∈ r.delta.map (·.1) ++ wsAt R E := by
  subst hR
  have congr : ∀ l : List Rec, (∀ x ∈ l, plus E r.i x.i = E x.i) → wsAt l (plus E r.i) = wsAt l E := by
    intro l
    induction l with
    | nil => intro _; rfl
    | cons x l ih => intro hl; simp only [wsAt, List.flatMap_cons, hl x (by simp)] at ih ⊢; rw [ih (fun y hy => hl y (by simp [hy]))]
  have e1 : wsAt (A ++ r :: B) (plus E r.i) = wsAt A E ++ (r.delta.map (·.1) ++ wsAt B E) := by
    simp only [wsAt, List.flatMap_append, List.flatMap_cons]
    have h1 := congr A fun x hx => hA x (.inl hx)
    have h2 := congr B fun x hx => hA x (.inr hx)
    simp only [wsAt] at h1 h2
    rw [h1, h2]
    simp [plus]
  have e2 : wsAt (A ++ r :: B) E = wsAt A E ++ wsAt B E := by
    simp only [wsAt, List.flatMap_append, List.flatMap_cons, hout, cond_false, List.nil_append]
  rw [e1, e2]
  simp only [List.mem_append]
  constructor
  · rintro (h | h | h)
    · exact .inr (.inl h)
    · exact .inl h
    · exact .inr (.inr h)
  · rintro (h | h | h)
    · exact .inr (.inl h)
    · exact .inl h
    · exact .inr (.inr h)
theorem find_map {ws : List Nat} {f : Nat → Option HO} {id : Nat} : (ws.map fun i => (i, f i)).find? (fun d => Nat.beq d.1 id) = if id ∈ ws then some (id, f id) else none := by
  induction ws with
  | nil => simp
  | cons x ws ih =>
    simp only [List.map_cons, List.find?_cons]
    by_cases hx : x = id
    · subst hx; simp [beq_yes]
    · rw [beq_no hx, ih]
      simp [Ne.symm hx]

structure Inv (P : Program) (ε : Nat → Option Value) (base : Base) (nt : Nat) (ops : Array Oper) (t0 : T Value) (h0 : T HO) (n0 nf : Nat) (R : List Rec) (ρ0 : Rho) (w0 : World) (a0 : Act) (listed : Array Bool) (ρ : Rho) (a : Act) (w : World) : Prop where
  sz : listed.size = ops.size
  closed : ∀ (j : Nat) (o : Oper), ops.toList[j]? = some o → listed.getD j false = true → ∀ e ∈ o.after.toList, Region.binds .any e = true → listed.getD e.on false = true
  tm : ∀ k v, tmpAt t0 R (fun j => listed.getD j false) k = some v → ∃ V, a.tmps[k]? = some V ∧ Rl ρ ε v V
  tsz : a.tmps.size = nt
  dfs : a.defers = a0.defers
  step : Step P ε base ρ0 w0 (tget h0) n0 ρ w (heapAt h0 R (fun j => listed.getD j false)) nf (wsAt R (fun j => listed.getD j false))
  fresh : ∀ r ∈ R, listed.getD r.i false = false → Fresh ρ r.lo r.hi
theorem listed_plus {listed : Array Bool} {i : Nat} (hi : i < listed.size) : (fun j => (listed.setIfInBounds i true).getD j false) = plus (fun j => listed.getD j false) i := by
  funext j
  unfold plus
  by_cases hj : j = i
  · subst hj; simp [hi]
  · rw [getD_set_ne false (Ne.symm hj)]; simp [hj]

theorem draw_any (hε : ∀ i V, ε i = some V → one V = true) (hN : NoCount P) {call : CallF} (hc : CallsOk P ε base call) {nt : Nat} {ops : Array Oper} {t0 : T Value} {h0 : T HO} {n0 nf : Nat} {R : List Rec} {t : T Value} {h : T HO} {ws : List Nat} (hch : Chain P call nt ops.toList t0 h0 n0 R t h nf ws) (hlen : R.length = ops.size)
    {ρ0 : Rho} {w0 : World} {a0 : Act} (hm0 : Mod P ρ0 ε base w0 (tget h0)) (hb : base.n ≤ w0.heap.size) {Q : Exit → Act → World → Prop}
    (hk : ∀ a' w' ρ', Step P ε base ρ0 w0 (tget h0) n0 ρ' w' (tget h) nf ws → TmR ρ' ε t a'.tmps → a'.tmps.size = nt → a'.defers = a0.defers → Q .normal a' w') :
    ∀ (fuel : Nat) (listed : Array Bool) (ρ : Rho) (a : Act) (w : World), Inv P ε base nt ops t0 h0 n0 nf R ρ0 w0 a0 listed ρ a w → cnt (fun j => listed.getD j false) ops.size ≤ fuel → wpAny P .any ops Q fuel listed a w := by
  -- all have come up
  have done : ∀ (listed : Array Bool) (ρ : Rho) (a : Act) (w : World), Inv P ε base nt ops t0 h0 n0 nf R ρ0 w0 a0 listed ρ a w → (∀ j, j < ops.size → listed.getD j false = true) → Q .normal a w := by
    intro listed ρ a w I hall
    have hR : ∀ r ∈ R, listed.getD r.i false = true := fun r hr => hall r.i (by have := (Chain.index hch r hr).1; omega)
    have e1 : ∀ id, tget h id = heapAt h0 R (fun j => listed.getD j false) id := fun id => by
      rw [Chain.heap hch id]
      unfold heapAt
      rw [said_congr (E := fun _ => true) (F := fun j => listed.getD j false) (fun r hr _ => (hR r hr).symm)]
    have e2 : ∀ id, id ∈ ws ↔ id ∈ wsAt R (fun j => listed.getD j false) := fun id => by
      rw [Chain.ws hch id]
      have : ∀ l : List Rec, (∀ x ∈ l, listed.getD x.i false = true) → wsAt l (fun _ => true) = wsAt l (fun j => listed.getD j false) := by
        intro l
        induction l with
        | nil => intro _; rfl
        | cons x l ih => intro hl; simp only [wsAt, List.flatMap_cons, hl x (by simp)] at ih ⊢; rw [ih (fun y hy => hl y (by simp [hy]))]
      rw [this R hR]
    refine hk a w ρ (I.step.congr e1 e2) (fun k v hv => I.tm k v ?_) I.tsz I.dfs
    rw [Chain.tmp hch k] at hv
    rw [← hv]
    unfold tmpAt
    have : ∀ l : List Rec, (∀ x ∈ l, listed.getD x.i false = true) → l.find? (fun r => listed.getD r.i false && (r.dst == some k)) = l.find? (fun r => true && (r.dst == some k)) := by
      intro l
      induction l with
      | nil => intro _; rfl
      | cons x l ih => intro hl; simp only [List.find?_cons, hl x (by simp), ih (fun y hy => hl y (by simp [hy]))]
    rw [this R hR]
  -- one of those that may come up
  have one : ∀ (listed : Array Bool) (ρ : Rho) (a : Act) (w : World), Inv P ε base nt ops t0 h0 n0 nf R ρ0 w0 a0 listed ρ a w → ∀ i ∈ Region.ready .any ops listed, ∀ K : Act → World → Prop,
      (∀ ρ' a' w', Inv P ε base nt ops t0 h0 n0 nf R ρ0 w0 a0 (listed.setIfInBounds i true) ρ' a' w' → K a' w') → wpOp P ops Q i K a w := by
    intro listed ρ a w I i hi K hK
    obtain ⟨hun, o, ho, haft⟩ := mem_ready.1 hi
    have hisz : i < ops.size := (Array.getElem?_eq_some_iff.1 ho).1
    have hilt : i < listed.size := by rw [I.sz]; exact hisz
    have hun' : listed.getD i false = false := by
      rw [Array.getD_eq_getD_getElem?, Array.getElem?_eq_getElem hilt] at hun ⊢
      exact hun
    obtain ⟨A, r, B, hR, hB⟩ := split_at (R := R) (j := i) (by rw [hlen]; exact hisz)
    have hch' := hch
    rw [hR] at hch'
    obtain ⟨t', h', n', ws', hcr, hn'⟩ := Chain.split hch'
    obtain ⟨t1, h1, n1, ws1, o', hrs, ho', hri, hdst, hlooks, hdok, hmask, hfits, ht, hlo, hhi, hd⟩ := hcr
    have hri' : r.i = i := by rw [hri, hB]
    have hoo : o' = o := by
      rw [hB] at ho'
      have : ops.toList[i]? = some o := by simpa using ho
      rw [this] at ho'; cases ho'; rfl
    subst hoo
    have hready : ∀ o, ops.toList[r.i]? = some o → ∀ e ∈ o.after.toList, Region.binds .any e = true → listed.getD e.on false = true := fun o2 ho2 e he hbd => by
      rw [hri'] at ho2
      have h2 : ops[i]? = some o2 := by simpa using ho2
      rw [ho] at h2; cases h2
      exact haft e (by simpa using he) hbd
    have spot : Spot P call nt ops.toList t0 h0 n0 A B r t h nf ws (fun j => listed.getD j false) := ⟨hch', hri, I.closed, hready, by rw [hri']; exact hun'⟩
    have hplus := listed_plus hilt
    have hmem : r ∈ R := by rw [hR]; simp
    -- what its operands are
    have look : ∀ k v, k ∈ r.looks → tget t1 k = some v → ∃ V, a.tmps[k]? = some V ∧ Rl ρ ε v V := fun k v hkl hv => I.tm k v (by
      rw [hR, spot.tmp hkl, ← Chain.tmp hrs k]; exact hv)
    have ops_look : ∀ x ∈ o'.op.operands, ∀ k, x = .tmp k → k ∈ r.looks := fun x hx k hxk => by
      rw [hlooks]
      unfold looksOf
      subst hxk
      exact List.mem_append_left _ (List.mem_filterMap.2 ⟨.tmp k, by simpa using hx, rfl⟩)
    have hwant : ∀ b, wantedA ops.toList t1 o' = some b → Region.wanted o' (yielded ops a.tmps) = b := fun b hb' => wantedA_ok (fun j want og d v hg hj hdg hv => look d v (by
      rw [hlooks]
      unfold looksOf
      refine List.mem_append_right _ ?_
      have hj' : lget ops.toList j = some og := by rw [lget_eq]; simpa using hj
      rw [hg]
      simp only [hj', hdg]
      simp) hv) hb'
    -- what stands behind it
    have closed' : ∀ (j : Nat) (o2 : Oper), ops.toList[j]? = some o2 → (listed.setIfInBounds i true).getD j false = true → ∀ e ∈ o2.after.toList, Region.binds .any e = true → (listed.setIfInBounds i true).getD e.on false = true := by
      intro j o2 ho2 hj e he hbd
      have hpj := congrFun hplus j
      have hpe := congrFun hplus e.on
      rw [hpj] at hj
      rw [hpe]
      unfold plus at hj ⊢
      simp only [Bool.or_eq_true, decide_eq_true_eq] at hj ⊢
      rcases hj with rfl | hj
      · right
        exact hready o2 (by rw [hri']; exact ho2) e he hbd
      · right; exact I.closed j o2 ho2 hj e he hbd
    have fresh' : ∀ ρ' : Rho, (∀ id b, ρ' id = some b → ρ id = some b ∨ (r.lo ≤ id ∧ id < r.hi)) → ∀ x ∈ R, (listed.setIfInBounds i true).getD x.i false = false → Fresh ρ' x.lo x.hi := by
      intro ρ' hout x hx hxl id h1 h2
      have hpx := congrFun hplus x.i
      rw [hpx] at hxl
      unfold plus at hxl
      simp only [Bool.or_eq_false_iff, decide_eq_false_iff_not] at hxl
      cases hid : ρ' id with
      | none => rfl
      | some b =>
        rcases hout id b hid with h' | h'
        · have := I.fresh x hx hxl.2 id h1 h2; rw [h'] at this; cases this
        · rw [hR] at hx
          obtain ⟨n1', n2'⟩ := Chain.apartN hch'
          rcases List.mem_append.1 hx with hx | hx
          · have := n2' x hx; omega
          · rcases List.mem_cons.1 hx with rfl | hx
            · exact absurd hri' hxl.1
            · have := n1' x hx; omega
    have tm' : ∀ (ρ' : Rho) (V : Value), Sub ρ ρ' → Rl ρ' ε r.v V → ∀ k v, tmpAt t0 R (fun j => (listed.setIfInBounds i true).getD j false) k = some v → ∃ U, (a.put o'.dst V).tmps[k]? = some U ∧ Rl ρ' ε v U := by
      intro ρ' V hs hv k v hkv
      rw [hplus, hR] at hkv
      rw [← hri', spot.tmpPlus k] at hkv
      by_cases hd' : r.dst = some k
      · rw [if_pos hd'] at hkv
        cases hkv
        rw [hdst] at hd'
        refine ⟨V, ?_, hv⟩
        have hlt : k < nt := by rw [hd'] at hdok; simpa [dstOk, Nat.blt_eq] using hdok
        rw [hd']
        simp [Act.put, I.tsz, hlt]
      · rw [if_neg hd'] at hkv
        obtain ⟨U, hU, hRU⟩ := I.tm k v (by rw [hR]; exact hkv)
        refine ⟨U, ?_, hRU.sub hs⟩
        rw [hdst] at hd'
        cases hod : o'.dst with
        | none => exact hU
        | some d =>
          have hne : d ≠ k := fun e => hd' (by rw [hod, e])
          simp only [Act.put]
          rw [Array.getElem?_setIfInBounds_ne hne]
          exact hU
    have sz' : (listed.setIfInBounds i true).size = ops.size := by simpa using I.sz
    have tsz' : ∀ V, (a.put o'.dst V).tmps.size = nt := fun V => by cases o'.dst <;> simp [Act.put, I.tsz]
    have dfs' : ∀ V, (a.put o'.dst V).defers = a0.defers := fun V => by cases o'.dst <;> simp [Act.put, I.dfs]
    have bnd := Chain.bounds hch r hmem
    unfold wpOp
    simp only [ho]
    rcases hd with ⟨hw, hv, hdel, _⟩ | ⟨hw, q, hq, hv, hdel, hle, hnq, _, _, hin⟩
    · rw [hwant false hw]
      simp only [Bool.false_eq_true, if_false]
      refine hK ρ _ _ ⟨sz', closed', tm' ρ undef (sub_refl ρ) (by rw [hv]; exact Rl_undef), tsz' undef, dfs' undef, ?_, fresh' ρ (fun id b e => .inl e)⟩
      refine I.step.congr (fun id => ?_) (fun id => ?_)
      · rw [hplus, hR, ← hri', spot.heapPlus id, hdel]; rfl
      · rw [hplus, ← hri', wsAt_plus hR (fun x hx => spot.plus_other hx) spot.out id, hdel]; simp
    · rw [hwant true hw]
      simp only [if_true]
      left
      have hsub : ∀ id ob, tget r.hin id = some ob → heapAt h0 R (fun j => listed.getD j false) id = some ob := by rw [hR]; exact spot.heap hin
      have hmin : Mod P ρ ε base w (tget r.hin) := I.step.mod.mono hsub
      have hfr : Fresh ρ n1 q.next := by
        have := I.fresh r hmem (by rw [hri']; exact hun')
        rw [hlo, hhi, hnq] at this
        exact this
      refine stepA_ok hε hN hc hq (fun x hx v hv' => ?_) hmin hfr (Nat.le_trans hb I.step.size) fun V w' hg => ?_
      · cases x with
        | tmp k =>
          obtain ⟨V, h1', h2'⟩ := look k v (ops_look _ hx k rfl) hv'
          show Rl ρ ε v (a.tmps.getD k undef)
          rw [Array.getD_eq_getD_getElem?, h1']
          exact h2'
        | const c =>
          simp only [evalA] at hv'
          cases hcl : closed DC c <;> simp only [hcl, cond_true, cond_false] at hv'
          · cases hv'
          cases hv'
          exact Rl_closed hcl
        | global g => cases hv'
        | func f => cases hv'; exact Rl_func.2 ⟨[], [], rfl, trivial, trivial⟩
      · obtain ⟨ρ', hstep, hVr⟩ := hg
        have lifted := hstep.lift I.step.mod hsub (fun id => inferInstance)
        have more := I.step.more hm0 lifted (by rw [← hlo]; exact bnd.1) (by rw [← hnq, ← hhi]; exact bnd.2.2)
        refine hK ρ' _ _ ⟨sz', closed', tm' ρ' V hstep.ext (by rw [hv]; exact hVr), tsz' V, dfs' V, ?_, fresh' ρ' (fun id b e => by
          have := hstep.out id b e
          rw [hlo, hhi, hnq]; exact this)⟩
        refine more.congr (fun id => ?_) (fun id => ?_)
        · rw [hplus, hR, ← hri', spot.heapPlus id, hdel, find_map]
          by_cases hid : id ∈ q.ws
          · rw [if_pos hid, if_pos hid]
          · rw [if_neg hid, if_neg hid]
        · rw [hplus, ← hri', wsAt_plus hR (fun x hx => spot.plus_other hx) spot.out id, hdel]
          simp
  intro fuel
  induction fuel with
  | zero =>
    intro listed ρ a w I hcnt
    have hall := cnt_zero (Nat.le_zero.1 hcnt)
    refine ⟨?_, done listed ρ a w I hall⟩
    rw [List.eq_nil_iff_forall_not_mem]
    intro i hi
    obtain ⟨hun, o, ho, _⟩ := mem_ready.1 hi
    have hisz : i < ops.size := (Array.getElem?_eq_some_iff.1 ho).1
    have := hall i hisz
    have hilt : i < listed.size := by rw [I.sz]; exact hisz
    rw [Array.getD_eq_getD_getElem?, Array.getElem?_eq_getElem hilt] at hun this
    simp only [Option.getD_some] at hun this
    rw [hun] at this; cases this
  | succ fuel ih =>
    intro listed ρ a w I hcnt
    refine ⟨fun hnone => done listed ρ a w I fun j => ?_, fun i hi => one listed ρ a w I i hi _ fun ρ' a' w' I' => ih _ ρ' a' w' I' ?_⟩
    · induction j using Nat.strongRecOn with
      | _ j ihj =>
        intro hj
        cases hE : listed.getD j false
        · exfalso
          have hmem : j ∈ Region.ready .any ops listed := by
            obtain ⟨A, r, B, hR, hB⟩ := split_at (R := R) (j := j) (by rw [hlen]; exact hj)
            have hch' := hch
            rw [hR] at hch'
            obtain ⟨t', h', n', ws', hcr, hn'⟩ := Chain.split hch'
            obtain ⟨t1, h1, n1, ws1, o', hrs, ho', hri, hdst, hlooks, hdok, hmask, _⟩ := hcr
            rw [hB] at ho'
            refine mem_ready.2 ⟨?_, o', by simpa using ho', fun e he hbd => ?_⟩
            · have hilt : j < listed.size := by rw [I.sz]; exact hj
              rw [Array.getD_eq_getD_getElem?, Array.getElem?_eq_getElem hilt] at hE ⊢
              exact hE
            · obtain ⟨x, hx, hxi, _⟩ := (mask_ok hmask).2 e (by simpa using he) hbd
              have := (Chain.index hrs x hx).1
              rw [← hxi]
              exact ihj x.i (by omega) (by omega)
          rw [hnone] at hmem
          simp at hmem
        · rfl
    · obtain ⟨hun, o, ho, _⟩ := mem_ready.1 hi
      have hisz : i < ops.size := (Array.getElem?_eq_some_iff.1 ho).1
      have hilt : i < listed.size := by rw [I.sz]; exact hisz
      have hun' : listed.getD i false = false := by
        rw [Array.getD_eq_getD_getElem?, Array.getElem?_eq_getElem hilt] at hun ⊢
        exact hun
      rw [listed_plus hilt, cnt_plus (E := fun j => listed.getD j false) hun' ops.size, if_pos hisz]
      omega
end
end Go.Proofs.YtefnfbidphmgoaaDoor.Ex
