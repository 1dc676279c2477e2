/- A reckoner for runs of fixed texts, last part: whole calls. Conditions: what is handed in as it is (atoms) is of one cell each; no function with a text bears the name of the count of goroutines; the program mixes orders. -/
import Derived.Test.YtefnfbidphmgoaaDoorExN
set_option linter.unusedVariables false
set_option linter.unusedSimpArgs false
namespace Go.Proofs.YtefnfbidphmgoaaDoor.Ex
open Go Go.RowKit

section
variable {P : Program} {ε : Nat → Option Value} {base : Base} {ρ : Rho} {w : World}

theorem putArgs_get : ∀ (vs : List Value) (t : T Value) (i k : Nat), tget (putArgs t i vs) k = if i ≤ k ∧ k < i + vs.length then vs[k - i]? else tget t k
  | [], t, i, k => by simp [putArgs]; intro h1 h2; omega
  | v :: r, t, i, k => by
    simp only [putArgs, putArgs_get r, tget_tput, List.length_cons]
    by_cases h1 : k = i
    · subst h1
      rw [if_neg (by omega), if_pos rfl, if_pos (by omega)]
      simp
    · by_cases h2 : i ≤ k ∧ k < i + (r.length + 1)
      · rw [if_pos (by omega), if_pos h2]
        obtain ⟨j, rfl⟩ : ∃ j, k = i + (j + 1) := ⟨k - i - 1, by omega⟩
        rw [show i + (j + 1) - (i + 1) = j by omega, show i + (j + 1) - i = j + 1 by omega]
        simp
      · rw [if_neg (by omega), if_neg h1, if_neg h2]
noncomputable def resSem (A : Array Value) : ResultVar → Sem Value
  | .tmp t => pure (A.getD t undef)
  | .cell a t => do loadVar t (← asAddr (A.getD a undef))
theorem results_eq (fn : Func) (A : Array Value) : results fn A = (do let vs ← fn.results.mapM (resSem A); pure (if h : vs.size = 1 then vs[0] else .tuple vs)) := by
  have : (fun x => match x with | .tmp t => (pure (A.getD t undef) : Sem Value) | .cell a t => do loadVar t (← asAddr (A.getD a undef))) = resSem A := by
    funext x; cases x <;> rfl
  rw [← this]
  rfl
theorem res_one {tmps : T Value} {h : T HO} {A : Array Value} {r : ResultVar} {v : Value} (e : resA P tmps h r = some v) (ht : TmR ρ ε tmps A) (hm : Mod P ρ ε base w (tget h)) :
    ∃ V, (resSem A r).run P w = .ok V w ∧ Rl ρ ε v V := by
  cases r with
  | tmp t =>
    obtain ⟨V, h1, h2⟩ := ht t v e
    exact ⟨V, by simp [resSem, Array.getD_eq_getD_getElem?, h1], h2⟩
  | cell a t =>
    simp only [resA] at e
    split at e
    case h_2 => cases e
    rename_i u hu
    obtain ⟨U, h1, h2⟩ := ht a u hu
    have hU : A.getD a undef = U := by rw [Array.getD_eq_getD_getElem?, h1]; rfl
    obtain ⟨V, g1, g2⟩ := load_ok e h2 hm
    unfold loadA at e
    split at e
    case h_2 => cases e
    obtain ⟨b, hb, rfl⟩ := Rl_ptr.1 h2
    refine ⟨V, ?_, g2⟩
    simp only [resSem, hU, asAddr, Sem.run_bind, Sem.run_pure, Result.andThen_ok]
    simpa [Instr.loadAt, Instr.sureAddr] using g1
theorem res_list {tmps : T Value} {h : T HO} {A : Array Value} (ht : TmR ρ ε tmps A) (hm : Mod P ρ ε base w (tget h)) : ∀ {l : List ResultVar} {vs : List Value}, optL (resA P tmps h) l = some vs →
    ∃ VS, (l.mapM (m := Sem) (resSem A)).run P w = .ok VS w ∧ RlL ρ ε vs VS
  | [], vs, e => by simp [optL_nil, optL_cons] at e; subst e; exact ⟨[], rfl, trivial⟩
  | r :: l, vs, e => by
    simp only [optL_nil, optL_cons] at e
    split at e
    · cases e
    rename_i v hv
    split at e
    · cases e
    rename_i vs' hvs
    simp only [Option.some.injEq] at e
    subst e
    obtain ⟨V, h1, h2⟩ := res_one hv ht hm
    obtain ⟨VS, g1, g2⟩ := res_list ht hm hvs
    refine ⟨V :: VS, ?_, h2, g2⟩
    rw [List.mapM_cons]
    simp only [Sem.run_bind, h1, Result.andThen_ok, g1, Sem.run_pure]
theorem results_ok {fn : Func} {tmps : T Value} {h : T HO} {A : Array Value} {vs : List Value} (e : optL (resA P tmps h) fn.results.toList = some vs) (ht : TmR ρ ε tmps A) (hm : Mod P ρ ε base w (tget h)) :
    ∃ VS, (results fn A).run P w = .ok (if h : VS.toArray.size = 1 then VS.toArray[0] else .tuple VS.toArray) w ∧ RlL ρ ε vs VS := by
  obtain ⟨VS, h1, h2⟩ := res_list ht hm e
  refine ⟨VS, ?_, h2⟩
  rw [results_eq, Sem.run_bind, Array.mapM_eq_mapM_toList, Sem.run_map, h1]
  rfl
/-- What is known of calls is so. -/
def OrcOk (P : Program) (ε : Nat → Option Value) (tb : Orc) : Prop := ∀ x ∈ tb, match x with
  | (f, none, v) => closed DC v = true ∧ ∀ w, Calls P f #[] w fun e w' => e = .returned v ∧ Below w.heap.size w w'
  | (f, some (i, m), v) => closed DC v = true ∧ ∀ V, ε i = some V → ∀ w, Calls P f #[V, .int .i64 (m : Nat)] w fun e w' => e = .returned v ∧ Below w.heap.size w w'
theorem orcFind_ok : ∀ {tb : Orc} {f : Nat} {k : Option (Nat × Nat)} {v : Value}, orcFind tb f k = some v → (f, k, v) ∈ tb
  | [], _, _, _, h => by simp [orcFind] at h
  | (g, q, u) :: l, f, k, v, h => by
    simp only [orcFind] at h
    cases hc : (Nat.beq g f && orcKey q k) <;> simp only [hc, cond_true, cond_false] at h
    · exact List.mem_cons_of_mem _ (orcFind_ok h)
    · cases h
      simp only [Bool.and_eq_true] at hc
      have h1 := Nat.eq_of_beq_eq_true hc.1
      have h2 : q = k := by
        have := hc.2
        unfold orcKey at this
        split at this
        · rfl
        · simp only [Bool.and_eq_true] at this
          rw [Nat.eq_of_beq_eq_true this.1, Nat.eq_of_beq_eq_true this.2]
        · cases this
      subst h1 h2
      exact List.mem_cons_self
theorem Step.below {h : T HO} {n : Nat} {w' : World} (HB : base.n ≤ w.heap.size) (hm : Mod P ρ ε base w (tget h)) (hb : Below w.heap.size w w') : Step P ε base ρ w (tget h) n ρ w' (tget h) n [] where
  ext := sub_refl ρ
  out := fun _ _ h => .inl h
  fr := fun _ h1 h2 => by omega
  nle := Nat.le_refl _
  mod := ⟨fun id o e => by
    obtain ⟨b, h1, h2, h3, h4⟩ := hm.obj id o e
    exact ⟨b, h1, Nat.lt_of_lt_of_le h2 hb.size, by rw [hb.block b.1 h2]; exact h3, h4⟩, hm.inj, fun b hlt => by rw [hb.block b (Nat.lt_of_lt_of_le hlt HB)]; exact hm.old b hlt⟩
  keep := fun _ _ => rfl
  frame := fun b hlt _ => hb.block b hlt
  wsn := fun _ h => by simp at h
  wro := fun _ _ h => by simp at h
  size := hb.size
  os := hb.os
  tape := hb.tape
  output := hb.output
  fresh := fun _ _ h1 h2 => by omega
theorem Rl_chan {i : Nat} {V : Value} (h : Rl ρ ε (.chan (some i)) V) : ε i = some V := by
  obtain ⟨d, h⟩ := h
  cases d with
  | zero => simp [conc] at h
  | succ d => simpa [conc] using h
theorem runCallO_ok (hε : ∀ i V, ε i = some V → one V = true) (hN : NoCount P) (hmix : P.follows .mixedOrders = true) {tb : Orc} (ho : OrcOk P ε tb) : ∀ d, CallsOk P ε base (runCallO P tb d)
  | 0 => ⟨fun g t h n r e => by simp [runCallO] at e, fun f args h n r _ e => by simp [runCallO] at e⟩
  | d + 1 => ⟨(fun g t h n r e => by
    have hbig : Nat.ble 1000000000 (1000000000 + g) = true := Nat.ble_eq_true_of_le (by omega)
    simp only [runCallO, hbig, cond_true] at e
    cases e), fun f args h n r hflt e ρ w ARGS hargs hm hf hb cs => by
    have ihc := runCallO_ok hε hN hmix ho d
    simp only [runCallO] at e
    cases hbig : Nat.ble 1000000000 f <;> simp only [hbig, cond_true, cond_false] at e
    case true => cases e
    split at e
    · rename_i v hv
      simp only [Except.ok.injEq] at e
      subst e
      unfold orcA at hv
      split at hv
      · cases hv
      split at hv
      · cases ARGS with
        | cons _ _ => exact hargs.elim
        | nil =>
          obtain ⟨hcl, hcall⟩ := ho _ (orcFind_ok hv)
          exact (hcall w).mono (fun e w' ⟨he, hbl⟩ => ⟨v, he, ρ, Step.below hb hm hbl, Rl_closed hcl⟩) cs
      · match ARGS, hargs with
        | [V, M], ⟨hV, hM, _⟩ =>
          obtain ⟨hcl, hcall⟩ := ho _ (orcFind_ok hv)
          have := Rl_int.1 hM
          subst this
          exact (hcall V (Rl_chan hV) w).mono (fun e w' ⟨he, hbl⟩ => ⟨v, he, ρ, Step.below hb hm hbl, Rl_closed hcl⟩) cs
      · cases hv
    split at e
    · cases e
    rename_i fn hfn
    split at e
    · cases e
    rename_i c hbody
    cases hle : Nat.ble args.length fn.ntmps <;> simp only [hle, cond_true, cond_false] at e
    · cases e
    have hle := Nat.le_of_ble_eq_true hle
    split at e
    · cases e
    rename_i s hs
    have hlen := hargs.length
    let b : Frame := { (default : Frame) with fn := f, kind := .normal }
    let a : Act := { tmps := ARGS.toArray ++ Array.replicate (fn.ntmps - ARGS.toArray.size) undef, defers := [] }
    have henter : Frame.enter P f ARGS.toArray .normal = b.at a [.code c] := by simp [Frame.enter, Frame.at, hfn, hbody, b, a]
    have htm : TmR ρ ε (putArgs [] 0 args) a.tmps := fun t v hv => by
      rw [putArgs_get] at hv
      split at hv
      · rename_i hlt
        rw [Nat.sub_zero] at hv
        obtain ⟨V, h1, h2⟩ := hargs.get t v hv
        refine ⟨V, ?_, h2⟩
        have hlt2 : t < ARGS.length := (List.getElem?_eq_some_iff.1 h1).1
        simp only [a]
        rw [Array.getElem?_append_left (by simpa using hlt2)]
        simpa using h1
      · rw [tget_nil] at hv; cases hv
    have hsz : a.tmps.size = fn.ntmps := by simp [a]; omega
    have hfin : s.next = r.next := by
      split at e
      · cases e
      · cases e; rfl
      · cases e; rfl
    obtain ⟨a', w', todo', hsteps, ρ', ws, hws, hstep, htm', hsz', hdf⟩ := runItems_ok hε hN hmix ihc fuelA [.code c] ⟨putArgs [] 0 args, h, n, []⟩ s ρ a w hs htm hsz hm (by rw [hfin]; exact hf) hb b cs
    simp only [List.append_nil] at hws
    have out : ∀ vs v, optL (resA P s.tmps s.heap) fn.results.toList = some vs → ((vs = [v]) ∨ (vs.length ≠ 1 ∧ v = .tuple vs.toArray)) → ∃ V, (results fn a'.tmps).run P w' = .ok V w' ∧ Rl ρ' ε v V := by
      intro vs v hvs hv
      obtain ⟨VS, h1, h2⟩ := results_ok hvs htm' hstep.mod
      have hl := h2.length
      rcases hv with rfl | ⟨hne, rfl⟩
      · cases VS with
        | nil => exact h2.elim
        | cons V VS => cases VS with
          | nil => exact ⟨V, by rw [h1]; rfl, h2.1⟩
          | cons _ _ => exact h2.2.elim
      · refine ⟨.tuple VS.toArray, ?_, Rl_tuple.2 ⟨VS, rfl, h2⟩⟩
        rw [h1, dif_neg (by simp; omega)]
    have fin : ∀ v, r = ⟨v, s.heap, s.next, s.ws⟩ → (∃ V, (results fn a'.tmps).run P w' = .ok V w' ∧ Rl ρ' ε v V) → ∃ e w' fr, (∃ V, e = .returned V ∧ Good P ε base ρ w h n r V w') ∧ Comes P (lone (Frame.enter P f ARGS.toArray .normal) cs w) (lone fr cs w') e ∧ fr.fn = f ∧ fr.leaving P w' e := by
      intro v hr ⟨V, h1, h2⟩
      refine ⟨.returned V, w', { b.at a' todo' with mode := .returning }, ⟨V, rfl, ρ', ?_, by rw [hr]; exact h2⟩, ?_, rfl, rfl, ?_, rfl, fn, hfn, h1⟩
      · rw [hr]
        simp only [hws]
        exact hstep
      · rw [henter]; exact hsteps
      · show a'.defers = []
        rw [hdf]
    split at e
    · cases e
    · rename_i v hvs
      simp only [Except.ok.injEq] at e
      exact fin v e.symm (out _ v hvs (.inl rfl))
    · rename_i vs hne hvs
      simp only [Except.ok.injEq] at e
      refine fin (.tuple vs.toArray) e.symm (out vs _ hvs (.inr ⟨fun h1 => ?_, rfl⟩))
      obtain ⟨x, hx⟩ := List.length_eq_one_iff.1 h1
      first | exact hne x hx | exact hne x (by rw [hvs, hx]) | (subst hx; exact hne x rfl)⟩
theorem runCallO_lt {tb : Orc} {d f : Nat} {args : List Value} {h : T HO} {n : Nat} {r : Out} (e : runCallO P tb d f args h n = .ok r) : f < 1000000000 := by
  cases d with
  | zero => simp [runCallO] at e
  | succ d =>
    simp only [runCallO] at e
    cases hbig : Nat.ble 1000000000 f with
    | true => simp only [hbig, cond_true] at e; cases e
    | false =>
      refine Nat.lt_of_not_le fun h => ?_
      rw [Nat.ble_eq_true_of_le h] at hbig
      cases hbig

theorem runCall_ok (hε : ∀ i V, ε i = some V → one V = true) (hN : NoCount P) (hmix : P.follows .mixedOrders = true) (d : Nat) : CallsOk P ε base (runCall P d) :=
  runCallO_ok hε hN hmix (fun _ h => by cases h) d

/-! ### What is asked of a seat -/

noncomputable def noCountB (P : Program) : Bool := P.funcs.toList.all fun fn => !(fn.body.isSome && fn.name == "runtime.NumGoroutine")
theorem noCount_of (h : noCountB P = true) : NoCount P := fun f fn hf hb => by
  have hmem : fn ∈ P.funcs.toList := by
    rw [← Array.getElem?_toList] at hf
    exact List.mem_of_getElem? hf
  have := List.all_eq_true.1 h fn hmem
  rw [hb] at this
  simpa using this
/-- A call that returns true. -/
noncomputable def yes : Except String Out → Bool
  | .ok ⟨.bool true, _, _, _⟩ => true
  | _ => false
/-- A call whose value is closed. -/
noncomputable def gives (v : Value) : Except String Out → Bool
  | .ok r => bif closed DC r.v then Instr.sameBits 10 r.v v else false
  | _ => false
theorem below_of {ρ' : Rho} {w' : World} {r : Out} (h : Step P ε (baseOf w) (fun _ => none) w (tget []) 0 ρ' w' (tget r.heap) r.next r.ws) : Below w.heap.size w w' where
  os := h.os
  tape := h.tape
  output := h.output
  size := h.size
  block := fun k hk => h.frame k hk fun id o c _ ho => by rw [tget_nil] at ho; cases ho
theorem mod_nil : Mod P (fun _ => none) ε (baseOf w) w (tget []) := ⟨(fun id o h => by rw [tget_nil] at h; cases h), (fun id id' o o' b b' h => by rw [tget_nil] at h; cases h), fun _ _ => rfl⟩
/-- **A call from nothing**, with what is known of others. -/
theorem run_trueO (hN : noCountB P = true) (hmix : P.follows .mixedOrders = true) {tb : Orc} (ho : OrcOk P ε tb) {d : Nat} {f : FuncId} {args : List Value} (h : yes (runCallO P tb d f args [] 0) = true) (hε : ∀ i V, ε i = some V → one V = true) {ARGS : List Value} (ha : RlL (fun _ => none) ε args ARGS) (w : World) :
    Calls P f ARGS.toArray w fun e w' => e = .returned (.bool true) ∧ Below w.heap.size w w' := by
  cases hr : runCallO P tb d f args [] 0 with
  | error s => rw [hr] at h; simp [yes] at h
  | ok r =>
    rw [hr] at h
    refine ((runCallO_ok (base := baseOf w) hε (noCount_of hN) hmix ho d).2 f args [] 0 r (runCallO_lt hr) hr (fun _ => none) w ARGS ha mod_nil (fun _ _ _ => rfl) (Nat.le_refl _)).mono ?_
    rintro e w' ⟨V, rfl, ρ', hs, hv⟩
    refine ⟨?_, below_of hs⟩
    have : r.v = .bool true := by
      unfold yes at h
      split at h
      · rename_i heq; cases heq; rfl
      · cases h
    rw [this] at hv
    rw [Rl_bool.1 hv]
/-- **A call from nothing**: what the reckoner finds true is true, on every tape and in every world. -/
theorem run_true (hN : noCountB P = true) (hmix : P.follows .mixedOrders = true) {d : Nat} {f : FuncId} {args : List Value} (h : yes (runCall P d f args [] 0) = true) (hε : ∀ i V, ε i = some V → one V = true) {ARGS : List Value} (ha : RlL (fun _ => none) ε args ARGS) (w : World) :
    Calls P f ARGS.toArray w fun e w' => e = .returned (.bool true) ∧ Below w.heap.size w w' :=
  run_trueO hN hmix (fun _ h => by cases h) h hε ha w
theorem Rl_atom {i : Nat} {V : Value} (h : ε i = some V) : Rl (fun _ => none) ε (.chan (some i)) V := ⟨1, by simp [conc, h]⟩
/-- The same, the atoms given as a list. -/
theorem run_atoms (hN : noCountB P = true) (hmix : P.follows .mixedOrders = true) (d : Nat) {f : FuncId} {args : List Value} (h : yes (runCall P d f args [] 0) = true) (L : List Value) (hL : L.all one = true) {ARGS : List Value} (ha : RlL (fun _ => none) (fun i => L[i]?) args ARGS) (w : World) :
    Calls P f ARGS.toArray w fun e w' => e = .returned (.bool true) ∧ Below w.heap.size w w' :=
  run_true hN hmix h (fun i V hi => List.all_eq_true.1 hL V (List.mem_of_getElem? hi)) ha w
/-! ### Arguments of more than one cell -/

theorem one_of_cell {b : Nat} {t : TypeId} {v : Value} (h : Cell.okWide P w .any b t v) : one v = true := by
  cases v with
  | agg cs => unfold Cell.okWide Cell.ok at h; split at h <;> simp_all <;> (split at h <;> simp_all)
  | tuple cs => unfold Cell.okWide Cell.ok at h; split at h <;> simp_all <;> (split at h <;> simp_all)
  | _ => rfl
theorem open_one {b : Nat} {t : TypeId} {v : Value} (h : Value.okWide P w .any b t v) (hs : isAggA P t = some false) : one v = true := by
  unfold isAggA at hs
  unfold Value.okWide at h
  split at hs
  · cases hs
  · cases hs
  · rename_i d h1 h2 hd
    rw [hd] at h
    split at h
    · rename_i fs heq; cases heq; exact absurd rfl (h1 fs)
    · rename_i n e heq; cases heq; exact absurd rfl (h2 n e)
    · exact one_of_cell h
  · cases hs
theorem open_cells {b n : Nat} {t : TypeId} {v : Value} (h : Value.okWide P w .any b t v) (hs : isAggA P t = some true) (hn : P.cellsOf t = n) : ∃ cs : List Value, v = .agg cs.toArray ∧ cs.length = n ∧ cs.all one = true := by
  have key : ∃ cs, v = .agg cs ∧ cs.size = P.cellsOf t ∧ Row.okWide P w .any b t cs := by
    unfold isAggA at hs
    unfold Value.okWide at h
    split at hs
    · rename_i fs hd; rw [hd] at h; exact h
    · rename_i k e hd; rw [hd] at h; exact h
    · cases hs
    · cases hs
  obtain ⟨cs, rfl, h1, ts, _, _, h2⟩ := key
  refine ⟨cs.toList, rfl, by rw [← hn, ← h1]; simp, List.all_eq_true.2 fun x hx => ?_⟩
  obtain ⟨i, hi⟩ := List.getElem?_of_mem hx
  obtain ⟨u, _, hc⟩ := h2 i x (by simpa using hi)
  exact one_of_cell hc
noncomputable def atoms (k n : Nat) : List Value := (List.range' k n).map fun i => .chan (some i)
theorem RlL_atoms : ∀ (cs : List Value) (k : Nat), (∀ j v, cs[j]? = some v → ε (k + j) = some v) → RlL (fun _ => none) ε (atoms k cs.length) cs
  | [], _, _ => trivial
  | c :: cs, k, h => by
    refine ⟨Rl_atom (by simpa using h 0 c rfl), ?_⟩
    exact RlL_atoms cs (k + 1) fun j v hj => by
      have := h (j + 1) v (by simpa using hj)
      rwa [show k + (j + 1) = k + 1 + j by omega] at this
theorem Rl_cells {pre cs post : List Value} {k n : Nat} (hk : pre.length = k) (hn : cs.length = n) : Rl (fun _ => none) (fun i => (pre ++ (cs ++ post))[i]?) (.agg (atoms k n).toArray) (.agg cs.toArray) := by
  subst hk hn
  refine Rl_agg.2 ⟨cs, rfl, ?_⟩
  simp only [List.toList_toArray]
  refine RlL_atoms cs pre.length fun j v hj => ?_
  have hlt : j < cs.length := (List.getElem?_eq_some_iff.1 hj).1
  rw [List.getElem?_append_right (by omega), show pre.length + j - pre.length = j by omega, List.getElem?_append_left hlt]
  exact hj
theorem Rl_mid {pre post : List Value} {x : Value} {k : Nat} (hk : pre.length = k) : Rl (fun _ => none) (fun i => (pre ++ (x :: post))[i]?) (.chan (some k)) x := by
  subst hk
  exact Rl_atom (by rw [List.getElem?_append_right (Nat.le_refl _), Nat.sub_self]; rfl)
/-- All numbers below one. -/
noncomputable def allBelow (n : Nat) (p : Nat → Bool) : Bool := (List.range' 0 n).all p
theorem allBelow_get {n : Nat} {p : Nat → Bool} (h : allBelow n p = true) {r : Nat} (hr : r < n) : p r = true :=
  List.all_eq_true.1 h r (List.mem_range'_1.2 ⟨Nat.zero_le _, by omega⟩)
theorem run_atomsO (hN : noCountB P = true) (hmix : P.follows .mixedOrders = true) (d : Nat) {tb : Orc} {f : FuncId} {args : List Value} (h : yes (runCallO P tb d f args [] 0) = true) (L : List Value) (ho : OrcOk P (fun i => L[i]?) tb) (hL : L.all one = true) {ARGS : List Value} (ha : RlL (fun _ => none) (fun i => L[i]?) args ARGS) (w : World) :
    Calls P f ARGS.toArray w fun e w' => e = .returned (.bool true) ∧ Below w.heap.size w w' :=
  run_trueO hN hmix ho h (fun i V hi => List.all_eq_true.1 hL V (List.mem_of_getElem? hi)) ha w
/-- A cell of a struct that is an integer. -/
theorem int_at {b : Nat} {t u : TypeId} {k : IntKind} {cs : List Value} {j : Nat} (h : Value.okWide P w .any b t (.agg cs.toArray)) (hs : isAggA P t = some true) (hu : (P.cellTypes P.depth t).bind (fun ts => ts[j % ts.length]?) = some u) (hk : P.underlying u = some (.int k)) (hj : j < cs.length) : ∃ x, cs[j]? = some (.int k x) ∧ k.has x := by
  have key : Row.okWide P w .any b t cs.toArray := by
    unfold isAggA at hs
    unfold Value.okWide at h
    split at hs
    · rename_i fs hd; rw [hd] at h; obtain ⟨cs', h1, _, h2⟩ := h; cases h1; exact h2
    · rename_i k e hd; rw [hd] at h; obtain ⟨cs', h1, _, h2⟩ := h; cases h1; exact h2
    · cases hs
    · cases hs
  obtain ⟨ts, h1, _, h2⟩ := key
  rw [h1] at hu
  obtain ⟨u', g1, g2⟩ := h2 j cs[j] (by simp [hj])
  simp only [Option.bind_some] at hu
  rw [hu] at g1
  cases g1
  have hc : ∃ x, cs[j] = .int k x ∧ k.has x := by
    unfold Cell.okWide Cell.ok at g2
    rw [hk] at g2
    generalize cs[j] = v at g2
    cases v <;> simp_all
  obtain ⟨x, hx, hh⟩ := hc
  exact ⟨x, by rw [List.getElem?_eq_getElem hj, hx], hh⟩
end
end Go.Proofs.YtefnfbidphmgoaaDoor.Ex
