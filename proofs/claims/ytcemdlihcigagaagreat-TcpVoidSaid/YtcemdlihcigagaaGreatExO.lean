/- A reckoner for runs of fixed texts, last part: whole calls. Conditions: what is handed in as it is (atoms) is of one cell each; no function with a text bears the name of the count of goroutines; the program mixes orders. -/
import Derived.Test.YtcemdlihcigagaaGreatExN
set_option linter.unusedVariables false
set_option linter.unusedSimpArgs false
namespace Go.Proofs.YtcemdlihcigagaaGreat.Ex
open Go Go.RowKit

section
variable {P : Program} {ε : Nat → Option Value} {base : Nat} {ρ : Rho} {w : World}

theorem putArgs_get : ∀ (vs : List Value) (t : T Value) (i k : Nat), tget (putArgs t i vs) k = if i ≤ k ∧ k < i + vs.length then vs[k - i]? else tget t k
  | [], t, i, k => by simp [putArgs]; intro h1 h2; omega
  | v :: r, t, i, k => by
    simp only [putArgs, putArgs_get r, tget_tput, List.length_cons]
    by_cases h1 : k = i
    · subst h1
      rw [if_neg (by omega), if_pos rfl, if_pos (by omega)]
      simp
    · by_cases h2 : i ≤ k ∧ k < i + (r.length + 1)
      · rw [if_pos (by omega), if_pos h2]
        obtain ⟨j, rfl⟩ : ∃ j, k = i + (j + 1) := ⟨k - i - 1, by omega⟩
        rw [show i + (j + 1) - (i + 1) = j by omega, show i + (j + 1) - i = j + 1 by omega]
        simp
      · rw [if_neg (by omega), if_neg h1, if_neg h2]
noncomputable def resSem (A : Array Value) : ResultVar → Sem Value
  | .tmp t => pure (A.getD t undef)
  | .cell a t => do loadVar t (← asAddr (A.getD a undef))
theorem results_eq (fn : Func) (A : Array Value) : results fn A = (do let vs ← fn.results.mapM (resSem A); pure (if h : vs.size = 1 then vs[0] else .tuple vs)) := by
  have : (fun x => match x with | .tmp t => (pure (A.getD t undef) : Sem Value) | .cell a t => do loadVar t (← asAddr (A.getD a undef))) = resSem A := by
    funext x; cases x <;> rfl
  rw [← this]
  rfl
theorem res_one {tmps : T Value} {h : T HO} {A : Array Value} {r : ResultVar} {v : Value} (e : resA P tmps h r = some v) (ht : TmR ρ ε tmps A) (hm : Mod P ρ ε base w (tget h)) :
    ∃ V, (resSem A r).run P w = .ok V w ∧ Rl ρ ε v V := by
  cases r with
  | tmp t =>
    obtain ⟨V, h1, h2⟩ := ht t v e
    exact ⟨V, by simp [resSem, Array.getD_eq_getD_getElem?, h1], h2⟩
  | cell a t =>
    simp only [resA] at e
    split at e
    case h_2 => cases e
    rename_i u hu
    obtain ⟨U, h1, h2⟩ := ht a u hu
    have hU : A.getD a undef = U := by rw [Array.getD_eq_getD_getElem?, h1]; rfl
    obtain ⟨V, g1, g2⟩ := load_ok e h2 hm
    unfold loadA at e
    split at e
    case h_2 => cases e
    obtain ⟨b, hb, rfl⟩ := Rl_ptr.1 h2
    refine ⟨V, ?_, g2⟩
    simp only [resSem, hU, asAddr, Sem.run_bind, Sem.run_pure, Result.andThen_ok]
    simpa [Instr.loadAt, Instr.sureAddr] using g1
theorem res_list {tmps : T Value} {h : T HO} {A : Array Value} (ht : TmR ρ ε tmps A) (hm : Mod P ρ ε base w (tget h)) : ∀ {l : List ResultVar} {vs : List Value}, optL (resA P tmps h) l = some vs →
    ∃ VS, (l.mapM (m := Sem) (resSem A)).run P w = .ok VS w ∧ RlL ρ ε vs VS
  | [], vs, e => by simp [optL_nil, optL_cons] at e; subst e; exact ⟨[], rfl, trivial⟩
  | r :: l, vs, e => by
    simp only [optL_nil, optL_cons] at e
    split at e
    · cases e
    rename_i v hv
    split at e
    · cases e
    rename_i vs' hvs
    simp only [Option.some.injEq] at e
    subst e
    obtain ⟨V, h1, h2⟩ := res_one hv ht hm
    obtain ⟨VS, g1, g2⟩ := res_list ht hm hvs
    refine ⟨V :: VS, ?_, h2, g2⟩
    rw [List.mapM_cons]
    simp only [Sem.run_bind, h1, Result.andThen_ok, g1, Sem.run_pure]
theorem results_ok {fn : Func} {tmps : T Value} {h : T HO} {A : Array Value} {vs : List Value} (e : optL (resA P tmps h) fn.results.toList = some vs) (ht : TmR ρ ε tmps A) (hm : Mod P ρ ε base w (tget h)) :
    ∃ VS, (results fn A).run P w = .ok (if h : VS.toArray.size = 1 then VS.toArray[0] else .tuple VS.toArray) w ∧ RlL ρ ε vs VS := by
  obtain ⟨VS, h1, h2⟩ := res_list ht hm e
  refine ⟨VS, ?_, h2⟩
  rw [results_eq, Sem.run_bind, Array.mapM_eq_mapM_toList, Sem.run_map, h1]
  rfl
theorem runCall_ok (hε : ∀ i V, ε i = some V → one V = true) (hN : NoCount P) (hmix : P.follows .mixedOrders = true) : ∀ d, CallsOk P ε base (runCall P d)
  | 0 => fun f args h n r e => by simp [runCall] at e
  | d + 1 => fun f args h n r e ρ w ARGS hargs hm hf hb cs => by
    have ihc := runCall_ok hε hN hmix d
    simp only [runCall] at e
    split at e
    · cases e
    rename_i fn hfn
    split at e
    · cases e
    rename_i c hbody
    cases hle : Nat.ble args.length fn.ntmps <;> simp only [hle, cond_true, cond_false] at e
    · cases e
    have hle := Nat.le_of_ble_eq_true hle
    split at e
    · cases e
    rename_i s hs
    have hlen := hargs.length
    let b : Frame := { (default : Frame) with fn := f, kind := .normal }
    let a : Act := { tmps := ARGS.toArray ++ Array.replicate (fn.ntmps - ARGS.toArray.size) undef, defers := [] }
    have henter : Frame.enter P f ARGS.toArray .normal = b.at a [.code c] := by simp [Frame.enter, Frame.at, hfn, hbody, b, a]
    have htm : TmR ρ ε (putArgs [] 0 args) a.tmps := fun t v hv => by
      rw [putArgs_get] at hv
      split at hv
      · rename_i hlt
        rw [Nat.sub_zero] at hv
        obtain ⟨V, h1, h2⟩ := hargs.get t v hv
        refine ⟨V, ?_, h2⟩
        have hlt2 : t < ARGS.length := (List.getElem?_eq_some_iff.1 h1).1
        simp only [a]
        rw [Array.getElem?_append_left (by simpa using hlt2)]
        simpa using h1
      · rw [tget_nil] at hv; cases hv
    have hsz : a.tmps.size = fn.ntmps := by simp [a]; omega
    have hfin : s.next = r.next := by
      split at e
      · cases e
      · cases e; rfl
      · cases e; rfl
    obtain ⟨a', w', todo', hsteps, ρ', ws, hws, hstep, htm', hsz', hdf⟩ := runItems_ok hε hN hmix ihc fuelA [.code c] ⟨putArgs [] 0 args, h, n, []⟩ s ρ a w hs htm hsz hm (by rw [hfin]; exact hf) hb b cs
    simp only [List.append_nil] at hws
    have out : ∀ vs v, optL (resA P s.tmps s.heap) fn.results.toList = some vs → ((vs = [v]) ∨ (vs.length ≠ 1 ∧ v = .tuple vs.toArray)) → ∃ V, (results fn a'.tmps).run P w' = .ok V w' ∧ Rl ρ' ε v V := by
      intro vs v hvs hv
      obtain ⟨VS, h1, h2⟩ := results_ok hvs htm' hstep.mod
      have hl := h2.length
      rcases hv with rfl | ⟨hne, rfl⟩
      · cases VS with
        | nil => exact h2.elim
        | cons V VS => cases VS with
          | nil => exact ⟨V, by rw [h1]; rfl, h2.1⟩
          | cons _ _ => exact h2.2.elim
      · refine ⟨.tuple VS.toArray, ?_, Rl_tuple.2 ⟨VS, rfl, h2⟩⟩
        rw [h1, dif_neg (by simp; omega)]
    have fin : ∀ v, r = ⟨v, s.heap, s.next, s.ws⟩ → (∃ V, (results fn a'.tmps).run P w' = .ok V w' ∧ Rl ρ' ε v V) → ∃ e w' fr, (∃ V, e = .returned V ∧ Good P ε base ρ w h n r V w') ∧ Comes P (lone (Frame.enter P f ARGS.toArray .normal) cs w) (lone fr cs w') e ∧ fr.fn = f ∧ fr.leaving P w' e := by
      intro v hr ⟨V, h1, h2⟩
      refine ⟨.returned V, w', { b.at a' todo' with mode := .returning }, ⟨V, rfl, ρ', ?_, by rw [hr]; exact h2⟩, ?_, rfl, rfl, ?_, rfl, fn, hfn, h1⟩
      · rw [hr]
        simp only [hws]
        exact hstep
      · rw [henter]; exact hsteps
      · show a'.defers = []
        rw [hdf]
    split at e
    · cases e
    · rename_i v hvs
      simp only [Except.ok.injEq] at e
      exact fin v e.symm (out _ v hvs (.inl rfl))
    · rename_i vs hne hvs
      simp only [Except.ok.injEq] at e
      refine fin (.tuple vs.toArray) e.symm (out vs _ hvs (.inr ⟨fun h1 => ?_, rfl⟩))
      obtain ⟨x, hx⟩ := List.length_eq_one_iff.1 h1
      first | exact hne x hx | exact hne x (by rw [hvs, hx]) | (subst hx; exact hne x rfl)

/-! ### What is asked of a seat -/

noncomputable def noCountB (P : Program) : Bool := P.funcs.toList.all fun fn => !(fn.body.isSome && fn.name == "runtime.NumGoroutine")
theorem noCount_of (h : noCountB P = true) : NoCount P := fun f fn hf hb => by
  have hmem : fn ∈ P.funcs.toList := by
    rw [← Array.getElem?_toList] at hf
    exact List.mem_of_getElem? hf
  have := List.all_eq_true.1 h fn hmem
  rw [hb] at this
  simpa using this
/-- A call that returns true. -/
noncomputable def yes : Except String Out → Bool
  | .ok ⟨.bool true, _, _, _⟩ => true
  | _ => false
/-- A call whose value is closed. -/
noncomputable def gives (v : Value) : Except String Out → Bool
  | .ok r => bif closed DC r.v then Instr.sameBits 10 r.v v else false
  | _ => false
theorem below_of {ρ' : Rho} {w' : World} {r : Out} (h : Step P ε w.heap.size (fun _ => none) w (tget []) 0 ρ' w' (tget r.heap) r.next r.ws) : Below w.heap.size w w' where
  os := h.os
  tape := h.tape
  output := h.output
  size := h.size
  block := fun k hk => h.frame k hk fun id o c _ ho => by rw [tget_nil] at ho; cases ho
theorem mod_nil : Mod P (fun _ => none) ε w.heap.size w (tget []) := ⟨(fun id o h => by rw [tget_nil] at h; cases h), (fun id id' o o' b b' h => by rw [tget_nil] at h; cases h)⟩
/-- **A call from nothing**: what the reckoner finds true is true, on every tape and in every world. -/
theorem run_true (hN : noCountB P = true) (hmix : P.follows .mixedOrders = true) {d : Nat} {f : FuncId} {args : List Value} (h : yes (runCall P d f args [] 0) = true) (hε : ∀ i V, ε i = some V → one V = true) {ARGS : List Value} (ha : RlL (fun _ => none) ε args ARGS) (w : World) :
    Calls P f ARGS.toArray w fun e w' => e = .returned (.bool true) ∧ Below w.heap.size w w' := by
  cases hr : runCall P d f args [] 0 with
  | error s => rw [hr] at h; simp [yes] at h
  | ok r =>
    rw [hr] at h
    refine (runCall_ok (base := w.heap.size) hε (noCount_of hN) hmix d f args [] 0 r hr (fun _ => none) w ARGS ha mod_nil (fun _ _ _ => rfl) (Nat.le_refl _)).mono ?_
    rintro e w' ⟨V, rfl, ρ', hs, hv⟩
    refine ⟨?_, below_of hs⟩
    have : r.v = .bool true := by
      unfold yes at h
      split at h
      · rename_i heq; cases heq; rfl
      · cases h
    rw [this] at hv
    rw [Rl_bool.1 hv]
theorem Rl_atom {i : Nat} {V : Value} (h : ε i = some V) : Rl (fun _ => none) ε (.chan (some i)) V := ⟨1, by simp [conc, h]⟩
/-- The same, the atoms given as a list. -/
theorem run_atoms (hN : noCountB P = true) (hmix : P.follows .mixedOrders = true) (d : Nat) {f : FuncId} {args : List Value} (h : yes (runCall P d f args [] 0) = true) (L : List Value) (hL : L.all one = true) {ARGS : List Value} (ha : RlL (fun _ => none) (fun i => L[i]?) args ARGS) (w : World) :
    Calls P f ARGS.toArray w fun e w' => e = .returned (.bool true) ∧ Below w.heap.size w w' :=
  run_true hN hmix h (fun i V hi => List.all_eq_true.1 hL V (List.mem_of_getElem? hi)) ha w
/-! ### Arguments of more than one cell -/

theorem one_of_cell {b : Nat} {t : TypeId} {v : Value} (h : Cell.okWide P w .any b t v) : one v = true := by
  cases v with
  | agg cs => unfold Cell.okWide Cell.ok at h; split at h <;> simp_all <;> (split at h <;> simp_all)
  | tuple cs => unfold Cell.okWide Cell.ok at h; split at h <;> simp_all <;> (split at h <;> simp_all)
  | _ => rfl
theorem open_one {b : Nat} {t : TypeId} {v : Value} (h : Value.okWide P w .any b t v) (hs : isAggA P t = some false) : one v = true := by
  unfold isAggA at hs
  unfold Value.okWide at h
  split at hs
  · cases hs
  · cases hs
  · rename_i d h1 h2 hd
    rw [hd] at h
    split at h
    · rename_i fs heq; cases heq; exact absurd rfl (h1 fs)
    · rename_i n e heq; cases heq; exact absurd rfl (h2 n e)
    · exact one_of_cell h
  · cases hs
theorem open_cells {b n : Nat} {t : TypeId} {v : Value} (h : Value.okWide P w .any b t v) (hs : isAggA P t = some true) (hn : P.cellsOf t = n) : ∃ cs : List Value, v = .agg cs.toArray ∧ cs.length = n ∧ cs.all one = true := by
  have key : ∃ cs, v = .agg cs ∧ cs.size = P.cellsOf t ∧ Row.okWide P w .any b t cs := by
    unfold isAggA at hs
    unfold Value.okWide at h
    split at hs
    · rename_i fs hd; rw [hd] at h; exact h
    · rename_i k e hd; rw [hd] at h; exact h
    · cases hs
    · cases hs
  obtain ⟨cs, rfl, h1, ts, _, _, h2⟩ := key
  refine ⟨cs.toList, rfl, by rw [← hn, ← h1]; simp, List.all_eq_true.2 fun x hx => ?_⟩
  obtain ⟨i, hi⟩ := List.getElem?_of_mem hx
  obtain ⟨u, _, hc⟩ := h2 i x (by simpa using hi)
  exact one_of_cell hc
noncomputable def atoms (k n : Nat) : List Value := (List.range' k n).map fun i => .chan (some i)
theorem RlL_atoms : ∀ (cs : List Value) (k : Nat), (∀ j v, cs[j]? = some v → ε (k + j) = some v) → RlL (fun _ => none) ε (atoms k cs.length) cs
  | [], _, _ => trivial
  | c :: cs, k, h => by
    refine ⟨Rl_atom (by simpa using h 0 c rfl), ?_⟩
    exact RlL_atoms cs (k + 1) fun j v hj => by
      have := h (j + 1) v (by simpa using hj)
      rwa [show k + (j + 1) = k + 1 + j by omega] at this
theorem Rl_cells {pre cs post : List Value} {k n : Nat} (hk : pre.length = k) (hn : cs.length = n) : Rl (fun _ => none) (fun i => (pre ++ (cs ++ post))[i]?) (.agg (atoms k n).toArray) (.agg cs.toArray) := by
  subst hk hn
  refine Rl_agg.2 ⟨cs, rfl, ?_⟩
  simp only [List.toList_toArray]
  refine RlL_atoms cs pre.length fun j v hj => ?_
  have hlt : j < cs.length := (List.getElem?_eq_some_iff.1 hj).1
  rw [List.getElem?_append_right (by omega), show pre.length + j - pre.length = j by omega, List.getElem?_append_left hlt]
  exact hj
theorem Rl_mid {pre post : List Value} {x : Value} {k : Nat} (hk : pre.length = k) : Rl (fun _ => none) (fun i => (pre ++ (x :: post))[i]?) (.chan (some k)) x := by
  subst hk
  exact Rl_atom (by rw [List.getElem?_append_right (Nat.le_refl _), Nat.sub_self]; rfl)
end
end Go.Proofs.YtcemdlihcigagaaGreat.Ex
