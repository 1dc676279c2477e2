/- A reckoner for runs of fixed texts, tenth part: each operation, as the reckoner has it. Conditions: values that are handed in as they are (atoms) are of one cell each; no function bears the name of the runtime's count of goroutines. -/
import Derived.Test.YtjpbnmggoinmnaaExI
set_option linter.unusedVariables false
set_option linter.unusedSimpArgs false
namespace Go.Proofs.Ytjpbnmggoinmnaa.Ex
open Go Go.RowKit

section
variable {P : Program} {ε : Nat → Option Value} {base : Nat} {ρ : Rho} {w : World}

theorem eq_of {t : TypeId} {U V : Value} {b : Bool} (h : ∀ d, (Op.equalIn (d + 1) t U V).run P w = .ok b w) (hn : ∀ a b : Array Value, U ≠ .agg a ∨ V ≠ .agg b) (hk : U ≠ .nilIface) (x y : Operand)
    (h1 : binOp .eql t U V = (do pure (.bool (← Op.equal t U V)))) (h2 : binOp .neq t U V = (do pure (.bool (!(← Op.equal t U V))))) (h3 : eqGuard .eql t x y U V = pure ()) (h4 : eqGuard .neq t x y U V = pure ()) :
    (do eqGuard .eql t x y U V; binOp .eql t U V : Sem Value).run P w = .ok (.bool b) w ∧ (do eqGuard .neq t x y U V; binOp .neq t U V : Sem Value).run P w = .ok (.bool (!b)) w := by
  have := h 9999
  have he : Op.equal t U V = Op.equalIn (9999 + 1) t U V := rfl
  rw [h1, h2, h3, h4, he]
  constructor <;> simp only [Sem.run_bind, Sem.run_pure, Result.andThen_ok, this]
theorem nilEq_ok {t : TypeId} {u v U V : Value} {b : Bool} (e : nilEq (P.underlying t) u v = some b) (hu : Rl ρ ε u U) (hv : Rl ρ ε v V) (x y : Operand) (w : World) :
    (do eqGuard .eql t x y U V; binOp .eql t U V : Sem Value).run P w = .ok (.bool b) w ∧ (do eqGuard .neq t x y U V; binOp .neq t U V : Sem Value).run P w = .ok (.bool (!b)) w := by
  unfold nilEq at e
  split at e
  · rename_i el a hd
    cases e
    obtain ⟨b, _, _, rfl⟩ := Rl_ptr_any hu
    have := (Rl_self rfl).1 hv
    subst this
    exact eq_of (fun d => by simp [Op.equalIn, run_under hd]) (fun _ _ => .inl (by simp)) (by simp) x y rfl rfl rfl rfl
  · rename_i el a hd
    cases e
    obtain ⟨b, _, _, rfl⟩ := Rl_ptr_any hv
    have := (Rl_self rfl).1 hu
    subst this
    exact eq_of (fun d => by simp [Op.equalIn, run_under hd]) (fun _ _ => .inl (by simp)) (by simp) x y rfl rfl rfl rfl
  · rename_i el a len c len' c' hd
    cases e
    have := (Rl_self rfl).1 hv
    subst this
    obtain ⟨id, off, sp⟩ := a
    have hU : ∃ A n m, U = .slice (some A) n m := by
      cases sp with
      | none => obtain ⟨b, _, rfl⟩ := Rl_slice.1 hu; exact ⟨_, _, _, rfl⟩
      | some alt => obtain ⟨b, _, rfl, _⟩ := Rl_sliceO.1 hu; exact ⟨_, _, _, rfl⟩
    obtain ⟨A, n, m, rfl⟩ := hU
    exact eq_of (fun d => by simp [Op.equalIn, run_under hd]) (fun _ _ => .inl (by simp)) (by simp) x y rfl rfl rfl rfl
  · rename_i k el a hd
    cases e
    obtain ⟨b, _, rfl⟩ := Rl_map.1 hu
    have := (Rl_self rfl).1 hv
    subst this
    exact eq_of (fun d => by simp [Op.equalIn, run_under hd]) (fun _ _ => .inl (by simp)) (by simp) x y rfl rfl rfl rfl
  · rename_i k el a hd
    cases e
    obtain ⟨b, _, rfl⟩ := Rl_map.1 hv
    have := (Rl_self rfl).1 hu
    subst this
    exact eq_of (fun d => by simp [Op.equalIn, run_under hd]) (fun _ _ => .inl (by simp)) (by simp) x y rfl rfl rfl rfl
  · cases e

/-- The operands that the reckoner knows stand for those of the frame. -/
def EvR (ρ : Rho) (ε : Nat → Option Value) (o : Oper) (ev : Operand → Option Value) (e : Operand → Value) : Prop := ∀ x ∈ o.op.operands, ∀ v, ev x = some v → Rl ρ ε v (e x)
theorem optL_ev {ev : Operand → Option Value} {e : Operand → Value} : ∀ {l : List Operand} {vs : List Value}, (∀ x ∈ l, ∀ v, ev x = some v → Rl ρ ε v (e x)) → optL ev l = some vs → RlL ρ ε vs (l.map e)
  | [], vs, _, h => by simp [optL] at h; subst h; trivial
  | x :: r, vs, hx, h => by
    simp only [optL] at h
    split at h
    · cases h
    rename_i v hv
    split at h
    · cases h
    rename_i l hl
    simp only [Option.some.injEq] at h
    subst h
    exact ⟨hx x (by simp) v hv, optL_ev (fun y hy => hx y (by simp [hy])) hl⟩
theorem plain_ok {o : Oper} {ev : Operand → Option Value} {e : Operand → Value} {v : Value} (h : plainA P ev o = some v) (hev : EvR ρ ε o ev e) (w : World) : (execOp e o).run P w = .ok (.value v) w ∧ Rl ρ ε v v := by
  unfold plainA at h
  cases hc : o.op.operands.toList.all (closedEv ev) <;> simp only [hc, cond_true, cond_false] at h
  · cases h
  have hns : ∀ cs b, o.op ≠ .select cs b := by
    intro cs b hs
    rw [hs] at h
    cases h
  split at h
  · cases h
  split at h
  · rename_i u hu
    cases hcl : closed DC u <;> simp only [hcl, cond_true, cond_false] at h
    · cases h
    cases h
    have hcongr : execOp e o = execOp (fun x => (ev x).getD undef) o := execOp_congr o hns fun x hx => by
      have := List.all_eq_true.1 hc x (by simpa using hx)
      unfold closedEv at this
      cases hv : ev x with
      | none => simp [hv] at this
      | some v =>
        simp only [hv] at this
        have h1 := hev x hx v hv
        rw [h1.det (Rl_closed this)]
        rfl
    rw [hcongr]
    exact ⟨pureEval_run _ _ w hu, Rl_closed hcl⟩
  · cases h

theorem toList_eq {α : Type} {a : Array α} {l : List α} (h : a.toList = l) : a = l.toArray := by rw [← h]
/-- An operation that the reckoner knows by itself. -/
theorem spec_ok (hε : ∀ i V, ε i = some V → one V = true) {o : Oper} {ev : Operand → Option Value} {e : Operand → Value} {h : T HO} {n : Nat} {r : Out} (hr : specA P o ev h n = some r) (hev : EvR ρ ε o ev e) (hm : Mod P ρ ε base w (tget h)) (hf : ∀ id, n ≤ id → id < r.next → ρ id = none) (hb : base ≤ w.heap.size) :
    ∃ V w', Runs P e o w V w' ∧ Good P ε base ρ w h n r V w' := by
  obtain ⟨dst, op, type, pos, after, guard⟩ := o
  unfold EvR at hev
  unfold specA at hr
  unfold Runs execOp
  simp only at hr hev ⊢
  split at hr
  · -- move
    obtain ⟨u, hu, rfl⟩ := valOut_eq hr
    exact ⟨_, w, .inl (by simp), Good.val hm (hev _ (by simp [Op.operands]) u hu)⟩
  · -- assign
    obtain ⟨u, hu, rfl⟩ := valOut_eq hr
    exact ⟨_, w, .inl (by simp), Good.val hm (hev _ (by simp [Op.operands]) u hu)⟩
  · -- pick
    rename_i c a b
    split at hr
    case h_2 => cases hr
    rename_i t hc
    obtain ⟨u, hu, rfl⟩ := valOut_eq hr
    have hcv := Rl_bool.1 (hev c (by simp [Op.operands]) _ hc)
    cases t
    · exact ⟨e b, w, .inl (by simp [hcv, asBool]), Good.val hm (hev b (by simp [Op.operands]) u hu)⟩
    · exact ⟨e a, w, .inl (by simp [hcv, asBool]), Good.val hm (hev a (by simp [Op.operands]) u hu)⟩
  · -- alloc
    obtain ⟨V, w', h1, h2⟩ := alloc_ok hε hr hm hf hb
    exact ⟨V, w', .inl (by simp [h1]), h2⟩
  · -- box
    rename_i elem x
    split at hr
    case h_2 => cases hr
    rename_i v hv
    obtain ⟨V, w', h1, h2⟩ := box_ok hε hr (hev x (by simp [Op.operands]) v hv) hm hf hb
    exact ⟨V, w', .inl (by simp [h1]), h2⟩
  · -- build
    rename_i t parts
    split at hr
    case h_2 => cases hr
    rename_i ps hps
    obtain ⟨u, hu, rfl⟩ := valOut_eq hr
    have hpsR : ∀ (l : List (Nat × Operand)) (ps : List (Nat × Value)), (∀ p ∈ l, ∀ v, ev p.2 = some v → Rl ρ ε v (e p.2)) → optL (fun p => match ev p.2 with | some v => some (p.1, v) | none => none) l = some ps → PsR ρ ε ps (l.map fun p => (p.1, e p.2)) := by
      intro l
      induction l with
      | nil => intro ps _ h; simp [optL] at h; subst h; trivial
      | cons p r ih =>
        intro ps hp h
        simp only [optL] at h
        split at h
        · cases h
        rename_i q hq
        split at hq
        · rename_i v hv
          cases hq
          split at h
          · cases h
          rename_i l' hl'
          cases h
          exact ⟨rfl, hp p (by simp) v hv, ih l' (fun y hy => hp y (by simp [hy])) hl'⟩
        · cases hq
    have := hpsR parts.toList ps (fun p hp v hv => hev p.2 (by simp [Op.operands]; exact ⟨p.1, by simpa using hp⟩) v hv) hps
    obtain ⟨V, h1, h2⟩ := build_ok (PS := parts.map fun p => (p.1, e p.2)) hε hu (by simpa using this) w
    exact ⟨V, w, .inl (by simp [h1]), Good.val hm h2⟩
  · -- buildSlice
    rename_i t len parts
    split at hr
    case h_2 => cases hr
    rename_i ps hps
    have hpsR : ∀ (l : List (Nat × Operand)) (ps : List (Nat × Value)), (∀ p ∈ l, ∀ v, ev p.2 = some v → Rl ρ ε v (e p.2)) → optL (fun p => match ev p.2 with | some v => some (p.1, v) | none => none) l = some ps → PsR ρ ε ps (l.map fun p => (p.1, e p.2)) := by
      intro l
      induction l with
      | nil => intro ps _ h; simp [optL] at h; subst h; trivial
      | cons p r ih =>
        intro ps hp h
        simp only [optL] at h
        split at h
        · cases h
        rename_i q hq
        split at hq
        · rename_i v hv
          cases hq
          split at h
          · cases h
          rename_i l' hl'
          cases h
          exact ⟨rfl, hp p (by simp) v hv, ih l' (fun y hy => hp y (by simp [hy])) hl'⟩
        · cases hq
    have := hpsR parts.toList ps (fun p hp v hv => hev p.2 (by simp [Op.operands]; exact ⟨p.1, by simpa using hp⟩) v hv) hps
    obtain ⟨V, w', h1, h2⟩ := buildSlice_ok (PS := parts.map fun p => (p.1, e p.2)) hε hr (by simpa using this) hm hf hb
    exact ⟨V, w', .inl (by simp [h1]), h2⟩
  · -- load
    rename_i t a
    split at hr
    case h_2 => cases hr
    rename_i v hv
    obtain ⟨u, hu, rfl⟩ := valOut_eq hr
    obtain ⟨V, h1, h2⟩ := load_ok hu (hev a (by simp [Op.operands]) v hv) hm
    exact ⟨V, w, .inl (by simp [h1]), Good.val hm h2⟩
  · -- store
    rename_i t a x
    split at hr
    case h_2 => cases hr
    rename_i u v hu hv
    obtain ⟨w', h1, h2⟩ := store_ok hε hr (hev a (by simp [Op.operands]) u hu) (hev x (by simp [Op.operands]) v hv) hm
    exact ⟨undef, w', .inr ⟨by simp [h1], rfl⟩, h2⟩
  · -- nilCheck
    rename_i x
    split at hr
    case h_2 => cases hr
    rename_i v hv
    obtain ⟨u, hu, rfl⟩ := valOut_eq hr
    obtain ⟨a, h1, h2⟩ := nilCheck_ok hu (hev x (by simp [Op.operands]) v hv)
    exact ⟨e x, w, .inl (by simp [h1]), Good.val hm h2⟩
  · -- fieldAddr
    rename_i s x f
    split at hr
    case h_2 => cases hr
    rename_i v hv
    obtain ⟨u, hu, rfl⟩ := valOut_eq hr
    obtain ⟨V, h1, h2⟩ := fieldAddr_ok hu (hev x (by simp [Op.operands]) v hv) w
    exact ⟨V, w, .inl (by simp [h1]), Good.val hm h2⟩
  · -- field
    rename_i s x f
    split at hr
    case h_2 => cases hr
    rename_i v hv
    obtain ⟨u, hu, rfl⟩ := valOut_eq hr
    obtain ⟨V, h1, h2⟩ := field_ok hu (hev x (by simp [Op.operands]) v hv) w
    exact ⟨V, w, .inl (by simp [h1]), Good.val hm h2⟩
  · -- indexAddr
    rename_i t x i
    split at hr
    case h_2 => cases hr
    rename_i a v ha hv
    obtain ⟨u, hu, rfl⟩ := valOut_eq hr
    obtain ⟨V, h1, h2⟩ := indexAddr_ok hu (hev x (by simp [Op.operands]) a ha) (hev i (by simp [Op.operands]) v hv) w
    exact ⟨V, w, .inl (by simp [h1]), Good.val hm h2⟩
  · -- index
    rename_i t x i
    split at hr
    case h_2 => cases hr
    rename_i a v ha hv
    obtain ⟨u, hu, rfl⟩ := valOut_eq hr
    obtain ⟨V, h1, h2⟩ := index_ok hu (hev x (by simp [Op.operands]) a ha) (hev i (by simp [Op.operands]) v hv) w
    exact ⟨V, w, .inl (by simp [h1]), Good.val hm h2⟩
  · -- sliceToArrayPointer
    rename_i t x
    split at hr
    case h_2 => cases hr
    rename_i v hv
    obtain ⟨u, hu, rfl⟩ := valOut_eq hr
    obtain ⟨V, h1, h2⟩ := arrPtr_ok hu (hev x (by simp [Op.operands]) v hv) w
    exact ⟨V, w, .inl (by simp [h1]), Good.val hm h2⟩
  · -- extract
    rename_i x i
    split at hr
    case h_2 => cases hr
    rename_i v hv
    obtain ⟨u, hu, rfl⟩ := valOut_eq hr
    obtain ⟨V, h1, h2⟩ := extract_ok (P := P) hu (hev x (by simp [Op.operands]) v hv) w
    exact ⟨V, w, .inl (by simp [h1]), Good.val hm h2⟩
  · -- makeMap
    refine ⟨.map (some w.heap.size), w.alloc (.map #[] 0), .inl (by simp [Instr.makeMap]), Good.new (c := 0) hr hm hf hb ?_ (Rl_map.2 ⟨_, by simp [upR]; rfl, rfl⟩)⟩
    unfold ObjR
    rw [if_neg (by simp [mapO])]
    exact ⟨rfl, [], rfl, trivial⟩
  · -- makeSlice
    rename_i t l c
    split at hr
    case h_2 => cases hr
    rename_i a v ha hv
    obtain ⟨V, w', h1, h2⟩ := makeSlice_ok hε hr (hev l (by simp [Op.operands]) a ha) (hev c (by simp [Op.operands]) v hv) hm hf hb
    exact ⟨V, w', .inl (by simp [h1]), h2⟩
  · -- slice
    rename_i t x lo hi mx
    split at hr
    case h_2 => cases hr
    rename_i v l hh m hv hl hhh hm'
    cases hmh : (mx.isNone || hi.isSome) <;> simp only [hmh, cond_true, cond_false] at hr
    · cases hr
    obtain ⟨u, hu, rfl⟩ := valOut_eq hr
    have hopt : ∀ (z : Option Operand) (r : List Value), (∀ x ∈ z.toList, ∀ v, ev x = some v → Rl ρ ε v (e x)) → optL ev z.toList = some r → OptR ρ ε r.head? (z.map e) ∧ (r.head?.isSome = z.isSome) := by
      intro z r hz h
      cases z with
      | none => simp [optL] at h; subst h; exact ⟨trivial, rfl⟩
      | some x =>
        simp only [Option.toList_some, optL] at h
        split at h
        · cases h
        rename_i v hv
        cases h
        exact ⟨hz x (by simp) v hv, rfl⟩
    obtain ⟨o1, _⟩ := hopt lo l (fun x hx v hv => hev x (by simp [Op.operands]; simp at hx; simp [hx]) v hv) hl
    obtain ⟨o2, p2⟩ := hopt hi hh (fun x hx v hv => hev x (by simp [Op.operands]; simp at hx; simp [hx]) v hv) hhh
    obtain ⟨o3, p3⟩ := hopt mx m (fun x hx v hv => hev x (by simp [Op.operands]; simp at hx; simp [hx]) v hv) hm'
    have hmh' : m.head?.isSome = true → hh.head?.isSome = true := by
      rw [p2, p3]
      intro hsm
      cases mx with
      | none => cases hsm
      | some _ => simpa using hmh
    obtain ⟨V, h1, h2⟩ := slice_ok hu (hev x (by simp [Op.operands]) v hv) o1 o2 o3 hmh' hm
    exact ⟨V, w, .inl (by simp [h1]), Good.val hm h2⟩
  · -- lookup
    rename_i t x k ok
    split at hr
    case h_2 => cases hr
    rename_i a b ha hb'
    obtain ⟨u, hu, rfl⟩ := valOut_eq hr
    obtain ⟨V, h1, h2⟩ := lookup_ok hu (hev x (by simp [Op.operands]) a ha) (hev k (by simp [Op.operands]) b hb') hm
    exact ⟨V, w, .inl (by simp [h1]), Good.val hm h2⟩
  · -- mapUpdate
    rename_i t x k v
    split at hr
    case h_2 => cases hr
    rename_i a b c ha hb' hc
    obtain ⟨w', h1, h2⟩ := mapUpdate_ok hr (hev x (by simp [Op.operands]) a ha) (hev k (by simp [Op.operands]) b hb') (hev v (by simp [Op.operands]) c hc) hm
    exact ⟨undef, w', .inr ⟨by simp [h1], rfl⟩, h2⟩
  · -- makeInterface
    rename_i t x
    split at hr
    · cases hr
    · rename_i v d hnot hv hd
      obtain ⟨u, hu, rfl⟩ := valOut_eq hr
      simp only [Option.some.injEq] at hu
      subst hu
      refine ⟨.iface t (e x), w, .inl ?_, Good.val hm (Rl_iface.2 ⟨_, rfl, hev x (by simp [Op.operands]) v hv⟩)⟩
      have : (Instr.makeInterface t (e x)).run P w = .ok (.iface t (e x)) w := by
        simp only [Instr.makeInterface, Sem.run_bind, run_under hd, Result.andThen_ok]
        rfl
      simp [this]
    · cases hr
  · -- makeFunc
    rename_i fn a b
    split at hr
    case h_2 => cases hr
    rename_i u v hu hv
    obtain ⟨z, hz, rfl⟩ := valOut_eq hr
    simp only [Option.some.injEq] at hz
    subst hz
    have r1 := optL_ev (e := e) (fun x hx v hv => hev x (by simp [Op.operands]; left; simpa using hx) v hv) hu
    have r2 := optL_ev (e := e) (fun x hx v hv => hev x (by simp [Op.operands]; right; simpa using hx) v hv) hv
    refine ⟨.func fn (a.map e) (b.map e), w, .inl (by simp [Instr.makeFunc]), Good.val hm (Rl_func.2 ⟨a.toList.map e, b.toList.map e, ?_, by simpa using r1, by simpa using r2⟩)⟩
    congr 1 <;> (apply Array.ext'; simp)
  · -- eql
    rename_i t x y t'
    split at hr
    case h_2 => cases hr
    rename_i u v hu hv
    split at hr
    case h_2 => cases hr
    rename_i b hb'
    obtain ⟨z, hz, rfl⟩ := valOut_eq hr
    simp only [Option.some.injEq] at hz
    subst hz
    have := (nilEq_ok hb' (hev x (by simp [Op.operands]) u hu) (hev y (by simp [Op.operands]) v hv) x y w).1
    exact ⟨.bool b, w, .inl (by rw [Sem.run_bind, this]; rfl), Good.val hm (Rl_bool.2 rfl)⟩
  · -- neq
    rename_i t x y t'
    split at hr
    case h_2 => cases hr
    rename_i u v hu hv
    split at hr
    case h_2 => cases hr
    rename_i b hb'
    obtain ⟨z, hz, rfl⟩ := valOut_eq hr
    simp only [Option.some.injEq] at hz
    subst hz
    have := (nilEq_ok hb' (hev x (by simp [Op.operands]) u hu) (hev y (by simp [Op.operands]) v hv) x y w).2
    exact ⟨.bool (!b), w, .inl (by rw [Sem.run_bind, this]; rfl), Good.val hm (Rl_bool.2 rfl)⟩
  · -- convert
    rename_i s d x
    split at hr
    · rename_i b el hv hs hd
      split at hr
      case h_2 => cases hr
      rename_i hel
      have hX := Rl_string.1 (hev x (by simp [Op.operands]) _ hv)
      obtain ⟨V, w', h1, h2⟩ := strToBytes_ok hr hm hf hb
      refine ⟨V, w', .inl ?_, h2⟩
      have hc : (convert s d (e x)).run P w = .ok V w' := by
        rw [hX]
        simp [convert, run_under hs, run_under hd, run_under hel, h1]
      simp [hc]
    · rename_i v el hv hs hd
      split at hr
      case h_2 => cases hr
      rename_i hel
      obtain ⟨u, hu, rfl⟩ := valOut_eq hr
      have hX := hev x (by simp [Op.operands]) _ hv
      obtain ⟨h1, h2⟩ := bytesToStr_ok (P := P) hu hX hm
      refine ⟨u, w, .inl ?_, Good.val hm h2⟩
      have hsl : ∃ a len c, e x = .slice a len c := by
        unfold bytesToStrA at hu
        split at hu
        · exact ⟨_, _, _, (Rl_self rfl).1 hX⟩
        · obtain ⟨A, C, h⟩ := Rl_slice_any hX; exact ⟨_, _, _, h⟩
        · cases hu
      obtain ⟨a, len, c, hsl⟩ := hsl
      have hc : (convert s d (e x)).run P w = .ok u w := by
        rw [hsl] at h1 ⊢
        rw [run_convert_bytes_string w s d el a len c hs hel hd]
        exact h1
      simp [hc]
    · cases hr
  · -- a builtin
    rename_i b args argTypes
    have hops : ∀ vs, optL ev args.toList = some vs → RlL ρ ε vs (args.toList.map e) := fun vs h => optL_ev (fun x hx v hv => hev x (by simp [Op.operands, Call.operands]; simpa using hx) v hv) h
    split at hr
    · -- len
      rename_i v t ts hvs hts
      have hR := hops _ hvs
      have hat : argTypes[0]? = some t := by rw [toList_eq hts]; rfl
      cases hA : args.toList.map e with
      | nil => rw [hA] at hR; exact hR.elim
      | cons X rest =>
        rw [hA] at hR
        obtain ⟨hX, hrest⟩ := hR
        cases rest with
        | cons _ _ => exact hrest.elim
        | nil =>
          have hargs : args.map e = #[X] := by apply Array.ext'; simp [hA]
          split at hr
          · rename_i el a len c hu
            obtain ⟨u, hv, rfl⟩ := valOut_eq hr
            simp only [lenA, Option.some.injEq] at hv
            subst hv
            have := len_slice (ty := type) hX hat hu w
            exact ⟨_, w, .inl (by simp [resolve, invoke, builtin, hargs, this]), Good.val hm (Rl_int.2 rfl)⟩
          · rename_i k el id hu
            obtain ⟨u, hv, rfl⟩ := valOut_eq hr
            simp only [lenA] at hv
            split at hv
            case h_2 => cases hv
            rename_i o ho
            split at hv
            case h_2 => cases hv
            rename_i es hes
            simp only [Option.some.injEq] at hv
            subst hv
            have := len_map (ty := type) hX ho hes hat hu hm
            exact ⟨_, w, .inl (by simp [resolve, invoke, builtin, hargs, this]), Good.val hm (Rl_int.2 rfl)⟩
          · cases hr
    · -- append
      rename_i u v t u' ts hvs hts
      have hR := hops _ hvs
      have hat : argTypes[0]? = some t := by rw [toList_eq hts]; rfl
      have hat1 : argTypes[1]? = some u' := by rw [toList_eq hts]; rfl
      cases hA : args.toList.map e with
      | nil => rw [hA] at hR; exact hR.elim
      | cons X rest =>
        rw [hA] at hR
        obtain ⟨hX, hrest⟩ := hR
        cases rest with
        | nil => exact hrest.elim
        | cons Y rest =>
          obtain ⟨hY, hrest⟩ := hrest
          cases rest with
          | cons _ _ => exact hrest.elim
          | nil =>
            have hargs : args.map e = #[X, Y] := by apply Array.ext'; simp [hA]
            split at hr
            · cases hr
            · rename_i el dd hnot hu hu'
              obtain ⟨V, w', h1, h2⟩ := append_ok (ty := type) hε hr hX hY hat hat1 hu hu' (fun k hk => hnot k hk) hm hf hb
              exact ⟨V, w', .inl (by simp [resolve, invoke, builtin, hargs, h1]), h2⟩
            · cases hr
    · -- copy
      rename_i u v t ts hvs hts
      have hR := hops _ hvs
      have hat : argTypes[0]? = some t := by rw [toList_eq hts]; rfl
      cases hA : args.toList.map e with
      | nil => rw [hA] at hR; exact hR.elim
      | cons X rest =>
        rw [hA] at hR
        obtain ⟨hX, hrest⟩ := hR
        cases rest with
        | nil => exact hrest.elim
        | cons Y rest =>
          obtain ⟨hY, hrest⟩ := hrest
          cases rest with
          | cons _ _ => exact hrest.elim
          | nil =>
            have hargs : args.map e = #[X, Y] := by apply Array.ext'; simp [hA]
            split at hr
            case h_2 => cases hr
            rename_i el hu
            obtain ⟨V, w', h1, h2⟩ := copy_ok (ty := type) hε hr hX hY hat hu hm
            exact ⟨V, w', .inl (by simp [resolve, invoke, builtin, hargs, h1]), h2⟩
    · -- clear
      rename_i u t ts hvs hts
      have hR := hops _ hvs
      have hat : argTypes[0]? = some t := by rw [toList_eq hts]; rfl
      cases hA : args.toList.map e with
      | nil => rw [hA] at hR; exact hR.elim
      | cons X rest =>
        rw [hA] at hR
        obtain ⟨hX, hrest⟩ := hR
        cases rest with
        | cons _ _ => exact hrest.elim
        | nil =>
          have hargs : args.map e = #[X] := by apply Array.ext'; simp [hA]
          split at hr
          case h_2 => cases hr
          rename_i el hu
          obtain ⟨V, w', h1, h2⟩ := clear_ok (ty := type) hε hr hX hat hu hm
          exact ⟨V, w', .inl (by simp [resolve, invoke, builtin, hargs, h1]), h2⟩
    · -- delete
      rename_i u v t ts hvs hts
      have hR := hops _ hvs
      have hat : argTypes[0]? = some t := by rw [toList_eq hts]; rfl
      cases hA : args.toList.map e with
      | nil => rw [hA] at hR; exact hR.elim
      | cons X rest =>
        rw [hA] at hR
        obtain ⟨hX, hrest⟩ := hR
        cases rest with
        | nil => exact hrest.elim
        | cons Y rest =>
          obtain ⟨hY, hrest⟩ := hrest
          cases rest with
          | cons _ _ => exact hrest.elim
          | nil =>
            have hargs : args.map e = #[X, Y] := by apply Array.ext'; simp [hA]
            obtain ⟨w', h1, h2⟩ := delete_ok (ty := type) hr hX hY hat hm
            exact ⟨undef, w', .inl (by simp [resolve, invoke, builtin, hargs, h1]), h2⟩
    · cases hr
  · cases hr
end
end Go.Proofs.Ytjpbnmggoinmnaa.Ex
