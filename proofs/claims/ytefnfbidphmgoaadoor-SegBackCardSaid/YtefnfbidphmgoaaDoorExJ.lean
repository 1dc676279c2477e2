/- A reckoner for runs of fixed texts, tenth part: each operation, as the reckoner has it. Conditions: values that are handed in as they are (atoms) are of one cell each; no function bears the name of the runtime's count of goroutines. -/
import Derived.Test.YtefnfbidphmgoaaDoorExI
import Derived.Laws.StructEq
set_option linter.unusedVariables false
set_option linter.unusedSimpArgs false
namespace Go.Proofs.YtefnfbidphmgoaaDoor.Ex
open Go Go.RowKit

section
variable {P : Program} {ε : Nat → Option Value} {base : Base} {ρ : Rho} {w : World}

theorem eq_of {t : TypeId} {U V : Value} {b : Bool} (h : ∀ d, (Op.equalIn (d + 1) t U V).run P w = .ok b w) (hn : ∀ a b : Array Value, U ≠ .agg a ∨ V ≠ .agg b) (hk : U ≠ .nilIface) (x y : Operand)
    (h1 : binOp .eql t U V = (do pure (.bool (← Op.equal t U V)))) (h2 : binOp .neq t U V = (do pure (.bool (!(← Op.equal t U V))))) (h3 : eqGuard .eql t x y U V = pure ()) (h4 : eqGuard .neq t x y U V = pure ()) :
    (do eqGuard .eql t x y U V; binOp .eql t U V : Sem Value).run P w = .ok (.bool b) w ∧ (do eqGuard .neq t x y U V; binOp .neq t U V : Sem Value).run P w = .ok (.bool (!b)) w := by
  have := h 9999
  have he : Op.equal t U V = Op.equalIn (9999 + 1) t U V := rfl
  rw [h1, h2, h3, h4, he]
  constructor <;> simp only [Sem.run_bind, Sem.run_pure, Result.andThen_ok, this]
theorem nilEq_ok {t : TypeId} {u v U V : Value} {b : Bool} (e : nilEq (P.underlying t) u v = some b) (hu : Rl ρ ε u U) (hv : Rl ρ ε v V) (x y : Operand) (w : World) :
    (do eqGuard .eql t x y U V; binOp .eql t U V : Sem Value).run P w = .ok (.bool b) w ∧ (do eqGuard .neq t x y U V; binOp .neq t U V : Sem Value).run P w = .ok (.bool (!b)) w := by
  unfold nilEq at e
  split at e
  · rename_i el a hd
    cases e
    obtain ⟨b, _, _, rfl⟩ := Rl_ptr_any hu
    have := (Rl_self rfl).1 hv
    subst this
    exact eq_of (fun d => by simp [Op.equalIn, run_under hd]) (fun _ _ => .inl (by simp)) (by simp) x y rfl rfl rfl rfl
  · rename_i el a hd
    cases e
    obtain ⟨b, _, _, rfl⟩ := Rl_ptr_any hv
    have := (Rl_self rfl).1 hu
    subst this
    exact eq_of (fun d => by simp [Op.equalIn, run_under hd]) (fun _ _ => .inl (by simp)) (by simp) x y rfl rfl rfl rfl
  · rename_i el a len c len' c' hd
    cases e
    have := (Rl_self rfl).1 hv
    subst this
    obtain ⟨id, off, sp⟩ := a
    have hU : ∃ A n m, U = .slice (some A) n m := by
      cases sp with
      | none => obtain ⟨b, _, rfl⟩ := Rl_slice.1 hu; exact ⟨_, _, _, rfl⟩
      | some alt => obtain ⟨b, _, rfl, _⟩ := Rl_sliceO.1 hu; exact ⟨_, _, _, rfl⟩
    obtain ⟨A, n, m, rfl⟩ := hU
    exact eq_of (fun d => by simp [Op.equalIn, run_under hd]) (fun _ _ => .inl (by simp)) (by simp) x y rfl rfl rfl rfl
  · rename_i k el a hd
    cases e
    obtain ⟨b, _, rfl⟩ := Rl_map.1 hu
    have := (Rl_self rfl).1 hv
    subst this
    exact eq_of (fun d => by simp [Op.equalIn, run_under hd]) (fun _ _ => .inl (by simp)) (by simp) x y rfl rfl rfl rfl
  · rename_i k el a hd
    cases e
    obtain ⟨b, _, rfl⟩ := Rl_map.1 hv
    have := (Rl_self rfl).1 hu
    subst this
    exact eq_of (fun d => by simp [Op.equalIn, run_under hd]) (fun _ _ => .inl (by simp)) (by simp) x y rfl rfl rfl rfl
  · cases e

theorem intBin_ok {op : BinOp} {t : TypeId} {u v U V r : Value} (e : intBin P op t u v = some r) (hu : Rl ρ ε u U) (hv : Rl ρ ε v V) (x y : Operand) (w : World) :
    (do eqGuard op t x y U V; binOp op t U V : Sem Value).run P w = .ok r w ∧ Rl ρ ε r r := by
  unfold intBin at e
  split at e
  case h_2 => cases e
  rename_i k a l b
  have := Rl_int.1 hu
  subst this
  have := Rl_int.1 hv
  subst this
  have hg : (eqGuard op t x y (.int k a) (.int l b)).run P w = .ok () w := by cases op <;> rfl
  split at e
  · rename_i m c hp
    cases e
    exact ⟨by rw [Sem.run_bind, hg]; exact pureEval_run _ _ w hp, Rl_int.2 rfl⟩
  · rename_i c hp
    cases e
    exact ⟨by rw [Sem.run_bind, hg]; exact pureEval_run _ _ w hp, Rl_bool.2 rfl⟩
  · cases e
theorem frozen_unmarked {b off : Nat} {cs : Array Value} {el : TypeId} {fr : Nat × Nat} (h : w.heap[b]? = some (.cells cs el fr)) (hf : fr.1 = fr.2) : w.frozen? ⟨b, off, none⟩ = false := by
  obtain ⟨lo, hi⟩ := fr
  simp only at hf
  subst hf
  simp only [World.frozen?, h, Bool.and_eq_false_iff, decide_eq_false_iff_not]
  omega
theorem stringish_unmarked {b off : Nat} {cs : Array Value} {el : TypeId} {fr : Nat × Nat} (h : w.heap[b]? = some (.cells cs el fr)) (hf : fr.1 = fr.2) : (stringish ⟨b, off, none⟩).run P w = .ok false w := by
  have hsh : w.shape? b = some (el, cs.size) := by simp [World.shape?, h]
  simp [stringish, frozen_unmarked h hf, hsh]
theorem viewAt_row {b : Nat} {cs : Array Value} {el : TypeId} {fr : Nat × Nat} (h : w.heap[b]? = some (.cells cs el fr)) : (viewAt b).run P w = .ok none w := by
  have hsh : w.shape? b = some (el, cs.size) := by simp [World.shape?, h]
  simp [viewAt, hsh]
theorem ptrEq_ok {t : TypeId} {u v U V : Value} {b : Bool} {h : T HO} (e : ptrEq P (P.underlying t) u v h = some b) (hu : Rl ρ ε u U) (hv : Rl ρ ε v V) (hm : Mod P ρ ε base w (tget h)) (x y : Operand) :
    (do eqGuard .eql t x y U V; binOp .eql t U V : Sem Value).run P w = .ok (.bool b) w ∧ (do eqGuard .neq t x y U V; binOp .neq t U V : Sem Value).run P w = .ok (.bool (!b)) w := by
  unfold ptrEq at e
  split at e
  case h_2 => cases e
  rename_i el i ox j oy hd
  split at e
  case h_2 => cases e
  rename_i sz hsz
  obtain ⟨bi, hbi, rfl⟩ := Rl_ptr.1 hu
  obtain ⟨bj, hbj, rfl⟩ := Rl_ptr.1 hv
  have key : (sameAddr ⟨bi.1, ox, none⟩ ⟨bj.1, oy, none⟩).run P w = .ok b w := by
    cases hij : Nat.beq i j <;> simp only [hij, cond_true, cond_false] at e
    · split at e
      case h_2 => cases e
      rename_i o q ho hq
      cases hc : (Nat.beq o.kind 0 && Nat.beq q.kind 0 && !o.mkd && !q.mkd && !o.ro && !q.ro) <;> simp only [hc, cond_true, cond_false] at e
      · cases e
      cases e
      simp only [Bool.and_eq_true, Bool.not_eq_true'] at hc
      obtain ⟨⟨⟨⟨⟨c1, c2⟩, c3⟩, c4⟩, c5⟩, c6⟩ := hc
      have r1 : o.asRow = some o.cells := by simp [HO.asRow, c1]
      have r2 : q.asRow = some q.cells := by simp [HO.asRow, c2]
      obtain ⟨b1, CS1, tl1, el1, fr1, g1, -, g3, -, -, -, -, g8, -, -⟩ := hm.row ho r1
      obtain ⟨b2, CS2, tl2, el2, fr2, k1, -, k3, -, -, -, -, k8, -, -⟩ := hm.row hq r2
      rw [hbi] at g1; cases g1
      rw [hbj] at k1; cases k1
      have f1 := (g8 c5).2.2 c3
      have f2 := (k8 c6).2.2 c4
      have hne : bi.1 ≠ bj.1 := fun hbb => ne_of_beq hij (hm.inj i j o q bi bj ho hq (.inl c5) hbi hbj hbb)
      have s1 := stringish_unmarked (P := P) (off := ox) g3 f1
      have s2 := stringish_unmarked (P := P) (off := oy) k3 f2
      simp [sameAddr, hne, frozen_unmarked g3 f1, noView, viewAt_row (P := P) g3, viewAt_row (P := P) k3, mayBeOne, s1, s2]
    · have := Nat.eq_of_beq_eq_true hij
      subst this
      rw [hbi] at hbj; cases hbj
      cases e
      have : ((⟨bi.1, ox, none⟩ : Addr) == ⟨bi.1, oy, none⟩) = Nat.beq ox oy := by
        by_cases hxy : ox = oy
        · subst hxy; simp
        · rw [show Nat.beq ox oy = false from by cases hb : Nat.beq ox oy with | false => rfl | true => exact absurd (Nat.eq_of_beq_eq_true hb) hxy]
          simp [hxy]
      simp [sameAddr, this]
  have := eq_of (P := P) (w := w) (t := t) (b := b) (U := .pointer (some ⟨bi.1, ox, none⟩)) (V := .pointer (some ⟨bj.1, oy, none⟩)) (fun d => by simp [Op.equalIn, run_under hd, run_sizeA hsz, key]) (fun _ _ => .inl (by simp)) (by simp) x y rfl rfl rfl rfl
  exact this
/-! ### Structs and arrays of integers -/
theorem all_rangeX : ∀ (xs ys : List Int), xs.length = ys.length → ((List.range xs.length).all fun i => xs.getD i 0 == ys.getD i 0) = (xs == ys)
  | [], [], _ => rfl
  | x :: xs, y :: ys, h => by
    have ih := all_rangeX xs ys (by simpa using h)
    rw [List.length_cons, List.range_succ_eq_map, List.all_cons, List.all_map]
    simp only [List.getD_cons_zero, Function.comp_def, List.getD_cons_succ, ih]
    simp [List.cons_beq_cons]
  | [], _ :: _, h => by simp at h
  | _ :: _, [], h => by simp at h
theorem equalIn_intsX (k : IntKind) (d : Nat) (t e : TypeId) (n : Nat) (ht : P.underlying t = some (.array n e)) (he : P.underlying e = some (.int k)) (hsz : ∀ w, (sizeOf e).run P w = .ok 1 w)
    (xs ys : List Int) (hx : xs.length = n) (hy : ys.length = n) (w : World) :
    (Op.equalIn (d + 2) t (.agg (xs.map (Value.int k)).toArray) (.agg (ys.map (Value.int k)).toArray)).run P w = .ok (xs == ys) w := by
  rw [← all_rangeX xs ys (hx.trans hy.symm), hx, List.range_eq_range', Op.equalIn]
  simp only [Sem.run_bind, run_under ht, Result.andThen_ok, hsz, Std.Legacy.Range.forIn_eq_forIn_range', Std.Legacy.Range.size, Nat.sub_zero, Nat.add_sub_cancel, Nat.div_one]
  have hl : ∀ i ∈ List.range' 0 n 1, i < n := fun i hi => by simpa using (List.mem_range'_1.1 hi).2
  generalize List.range' 0 n 1 = l at hl ⊢
  induction l with
  | nil => simp
  | cons i l ih =>
    have hi : i < n := hl i (by simp)
    have px : (part e (xs.map (Value.int k)).toArray (i * 1)).run P w = .ok (.int k (xs.getD i 0)) w := by
      simp [part, isAgg, run_under he, List.getD, List.getElem?_eq_getElem (show i < xs.length by omega)]
    have py : (part e (ys.map (Value.int k)).toArray (i * 1)).run P w = .ok (.int k (ys.getD i 0)) w := by
      simp [part, isAgg, run_under he, List.getD, List.getElem?_eq_getElem (show i < ys.length by omega)]
    have pe : (Op.equalIn (d + 1) e (.int k (xs.getD i 0)) (.int k (ys.getD i 0))).run P w = .ok (xs.getD i 0 == ys.getD i 0) w := run_equalIn_int w d e k k _ _ he
    simp only [List.forIn_cons, Sem.run_bind, px, py, pe, Result.andThen_ok, List.all_cons]
    cases hb : (xs.getD i 0 == ys.getD i 0)
    · simp
    · simp only [Bool.not_true, Bool.false_eq_true, if_false, Sem.run_pure, Result.andThen_ok, Bool.true_and]
      exact ih fun j hj => hl j (by simp [hj])
theorem intsK_eq {k : IntKind} : ∀ {l : List Value} {m : List Int}, intsK k l = some m → l = m.map (Value.int k)
  | [], m, h => by cases h; rfl
  | .int k' n :: r, m, h => by
    simp only [intsK] at h
    cases hk : decide (k = k') <;> simp only [hk, cond_true, cond_false] at h
    · cases h
    obtain rfl : k = k' := of_decide_eq_true hk
    split at h
    · rename_i m' hm
      cases h
      rw [intsK_eq hm]; rfl
    · cases h
/-- A part of a struct, as a value. -/
noncomputable def partV (P : Program) (t : TypeId) (l : List Value) : Value := match P.underlying t with
  | some (.array _ _) => .agg l.toArray
  | _ => l.headD undef
theorem leaf_run {t : TypeId} {xs ys : List Value} {b : Bool} (h : leafEq P t xs ys = some b) (d : Nat) (w : World) : (Op.equalIn (d + 2) t (partV P t xs) (partV P t ys)).run P w = .ok b w := by
  unfold leafEq at h
  split at h
  · rename_i k hu
    split at h
    · rename_i k1 a k2 c
      cases hk : decide (k1 = k2) <;> simp only [hk, cond_true, cond_false] at h
      · cases h
      obtain rfl : k1 = k2 := of_decide_eq_true hk
      cases h
      simp only [partV, hu, List.headD_cons]
      exact run_equalIn_int w (d + 1) t k1 k a c hu
    · cases h
  · rename_i hu
    split at h
    · rename_i a c
      cases h
      simp only [partV, hu, List.headD_cons]
      exact run_equalIn_bool' w (d + 1) t a c hu
    · cases h
  · rename_i n e hu
    split at h
    · rename_i k s hk hs
      split at h
      · rename_i as bs h1 h2
        cases hc : (Nat.beq s 1 && Nat.beq as.length n && Nat.beq bs.length n) <;> simp only [hc, cond_true, cond_false] at h
        · cases h
        cases h
        simp only [Bool.and_eq_true] at hc
        obtain ⟨⟨c1, c2⟩, c3⟩ := hc
        obtain rfl := Nat.eq_of_beq_eq_true c1
        simp only [partV, hu]
        rw [intsK_eq h1, intsK_eq h2]
        exact equalIn_intsX k d t e n hu hk (fun w => run_sizeA hs w) as bs (Nat.eq_of_beq_eq_true c2) (Nat.eq_of_beq_eq_true c3) w
      · cases h
    · cases h
  · cases h
theorem extract_take (xs : Array Value) (a s : Nat) : xs.extract a (a + s) = ((xs.toList.drop a).take s).toArray := by
  apply Array.ext'
  simp [Array.toList_extract, List.extract_eq_take_drop]
theorem part_run {t : TypeId} {s off : Nat} {xs : Array Value} {ys : List Value} {b : Bool} (hs : sizeA P t = some s) (w : World) (h : leafEq P t ((xs.toList.drop off).take s) ys = some b ∨ leafEq P t ys ((xs.toList.drop off).take s) = some b) :
    (part t xs off).run P w = .ok (partV P t ((xs.toList.drop off).take s)) w := by
  have one : ∀ v : Value, (xs.toList.drop off).take s = [v] → xs[off]? = some v := by
    intro v hv
    have h0 : ((xs.toList.drop off).take s)[0]? = some v := by rw [hv]; rfl
    rw [List.getElem?_take] at h0
    split at h0
    · rw [List.getElem?_drop, Nat.add_zero, Array.getElem?_toList] at h0; exact h0
    · cases h0
  have key : ∀ d, P.underlying t = some d → (∃ k, d = .int k) ∨ d = .bool → ∀ v, (xs.toList.drop off).take s = [v] → (part t xs off).run P w = .ok (partV P t ((xs.toList.drop off).take s)) w := by
    intro d hd hk v hv
    rw [hv]
    rcases hk with ⟨k, rfl⟩ | rfl <;> simp [part, isAgg, run_under hd, one v hv, partV, hd]
  have arr : ∀ n e, P.underlying t = some (.array n e) → (part t xs off).run P w = .ok (partV P t ((xs.toList.drop off).take s)) w := by
    intro n e hd
    simp [part, isAgg, run_under hd, run_sizeA hs, partV, hd, extract_take]
  rcases h with h | h
  · unfold leafEq at h
    split at h
    · rename_i k hu
      split at h
      · exact key _ hu (.inl ⟨_, rfl⟩) _ (by assumption)
      · cases h
    · rename_i hu
      split at h
      · exact key _ hu (.inr rfl) _ (by assumption)
      · cases h
    · rename_i n e hu
      exact arr n e hu
    · cases h
  · unfold leafEq at h
    split at h
    · rename_i k hu
      split at h
      · exact key _ hu (.inl ⟨_, rfl⟩) _ (by assumption)
      · cases h
    · rename_i hu
      split at h
      · exact key _ hu (.inr rfl) _ (by assumption)
      · cases h
    · rename_i n e hu
      exact arr n e hu
    · cases h
theorem fields_run {xs ys : Array Value} (d : Nat) (w : World) : ∀ {fs : List Field} {b : Bool}, fieldsEq P xs.toList ys.toList fs = some b → (Op.eqFields (d + 2) xs ys fs).run P w = .ok b w
  | [], b, h => by cases h; rfl
  | f :: fs, b, h => by
    simp only [fieldsEq] at h
    cases hn : (f.name == "_") <;> simp only [hn, cond_true, cond_false] at h
    case true => cases h
    have hn' : f.name ≠ "_" := by simpa using hn
    split at h
    · rename_i s hs
      split at h
      · rename_i c c' h1 h2
        cases h
        have ih := fields_run d w h2
        simp only [Op.eqFields, if_pos hn', Sem.run_bind, part_run hs w (.inl h1), part_run hs w (.inr h1), Result.andThen_ok, leaf_run h1 d w]
        cases c
        · simp
        · simp [ih]
      · cases h
    · cases h
theorem aggEq_ok {t : TypeId} {u v U V : Value} {b : Bool} (e : aggEq P t u v = some b) (hu : Rl ρ ε u U) (hv : Rl ρ ε v V) (x y : Operand) :
    (do eqGuard .eql t x y U V; binOp .eql t U V : Sem Value).run P w = .ok (.bool b) w ∧ (do eqGuard .neq t x y U V; binOp .neq t U V : Sem Value).run P w = .ok (.bool (!b)) w := by
  unfold aggEq at e
  split at e
  case h_2 => cases e
  rename_i xs ys
  cases hg : (P.eqGuardType P.depth t || !closed DC (.agg xs) || !closed DC (.agg ys)) <;> simp only [hg, cond_true, cond_false] at e
  case true => cases e
  simp only [Bool.or_eq_false_iff, Bool.not_eq_false'] at hg
  obtain ⟨⟨g1, g2⟩, g3⟩ := hg
  have e1 : U = .agg xs := hu.det (Rl_closed g2)
  have e2 : V = .agg ys := hv.det (Rl_closed g3)
  subst e1 e2
  have hrun : (Op.equalIn 10000 t (.agg xs) (.agg ys)).run P w = .ok b w := by
    split at e
    · rename_i fs hfs
      cases hh : P.stoodInHeld t <;> simp only [hh, cond_true, cond_false] at e
      case true => cases e
      have hf : P.fieldsOf t = fs := by simp [Program.fieldsOf, hfs]
      rw [run_equalIn_struct w 9999 t xs ys (by rw [hf]; exact hfs) hh, hf]
      exact fields_run 9997 w e
    · rename_i n el hfs
      have := leaf_run e 9998 w
      simp only [partV, hfs] at this
      exact this
    · cases e
  constructor
  · rw [Sem.run_bind, run_eqGuard_agg w .eql t x y xs ys g1, Result.andThen_ok, run_eql_struct, hrun]; rfl
  · rw [Sem.run_bind, run_eqGuard_agg w .neq t x y xs ys g1, Result.andThen_ok, run_neq_struct, hrun]; rfl
theorem sameA_ok {t : TypeId} {u v U V : Value} {b : Bool} {h : T HO} (e : sameA P t u v h = some b) (hu : Rl ρ ε u U) (hv : Rl ρ ε v V) (hm : Mod P ρ ε base w (tget h)) (x y : Operand) :
    (do eqGuard .eql t x y U V; binOp .eql t U V : Sem Value).run P w = .ok (.bool b) w ∧ (do eqGuard .neq t x y U V; binOp .neq t U V : Sem Value).run P w = .ok (.bool (!b)) w := by
  unfold sameA at e
  split at e
  · rename_i c hc
    cases e
    exact nilEq_ok hc hu hv x y w
  · split at e
    · rename_i c hc
      cases e
      exact ptrEq_ok hc hu hv hm x y
    · exact aggEq_ok e hu hv x y

/-- The operands that the reckoner knows stand for those of the frame. -/
def EvR (ρ : Rho) (ε : Nat → Option Value) (o : Oper) (ev : Operand → Option Value) (e : Operand → Value) : Prop := ∀ x ∈ o.op.operands, ∀ v, ev x = some v → Rl ρ ε v (e x)
theorem optL_ev {ev : Operand → Option Value} {e : Operand → Value} : ∀ {l : List Operand} {vs : List Value}, (∀ x ∈ l, ∀ v, ev x = some v → Rl ρ ε v (e x)) → optL ev l = some vs → RlL ρ ε vs (l.map e)
  | [], vs, _, h => by simp [optL_nil, optL_cons] at h; subst h; trivial
  | x :: r, vs, hx, h => by
    simp only [optL_nil, optL_cons] at h
    split at h
    · cases h
    rename_i v hv
    split at h
    · cases h
    rename_i l hl
    simp only [Option.some.injEq] at h
    subst h
    exact ⟨hx x (by simp) v hv, optL_ev (fun y hy => hx y (by simp [hy])) hl⟩
theorem plain_ok {o : Oper} {ev : Operand → Option Value} {e : Operand → Value} {v : Value} (h : plainA P ev o = some v) (hev : EvR ρ ε o ev e) (w : World) : (execOp e o).run P w = .ok (.value v) w ∧ Rl ρ ε v v := by
  unfold plainA at h
  cases hc : o.op.operands.toList.all (closedEv ev) <;> simp only [hc, cond_true, cond_false] at h
  · cases h
  have hns : ∀ cs b, o.op ≠ .select cs b := by
    intro cs b hs
    rw [hs] at h
    cases h
  split at h
  · cases h
  split at h
  · rename_i u hu
    cases hcl : closed DC u <;> simp only [hcl, cond_true, cond_false] at h
    · cases h
    cases h
    have hcongr : execOp e o = execOp (fun x => (ev x).getD undef) o := execOp_congr o hns fun x hx => by
      have := List.all_eq_true.1 hc x (by simpa using hx)
      unfold closedEv at this
      cases hv : ev x with
      | none => simp [hv] at this
      | some v =>
        simp only [hv] at this
        have h1 := hev x hx v hv
        rw [h1.det (Rl_closed this)]
        rfl
    rw [hcongr]
    exact ⟨pureEval_run _ _ w hu, Rl_closed hcl⟩
  · cases h

theorem toList_eq {α : Type} {a : Array α} {l : List α} (h : a.toList = l) : a = l.toArray := by rw [← h]
/-- An operation that the reckoner knows by itself. -/
theorem spec_ok (hε : ∀ i V, ε i = some V → one V = true) {o : Oper} {ev : Operand → Option Value} {e : Operand → Value} {h : T HO} {n : Nat} {r : Out} (hr : specA P o ev h n = some r) (hev : EvR ρ ε o ev e) (hm : Mod P ρ ε base w (tget h)) (hf : ∀ id, n ≤ id → id < r.next → ρ id = none) (hb : base.n ≤ w.heap.size) :
    ∃ V w', Runs P e o w V w' ∧ Good P ε base ρ w h n r V w' := by
  obtain ⟨dst, op, type, pos, after, guard⟩ := o
  unfold EvR at hev
  unfold specA at hr
  unfold Runs execOp
  simp only at hr hev ⊢
  split at hr
  · -- move
    obtain ⟨u, hu, rfl⟩ := valOut_eq hr
    exact ⟨_, w, .inl (by simp), Good.val hm (hev _ (by simp [Op.operands]) u hu)⟩
  · -- assign
    obtain ⟨u, hu, rfl⟩ := valOut_eq hr
    exact ⟨_, w, .inl (by simp), Good.val hm (hev _ (by simp [Op.operands]) u hu)⟩
  · -- pick
    rename_i c a b
    split at hr
    case h_2 => cases hr
    rename_i t hc
    obtain ⟨u, hu, rfl⟩ := valOut_eq hr
    have hcv := Rl_bool.1 (hev c (by simp [Op.operands]) _ hc)
    cases t
    · exact ⟨e b, w, .inl (by simp [hcv, asBool]), Good.val hm (hev b (by simp [Op.operands]) u hu)⟩
    · exact ⟨e a, w, .inl (by simp [hcv, asBool]), Good.val hm (hev a (by simp [Op.operands]) u hu)⟩
  · -- alloc
    obtain ⟨V, w', h1, h2⟩ := alloc_ok hε hr hm hf hb
    exact ⟨V, w', .inl (by simp [h1]), h2⟩
  · -- box
    rename_i elem x
    split at hr
    case h_2 => cases hr
    rename_i v hv
    obtain ⟨V, w', h1, h2⟩ := box_ok hε hr (hev x (by simp [Op.operands]) v hv) hm hf hb
    exact ⟨V, w', .inl (by simp [h1]), h2⟩
  · -- build
    rename_i t parts
    split at hr
    case h_2 => cases hr
    rename_i ps hps
    obtain ⟨u, hu, rfl⟩ := valOut_eq hr
    have hpsR : ∀ (l : List (Nat × Operand)) (ps : List (Nat × Value)), (∀ p ∈ l, ∀ v, ev p.2 = some v → Rl ρ ε v (e p.2)) → optL (fun p => match ev p.2 with | some v => some (p.1, v) | none => none) l = some ps → PsR ρ ε ps (l.map fun p => (p.1, e p.2)) := by
      intro l
      induction l with
      | nil => intro ps _ h; simp [optL_nil, optL_cons] at h; subst h; trivial
      | cons p r ih =>
        intro ps hp h
        simp only [optL_nil, optL_cons] at h
        split at h
        · cases h
        rename_i q hq
        split at hq
        · rename_i v hv
          cases hq
          split at h
          · cases h
          rename_i l' hl'
          cases h
          exact ⟨rfl, hp p (by simp) v hv, ih l' (fun y hy => hp y (by simp [hy])) hl'⟩
        · cases hq
    have := hpsR parts.toList ps (fun p hp v hv => hev p.2 (by simp [Op.operands]; exact ⟨p.1, by simpa using hp⟩) v hv) hps
    obtain ⟨V, h1, h2⟩ := build_ok (PS := parts.map fun p => (p.1, e p.2)) hε hu (by simpa using this) w
    exact ⟨V, w, .inl (by simp [h1]), Good.val hm h2⟩
  · -- buildSlice
    rename_i t len parts
    split at hr
    case h_2 => cases hr
    rename_i ps hps
    have hpsR : ∀ (l : List (Nat × Operand)) (ps : List (Nat × Value)), (∀ p ∈ l, ∀ v, ev p.2 = some v → Rl ρ ε v (e p.2)) → optL (fun p => match ev p.2 with | some v => some (p.1, v) | none => none) l = some ps → PsR ρ ε ps (l.map fun p => (p.1, e p.2)) := by
      intro l
      induction l with
      | nil => intro ps _ h; simp [optL_nil, optL_cons] at h; subst h; trivial
      | cons p r ih =>
        intro ps hp h
        simp only [optL_nil, optL_cons] at h
        split at h
        · cases h
        rename_i q hq
        split at hq
        · rename_i v hv
          cases hq
          split at h
          · cases h
          rename_i l' hl'
          cases h
          exact ⟨rfl, hp p (by simp) v hv, ih l' (fun y hy => hp y (by simp [hy])) hl'⟩
        · cases hq
    have := hpsR parts.toList ps (fun p hp v hv => hev p.2 (by simp [Op.operands]; exact ⟨p.1, by simpa using hp⟩) v hv) hps
    obtain ⟨V, w', h1, h2⟩ := buildSlice_ok (PS := parts.map fun p => (p.1, e p.2)) hε hr (by simpa using this) hm hf hb
    exact ⟨V, w', .inl (by simp [h1]), h2⟩
  · -- load
    rename_i t a
    split at hr
    case h_2 => cases hr
    rename_i v hv
    obtain ⟨u, hu, rfl⟩ := valOut_eq hr
    obtain ⟨V, h1, h2⟩ := load_ok hu (hev a (by simp [Op.operands]) v hv) hm
    exact ⟨V, w, .inl (by simp [h1]), Good.val hm h2⟩
  · -- store
    rename_i t a x
    split at hr
    case h_2 => cases hr
    rename_i u v hu hv
    obtain ⟨w', h1, h2⟩ := store_ok hε hr (hev a (by simp [Op.operands]) u hu) (hev x (by simp [Op.operands]) v hv) hm
    exact ⟨undef, w', .inr ⟨by simp [h1], rfl⟩, h2⟩
  · -- nilCheck
    rename_i x
    split at hr
    case h_2 => cases hr
    rename_i v hv
    obtain ⟨u, hu, rfl⟩ := valOut_eq hr
    obtain ⟨a, h1, h2⟩ := nilCheck_ok hu (hev x (by simp [Op.operands]) v hv)
    exact ⟨e x, w, .inl (by simp [h1]), Good.val hm h2⟩
  · -- fieldAddr
    rename_i s x f
    split at hr
    case h_2 => cases hr
    rename_i v hv
    obtain ⟨u, hu, rfl⟩ := valOut_eq hr
    obtain ⟨V, h1, h2⟩ := fieldAddr_ok hu (hev x (by simp [Op.operands]) v hv) w
    exact ⟨V, w, .inl (by simp [h1]), Good.val hm h2⟩
  · -- field
    rename_i s x f
    split at hr
    case h_2 => cases hr
    rename_i v hv
    obtain ⟨u, hu, rfl⟩ := valOut_eq hr
    obtain ⟨V, h1, h2⟩ := field_ok hu (hev x (by simp [Op.operands]) v hv) w
    exact ⟨V, w, .inl (by simp [h1]), Good.val hm h2⟩
  · -- indexAddr
    rename_i t x i
    split at hr
    case h_2 => cases hr
    rename_i a v ha hv
    obtain ⟨u, hu, rfl⟩ := valOut_eq hr
    obtain ⟨V, h1, h2⟩ := indexAddr_ok hu (hev x (by simp [Op.operands]) a ha) (hev i (by simp [Op.operands]) v hv) w
    exact ⟨V, w, .inl (by simp [h1]), Good.val hm h2⟩
  · -- index
    rename_i t x i
    split at hr
    case h_2 => cases hr
    rename_i a v ha hv
    obtain ⟨u, hu, rfl⟩ := valOut_eq hr
    obtain ⟨V, h1, h2⟩ := index_ok hu (hev x (by simp [Op.operands]) a ha) (hev i (by simp [Op.operands]) v hv) w
    exact ⟨V, w, .inl (by simp [h1]), Good.val hm h2⟩
  · -- sliceToArrayPointer
    rename_i t x
    split at hr
    case h_2 => cases hr
    rename_i v hv
    obtain ⟨u, hu, rfl⟩ := valOut_eq hr
    obtain ⟨V, h1, h2⟩ := arrPtr_ok hu (hev x (by simp [Op.operands]) v hv) w
    exact ⟨V, w, .inl (by simp [h1]), Good.val hm h2⟩
  · -- extract
    rename_i x i
    split at hr
    case h_2 => cases hr
    rename_i v hv
    obtain ⟨u, hu, rfl⟩ := valOut_eq hr
    obtain ⟨V, h1, h2⟩ := extract_ok (P := P) hu (hev x (by simp [Op.operands]) v hv) w
    exact ⟨V, w, .inl (by simp [h1]), Good.val hm h2⟩
  · -- makeMap
    refine ⟨.map (some w.heap.size), w.alloc (.map #[] 0), .inl (by simp [Instr.makeMap]), Good.new (c := 0) hr hm hf hb ?_ (Rl_map.2 ⟨_, by simp [upR]; rfl, rfl⟩)⟩
    unfold ObjR
    rw [if_neg (by simp [mapO]), if_pos (by simp [mapO])]
    exact ⟨[], rfl, trivial⟩
  · -- makeSlice
    rename_i t l c
    split at hr
    case h_2 => cases hr
    rename_i a v ha hv
    obtain ⟨V, w', h1, h2⟩ := makeSlice_ok hε hr (hev l (by simp [Op.operands]) a ha) (hev c (by simp [Op.operands]) v hv) hm hf hb
    exact ⟨V, w', .inl (by simp [h1]), h2⟩
  · -- slice
    rename_i t x lo hi mx
    split at hr
    case h_2 => cases hr
    rename_i v l hh m hv hl hhh hm'
    cases hmh : (mx.isNone || hi.isSome) <;> simp only [hmh, cond_true, cond_false] at hr
    · cases hr
    obtain ⟨u, hu, rfl⟩ := valOut_eq hr
    have hopt : ∀ (z : Option Operand) (r : List Value), (∀ x ∈ z.toList, ∀ v, ev x = some v → Rl ρ ε v (e x)) → optL ev z.toList = some r → OptR ρ ε r.head? (z.map e) ∧ (r.head?.isSome = z.isSome) := by
      intro z r hz h
      cases z with
      | none => simp [optL_nil, optL_cons] at h; subst h; exact ⟨trivial, rfl⟩
      | some x =>
        simp only [Option.toList_some, optL_nil, optL_cons] at h
        split at h
        · cases h
        rename_i v hv
        cases h
        exact ⟨hz x (by simp) v hv, rfl⟩
    obtain ⟨o1, _⟩ := hopt lo l (fun x hx v hv => hev x (by simp [Op.operands]; simp at hx; simp [hx]) v hv) hl
    obtain ⟨o2, p2⟩ := hopt hi hh (fun x hx v hv => hev x (by simp [Op.operands]; simp at hx; simp [hx]) v hv) hhh
    obtain ⟨o3, p3⟩ := hopt mx m (fun x hx v hv => hev x (by simp [Op.operands]; simp at hx; simp [hx]) v hv) hm'
    have hmh' : m.head?.isSome = true → hh.head?.isSome = true := by
      rw [p2, p3]
      intro hsm
      cases mx with
      | none => cases hsm
      | some _ => simpa using hmh
    obtain ⟨V, h1, h2⟩ := slice_ok hu (hev x (by simp [Op.operands]) v hv) o1 o2 o3 hmh' hm
    exact ⟨V, w, .inl (by simp [h1]), Good.val hm h2⟩
  · -- lookup
    rename_i t x k ok
    split at hr
    case h_2 => cases hr
    rename_i a b ha hb'
    obtain ⟨u, hu, rfl⟩ := valOut_eq hr
    obtain ⟨V, h1, h2⟩ := lookup_ok hu (hev x (by simp [Op.operands]) a ha) (hev k (by simp [Op.operands]) b hb') hm
    exact ⟨V, w, .inl (by simp [h1]), Good.val hm h2⟩
  · -- mapUpdate
    rename_i t x k v
    split at hr
    case h_2 => cases hr
    rename_i a b c ha hb' hc
    obtain ⟨w', h1, h2⟩ := mapUpdate_ok hr (hev x (by simp [Op.operands]) a ha) (hev k (by simp [Op.operands]) b hb') (hev v (by simp [Op.operands]) c hc) hm
    exact ⟨undef, w', .inr ⟨by simp [h1], rfl⟩, h2⟩
  · -- mapEntry
    rename_i t m k
    split at hr
    case h_2 => cases hr
    rename_i a b ha hb'
    obtain ⟨V, w', h1, h2⟩ := mapEntry_ok hr (hev m (by simp [Op.operands]) a ha) (hev k (by simp [Op.operands]) b hb') hm
    exact ⟨V, w', .inl (by simp [h1]), h2⟩
  · -- entryStore
    rename_i t m s x
    split at hr
    case h_2 => cases hr
    rename_i a b c ha hb' hc
    obtain ⟨w', h1, h2⟩ := entryStore_ok (t := t) hr (hev m (by simp [Op.operands]) a ha) (hev s (by simp [Op.operands]) b hb') (hev x (by simp [Op.operands]) c hc) hm
    exact ⟨undef, w', .inr ⟨by simp [h1], rfl⟩, h2⟩
  · -- range
    rename_i t x
    split at hr
    case h_2 => cases hr
    rename_i v hv
    obtain ⟨V, w', h1, h2⟩ := range_ok hr (hev x (by simp [Op.operands]) v hv) hm hf hb
    exact ⟨V, w', .inl (by simp [h1]), h2⟩
  · -- next
    rename_i it
    split at hr
    case h_2 => cases hr
    rename_i v hv
    obtain ⟨V, w', h1, h2⟩ := next_ok (ty := type) hr (hev it (by simp [Op.operands]) v hv) hm
    exact ⟨V, w', .inl (by simp [h1]), h2⟩
  · -- entry
    rename_i it
    split at hr
    case h_2 => cases hr
    rename_i v hv
    obtain ⟨u, hu, rfl⟩ := valOut_eq hr
    obtain ⟨V, h1, h2⟩ := entry_ok hu (hev it (by simp [Op.operands]) v hv) hm
    exact ⟨V, w, .inl (by simp [h1]), Good.val hm h2⟩
  · -- makeInterface
    rename_i t x
    split at hr
    · cases hr
    · rename_i v d hnot hv hd
      obtain ⟨u, hu, rfl⟩ := valOut_eq hr
      simp only [Option.some.injEq] at hu
      subst hu
      refine ⟨.iface t (e x), w, .inl ?_, Good.val hm (Rl_iface.2 ⟨_, rfl, hev x (by simp [Op.operands]) v hv⟩)⟩
      have : (Instr.makeInterface t (e x)).run P w = .ok (.iface t (e x)) w := by
        simp only [Instr.makeInterface, Sem.run_bind, run_under hd, Result.andThen_ok]
        rfl
      simp [this]
    · cases hr
  · -- makeFunc
    rename_i fn a b
    split at hr
    case h_2 => cases hr
    rename_i u v hu hv
    obtain ⟨z, hz, rfl⟩ := valOut_eq hr
    simp only [Option.some.injEq] at hz
    subst hz
    have r1 := optL_ev (e := e) (fun x hx v hv => hev x (by simp [Op.operands]; left; simpa using hx) v hv) hu
    have r2 := optL_ev (e := e) (fun x hx v hv => hev x (by simp [Op.operands]; right; simpa using hx) v hv) hv
    refine ⟨.func fn (a.map e) (b.map e), w, .inl (by simp [Instr.makeFunc]), Good.val hm (Rl_func.2 ⟨a.toList.map e, b.toList.map e, ?_, by simpa using r1, by simpa using r2⟩)⟩
    congr 1 <;> (apply Array.ext'; simp)
  · -- binOp
    rename_i op t x y t'
    split at hr
    case h_2 => cases hr
    rename_i u v hu hv
    have hU := hev x (by simp [Op.operands]) u hu
    have hV := hev y (by simp [Op.operands]) v hv
    split at hr
    · rename_i z hz
      obtain ⟨z', hz', rfl⟩ := valOut_eq hr
      simp only [Option.some.injEq] at hz'
      subst hz'
      obtain ⟨h1, h2⟩ := intBin_ok hz hU hV x y w
      exact ⟨_, w, .inl (by rw [Sem.run_bind, h1]; rfl), Good.val hm h2⟩
    · split at hr
      · split at hr
        case h_2 => cases hr
        rename_i b hb'
        obtain ⟨z, hz, rfl⟩ := valOut_eq hr
        simp only [Option.some.injEq] at hz
        subst hz
        have := (sameA_ok hb' hU hV hm x y).1
        exact ⟨.bool b, w, .inl (by rw [Sem.run_bind, this]; rfl), Good.val hm (Rl_bool.2 rfl)⟩
      · split at hr
        case h_2 => cases hr
        rename_i b hb'
        obtain ⟨z, hz, rfl⟩ := valOut_eq hr
        simp only [Option.some.injEq] at hz
        subst hz
        have := (sameA_ok hb' hU hV hm x y).2
        exact ⟨.bool (!b), w, .inl (by rw [Sem.run_bind, this]; rfl), Good.val hm (Rl_bool.2 rfl)⟩
      · cases hr
  · -- not
    rename_i t x
    split at hr
    case h_2 => cases hr
    rename_i b hb'
    obtain ⟨z, hz, rfl⟩ := valOut_eq hr
    simp only [Option.some.injEq] at hz
    subst hz
    have hX := Rl_bool.1 (hev x (by simp [Op.operands]) _ hb')
    exact ⟨.bool (!b), w, .inl (by simp [hX, Op.unary]), Good.val hm (Rl_bool.2 rfl)⟩
  · -- convert
    rename_i s d x
    split at hr
    · rename_i b el hv hs hd
      split at hr
      case h_2 => cases hr
      rename_i hel
      have hX := Rl_string.1 (hev x (by simp [Op.operands]) _ hv)
      obtain ⟨V, w', h1, h2⟩ := strToBytes_ok hr hm hf hb
      refine ⟨V, w', .inl ?_, h2⟩
      have hc : (convert s d (e x)).run P w = .ok V w' := by
        rw [hX]
        simp [convert, run_under hs, run_under hd, run_under hel, h1]
      simp [hc]
    · rename_i v el sl hv hs hd
      split at hr
      case h_2 => cases hr
      rename_i hel
      cases hsd : Nat.beq s d <;> simp only [hsd, cond_true, cond_false] at hr
      · cases hr
      have := Nat.eq_of_beq_eq_true hsd
      subst this
      rw [hs] at hd
      cases hd
      have hX := hev x (by simp [Op.operands]) _ hv
      obtain ⟨a, l, c, w', h0, h1, h2⟩ := mark_ok (P := P) hr hX hm
      refine ⟨e x, w', .inl ?_, ?_⟩
      · have hc : (convert s s (e x)).run P w = .ok (e x) w' := by
          rw [h0]
          simp [convert, run_under hs, run_under hel, h1]
        simp [hc]
      · exact h2
    · rename_i v el hv hs hd
      split at hr
      case h_2 => cases hr
      rename_i hel
      obtain ⟨u, hu, rfl⟩ := valOut_eq hr
      have hX := hev x (by simp [Op.operands]) _ hv
      obtain ⟨h1, h2⟩ := bytesToStr_ok (P := P) hu hX hm
      refine ⟨u, w, .inl ?_, Good.val hm h2⟩
      have hsl : ∃ a len c, e x = .slice a len c := by
        unfold bytesToStrA at hu
        split at hu
        · exact ⟨_, _, _, (Rl_self rfl).1 hX⟩
        · obtain ⟨A, C, h⟩ := Rl_slice_any hX; exact ⟨_, _, _, h⟩
        · cases hu
      obtain ⟨a, len, c, hsl⟩ := hsl
      have hc : (convert s d (e x)).run P w = .ok u w := by
        rw [hsl] at h1 ⊢
        rw [run_convert_bytes_string w s d el a len c hs hel hd]
        exact h1
      simp [hc]
    · cases hr
  · -- a builtin
    rename_i b args argTypes
    have hops : ∀ vs, optL ev args.toList = some vs → RlL ρ ε vs (args.toList.map e) := fun vs h => optL_ev (fun x hx v hv => hev x (by simp [Op.operands, Call.operands]; simpa using hx) v hv) h
    split at hr
    · -- len
      rename_i v t ts hvs hts
      have hR := hops _ hvs
      have hat : argTypes[0]? = some t := by rw [toList_eq hts]; rfl
      cases hA : args.toList.map e with
      | nil => rw [hA] at hR; exact hR.elim
      | cons X rest =>
        rw [hA] at hR
        obtain ⟨hX, hrest⟩ := hR
        cases rest with
        | cons _ _ => exact hrest.elim
        | nil =>
          have hargs : args.map e = #[X] := by apply Array.ext'; simp [hA]
          split at hr
          · rename_i el a len c hu
            obtain ⟨u, hv, rfl⟩ := valOut_eq hr
            simp only [lenA, Option.some.injEq] at hv
            subst hv
            have := len_slice (ty := type) hX hat hu w
            exact ⟨_, w, .inl (by simp [resolve, invoke, builtin, hargs, this]), Good.val hm (Rl_int.2 rfl)⟩
          · rename_i k el id hu
            obtain ⟨u, hv, rfl⟩ := valOut_eq hr
            simp only [lenA] at hv
            split at hv
            case h_2 => cases hv
            rename_i o ho
            split at hv
            case h_2 => cases hv
            rename_i es hes
            simp only [Option.some.injEq] at hv
            subst hv
            have := len_map (ty := type) hX ho hes hat hu hm
            exact ⟨_, w, .inl (by simp [resolve, invoke, builtin, hargs, this]), Good.val hm (Rl_int.2 rfl)⟩
          · cases hr
    · -- append
      rename_i u v t u' ts hvs hts
      have hR := hops _ hvs
      have hat : argTypes[0]? = some t := by rw [toList_eq hts]; rfl
      have hat1 : argTypes[1]? = some u' := by rw [toList_eq hts]; rfl
      cases hA : args.toList.map e with
      | nil => rw [hA] at hR; exact hR.elim
      | cons X rest =>
        rw [hA] at hR
        obtain ⟨hX, hrest⟩ := hR
        cases rest with
        | nil => exact hrest.elim
        | cons Y rest =>
          obtain ⟨hY, hrest⟩ := hrest
          cases rest with
          | cons _ _ => exact hrest.elim
          | nil =>
            have hargs : args.map e = #[X, Y] := by apply Array.ext'; simp [hA]
            split at hr
            · rename_i el ik hu hu'
              obtain ⟨V, w', h1, h2⟩ := appendZ_ok (ty := type) hε hr hX hY hat hat1 hu hu' hm hf hb
              exact ⟨V, w', .inl (by simp [resolve, invoke, builtin, hargs, h1]), h2⟩
            · rename_i el dd hnot hu hu'
              obtain ⟨V, w', h1, h2⟩ := append_ok (ty := type) hε hr hX hY hat hat1 hu hu' (fun k hk => hnot k hk) hm hf hb
              exact ⟨V, w', .inl (by simp [resolve, invoke, builtin, hargs, h1]), h2⟩
            · cases hr
    · -- cap
      rename_i v t ts hvs hts
      have hR := hops _ hvs
      have hat : argTypes[0]? = some t := by rw [toList_eq hts]; rfl
      cases hA : args.toList.map e with
      | nil => rw [hA] at hR; exact hR.elim
      | cons X rest =>
        rw [hA] at hR
        obtain ⟨hX, hrest⟩ := hR
        cases rest with
        | cons _ _ => exact hrest.elim
        | nil =>
          have hargs : args.map e = #[X] := by apply Array.ext'; simp [hA]
          split at hr
          case h_2 => cases hr
          rename_i el hu
          obtain ⟨u, hv, rfl⟩ := valOut_eq hr
          obtain ⟨h1, h2⟩ := cap_ok (ty := type) hv hX hat hu w
          exact ⟨_, w, .inl (by simp [resolve, invoke, builtin, hargs, h1]), Good.val hm h2⟩
    · -- copy
      rename_i u v t ts hvs hts
      have hR := hops _ hvs
      have hat : argTypes[0]? = some t := by rw [toList_eq hts]; rfl
      cases hA : args.toList.map e with
      | nil => rw [hA] at hR; exact hR.elim
      | cons X rest =>
        rw [hA] at hR
        obtain ⟨hX, hrest⟩ := hR
        cases rest with
        | nil => exact hrest.elim
        | cons Y rest =>
          obtain ⟨hY, hrest⟩ := hrest
          cases rest with
          | cons _ _ => exact hrest.elim
          | nil =>
            have hargs : args.map e = #[X, Y] := by apply Array.ext'; simp [hA]
            split at hr
            case h_2 => cases hr
            rename_i el hu
            obtain ⟨V, w', h1, h2⟩ := copy_ok (ty := type) hε hr hX hY hat hu hm
            exact ⟨V, w', .inl (by simp [resolve, invoke, builtin, hargs, h1]), h2⟩
    · -- clear
      rename_i u t ts hvs hts
      have hR := hops _ hvs
      have hat : argTypes[0]? = some t := by rw [toList_eq hts]; rfl
      cases hA : args.toList.map e with
      | nil => rw [hA] at hR; exact hR.elim
      | cons X rest =>
        rw [hA] at hR
        obtain ⟨hX, hrest⟩ := hR
        cases rest with
        | cons _ _ => exact hrest.elim
        | nil =>
          have hargs : args.map e = #[X] := by apply Array.ext'; simp [hA]
          split at hr
          case h_2 => cases hr
          rename_i el hu
          obtain ⟨V, w', h1, h2⟩ := clear_ok (ty := type) hε hr hX hat hu hm
          exact ⟨V, w', .inl (by simp [resolve, invoke, builtin, hargs, h1]), h2⟩
    · -- delete
      rename_i u v t ts hvs hts
      have hR := hops _ hvs
      have hat : argTypes[0]? = some t := by rw [toList_eq hts]; rfl
      cases hA : args.toList.map e with
      | nil => rw [hA] at hR; exact hR.elim
      | cons X rest =>
        rw [hA] at hR
        obtain ⟨hX, hrest⟩ := hR
        cases rest with
        | nil => exact hrest.elim
        | cons Y rest =>
          obtain ⟨hY, hrest⟩ := hrest
          cases rest with
          | cons _ _ => exact hrest.elim
          | nil =>
            have hargs : args.map e = #[X, Y] := by apply Array.ext'; simp [hA]
            obtain ⟨w', h1, h2⟩ := delete_ok (ty := type) hr hX hY hat hm
            exact ⟨undef, w', .inl (by simp [resolve, invoke, builtin, hargs, h1]), h2⟩
    · cases hr
  · cases hr
end
end Go.Proofs.YtefnfbidphmgoaaDoor.Ex
